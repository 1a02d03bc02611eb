/-
  The walk of the exact law of AdjacencyHello over this seat.
-/
import Derived.Test.YtnkohgdfipgdoaaJd
import Derived.Test.YtnkohgdfipgdoaaEi
namespace Go.Proofs.Ytnkohgdfipgdoaa
open Go.RowKit Go.Maps

theorem sli_grow {w w' : World} {A : Option Addr} {xs : List Int} (h : Sli w w.heap.size A xs) (hb : Below w.heap.size w w') : Sli w' w'.heap.size A xs := (h.below hb).more hb.size

set_option maxHeartbeats 1600000 in
theorem exactAdjHello_walk (s g me : Int) (A : Option Addr) (xs : List Int) (c : Nat) (w : World) (_hmax : xs.length ≤ maxLen) (hS : Sli w w.heap.size A xs) :
   Calls Try.prog 5 #[adjV s g, .int .i64 me, .slice A xs.length c] w fun e w' => e = .returned (.bool true) ∧ Below w.heap.size w w' := by
  have L0 := Lib.hid (AE.start w s g)
  have HS := Lib.hid hS
  clear hS
  by_cases hl : xs.length ≤ 1048576
  · have hli : ¬ (1048576 : Int) < (xs.length : Int) := by omega
    have CT := fun W => toAdj_any s g W
    have CX := fun W (h : Sli W W.heap.size A xs) => toIntS_any A xs c W (by omega) h
    have CI := fun B cb W (h : Sli W W.heap.size B xs) => hello_impl s g me B xs cb W (by omega) h
    have CS := fun B cb W (h : Sli W W.heap.size B xs) => hello_spec s g me B xs cb W (by omega) h
    have CE := fun W => eqAdj_same (helloA s g me xs).1 (helloA s g me xs).2 W
    have CQ := fun A1 A2 c1 c2 W (h1 : Sli W W.heap.size A1 xs) (h2 : Sli W W.heap.size A2 xs) => eqIntS_same A1 A2 xs c1 c2 W (by omega) h1 h2
    generalize helloA s g me xs = r at *
    generalize helloB s g me xs = ok at *
    obtain ⟨u, v⟩ := r
    go_enter Try.func5, Try.ntmps5
    go_wp2_with fail
    refine (CT _).mono ?_
    rintro e w1 ⟨rfl, hb1⟩
    have L1 := Lib.hid (L0.out.call hb1)
    clear hb1 L0
    go_wp2_with fail
    refine (CX _ ((HS.out.below L1.out.bel).more L1.out.bel.size)).mono ?_
    rintro e w2 ⟨g2, rfl, -, ha2, hb2⟩
    have L2 := Lib.hid (L1.out.call hb2)
    have X2 := Lib.hid (ha2.sli ha2.lt)
    clear ha2 hb2 L1
    go_wp2_with fail
    refine (CS _ _ _ X2.out).mono ?_
    rintro e w3 ⟨rfl, hb3⟩
    have L3 := Lib.hid (L2.out.call (hb3.alloc hb3.size (.cells #[.int .i64 u, .int .i64 v] 25)))
    have W3 := Lib.hid (Box.new w3 25 #[.int .i64 u, .int .i64 v])
    clear hb3 L2 X2
    go_wp2_with fail
    generalize w3.heap.size = X at *
    generalize w3.alloc (.cells #[.int .i64 u, .int .i64 v] 25) = V3 at *
    refine (CX _ ((HS.out.below L3.out.bel).more L3.out.bel.size)).mono ?_
    rintro e w4 ⟨g4, rfl, -, ha4, hb4⟩
    have L4 := Lib.hid (L3.out.call hb4)
    have W4 := Lib.hid (W3.out.below hb4 W3.out.lt)
    have X4 := Lib.hid (ha4.sli ha4.lt)
    clear ha4 hb4 L3 W3
    obtain ⟨zx, x0, x1, -, -⟩ := L4.out.box.two
    go_wp2_with fail
    refine (CT _).mono ?_
    rintro e w5 ⟨rfl, hb5⟩
    have L5 := Lib.hid (L4.out.call hb5)
    have W5 := Lib.hid (W4.out.below hb5 W4.out.lt)
    have X5 := Lib.hid (sli_grow X4.out hb5)
    clear hb5 L4 W4 X4 zx x0 x1
    go_wp2_with fail
    refine (CI _ _ _ X5.out).mono ?_
    rintro e w6 ⟨rfl, hb6⟩
    have hb7 := hb6.alloc hb6.size (.cells #[.int .i64 u, .int .i64 v] 25)
    have L6 := Lib.hid (L5.out.call hb7)
    have W6 := Lib.hid (W5.out.below hb7 W5.out.lt)
    have X6 := Lib.hid (sli_grow X5.out hb7)
    have G6 := Lib.hid (Box.new w6 25 #[.int .i64 u, .int .i64 v])
    clear hb6 hb7 L5 W5 X5
    obtain ⟨zy, y0, y1, -, -⟩ := W6.out.two
    have hbb : (ok != ok) = false := by cases ok <;> rfl
    go_wp2_with fail
    generalize w6.heap.size = Y at *
    generalize w6.alloc (.cells #[.int .i64 u, .int .i64 v] 25) = V6 at *
    refine (CE _).mono ?_
    rintro e w8 ⟨rfl, hb8⟩
    have L8 := Lib.hid (L6.out.call hb8)
    have X8 := Lib.hid (sli_grow X6.out hb8)
    clear hb8 L6 X6
    go_wp2_with fail
    refine (CX _ ((HS.out.below L8.out.bel).more L8.out.bel.size)).mono ?_
    rintro e w9 ⟨g9, rfl, -, ha9, hb9⟩
    have L9 := Lib.hid (L8.out.call hb9)
    have X9 := Lib.hid (sli_grow X8.out hb9)
    have Y9 := Lib.hid (ha9.sli ha9.lt)
    clear ha9 hb9 L8 X8
    go_wp2_with fail
    refine (CQ _ _ _ _ _ X9.out Y9.out).mono ?_
    rintro e wa ⟨rfl, hba⟩
    have La := Lib.hid (L9.out.call hba)
    go_wp2_with fail
    go_ret
    exact ⟨rfl, La.out.bel⟩
  · have hli : (1048576 : Int) < (xs.length : Int) := by omega
    go_enter Try.func5, Try.ntmps5
    go_wp2_with fail
    go_ret
    exact ⟨rfl, L0.out.bel⟩
end Go.Proofs.Ytnkohgdfipgdoaa
