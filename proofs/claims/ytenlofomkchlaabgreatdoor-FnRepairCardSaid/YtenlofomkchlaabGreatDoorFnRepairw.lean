/-
  The walk of FnRepair over this seat.
-/
import Derived.Test.YtenlofomkchlaabGreatDoorVp
import Derived.Test.YtenlofomkchlaabGreatDoorA8
namespace Go.Proofs.YtenlofomkchlaabGreatDoor
open Go.RowKit Go.Maps

set_option maxRecDepth 100000 in
set_option maxHeartbeats 1600000 in
theorem fnRepair_walk (A : Option Addr) (len c : Nat) (f : Nat → Int) (w : World) (hlc : len ≤ c) (hc : c ≤ maxLen) (hB : Byt w w.heap.size A len f) (hsen : Sen w) :
   Calls Tryz.prog 3 #[.slice A len c] w fun e w' => e = .returned (.bool true) ∧ Below w.heap.size w w' := by
  have HB := Lib.hid hB
  clear hB
  have HSEN := Lib.hid hsen
  clear hsen
  by_cases hl : len ≤ 1048576
  · go_enter Tryz.func3, Tryz.ntmps3
    go_wp2_with fail
    refine (drawRepK_any A len c f w hlc hc HB.out).mono ?_
    rintro e w1 ⟨n, ls, A1, g1, c1, x, y, z, rfl, ⟨hn0, hn1, hls, hg1, ho1, hb1⟩, hx0, hx1, hy0, hy1, hz0, hz1, hcap⟩
    have L1 := Lib.hid (show LB w w1.heap.size n ls A1 g1 c1 (w1.alloc (.cells #[.int .i64 n, .slice A1 ls.length c1] 25)) from ⟨Box.new w1 _ _, ho1.alloc _, hb1.alloc hb1.size _⟩)
    clear ho1 hb1 HB
    generalize hG : w1.heap.size = G at *
    go_wp2_with fail
    refine (repStack_impl n A1 ls c1 x y z _ (by omega) L1.out.2.1.isV L1.out.2.1.sl (HSEN.out.below L1.out.2.2)).mono ?_
    rintro e w2 ⟨A2, g2, c2, rfl, hg2, ho2, hb2, hlc2⟩
    have L2 := Lib.hid (L1.out.call hb2)
    have P2 := Lib.hid ho2
    clear hb2 L1 hG ho2
    obtain ⟨z2, c20, c21, -, -⟩ := L2.out.1.two
    go_wp2_with fail
    refine (repStack_spec n A1 ls c1 x y z w2 (by omega) (by omega) L2.out.2.1.isV hcap L2.out.2.1.sl).mono ?_
    rintro e w3 ⟨A3, g3, c3, rfl, hg3, ho3, hb3, hlc3⟩
    have L3 := Lib.hid (L2.out.call hb3)
    have P3 := Lib.hid (P2.out.below hb3)
    have Q3 := Lib.hid ho3
    clear hb3 L2 z2 c20 c21 P2 ho3 hg2 hg3 hlc3
    have hst8 := repA_len8 n ls x y z
    have HF := Lib.hid (fun (h : repB n ls x y z = true) => rep_end (repB_some h))
    have CEE := fun (st : List Lb) cb B W h1 (h2 : Sl W W.heap.size A1 ls) h3 => stackEnd_impl n A1 ls c1 x B st cb W (by omega) h1 h2 h3
    have CCC := fun (st : List Lb) cb B W h1 (h2 : Sl W W.heap.size A1 ls) h3 => stackCrosses_impl n A1 ls c1 x B st cb y W (by omega) h1 h2 h3
    generalize repA n ls x y z = st at *
    generalize repB n ls x y z = ok at *
    have CS := fun W (h1 : Slb W W.heap.size A2 st) (h2 : Slb W W.heap.size A3 st) => sameLb_same A2 A3 st c2 c3 W (by omega) h1 h2
    obtain ⟨z3, c30, c31, -, -⟩ := L3.out.1.two
    cases ok with
    | false =>
      clear HF
      go_wp2_with fail
      refine (CS _ P3.out.slb Q3.out.slb).mono ?_
      rintro e w4 ⟨rfl, hb⟩
      have L4 := Lib.hid (L3.out.call hb)
      have P4 := Lib.hid (P3.out.below hb)
      have Q4 := Lib.hid (Q3.out.below hb)
      clear hb L3 P3 Q3 z3 c30 c31
      go_wp2_with fail
      refine (CS _ P4.out.slb Q4.out.slb).mono ?_
      rintro e w5 ⟨rfl, hb⟩
      have LX := Lib.hid (L4.out.call hb)
      go_wp2_with fail
      go_ret
      exact ⟨rfl, LX.out.2.2⟩
    | true =>
      have HF2 := Lib.hid (HF.out rfl)
      clear HF
      go_wp2_with fail
      refine (CS _ P3.out.slb Q3.out.slb).mono ?_
      rintro e w4 ⟨rfl, hb⟩
      have L4 := Lib.hid (L3.out.call hb)
      have P4 := Lib.hid (P3.out.below hb)
      have Q4 := Lib.hid (Q3.out.below hb)
      clear hb L3 P3 Q3 z3 c30 c31
      clear Q4 CS
      obtain ⟨z4, c40, c41, -, -⟩ := L4.out.1.two
      obtain ⟨he, hcr, -⟩ := HF2.out
      have CE := CEE st c2 A2 w4 (by omega) L4.out.2.1.sl P4.out.slb
      have CC := fun W h2 h3 => CCC st c2 A2 W (by omega) h2 h3
      rw [he] at CE
      dsimp only [stepV] at CE
      rw [hcr] at CC
      clear CEE CCC he hcr
      go_wp2_with fail
      refine CE.mono ?_
      clear CE
      rintro e w5 ⟨rfl, hb⟩
      have L5 := Lib.hid (L4.out.call hb)
      have P5 := Lib.hid (P4.out.below hb)
      clear hb L4 P4 z4 c40 c41
      obtain ⟨z5, c50, c51, -, -⟩ := L5.out.1.two
      go_wp2_with fail
      refine (CC _ L5.out.2.1.sl P5.out.slb).mono ?_
      clear CC
      rintro e w6 ⟨rfl, hb⟩
      have L6 := Lib.hid (L5.out.call hb)
      clear hb L5 P5 z5 c50 c51
      go_wp2_with fail
      go_ret
      exact ⟨rfl, L6.out.2.2⟩
  · go_enter Tryz.func3, Tryz.ntmps3
    go_wp2
    go_ret
    exact ⟨rfl, by (repeat (first | exact Below.refl _ _ | (refine Below.alloc ?_ (by first | exact Nat.le_refl _ | omega | (simp; done) | (simp; omega)) _) | (refine Below.setCell ?_ (by first | exact Nat.le_refl _ | omega | (simp; done) | (simp; omega)) _) | exact Below.drew ‹_›))⟩
end Go.Proofs.YtenlofomkchlaabGreatDoor
