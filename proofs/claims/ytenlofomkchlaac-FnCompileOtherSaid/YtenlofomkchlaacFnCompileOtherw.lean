/-
  The walk of FnCompileOther over this seat.
-/
import Derived.Test.YtenlofomkchlaacD2
import Derived.Test.YtenlofomkchlaacLq
namespace Go.Proofs.Ytenlofomkchlaac
open Go.RowKit Go.Maps

set_option maxRecDepth 100000 in
set_option maxHeartbeats 1600000 in
theorem fnCompileOther_walk (A : Option Addr) (len c : Nat) (f : Nat → Int) (w : World) (hlc : len ≤ c) (hc : c ≤ maxLen) (hB : Byt w w.heap.size A len f) :
   Calls Try.prog 8 #[.slice A len c] w fun e w' => e = .returned (.bool true) ∧ Below w.heap.size w w' := by
  have HB := Lib.hid hB
  clear hB
  by_cases hl : len ≤ 1048576
  · go_enter Try.func8, Try.ntmps8
    go_wp2_with fail
    refine (drawStackUnique_any A len c f w hlc hc HB.out).mono ?_
    rintro e w1 ⟨n, ls, A1, g1, c1, x, st, _, gx, cx, rfl, ⟨hn0, hn1, hls, hg1, ho1, hb1⟩, hx0, hx1, hs9, hok, hox, hgx, hcx, rfl, hgl⟩
    have L1 := Lib.hid (show LC w w1.heap.size n ls A1 g1 c1 (some ⟨gx, 0, none⟩) gx st (w1.alloc (.cells #[.int .i64 n, .slice A1 ls.length c1] 32)) from ⟨⟨Box.new w1 _ _, ho1.alloc _, hb1.alloc hb1.size _⟩, hox.alloc _⟩)
    clear ho1 hb1 HB hox hok
    generalize hG : w1.heap.size = G at *
    have CI := fun W (h1 : Sl W W.heap.size A1 ls) (h2 : Slb W W.heap.size (some ⟨gx, 0, none⟩) st) => stackUnique_impl n A1 ls c1 x (some ⟨gx, 0, none⟩) st cx W (by omega) (by omega) h1 h2
    have CS := fun W (h1 : Sl W W.heap.size A1 ls) (h2 : Slb W W.heap.size (some ⟨gx, 0, none⟩) st) => stackUnique_spec n A1 ls c1 x (some ⟨gx, 0, none⟩) st cx W (by omega) (by omega) (by omega) h1 h2
    cases hu : uniqS n ls x st with
    | false =>
      rw [hu] at CI CS
      clear hu
      go_wp2_with fail
      refine (CI _ L1.out.sl L1.out.slb).mono ?_
      rintro e w2 ⟨rfl, hb2⟩
      have L2 := Lib.hid (L1.out.call hb2)
      clear hb2 L1 hG
      obtain ⟨z2, c20, c21, -, -⟩ := L2.out.1.1.two
      go_wp2_with fail
      refine (CS _ L2.out.sl L2.out.slb).mono ?_
      rintro e w3 ⟨rfl, hb3⟩
      have L3 := Lib.hid (L2.out.call hb3)
      clear hb3 L2
      go_wp2_with fail
      go_ret
      exact ⟨rfl, L3.out.1.2.2⟩
    | true =>
      rw [hu] at CI CS
      have CP := fun W (h1 : Sl W W.heap.size A1 ls) (h2 : Slb W W.heap.size (some ⟨gx, 0, none⟩) st) => stackPath_impl n A1 ls c1 x (some ⟨gx, 0, none⟩) st cx W (by omega) (by omega) h1 h2
      have HUL := Lib.hid (uniq_least hu)
      have h57 := pathS_len n ls x st
      generalize pathS n ls x st = p at *
      clear hu
      go_wp2_with fail
      refine (CI _ L1.out.sl L1.out.slb).mono ?_
      rintro e w2 ⟨rfl, hb2⟩
      have L2 := Lib.hid (L1.out.call hb2)
      clear hb2 L1 hG CI
      obtain ⟨z2, c20, c21, -, -⟩ := L2.out.1.1.two
      go_wp2_with fail
      refine (CS _ L2.out.sl L2.out.slb).mono ?_
      rintro e w3 ⟨rfl, hb3⟩
      have L3 := Lib.hid (L2.out.call hb3)
      clear hb3 L2 z2 c20 c21 CS
      obtain ⟨z3, c30, c31, -, -⟩ := L3.out.1.1.two
      go_wp2_with fail
      refine (CP _ L3.out.sl L3.out.slb).mono ?_
      clear CP
      rintro e w4 ⟨A4, g4, c4, rfl, hg4, ho4, hb4, hc4⟩
      have L4 := Lib.hid (L3.out.call hb4)
      have O4 := Lib.hid ho4
      clear hb4 ho4 hg4 L3 z3 c30 c31
      obtain ⟨z4, c40, c41, -, -⟩ := L4.out.1.1.two
      have CC := stackCompile_impl n A1 ls c1 A4 p c4 w4 (by omega) (by omega) hc4 L4.out.sl O4.out.sli
      unfold CmpR at CC
      have hrt := cmpI_len n ls p
      generalize cmpI n ls p = rt at *
      go_wp2_with fail
      refine CC.mono ?_
      clear CC
      rintro e w5 ⟨A5, g5, c5, rfl, hg5, ho5, hb5, hc5⟩
      have L5 := Lib.hid (L4.out.call hb5)
      clear hb5 ho5 hg5 L4 z4 c40 c41
      cases hv : pvB n ls p with
      | false =>
        clear hv
        go_wp2_with fail
        go_ret
        exact ⟨rfl, L5.out.1.2.2⟩
      | true =>
        have hle := HUL.out hv
        have hle' : (rt.length : Int) ≤ (st.length : Int) := by omega
        clear hv
        go_wp2_with fail
        go_ret
        exact ⟨ret_bool (by simp; try omega), L5.out.1.2.2⟩
  · go_enter Try.func8, Try.ntmps8
    go_wp2
    go_ret
    exact ⟨rfl, by (repeat (first | exact Below.refl _ _ | (refine Below.alloc ?_ (by first | exact Nat.le_refl _ | omega | (simp; done) | (simp; omega)) _) | (refine Below.setCell ?_ (by first | exact Nat.le_refl _ | omega | (simp; done) | (simp; omega)) _) | exact Below.drew ‹_›))⟩

end Go.Proofs.Ytenlofomkchlaac
