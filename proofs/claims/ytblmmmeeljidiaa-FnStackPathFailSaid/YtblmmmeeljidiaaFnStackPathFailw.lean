/-
  The walk of FnStackPathFail over this seat.
-/
import Derived.Test.YtblmmmeeljidiaaLc
namespace Go.Proofs.Ytblmmmeeljidiaa
open Go.RowKit Go.Maps

set_option maxRecDepth 100000 in
set_option maxHeartbeats 1600000 in
theorem fnStackPathFail_walk (A : Option Addr) (len c : Nat) (f : Nat → Int) (w : World) (hlc : len ≤ c) (hc : c ≤ maxLen) (hB : Byt w w.heap.size A len f) :
   Calls Try.prog 10 #[.slice A len c] w fun e w' => e = .returned (.bool true) ∧ Below w.heap.size w w' := by
  have HB := Lib.hid hB
  clear hB
  by_cases hl : len ≤ 1048576
  · go_enter Try.func10, Try.ntmps10
    go_wp2_with fail
    refine (drawStackPath_any A len c f w hlc hc HB.out).mono ?_
    rintro e w1 ⟨n, ls, A1, g1, c1, x, st, Ax, gx, cx, rfl, ⟨hn0, hn1, hls, hg1, ho1, hb1⟩, hx0, hx1, hs9, hok, hox, hgx, hcx⟩
    have L1 := Lib.hid (show LC w w1.heap.size n ls A1 g1 c1 Ax gx st (w1.alloc (.cells #[.int .i64 n, .slice A1 ls.length c1] 32)) from ⟨⟨Box.new w1 _ _, ho1.alloc _, hb1.alloc hb1.size _⟩, hox.alloc _⟩)
    clear ho1 hb1 HB hox hok
    generalize hG : w1.heap.size = G at *
    have CI := fun W (h1 : Sl W W.heap.size A1 ls) (h2 : Slb W W.heap.size Ax st) => stackPath_impl n A1 ls c1 x Ax st cx W (by omega) (by omega) h1 h2
    have CS := fun W (h1 : Sl W W.heap.size A1 ls) (h2 : Slb W W.heap.size Ax st) => stackPath_spec n A1 ls c1 x Ax st cx W (by omega) (by omega) (by omega) h1 h2
    have hpl : (pathS n ls x st).length ≤ 57 := pathS_len n ls x st
    have HF : Hid (((endI n ls x st).isSome = true → 0 < (pathS n ls x st).length) ∧ (endI n ls x st = none → pathS n ls x st = [])) := Lib.hid ⟨fun h => by rw [pathS_some h]; simp, fun h => pathS_none (by rw [h]; rfl)⟩
    generalize pathS n ls x st = xs at *
    go_wp2_with fail
    refine (CI _ L1.out.sl L1.out.slb).mono ?_
    rintro e w2 ⟨A2, g2, c2, rfl, hg2, ho2, hb2, -⟩
    have L2 := Lib.hid (L1.out.call hb2)
    have P2 := Lib.hid ho2
    clear hb2 L1 hG ho2 CI
    obtain ⟨z2, c20, c21, -, -⟩ := L2.out.1.1.two
    go_wp2_with fail
    refine (CS _ L2.out.sl L2.out.slb).mono ?_
    rintro e w3 ⟨A3, g3, c3, rfl, hg3, ho3, hb3, -⟩
    have L3 := Lib.hid (L2.out.call hb3)
    have P3 := Lib.hid (P2.out.below hb3)
    have Q3 := Lib.hid ho3
    clear hb3 L2 z2 c20 c21 P2 ho3 CS
    obtain ⟨z3, c30, c31, -, -⟩ := L3.out.1.1.two
    go_wp2_with fail
    refine (sameInts_same A2 A3 xs c2 c3 w3 (by omega) P3.out.sli Q3.out.sli).mono ?_
    rintro e w4 ⟨rfl, hb4⟩
    have L4 := Lib.hid (L3.out.call hb4)
    have P4 := Lib.hid (P3.out.below hb4)
    have Q4 := Lib.hid (Q3.out.below hb4)
    clear hb4 L3 P3 Q3 z3 c30 c31 hg2 hg3
    obtain ⟨z4, c40, c41, -, -⟩ := L4.out.1.1.two
    have CE := fun W (h1 : Sl W W.heap.size A1 ls) (h2 : Slb W W.heap.size Ax st) => stackEnd_impl n A1 ls c1 x Ax st cx W (by omega) (by omega) h1 h2
    have CC := fun W (h1 : Sl W W.heap.size A1 ls) (h2 : Slb W W.heap.size Ax st) => stackCost_impl n A1 ls c1 x Ax st cx W (by omega) (by omega) h1 h2
    have HC := Lib.hid (cost_sign n ls x st)
    cases ho : endI n ls x st with
    | none =>
      have hx0 := HF.out.2 ho
      have hcs := HC.out.2 ho
      simp only [ho, stepV] at CE
      generalize costS n ls x st = q at *
      subst hcs
      clear ho HF HC
      go_wp2_with fail
      refine (CE _ L4.out.sl L4.out.slb).mono ?_
      rintro e w5 ⟨rfl, hb5⟩
      have L5 := Lib.hid (L4.out.call hb5)
      clear hb5 L4 z4 c40 c41 CE
      obtain ⟨z5, c50, c51, -, -⟩ := L5.out.1.1.two
      have hx0' : xs.length = 0 := by rw [hx0]; rfl
      go_wp2_with (go_at_call 28; refine (CC _ L5.out.sl L5.out.slb).mono ?_; rintro e w6 ⟨rfl, hb6⟩; have L6 := Lib.hid (L5.out.call hb6); clear hb6)
      go_ret
      exact ⟨ret_bool (by simp), L6.out.1.2.2⟩
    | some z =>
      have hx0 := HF.out.1 (by rw [ho]; rfl)
      have hcs := HC.out.1 (by rw [ho]; rfl)
      simp only [ho, stepV] at CE
      generalize costS n ls x st = q at *
      clear ho HF HC
      go_wp2_with fail
      refine (CE _ L4.out.sl L4.out.slb).mono ?_
      rintro e w5 ⟨rfl, hb5⟩
      have L5 := Lib.hid (L4.out.call hb5)
      clear hb5 L4 z4 c40 c41 CE
      obtain ⟨z5, c50, c51, -, -⟩ := L5.out.1.1.two
      go_wp2_with (go_at_call 28; refine (CC _ L5.out.sl L5.out.slb).mono ?_; rintro e w6 ⟨rfl, hb6⟩; have L6 := Lib.hid (L5.out.call hb6); clear hb6)
      go_ret
      exact ⟨ret_bool (by simp), L6.out.1.2.2⟩
  · go_enter Try.func10, Try.ntmps10
    go_wp2
    go_ret
    exact ⟨rfl, by (repeat (first | exact Below.refl _ _ | (refine Below.alloc ?_ (by first | exact Nat.le_refl _ | omega | (simp; done) | (simp; omega)) _) | (refine Below.setCell ?_ (by first | exact Nat.le_refl _ | omega | (simp; done) | (simp; omega)) _) | exact Below.drew ‹_›))⟩

end Go.Proofs.Ytblmmmeeljidiaa
