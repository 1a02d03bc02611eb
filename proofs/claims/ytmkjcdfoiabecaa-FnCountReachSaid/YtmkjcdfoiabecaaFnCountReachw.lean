/-
  The walk of FnCountReach over this seat.
-/
import Derived.Test.YtmkjcdfoiabecaaHc
import Derived.Test.YtmkjcdfoiabecaaA8
namespace Go.Proofs.Ytmkjcdfoiabecaa
open Go.RowKit

set_option maxRecDepth 100000 in
set_option maxHeartbeats 1600000 in
theorem countReach_walk (A : Option Addr) (len c : Nat) (f : Nat → Int) (w : World) (hlc : len ≤ c) (hc : c ≤ maxLen) (hB : Byt w w.heap.size A len f) :
   Calls Try.prog 14 #[.slice A len c] w fun e w' => e = .returned (.bool true) ∧ Below w.heap.size w w' := by
  have HB := Lib.hid hB
  clear hB
  by_cases hl : len ≤ 1048576
  · go_enter Try.func14, Try.ntmps14
    go_wp2_with fail
    refine (drawCount_any A len c f w hlc hc HB.out).mono ?_
    rintro e w1 ⟨n, ls, A1, g1, c1, x, y, rfl, ⟨hn0, hn1, hls, hg1, ho1, hb1⟩, hx0, hx1, hy0, hy1⟩
    have L1 := Lib.hid (show LB w w1.heap.size n ls A1 g1 c1 (w1.alloc (.cells #[.int .i64 n, .slice A1 ls.length c1] 30)) from ⟨Box.new w1 _ _, ho1.alloc _, hb1.alloc hb1.size _⟩)
    clear ho1 hb1 HB
    generalize hG : w1.heap.size = G at *
    go_wp2_with fail
    have CI := count_impl n A1 ls c1 x y _ (by omega) L1.out.2.1.sl
    have CS := fun W (hW : Sl W W.heap.size A1 ls) => count_spec n A1 ls c1 x y W (by omega) (by omega) hW
    have HF : Hid (0 ≤ countI n ls x y → decide (y ∈ reachL n ls x) = decide (0 < countI n ls x y)) := Lib.hid (fun h => by
      unfold countI at h ⊢
      cases hv : vwB n ls [x, y] with
      | false => rw [hv] at h; simp at h
      | true =>
        obtain ⟨hg, hx, hy⟩ := vwB_two hv
        obtain ⟨m, rfl⟩ : ∃ q : Nat, n = (q : Int) := ⟨n.toNat, by omega⟩
        rw [if_pos rfl, decide_eq_decide, reach_mem (vwB_one hg hx) (gvB_fit hg).1 hx, Int.toNat_natCast, bf_symm (gvB_fit hg).1 hx hy, ← cntL_pos hg hy _ x hx (Nat.le_refl _)]
        constructor
        · rintro ⟨_, h⟩; omega
        · intro h; exact ⟨hy, by omega⟩)
    generalize countI n ls x y = o at *
    refine CI.mono ?_
    clear CI
    rintro e w2 ⟨rfl, hb2⟩
    have L2 := Lib.hid (L1.out.call hb2)
    clear hb2 L1 hG
    obtain ⟨z2, c20, c21, -, -⟩ := L2.out.1.two
    go_wp2_with fail
    refine (CS w2 L2.out.2.1.sl).mono ?_
    clear CS
    rintro e w3 ⟨rfl, hb3⟩
    have L3 := Lib.hid (L2.out.call hb3)
    clear hb3 L2 z2 c20 c21
    obtain ⟨z3, c30, c31, -, -⟩ := L3.out.1.two
    by_cases h0 : o < 0
    · have HF := HF
      go_wp2_with fail
      go_ret
      exact ⟨ret_bool (by simp), L3.out.2.2⟩
    · have h0' : decide (o < 0) = false := by simpa using h0
      have hdec := HF.out (by omega)
      have CR := reach_impl n A1 ls c1 x w3 (by omega) L3.out.2.1.sl
      have hr8 := reachL_len n ls x
      generalize reachL n ls x = rs at *
      have HDEC := Lib.hid hdec
      clear hdec h0 HF
      go_wp2_with fail
      refine CR.mono ?_
      clear CR
      rintro e w4 ⟨A5, g5, c5, rfl, hg5, ho5, hb5⟩
      have L4 := Lib.hid (L3.out.call hb5)
      have R4 := Lib.hid ho5
      clear hb5 ho5 hg5 z3 c30 c31
      have CI := hasInt_any A5 rs c5 y w4 (by omega) R4.out.sli
      rw [HDEC.out] at CI
      go_wp2_with fail
      refine CI.mono ?_
      rintro e w5 ⟨rfl, hb5⟩
      have L5 := Lib.hid (L4.out.call hb5)
      go_wp2_with fail
      go_ret
      exact ⟨ret_bool (by simp), L5.out.2.2⟩
  · go_enter Try.func14, Try.ntmps14
    go_wp2
    go_ret
    exact ⟨rfl, by (repeat (first | exact Below.refl _ _ | (refine Below.alloc ?_ (by first | exact Nat.le_refl _ | omega | (simp; done) | (simp; omega)) _) | (refine Below.setCell ?_ (by first | exact Nat.le_refl _ | omega | (simp; done) | (simp; omega)) _) | exact Below.drew ‹_›))⟩
end Go.Proofs.Ytmkjcdfoiabecaa
