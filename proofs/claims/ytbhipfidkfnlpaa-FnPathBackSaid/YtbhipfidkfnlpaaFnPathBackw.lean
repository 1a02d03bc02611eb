/-
  The walk of FnPathBack over this seat.
-/
import Derived.Test.YtbhipfidkfnlpaaPd
import Derived.Test.YtbhipfidkfnlpaaHc
import Derived.Test.YtbhipfidkfnlpaaA8
namespace Go.Proofs.Ytbhipfidkfnlpaa
open Go.RowKit

set_option maxRecDepth 100000 in
set_option maxHeartbeats 1600000 in
theorem pathBack_walk (A : Option Addr) (len c : Nat) (f : Nat → Int) (w : World) (hlc : len ≤ c) (hc : c ≤ maxLen) (hB : Byt w w.heap.size A len f) :
   Calls Try.prog 7 #[.slice A len c] w fun e w' => e = .returned (.bool true) ∧ Below w.heap.size w w' := by
  have HB := Lib.hid hB
  clear hB
  by_cases hl : len ≤ 1048576
  · go_enter Try.func7, Try.ntmps7
    go_wp2_with fail
    refine (drawPath_any A len c f w hlc hc HB.out).mono ?_
    rintro e w1 ⟨n, ls, A1, g1, c1, x, y, rfl, ⟨hn0, hn1, hls, hg1, ho1, hb1⟩, hx0, hx1, hy0, hy1⟩
    have L1 := Lib.hid (show LB w w1.heap.size n ls A1 g1 c1 (w1.alloc (.cells #[.int .i64 n, .slice A1 ls.length c1] 30)) from ⟨Box.new w1 _ _, ho1.alloc _, hb1.alloc hb1.size _⟩)
    clear ho1 hb1 HB
    generalize hG : w1.heap.size = G at *
    go_wp2_with fail
    refine (path_impl n A1 ls c1 x y _ (by omega) L1.out.2.1.sl).mono ?_
    rintro e w2 ⟨A2, g2, c2, rfl, hg2, ho2, hb2⟩
    have L2 := Lib.hid (L1.out.call hb2)
    have P2 := Lib.hid ho2
    clear hb2 L1 hG ho2
    obtain ⟨z2, c20, c21, -, -⟩ := L2.out.1.two
    go_wp2_with fail
    refine (path_spec n A1 ls c1 x y w2 (by omega) (by omega) L2.out.2.1.sl).mono ?_
    rintro e w3 ⟨A3, g3, c3, rfl, hg3, ho3, hb3⟩
    have L3 := Lib.hid (L2.out.call hb3)
    have P3 := Lib.hid (P2.out.below hb3)
    have Q3 := Lib.hid ho3
    clear hb3 L2 z2 c20 c21 P2 ho3
    obtain ⟨z3, c30, c31, -, -⟩ := L3.out.1.two
    have hrs : (pathI n ls x y).length ≤ 8 := pathI_len n ls x y
    have hrs2 : (pathI n ls y x).length ≤ 8 := pathI_len n ls y x
    have HF : Hid ((pathI n ls x y = [] ↔ pathI n ls y x = []) ∧ (pathI n ls y x ≠ [] → (pathI n ls y x)[0]? = some y ∧ (pathI n ls y x)[(pathI n ls y x).length - 1]? = some x ∧ 0 < countI n ls x y)) := Lib.hid (by
      have key : ∀ u v, pathI n ls u v ≠ [] → pathI n ls v u ≠ [] := fun u v h => by
        obtain ⟨m, rfl, hv, h0, hp⟩ := pathI_some h
        obtain ⟨hg, hu, hvv⟩ := vwB_two hv
        have h2 := path_isP (vwB_of hg hvv hu) (by rw [bf_symm (gvB_fit hg).1 hu hvv]; exact h0)
        intro e
        unfold pathI at e
        rw [Int.toNat_natCast] at e
        rw [e] at h2
        have := h2.head.2
        simp at this
      refine ⟨⟨fun h => Classical.byContradiction fun hn => key y x hn h, fun h => Classical.byContradiction fun hn => key x y hn h⟩, fun h => ?_⟩
      obtain ⟨m, rfl, hv, h0, hp⟩ := pathI_some h
      obtain ⟨hg, hyy, hxx⟩ := vwB_two hv
      refine ⟨hp.head.1, hp.end, ?_⟩
      unfold countI
      rw [vwB_of hg hxx hyy, if_pos rfl, Int.toNat_natCast]
      have := (cntL_pos hg hyy _ x hxx (Nat.le_refl _)).2 (by rw [bf_symm (gvB_fit hg).1 hyy hxx]; exact h0)
      omega)
    have CB : ∀ W : World, Sl W W.heap.size A1 ls → Calls Try.prog 15 #[gval n A1 ls.length c1, .int .i64 y, .int .i64 x] W (NewI (pathI n ls y x) W) := fun W hW => path_impl n A1 ls c1 y x W (by omega) hW
    generalize pathI n ls y x = ys at *
    generalize pathI n ls x y = xs at *
    go_wp2_with fail
    refine (sameInts_same A2 A3 xs c2 c3 w3 (by omega) P3.out.sli Q3.out.sli).mono ?_
    rintro e w4 ⟨rfl, hb4⟩
    have L4 := Lib.hid (L3.out.call hb4)
    have P4 := Lib.hid (P3.out.below hb4)
    have Q4 := Lib.hid (Q3.out.below hb4)
    clear hb4 L3 P3 Q3 z3 c30 c31 hg2 hg3
    obtain ⟨z4, c40, c41, -, -⟩ := L4.out.1.two
    clear Q4
    go_wp2_with fail
    refine (CB w4 L4.out.2.1.sl).mono ?_
    clear CB
    rintro e w5 ⟨A5, g5, c5, rfl, hg5, ho5, hb5⟩
    have L5 := Lib.hid (L4.out.call hb5)
    have R5 := Lib.hid ho5
    clear hb5 ho5 hg5 L4 P4 z4 c40 c41
    obtain ⟨z5, c50, c51, -, -⟩ := L5.out.1.two
    by_cases hz : xs.length = 0
    · have hz' : ((xs.length : Int) == 0) = true := by simp [hz]
      have hye : ys.length = 0 := by
        have := HF.out.1.1 (List.length_eq_zero_iff.1 hz)
        rw [this]; rfl
      have he : ((xs.length : Int) == (ys.length : Int)) = true := by simp [hz, hye]
      clear hz hye HF
      go_wp2_with fail
      go_ret
      exact ⟨ret_bool (by simp), L5.out.2.2⟩
    · have hz' : ((xs.length : Int) == 0) = false := by simpa using hz
      have hyn : ys ≠ [] := fun e => hz (by rw [HF.out.1.2 e]; rfl)
      obtain ⟨h1, h2, h3⟩ := HF.out.2 hyn
      have hyl : 0 < ys.length := by
        apply Nat.pos_of_ne_zero
        intro e
        exact hyn (List.length_eq_zero_iff.1 e)
      have hy' : ((ys.length : Int) == 0) = false := by simp; intro e; exact hyn e
      have CC := count_impl n A1 ls c1 x y w5 (by omega) L5.out.2.1.sl
      generalize countI n ls x y = o at *
      obtain ⟨p, hp⟩ : ∃ p : Nat, ys.length = p + 1 := ⟨ys.length - 1, by omega⟩
      have hsub : (ys.length : Int) - 1 = (p : Int) := by omega
      rw [hp, Nat.add_sub_cancel] at h2
      have hpl : p < ys.length := by omega
      have H1 := Lib.hid h1
      have H2 := Lib.hid h2
      clear hz hyn hp h1 h2 HF
      go_wp2_with fail
      refine CC.mono ?_
      clear CC
      rintro e w6 ⟨rfl, hb6⟩
      have L6 := Lib.hid (L5.out.call hb6)
      have R6 := Lib.hid (R5.out.below hb6)
      obtain ⟨rfl, zg6, hc0⟩ := R6.out.at H1.out
      obtain ⟨-, -, hcp⟩ := R6.out.at H2.out
      clear hb6 c50 c51 z5
      go_wp2_with fail
      go_ret
      exact ⟨ret_bool (by simp), L6.out.2.2⟩
  · go_enter Try.func7, Try.ntmps7
    go_wp2
    go_ret
    exact ⟨rfl, by (repeat (first | exact Below.refl _ _ | (refine Below.alloc ?_ (by first | exact Nat.le_refl _ | omega | (simp; done) | (simp; omega)) _) | (refine Below.setCell ?_ (by first | exact Nat.le_refl _ | omega | (simp; done) | (simp; omega)) _) | exact Below.drew ‹_›))⟩
end Go.Proofs.Ytbhipfidkfnlpaa
