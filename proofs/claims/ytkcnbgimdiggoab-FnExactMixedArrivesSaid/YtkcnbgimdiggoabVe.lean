/-
  Contracts over this seat: RepairPath of the specification.
-/
import Derived.Test.YtkcnbgimdiggoabVd
import Derived.Test.YtkcnbgimdiggoabWoS
namespace Go.Proofs.Ytkcnbgimdiggoab
open Go.RowKit Go.Maps

theorem idx_in {ls : List Lk} {x : Int} : inB x 0 ((ls.length : Int) - 1) = idxB ls x := by
  unfold inB idxB
  rw [Bool.eq_iff_iff]
  simp only [Bool.and_eq_true, decide_eq_true_eq]
  omega
set_option maxRecDepth 100000 in
set_option maxHeartbeats 1600000 in
theorem l21ok_any (nn : Int) (A : Option Addr) (ls : List Lk) (c : Nat) (s x t : Int) (w : World) (hm : ls.length ≤ 2000000) (hnu : nn ≤ 9223372036854775807) (hS : Sl w w.heap.size A ls) :
   Calls Try.prog 45 #[gval nn A ls.length c, .int .i64 s, .int .i64 x, .int .i64 t] w fun e w' => e = .returned (.bool (vwB nn ls [s, t] && idxB ls x)) ∧ Below w.heap.size w w' := by
  have HS := Lib.hid hS
  have HK := Lib.hid (Box.new w 25 #[.int .i64 nn, .slice A ls.length c])
  have B0 := Lib.hid (show Below w.heap.size w (w.alloc (.cells #[.int .i64 nn, .slice A ls.length c] 25)) by (repeat (first | exact Below.refl _ _ | (refine Below.alloc ?_ (by first | exact Nat.le_refl _ | omega | (simp; done) | (simp; omega)) _) | (refine Below.setCell ?_ (by first | exact Nat.le_refl _ | omega | (simp; done) | (simp; omega)) _) | exact Below.drew ‹_›)))
  have C1 : ∀ V : World, Sl V V.heap.size A ls → Calls Try.prog 78 #[gval nn A ls.length c, .int .i64 x] V fun e w' => e = .returned (.bool (gvB nn ls && inB x 0 ((ls.length : Int) - 1))) ∧ Below V.heap.size V w' := fun V hV => l1Index_any nn A ls c x V hm hnu hV
  clear hS
  rw [idx_in] at C1
  have hvw : vwB nn ls [s, t] = (gvB nn ls && (inB s 0 (nn - 1) && inB t 0 (nn - 1))) := by unfold vwB; simp
  cases h1 : gvB nn ls && idxB ls x with
  | false =>
    have e : (vwB nn ls [s, t] && idxB ls x) = false := by
      rw [hvw]
      cases hg : gvB nn ls <;> cases hi : idxB ls x <;> rw [hg, hi] at h1 <;> simp at h1 ⊢
    rw [h1] at C1
    rw [e]
    clear e h1 hvw
    go_enter Try.func45, Try.ntmps45
    go_wp2_with fail
    refine (C1 _ ((HS.out.below B0.out).more B0.out.size)).mono ?_
    rintro e w1 ⟨rfl, hb1⟩
    have B1 := Lib.hid (B0.out.trans (hb1.mono B0.out.size))
    clear hb1
    go_wp2_with fail
    go_ret
    exact ⟨rfl, B1.out⟩
  | true =>
    rw [h1] at C1
    rw [Bool.and_eq_true] at h1
    obtain ⟨hg, hi⟩ := h1
    obtain ⟨hf, hn1, hn8, hl14⟩ := gvB_fit hg
    rw [hg, Bool.true_and] at hvw
    rw [hvw, hi, Bool.and_true]
    have C2 : ∀ V : World, Calls Try.prog 79 #[gval nn A ls.length c, .int .i64 s] V fun e w' => e = .returned (.bool (inB s 0 (nn - 1))) ∧ Below V.heap.size V w' := fun V => l1Node_vis nn A ls.length c s V hn1 hn8
    have C3 : ∀ V : World, Calls Try.prog 79 #[gval nn A ls.length c, .int .i64 t] V fun e w' => e = .returned (.bool (inB t 0 (nn - 1))) ∧ Below V.heap.size V w' := fun V => l1Node_vis nn A ls.length c t V hn1 hn8
    clear hvw hi hg hf
    generalize inB s 0 (nn - 1) = p at *
    generalize inB t 0 (nn - 1) = q at *
    go_enter Try.func45, Try.ntmps45
    go_wp2_with fail
    refine (C1 _ ((HS.out.below B0.out).more B0.out.size)).mono ?_
    rintro e w1 ⟨rfl, hb1⟩
    have B1 := Lib.hid (B0.out.trans (hb1.mono B0.out.size))
    have K1 := Lib.hid (HK.out.below hb1 (by simp))
    clear hb1 C1
    obtain ⟨z1, e10, e11, -, -⟩ := K1.out.two
    go_wp2_with fail
    refine (C2 _).mono ?_
    rintro e w2 ⟨rfl, hb2⟩
    have B2 := Lib.hid (B1.out.trans (hb2.mono B1.out.size))
    have K2 := Lib.hid (K1.out.below hb2 z1)
    clear hb2 C2 e10 e11
    obtain ⟨z2, e20, e21, -, -⟩ := K2.out.two
    cases p with
    | false =>
      go_wp2_with fail
      go_ret
      exact ⟨rfl, B2.out⟩
    | true =>
      go_wp2_with fail
      refine (C3 _).mono ?_
      rintro e w3 ⟨rfl, hb3⟩
      have B3 := Lib.hid (B2.out.trans (hb3.mono B2.out.size))
      clear hb3 C3
      go_wp2_with fail
      go_ret
      exact ⟨rfl, B3.out⟩


end Go.Proofs.Ytkcnbgimdiggoab
