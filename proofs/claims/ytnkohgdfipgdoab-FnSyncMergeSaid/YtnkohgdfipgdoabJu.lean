/-
  What the laws of compared announcements ask for.
-/
import Derived.Test.YtnkohgdfipgdoabJs
import Derived.Test.YtnkohgdfipgdoabJt
namespace Go.Proofs.Ytnkohgdfipgdoab
open Go.RowKit Go.Maps

/-- The state of a law of compared announcements: the adjacency's box, both lists. -/
structure SL (w : World) (G : Nat) (s g : Int) (A : Option Addr) (zs : List Lz) (B : Option Addr) (os : List Lz) (W : World) : Prop where
  box : Box W G 26 #[.int .i64 s, .int .i64 g]
  sl : Slz W W.heap.size A zs
  so : Slz W W.heap.size B os
  bel : Below w.heap.size w W
theorem SL.call {w w1 w2 : World} {G : Nat} {s g : Int} {A B : Option Addr} {zs os : List Lz} (h : SL w G s g A zs B os w1) (hb : Below w1.heap.size w1 w2) : SL w G s g A zs B os w2 :=
  ⟨h.box.below hb h.box.lt, h.sl.grow hb, h.so.grow hb, h.bel.trans (hb.mono h.bel.size)⟩
theorem SL.start {w w1 : World} {A B : Option Addr} {zs os : List Lz} (h : Slz w1 w1.heap.size A zs) (h2 : Slz w1 w1.heap.size B os) (hb : Below w.heap.size w w1) (s g : Int) : SL w w1.heap.size s g A zs B os (w1.alloc (.cells #[.int .i64 s, .int .i64 g] 26)) := by
  have h1 : Below w1.heap.size w1 (w1.alloc (.cells #[.int .i64 s, .int .i64 g] 26)) := by (repeat (first | exact Below.refl _ _ | (refine Below.alloc ?_ (by first | exact Nat.le_refl _ | omega | (simp; done) | (simp; omega)) _) | (refine Below.setCell ?_ (by first | exact Nat.le_refl _ | omega | (simp; done) | (simp; omega)) _) | exact Below.drew ‹_›))
  exact ⟨Box.new w1 _ _, h.grow h1, h2.grow h1, hb.trans (h1.mono hb.size)⟩
theorem adjB_up {s g : Int} (h1 : 1 ≤ s) (h2 : s ≤ 3) (h3 : 0 ≤ g) (h4 : g ≤ 3) : adjB s g = true := by
  unfold adjB inB
  rw [if_neg (by omega)]
  simp
  omega
theorem sync_facts {s g u v : Int} {db other : List La} (h : syncB s g db other = true) (hr : syncA s g db other = (u, v)) :
    v = g ∧ (s < 2 → u = s) ∧ (2 ≤ s → 2 ≤ u) ∧ (2 ≤ s → missD db other = [] → missD other db = [] → u = 3) ∧ (2 ≤ s → ¬ (missD db other = [] ∧ missD other db = []) → u = 2) ∧ syncA u v db other = (u, v) := by
  have h' := h
  unfold syncB at h
  simp only [Bool.and_eq_true] at h
  obtain ⟨⟨ha, hv1⟩, hv2⟩ := h
  obtain ⟨n, rfl, hn, hg0, hg3, hz⟩ := adjB_cases ha
  have again : ∀ x : Int, 1 ≤ x → x ≤ 3 → syncB x g db other = true := fun x h1 h2 => by
    unfold syncB
    rw [adjB_up h1 h2 hg0 hg3, hv1, hv2]
    rfl
  by_cases hm : missD db other = [] ∧ missD other db = []
  · rw [sync_same h' hm.1 hm.2, onA_four] at hr
    by_cases h2 : (n : Int) = 2
    · rw [if_pos h2] at hr
      cases hr
      refine ⟨rfl, fun x => by omega, fun _ => by omega, fun _ _ _ => rfl, fun _ x => absurd hm x, ?_⟩
      rw [sync_same (again 3 (by omega) (by omega)) hm.1 hm.2, onA_four, if_neg (by omega)]
    · rw [if_neg h2] at hr
      cases hr
      refine ⟨rfl, fun _ => rfl, fun x => x, fun x _ _ => by omega, fun _ x => absurd hm x, ?_⟩
      rw [sync_same h' hm.1 hm.2, onA_four, if_neg h2]
  · rw [sync_less h' hm, onA_three] at hr
    by_cases h3 : (n : Int) = 3
    · rw [if_pos h3] at hr
      cases hr
      refine ⟨rfl, fun x => by omega, fun _ => by omega, fun _ x y => absurd ⟨x, y⟩ hm, fun _ _ => rfl, ?_⟩
      rw [sync_less (again 2 (by omega) (by omega)) hm, onA_three, if_neg (by omega)]
    · rw [if_neg h3] at hr
      cases hr
      refine ⟨rfl, fun _ => rfl, fun x => x, fun _ x y => absurd ⟨x, y⟩ hm, fun x _ => by omega, ?_⟩
      rw [sync_less h' hm, onA_three, if_neg h3]
/-- After an exchange nothing is missing. -/
theorem merged_none {db other : List La} (h1 : dbB db = true) (h2 : dbB other = true) :
    dbB (mergeL db other) = true ∧ missD (mergeL db other) (mergeL other db) = [] := by
  obtain ⟨hv1, hs1⟩ := dbB_inv h1
  obtain ⟨hv2, hs2⟩ := dbB_inv h2
  have ha : dbB (mergeL db other) = true := dbB_of (mergeL_val hs1 hv1 hv2) (mergeL_srt hs1)
  have hb : dbB (mergeL other db) = true := dbB_of (mergeL_val hs2 hv2 hv1) (mergeL_srt hs2)
  refine ⟨ha, ?_⟩
  rw [missD_valid ha hb]
  refine List.eq_nil_iff_forall_not_mem.2 fun o ho => ?_
  have := (missL_mem (dbB_inv hb).2 (dbB_inv ha).1 (dbB_inv hb).1 o).1 ho
  rw [seqL_merge hs1 hs2 hv1 hv2, seqL_merge hs2 hs1 hv2 hv1, Int.max_comm] at this
  omega
theorem sync_merged {s g : Int} {db other : List La} (h : syncB s g db other = true) (h2 : 2 ≤ s) : (syncA s g (mergeL db other) (mergeL other db)).1 = 3 := by
  unfold syncB at h
  simp only [Bool.and_eq_true] at h
  obtain ⟨⟨ha, hv1⟩, hv2⟩ := h
  obtain ⟨m1, e1⟩ := merged_none hv1 hv2
  obtain ⟨m2, e2⟩ := merged_none hv2 hv1
  obtain ⟨n, rfl, hn, hg0, hg3, hz⟩ := adjB_cases ha
  rw [sync_same (by unfold syncB; rw [ha, m1, m2]; rfl) e1 e2, onA_four]
  split
  · rfl
  · show (n : Int) = 3
    omega
end Go.Proofs.Ytnkohgdfipgdoab
