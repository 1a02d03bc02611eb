/-
  The state of a law of two lists of announcements; what these laws ask for.
-/
import Derived.Test.YtnkohgdfipgdoabE9
import Derived.Test.YtnkohgdfipgdoabZt
namespace Go.Proofs.Ytnkohgdfipgdoab
open Go.RowKit Go.Maps

theorem Slz.step2 {w w' : World} {A : Option Addr} {zs : List Lz} (h : Slz w w.heap.size A zs) (hb : Below w.heap.size w w') : Slz w' w'.heap.size A zs := h.grow hb
/-- Two drawn lists. -/
structure LM (w : World) (A : Option Addr) (zs : List Lz) (B : Option Addr) (os : List Lz) (W : World) : Prop where
  sl : Slz W W.heap.size A zs
  so : Slz W W.heap.size B os
  bel : Below w.heap.size w W
theorem LM.call {w w1 w2 : World} {A B : Option Addr} {zs os : List Lz} (h : LM w A zs B os w1) (hb : Below w1.heap.size w1 w2) : LM w A zs B os w2 := ⟨h.sl.grow hb, h.so.grow hb, h.bel.trans (hb.mono h.bel.size)⟩

theorem mergeD_val (db other : List La) : dbB (mergeD db other) = true := by
  unfold mergeD
  split
  · rename_i h
    simp only [Bool.and_eq_true] at h
    obtain ⟨h1, h2⟩ := dbB_inv h.1
    obtain ⟨h3, h4⟩ := dbB_inv h.2
    exact dbB_of (mergeL_val h2 h1 h3) (mergeL_srt h2)
  · rfl
theorem merge_short {db other : List La} {ys : List Lz} (h : datL ys = mergeD db other) : ys.length ≤ 8 ∧ (∀ y ∈ ys, y.es.length ≤ 8) ∧ dbB (datL ys) = true := by
  have hv : dbB (datL ys) = true := by rw [h]; exact mergeD_val _ _
  exact ⟨(db_short hv).1, (db_short hv).2, hv⟩
theorem missL_short {db other : List La} (h : dbB other = true) : (missL db other).length ≤ 8 := by
  obtain ⟨h1, h2⟩ := dbB_inv h
  unfold missL
  rw [List.length_map]
  exact Nat.le_trans (List.length_filter_le _ _) (db_len h2 h1)
theorem missD_short (db other : List La) : (missD db other).length ≤ 8 := by
  unfold missD
  split
  · rename_i h
    simp only [Bool.and_eq_true] at h
    exact missL_short h.2
  · simp
theorem missD_valid {db other : List La} (h1 : dbB db = true) (h2 : dbB other = true) : missD db other = missL db other := by unfold missD; rw [h1, h2]; rfl
theorem mergeD_valid {db other : List La} (h1 : dbB db = true) (h2 : dbB other = true) : mergeD db other = mergeL db other := by unfold mergeD; rw [h1, h2]; rfl

end Go.Proofs.Ytnkohgdfipgdoab
