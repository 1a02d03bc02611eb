/-
  Contracts over this seat: the specification's GraphNeighbours; both lists are the same.
-/
import Derived.Test.YtigamnnboojiiaaNbI
namespace Go.Proofs.Ytigamnnboojiiaa
open Go.RowKit

def nbS (a : Int) (ls : List Lk) : Nat → List Int
  | 0 => []
  | k + 1 => nbS a ls k ++ (if 0 ≤ l1I (min a k) (max a k) ls then [(k : Int)] else [])
theorem nbS_len (a : Int) (ls : List Lk) (k : Nat) : (nbS a ls k).length ≤ k := by
  induction k with
  | zero => simp [nbS]
  | succ k ih =>
    simp only [nbS, List.length_append]
    split <;> simp <;> omega
theorem owns_kept {w w' : World} {base e size n : Nat} {v : Value} {xs : List Value} (h : w.ownsRow base e size v n xs) (hb : Below w.heap.size w w') : w'.ownsRow base e size v n xs :=
  h.kept (below_grown hb) (by
    by_cases h : v.ownBlock = none
    · exact .inl h
    · exact .inr h)


/-! ### Both lists are one -/
theorem asc_ext : ∀ (xs ys : List Int), xs.Pairwise (· < ·) → ys.Pairwise (· < ·) → (∀ z, z ∈ xs ↔ z ∈ ys) → xs = ys
  | [], [], _, _, _ => rfl
  | [], y :: ys, _, _, h => absurd ((h y).2 (by simp)) (by simp)
  | x :: xs, [], _, _, h => absurd ((h x).1 (by simp)) (by simp)
  | x :: xs, y :: ys, hx, hy, h => by
    rw [List.pairwise_cons] at hx hy
    have hxy : x = y := by
      rcases List.mem_cons.1 ((h x).1 (by simp)) with e | e
      · exact e
      · rcases List.mem_cons.1 ((h y).2 (by simp)) with e' | e'
        · exact e'.symm
        · have := hx.1 y e'
          have := hy.1 x e
          omega
    subst hxy
    rw [asc_ext xs ys hx.2 hy.2 fun z => ⟨fun hz => ?_, fun hz => ?_⟩]
    · rcases List.mem_cons.1 ((h z).1 (by simp [hz])) with e | e
      · have := hx.1 z hz; omega
      · exact e
    · rcases List.mem_cons.1 ((h z).2 (by simp [hz])) with e | e
      · have := hy.1 z hz; omega
      · exact e
theorem nbS_mem {a : Int} {ls : List Lk} {k : Nat} {z : Int} : z ∈ nbS a ls k ↔ ∃ x : Nat, x < k ∧ z = x ∧ 0 ≤ l1I (min a x) (max a x) ls := by
  induction k with
  | zero => simp [nbS]
  | succ k ih =>
    simp only [nbS, List.mem_append, ih]
    constructor
    · rintro (⟨x, h1, h2⟩ | h)
      · exact ⟨x, by omega, h2⟩
      · split at h
        · rename_i hp
          simp at h
          exact ⟨k, by omega, h, hp⟩
        · simp at h
    · rintro ⟨x, h1, h2, h3⟩
      by_cases hx : x < k
      · exact .inl ⟨x, hx, h2, h3⟩
      · obtain rfl : x = k := by omega
        right
        rw [if_pos h3]
        simpa using h2
theorem nbS_asc (a : Int) (ls : List Lk) (k : Nat) : (nbS a ls k).Pairwise (· < ·) := by
  induction k with
  | zero => simp [nbS]
  | succ k ih =>
    rw [nbS, List.pairwise_append]
    refine ⟨ih, by split <;> simp, fun x hx y hy => ?_⟩
    obtain ⟨i, hi, rfl, _⟩ := nbS_mem.1 hx
    split at hy
    · simp at hy; omega
    · simp at hy
theorem l1I_nonneg {mn mx : Int} {ls : List Lk} : 0 ≤ l1I mn mx ls ↔ ∃ (j : Nat) (l : Lk), ls[j]? = some l ∧ l.a = mn ∧ l.b = mx := by
  unfold l1I
  cases hf : ls.findIdx? (fun l => decide (l.a = mn) && decide (l.b = mx)) with
  | none =>
    refine ⟨fun h => absurd h (by simp), fun ⟨j, l, hj, h1, h2⟩ => ?_⟩
    have := List.findIdx?_eq_none_iff.1 hf l (List.mem_of_getElem? hj)
    simp [h1, h2] at this
  | some k =>
    obtain ⟨hk, hk1, _⟩ := List.findIdx?_eq_some_iff_getElem.1 hf
    have hmt : ls[k].a = mn ∧ ls[k].b = mx := by simpa using hk1
    exact ⟨fun _ => ⟨k, ls[k], List.getElem?_eq_getElem hk, hmt⟩, fun _ => by simp⟩
theorem gvB_at {nn : Int} {ls : List Lk} (h : gvB nn ls = true) {j : Nat} {l : Lk} (hj : ls[j]? = some l) : 0 ≤ l.a ∧ l.a < l.b ∧ l.b < nn ∧ nn ≤ 8 ∧ 1 ≤ l.c ∧ l.c ≤ 20 := by
  unfold gvB at h
  simp only [Bool.and_eq_true, List.all_eq_true] at h
  have := h.2 j (by have := (List.getElem?_eq_some_iff.1 hj).1; simpa using this)
  unfold okAt at this
  rw [hj] at this
  simp only [Bool.and_eq_true] at this
  have h2 := this.1
  have h3 := h.1.1
  unfold allowsB inB at h2
  unfold inB at h3
  simp at h2 h3
  omega
theorem gvB_next {nn : Int} {ls : List Lk} (h : gvB nn ls = true) {j : Nat} {l m : Lk} (hj : ls[j]? = some m) (hl : ls[j + 1]? = some l) : m.a < l.a ∨ (m.a = l.a ∧ m.b < l.b) := by
  unfold gvB at h
  simp only [Bool.and_eq_true, List.all_eq_true] at h
  have := h.2 (j + 1) (by have := (List.getElem?_eq_some_iff.1 hl).1; simpa using this)
  have ha : allowsB nn l = true := by
    unfold okAt at this
    rw [hl] at this
    simp only [Bool.and_eq_true] at this
    exact this.1
  rw [okAt_succ hl (by simpa using hj) (by omega) ha] at this
  unfold beforeB at this
  simpa using this
theorem gvB_lex {nn : Int} {ls : List Lk} (h : gvB nn ls = true) {j : Nat} {m : Lk} (hj : ls[j]? = some m) : ∀ (k : Nat) (l : Lk), j < k → ls[k]? = some l → m.a < l.a ∨ (m.a = l.a ∧ m.b < l.b) := by
  intro k
  induction k with
  | zero => intro l hk; omega
  | succ k ih =>
    intro l hk hl
    have hkl : k < ls.length := by have := (List.getElem?_eq_some_iff.1 hl).1; omega
    have hq : ls[k]? = some ls[k] := List.getElem?_eq_getElem hkl
    have hn := gvB_next h hq hl
    by_cases hjk : j = k
    · subst hjk
      rw [hj] at hq
      injection hq with hq
      rw [hq]
      exact hn
    · have := ih _ (by omega) hq
      omega
theorem nbTo_hitMem {a : Int} {ls : List Lk} {j : Nat} {l : Lk} (hj : ls[j]? = some l) (ht : touchB l a = true) : (acrossI l a, j) ∈ nbTo a ls ls.length := by
  have hlt := (List.getElem?_eq_some_iff.1 hj).1
  obtain ⟨rest, hr⟩ := nbTo_prefix a ls (show j + 1 ≤ ls.length by omega)
  rw [hr, nbTo_hit hj ht]
  simp
theorem across_lt {a : Int} {l m : Lk} (hl : l.a < l.b) (hm : m.a < m.b) (tl : touchB l a = true) (tm : touchB m a = true) (h : m.a < l.a ∨ (m.a = l.a ∧ m.b < l.b)) : acrossI m a < acrossI l a := by
  unfold touchB at tl tm
  simp at tl tm
  unfold acrossI
  split <;> split <;> omega
theorem nbTo_asc {nn : Int} {ls : List Lk} (h : gvB nn ls = true) (a : Int) (k : Nat) : ((nbTo a ls k).map (·.1)).Pairwise (· < ·) := by
  induction k with
  | zero => simp [nbTo]
  | succ k ih =>
    rw [nbTo, List.map_append, List.pairwise_append]
    refine ⟨ih, ?_, fun x hx y hy => ?_⟩
    · split
      · split <;> simp
      · simp
    · obtain ⟨p, hp, rfl⟩ := List.mem_map.1 hx
      obtain ⟨j, m, hjk, hm, tm, rfl⟩ := nbTo_mem hp
      split at hy
      · rename_i l hl
        split at hy
        · rename_i tl
          simp at hy
          subst hy
          exact across_lt (gvB_ord h _ _ hl) (gvB_ord h _ _ hm) tl tm (gvB_lex h hm k l hjk hl)
        · simp at hy
      · simp at hy
theorem nb_eq {nn : Int} {ls : List Lk} (h : gvB nn ls = true) (a : Int) : (nbTo a ls ls.length).map (·.1) = nbS a ls 8 := by
  refine asc_ext _ _ (nbTo_asc h a _) (nbS_asc a ls 8) fun z => ⟨fun hz => ?_, fun hz => ?_⟩
  · obtain ⟨p, hp, rfl⟩ := List.mem_map.1 hz
    obtain ⟨j, l, _, hl, tl, rfl⟩ := nbTo_mem hp
    have hb := gvB_at h hl
    have hm := (match_iff (b := acrossI l a) (gvB_ord h _ _ hl)).1 ⟨tl, rfl⟩
    have hz0 : 0 ≤ acrossI l a ∧ acrossI l a < 8 := by unfold acrossI; split <;> omega
    obtain ⟨x, hx⟩ : ∃ x : Nat, acrossI l a = x := ⟨(acrossI l a).toNat, by omega⟩
    rw [nbS_mem]
    refine ⟨x, by omega, hx, l1I_nonneg.2 ⟨j, l, hl, ?_⟩⟩
    rw [hx] at hm
    exact hm
  · obtain ⟨x, hx, rfl, hp⟩ := nbS_mem.1 hz
    obtain ⟨j, l, hl, h1, h2⟩ := l1I_nonneg.1 hp
    obtain ⟨tl, hx⟩ := (match_iff (a := a) (b := (x : Int)) (gvB_ord h _ _ hl)).2 ⟨h1, h2⟩
    exact List.mem_map.2 ⟨_, nbTo_hitMem hl tl, hx⟩
theorem nbI_eq (nn : Int) (ls : List Lk) (a : Int) : (if gvB nn ls = true then nbS a ls 8 else []) = nbI nn ls a := by
  unfold nbI
  split
  · rename_i h
    rw [nb_eq h]
  · rfl
theorem nbI_len (nn : Int) (ls : List Lk) (a : Int) : (nbI nn ls a).length ≤ 8 := by
  rw [← nbI_eq]
  split
  · exact nbS_len a ls 8
  · simp


end Go.Proofs.Ytigamnnboojiiaa
