/-
  Plain facts: where a route is put.
-/
import Derived.Test.YtohflcbpjjnccabTc
namespace Go.Proofs.Ytohflcbpjjnccab

section
variable {rs : List Lk} {r x : Lk} {k : Nat}
theorem ins_here (h : ∀ j y, j < k → rs[j]? = some y → rtLt y r = true) (hx : rs[k]? = some x) (h1 : rtLt x r = false) (h2 : rtLt r x = false) : insR r rs = rs.set k r ∧ hasR r rs = true := by
  refine ⟨?_, hasR_iff.2 ⟨x, List.mem_of_getElem? hx, rtLt_same h2 h1⟩⟩
  induction rs generalizing k with
  | nil => simp at hx
  | cons z zs ih =>
    cases k with
    | zero =>
      obtain rfl : z = x := by simpa using hx
      rw [insR, if_neg (by rw [h1]; exact Bool.false_ne_true), if_neg (by rw [h2]; exact Bool.false_ne_true)]
      rfl
    | succ k =>
      rw [insR, if_pos (h 0 z (Nat.succ_pos _) rfl), List.set_cons_succ, ih (k := k) (fun j y hj hy => h (j + 1) y (by omega) (by simpa using hy)) (by simpa using hx)]
theorem ins_behind (h : ∀ j y, j < k → rs[j]? = some y → rtLt y r = true) (hk : k ≤ rs.length) (hn : k = rs.length ∨ ∃ x, rs[k]? = some x ∧ rtLt x r = false ∧ rtLt r x = true) : insR r rs = rs.take k ++ r :: rs.drop k := by
  induction rs generalizing k with
  | nil =>
    obtain rfl : k = 0 := by simpa using hk
    rfl
  | cons z zs ih =>
    cases k with
    | zero =>
      rcases hn with e | ⟨x, hx, h1, h2⟩
      · simp at e
      · obtain rfl : z = x := by simpa using hx
        rw [insR, if_neg (by rw [h1]; exact Bool.false_ne_true), if_pos h2]
        rfl
    | succ k =>
      rw [insR, if_pos (h 0 z (Nat.succ_pos _) rfl), ih (k := k) (fun j y hj hy => h (j + 1) y (by omega) (by simpa using hy)) (by simpa using hk) (by
        rcases hn with e | ⟨x, hx, h1, h2⟩
        · exact .inl (by simpa using e)
        · exact .inr ⟨x, by simpa using hx, h1, h2⟩)]
      rfl
theorem has_no (hasc : Asc rs) (h : ∀ j y, j < k → rs[j]? = some y → rtLt y r = true) (hn : k = rs.length ∨ ∃ x, rs[k]? = some x ∧ rtLt x r = false ∧ rtLt r x = true) : hasR r rs = false := by
  cases hh : hasR r rs with
  | false => rfl
  | true =>
    exfalso
    obtain ⟨z, hz, hs⟩ := hasR_iff.1 hh
    rw [sameR_iff] at hs
    obtain ⟨j, hj⟩ := List.getElem?_of_mem hz
    have hjl := (List.getElem?_eq_some_iff.1 hj).1
    by_cases hjk : j < k
    · have := h j z hjk hj
      rw [rtLt_iff] at this
      omega
    · rcases hn with e | ⟨x, hx, _, h2⟩
      · omega
      · have hkl := (List.getElem?_eq_some_iff.1 hx).1
        rw [rtLt_iff] at h2
        by_cases e : j = k
        · subst e
          rw [hx] at hj
          cases hj
          omega
        · have h3 := List.pairwise_iff_getElem.1 hasc k j hkl hjl (by omega)
          rw [(List.getElem?_eq_some_iff.1 hx).2, (List.getElem?_eq_some_iff.1 hj).2, rtLt_iff] at h3
          omega
end
end Go.Proofs.Ytohflcbpjjnccab
