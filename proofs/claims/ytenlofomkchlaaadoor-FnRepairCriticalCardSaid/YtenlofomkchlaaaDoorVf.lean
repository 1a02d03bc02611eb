/-
  Plain facts: the labels of a repair, step by step, as the specification's loops make them.
-/
import Derived.Test.YtenlofomkchlaaaDoorVb
namespace Go.Proofs.YtenlofomkchlaaaDoor

theorem lastS_eq {p : Int → Bool} {l : List Int} {m : Nat} (h2 : ∀ j, m = j + 1 → ∃ y, l[j]? = some y ∧ p y = true) (h3 : ∀ i y, m ≤ i → l[i]? = some y → p y = false) : lastS p l = m := by
  obtain ⟨_, s2, s3⟩ := lastS_spec p l
  rcases Nat.lt_trichotomy (lastS p l) m with h | h | h
  · obtain ⟨y, hy, hp⟩ := h2 (m - 1) (by omega)
    rw [s3 (m - 1) y (by omega) hy] at hp
    cases hp
  · exact h
  · obtain ⟨y, hy, hp⟩ := s2 (lastS p l - 1) (by omega)
    rw [h3 (lastS p l - 1) y (by omega) hy] at hp
    cases hp
section
variable {nn : Int} {ls : List Lk} {x : Int} {p : List Int} {i : Nat} {a : Int}
theorem drop_two {b : Int} (ha : p[i]? = some a) (hb : p[i + 1]? = some b) : p.drop i = a :: b :: p.drop (i + 2) := by
  obtain ⟨h1, e1⟩ := List.getElem?_eq_some_iff.1 ha
  obtain ⟨h2, e2⟩ := List.getElem?_eq_some_iff.1 hb
  rw [List.drop_eq_getElem_cons h1, List.drop_eq_getElem_cons h2, e1, e2]
theorem repU_cons (m : Nat) (b : Int) (r : List Int) : repU nn ls x (m + 1) (a :: b :: r) = match lastS (safeB nn ls a x) (b :: r) with
    | 0 => ⟨2, linkI nn ls a b⟩ :: repU nn ls x m (b :: r)
    | j + 1 => ⟨1, ((b :: r)[j]?).getD 0⟩ :: repU nn ls x m ((b :: r).drop j) := rfl
theorem repU_link (m : Nat) {b : Int} (ha : p[i]? = some a) (hb : p[i + 1]? = some b) (h : ∀ j y, i < j → p[j]? = some y → safeB nn ls a x y = false) :
    repU nn ls x (m + 1) (p.drop i) = ⟨2, linkI nn ls a b⟩ :: repU nn ls x m (p.drop (i + 1)) := by
  have hd := drop_two ha hb
  have hd1 : p.drop (i + 1) = b :: p.drop (i + 2) := by
    obtain ⟨h2, e2⟩ := List.getElem?_eq_some_iff.1 hb
    rw [List.drop_eq_getElem_cons h2, e2]
  have hl : lastS (safeB nn ls a x) (b :: p.drop (i + 2)) = 0 := lastS_eq (fun j hj => by omega) (fun j y _ hy => by
    rw [← hd1, List.getElem?_drop] at hy
    exact h _ y (by omega) hy)
  rw [hd, hd1, repU_cons, hl]
theorem repU_node (m : Nat) {e : Nat} {y : Int} (ha : p[i]? = some a) (hie : i < e) (hy : p[e]? = some y) (hs : safeB nn ls a x y = true) (h : ∀ j z, e < j → p[j]? = some z → safeB nn ls a x z = false) :
    repU nn ls x (m + 1) (p.drop i) = ⟨1, y⟩ :: repU nn ls x m (p.drop e) := by
  have hel := (List.getElem?_eq_some_iff.1 hy).1
  obtain ⟨b, hb⟩ : ∃ b, p[i + 1]? = some b := ⟨_, List.getElem?_eq_getElem (by omega)⟩
  have hd := drop_two ha hb
  have hd1 : p.drop (i + 1) = b :: p.drop (i + 2) := by
    obtain ⟨h2, e2⟩ := List.getElem?_eq_some_iff.1 hb
    rw [List.drop_eq_getElem_cons h2, e2]
  have hyd : (b :: p.drop (i + 2))[e - i - 1]? = some y := by
    rw [← hd1, List.getElem?_drop, show i + 1 + (e - i - 1) = e by omega]
    exact hy
  have hl : lastS (safeB nn ls a x) (b :: p.drop (i + 2)) = e - i - 1 + 1 := lastS_eq (fun j hj => by
    obtain rfl : j = e - i - 1 := by omega
    exact ⟨y, hyd, hs⟩) (fun j z hj hz => by
    rw [← hd1, List.getElem?_drop] at hz
    exact h _ z (by omega) hz)
  rw [hd, repU_cons, hl]
  dsimp only
  rw [hyd, ← hd1, List.drop_drop, show i + 1 + (e - i - 1) = e by omega]
  rfl
theorem repU_last (m : Nat) (h : p.length ≤ i + 1) : repU nn ls x m (p.drop i) = [] := by
  have hl : (p.drop i).length ≤ 1 := by rw [List.length_drop]; omega
  generalize p.drop i = q at *
  match m, q, hl with
  | 0, _, _ => rfl
  | m + 1, [], _ => rfl
  | m + 1, [a], _ => rfl
  | m + 1, a :: b :: r, hl => simp at hl
end
end Go.Proofs.YtenlofomkchlaaaDoor
