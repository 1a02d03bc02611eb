/-
  The state of a law of stacks, and plain facts that the laws ask for.
-/
import Derived.Test.YtblmmmeeljidiabSu
import Derived.Test.YtblmmmeeljidiabCo
import Derived.Test.YtblmmmeeljidiabQp
import Derived.Test.YtblmmmeeljidiabQc
import Derived.Test.YtblmmmeeljidiabQx
import Derived.Test.YtblmmmeeljidiabA8
namespace Go.Proofs.Ytblmmmeeljidiab
open Go.RowKit Go.Maps

/-- The state of a law over a drawn graph and drawn labels. -/
def LC (w : World) (G : Nat) (n : Int) (ls : List Lk) (A' : Option Addr) (g' c' : Nat) (Ax : Option Addr) (gx : Nat) (st : List Lb) (wx : World) : Prop := LB w G n ls A' g' c' wx ∧ Ownb wx Ax gx st
section
variable {w w1 w2 : World} {G : Nat} {n : Int} {ls : List Lk} {A' : Option Addr} {g' c' : Nat} {Ax : Option Addr} {gx : Nat} {st : List Lb}
theorem LC.call (h : LC w G n ls A' g' c' Ax gx st w1) (hb : Below w1.heap.size w1 w2) : LC w G n ls A' g' c' Ax gx st w2 := ⟨h.1.call hb, h.2.below hb⟩
theorem LC.alloc (h : LC w G n ls A' g' c' Ax gx st w1) (o : Obj) : LC w G n ls A' g' c' Ax gx st (w1.alloc o) := ⟨h.1.alloc o, h.2.alloc o⟩
theorem LC.drew (h : LC w G n ls A' g' c' Ax gx st w1) : LC w G n ls A' g' c' Ax gx st w1.drew := ⟨h.1.drew, h.2⟩
theorem LC.sl (h : LC w G n ls A' g' c' Ax gx st w1) : Sl w1 w1.heap.size A' ls := h.1.2.1.sl
theorem LC.slb (h : LC w G n ls A' g' c' Ax gx st w1) : Slb w1 w1.heap.size Ax st := h.2.slb
theorem LC.lab (h : LC w G n ls A' g' c' Ax gx st w1) {k : Nat} {l : Lb} (hk : st[k]? = some l) :
    Ax = some ⟨gx, 0, none⟩ ∧ gx < w1.heap.size ∧ w1.cell? ⟨gx, k * 2, none⟩ = some (.int .i64 l.k) ∧ w1.cell? ⟨gx, k * 2 + 1, none⟩ = some (.int .i64 l.a) := by
  have hlt := (List.getElem?_eq_some_iff.1 hk).1
  obtain ⟨e, ha⟩ := h.2 (by omega)
  obtain ⟨cs, hh, hc⟩ := ha
  obtain ⟨h1, h2⟩ := hc k l hk
  exact ⟨e, heap_lt hh, by rw [cell_of_row w1 gx _ cs _ _ hh]; exact h1, by rw [cell_of_row w1 gx _ cs _ _ hh]; exact h2⟩
end

theorem end_nil {n : Int} {ls : List Lk} {x z : Int} (h : endI n ls x [] = some z) : x = z := by
  obtain ⟨m, z', rfl, _, _, _, he, hi⟩ := endI_inv (by rw [h]; rfl)
  rw [hi] at h; cases h
  simpa [endO] using he
theorem end_last {n : Int} {ls : List Lk} {x z : Int} {st : List Lb} (h : endI n ls x st = some z) {q : Nat} {l : Lb} (hl : st[q]? = some l) (hq : st.length = q + 1) :
    (l.k = 1 ∧ z = l.a) ∨ (l.k = 2 ∧ ∃ (j : Nat) (y : Lk), l.a = (j : Int) ∧ ls[j]? = some y ∧ (z = y.a ∨ z = y.b)) := by
  obtain ⟨m, z', rfl, hg, hs, _, he, hi⟩ := endI_inv (by rw [h]; rfl)
  rw [hi] at h; cases h
  obtain ⟨u, hu⟩ := endO_upto he q
  have hn := endO_next hu hl
  rw [show st.take (q + 1) = st by rw [← hq, List.take_length], he] at hn
  have hun := endO_node hg hs hu
  have hne := stepO_leg hn.symm
  rcases leg_kind hne with hk | hk
  · obtain ⟨z', h1, _, _, _, _, _, h7⟩ := leg_fact hg hun hne
    rw [← hn] at h1
    cases h1
    exact .inl ⟨hk, (h7 hk).1⟩
  · obtain ⟨j, y, ha, hy, ht, e⟩ := leg_link hk hne
    refine .inr ⟨hk, j, y, ha, hy, ?_⟩
    have h3 : stepO (m : Int) ls u l = some (acrossI y u) := by unfold stepO; rw [e]; rfl
    rw [h3] at hn
    cases hn
    unfold acrossI
    split
    · exact .inr rfl
    · exact .inl rfl
theorem pathS_facts {n : Int} {ls : List Lk} {x : Int} {st : List Lb} (h : 0 < (pathS n ls x st).length) :
    ∃ (m : Nat) (z : Int), n = (m : Int) ∧ gvB (m : Int) ls = true ∧ endI (m : Int) ls x st = some z ∧ (pathS n ls x st)[0]? = some x ∧ (pathS n ls x st)[(pathS n ls x st).length - 1]? = some z ∧ Way ls (pathS n ls x st) := by
  cases hs : (endI n ls x st).isSome with
  | false => rw [pathS_none hs] at h; simp at h
  | true =>
    obtain ⟨m, z, rfl, hg, _, _, _, hi⟩ := endI_inv hs
    exact ⟨m, z, rfl, hg, hi, by rw [pathS_some hs]; rfl, (pathS_end hi).1, pathS_way⟩
theorem cost_sign (n : Int) (ls : List Lk) (x : Int) (st : List Lb) : ((endI n ls x st).isSome = true → 0 ≤ costS n ls x st) ∧ (endI n ls x st = none → costS n ls x st = -1) := by
  refine ⟨fun h => ?_, fun h => costS_none (by rw [h]; rfl)⟩
  obtain ⟨m, z, rfl, hg, _⟩ := endI_inv h
  rw [costS_some h]
  exact (along_bound hg pathS_way).1

end Go.Proofs.Ytblmmmeeljidiab
