/-
  A contract over this seat: the drawn stack: labels in memory of their own.
-/
import Derived.Test.YtkcnbgimdiggoabA5
import Derived.Test.YtkcnbgimdiggoabC3
import Derived.Test.YtkcnbgimdiggoabC1
import Derived.Test.YtkcnbgimdiggoabC4
import Derived.Test.YtkcnbgimdiggoabA8
namespace Go.Proofs.Ytkcnbgimdiggoab
open Go.RowKit Go.Maps


section
variable {w w1 w2 : World} {R : Nat} {A : Option Addr} {len c : Nat} {f : Nat → Int} {P P' : Nat} {n : Int} {ls : List Lk} {A' : Option Addr} {g' c' : Nat} {v : Value} {st : List Lb}







end


theorem l1I_bound (mn mx : Int) (ls : List Lk) : -1 ≤ l1I mn mx ls ∧ l1I mn mx ls ≤ ls.length := by
  unfold l1I
  split
  · rename_i k hk
    have := (List.findIdx?_eq_some_iff_getElem.1 hk).1
    omega
  · omega
def LbOk (l : Lb) : Prop := -1 ≤ l.k ∧ l.k ≤ 16 ∧ -1 ≤ l.a ∧ l.a ≤ 16



end Go.Proofs.Ytkcnbgimdiggoab

/-
  Contracts over this seat: what the laws of stacks draw.
-/
namespace Go.Proofs.Ytkcnbgimdiggoab
open Go.RowKit Go.Maps








end Go.Proofs.Ytkcnbgimdiggoab

/-
  The state of a law of stacks, and plain facts that the laws ask for.
-/
namespace Go.Proofs.Ytkcnbgimdiggoab
open Go.RowKit Go.Maps


section
variable {w w1 w2 : World} {G : Nat} {n : Int} {ls : List Lk} {A' : Option Addr} {g' c' : Nat} {Ax : Option Addr} {gx : Nat} {st : List Lb}






end

theorem end_nil {n : Int} {ls : List Lk} {x z : Int} (h : endI n ls x [] = some z) : x = z := by
  obtain ⟨m, z', rfl, _, _, _, he, hi⟩ := endI_inv (by rw [h]; rfl)
  rw [hi] at h; cases h
  simpa [endO] using he
theorem end_last {n : Int} {ls : List Lk} {x z : Int} {st : List Lb} (h : endI n ls x st = some z) {q : Nat} {l : Lb} (hl : st[q]? = some l) (hq : st.length = q + 1) :
    (l.k = 1 ∧ z = l.a) ∨ (l.k = 2 ∧ ∃ (j : Nat) (y : Lk), l.a = (j : Int) ∧ ls[j]? = some y ∧ (z = y.a ∨ z = y.b)) := by
  obtain ⟨m, z', rfl, hg, hs, _, he, hi⟩ := endI_inv (by rw [h]; rfl)
  rw [hi] at h; cases h
  obtain ⟨u, hu⟩ := endO_upto he q
  have hn := endO_next hu hl
  rw [show st.take (q + 1) = st by rw [← hq, List.take_length], he] at hn
  have hun := endO_node hg hs hu
  have hne := stepO_leg hn.symm
  rcases leg_kind hne with hk | hk
  · obtain ⟨z', h1, _, _, _, _, _, h7⟩ := leg_fact hg hun hne
    rw [← hn] at h1
    cases h1
    exact .inl ⟨hk, (h7 hk).1⟩
  · obtain ⟨j, y, ha, hy, ht, e⟩ := leg_link hk hne
    refine .inr ⟨hk, j, y, ha, hy, ?_⟩
    have h3 : stepO (m : Int) ls u l = some (acrossI y u) := by unfold stepO; rw [e]; rfl
    rw [h3] at hn
    cases hn
    unfold acrossI
    split
    · exact .inr rfl
    · exact .inl rfl
theorem pathS_facts {n : Int} {ls : List Lk} {x : Int} {st : List Lb} (h : 0 < (pathS n ls x st).length) :
    ∃ (m : Nat) (z : Int), n = (m : Int) ∧ gvB (m : Int) ls = true ∧ endI (m : Int) ls x st = some z ∧ (pathS n ls x st)[0]? = some x ∧ (pathS n ls x st)[(pathS n ls x st).length - 1]? = some z ∧ Way ls (pathS n ls x st) := by
  cases hs : (endI n ls x st).isSome with
  | false => rw [pathS_none hs] at h; simp at h
  | true =>
    obtain ⟨m, z, rfl, hg, _, _, _, hi⟩ := endI_inv hs
    exact ⟨m, z, rfl, hg, hi, by rw [pathS_some hs]; rfl, (pathS_end hi).1, pathS_way⟩
theorem cost_sign (n : Int) (ls : List Lk) (x : Int) (st : List Lb) : ((endI n ls x st).isSome = true → 0 ≤ costS n ls x st) ∧ (endI n ls x st = none → costS n ls x st = -1) := by
  refine ⟨fun h => ?_, fun h => costS_none (by rw [h]; rfl)⟩
  obtain ⟨m, z, rfl, hg, _⟩ := endI_inv h
  rw [costS_some h]
  exact (along_bound hg pathS_way).1

end Go.Proofs.Ytkcnbgimdiggoab
