/-
  Contracts over this seat: legs asked one after the other, whether a function holds of one.
-/
import Derived.Test.YtkcnbgimdiggoabC3
import Derived.Test.YtkcnbgimdiggoabC2
import Derived.Test.YtkcnbgimdiggoabC1
namespace Go.Proofs.Ytkcnbgimdiggoab
open Go.RowKit Go.Maps





end Go.Proofs.Ytkcnbgimdiggoab

/-
  Contracts over this seat: the program's StackCost.
-/
namespace Go.Proofs.Ytkcnbgimdiggoab
open Go.RowKit Go.Maps

section
variable {n : Nat} {ls : List Lk}
theorem way_link (hv : gvB (n : Int) ls = true) {a b : Int} (h : ∃ e, Adj ls a b e) : ∃ (j : Nat) (l : Lk), linkI (n : Int) ls a b = (j : Int) ∧ ls[j]? = some l ∧ lcost (n : Int) ls a b = l.c ∧ 1 ≤ l.c ∧ l.c ≤ 20 := by
  obtain ⟨j, l, e1, e2, ha, _, _⟩ := nbI_link hv ((nbI_adj hv).2 h)
  have hb := gvB_at hv e2
  exact ⟨j, l, e1, e2, lcost_eq hv ha, by omega, by omega⟩
theorem Way.tail {x : Int} {xs : List Int} (h : Way ls (x :: xs)) : Way ls xs := fun k a b ha hb => h (k + 1) a b (by simpa using ha) (by simpa using hb)
theorem along_bound (hv : gvB (n : Int) ls = true) {xs : List Int} (h : Way ls xs) : 0 ≤ along (n : Int) ls xs ∧ along (n : Int) ls xs ≤ 20 * xs.length := by
  induction xs with
  | nil => simp [along]
  | cons a r ih =>
    cases r with
    | nil => simp [along]
    | cons b r =>
      have h1 := ih h.tail
      obtain ⟨j, l, _, _, hc, _, _⟩ := way_link hv (h 0 a b rfl rfl)
      simp only [along, List.length_cons] at h1 ⊢
      rw [hc]
      omega
theorem Way.take {xs : List Int} (h : Way ls xs) (d : Nat) : Way ls (xs.take d) := fun k a b ha hb => by
  have hk := (List.getElem?_eq_some_iff.1 hb).1
  have hkd : k + 1 < d := by simp at hk; omega
  rw [List.getElem?_take_of_lt (by omega)] at ha
  rw [List.getElem?_take_of_lt hkd] at hb
  exact h k a b ha hb
end


theorem costS_none {nn : Int} {ls : List Lk} {s : Int} {st : List Lb} (h : (endI nn ls s st).isSome = false) : costS nn ls s st = -1 := by
  unfold costS
  rw [h]; rfl
theorem costS_some {nn : Int} {ls : List Lk} {s : Int} {st : List Lb} (h : (endI nn ls s st).isSome = true) : costS nn ls s st = along nn ls (pathS nn ls s st) := by
  unfold costS pathS
  rw [if_pos h, if_pos h]


end Go.Proofs.Ytkcnbgimdiggoab

/-
  Contracts over this seat: the program's StackCrosses and StackUnique.
-/
namespace Go.Proofs.Ytkcnbgimdiggoab
open Go.RowKit Go.Maps

/-- May a packet cross the link x on this leg? -/
def legX (nn : Int) (ls : List Lk) (x : Int) (g : Lb × List Int) : Bool := if g.1.k = 1 then usedB nn ls (g.2.headD 0) g.1.a x else decide (g.1.a = x)
/-- Is there only one way on this leg? -/
def legU (nn : Int) (ls : List Lk) (g : Lb × List Int) : Bool := if g.1.k = 1 then decide (1 < countI nn ls (g.2.headD 0) g.1.a) else false
def crossS (nn : Int) (ls : List Lk) (s : Int) (st : List Lb) (x : Int) : Bool := (endI nn ls s st).isSome && (legsO nn ls s st).any (legX nn ls x)
def uniqS (nn : Int) (ls : List Lk) (s : Int) (st : List Lb) : Bool := (endI nn ls s st).isSome && !(legsO nn ls s st).any (legU nn ls)









theorem any_lp {gs : List Lg} {xs : List (Lb × List Int)} (h : gs.map Lg.lp = xs) (f : Lb × List Int → Bool) : gs.any (fun x => f x.lp) = xs.any f := by
  rw [← h, List.any_map]; rfl



end Go.Proofs.Ytkcnbgimdiggoab

/-
  Contracts over this seat: the specification's StackEnd, StackPath and StackCost.
-/
namespace Go.Proofs.Ytkcnbgimdiggoab
open Go.RowKit Go.Maps

theorem endI_none {nn : Int} {ls : List Lk} {s : Int} {st : List Lb} (h : (endI nn ls s st).isSome = false) : endI nn ls s st = none := by
  cases he : endI nn ls s st with
  | none => rfl
  | some z => rw [he] at h; cases h


/-- A slice that reads as numbers, wherever it begins. -/
def SlicI (xs : List Int) (w : World) (e : Ending) (w' : World) : Prop :=
  ∃ g o c, e = .returned (.slice (some ⟨g, o, none⟩) xs.length c) ∧ (∀ (i : Nat) (u : Int), xs[i]? = some u → w'.cell? ⟨g, o + i, none⟩ = some (.int .i64 u)) ∧ Below w.heap.size w w'


end Go.Proofs.Ytkcnbgimdiggoab

/-
  Contracts over this seat: the specification's StackPath.
-/
namespace Go.Proofs.Ytkcnbgimdiggoab
open Go.RowKit Go.Maps

/-- The nodes of the first k labels. -/
def pthK (nn : Int) (ls : List Lk) (s : Int) (st : List Lb) (k : Nat) : List Int := s :: pthO nn ls s (st.take k)


end Go.Proofs.Ytkcnbgimdiggoab

/-
  Contracts over this seat: the specification's StackCost.
-/
namespace Go.Proofs.Ytkcnbgimdiggoab
open Go.RowKit Go.Maps

theorem legsC_bound {n : Nat} {ls : List Lk} (hg : gvB (n : Int) ls = true) {st : List Lb} : ∀ {s : Int}, 0 ≤ s ∧ s < (n : Int) → 0 ≤ legsC (n : Int) ls s st ∧ legsC (n : Int) ls s st ≤ 160 * st.length := by
  obtain ⟨hf, hn1, hn8, hl14⟩ := gvB_fit hg
  induction st with
  | nil => intro s _; simp [legsC]
  | cons l st ih =>
    intro s hs
    simp only [legsC]
    cases hz : stepO (n : Int) ls s l with
    | none => simp; omega
    | some u =>
      dsimp only
      have h1 := ih (stepO_node hg hs hz)
      have hne := stepO_leg hz
      obtain ⟨_, _, _, _, hw, h8, _⟩ := leg_fact hg hs hne
      have h2 := along_bound hg hw
      rw [leg_along hg hs hz] at h2
      simp only [List.length_cons]
      omega
/-- The cost of the first k labels. -/
def cstK (nn : Int) (ls : List Lk) (s : Int) (st : List Lb) (k : Nat) : Int := legsC nn ls s (st.take k)
theorem costS_legs {nn : Int} {ls : List Lk} {s : Int} {st : List Lb} (h : (endI nn ls s st).isSome = true) : costS nn ls s st = cstK nn ls s st st.length := by
  obtain ⟨n, z, rfl, hg, hs, h8, he, -⟩ := endI_inv h
  unfold costS cstK
  rw [if_pos h, along_legs hg hs he, List.take_length]


end Go.Proofs.Ytkcnbgimdiggoab

/-
  Contracts over this seat: the specification's StackCrosses and StackUnique.
-/
namespace Go.Proofs.Ytkcnbgimdiggoab
open Go.RowKit Go.Maps

theorem legsO_full {nn : Int} {ls : List Lk} {st : List Lb} : ∀ {s z : Int}, endO nn ls s st = some z → (legsO nn ls s st).length = st.length := by
  induction st with
  | nil => intro s z _; rfl
  | cons l st ih =>
    intro s z h
    simp only [endO] at h
    simp only [legsO]
    cases hz : stepO nn ls s l with
    | none => rw [hz] at h; cases h
    | some u =>
      rw [hz] at h
      simp only [List.length_cons]
      rw [ih h]
theorem legsO_at {nn : Int} {ls : List Lk} {s z : Int} {st : List Lb} (he : endO nn ls s st = some z) {k : Nat} {x : Int} {l : Lb} (hx : endO nn ls s (st.take k) = some x) (hl : st[k]? = some l) : (legsO nn ls s st)[k]? = some (l, legP nn ls x l) := by
  have hk := (List.getElem?_eq_some_iff.1 hl).1
  obtain ⟨y, hy⟩ := endO_upto he (k + 1)
  have hs : stepO nn ls x l = some y := by rw [← endO_next hx hl]; exact hy
  have h1 := legsO_next hx hl hs
  have h2 := legsO_append (nn := nn) (ls := ls) (st.drop (k + 1)) hy
  rw [List.take_append_drop] at h2
  have h3 : (legsO nn ls s (st.take k)).length = k := by rw [legsO_full hx]; simp; omega
  rw [h2, h1, List.append_assoc, List.getElem?_append_right (by omega), h3]
  simp


theorem legU_count {n : Nat} {ls : List Lk} (hg : gvB (n : Int) ls = true) {x y : Int} (hx : 0 ≤ x ∧ x < (n : Int)) (hy : 0 ≤ y ∧ y < (n : Int)) (h0 : 0 ≤ bf (n : Int) ls x y) {g : Lb × List Int} (hk : g.1.k = 1) (ha : g.1.a = y) (hd : g.2.headD 0 = x) :
    legU (n : Int) ls g = !decide (((cntL n ls x y : Nat) : Int) = 1) := by
  unfold legU
  rw [if_pos hk, hd, ha]
  unfold countI
  rw [if_pos (vwB_of hg hx hy), Int.toNat_natCast]
  have hf := (gvB_fit hg).1
  have h1 := (cntL_pos hg hy _ x hx (Nat.le_refl _)).2 (by rw [bf_symm hf hy hx]; exact h0)
  by_cases h : ((cntL n ls x y : Nat) : Int) = 1
  · simp [h]
  · have : 1 < ((cntL n ls x y : Nat) : Int) := by omega
    rw [decide_eq_true this, decide_eq_false h]
    rfl


end Go.Proofs.Ytkcnbgimdiggoab
