/-
  The iterator over a node's neighbours, over this seat: for every loop body that keeps what lay before, the neighbours come in the order of the links, each with its link's index.
-/
import Derived.RangeFuncNested
import Derived.RangeFuncBound
import Derived.RangeFuncCalls
import Derived.RangeFuncLeaves
import Derived.RangeFuncBox
import Derived.Shelf.Abstract
import Derived.Shelf.RegionOpen
import Derived.WalkKit
import Derived.OwnWalkIn
import Derived.TacticsInMore
import Derived.LoopNIn
import Derived.LoopIn
import Derived.Maps.AppendAt
import Derived.Test.YtohflcbpjjnccabA2
import Derived.Maps.OwnIn
namespace Go.Proofs.Ytohflcbpjjnccab
open Go.RowKit Go.Shelf

attribute [local go_sem] Oper.semAt_some

def touchB (l : Lk) (n : Int) : Bool := decide (l.a = n) || decide (l.b = n)
def acrossI (l : Lk) (n : Int) : Int := if l.a = n then l.b else l.a



/-- What has come when k links have been looked at. -/
def nbTo (n : Int) (ls : List Lk) : Nat → List (Int × Nat)
  | 0 => []
  | k + 1 => nbTo n ls k ++ (match ls[k]? with
    | some l => if touchB l n = true then [(acrossI l n, k)] else []
    | none => [])
theorem nbTo_len (n : Int) (ls : List Lk) (k : Nat) : (nbTo n ls k).length ≤ k := by
  induction k with
  | zero => simp [nbTo]
  | succ k ih =>
    simp only [nbTo, List.length_append]
    split
    · split <;> simp <;> omega
    · simp; omega
theorem nbTo_hit {n : Int} {ls : List Lk} {k : Nat} {l : Lk} (h : ls[k]? = some l) (ht : touchB l n = true) : nbTo n ls (k + 1) = nbTo n ls k ++ [(acrossI l n, k)] := by
  simp [nbTo, h, ht]
theorem nbTo_miss {n : Int} {ls : List Lk} {k : Nat} {l : Lk} (h : ls[k]? = some l) (ht : touchB l n = false) : nbTo n ls (k + 1) = nbTo n ls k := by
  simp [nbTo, h, ht]

theorem below_grown {w w' : World} (h : Below w.heap.size w w') : w.grownBy w' none := ⟨h.os, h.tape, h.output, h.size, fun k hk _ => h.block k hk⟩
theorem abides_below {β : Type} {B : Nat} {J : β → World → Prop} (hJ : AbidesFrom B J) {s : β} {W W' : World} (h : J s W) (hb : Below W.heap.size W W') : J s W' :=
  hJ s W W' none h (below_grown hb) (fun r e => by cases e)

/-- The blocks in P lie as they lay. -/
def KeepB (P : Nat → Prop) (W W' : World) : Prop := W.heap.size ≤ W'.heap.size ∧ ∀ k, P k → W'.heap[k]? = W.heap[k]?
theorem KeepB.refl (P : Nat → Prop) (W : World) : KeepB P W W := ⟨Nat.le_refl _, fun _ _ => rfl⟩
theorem KeepB.trans {P : Nat → Prop} {A B C : World} (h : KeepB P A B) (k : KeepB P B C) : KeepB P A C := ⟨Nat.le_trans h.1 k.1, fun i hi => (k.2 i hi).trans (h.2 i hi)⟩
theorem KeepB.of_below {P : Nat → Prop} {A B : World} (h : Below A.heap.size A B) (hP : ∀ k, P k → k < A.heap.size) : KeepB P A B := ⟨h.size, fun i hi => h.block i (hP i hi)⟩
theorem KeepB.put {P : Nat → Prop} {w : World} (hP : ∀ k, P k → k < w.heap.size) (W : World) (l : Nat) (o o' : Obj) (hl : w.heap.size ≤ l) (_h : W.heap[l]? = some o) : KeepB P W (W.putObj l o') := by
  refine ⟨by simp [World.putObj], fun k hk => ?_⟩
  have := hP k hk
  simp [World.putObj, show l ≠ k by omega]
theorem Sl.keepB {P : Nat → Prop} {W W' : World} {B : Nat} {A : Option Addr} {ls : List Lk} (h : Sl W B A ls) (hk : KeepB P W W') (hP : ∀ b, b < B → P b) : Sl W' B A ls :=
  h.keep fun b o hb => World.cell?_of_block (a := ⟨b, o, none⟩) (hk.2 b (hP b hb))


end Go.Proofs.Ytohflcbpjjnccab

/-
  Contracts over this seat: GraphLink, of the program and of the specification.
-/
namespace Go.Proofs.Ytohflcbpjjnccab
open Go.RowKit Go.Shelf

attribute [local go_sem] Oper.semAt_some



/-- The link's index of the first neighbour that is b, or -1. -/
def glI (b : Int) : List (Int × Nat) → Int
  | [] => -1
  | p :: ps => if p.1 = b then (p.2 : Int) else glI b ps
theorem glI_none (b : Int) (ps : List (Int × Nat)) (h : ∀ p ∈ ps, p.1 ≠ b) : glI b ps = -1 := by
  induction ps with
  | nil => rfl
  | cons p ps ih =>
    unfold glI
    rw [if_neg (h p (by simp))]
    exact ih fun q hq => h q (by simp [hq])
theorem glI_some (b : Int) (ini : List (Int × Nat)) (last : Int × Nat) (rest : List (Int × Nat)) (h : ∀ p ∈ ini, p.1 ≠ b) (hl : last.1 = b) : glI b (ini ++ [last] ++ rest) = (last.2 : Int) := by
  induction ini with
  | nil => simp [glI, hl]
  | cons p ps ih =>
    rw [List.cons_append, List.cons_append]
    unfold glI
    rw [if_neg (h p (by simp))]
    exact ih fun q hq => h q (by simp [hq])
theorem nbTo_prefix (n : Int) (ls : List Lk) {k m : Nat} (h : k ≤ m) : ∃ rest, nbTo n ls m = nbTo n ls k ++ rest := by
  induction m with
  | zero =>
    obtain rfl : k = 0 := by omega
    exact ⟨[], by simp⟩
  | succ m ih =>
    by_cases hk : k = m + 1
    · subst hk
      exact ⟨[], by simp⟩
    · obtain ⟨r, hr⟩ := ih (by omega)
      exact ⟨_, by rw [nbTo, hr, List.append_assoc]⟩

def linkI (nn : Int) (ls : List Lk) (a b : Int) : Int := if gvB nn ls = true then glI b (nbTo a ls ls.length) else -1


/-! ### The specification's -/
/-- The first link between mn and mx, or -1. -/
def l1I (mn mx : Int) (ls : List Lk) : Int := match ls.findIdx? (fun l => decide (l.a = mn) && decide (l.b = mx)) with
  | some k => (k : Int)
  | none => -1
theorem l1I_none {mn mx : Int} {ls : List Lk} (h : ∀ (j : Nat) (l : Lk), ls[j]? = some l → ¬ (l.a = mn ∧ l.b = mx)) : l1I mn mx ls = -1 := by
  unfold l1I
  rw [List.findIdx?_eq_none_iff.2]
  intro l hl
  obtain ⟨j, hj⟩ := List.getElem?_of_mem hl
  simpa using h j l hj
theorem l1I_some {mn mx : Int} {ls : List Lk} {k : Nat} {l : Lk} (hk : ls[k]? = some l) (ha : l.a = mn) (hb : l.b = mx) (h : ∀ (j : Nat) (l : Lk), j < k → ls[j]? = some l → ¬ (l.a = mn ∧ l.b = mx)) : l1I mn mx ls = (k : Int) := by
  unfold l1I
  have hlt := (List.getElem?_eq_some_iff.1 hk).1
  have he := (List.getElem?_eq_some_iff.1 hk).2
  rw [show ls.findIdx? (fun l => decide (l.a = mn) && decide (l.b = mx)) = some k from ?_]
  rw [List.findIdx?_eq_some_iff_getElem]
  refine ⟨hlt, by rw [he]; simp [ha, hb], fun j hj => ?_⟩
  have := h j ls[j] hj (List.getElem?_eq_getElem (by omega))
  simpa using this

theorem l1_next {mn mx : Int} {ls : List Lk} {k : Nat} {lk : Lk} (h : ∀ (j : Nat) (l : Lk), j < k → ls[j]? = some l → ¬ (l.a = mn ∧ l.b = mx)) (hk : ls[k]? = some lk) (hno : ¬ (lk.a = mn ∧ lk.b = mx)) :
    ∀ (j : Nat) (l : Lk), j < k + 1 → ls[j]? = some l → ¬ (l.a = mn ∧ l.b = mx) := by
  intro j l hj hl
  by_cases hjk : j < k
  · exact h j l hjk hl
  · obtain rfl : j = k := by omega
    rw [hk] at hl
    cases hl
    exact hno



/-! ### Both are one -/
theorem gvB_ord {nn : Int} {ls : List Lk} (h : gvB nn ls = true) : ∀ (j : Nat) (l : Lk), ls[j]? = some l → l.a < l.b := by
  intro j l hj
  unfold gvB at h
  simp only [Bool.and_eq_true, List.all_eq_true] at h
  have := h.2 j (by have := (List.getElem?_eq_some_iff.1 hj).1; simpa using this)
  unfold okAt at this
  rw [hj] at this
  simp only [Bool.and_eq_true] at this
  have h2 := this.1
  unfold allowsB at h2
  simp at h2
  exact h2.1.2
theorem nbTo_mem {n : Int} {ls : List Lk} {k : Nat} {p : Int × Nat} (h : p ∈ nbTo n ls k) : ∃ j l, j < k ∧ ls[j]? = some l ∧ touchB l n = true ∧ p = (acrossI l n, j) := by
  induction k with
  | zero => simp [nbTo] at h
  | succ k ih =>
    simp only [nbTo, List.mem_append] at h
    rcases h with h | h
    · obtain ⟨j, l, hj, r⟩ := ih h
      exact ⟨j, l, by omega, r⟩
    · split at h
      · rename_i l hl
        split at h
        · rename_i ht
          exact ⟨k, l, by omega, hl, ht, by simpa using h⟩
        · simp at h
      · simp at h
theorem match_iff {l : Lk} {a b : Int} (h : l.a < l.b) : (touchB l a = true ∧ acrossI l a = b) ↔ (l.a = min a b ∧ l.b = max a b) := by
  unfold touchB acrossI
  simp
  split <;> omega
theorem link_eq {nn : Int} {ls : List Lk} (h : gvB nn ls = true) (a b : Int) : glI b (nbTo a ls ls.length) = l1I (min a b) (max a b) ls := by
  have ho := gvB_ord h
  cases hf : ls.findIdx? (fun l => decide (l.a = min a b) && decide (l.b = max a b)) with
  | none =>
    have hn : ∀ (j : Nat) (l : Lk), ls[j]? = some l → ¬ (l.a = min a b ∧ l.b = max a b) := fun j l hj => by
      have := List.findIdx?_eq_none_iff.1 hf l (List.mem_of_getElem? hj)
      simpa using this
    rw [l1I_none hn, glI_none]
    intro p hp e
    obtain ⟨j, l, _, hl, ht, rfl⟩ := nbTo_mem hp
    exact hn j l hl ((match_iff (ho j l hl)).1 ⟨ht, e⟩)
  | some k =>
    obtain ⟨hk, hk1, hk2⟩ := List.findIdx?_eq_some_iff_getElem.1 hf
    have hl : ls[k]? = some ls[k] := List.getElem?_eq_getElem hk
    have hmt : ls[k].a = min a b ∧ ls[k].b = max a b := by simpa using hk1
    have hno : ∀ (j : Nat) (l : Lk), j < k → ls[j]? = some l → ¬ (l.a = min a b ∧ l.b = max a b) := fun j l hj he => by
      have := hk2 j hj
      have e := (List.getElem?_eq_some_iff.1 he).2
      rw [e] at this
      simpa using this
    rw [l1I_some hl hmt.1 hmt.2 hno]
    obtain ⟨ht, hx⟩ := (match_iff (ho k _ hl)).2 hmt
    obtain ⟨rest, hr⟩ := nbTo_prefix a ls (show k + 1 ≤ ls.length by omega)
    rw [hr, nbTo_hit hl ht, hx]
    refine glI_some b _ _ rest (fun p hp e => ?_) rfl
    obtain ⟨j, l, hj, he, ht', rfl⟩ := nbTo_mem hp
    exact hno j l hj he ((match_iff (ho j l he)).1 ⟨ht', e⟩)
theorem linkI_eq (nn : Int) (ls : List Lk) (a b : Int) : (if gvB nn ls = true then l1I (min a b) (max a b) ls else -1) = linkI nn ls a b := by
  unfold linkI
  split
  · rename_i h
    rw [link_eq h]
  · rfl

end Go.Proofs.Ytohflcbpjjnccab

/-
  Contracts over this seat: the program's GraphNeighbours.
-/
namespace Go.Proofs.Ytohflcbpjjnccab
open Go.RowKit Go.Shelf Go.Maps

attribute [local go_sem] Oper.semAt_some

theorem infoInt : (Try.prog.info? 3).map (fun i => (i.zero, i.size, i.bytes)) = some (some (.int .i64 0), 1, 8) := by kernel_rfl

/-- The neighbours, as they come. -/
def nbI (nn : Int) (ls : List Lk) (n : Int) : List Int := if gvB nn ls = true then (nbTo n ls ls.length).map (·.1) else []

/-- A slice of numbers in memory of its own. -/
def NewI (xs : List Int) (w : World) (e : Ending) (w' : World) : Prop :=
  ∃ A g c, e = .returned (.slice A xs.length c) ∧ w.heap.size ≤ g ∧ Own1i w' A g xs ∧ Below w.heap.size w w'

theorem own_slicei {w : World} {base n : Nat} {v : Value} {xs : List Int} (h : w.ownsRow base 3 1 v n (xs.map (Value.int .i64))) (hb : base ≤ w.heap.size) :
    ∃ A g c, v = .slice A xs.length c ∧ base ≤ g ∧ n = xs.length ∧ Own1i w A g xs := by
  have hn : n = xs.length := by have := h.1; simp at this; omega
  subst hn
  rcases h.2 with ⟨rfl, h0⟩ | ⟨g, cap, cur, rfl, hbg, hh, hn, _, hs, ht⟩
  · exact ⟨none, w.heap.size, 0, by rw [h0], hb, rfl, fun hp => by omega⟩
  · refine ⟨_, g, cap, rfl, hbg, rfl, fun _ => ⟨rfl, cur, hh, fun k x hk => ?_⟩⟩
    have hkl : k < xs.length := (List.getElem?_eq_some_iff.1 hk).1
    have h1 : (xs.map (Value.int .i64))[k]? = some (.int .i64 x) := by rw [List.getElem?_map, hk]; rfl
    rw [← ht, List.getElem?_take_of_lt (by omega), Array.getElem?_toList] at h1
    exact h1


end Go.Proofs.Ytohflcbpjjnccab

/-
  Contracts over this seat: the specification's GraphNeighbours; both lists are the same.
-/
namespace Go.Proofs.Ytohflcbpjjnccab
open Go.RowKit

def nbS (a : Int) (ls : List Lk) : Nat → List Int
  | 0 => []
  | k + 1 => nbS a ls k ++ (if 0 ≤ l1I (min a k) (max a k) ls then [(k : Int)] else [])
theorem nbS_len (a : Int) (ls : List Lk) (k : Nat) : (nbS a ls k).length ≤ k := by
  induction k with
  | zero => simp [nbS]
  | succ k ih =>
    simp only [nbS, List.length_append]
    split <;> simp <;> omega
theorem owns_kept {w w' : World} {base e size n : Nat} {v : Value} {xs : List Value} (h : w.ownsRow base e size v n xs) (hb : Below w.heap.size w w') : w'.ownsRow base e size v n xs :=
  h.kept (below_grown hb) (by
    by_cases h : v.ownBlock = none
    · exact .inl h
    · exact .inr h)


/-! ### Both lists are one -/
theorem asc_ext : ∀ (xs ys : List Int), xs.Pairwise (· < ·) → ys.Pairwise (· < ·) → (∀ z, z ∈ xs ↔ z ∈ ys) → xs = ys
  | [], [], _, _, _ => rfl
  | [], y :: ys, _, _, h => absurd ((h y).2 (by simp)) (by simp)
  | x :: xs, [], _, _, h => absurd ((h x).1 (by simp)) (by simp)
  | x :: xs, y :: ys, hx, hy, h => by
    rw [List.pairwise_cons] at hx hy
    have hxy : x = y := by
      rcases List.mem_cons.1 ((h x).1 (by simp)) with e | e
      · exact e
      · rcases List.mem_cons.1 ((h y).2 (by simp)) with e' | e'
        · exact e'.symm
        · have := hx.1 y e'
          have := hy.1 x e
          omega
    subst hxy
    rw [asc_ext xs ys hx.2 hy.2 fun z => ⟨fun hz => ?_, fun hz => ?_⟩]
    · rcases List.mem_cons.1 ((h z).1 (by simp [hz])) with e | e
      · have := hx.1 z hz; omega
      · exact e
    · rcases List.mem_cons.1 ((h z).2 (by simp [hz])) with e | e
      · have := hy.1 z hz; omega
      · exact e
theorem nbS_mem {a : Int} {ls : List Lk} {k : Nat} {z : Int} : z ∈ nbS a ls k ↔ ∃ x : Nat, x < k ∧ z = x ∧ 0 ≤ l1I (min a x) (max a x) ls := by
  induction k with
  | zero => simp [nbS]
  | succ k ih =>
    simp only [nbS, List.mem_append, ih]
    constructor
    · rintro (⟨x, h1, h2⟩ | h)
      · exact ⟨x, by omega, h2⟩
      · split at h
        · rename_i hp
          simp at h
          exact ⟨k, by omega, h, hp⟩
        · simp at h
    · rintro ⟨x, h1, h2, h3⟩
      by_cases hx : x < k
      · exact .inl ⟨x, hx, h2, h3⟩
      · obtain rfl : x = k := by omega
        right
        rw [if_pos h3]
        simpa using h2
theorem nbS_asc (a : Int) (ls : List Lk) (k : Nat) : (nbS a ls k).Pairwise (· < ·) := by
  induction k with
  | zero => simp [nbS]
  | succ k ih =>
    rw [nbS, List.pairwise_append]
    refine ⟨ih, by split <;> simp, fun x hx y hy => ?_⟩
    obtain ⟨i, hi, rfl, _⟩ := nbS_mem.1 hx
    split at hy
    · simp at hy; omega
    · simp at hy
theorem l1I_nonneg {mn mx : Int} {ls : List Lk} : 0 ≤ l1I mn mx ls ↔ ∃ (j : Nat) (l : Lk), ls[j]? = some l ∧ l.a = mn ∧ l.b = mx := by
  unfold l1I
  cases hf : ls.findIdx? (fun l => decide (l.a = mn) && decide (l.b = mx)) with
  | none =>
    refine ⟨fun h => absurd h (by simp), fun ⟨j, l, hj, h1, h2⟩ => ?_⟩
    have := List.findIdx?_eq_none_iff.1 hf l (List.mem_of_getElem? hj)
    simp [h1, h2] at this
  | some k =>
    obtain ⟨hk, hk1, _⟩ := List.findIdx?_eq_some_iff_getElem.1 hf
    have hmt : ls[k].a = mn ∧ ls[k].b = mx := by simpa using hk1
    exact ⟨fun _ => ⟨k, ls[k], List.getElem?_eq_getElem hk, hmt⟩, fun _ => by simp⟩
theorem gvB_at {nn : Int} {ls : List Lk} (h : gvB nn ls = true) {j : Nat} {l : Lk} (hj : ls[j]? = some l) : 0 ≤ l.a ∧ l.a < l.b ∧ l.b < nn ∧ nn ≤ 8 ∧ 1 ≤ l.c ∧ l.c ≤ 20 := by
  unfold gvB at h
  simp only [Bool.and_eq_true, List.all_eq_true] at h
  have := h.2 j (by have := (List.getElem?_eq_some_iff.1 hj).1; simpa using this)
  unfold okAt at this
  rw [hj] at this
  simp only [Bool.and_eq_true] at this
  have h2 := this.1
  have h3 := h.1.1
  unfold allowsB inB at h2
  unfold inB at h3
  simp at h2 h3
  omega
theorem gvB_next {nn : Int} {ls : List Lk} (h : gvB nn ls = true) {j : Nat} {l m : Lk} (hj : ls[j]? = some m) (hl : ls[j + 1]? = some l) : m.a < l.a ∨ (m.a = l.a ∧ m.b < l.b) := by
  unfold gvB at h
  simp only [Bool.and_eq_true, List.all_eq_true] at h
  have := h.2 (j + 1) (by have := (List.getElem?_eq_some_iff.1 hl).1; simpa using this)
  have ha : allowsB nn l = true := by
    unfold okAt at this
    rw [hl] at this
    simp only [Bool.and_eq_true] at this
    exact this.1
  rw [okAt_succ hl (by simpa using hj) (by omega) ha] at this
  unfold beforeB at this
  simpa using this
theorem gvB_lex {nn : Int} {ls : List Lk} (h : gvB nn ls = true) {j : Nat} {m : Lk} (hj : ls[j]? = some m) : ∀ (k : Nat) (l : Lk), j < k → ls[k]? = some l → m.a < l.a ∨ (m.a = l.a ∧ m.b < l.b) := by
  intro k
  induction k with
  | zero => intro l hk; omega
  | succ k ih =>
    intro l hk hl
    have hkl : k < ls.length := by have := (List.getElem?_eq_some_iff.1 hl).1; omega
    have hq : ls[k]? = some ls[k] := List.getElem?_eq_getElem hkl
    have hn := gvB_next h hq hl
    by_cases hjk : j = k
    · subst hjk
      rw [hj] at hq
      injection hq with hq
      rw [hq]
      exact hn
    · have := ih _ (by omega) hq
      omega
theorem nbTo_hitMem {a : Int} {ls : List Lk} {j : Nat} {l : Lk} (hj : ls[j]? = some l) (ht : touchB l a = true) : (acrossI l a, j) ∈ nbTo a ls ls.length := by
  have hlt := (List.getElem?_eq_some_iff.1 hj).1
  obtain ⟨rest, hr⟩ := nbTo_prefix a ls (show j + 1 ≤ ls.length by omega)
  rw [hr, nbTo_hit hj ht]
  simp
theorem across_lt {a : Int} {l m : Lk} (hl : l.a < l.b) (hm : m.a < m.b) (tl : touchB l a = true) (tm : touchB m a = true) (h : m.a < l.a ∨ (m.a = l.a ∧ m.b < l.b)) : acrossI m a < acrossI l a := by
  unfold touchB at tl tm
  simp at tl tm
  unfold acrossI
  split <;> split <;> omega
theorem nbTo_asc {nn : Int} {ls : List Lk} (h : gvB nn ls = true) (a : Int) (k : Nat) : ((nbTo a ls k).map (·.1)).Pairwise (· < ·) := by
  induction k with
  | zero => simp [nbTo]
  | succ k ih =>
    rw [nbTo, List.map_append, List.pairwise_append]
    refine ⟨ih, ?_, fun x hx y hy => ?_⟩
    · split
      · split <;> simp
      · simp
    · obtain ⟨p, hp, rfl⟩ := List.mem_map.1 hx
      obtain ⟨j, m, hjk, hm, tm, rfl⟩ := nbTo_mem hp
      split at hy
      · rename_i l hl
        split at hy
        · rename_i tl
          simp at hy
          subst hy
          exact across_lt (gvB_ord h _ _ hl) (gvB_ord h _ _ hm) tl tm (gvB_lex h hm k l hjk hl)
        · simp at hy
      · simp at hy
theorem nb_eq {nn : Int} {ls : List Lk} (h : gvB nn ls = true) (a : Int) : (nbTo a ls ls.length).map (·.1) = nbS a ls 8 := by
  refine asc_ext _ _ (nbTo_asc h a _) (nbS_asc a ls 8) fun z => ⟨fun hz => ?_, fun hz => ?_⟩
  · obtain ⟨p, hp, rfl⟩ := List.mem_map.1 hz
    obtain ⟨j, l, _, hl, tl, rfl⟩ := nbTo_mem hp
    have hb := gvB_at h hl
    have hm := (match_iff (b := acrossI l a) (gvB_ord h _ _ hl)).1 ⟨tl, rfl⟩
    have hz0 : 0 ≤ acrossI l a ∧ acrossI l a < 8 := by unfold acrossI; split <;> omega
    obtain ⟨x, hx⟩ : ∃ x : Nat, acrossI l a = x := ⟨(acrossI l a).toNat, by omega⟩
    rw [nbS_mem]
    refine ⟨x, by omega, hx, l1I_nonneg.2 ⟨j, l, hl, ?_⟩⟩
    rw [hx] at hm
    exact hm
  · obtain ⟨x, hx, rfl, hp⟩ := nbS_mem.1 hz
    obtain ⟨j, l, hl, h1, h2⟩ := l1I_nonneg.1 hp
    obtain ⟨tl, hx⟩ := (match_iff (a := a) (b := (x : Int)) (gvB_ord h _ _ hl)).2 ⟨h1, h2⟩
    exact List.mem_map.2 ⟨_, nbTo_hitMem hl tl, hx⟩
theorem nbI_eq (nn : Int) (ls : List Lk) (a : Int) : (if gvB nn ls = true then nbS a ls 8 else []) = nbI nn ls a := by
  unfold nbI
  split
  · rename_i h
    rw [nb_eq h]
  · rfl
theorem nbI_len (nn : Int) (ls : List Lk) (a : Int) : (nbI nn ls a).length ≤ 8 := by
  rw [← nbI_eq]
  split
  · exact nbS_len a ls 8
  · simp


end Go.Proofs.Ytohflcbpjjnccab
