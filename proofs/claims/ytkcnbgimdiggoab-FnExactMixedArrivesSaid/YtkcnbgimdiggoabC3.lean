/-
  Contracts over this seat: the specification's stacks: the step of a label, the nodes of a stack.
-/
import Derived.Test.YtkcnbgimdiggoabC1
import Derived.Test.YtkcnbgimdiggoabC2
import Derived.Handy
namespace Go.Proofs.Ytkcnbgimdiggoab
open Go.RowKit Go.Maps

def stepV (o : Option Int) : Value := match o with
  | some z => .tuple #[.int .i64 z, .bool true]
  | none => .tuple #[.int .i64 0, .bool false]
theorem stepO_node1 {n : Nat} {ls : List Lk} {s : Int} (hg : gvB (n : Int) ls = true) (hs : 0 ≤ s ∧ s < (n : Int)) {a : Int} : stepO (n : Int) ls s ⟨1, a⟩ = if (0 ≤ a ∧ a < (n : Int)) ∧ 0 ≤ bf (n : Int) ls s a then some a else none := by
  obtain ⟨hf, _⟩ := gvB_fit hg
  have e : legP (n : Int) ls s ⟨1, a⟩ = pathI (n : Int) ls s a := by unfold legP; rw [if_pos rfl]
  split
  · rename_i h
    obtain ⟨ha, h0⟩ := h
    have hne : legP (n : Int) ls s ⟨1, a⟩ ≠ [] := by
      rw [e]
      have hp := path_isP (vwB_of hg hs ha) (by rw [bf_symm hf ha hs]; exact h0)
      unfold pathI
      rw [Int.toNat_natCast]
      intro he
      have := hp.head.2
      rw [he] at this
      simp at this
    obtain ⟨z, h1, _, _, _, _, _, h2⟩ := leg_fact hg hs hne
    rw [h1, (h2 rfl).1]
  · rename_i h
    rw [stepO_none, e]
    apply Classical.byContradiction
    intro hne
    obtain ⟨m, hm, hv, h0, _⟩ := pathI_some hne
    obtain rfl : n = m := by omega
    obtain ⟨_, _, ht⟩ := vwB_two hv
    exact h ⟨ht, by rw [bf_symm hf hs ht]; exact h0⟩
theorem stepO_link2 {nn : Int} {ls : List Lk} {s : Int} {j : Nat} {x : Lk} (hx : ls[j]? = some x) : stepO nn ls s ⟨2, (j : Int)⟩ = if x.a = s then some x.b else if x.b = s then some x.a else none := by
  unfold stepO legP
  dsimp only
  rw [if_neg (by decide), if_pos rfl, if_pos (by omega), Int.toNat_natCast, hx]
  dsimp only
  unfold touchB acrossI
  by_cases h1 : x.a = s
  · simp [h1]
  · by_cases h2 : x.b = s
    · simp [h1, h2]
    · simp [h1, h2]
theorem stepO_out {nn : Int} {ls : List Lk} {s a : Int} (h : inB a 0 ((ls.length : Int) - 1) = false) : stepO nn ls s ⟨2, a⟩ = none := by
  rw [stepO_none]
  unfold legP
  dsimp only
  rw [if_neg (by decide), if_pos rfl]
  split
  · unfold inB at h
    simp at h
    rw [List.getElem?_eq_none (by omega)]
  · rfl
theorem stepO_other {nn : Int} {ls : List Lk} {s k a : Int} (h1 : k ≠ 1) (h2 : k ≠ 2) : stepO nn ls s ⟨k, a⟩ = none := by
  rw [stepO_none]
  unfold legP
  rw [if_neg h1, if_neg h2]


end Go.Proofs.Ytkcnbgimdiggoab

/-
  Contracts over this seat: what a label says, and the way that it stands for, called through the interface.
-/
namespace Go.Proofs.Ytkcnbgimdiggoab
open Go.RowKit Go.Maps








theorem newC_alloc {xs : List Int} {w : World} {o : Obj} {e : Ending} {w' : World} (h : NewC xs (w.alloc o) e w') : NewC xs w e w' := by
  obtain ⟨A, g, c, h1, h2, h3, h4, h5⟩ := h
  simp only [World.size_alloc] at h2 h4
  exact ⟨A, g, c, h1, by omega, h3, Below.trans (by (repeat (first | exact Below.refl _ _ | (refine Below.alloc ?_ (by first | exact Nat.le_refl _ | omega | (simp; done) | (simp; omega)) _) | (refine Below.setCell ?_ (by first | exact Nat.le_refl _ | omega | (simp; done) | (simp; omega)) _) | exact Below.drew ‹_›))) (h4.mono (by omega)), h5⟩




end Go.Proofs.Ytkcnbgimdiggoab

/-
  Contracts over this seat: legs: the way of a packet, label by label.
-/
namespace Go.Proofs.Ytkcnbgimdiggoab
open Go.RowKit Go.Maps


/-- The ways of labels, one after the other. -/
def legsO (nn : Int) (ls : List Lk) : Int → List Lb → List (Lb × List Int)
  | _, [] => []
  | s, l :: st => match stepO nn ls s l with
    | some z => (l, legP nn ls s l) :: legsO nn ls z st
    | none => []
theorem legsO_append {nn : Int} {ls : List Lk} {s z : Int} {x : List Lb} (y : List Lb) (h : endO nn ls s x = some z) : legsO nn ls s (x ++ y) = legsO nn ls s x ++ legsO nn ls z y := by
  induction x generalizing s with
  | nil => simp only [endO, Option.some.injEq] at h; subst h; rfl
  | cons l x ih =>
    simp only [endO] at h
    simp only [List.cons_append, legsO]
    cases hs : stepO nn ls s l with
    | none => rw [hs] at h; cases h
    | some u =>
      rw [hs] at h
      dsimp only at h ⊢
      rw [ih h]; rfl
theorem legsO_next {nn : Int} {ls : List Lk} {s x z : Int} {st : List Lb} {k : Nat} {l : Lb} (h : endO nn ls s (st.take k) = some x) (hl : st[k]? = some l) (hz : stepO nn ls x l = some z) :
    legsO nn ls s (st.take (k + 1)) = legsO nn ls s (st.take k) ++ [(l, legP nn ls x l)] := by
  rw [take_succ' hl, legsO_append _ h]
  simp [legsO, hz]

/-- A leg in memory: its label, its nodes and where they lie. -/
structure Lg where
  l : Lb
  p : List Int
  A : Option Addr
  g : Nat
  c : Nat
abbrev Lg.lp (x : Lg) : Lb × List Int := (x.l, x.p)








theorem new2v (w : World) (x y : Value) (t : TypeId) : ∀ j u, [x, y][j]? = some u → (w.alloc (.cells #[x, y] t)).cell? ((⟨w.heap.size, 0, none⟩ : Addr).add j) = some u := by
  intro j u h
  have e : (⟨w.heap.size, 0, none⟩ : Addr).add j = ⟨w.heap.size, j, none⟩ := by
    unfold Addr.add
    by_cases hj : j = 0 <;> simp [hj]
  rw [e, (Box.new w t #[x, y]).cell j]
  simpa using h
theorem one2v (x y : Value) (hx : x.oneCell' = true) (hy : y.oneCell' = true) : ∀ u ∈ [x, y], u.oneCell' = true := by
  intro u hu
  simp at hu
  rcases hu with rfl | rfl
  · exact hx
  · exact hy








theorem stB_inv {nn : Int} {ls : List Lk} {s : Int} {st : List Lb} (h : stB nn ls s st = true) : gvB nn ls = true ∧ (0 ≤ s ∧ s < nn) ∧ st.length ≤ 8 := by
  unfold stB at h
  simp only [Bool.and_eq_true, decide_eq_true_eq] at h
  exact ⟨(vwB_inv h.1).1, (vwB_inv h.1).2, h.2⟩


end Go.Proofs.Ytkcnbgimdiggoab

/-
  Contracts over this seat: the specification's nodes of a stack, and the nodes of one label.
-/
namespace Go.Proofs.Ytkcnbgimdiggoab
open Go.RowKit Go.Maps

/-- The nodes at the beginning of the first k labels, and the next one. -/
def ndsL (nn : Int) (ls : List Lk) (s : Int) (st : List Lb) (k : Nat) : List Int := (List.range (k + 1)).map fun j => (endO nn ls s (st.take j)).getD 0
theorem ndsL_len (nn : Int) (ls : List Lk) (s : Int) (st : List Lb) (k : Nat) : (ndsL nn ls s st k).length = k + 1 := by simp [ndsL]
theorem ndsL_at {nn : Int} {ls : List Lk} {s x : Int} {st : List Lb} {j k : Nat} (hj : j ≤ k) (h : endO nn ls s (st.take j) = some x) : (ndsL nn ls s st k)[j]? = some x := by
  unfold ndsL
  rw [List.getElem?_map, List.getElem?_range (by omega)]
  simp [h]
theorem ndsL_succ {nn : Int} {ls : List Lk} {s z : Int} {st : List Lb} {k : Nat} (h : endO nn ls s (st.take (k + 1)) = some z) : ndsL nn ls s st (k + 1) = ndsL nn ls s st k ++ [z] := by
  unfold ndsL
  rw [List.range_succ, List.map_append]
  simp [h]
theorem stB_inv' {nn : Int} {ls : List Lk} {s : Int} {st : List Lb} (h : stB nn ls s st = true) : gvB nn ls = true ∧ (0 ≤ s ∧ s < nn) ∧ st.length ≤ 8 := by
  unfold stB at h
  simp only [Bool.and_eq_true, decide_eq_true_eq] at h
  exact ⟨(vwB_inv h.1).1, (vwB_inv h.1).2, h.2⟩

/-- What 'l4Nodes' leaves. -/
def NdsR (nn : Int) (ls : List Lk) (s : Int) (st : List Lb) (w : World) (e : Ending) (w' : World) : Prop :=
  ((endI nn ls s st).isSome = true ∧ ∃ A g c, e = .returned (.tuple #[.slice A (st.length + 1) c, .bool true]) ∧ w.heap.size ≤ g ∧ Own1i w' A g (ndsL nn ls s st st.length) ∧ Below w.heap.size w w') ∨
  ((endI nn ls s st).isSome = false ∧ ∃ v, e = .returned (.tuple #[v, .bool false]) ∧ Below w.heap.size w w')


end Go.Proofs.Ytkcnbgimdiggoab

/-
  Contracts over this seat: the program's StackPath, StackEnd and StackCost.
-/
namespace Go.Proofs.Ytkcnbgimdiggoab
open Go.RowKit Go.Maps

/-! ### Facts about the legs of a stack -/
def tails (xs : List (Lb × List Int)) : List Int := xs.flatMap fun x => x.2.drop 1
theorem tails_snoc (xs : List (Lb × List Int)) (x : Lb × List Int) : tails (xs ++ [x]) = tails xs ++ x.2.drop 1 := by simp [tails]
theorem pthO_tails {nn : Int} {ls : List Lk} {s z : Int} {st : List Lb} (h : endO nn ls s st = some z) : pthO nn ls s st = tails (legsO nn ls s st) := by
  induction st generalizing s with
  | nil => rfl
  | cons l st ih =>
    simp only [endO] at h
    simp only [pthO, legsO]
    cases hz : stepO nn ls s l with
    | none => rw [hz] at h; cases h
    | some u =>
      rw [hz] at h
      dsimp only at h ⊢
      rw [ih h]
      simp [tails]
theorem legsO_mem {n : Nat} {ls : List Lk} (hg : gvB (n : Int) ls = true) {st : List Lb} : ∀ {s : Int}, 0 ≤ s ∧ s < (n : Int) → ∀ x ∈ legsO (n : Int) ls s st, ∃ u, (0 ≤ u ∧ u < (n : Int)) ∧ x.2 = legP (n : Int) ls u x.1 ∧ x.2 ≠ [] := by
  induction st with
  | nil => intro s _ x hx; simp [legsO] at hx
  | cons l st ih =>
    intro s hs x hx
    simp only [legsO] at hx
    cases hz : stepO (n : Int) ls s l with
    | none => rw [hz] at hx; simp at hx
    | some u =>
      rw [hz] at hx
      dsimp only at hx
      rcases List.mem_cons.1 hx with rfl | hx
      · exact ⟨s, hs, rfl, stepO_leg hz⟩
      · exact ih (stepO_node hg hs hz) x hx
theorem legsO_len (nn : Int) (ls : List Lk) (st : List Lb) : ∀ s : Int, (legsO nn ls s st).length ≤ st.length := by
  induction st with
  | nil => intro s; simp [legsO]
  | cons l st ih =>
    intro s
    simp only [legsO]
    cases stepO nn ls s l with
    | none => simp
    | some u => have := ih u; simp; omega
theorem tails_len {xs : List (Lb × List Int)} (h : ∀ x ∈ xs, x.2.length ≤ 8) : (tails xs).length ≤ 7 * xs.length := by
  induction xs with
  | nil => simp [tails]
  | cons x xs ih =>
    have h1 := ih fun y hy => h y (List.mem_cons_of_mem _ hy)
    have h2 := h x (by simp)
    simp only [tails, List.flatMap_cons, List.length_append, List.length_drop, List.length_cons] at h1 ⊢
    omega
theorem endI_inv {nn : Int} {ls : List Lk} {s : Int} {st : List Lb} (h : (endI nn ls s st).isSome = true) : ∃ (n : Nat) (z : Int), nn = (n : Int) ∧ gvB (n : Int) ls = true ∧ (0 ≤ s ∧ s < (n : Int)) ∧ st.length ≤ 8 ∧ endO (n : Int) ls s st = some z ∧ endI nn ls s st = some z := by
  unfold endI at h ⊢
  by_cases hb : stB nn ls s st = true
  · rw [if_pos hb] at h ⊢
    obtain ⟨hg, hs, h8⟩ := stB_inv hb
    obtain ⟨n, rfl⟩ : ∃ q : Nat, nn = (q : Int) := ⟨nn.toNat, by omega⟩
    cases he : endO (n : Int) ls s st with
    | none => rw [he] at h; cases h
    | some z => exact ⟨n, z, rfl, hg, hs, h8, he, rfl⟩
  · rw [if_neg hb] at h; cases h
theorem pathS_some {nn : Int} {ls : List Lk} {s : Int} {st : List Lb} (h : (endI nn ls s st).isSome = true) : pathS nn ls s st = s :: tails (legsO nn ls s st) := by
  obtain ⟨n, z, rfl, hg, hs, h8, he, hi⟩ := endI_inv h
  unfold pathS
  rw [if_pos h, pthO_tails he]
theorem pathS_none {nn : Int} {ls : List Lk} {s : Int} {st : List Lb} (h : (endI nn ls s st).isSome = false) : pathS nn ls s st = [] := by
  unfold pathS
  rw [h]; rfl
theorem pathS_end {nn : Int} {ls : List Lk} {s z : Int} {st : List Lb} (h : endI nn ls s st = some z) : (pathS nn ls s st)[(pathS nn ls s st).length - 1]? = some z ∧ 0 < (pathS nn ls s st).length := by
  obtain ⟨n, z', rfl, hg, hs, h8, he, hi⟩ := endI_inv (by rw [h]; rfl)
  rw [hi] at h
  cases h
  unfold pathS
  rw [hi, Option.isSome_some, if_pos rfl]
  have := (pth_way hg hs he).2.1
  rw [List.getLast?_eq_getElem?] at this
  exact ⟨this, by simp⟩
theorem pathS_way {nn : Int} {ls : List Lk} {s : Int} {st : List Lb} : Way ls (pathS nn ls s st) := by
  cases h : (endI nn ls s st).isSome with
  | false => rw [pathS_none h]; intro k a b ha; simp at ha
  | true =>
    obtain ⟨n, z', rfl, hg, hs, h8, he, hi⟩ := endI_inv h
    unfold pathS
    rw [if_pos h]
    exact (pth_way hg hs he).1

/-! ### A list of numbers in memory that is newer than a world -/
structure PS (w1 : World) (v : Value) (out : List Int) (W : World) : Prop where
  row : W.ownsRow w1.heap.size 3 1 v out.length (out.map (Value.int .i64))
  bel : Below w1.heap.size w1 W
theorem PS.call {w1 : World} {v : Value} {out : List Int} {W W' : World} (h : PS w1 v out W) (hb : Below W.heap.size W W') : PS w1 v out W' :=
  ⟨owns_kept h.row hb, h.bel.trans (hb.mono h.bel.size)⟩
theorem PS.alloc {w1 : World} {v : Value} {out : List Int} {W : World} (h : PS w1 v out W) (o : Obj) : PS w1 v out (W.alloc o) := h.call ((Below.refl _ _).alloc (Nat.le_refl _) o)
theorem PS.append {w1 : World} {v v' : Value} {out news : List Int} {m : Nat} {W W' : World} (h : PS w1 v out W) (hown : W'.ownsRow w1.heap.size 3 1 v' (out.length + m) (out.map (Value.int .i64) ++ news.map (Value.int .i64))) (hm : m = news.length) (hg : W.grownBy W' v.ownBlock) : PS w1 v' (out ++ news) W' := by
  subst hm
  exact ⟨by rw [List.length_append, List.map_append]; exact hown, h.bel.grown hg h.bel.size (fun j e => (h.row.lt j e).1)⟩
theorem PS.newC {w w1 : World} {v : Value} {out : List Int} {W : World} (h : PS w1 v out W) (hb : Below w.heap.size w w1) : NewC out w (.returned v) W := by
  obtain ⟨A, g, c, e, hg, hc, ho⟩ := own_slicec h.row h.bel.size
  exact ⟨A, g, c, by rw [e], by have := hb.size; omega, ho, hb.trans (h.bel.mono hb.size), hc⟩

theorem add_at (g o j : Nat) : (⟨g, o, none⟩ : Addr).add j = ⟨g, o + j, none⟩ := by
  unfold Addr.add
  by_cases hj : j = 0 <;> simp [hj]


theorem news_at {w : World} {g o : Nat} {r : List Int} (h : ∀ (i : Nat) (u : Int), r[i]? = some u → w.cell? ⟨g, o + i, none⟩ = some (.int .i64 u)) : ∀ j u, (r.map (Value.int .i64))[j]? = some u → w.cell? ((⟨g, o, none⟩ : Addr).add j) = some u := by
  intro j u hj
  rw [List.getElem?_map] at hj
  cases hr : r[j]? with
  | none => rw [hr] at hj; cases hj
  | some y =>
    rw [hr] at hj
    cases hj
    rw [add_at]
    exact h j y hr
theorem news_one (r : List Int) : ∀ u ∈ r.map (Value.int .i64), u.oneCell' = true := by
  intro u hu
  obtain ⟨y, _, rfl⟩ := List.mem_map.1 hu
  rfl



end Go.Proofs.Ytkcnbgimdiggoab
