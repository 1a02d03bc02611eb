/-
  Contracts over this seat: MixedLoop of the specification.
-/
import Derived.Test.YtkcnbgimdiggoaaG2
namespace Go.Proofs.Ytkcnbgimdiggoaa
open Go.RowKit Go.Maps

/-- What MixedLoop answers. -/
def loopA (nn : Int) (ls : List Lk) (x t : Int) (ch : List Int) : List Int := if vwB nn ls [0, t] && idxB ls x then (nodL nn.toNat).filter (walkB (mixH nn ls x.toNat t ch) nn.toNat) else []
/-- Reached from m in j steps. -/
def rchB (n : Nat) (H : Int → List Int) (m : Nat) : Nat → Nat → Bool
  | 0, y => decide (y = m)
  | j + 1, y => nxtP H (rchB n H m j) n y
theorem rch_walk {n : Nat} {H : Int → List Int} (hr : InR n H) {m : Nat} (hm : m < n) : ∀ (j i : Nat), (∃ x, x < n ∧ rchB n H m j x = true ∧ walkB H i (x : Int) = true) ↔ walkB H (j + i) (m : Int) = true
  | 0, i => by
    rw [Nat.zero_add]
    constructor
    · rintro ⟨x, hx, h1, h2⟩
      have : x = m := of_decide_eq_true h1
      subst this
      exact h2
    · intro h
      exact ⟨m, hm, by show decide (m = m) = true; simp, h⟩
  | j + 1, i => by
    have ih := rch_walk hr hm j (i + 1)
    rw [show j + 1 + i = j + (i + 1) by omega, ← ih]
    constructor
    · rintro ⟨x, hx, h1, h2⟩
      have h1 : nxtP H (rchB n H m j) n x = true := h1
      unfold nxtP at h1
      obtain ⟨z, hz, h3⟩ := List.any_eq_true.1 h1
      rw [Bool.and_eq_true, decide_eq_true_eq] at h3
      exact ⟨z, List.mem_range.1 hz, h3.1, List.any_eq_true.2 ⟨(x : Int), h3.2, h2⟩⟩
    · rintro ⟨z, hz, h1, h2⟩
      obtain ⟨y, hy, h3⟩ := List.any_eq_true.1 h2
      have hyr := hr (z : Int) y (by omega) (by omega) hy
      obtain ⟨x, rfl⟩ : ∃ x : Nat, y = (x : Int) := ⟨y.toNat, by omega⟩
      refine ⟨x, by omega, ?_, h3⟩
      show nxtP H (rchB n H m j) n x = true
      unfold nxtP
      exact List.any_eq_true.2 ⟨z, List.mem_range.2 hz, by rw [h1]; simpa using hy⟩
theorem rch_any {n : Nat} {H : Int → List Int} (hr : InR n H) {m : Nat} (hm : m < n) {q : Nat → Bool} (hq : ∀ y, y < n → q y = rchB n H m n y) : (List.range n).any q = walkB H n (m : Int) := by
  have h := rch_walk hr hm n 0
  rw [Nat.add_zero] at h
  rw [Bool.eq_iff_iff, ← h, List.any_eq_true]
  constructor
  · rintro ⟨x, hx, h1⟩
    have hx := List.mem_range.1 hx
    exact ⟨x, hx, by rw [← hq x hx]; exact h1, rfl⟩
  · rintro ⟨x, hx, h1, -⟩
    exact ⟨x, List.mem_range.2 hx, by rw [hq x hx]; exact h1⟩
theorem nxtP_ext {H : Int → List Int} {n : Nat} {p q : Nat → Bool} (h : ∀ x, x < n → p x = q x) (y : Nat) : nxtP H p n y = nxtP H q n y := by
  unfold nxtP
  rw [Bool.eq_iff_iff, List.any_eq_true, List.any_eq_true]
  constructor
  · rintro ⟨x, hx, e⟩
    exact ⟨x, hx, by rw [← h x (List.mem_range.1 hx)]; exact e⟩
  · rintro ⟨x, hx, e⟩
    exact ⟨x, hx, by rw [h x (List.mem_range.1 hx)]; exact e⟩
theorem any_next (q : Nat → Bool) (x : Nat) : (List.range (x + 1)).any q = ((List.range x).any q || q x) := by
  rw [List.range_succ, List.any_append]
  simp


end Go.Proofs.Ytkcnbgimdiggoaa

/-
  Contracts over this seat: MixedArrives of the specification.
-/
namespace Go.Proofs.Ytkcnbgimdiggoaa
open Go.RowKit Go.Maps

/-- What MixedArrives answers. -/
def arrA (nn : Int) (ls : List Lk) (x t : Int) (ch : List Int) : List Int := if vwB nn ls [0, t] && idxB ls x then (nodL nn.toNat).filter (arrB (mixH nn ls x.toNat t ch) t nn.toNat) else []
theorem sweep_step {n : Nat} {H : Int → List Int} {t : Int} (hr : InR n H) (ht : 0 ≤ t ∧ t < (n : Int)) {r i : Nat} {q : Nat → Bool} (h1 : ∀ y, y < n → y < i → arrB H t (r + 1) (y : Int) = true → q y = true) (h2 : ∀ y, y < n → arrB H t r (y : Int) = true → q y = true)
    (h3 : ∀ y, y < n → q y = true → arrB H t n (y : Int) = true) (hi : i < n) {b : Bool} (hb : b = (decide (0 < (H (i : Int)).length) && (H (i : Int)).all (fun y => q y.toNat))) :
    (∀ y, y < n → y < i + 1 → arrB H t (r + 1) (y : Int) = true → (if y = i then (q i || b) else q y) = true) ∧ (∀ y, y < n → arrB H t r (y : Int) = true → (if y = i then (q i || b) else q y) = true) ∧ (∀ y, y < n → (if y = i then (q i || b) else q y) = true → arrB H t n (y : Int) = true) := by
  refine ⟨fun y hy hyi ha => ?_, fun y hy ha => ?_, fun y hy hq => ?_⟩
  · by_cases e : y = i
    · subst e
      rw [if_pos rfl]
      rcases arr_step ha with ha | ⟨hne, hall⟩
      · rw [h2 y hy ha]
        rfl
      · have hbt : b = true := by
          rw [hb, Bool.and_eq_true]
          refine ⟨decide_eq_true (by
            rcases Nat.eq_zero_or_pos (H (y : Int)).length with e | e
            · exact absurd (List.eq_nil_of_length_eq_zero e) hne
            · exact e), List.all_eq_true.2 fun z hz => ?_⟩
          have hzr := hr (y : Int) z (by omega) (by omega) hz
          exact h2 z.toNat (by omega) (by rw [show ((z.toNat : Nat) : Int) = z by omega]; exact hall z hz)
        rw [hbt, Bool.or_true]
    · rw [if_neg e]
      exact h1 y hy (by omega) ha
  · by_cases e : y = i
    · subst e
      rw [if_pos rfl, h2 y hy ha]
      rfl
    · rw [if_neg e]
      exact h2 y hy ha
  · by_cases e : y = i
    · subst e
      rw [if_pos rfl, Bool.or_eq_true] at hq
      rcases hq with hq | hq
      · exact h3 y hy hq
      · rw [hb, Bool.and_eq_true, decide_eq_true_eq, List.all_eq_true] at hq
        refine arr_fix hr ht (by omega) (by omega) (fun e => by rw [e] at hq; simp at hq) fun z hz => ?_
        have hzr := hr (y : Int) z (by omega) (by omega) hz
        have := h3 z.toNat (by omega) (hq.2 z hz)
        rwa [show ((z.toNat : Nat) : Int) = z by omega] at this
    · rw [if_neg e] at hq
      exact h3 y hy hq
theorem PL.setArr {w : World} {gv : Array Value} {v : Value} {out : List Int} {W : World} (h : PL w gv v out W) {gs : Nat} {cs : Array Value} (hb : Box W gs 4 cs) (hgs : w.heap.size < gs) (i : Nat) (u : Value) : PL w gv v out (W.setCell ⟨gs, i, none⟩ u) :=
  ⟨h.row.kept (grown_set (World.grownBy.refl W (some gs)) i u) (.inr (own_box_ne h.row hb (by decide))), h.bel.setCell (p := ⟨gs, i, none⟩) (Nat.le_of_lt hgs) _, (Below.heap_setCell W ⟨gs, i, none⟩ u w.heap.size (by show w.heap.size ≠ gs; omega)).trans h.box⟩
theorem PL.arrApp {w : World} {gv : Array Value} {v : Value} {out : List Int} {W W' : World} (h : PL w gv v out W) {gs : Nat} {cs : Array Value} (hb : Box W gs 4 cs) {o : Obj} (hg : (W.alloc o).grownBy W' v.ownBlock) : Box W' gs 4 cs :=
  (hg.block gs (by have := hb.lt; simp; omega) (fun e => own_box_ne h.row hb (by decide) e.symm)).trans (hb.alloc o)
theorem all_next {hs : List Int} {j : Nat} {y : Int} (q : Int → Bool) (h : hs[j]? = some y) : (hs.take (j + 1)).all q = ((hs.take j).all q && q y) := by
  rw [List.take_add_one, h, List.all_append]
  simp


end Go.Proofs.Ytkcnbgimdiggoaa
