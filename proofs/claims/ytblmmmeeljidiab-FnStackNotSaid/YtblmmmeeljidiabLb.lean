/-
  Contracts over this seat: labels in memory: what the exact laws do with them.
-/
import Derived.Test.YtblmmmeeljidiabSk
namespace Go.Proofs.Ytblmmmeeljidiab
open Go.RowKit

abbrev Lb.v (l : Lb) : Value := .agg #[.int .i64 l.k, .int .i64 l.a]
theorem infoLabel : (Try.prog.info? 40).map (fun i => (i.zero, i.size, i.bytes)) = some (some (.agg #[.int .i64 0, .int .i64 0]), 2, 16) := by kernel_rfl

/-- The slice of address A reads as the labels st, below block B. -/
def Slb (w : World) (B : Nat) (A : Option Addr) (st : List Lb) : Prop :=
  ∀ k l, st[k]? = some l → ∃ b off, A = some ⟨b, off, none⟩ ∧ b < B ∧ w.cell? ⟨b, off + k * 2, none⟩ = some (.int .i64 l.k) ∧ w.cell? ⟨b, off + k * 2 + 1, none⟩ = some (.int .i64 l.a)
theorem Slb.keep {w w' : World} {B : Nat} {A : Option Addr} {ls : List Lb} (h : Slb w B A ls) (hk : ∀ b o, b < B → w'.cell? ⟨b, o, none⟩ = w.cell? ⟨b, o, none⟩) : Slb w' B A ls := by
  intro k l hl
  obtain ⟨b, off, e, hb, h1, h2⟩ := h k l hl
  exact ⟨b, off, e, hb, (hk _ _ hb).trans h1, (hk _ _ hb).trans h2⟩
theorem Slb.below {w w' : World} {B : Nat} {A : Option Addr} {ls : List Lb} (h : Slb w B A ls) (hb : Below B w w') : Slb w' B A ls := h.keep fun b o h => hb.cell (p := ⟨b, o, none⟩) h
theorem Slb.more {w : World} {B B' : Nat} {A : Option Addr} {ls : List Lb} (h : Slb w B A ls) (hb : B ≤ B') : Slb w B' A ls := by
  intro k l hl
  obtain ⟨b, off, e, hb', h1, h2⟩ := h k l hl
  exact ⟨b, off, e, by omega, h1, h2⟩
theorem Slb.alloc {w : World} {B : Nat} {A : Option Addr} {ls : List Lb} (h : Slb w B A ls) (hB : B ≤ w.heap.size) (o : Obj) : Slb (w.alloc o) B A ls :=
  h.below ((Below.refl _ _).alloc hB _)
/-- As it stands in a grown world. -/
theorem Slb.grow {w w' : World} {A : Option Addr} {ls : List Lb} (h : Slb w w.heap.size A ls) (hb : Below w.heap.size w w') : Slb w' w'.heap.size A ls := (h.below hb).more hb.size
theorem Slb.take {w : World} {B : Nat} {A : Option Addr} {ls : List Lb} (h : Slb w B A ls) (d : Nat) : Slb w B A (ls.take d) := by
  intro k l hl
  by_cases hk : k < d
  · rw [List.getElem?_take_of_lt hk] at hl
    exact h k l hl
  · rw [List.getElem?_eq_none (by simp; omega)] at hl
    cases hl
theorem Slb.drop {w : World} {B g off : Nat} {ls : List Lb} (h : Slb w B (some ⟨g, off, none⟩) ls) (d : Nat) : Slb w B (some ⟨g, off + d * 2, none⟩) (ls.drop d) := by
  intro k l hl
  rw [List.getElem?_drop] at hl
  obtain ⟨b, o, he, hb, h1, h2⟩ := h _ _ hl
  cases he
  refine ⟨g, off + d * 2, rfl, hb, ?_, ?_⟩
  · rw [show off + d * 2 + k * 2 = off + (d + k) * 2 by omega]; exact h1
  · rw [show off + d * 2 + k * 2 = off + (d + k) * 2 by omega]; exact h2

/-- Block g is an array whose first elements are the labels ls. -/
def Arrb (w : World) (g : Nat) (ls : List Lb) : Prop :=
  ∃ cs : Array Value, w.heap[g]? = some (.cells cs 40 (0, 0)) ∧ ∀ k l, ls[k]? = some l → cs[k * 2]? = some (.int .i64 l.k) ∧ cs[k * 2 + 1]? = some (.int .i64 l.a)
theorem Arrb.lt {w : World} {g : Nat} {ls : List Lb} (h : Arrb w g ls) : g < w.heap.size := by
  obtain ⟨cs, h, _⟩ := h
  exact heap_lt h
theorem Arrb.slb {w : World} {g B : Nat} {ls : List Lb} (h : Arrb w g ls) (hB : g < B) : Slb w B (some ⟨g, 0, none⟩) ls := by
  obtain ⟨cs, hh, hc⟩ := h
  intro k l hl
  obtain ⟨h1, h2⟩ := hc k l hl
  refine ⟨g, 0, rfl, hB, ?_, ?_⟩
  · rw [cell_of_row w g _ cs _ _ hh]; simpa using h1
  · rw [cell_of_row w g _ cs _ _ hh]; simpa using h2
theorem Arrb.below {w w' : World} {g B : Nat} {ls : List Lb} (h : Arrb w g ls) (hb : Below B w w') (hg : g < B) : Arrb w' g ls := by
  obtain ⟨cs, hh, hc⟩ := h
  exact ⟨cs, (hb.block g hg).trans hh, hc⟩
/-- Where there is an element, the slice lies at the head of block g, which begins with the labels ls. -/
def Ownb (w : World) (A : Option Addr) (g : Nat) (ls : List Lb) : Prop := 0 < ls.length → A = some ⟨g, 0, none⟩ ∧ Arrb w g ls
theorem Ownb.grownFar {w w' : World} {A : Option Addr} {g g' : Nat} {ls : List Lb} (h : Ownb w A g ls) (hg : w.grownBy w' (some g')) (hne : g ≠ g') : Ownb w' A g ls := fun hp => by
  obtain ⟨e, cs, hh, hc⟩ := h hp
  exact ⟨e, cs, (hg.block g (heap_lt hh) (fun e => hne (Option.some.inj e))).trans hh, hc⟩
theorem Ownb.below {w w' : World} {A : Option Addr} {g : Nat} {ls : List Lb} (h : Ownb w A g ls) (hb : Below w.heap.size w w') : Ownb w' A g ls := fun hp => by
  obtain ⟨e, ha⟩ := h hp
  exact ⟨e, ha.below hb ha.lt⟩
theorem Ownb.alloc {w : World} {A : Option Addr} {g : Nat} {ls : List Lb} (h : Ownb w A g ls) (o : Obj) : Ownb (w.alloc o) A g ls :=
  h.below ((Below.refl _ _).alloc (Nat.le_refl _) _)
theorem Ownb.slb {w : World} {A : Option Addr} {g : Nat} {ls : List Lb} (h : Ownb w A g ls) : Slb w w.heap.size A ls := fun k l hl => by
  obtain ⟨rfl, ha⟩ := h (by have := (List.getElem?_eq_some_iff.1 hl).1; omega)
  exact ha.slb ha.lt k l hl
theorem arrb_size {w : World} {g : Nat} {ls : List Lb} (h : Arrb w g ls) : ∃ cs : Array Value, w.heap[g]? = some (.cells cs 40 (0, 0)) ∧ (0 < ls.length → ls.length * 2 ≤ cs.size) := by
  obtain ⟨cs, hh, hc⟩ := h
  refine ⟨cs, hh, fun hp => ?_⟩
  obtain ⟨_, h3⟩ := hc (ls.length - 1) _ (List.getElem?_eq_getElem (by omega))
  have := (Array.getElem?_eq_some_iff.1 h3).1
  omega

def flatB : List Lb → List Value
  | [] => []
  | l :: ls => .int .i64 l.k :: .int .i64 l.a :: flatB ls
theorem flatB_len (ls : List Lb) : (flatB ls).length = ls.length * 2 := by
  induction ls with
  | nil => rfl
  | cons l ls ih => simp [flatB, ih]; omega
theorem flatB_append (xs ys : List Lb) : flatB (xs ++ ys) = flatB xs ++ flatB ys := by
  induction xs with
  | nil => rfl
  | cons l ls ih => simp [flatB, ih]
theorem flatB_at (ls : List Lb) : ∀ (k : Nat) (l : Lb), ls[k]? = some l → (flatB ls)[k * 2]? = some (.int .i64 l.k) ∧ (flatB ls)[k * 2 + 1]? = some (.int .i64 l.a) := by
  induction ls with
  | nil => intro k l h; simp at h
  | cons x ls ih =>
    intro k l h
    cases k with
    | zero =>
      simp at h
      subst h
      exact ⟨rfl, rfl⟩
    | succ k =>
      obtain ⟨h1, h2⟩ := ih k l (by simpa using h)
      rw [show (k + 1) * 2 = k * 2 + 1 + 1 by omega]
      exact ⟨h1, h2⟩
theorem flatB_inv (ls : List Lb) : ∀ (j : Nat) (u : Value), (flatB ls)[j]? = some u → ∃ k l, ls[k]? = some l ∧ ((j = k * 2 ∧ u = .int .i64 l.k) ∨ (j = k * 2 + 1 ∧ u = .int .i64 l.a)) := by
  induction ls with
  | nil => intro j u h; simp [flatB] at h
  | cons x ls ih =>
    intro j u h
    match j, h with
    | 0, h => exact ⟨0, x, rfl, .inl ⟨rfl, by simpa [flatB] using h.symm⟩⟩
    | 1, h => exact ⟨0, x, rfl, .inr ⟨rfl, by simpa [flatB] using h.symm⟩⟩
    | j + 2, h =>
      obtain ⟨k, l, hl, hc⟩ := ih j u (by simpa [flatB] using h)
      refine ⟨k + 1, l, by simpa using hl, ?_⟩
      rcases hc with ⟨e, h⟩ | ⟨e, h⟩
      · exact .inl ⟨by omega, h⟩
      · exact .inr ⟨by omega, h⟩
theorem flatB_one (ls : List Lb) : ∀ u ∈ flatB ls, u.oneCell' = true := by
  intro u hu
  obtain ⟨j, hj⟩ := List.getElem?_of_mem hu
  obtain ⟨k, l, _, h | h⟩ := flatB_inv ls j u hj
  · rw [h.2]; rfl
  · rw [h.2]; rfl
theorem Slb.flat {w : World} {B g off : Nat} {ls : List Lb} (h : Slb w B (some ⟨g, off, none⟩) ls) : ∀ j u, (flatB ls)[j]? = some u → w.cell? ((⟨g, off, none⟩ : Addr).add j) = some u := by
  intro j u hj
  have e : ∀ j, (⟨g, off, none⟩ : Addr).add j = ⟨g, off + j, none⟩ := fun j => by
    unfold Addr.add
    by_cases h : j = 0 <;> simp [h]
  obtain ⟨k, l, hl, hc⟩ := flatB_inv ls j u hj
  obtain ⟨b, o, he, _, h1, h2⟩ := h k l hl
  cases he
  rw [e]
  rcases hc with ⟨rfl, rfl⟩ | ⟨rfl, rfl⟩
  · exact h1
  · exact h2
/-- A row of the call's own. -/
theorem own_sliceb {w : World} {base n : Nat} {v : Value} {ls : List Lb} (h : w.ownsRow base 40 2 v n (flatB ls)) (hb : base ≤ w.heap.size) :
    ∃ A g c, v = .slice A ls.length c ∧ base ≤ g ∧ n = ls.length ∧ Ownb w A g ls ∧ ls.length ≤ c := by
  have hn : n = ls.length := by have := h.1; rw [flatB_len] at this; omega
  subst hn
  rcases h.2 with ⟨rfl, h0⟩ | ⟨g, cap, cur, rfl, hbg, hh, hn, _, hs, ht⟩
  · exact ⟨none, w.heap.size, 0, by rw [h0], hb, rfl, fun hp => by omega, by omega⟩
  · refine ⟨_, g, cap, rfl, hbg, rfl, fun _ => ⟨rfl, cur, hh, fun k l hl => ?_⟩, hn⟩
    have hk : k < ls.length := (List.getElem?_eq_some_iff.1 hl).1
    obtain ⟨h1, h2⟩ := flatB_at ls k l hl
    rw [← ht] at h1 h2
    rw [List.getElem?_take_of_lt (by omega), Array.getElem?_toList] at h1 h2
    exact ⟨h1, h2⟩

/-! ### toLabelS, eqLabelS, markLabelS -/
def MadeArrb (ls : List Lb) (w : World) (e : Ending) (w' : World) : Prop :=
  ∃ g, e = .returned (.slice (some ⟨g, 0, none⟩) ls.length ls.length) ∧ w.heap.size ≤ g ∧ Arrb w' g ls ∧ Below w.heap.size w w'
def Uptob (cs : Array Value) (ls : List Lb) (k : Nat) : Prop :=
  ∀ j l, j < k → ls[j]? = some l → cs[j * 2]? = some (.int .i64 l.k) ∧ cs[j * 2 + 1]? = some (.int .i64 l.a)
theorem Uptob.succ {cs : Array Value} {ls : List Lb} {k : Nat} {l : Lb} (h : Uptob cs ls k) (hl : ls[k]? = some l) (hs : k * 2 + 1 < cs.size) :
    Uptob ((cs.setIfInBounds (k * 2) (.int .i64 l.k)).setIfInBounds (k * 2 + 1) (.int .i64 l.a)) ls (k + 1) := by
  intro j m hj hm
  by_cases hjk : j < k
  · obtain ⟨h1, h2⟩ := h j m hjk hm
    simp only [Array.getElem?_setIfInBounds, Array.size_setIfInBounds]
    refine ⟨?_, ?_⟩
    · rw [if_neg (by omega), if_neg (by omega)]; exact h1
    · rw [if_neg (by omega), if_neg (by omega)]; exact h2
  · obtain rfl : j = k := by omega
    rw [hl] at hm
    cases hm
    simp only [Array.getElem?_setIfInBounds, Array.size_setIfInBounds]
    refine ⟨?_, ?_⟩
    · rw [if_neg (by omega), if_pos trivial, if_pos (by omega)]
    · rw [if_pos trivial, if_pos (by omega)]







end Go.Proofs.Ytblmmmeeljidiab
