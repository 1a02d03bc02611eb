/-
  Contracts over this seat: the marks that the exact laws write into a slice, and the look at them; two slices of numbers compared.
-/
import Derived.Test.YtohflcbpjjnccaaA1
import Derived.Lib.LazyBuf
namespace Go.Proofs.Ytohflcbpjjnccaa
open Go.RowKit

theorem grown_set {w wr : World} {g : Nat} (h : w.grownBy wr (some g)) (i : Nat) (u : Value) : w.grownBy (wr.setCell ⟨g, i, none⟩ u) (some g) :=
  ⟨h.os, h.tape, h.output, by simpa using h.size, fun k hk hne => (Below.heap_setCell wr ⟨g, i, none⟩ u k (fun e => hne (by rw [e]))).trans (h.block k hk hne)⟩


theorem int_eq {a b : Int} (h : a = b) : Value.int .i64 a = .int .i64 b := by rw [h]
def marks (k : Int) (n : Nat) : List Lk := (List.range n).map fun (j : Nat) => ⟨k + 3 * j, k + 3 * j + 1, k + 3 * j + 1 + 1⟩
theorem marks_len (k : Int) (n : Nat) : (marks k n).length = n := by simp [marks]
theorem marks_at {k : Int} {n j : Nat} (h : j < n) : (marks k n)[j]? = some ⟨k + 3 * j, k + 3 * j + 1, k + 3 * j + 1 + 1⟩ := by
  simp [marks, List.getElem?_range h]

theorem marks_succ {cs : Array Value} {k : Int} {n j : Nat} (h : Upto cs (marks k n) j) (hlt : j < n) (hs : j * 3 + 2 < cs.size) :
    Upto (((cs.setIfInBounds (j * 3) (.int .i64 (k + 3 * (j : Int)))).setIfInBounds (j * 3 + 1) (.int .i64 (k + 3 * (j : Int) + 1))).setIfInBounds (j * 3 + 2) (.int .i64 (k + 3 * (j : Int) + 1 + 1))) (marks k n) (j + 1) := by
  have := h.succ (marks_at hlt) hs
  exact this







theorem grown_alloc {w wr : World} {g : Option Nat} (h : w.grownBy wr g) (o : Obj) : w.grownBy (wr.alloc o) g :=
  ⟨h.os, h.tape, h.output, by have := h.size; simp; omega, fun k hk hne => (Below.heap_alloc wr o k (Nat.lt_of_lt_of_le hk h.size)).trans (h.block k hk hne)⟩
theorem grown_trans {a b c : World} {g : Option Nat} (h : a.grownBy b g) (k : b.grownBy c g) : a.grownBy c g :=
  ⟨k.os.trans h.os, k.tape.trans h.tape, k.output.trans h.output, Nat.le_trans h.size k.size, fun i hi hne => (k.block i (Nat.lt_of_lt_of_le hi h.size) hne).trans (h.block i hi hne)⟩



/-! ### Slices of numbers -/
def Arri (w : World) (g : Nat) (xs : List Int) : Prop :=
  ∃ cs : Array Value, w.heap[g]? = some (.cells cs 3 (0, 0)) ∧ ∀ (k : Nat) (x : Int), xs[k]? = some x → cs[k]? = some (.int .i64 x)
theorem Arri.lt {w : World} {g : Nat} {xs : List Int} (h : Arri w g xs) : g < w.heap.size := by
  obtain ⟨cs, h, _⟩ := h
  exact heap_lt h
theorem Arri.below {w w' : World} {g B : Nat} {ls : List Int} (h : Arri w g ls) (hb : Below B w w') (hg : g < B) : Arri w' g ls := by
  obtain ⟨cs, hh, hc⟩ := h
  exact ⟨cs, (hb.block g hg).trans hh, hc⟩
def Sli (w : World) (B : Nat) (A : Option Addr) (xs : List Int) : Prop :=
  ∀ (k : Nat) (x : Int), xs[k]? = some x → ∃ b off, A = some ⟨b, off, none⟩ ∧ b < B ∧ w.cell? ⟨b, off + k, none⟩ = some (.int .i64 x)
theorem Sli.keep {w w' : World} {B : Nat} {A : Option Addr} {xs : List Int} (h : Sli w B A xs) (hk : ∀ b o, b < B → w'.cell? ⟨b, o, none⟩ = w.cell? ⟨b, o, none⟩) : Sli w' B A xs := by
  intro k x hx
  obtain ⟨b, off, e, hb, h1⟩ := h k x hx
  exact ⟨b, off, e, hb, (hk _ _ hb).trans h1⟩
theorem Sli.below {w w' : World} {B : Nat} {A : Option Addr} {xs : List Int} (h : Sli w B A xs) (hb : Below B w w') : Sli w' B A xs := h.keep fun b o h => hb.cell (p := ⟨b, o, none⟩) h
theorem Sli.more {w : World} {B B' : Nat} {A : Option Addr} {xs : List Int} (h : Sli w B A xs) (hb : B ≤ B') : Sli w B' A xs := by
  intro k x hx
  obtain ⟨b, off, e, hb', h1⟩ := h k x hx
  exact ⟨b, off, e, by omega, h1⟩
theorem Arri.sli {w : World} {g B : Nat} {xs : List Int} (h : Arri w g xs) (hB : g < B) : Sli w B (some ⟨g, 0, none⟩) xs := by
  obtain ⟨cs, hh, hc⟩ := h
  intro k x hx
  refine ⟨g, 0, rfl, hB, ?_⟩
  rw [cell_of_row w g _ cs _ _ hh]
  simpa using hc k x hx
def Own1i (w : World) (A : Option Addr) (g : Nat) (xs : List Int) : Prop := 0 < xs.length → A = some ⟨g, 0, none⟩ ∧ Arri w g xs
theorem Own1i.grownFar {w w' : World} {A : Option Addr} {g g' : Nat} {ls : List Int} (h : Own1i w A g ls) (hg : w.grownBy w' (some g')) (hne : g ≠ g') : Own1i w' A g ls := fun hp => by
  obtain ⟨e, cs, hh, hc⟩ := h hp
  exact ⟨e, cs, (hg.block g (heap_lt hh) (fun e => hne (Option.some.inj e))).trans hh, hc⟩
theorem Own1i.below {w w' : World} {A : Option Addr} {g : Nat} {ls : List Int} (h : Own1i w A g ls) (hb : Below w.heap.size w w') : Own1i w' A g ls := fun hp => by
  obtain ⟨e, ha⟩ := h hp
  exact ⟨e, ha.below hb ha.lt⟩
theorem Own1i.alloc {w : World} {A : Option Addr} {g : Nat} {ls : List Int} (h : Own1i w A g ls) (o : Obj) : Own1i (w.alloc o) A g ls :=
  h.below ((Below.refl _ _).alloc (Nat.le_refl _) _)
theorem Own1i.sli {w : World} {A : Option Addr} {g : Nat} {ls : List Int} (h : Own1i w A g ls) : Sli w w.heap.size A ls := fun k l hl => by
  obtain ⟨rfl, ha⟩ := h (by have := (List.getElem?_eq_some_iff.1 hl).1; omega)
  exact ha.sli ha.lt k l hl

def markis (k : Int) (n : Nat) : List Int := (List.range n).map fun (j : Nat) => k + j
theorem markis_len (k : Int) (n : Nat) : (markis k n).length = n := by simp [markis]
theorem markis_at {k : Int} {n j : Nat} (h : j < n) : (markis k n)[j]? = some (k + j) := by simp [markis, List.getElem?_range h]
theorem arri_size {w : World} {g : Nat} {ls : List Int} (h : Arri w g ls) : ∃ cs : Array Value, w.heap[g]? = some (.cells cs 3 (0, 0)) ∧ (0 < ls.length → ls.length ≤ cs.size) := by
  obtain ⟨cs, hh, hc⟩ := h
  refine ⟨cs, hh, fun hp => ?_⟩
  have h3 := hc (ls.length - 1) _ (List.getElem?_eq_getElem (by omega))
  have := (Array.getElem?_eq_some_iff.1 h3).1
  omega
def Uptoi (cs : Array Value) (k : Int) (j : Nat) : Prop := ∀ i, i < j → cs[i]? = some (.int .i64 (k + i))
theorem Uptoi.succ {cs : Array Value} {k : Int} {j : Nat} (h : Uptoi cs k j) (hs : j < cs.size) : Uptoi (cs.setIfInBounds j (.int .i64 (k + j))) k (j + 1) := by
  intro i hi
  simp only [Array.getElem?_setIfInBounds]
  by_cases e : i < j
  · rw [if_neg (by omega)]; exact h i e
  · obtain rfl : i = j := by omega
    rw [if_pos rfl, if_pos hs]




end Go.Proofs.Ytohflcbpjjnccaa

/-
  Small lemmas on memory over this seat: a block that is an array of just these cells.
-/
namespace Go.Proofs.Ytohflcbpjjnccaa
open Go.RowKit

/-- Block b is an array of just these cells. -/
def Box (w : World) (b : Nat) (t : TypeId) (cs : Array Value) : Prop := w.heap[b]? = some (.cells cs t (0, 0))
theorem Box.new (w : World) (t : TypeId) (cs : Array Value) : Box (w.alloc (.cells cs t)) w.heap.size t cs := heap_alloc_new w _
theorem Box.lt {w : World} {b : Nat} {t : TypeId} {cs : Array Value} (h : Box w b t cs) : b < w.heap.size := heap_lt h
theorem Box.below {w w' : World} {b B : Nat} {t : TypeId} {cs : Array Value} (h : Box w b t cs) (hb : Below B w w') (hB : b < B) : Box w' b t cs := (hb.block b hB).trans h
theorem Box.alloc {w : World} {b : Nat} {t : TypeId} {cs : Array Value} (h : Box w b t cs) (o : Obj) : Box (w.alloc o) b t cs := (Below.heap_alloc w o b h.lt).trans h
theorem Box.grown {w w' : World} {b g : Nat} {t : TypeId} {cs : Array Value} (h : Box w b t cs) (hg : w.grownBy w' (some g)) (hne : b ≠ g) : Box w' b t cs :=
  (hg.block b h.lt (fun e => hne (Option.some.inj e))).trans h
theorem Box.cell {w : World} {b : Nat} {t : TypeId} {cs : Array Value} (h : Box w b t cs) (i : Nat) : w.cell? ⟨b, i, none⟩ = cs[i]? := cell_of_row w b i cs t (0, 0) h
theorem Box.frozen {w : World} {b : Nat} {t : TypeId} {cs : Array Value} (h : Box w b t cs) (i : Nat) : w.frozen? ⟨b, i, none⟩ = false := heap_frozen h i
/-- What the walk reads of a block of two cells. -/
theorem Box.two {w : World} {b : Nat} {t : TypeId} {v0 v1 : Value} (h : Box w b t #[v0, v1]) : b < w.heap.size ∧ w.cell? ⟨b, 0, none⟩ = some v0 ∧ w.cell? ⟨b, 1, none⟩ = some v1 ∧ w.frozen? ⟨b, 0, none⟩ = false ∧ w.frozen? ⟨b, 1, none⟩ = false :=
  ⟨h.lt, h.cell 0, h.cell 1, h.frozen 0, h.frozen 1⟩

end Go.Proofs.Ytohflcbpjjnccaa

/-
  Over this seat: an array of links as a list of cells, and what an append onto a row of the call's own leaves; slices.Clone of links.
-/
namespace Go.Proofs.Ytohflcbpjjnccaa
open Go.RowKit

def flat : List Lk → List Value
  | [] => []
  | l :: ls => .int .i64 l.a :: .int .i64 l.b :: .int .i64 l.c :: flat ls
theorem flat_len (ls : List Lk) : (flat ls).length = ls.length * 3 := by
  induction ls with
  | nil => rfl
  | cons l ls ih => simp [flat, ih]; omega
theorem flat_append (xs ys : List Lk) : flat (xs ++ ys) = flat xs ++ flat ys := by
  induction xs with
  | nil => rfl
  | cons l ls ih => simp [flat, ih]
theorem flat_at (ls : List Lk) : ∀ (k : Nat) (l : Lk), ls[k]? = some l → (flat ls)[k * 3]? = some (.int .i64 l.a) ∧ (flat ls)[k * 3 + 1]? = some (.int .i64 l.b) ∧ (flat ls)[k * 3 + 2]? = some (.int .i64 l.c) := by
  induction ls with
  | nil => intro k l h; simp at h
  | cons x ls ih =>
    intro k l h
    cases k with
    | zero =>
      simp at h
      subst h
      exact ⟨rfl, rfl, rfl⟩
    | succ k =>
      obtain ⟨h1, h2, h3⟩ := ih k l (by simpa using h)
      rw [show (k + 1) * 3 = k * 3 + 1 + 1 + 1 by omega]
      exact ⟨h1, h2, h3⟩
theorem flat_inv (ls : List Lk) : ∀ (j : Nat) (u : Value), (flat ls)[j]? = some u → ∃ k l, ls[k]? = some l ∧ ((j = k * 3 ∧ u = .int .i64 l.a) ∨ (j = k * 3 + 1 ∧ u = .int .i64 l.b) ∨ (j = k * 3 + 2 ∧ u = .int .i64 l.c)) := by
  induction ls with
  | nil => intro j u h; simp [flat] at h
  | cons x ls ih =>
    intro j u h
    match j, h with
    | 0, h => exact ⟨0, x, rfl, .inl ⟨rfl, by simpa [flat] using h.symm⟩⟩
    | 1, h => exact ⟨0, x, rfl, .inr (.inl ⟨rfl, by simpa [flat] using h.symm⟩)⟩
    | 2, h => exact ⟨0, x, rfl, .inr (.inr ⟨rfl, by simpa [flat] using h.symm⟩)⟩
    | j + 3, h =>
      obtain ⟨k, l, hl, hc⟩ := ih j u (by simpa [flat] using h)
      refine ⟨k + 1, l, by simpa using hl, ?_⟩
      rcases hc with ⟨e, h⟩ | ⟨e, h⟩ | ⟨e, h⟩
      · exact .inl ⟨by omega, h⟩
      · exact .inr (.inl ⟨by omega, h⟩)
      · exact .inr (.inr ⟨by omega, h⟩)
theorem flat_one (ls : List Lk) : ∀ u ∈ flat ls, u.oneCell' = true := by
  intro u hu
  obtain ⟨j, hj⟩ := List.getElem?_of_mem hu
  obtain ⟨k, l, _, h | h | h⟩ := flat_inv ls j u hj
  · rw [h.2]; rfl
  · rw [h.2]; rfl
  · rw [h.2]; rfl

theorem Sl.flat {w : World} {B g off : Nat} {ls : List Lk} (h : Sl w B (some ⟨g, off, none⟩) ls) : ∀ j u, (flat ls)[j]? = some u → w.cell? ((⟨g, off, none⟩ : Addr).add j) = some u := by
  intro j u hj
  have e : ∀ j, (⟨g, off, none⟩ : Addr).add j = ⟨g, off + j, none⟩ := fun j => by
    unfold Addr.add
    by_cases h : j = 0 <;> simp [h]
  obtain ⟨k, l, hl, hc⟩ := flat_inv ls j u hj
  obtain ⟨b, o, he, _, h1, h2, h3⟩ := h k l hl
  cases he
  rw [e]
  rcases hc with ⟨rfl, rfl⟩ | ⟨rfl, rfl⟩ | ⟨rfl, rfl⟩
  · exact h1
  · exact h2
  · exact h3
theorem Sl.drop {w : World} {B g off : Nat} {ls : List Lk} (h : Sl w B (some ⟨g, off, none⟩) ls) (d : Nat) : Sl w B (some ⟨g, off + d * 3, none⟩) (ls.drop d) := by
  intro k l hl
  rw [List.getElem?_drop] at hl
  obtain ⟨b, o, he, hb, h1, h2, h3⟩ := h _ _ hl
  cases he
  refine ⟨g, off + d * 3, rfl, hb, ?_, ?_, ?_⟩
  · rw [show off + d * 3 + k * 3 = off + (d + k) * 3 by omega]; exact h1
  · rw [show off + d * 3 + k * 3 = off + (d + k) * 3 by omega]; exact h2
  · rw [show off + d * 3 + k * 3 = off + (d + k) * 3 by omega]; exact h3
theorem Sl.take {w : World} {B : Nat} {A : Option Addr} {ls : List Lk} (h : Sl w B A ls) (d : Nat) : Sl w B A (ls.take d) := by
  intro k l hl
  by_cases hk : k < d
  · rw [List.getElem?_take_of_lt hk] at hl
    exact h k l hl
  · rw [List.getElem?_eq_none (by simp; omega)] at hl
    cases hl




end Go.Proofs.Ytohflcbpjjnccaa

/-
  Contracts over this seat: GraphCost, of the program and of the specification.
-/
namespace Go.Proofs.Ytohflcbpjjnccaa
open Go.RowKit



def costOk (n : Int) (ls : List Lk) (x cost : Int) : Bool := gvB n ls && inB x 0 ((ls.length : Int) - 1) && inB cost 1 20
def costLs (ls : List Lk) (x : Nat) (cost : Int) : List Lk := match ls[x]? with
  | some l => ls.set x ⟨l.a, l.b, cost⟩
  | none => ls
theorem costLs_len (ls : List Lk) (x : Nat) (cost : Int) : (costLs ls x cost).length = ls.length := by
  unfold costLs; split <;> simp




end Go.Proofs.Ytohflcbpjjnccaa

/-
  Contracts over this seat: the specification's GraphCost and what it calls.
-/
namespace Go.Proofs.Ytohflcbpjjnccaa
open Go.RowKit








end Go.Proofs.Ytohflcbpjjnccaa

/-
  Small lemmas on a slice of numbers of the call's own.
-/
namespace Go.Proofs.Ytohflcbpjjnccaa
open Go.RowKit

theorem Own1i.grownC {w w' : World} {A : Option Addr} {g g' : Nat} {ls : List Int} (h : Own1i w A g ls) (hg : w.grownBy w' (some g')) (hne : 0 < ls.length → g ≠ g') : Own1i w' A g ls := fun hp => by
  obtain ⟨e, cs, hh, hc⟩ := h hp
  exact ⟨e, cs, (hg.block g (heap_lt hh) (fun e => hne hp (Option.some.inj e))).trans hh, hc⟩
theorem Own1i.fresh {w : World} {A : Option Addr} {g : Nat} {ls : List Int} (h : Own1i w A g ls) : ∃ g', Own1i w A g' ls ∧ ((0 < ls.length ∧ g' = g) ∨ g' = w.heap.size) := by
  by_cases hp : 0 < ls.length
  · exact ⟨g, h, .inl ⟨hp, rfl⟩⟩
  · exact ⟨w.heap.size, fun h => absurd h hp, .inr rfl⟩

end Go.Proofs.Ytohflcbpjjnccaa
