/-
  Common ground for the proofs over this seat: links as triples of numbers, tests as Booleans, regions whose callees make memory but change none (Ext), and small contracts.
-/
import Derived.Test.YtohflcbpjjnccabProg
import Derived.WalkKit
import Derived.WalkSpells
import Derived.WalkLawsBesides
import Derived.Below
import Derived.Laws.OwnMore
import Derived.Deep.AppendLies
import Derived.Deep.Draws
import Derived.Laws.Rows
import Derived.Outline
import Derived.Deep.QuietTactic
import Derived.BigQuiet
import Derived.Lib.Hide
namespace Go.Proofs.Ytohflcbpjjnccab
open Go.RowKit

/-! ### Worlds that have grown from w: nothing that was there has changed -/
def Ext (w : World) : Type := { W : World // Below w.heap.size w W }
def Ext.w {w : World} (x : Ext w) : World := x.1
theorem Ext.below {w : World} (x : Ext w) : Below w.heap.size w x.w := x.2
instance instNonemptyExt (w : World) : Nonempty (Ext w) := ⟨⟨w, Below.refl _ _⟩⟩
theorem Ext.cell {w : World} (x : Ext w) (b o : Nat) (h : b < w.heap.size) : x.w.cell? ⟨b, o, none⟩ = w.cell? ⟨b, o, none⟩ := x.below.cell (p := ⟨b, o, none⟩) h

section
variable {P : Program} {w : World}
theorem wp_region_ext {id : Nat} {Q : Exit → Act → World → Prop} {a : Act} {l : List Oper} (hm : P.follows .mixedOrders = true) (hB : Region.lexB .any l.toArray = true)
    (h : wpQuiet P l.toArray (fun w' => ∃ x : Ext w, w' = x.w) (fun a' => ∀ w', (∃ x : Ext w, w' = x.w) → Q .normal a' w') l a) : (Code.region id l.toArray true).wp P Q a w :=
  wp_region_quiet (C := fun w' => ∃ x : Ext w, w' = x.w) hm hB ⟨⟨{ w with drawn := w.drawn + 1 }, (Below.refl _ _).drew⟩, rfl⟩ (by simpa using h)
theorem Calls.ext_of {f : FuncId} {args : Array Value} {v : Value} {x : Ext w}
    (h : Calls P f args x.w fun e w' => e = .returned v ∧ Below x.w.heap.size x.w w') : Calls P f args x.w fun e w'' => e = .returned v ∧ ∃ y : Ext w, w'' = y.w :=
  h.mono fun _ w' ⟨he, hb⟩ => ⟨he, ⟨w', x.below.trans (hb.mono x.below.size)⟩, rfl⟩
theorem Calls.ext_same {f : FuncId} {args : Array Value} {v : Value} {x : Ext w}
    (h : Calls P f args x.w fun e w' => e = .returned v ∧ x.w = w') : Calls P f args x.w fun e w'' => e = .returned v ∧ ∃ y : Ext w, w'' = y.w :=
  h.mono fun _ _ ⟨he, hb⟩ => ⟨he, x, hb.symm⟩
end

/-! ### Links -/
/-- A link as three numbers. -/
structure Lk where
  a : Int
  b : Int
  c : Int
abbrev Lk.v (l : Lk) : Value := .agg #[.int .i64 l.a, .int .i64 l.b, .int .i64 l.c]

def inB (x lo hi : Int) : Bool := decide (lo ≤ x) && decide (x ≤ hi)
def beforeB (l m : Lk) : Bool := decide (l.a < m.a) || (decide (l.a = m.a) && decide (l.b < m.b))
def allowsB (n : Int) (l : Lk) : Bool := inB l.a 0 (n-1) && inB l.b 0 (n-1) && decide (l.a < l.b) && inB l.c 1 20
def eqLinkB (l m : Lk) : Bool := decide (l.a = m.a) && decide (l.b = m.b) && decide (l.c = m.c)

theorem ret_bool {a b : Bool} (h : a = b) : Ending.returned (.bool a) = .returned (.bool b) := by rw [h]
theorem ret_int {a b : Int} (h : a = b) : Ending.returned (.int .i64 a) = .returned (.int .i64 b) := by rw [h]




theorem l6In_any (x lo hi : Int) (w : World) :
   Calls Try.prog 35 #[.int .i64 x, .int .i64 lo, .int .i64 hi] w fun e w' => e = .returned (.bool (inB x lo hi)) ∧ w = w' := by
  go_enter Try.func35, Try.ntmps35
  go_wp2
  all_goals
    go_ret
    exact ⟨ret_bool (by unfold inB; rw [Bool.eq_iff_iff]; simp; omega), rfl⟩




/-! ### Slices of links -/
/-- The slice of address A reads as the links ls, below block B. -/
def Sl (w : World) (B : Nat) (A : Option Addr) (ls : List Lk) : Prop :=
  ∀ k l, ls[k]? = some l → ∃ b off, A = some ⟨b, off, none⟩ ∧ b < B ∧ w.cell? ⟨b, off + k * 3, none⟩ = some (.int .i64 l.a) ∧ w.cell? ⟨b, off + k * 3 + 1, none⟩ = some (.int .i64 l.b) ∧ w.cell? ⟨b, off + k * 3 + 2, none⟩ = some (.int .i64 l.c)

theorem Sl.keep {w w' : World} {B : Nat} {A : Option Addr} {ls : List Lk} (h : Sl w B A ls) (hk : ∀ b o, b < B → w'.cell? ⟨b, o, none⟩ = w.cell? ⟨b, o, none⟩) : Sl w' B A ls := by
  intro k l hl
  obtain ⟨b, off, e, hb, h1, h2, h3⟩ := h k l hl
  exact ⟨b, off, e, hb, (hk _ _ hb).trans h1, (hk _ _ hb).trans h2, (hk _ _ hb).trans h3⟩
theorem Sl.below {w w' : World} {B : Nat} {A : Option Addr} {ls : List Lk} (h : Sl w B A ls) (hb : Below B w w') : Sl w' B A ls := h.keep fun b o h => hb.cell (p := ⟨b, o, none⟩) h
theorem Sl.more {w : World} {B B' : Nat} {A : Option Addr} {ls : List Lk} (h : Sl w B A ls) (hb : B ≤ B') : Sl w B' A ls := by
  intro k l hl
  obtain ⟨b, off, e, hb', h1, h2, h3⟩ := h k l hl
  exact ⟨b, off, e, by omega, h1, h2, h3⟩

theorem eqLinkB_iff (l m : Lk) : eqLinkB l m = true ↔ l = m := by
  cases l; cases m; simp [eqLinkB, and_assoc]
def eqLksB : List Lk → List Lk → Bool
  | [], [] => true
  | x :: xs, y :: ys => eqLinkB x y && eqLksB xs ys
  | _, _ => false
theorem eqLksB_iff (xs ys : List Lk) : eqLksB xs ys = true ↔ xs = ys := by
  induction xs generalizing ys with
  | nil => cases ys <;> simp [eqLksB]
  | cons x xs ih => cases ys <;> simp [eqLksB, eqLinkB_iff, ih]
theorem eqLksB_no {xs ys : List Lk} {k : Nat} {x y : Lk} (hx : xs[k]? = some x) (hy : ys[k]? = some y) (h : (!eqLinkB x y) = true) : false = eqLksB xs ys := by
  by_cases e : eqLksB xs ys = true
  · rw [eqLksB_iff] at e
    subst e
    rw [hx] at hy
    cases hy
    rw [(eqLinkB_iff x x).2 rfl] at h
    cases h
  · simpa using e
theorem eqLksB_yes {xs ys : List Lk} (hl : xs.length = ys.length) (h : ∀ j x y, j < xs.length → xs[j]? = some x → ys[j]? = some y → eqLinkB x y = true) : true = eqLksB xs ys := by
  symm
  rw [eqLksB_iff]
  refine List.ext_getElem hl fun j h1 h2 => ?_
  exact (eqLinkB_iff _ _).1 (h j _ _ h1 (List.getElem?_eq_getElem h1) (List.getElem?_eq_getElem h2))



/-! ### Arrays of links of the call's own -/

theorem heap_lt {w : World} {g : Nat} {o : Obj} (h : w.heap[g]? = some o) : g < w.heap.size := (Array.getElem?_eq_some_iff.1 h).1



theorem bcell {W w1 : World} (hb : Below W.heap.size W w1) : (∀ b o, b < W.heap.size → w1.cell? ⟨b, o, none⟩ = W.cell? ⟨b, o, none⟩) ∧ (∀ b o, b < W.heap.size → w1.frozen? ⟨b, o, none⟩ = W.frozen? ⟨b, o, none⟩) :=
  ⟨fun b o h => hb.cell (p := ⟨b, o, none⟩) h, fun b o h => hb.frozen (p := ⟨b, o, none⟩) h⟩


theorem own_arr {w : World} {base e size g n cap : Nat} {xs : List Value} (h : w.ownsRow base e size (.slice (some ⟨g, 0, none⟩) n cap) n xs) :
    ∃ cs : Array Value, w.heap[g]? = some (.cells cs e (0, 0)) ∧ cs.size = cap * size ∧ base ≤ g ∧ n ≤ cap ∧ cs.toList.take (n * size) = xs := by
  rcases h.2 with ⟨h, _⟩ | ⟨g', cap', cur, hv, hb, hh, hn, _, hs, ht⟩
  · cases h
  · cases hv
    exact ⟨cur, hh, hs, hb, hn, ht⟩
theorem heap_set {w : World} {g : Nat} {t : TypeId} {cs : Array Value} (h : w.heap[g]? = some (.cells cs t (0, 0))) (i : Nat) (u : Value) : (w.setCell ⟨g, i, none⟩ u).heap[g]? = some (.cells (cs.setIfInBounds i u) t (0, 0)) := by
  simp [World.setCell, Array.getElem?_modify, h]
theorem heap_frozen {w : World} {g : Nat} {t : TypeId} {cs : Array Value} (h : w.heap[g]? = some (.cells cs t (0, 0))) (i : Nat) : w.frozen? ⟨g, i, none⟩ = false := by
  simp [World.frozen?, h]


/-- The first k links stand in the array cs. -/
def Upto (cs : Array Value) (ls : List Lk) (k : Nat) : Prop :=
  ∀ j l, j < k → ls[j]? = some l → cs[j * 3]? = some (.int .i64 l.a) ∧ cs[j * 3 + 1]? = some (.int .i64 l.b) ∧ cs[j * 3 + 2]? = some (.int .i64 l.c)
theorem Upto.succ {cs : Array Value} {ls : List Lk} {k : Nat} {l : Lk} (h : Upto cs ls k) (hl : ls[k]? = some l) (hs : k * 3 + 2 < cs.size) :
    Upto (((cs.setIfInBounds (k * 3) (.int .i64 l.a)).setIfInBounds (k * 3 + 1) (.int .i64 l.b)).setIfInBounds (k * 3 + 2) (.int .i64 l.c)) ls (k + 1) := by
  intro j m hj hm
  by_cases hjk : j < k
  · obtain ⟨h1, h2, h3⟩ := h j m hjk hm
    simp only [Array.getElem?_setIfInBounds, Array.size_setIfInBounds]
    refine ⟨?_, ?_, ?_⟩
    · rw [if_neg (by omega), if_neg (by omega), if_neg (by omega)]; exact h1
    · rw [if_neg (by omega), if_neg (by omega), if_neg (by omega)]; exact h2
    · rw [if_neg (by omega), if_neg (by omega), if_neg (by omega)]; exact h3
  · obtain rfl : j = k := by omega
    rw [hl] at hm
    cases hm
    simp only [Array.getElem?_setIfInBounds, Array.size_setIfInBounds]
    refine ⟨?_, ?_, ?_⟩
    · rw [if_neg (by omega), if_neg (by omega), if_pos trivial, if_pos (by omega)]
    · rw [if_neg (by omega), if_pos trivial, if_pos (by omega)]
    · rw [if_pos trivial, if_pos (by omega)]

theorem cell_in {w : World} {g : Nat} {t : TypeId} {cs : Array Value} (h : w.heap[g]? = some (.cells cs t (0, 0))) {i : Nat} (hi : i < cs.size) : ∃ v, w.cell? ⟨g, i, none⟩ = some v :=
  ⟨_, (cell_of_row w g i cs t (0, 0) h).trans (Array.getElem?_eq_getElem hi)⟩


end Go.Proofs.Ytohflcbpjjnccab

/-
  Contracts over this seat: toGraph lays a copy of a graph in new memory; GraphValid, of the program and of the specification, answers the Boolean gvB.
-/
namespace Go.Proofs.Ytohflcbpjjnccab
open Go.RowKit

abbrev gval (n : Int) (A : Option Addr) (len c : Nat) : Value := .agg #[.int .i64 n, .slice A len c]




/-! ### GraphValid -/
def okAt (n : Int) (ls : List Lk) (k : Nat) : Bool :=
  match ls[k]? with
  | none => true
  | some l => allowsB n l && (if k = 0 then true else match ls[k - 1]? with
    | some m => beforeB m l
    | none => true)
def gvB (n : Int) (ls : List Lk) : Bool := inB n 1 8 && decide (ls.length ≤ 14) && (List.range ls.length).all (okAt n ls)
theorem okAt_bad {n : Int} {ls : List Lk} {k : Nat} {l : Lk} (h : ls[k]? = some l) (ha : ¬ allowsB n l = true) : okAt n ls k = false := by
  unfold okAt
  simp [h, ha]
theorem okAt_zero {n : Int} {ls : List Lk} {l : Lk} (h : ls[0]? = some l) (ha : allowsB n l = true) : okAt n ls 0 = true := by
  unfold okAt
  simp [h, ha]
theorem okAt_succ {n : Int} {ls : List Lk} {k : Nat} {l m : Lk} (h : ls[k]? = some l) (hm : ls[k - 1]? = some m) (hk : 0 < k) (ha : allowsB n l = true) : okAt n ls k = beforeB m l := by
  unfold okAt
  simp [h, ha, hm, show k ≠ 0 by omega]
theorem valid_rel {n : Int} {v : Value} {ls : List Lk} {w wr w1 : World} {k : Nat} {o : Obj} (hb : Below w.heap.size w wr) (hz : w.heap.size < wr.heap.size)
    (hg0 : wr.cell? ⟨w.heap.size, 0, none⟩ = some (.int .i64 n)) (hg1 : wr.cell? ⟨w.heap.size, 1, none⟩ = some v) (hall : ∀ j, j < k → okAt n ls j = true)
    (hw : Below (wr.alloc o).heap.size (wr.alloc o) w1) (hok : okAt n ls k = true) :
    Below w.heap.size w w1 ∧ w.heap.size < w1.heap.size ∧ w1.cell? ⟨w.heap.size, 0, none⟩ = some (.int .i64 n) ∧ w1.cell? ⟨w.heap.size, 1, none⟩ = some v ∧ ∀ j, j < k + 1 → okAt n ls j = true := by
  have hw2 : Below wr.heap.size wr w1 := ((Below.refl _ _).alloc (Nat.le_refl _) _).trans (hw.mono (by simp))
  refine ⟨hb.trans (hw2.mono hb.size), Nat.lt_of_lt_of_le hz hw2.size, ?_, ?_, fun j hj => ?_⟩
  · exact (hw2.cell (p := ⟨w.heap.size, 0, none⟩) hz).trans hg0
  · exact (hw2.cell (p := ⟨w.heap.size, 1, none⟩) hz).trans hg1
  · by_cases h : j < k
    · exact hall j h
    · obtain rfl : j = k := by omega
      exact hok
theorem gvB_no {n : Int} {ls : List Lk} {k : Nat} (hk : k < ls.length) (h : okAt n ls k = false) : false = gvB n ls := by
  symm
  unfold gvB
  have : (List.range ls.length).all (okAt n ls) = false := by
    rw [List.all_eq_false]
    exact ⟨k, by simpa using hk, by simp [h]⟩
  simp [this]
theorem gvB_yes {n : Int} {ls : List Lk} (h0 : inB n 1 8 = true) (h1 : ls.length ≤ 14) (h : ∀ j, j < ls.length → okAt n ls j = true) : true = gvB n ls := by
  symm
  unfold gvB
  have : (List.range ls.length).all (okAt n ls) = true := by
    rw [List.all_eq_true]
    intro j hj
    exact h j (by simpa using hj)
  simp [this, h0, h1]

theorem Ext.old {wr : World} {o : Obj} (x : Ext (wr.alloc o)) (b i : Nat) (h : b < wr.heap.size) : x.w.cell? ⟨b, i, none⟩ = wr.cell? ⟨b, i, none⟩ :=
  (x.cell b i (by simp; omega)).trans (World.cell?_alloc_lt wr o ⟨b, i, none⟩ h)
theorem Ext.new {wr : World} {cs : Array Value} {t : TypeId} (x : Ext (wr.alloc (.cells cs t))) (i : Nat) : x.w.cell? ⟨wr.heap.size, i, none⟩ = cs[i]? :=
  (x.cell wr.heap.size i (by simp)).trans (cell_of_row _ wr.heap.size i cs t (0, 0) (heap_alloc_new wr _))


end Go.Proofs.Ytohflcbpjjnccab

/-
  A contract over this seat: the specification's GraphValid answers the Boolean gvB, too.
-/
namespace Go.Proofs.Ytohflcbpjjnccab
open Go.RowKit

theorem Ext.olds {wr : World} {o : Obj} (x : Ext (wr.alloc o)) : ∀ (b i : Nat), b < wr.heap.size → x.w.cell? ⟨b, i, none⟩ = wr.cell? ⟨b, i, none⟩ := fun b i h => x.old b i h

theorem allowsB_a {n : Int} {l : Lk} (h : ¬ inB l.a 0 (n - 1) = true) : ¬ allowsB n l = true := by
  unfold allowsB; simp [h]
theorem allowsB_of {n : Int} {l : Lk} (h : inB l.a 0 (n - 1) = true) : allowsB n l = (inB l.b (l.a + 1) (n - 1) && inB l.c 1 20) := by
  unfold allowsB; unfold inB at *; rw [Bool.eq_iff_iff]; simp at *; omega


/-! ### A number of nodes that is not positive -/
theorem neg_rel {n : Int} {v : Value} {w wr w1 : World} {o : Obj} (hb : Below w.heap.size w wr) (hz : w.heap.size < wr.heap.size)
    (hg0 : wr.cell? ⟨w.heap.size, 0, none⟩ = some (.int .i64 n)) (hg1 : wr.cell? ⟨w.heap.size, 1, none⟩ = some v)
    (hw : Below (wr.alloc o).heap.size (wr.alloc o) w1) :
    Below w.heap.size w w1 ∧ w.heap.size < w1.heap.size ∧ w1.cell? ⟨w.heap.size, 0, none⟩ = some (.int .i64 n) ∧ w1.cell? ⟨w.heap.size, 1, none⟩ = some v := by
  have := valid_rel (ls := []) (n := n) (k := 0) hb hz hg0 hg1 (fun _ h => absurd h (by omega)) hw (by simp [okAt])
  exact ⟨this.1, this.2.1, this.2.2.1, this.2.2.2.1⟩



end Go.Proofs.Ytohflcbpjjnccab

/-
  Small lemmas on memory over this seat: a block that begins with two cells; two equal graphs are found equal.
-/
namespace Go.Proofs.Ytohflcbpjjnccab
open Go.RowKit

theorem Sl.alloc {w : World} {B : Nat} {A : Option Addr} {ls : List Lk} (h : Sl w B A ls) (hB : B ≤ w.heap.size) (o : Obj) : Sl (w.alloc o) B A ls :=
  h.below ((Below.refl _ _).alloc hB _)
/-- Block b begins with these two cells. -/
def At2 (w : World) (b : Nat) (v0 v1 : Value) : Prop := b < w.heap.size ∧ w.cell? ⟨b, 0, none⟩ = some v0 ∧ w.cell? ⟨b, 1, none⟩ = some v1
theorem At2.new (w : World) (v0 v1 : Value) (t : TypeId) : At2 (w.alloc (.cells #[v0, v1] t)) w.heap.size v0 v1 :=
  ⟨by simp, by simp [World.cell?_alloc_new], by simp [World.cell?_alloc_new]⟩
theorem At2.below {w w' : World} {b : Nat} {v0 v1 : Value} (h : At2 w b v0 v1) (hb : Below w.heap.size w w') : At2 w' b v0 v1 :=
  ⟨Nat.lt_of_lt_of_le h.1 hb.size, (hb.cell (p := ⟨b, 0, none⟩) h.1).trans h.2.1, (hb.cell (p := ⟨b, 1, none⟩) h.1).trans h.2.2⟩
theorem At2.alloc {w : World} {b : Nat} {v0 v1 : Value} (h : At2 w b v0 v1) (o : Obj) : At2 (w.alloc o) b v0 v1 :=
  h.below ((Below.refl _ _).alloc (Nat.le_refl _) _)

theorem eqLksB_same (ls : List Lk) : eqLksB ls ls = true := (eqLksB_iff ls ls).2 rfl

end Go.Proofs.Ytohflcbpjjnccab
