/-
  Contracts over this seat: the methods of the heap of waiting nodes, called through the interface.
-/
import Derived.Test.YtohflcbpjjnccabA2
import Derived.Test.YtohflcbpjjnccabA9
import Derived.RegionTactic
import Derived.Deep.RegionLaw
import Derived.Deep.LoopGhost
namespace Go.Proofs.Ytohflcbpjjnccab
open Go.RowKit

/-! ### What has not been touched -/
/-- All blocks but those in X lie as they lay. -/
structure Kx (X : Nat → Prop) (w w' : World) : Prop where
  os : w'.os = w.os
  tape : w'.tape = w.tape
  output : w'.output = w.output
  size : w.heap.size ≤ w'.heap.size
  block : ∀ k, k < w.heap.size → ¬ X k → w'.heap[k]? = w.heap[k]?
theorem Kx.refl (X : Nat → Prop) (w : World) : Kx X w w := ⟨rfl, rfl, rfl, Nat.le_refl _, fun _ _ _ => rfl⟩
theorem Kx.trans {X : Nat → Prop} {a b c : World} (h : Kx X a b) (k : Kx X b c) : Kx X a c :=
  ⟨k.os.trans h.os, k.tape.trans h.tape, k.output.trans h.output, Nat.le_trans h.size k.size, fun i hi hx => (k.block i (Nat.lt_of_lt_of_le hi h.size) hx).trans (h.block i hi hx)⟩
/-- What comes second may touch new blocks, too. -/
theorem Kx.then {X Y : Nat → Prop} {a b c : World} (h : Kx X a b) (k : Kx Y b c) (hy : ∀ i, i < a.heap.size → Y i → X i) : Kx X a c :=
  ⟨k.os.trans h.os, k.tape.trans h.tape, k.output.trans h.output, Nat.le_trans h.size k.size, fun i hi hx => (k.block i (Nat.lt_of_lt_of_le hi h.size) (fun e => hx (hy i hi e))).trans (h.block i hi hx)⟩
theorem Kx.mono {X Y : Nat → Prop} {a b : World} (h : Kx X a b) (hy : ∀ i, i < a.heap.size → X i → Y i) : Kx Y a b := ⟨h.os, h.tape, h.output, h.size, fun i hi hx => h.block i hi (fun e => hx (hy i hi e))⟩
theorem Kx.setCell {X : Nat → Prop} {a w : World} (h : Kx X a w) {p : Addr} (hp : X p.block) (u : Value) : Kx X a (w.setCell p u) :=
  ⟨h.os, h.tape, h.output, by simpa using h.size, fun i hi hx => (Below.heap_setCell w p u i (fun e => hx (by rw [e]; exact hp))).trans (h.block i hi hx)⟩
theorem Kx.alloc {X : Nat → Prop} {a w : World} (h : Kx X a w) (o : Obj) : Kx X a (w.alloc o) :=
  ⟨h.os, h.tape, h.output, by have := h.size; simp; omega, fun i hi hx => (Below.heap_alloc w o i (Nat.lt_of_lt_of_le hi h.size)).trans (h.block i hi hx)⟩
theorem Kx.drew {X : Nat → Prop} {a w : World} (h : Kx X a w) : Kx X a w.drew := ⟨h.os, h.tape, h.output, h.size, h.block⟩
theorem Kx.grown {X : Nat → Prop} {a w w' : World} {g : Nat} (h : Kx X a w) (hg : w.grownBy w' (some g)) (hx : g < a.heap.size → X g) : Kx X a w' :=
  ⟨hg.os.trans h.os, hg.tape.trans h.tape, hg.output.trans h.output, Nat.le_trans h.size hg.size, fun i hi hx' => (hg.block i (Nat.lt_of_lt_of_le hi h.size) (fun e => hx' (by cases e; exact hx hi))).trans (h.block i hi hx')⟩
theorem Kx.of_below {X : Nat → Prop} {a b : World} (h : Below a.heap.size a b) : Kx X a b := ⟨h.os, h.tape, h.output, h.size, fun i hi _ => h.block i hi⟩
theorem Kx.below {X : Nat → Prop} {a b : World} (h : Kx X a b) {B : Nat} (hB : B ≤ a.heap.size) (hx : ∀ k, X k → B ≤ k) : Below B a b :=
  ⟨h.os, h.tape, h.output, h.size, fun i hi => h.block i (by omega) (fun e => by have := hx i e; omega)⟩
theorem Kx.box {X : Nat → Prop} {a b : World} (h : Kx X a b) {k : Nat} {t : TypeId} {cs : Array Value} (hb : Box a k t cs) (hx : ¬ X k) : Box b k t cs := (h.block k hb.lt hx).trans hb

/-! ### The heap in memory -/
abbrev Vs.v (x : Vs) : Value := .agg #[.int .i64 x.nd, .int .i64 x.ct]
def flatV : List Vs → List Value
  | [] => []
  | x :: xs => .int .i64 x.nd :: .int .i64 x.ct :: flatV xs
theorem flatV_len (a : List Vs) : (flatV a).length = a.length * 2 := by
  induction a with
  | nil => rfl
  | cons x xs ih => simp [flatV, ih]; omega
theorem flatV_app (a b : List Vs) : flatV (a ++ b) = flatV a ++ flatV b := by
  induction a with
  | nil => rfl
  | cons x xs ih => simp [flatV, ih]
theorem flatV_at (a : List Vs) (k : Nat) (x : Vs) (h : a[k]? = some x) : (flatV a)[k * 2]? = some (.int .i64 x.nd) ∧ (flatV a)[k * 2 + 1]? = some (.int .i64 x.ct) := by
  induction a generalizing k with
  | nil => simp at h
  | cons y ys ih =>
    cases k with
    | zero => simp at h; subst h; simp [flatV]
    | succ k =>
      have := ih k (by simpa using h)
      rw [show (k + 1) * 2 = k * 2 + 1 + 1 by omega]
      simpa [flatV] using this
theorem flatV_ext {a : List Vs} {xs : List Value} (hl : xs.length = a.length * 2) (h : ∀ k x, a[k]? = some x → xs[k * 2]? = some (.int .i64 x.nd) ∧ xs[k * 2 + 1]? = some (.int .i64 x.ct)) : xs = flatV a := by
  refine List.ext_getElem? fun i => ?_
  by_cases hi : i < a.length * 2
  · have hk : i / 2 < a.length := by omega
    obtain ⟨h1, h2⟩ := h (i / 2) _ (List.getElem?_eq_getElem hk)
    obtain ⟨g1, g2⟩ := flatV_at a (i / 2) _ (List.getElem?_eq_getElem hk)
    by_cases he : i % 2 = 0
    · rw [show i / 2 * 2 = i by omega] at h1 g1
      rw [h1, g1]
    · rw [show i / 2 * 2 + 1 = i by omega] at h2 g2
      rw [h2, g2]
  · rw [List.getElem?_eq_none (by omega), List.getElem?_eq_none (by rw [flatV_len]; omega)]







def swcs (cs : Array Value) (i j : Nat) (x y : Vs) : Array Value :=
  (((cs.setIfInBounds (i * 2) (.int .i64 y.nd)).setIfInBounds (i * 2 + 1) (.int .i64 y.ct)).setIfInBounds (j * 2) (.int .i64 x.nd)).setIfInBounds (j * 2 + 1) (.int .i64 x.ct)

/-! ### The methods -/



/-! ### Methods by their names -/
theorem chk_ptr (ats : Array TypeId) (ty : TypeId) (a : Addr) (s t : String) : Builtin.ssaWrapNilChk_ ats ty #[.pointer (some a), strVal s, strVal t] = pure (.pointer (some a)) := rfl









theorem new2 (w : World) (a b : Int) (t : TypeId) : ∀ (j : Nat) (u : Value), [Value.int .i64 a, .int .i64 b][j]? = some u → (w.alloc (.cells #[.int .i64 a, .int .i64 b] t)).cell? ((⟨w.heap.size, 0, none⟩ : Addr).add j) = some u := by
  intro j u h
  have hb := Box.new w t #[.int .i64 a, .int .i64 b]
  match j, h with
  | 0, h => cases h; exact hb.cell 0
  | 1, h => cases h; exact hb.cell 1
theorem one2 (a b : Int) : ∀ u ∈ [Value.int .i64 a, .int .i64 b], u.oneCell' = true := by
  intro u hu
  simp at hu
  rcases hu with rfl | rfl <;> rfl





end Go.Proofs.Ytohflcbpjjnccab

/-
  Contracts over this seat: heap.Push and heap.Pop at the heap of waiting nodes.
-/
namespace Go.Proofs.Ytohflcbpjjnccab
open Go.RowKit





end Go.Proofs.Ytohflcbpjjnccab
