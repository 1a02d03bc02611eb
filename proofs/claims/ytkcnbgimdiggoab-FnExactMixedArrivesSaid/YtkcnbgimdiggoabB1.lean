/-
  Contracts over this seat: the methods of the heap of waiting nodes, called through the interface.
-/
import Derived.Test.YtkcnbgimdiggoabA2
import Derived.Test.YtkcnbgimdiggoabA9
import Derived.RegionTactic
import Derived.Deep.RegionLaw
import Derived.Deep.LoopGhost
namespace Go.Proofs.Ytkcnbgimdiggoab
open Go.RowKit

/-! ### What has not been touched -/
/-- All blocks but those in X lie as they lay. -/
structure Kx (X : Nat → Prop) (w w' : World) : Prop where
  os : w'.os = w.os
  tape : w'.tape = w.tape
  output : w'.output = w.output
  size : w.heap.size ≤ w'.heap.size
  block : ∀ k, k < w.heap.size → ¬ X k → w'.heap[k]? = w.heap[k]?
theorem Kx.refl (X : Nat → Prop) (w : World) : Kx X w w := ⟨rfl, rfl, rfl, Nat.le_refl _, fun _ _ _ => rfl⟩
theorem Kx.trans {X : Nat → Prop} {a b c : World} (h : Kx X a b) (k : Kx X b c) : Kx X a c :=
  ⟨k.os.trans h.os, k.tape.trans h.tape, k.output.trans h.output, Nat.le_trans h.size k.size, fun i hi hx => (k.block i (Nat.lt_of_lt_of_le hi h.size) hx).trans (h.block i hi hx)⟩
/-- What comes second may touch new blocks, too. -/
theorem Kx.then {X Y : Nat → Prop} {a b c : World} (h : Kx X a b) (k : Kx Y b c) (hy : ∀ i, i < a.heap.size → Y i → X i) : Kx X a c :=
  ⟨k.os.trans h.os, k.tape.trans h.tape, k.output.trans h.output, Nat.le_trans h.size k.size, fun i hi hx => (k.block i (Nat.lt_of_lt_of_le hi h.size) (fun e => hx (hy i hi e))).trans (h.block i hi hx)⟩
theorem Kx.mono {X Y : Nat → Prop} {a b : World} (h : Kx X a b) (hy : ∀ i, i < a.heap.size → X i → Y i) : Kx Y a b := ⟨h.os, h.tape, h.output, h.size, fun i hi hx => h.block i hi (fun e => hx (hy i hi e))⟩
theorem Kx.setCell {X : Nat → Prop} {a w : World} (h : Kx X a w) {p : Addr} (hp : X p.block) (u : Value) : Kx X a (w.setCell p u) :=
  ⟨h.os, h.tape, h.output, by simpa using h.size, fun i hi hx => (Below.heap_setCell w p u i (fun e => hx (by rw [e]; exact hp))).trans (h.block i hi hx)⟩
theorem Kx.alloc {X : Nat → Prop} {a w : World} (h : Kx X a w) (o : Obj) : Kx X a (w.alloc o) :=
  ⟨h.os, h.tape, h.output, by have := h.size; simp; omega, fun i hi hx => (Below.heap_alloc w o i (Nat.lt_of_lt_of_le hi h.size)).trans (h.block i hi hx)⟩
theorem Kx.drew {X : Nat → Prop} {a w : World} (h : Kx X a w) : Kx X a w.drew := ⟨h.os, h.tape, h.output, h.size, h.block⟩
theorem Kx.grown {X : Nat → Prop} {a w w' : World} {g : Nat} (h : Kx X a w) (hg : w.grownBy w' (some g)) (hx : g < a.heap.size → X g) : Kx X a w' :=
  ⟨hg.os.trans h.os, hg.tape.trans h.tape, hg.output.trans h.output, Nat.le_trans h.size hg.size, fun i hi hx' => (hg.block i (Nat.lt_of_lt_of_le hi h.size) (fun e => hx' (by cases e; exact hx hi))).trans (h.block i hi hx')⟩
theorem Kx.of_below {X : Nat → Prop} {a b : World} (h : Below a.heap.size a b) : Kx X a b := ⟨h.os, h.tape, h.output, h.size, fun i hi _ => h.block i hi⟩
theorem Kx.below {X : Nat → Prop} {a b : World} (h : Kx X a b) {B : Nat} (hB : B ≤ a.heap.size) (hx : ∀ k, X k → B ≤ k) : Below B a b :=
  ⟨h.os, h.tape, h.output, h.size, fun i hi => h.block i (by omega) (fun e => by have := hx i e; omega)⟩
theorem Kx.box {X : Nat → Prop} {a b : World} (h : Kx X a b) {k : Nat} {t : TypeId} {cs : Array Value} (hb : Box a k t cs) (hx : ¬ X k) : Box b k t cs := (h.block k hb.lt hx).trans hb

/-! ### The heap in memory -/
abbrev Vs.v (x : Vs) : Value := .agg #[.int .i64 x.nd, .int .i64 x.ct]
def flatV : List Vs → List Value
  | [] => []
  | x :: xs => .int .i64 x.nd :: .int .i64 x.ct :: flatV xs
theorem flatV_len (a : List Vs) : (flatV a).length = a.length * 2 := by
  induction a with
  | nil => rfl
  | cons x xs ih => simp [flatV, ih]; omega
theorem flatV_app (a b : List Vs) : flatV (a ++ b) = flatV a ++ flatV b := by
  induction a with
  | nil => rfl
  | cons x xs ih => simp [flatV, ih]
theorem flatV_at (a : List Vs) (k : Nat) (x : Vs) (h : a[k]? = some x) : (flatV a)[k * 2]? = some (.int .i64 x.nd) ∧ (flatV a)[k * 2 + 1]? = some (.int .i64 x.ct) := by
  induction a generalizing k with
  | nil => simp at h
  | cons y ys ih =>
    cases k with
    | zero => simp at h; subst h; simp [flatV]
    | succ k =>
      have := ih k (by simpa using h)
      rw [show (k + 1) * 2 = k * 2 + 1 + 1 by omega]
      simpa [flatV] using this
theorem flatV_ext {a : List Vs} {xs : List Value} (hl : xs.length = a.length * 2) (h : ∀ k x, a[k]? = some x → xs[k * 2]? = some (.int .i64 x.nd) ∧ xs[k * 2 + 1]? = some (.int .i64 x.ct)) : xs = flatV a := by
  refine List.ext_getElem? fun i => ?_
  by_cases hi : i < a.length * 2
  · have hk : i / 2 < a.length := by omega
    obtain ⟨h1, h2⟩ := h (i / 2) _ (List.getElem?_eq_getElem hk)
    obtain ⟨g1, g2⟩ := flatV_at a (i / 2) _ (List.getElem?_eq_getElem hk)
    by_cases he : i % 2 = 0
    · rw [show i / 2 * 2 = i by omega] at h1 g1
      rw [h1, g1]
    · rw [show i / 2 * 2 + 1 = i by omega] at h2 g2
      rw [h2, g2]
  · rw [List.getElem?_eq_none (by omega), List.getElem?_eq_none (by rw [flatV_len]; omega)]

/-- Block B holds the heap a, whose elements lie in block g. -/
structure HpW (w : World) (B g cap : Nat) (cs : Array Value) (a : List Vs) : Prop where
  box : Box w B 87 #[.slice (some ⟨g, 0, none⟩) a.length cap]
  row : Box w g 85 cs
  ne : B ≠ g
  len : a.length ≤ cap
  mx : cap ≤ maxLen
  size : cs.size = cap * 2
  at' : ∀ k x, a[k]? = some x → cs[k * 2]? = some (.int .i64 x.nd) ∧ cs[k * 2 + 1]? = some (.int .i64 x.ct)

theorem HpW.keep {w w' : World} {B g cap : Nat} {cs : Array Value} {a : List Vs} (h : HpW w B g cap cs a) (h1 : w'.heap[B]? = w.heap[B]?) (h2 : w'.heap[g]? = w.heap[g]?) : HpW w' B g cap cs a :=
  ⟨h1.trans h.box, h2.trans h.row, h.ne, h.len, h.mx, h.size, h.at'⟩
theorem HpW.kx {X : Nat → Prop} {w w' : World} {B g cap : Nat} {cs : Array Value} {a : List Vs} (h : HpW w B g cap cs a) (hk : Kx X w w') (h1 : ¬ X B) (h2 : ¬ X g) : HpW w' B g cap cs a :=
  h.keep (hk.block B h.box.lt h1) (hk.block g h.row.lt h2)
theorem HpW.below {w w' : World} {B g cap : Nat} {cs : Array Value} {a : List Vs} (h : HpW w B g cap cs a) (hb : Below w.heap.size w w') : HpW w' B g cap cs a :=
  h.keep (hb.block B h.box.lt) (hb.block g h.row.lt)
theorem HpW.cells {w : World} {B g cap : Nat} {cs : Array Value} {a : List Vs} (h : HpW w B g cap cs a) {k : Nat} {x : Vs} (hk : a[k]? = some x) :
    w.cell? ⟨g, k * 2, none⟩ = some (.int .i64 x.nd) ∧ w.cell? ⟨g, k * 2 + 1, none⟩ = some (.int .i64 x.ct) := by
  rw [h.row.cell, h.row.cell]
  exact h.at' k x hk
theorem HpW.own {w : World} {B g cap : Nat} {cs : Array Value} {a : List Vs} (h : HpW w B g cap cs a) {base : Nat} (hb : base ≤ g) : w.ownsRow base 85 2 (.slice (some ⟨g, 0, none⟩) a.length cap) a.length (flatV a) := by
  refine ⟨flatV_len a, .inr ⟨g, cap, cs, rfl, hb, h.row, h.len, h.mx, h.size, ?_⟩⟩
  have hsz := h.size
  have hln := h.len
  refine flatV_ext (by simp; omega) fun k x hk => ?_
  have hkl := (List.getElem?_eq_some_iff.1 hk).1
  rw [List.getElem?_take_of_lt (by omega), List.getElem?_take_of_lt (by omega), Array.getElem?_toList, Array.getElem?_toList]
  exact h.at' k x hk

def swcs (cs : Array Value) (i j : Nat) (x y : Vs) : Array Value :=
  (((cs.setIfInBounds (i * 2) (.int .i64 y.nd)).setIfInBounds (i * 2 + 1) (.int .i64 y.ct)).setIfInBounds (j * 2) (.int .i64 x.nd)).setIfInBounds (j * 2 + 1) (.int .i64 x.ct)
theorem HpW.swap {w : World} {B g cap : Nat} {cs : Array Value} {a : List Vs} (h : HpW w B g cap cs a) {i j : Nat} {x y : Vs} (hi : a[i]? = some x) (hj : a[j]? = some y) :
    HpW ((((w.setCell ⟨g, i * 2, none⟩ (.int .i64 y.nd)).setCell ⟨g, i * 2 + 1, none⟩ (.int .i64 y.ct)).setCell ⟨g, j * 2, none⟩ (.int .i64 x.nd)).setCell ⟨g, j * 2 + 1, none⟩ (.int .i64 x.ct)) B g cap (swcs cs i j x y) (swp a i j) := by
  have hil := (List.getElem?_eq_some_iff.1 hi).1
  have hjl := (List.getElem?_eq_some_iff.1 hj).1
  have hsz := h.size
  have hln := h.len
  have far : ∀ (w : World) (i : Nat) (u : Value), (w.setCell ⟨g, i, none⟩ u).heap[B]? = w.heap[B]? := fun w i u => Below.heap_setCell w ⟨g, i, none⟩ u B h.ne
  refine ⟨?_, heap_set (heap_set (heap_set (heap_set h.row _ _) _ _) _ _) _ _, h.ne, by rw [swp_len]; exact h.len, h.mx, by simp only [swcs, Array.size_setIfInBounds]; exact h.size, fun k z hk => ?_⟩
  · rw [swp_len]
    exact (far _ _ _).trans ((far _ _ _).trans ((far _ _ _).trans ((far _ _ _).trans h.box)))
  · rw [swp_at hil hjl] at hk
    unfold swcs
    simp only [Array.getElem?_setIfInBounds, Array.size_setIfInBounds]
    by_cases h1 : k = j
    · rw [if_pos h1, hi] at hk
      cases hk
      subst h1
      refine ⟨?_, ?_⟩
      · rw [if_neg (by omega), if_pos rfl, if_pos (by omega)]
      · rw [if_pos rfl, if_pos (by omega)]
    · rw [if_neg h1] at hk
      by_cases h2 : k = i
      · rw [if_pos h2, hj] at hk
        cases hk
        subst h2
        refine ⟨?_, ?_⟩
        · rw [if_neg (by omega), if_neg (by omega), if_neg (by omega), if_pos rfl, if_pos (by omega)]
        · rw [if_neg (by omega), if_neg (by omega), if_pos rfl, if_pos (by omega)]
      · rw [if_neg h2] at hk
        obtain ⟨g1, g2⟩ := h.at' k z hk
        refine ⟨?_, ?_⟩
        · rw [if_neg (by omega), if_neg (by omega), if_neg (by omega), if_neg (by omega)]; exact g1
        · rw [if_neg (by omega), if_neg (by omega), if_neg (by omega), if_neg (by omega)]; exact g2

/-! ### The methods -/
theorem hLen_any (A : Option Addr) (n cap : Nat) (w : World) :
   Calls Try.prog 129 #[.slice A n cap] w fun e w' => e = .returned (.int .i64 n) ∧ w = w' := by
  go_enter Try.func129, Try.ntmps129
  go_wp2
  go_ret
  exact ⟨rfl, rfl⟩

theorem hLess_any {B g cap : Nat} {cs : Array Value} {a : List Vs} (w : World) (h : HpW w B g cap cs a) {i j : Nat} {x y : Vs} (hi : a[i]? = some x) (hj : a[j]? = some y) :
   Calls Try.prog 130 #[.slice (some ⟨g, 0, none⟩) a.length cap, .int .i64 i, .int .i64 j] w fun e w' => e = .returned (.bool (decide (x.ct < y.ct))) ∧ Below w.heap.size w w' := by
  have hil := (List.getElem?_eq_some_iff.1 hi).1
  have hjl := (List.getElem?_eq_some_iff.1 hj).1
  obtain ⟨ci1, ci2⟩ := h.cells hi
  obtain ⟨cj1, cj2⟩ := h.cells hj
  clear h hi hj
  go_enter Try.func130, Try.ntmps130
  go_wp2
  go_quiet (fail)
  go_wp2
  go_ret
  exact ⟨ret_bool (by first | rfl | simp), by
    generalize nq = q at *
    induction q with
    | zero => exact Below.refl _ _
    | succ q ih => exact ih.drew⟩

set_option maxHeartbeats 800000 in
theorem hSwap_any {B g cap : Nat} {cs : Array Value} {a : List Vs} (w : World) (h : HpW w B g cap cs a) {i j : Nat} {x y : Vs} (hi : a[i]? = some x) (hj : a[j]? = some y) :
   Calls Try.prog 131 #[.slice (some ⟨g, 0, none⟩) a.length cap, .int .i64 i, .int .i64 j] w fun e w' => e = .returned (.tuple #[]) ∧ HpW w' B g cap (swcs cs i j x y) (swp a i j) ∧ Kx (fun k => k = g) w w' := by
  have hil := (List.getElem?_eq_some_iff.1 hi).1
  have hjl := (List.getElem?_eq_some_iff.1 hj).1
  obtain ⟨ci1, ci2⟩ := h.cells hi
  obtain ⟨cj1, cj2⟩ := h.cells hj
  have fz := h.row.frozen
  have HH := Lib.hid h
  have HI := Lib.hid hi
  have HJ := Lib.hid hj
  obtain ⟨u1, e1⟩ := cell?_setCell_some (w := w) (p := ⟨g, i * 2, none⟩) (x := .int .i64 y.nd) (q := ⟨g, j * 2, none⟩) cj1
  obtain ⟨u2, e2⟩ := cell?_setCell_some (w := w) (p := ⟨g, i * 2, none⟩) (x := .int .i64 y.nd) (q := ⟨g, j * 2 + 1, none⟩) cj2
  obtain ⟨u3, e3⟩ := cell?_setCell_some (w := w.setCell ⟨g, i * 2, none⟩ (.int .i64 y.nd)) (p := ⟨g, i * 2 + 1, none⟩) (x := .int .i64 y.ct) (q := ⟨g, j * 2 + 1, none⟩) e2
  clear h hi hj
  go_enter Try.func131, Try.ntmps131
  go_wp2
  go_region
  all_goals go_end0
  all_goals
    refine ⟨rfl, (HH.out.swap HI.out HJ.out).below (Below.drew (Below.refl _ _)), Kx.drew ?_⟩
    exact ((((Kx.refl (fun k => k = g) w).setCell (p := ⟨g, i * 2, none⟩) rfl _).setCell (p := ⟨g, i * 2 + 1, none⟩) rfl _).setCell (p := ⟨g, j * 2, none⟩) rfl _).setCell (p := ⟨g, j * 2 + 1, none⟩) rfl _

/-! ### Methods by their names -/
theorem chk_ptr (ats : Array TypeId) (ty : TypeId) (a : Addr) (s t : String) : Builtin.ssaWrapNilChk_ ats ty #[.pointer (some a), strVal s, strVal t] = pure (.pointer (some a)) := rfl
theorem meth_val {nm : String} {f : FuncId} (ht : ((Try.prog.info? 89).bind fun ti => ti.methods.find? (·.name == nm)).map (fun m => (m.path.toList, m.func)) = some ([], some (f, false)))
    {w : World} {B : Nat} {v : Value} (h : w.cell? ⟨B, 0, none⟩ = some v) (N : Nat) : Sem.run Try.prog (method (N + 1) 89 (.pointer (some ⟨B, 0, none⟩)) nm) w = .ok (f, v) w := by
  have hu := Try.underlying89
  have ha : Sem.run Try.prog (isAgg 87) w = .ok false w := by kernel_rfl
  cases h1 : Try.prog.info? 89 with
  | none => rw [h1] at ht; cases ht
  | some ti =>
    rw [h1] at ht
    simp only [Option.bind] at ht
    cases h2 : ti.methods.find? (·.name == nm) with
    | none => rw [h2] at ht; cases ht
    | some m =>
      rw [h2] at ht
      simp only [Option.map, Option.some.injEq, Prod.mk.injEq] at ht
      obtain ⟨nm', sig, path, fn⟩ := m
      obtain ⟨hp, rfl⟩ := ht
      dsimp only at hp
      obtain rfl : path = #[] := by cases path; simpa using hp
      rw [method]
      simp [typeInfo, go_sem, h1, h2, follow, receiverAt, hu, Go.underlying, asAddr, Place.get, chk_ptr, h]

theorem meth_ptr {nm : String} {f : FuncId} (ht : ((Try.prog.info? 89).bind fun ti => ti.methods.find? (·.name == nm)).map (fun m => (m.path.toList, m.func)) = some ([], some (f, true)))
    {w : World} {v : Value} (N : Nat) : Sem.run Try.prog (method (N + 1) 89 v nm) w = .ok (f, v) w := by
  have hu := Try.underlying89
  cases h1 : Try.prog.info? 89 with
  | none => rw [h1] at ht; cases ht
  | some ti =>
    rw [h1] at ht
    simp only [Option.bind] at ht
    cases h2 : ti.methods.find? (·.name == nm) with
    | none => rw [h2] at ht; cases ht
    | some m =>
      rw [h2] at ht
      simp only [Option.map, Option.some.injEq, Prod.mk.injEq] at ht
      obtain ⟨nm', sig, path, fn⟩ := m
      obtain ⟨hp, rfl⟩ := ht
      dsimp only at hp
      obtain rfl : path = #[] := by cases path; simpa using hp
      rw [method]
      simp [typeInfo, go_sem, h1, h2, follow, receiverAt, hu, Go.underlying, Place.get]

abbrev Meth (w : World) (v : Value) (nm : String) (f : FuncId) (r : Value) : Prop := ∀ N : Nat, Sem.run Try.prog (method (N + 1) 89 v nm) w = .ok (f, r) w
theorem mLen {w : World} {B : Nat} {v : Value} (h : w.cell? ⟨B, 0, none⟩ = some v) : Meth w (.pointer (some ⟨B, 0, none⟩)) "Len" 129 v := meth_val (by kernel_rfl) h
theorem mLess {w : World} {B : Nat} {v : Value} (h : w.cell? ⟨B, 0, none⟩ = some v) : Meth w (.pointer (some ⟨B, 0, none⟩)) "Less" 130 v := meth_val (by kernel_rfl) h
theorem mSwap {w : World} {B : Nat} {v : Value} (h : w.cell? ⟨B, 0, none⟩ = some v) : Meth w (.pointer (some ⟨B, 0, none⟩)) "Swap" 131 v := meth_val (by kernel_rfl) h
theorem mPush {w : World} {v : Value} : Meth w v "Push" 133 v := meth_ptr (by kernel_rfl)
theorem mPop {w : World} {v : Value} : Meth w v "Pop" 132 v := meth_ptr (by kernel_rfl)

theorem infoV : (Try.prog.info? 85).map (fun i => (i.zero, i.size, i.bytes)) = some (some (.agg #[.int .i64 0, .int .i64 0]), 2, 16) := by kernel_rfl
theorem new2 (w : World) (a b : Int) (t : TypeId) : ∀ (j : Nat) (u : Value), [Value.int .i64 a, .int .i64 b][j]? = some u → (w.alloc (.cells #[.int .i64 a, .int .i64 b] t)).cell? ((⟨w.heap.size, 0, none⟩ : Addr).add j) = some u := by
  intro j u h
  have hb := Box.new w t #[.int .i64 a, .int .i64 b]
  match j, h with
  | 0, h => cases h; exact hb.cell 0
  | 1, h => cases h; exact hb.cell 1
theorem one2 (a b : Int) : ∀ u ∈ [Value.int .i64 a, .int .i64 b], u.oneCell' = true := by
  intro u hu
  simp at hu
  rcases hu with rfl | rfl <;> rfl

theorem HpW.of_own {w : World} {B g cap : Nat} {a : List Vs} (hb : Box w B 87 #[.slice (some ⟨g, 0, none⟩) a.length cap]) (hne : B ≠ g) {base : Nat} (h : w.ownsRow base 85 2 (.slice (some ⟨g, 0, none⟩) a.length cap) a.length (flatV a)) :
    ∃ cs, HpW w B g cap cs a := by
  rcases h.2 with ⟨e, _⟩ | ⟨g', cap', cs, e, _, hh, hn, hx, hs, ht⟩
  · cases e
  · cases e
    refine ⟨cs, hb, hh, hne, hn, hx, hs, fun k x hk => ?_⟩
    have hkl := (List.getElem?_eq_some_iff.1 hk).1
    obtain ⟨h1, h2⟩ := flatV_at a k x hk
    rw [← ht, List.getElem?_take_of_lt (by omega), Array.getElem?_toList] at h1 h2
    exact ⟨h1, h2⟩

theorem HpW.pushed {w W0 w9 : World} {B g cap : Nat} {cs : Array Value} {a : List Vs} {x : Vs} {g8 cap8 : Nat} (h : HpW w B g cap cs a) (hW : Kx (fun _ => False) w W0) (hg : W0.grownBy w9 (some g))
    (hat : g8 = g ∨ w.heap.size ≤ g8) (hown : w9.ownsRow g 85 2 (.slice (some ⟨g8, 0, none⟩) (a.length + 1) cap8) (a.length + 1) (flatV a ++ [.int .i64 x.nd, .int .i64 x.ct])) :
    ∃ cs', HpW (w9.setCell ⟨B, 0, none⟩ (.slice (some ⟨g8, 0, none⟩) (a.length + 1) cap8)) B g8 cap8 cs' (a ++ [x]) ∧ Kx (fun k => k = B ∨ k = g) w (w9.setCell ⟨B, 0, none⟩ (.slice (some ⟨g8, 0, none⟩) (a.length + 1) cap8)) := by
  have hB := h.box.lt
  have hne := h.ne
  have hne8 : B ≠ g8 := by omega
  have hbx9 : Box w9 B 87 #[.slice (some ⟨g, 0, none⟩) a.length cap] := (hg.block B (Nat.lt_of_lt_of_le hB hW.size) (fun e => hne (Option.some.inj e))).trans (hW.box h.box (fun e => e))
  have hbx : Box (w9.setCell ⟨B, 0, none⟩ (.slice (some ⟨g8, 0, none⟩) (a.length + 1) cap8)) B 87 #[.slice (some ⟨g8, 0, none⟩) (a ++ [x]).length cap8] := by
    have := heap_set (show w9.heap[B]? = _ from hbx9) 0 (.slice (some ⟨g8, 0, none⟩) (a.length + 1) cap8)
    unfold Box
    simpa using this
  obtain ⟨cs', hp⟩ := HpW.of_own (base := g) hbx hne8 (by
    rw [flatV_app, List.length_append]
    rcases hown.2 with ⟨e, _⟩ | ⟨g', cap', cs', e, hb, hh, hn, hx', hs, ht⟩
    · cases e
    · cases e
      exact ⟨hown.1, .inr ⟨_, _, cs', rfl, hb, (Below.heap_setCell w9 _ _ _ (Ne.symm hne8)).trans hh, hn, hx', hs, ht⟩⟩)
  exact ⟨cs', hp, ((hW.mono (fun _ _ e => e.elim)).grown (g := g) hg (fun _ => .inr rfl)).setCell (p := ⟨B, 0, none⟩) (.inl rfl) _⟩

theorem assert_visit (v : Value) (w : World) : Sem.run Try.prog (Instr.typeAssert (.iface 85 v) 20 85 false) w = .ok v w := by
  have hu := Try.underlying85
  unfold Instr.typeAssert
  simp [go_sem, hu, Go.underlying]

set_option maxHeartbeats 800000 in
theorem hPush_any {B g cap : Nat} {cs : Array Value} {a : List Vs} (w : World) (h : HpW w B g cap cs a) (x : Vs) (hm : a.length ≤ 2000000) :
   Calls Try.prog 133 #[.pointer (some ⟨B, 0, none⟩), .iface 85 x.v] w fun e w' => e = .returned (.tuple #[]) ∧ ∃ g' cap' cs', HpW w' B g' cap' cs' (a ++ [x]) ∧ Kx (fun k => k = B ∨ k = g) w w' ∧ (g' = g ∨ w.heap.size ≤ g') := by
  obtain ⟨i0, hi, hz0, hz1, hz2⟩ := info_parts infoV
  have hB := h.box.cell 0
  have fB := h.box.frozen 0
  have zB := h.box.lt
  have zG := h.row.lt
  have HB := Lib.hid h.box
  have HH := Lib.hid h
  have HO := Lib.hid (h.own (Nat.le_refl g))
  have hne := h.ne
  have hta := assert_visit
  clear h
  go_enter Try.func133, Try.ntmps133
  go_wp2
  go_region_law (refine step_append_lies _ rfl _ _ 87 rfl g 85 i0 _ 2 16 Try.underlying87 hi hz0 hz1 hz2 rfl (by decide) _ a.length (flatV a) rfl (HO.out.alloc _) ⟨w.heap.size, 0, none⟩ 1 1 _ rfl rfl (new2 _ _ _ _) (one2 _ _) (by decide) (by unfold maxLen; omega) (by omega) (by simp; omega) _ rfl ?_; intro g8 cap8 w8 hown8 hgrow8 hat8 hlt8; have bx8 : Box w8 B 87 #[.slice (some ⟨g, 0, none⟩) a.length cap] := (hgrow8.block B (by simp; omega) (fun e => hne (Option.some.inj (show some B = some g from e)))).trans (HB.out.alloc _); have e8 := bx8.cell 0; have q8 := bx8.frozen 0; have W8 := Lib.hid hown8; have G8 := Lib.hid hgrow8; have T8 := Lib.hid hat8; have X8 := Lib.hid bx8; clear hown8 hgrow8 hat8 bx8)
  all_goals go_end0
  all_goals
    have hg8 : g8 = g ∨ w.heap.size ≤ g8 := by
      rcases T8.out with h | h
      · exact .inl (Option.some.inj (show some g = some g8 from h)).symm
      · exact .inr (by rw [h]; simp [World.drew])
    obtain ⟨cs', hp, hk⟩ := HH.out.pushed (W0 := (w.alloc (.cells #[.int .i64 x.nd, .int .i64 x.ct] 85)).drew) ((Kx.refl _ w).alloc _).drew G8.out hg8 W8.out
    exact ⟨rfl, g8, cap8, cs', hp, hk, hg8⟩
end Go.Proofs.Ytkcnbgimdiggoab

/-
  Contracts over this seat: heap.Push and heap.Pop at the heap of waiting nodes.
-/
namespace Go.Proofs.Ytkcnbgimdiggoab
open Go.RowKit

theorem HpW.popped {w : World} {B g cap : Nat} {cs : Array Value} {a : List Vs} (h : HpW w B g cap cs a) (_h0 : 0 < a.length) :
    HpW (w.setCell ⟨B, 0, none⟩ (.slice (some ⟨g, 0, none⟩) (a.length - 1) cap)) B g cap cs (a.take (a.length - 1)) := by
  have hl : (a.take (a.length - 1)).length = a.length - 1 := by simp
  refine ⟨?_, (Below.heap_setCell w _ _ _ (Ne.symm h.ne)).trans h.row, h.ne, by rw [hl]; have := h.len; omega, h.mx, h.size, fun k x hk => ?_⟩
  · rw [hl]
    have := heap_set (show w.heap[B]? = _ from h.box) 0 (.slice (some ⟨g, 0, none⟩) (a.length - 1) cap)
    unfold Box
    simpa using this
  · refine h.at' k x ?_
    have hkl := (List.getElem?_eq_some_iff.1 hk).1
    rw [hl] at hkl
    rwa [List.getElem?_take_of_lt hkl] at hk

set_option maxHeartbeats 800000 in
theorem hPop_any {B g cap : Nat} {cs : Array Value} {a : List Vs} (w : World) (h : HpW w B g cap cs a) {x : Vs} (h0 : 0 < a.length) (hx : a[a.length - 1]? = some x) (hm : a.length ≤ 2000000) :
   Calls Try.prog 132 #[.pointer (some ⟨B, 0, none⟩)] w fun e w' => e = .returned (.iface 85 x.v) ∧ HpW w' B g cap cs (a.take (a.length - 1)) ∧ Kx (fun k => k = B) w w' := by
  obtain ⟨n, hn⟩ : ∃ n, a.length = n + 1 := ⟨a.length - 1, by omega⟩
  have hB := h.box.cell 0
  have fB := h.box.frozen 0
  have zB := h.box.lt
  have zG := h.row.lt
  obtain ⟨c1, c2⟩ := h.cells hx
  have hsub : (a.length : Int) - 1 = (n : Int) := by omega
  have hcap := h.len
  have hnb : n ≤ 2000000 := by omega
  rw [hn] at hB c1 c2 hcap
  simp only [Nat.add_sub_cancel] at c1 c2
  simp at hB
  have HH := Lib.hid h
  have HN := Lib.hid hn
  clear h hx hn hsub h0
  go_enter Try.func132, Try.ntmps132
  go_wp2
  go_ret
  refine ⟨rfl, ?_, ?_⟩
  · have hp := HH.out.popped (by rw [HN.out]; omega)
    have e : a.length - 1 = n := by rw [HN.out]; omega
    rw [e] at hp ⊢
    exact hp.below ((Below.refl _ _).alloc (Nat.le_refl _) _)
  · exact ((Kx.refl (fun k => k = B) w).setCell (p := ⟨B, 0, none⟩) rfl _).alloc _

abbrev hv (B : Nat) : Value := .iface 89 (.pointer (some ⟨B, 0, none⟩))

set_option maxRecDepth 100000 in
set_option maxHeartbeats 800000 in
theorem up_any {B g cap : Nat} {cs : Array Value} {a : List Vs} (w : World) (h : HpW w B g cap cs a) (hm : a.length ≤ 2000000) (j : Nat) (hj : j < a.length) (hu : UpF a.length (ctf a) j) :
   Calls Try.prog 103 #[hv B, .int .i64 j] w fun e w' => e = .returned (.tuple #[]) ∧ ∃ cs' b, HpW w' B g cap cs' b ∧ Re a b ∧ Hp b ∧ Kx (fun k => k = g) w w' := by
  have HH := Lib.hid h
  have HU := Lib.hid hu
  clear h hu
  go_enter Try.func103, Try.ntmps103
  go_wp2
  go_loopw [1] (fun v wr => ∃ (i : Nat) (cs : Array Value) (b : List Vs), v = .int .i64 i ∧ i < b.length ∧ HpW wr B g cap cs b ∧ Re a b ∧ UpF b.length (ctf b) i ∧ Kx (fun k => k = g) w wr) (fun v _ => (intOf v).toNat)
  case atStart => exact ⟨j, cs, a, rfl, hj, HH.out, Re.refl _, HU.out, Kx.refl _ _⟩
  case round =>
    obtain ⟨i, cs, b, rfl, hi, hp, hr, hu, hk⟩ := hrel
    have hB : wr.cell? ⟨B, 0, none⟩ = some (.slice (some ⟨g, 0, none⟩) b.length cap) := hp.box.cell 0
    have m1 : ∀ N : Nat, Sem.run Try.prog (method (N + 1) 89 (.pointer (some ⟨B, 0, none⟩)) "Less") wr = .ok (130, .slice (some ⟨g, 0, none⟩) b.length cap) wr := mLess hB
    have hmb : b.length ≤ 2000000 := by have := hr.1; omega
    have HP := Lib.hid hp
    have HR := Lib.hid hr
    have HU := Lib.hid hu
    have HK := Lib.hid hk
    clear hp hr hu hk
    by_cases h0 : i = 0
    · subst h0
      go_wp2
      go_end0
      exact ⟨rfl, cs, b, HP.out, HR.out, HU.out.done (.inl rfl), HK.out⟩
    · have hip : 0 < i := by omega
      obtain ⟨x, hx⟩ : ∃ x, b[i]? = some x := ⟨_, List.getElem?_eq_getElem hi⟩
      obtain ⟨y, hy⟩ : ∃ y, b[(i - 1) / 2]? = some y := ⟨_, List.getElem?_eq_getElem (by omega)⟩
      have C1 := hLess_any wr HP.out hx hy
      have ei : (((i - 1) / 2 : Nat) : Int) = ((i : Int) - 1) / 2 := by omega
      have hne : (((i : Int) - 1) / 2 == (i : Int)) = false := by simp; omega
      rw [ei] at C1
      have EI := Lib.hid ei
      clear ei
      have HX := Lib.hid hx
      have HY := Lib.hid hy
      clear hx hy
      go_wp2_with (first
        | (go_at_call 130; refine C1.mono ?_; clear C1 m1 hB; rintro e w1 ⟨rfl, hb1⟩; have HP1 := Lib.hid (HP.out.below hb1); have HK1 := Lib.hid (HK.out.trans (Kx.of_below hb1)); clear hb1 HP HK; have hB1 : w1.cell? ⟨B, 0, none⟩ = some (.slice (some ⟨g, 0, none⟩) b.length cap) := HP1.out.box.cell 0; have m2 := mSwap hB1; have C2 := hSwap_any w1 HP1.out HY.out HX.out; rw [EI.out] at C2)
        | (go_at_call 131; refine C2.mono ?_; clear C2 m2 hB1; rintro e w2 ⟨rfl, hp2, hk2⟩; have HP2 := Lib.hid hp2; have HK2 := Lib.hid (HK1.out.trans hk2); clear hp2 hk2 HP1 HK1))
      · go_end0
        have hxy : ¬ x.ct < y.ct := by simp_all
        refine ⟨rfl, cs, b, HP1.out, HR.out, HU.out.done (.inr ?_), HK1.out⟩
        rw [ctf_at HX.out, ctf_at HY.out]; exact hxy
      · go_roundw
        case rel =>
          have hxy : x.ct < y.ct := by simp_all
          have hl := HU.out.step hip hi (by rw [ctf_at HX.out, ctf_at HY.out]; exact hxy)
          refine ⟨(i - 1) / 2, _, swp b ((i - 1) / 2) i, by rw [EI.out], by rw [swp_len]; omega, HP2.out, HR.out.swp (by omega) hi, ?_, HK2.out⟩
          rw [swp_len, swp_ctf (by omega) hi]
          exact hl
        case measure => simp [intOf]; omega
end Go.Proofs.Ytkcnbgimdiggoab
