/-
  Common ground for the proofs over this seat: links as triples of numbers, tests as Booleans, regions whose callees make memory but change none (Ext), and small contracts.
-/
import Derived.Test.YtkcnbgimdiggoabProg
import Derived.WalkKit
import Derived.WalkSpells
import Derived.WalkLawsBesides
import Derived.Below
import Derived.Laws.OwnMore
import Derived.Deep.AppendLies
import Derived.Deep.Draws
import Derived.Laws.Rows
import Derived.Outline
import Derived.Deep.QuietTactic
import Derived.BigQuiet
import Derived.Lib.Hide
namespace Go.Proofs.Ytkcnbgimdiggoab
open Go.RowKit

/-! ### Worlds that have grown from w: nothing that was there has changed -/
def Ext (w : World) : Type := { W : World // Below w.heap.size w W }
def Ext.w {w : World} (x : Ext w) : World := x.1
theorem Ext.below {w : World} (x : Ext w) : Below w.heap.size w x.w := x.2
instance instNonemptyExt (w : World) : Nonempty (Ext w) := ⟨⟨w, Below.refl _ _⟩⟩
theorem Ext.cell {w : World} (x : Ext w) (b o : Nat) (h : b < w.heap.size) : x.w.cell? ⟨b, o, none⟩ = w.cell? ⟨b, o, none⟩ := x.below.cell (p := ⟨b, o, none⟩) h

section
variable {P : Program} {w : World}
theorem wp_region_ext {id : Nat} {Q : Exit → Act → World → Prop} {a : Act} {l : List Oper} (hm : P.follows .mixedOrders = true) (hB : Region.lexB .any l.toArray = true)
    (h : wpQuiet P l.toArray (fun w' => ∃ x : Ext w, w' = x.w) (fun a' => ∀ w', (∃ x : Ext w, w' = x.w) → Q .normal a' w') l a) : (Code.region id l.toArray true).wp P Q a w :=
  wp_region_quiet (C := fun w' => ∃ x : Ext w, w' = x.w) hm hB ⟨⟨{ w with drawn := w.drawn + 1 }, (Below.refl _ _).drew⟩, rfl⟩ (by simpa using h)
theorem Calls.ext_of {f : FuncId} {args : Array Value} {v : Value} {x : Ext w}
    (h : Calls P f args x.w fun e w' => e = .returned v ∧ Below x.w.heap.size x.w w') : Calls P f args x.w fun e w'' => e = .returned v ∧ ∃ y : Ext w, w'' = y.w :=
  h.mono fun _ w' ⟨he, hb⟩ => ⟨he, ⟨w', x.below.trans (hb.mono x.below.size)⟩, rfl⟩
theorem Calls.ext_same {f : FuncId} {args : Array Value} {v : Value} {x : Ext w}
    (h : Calls P f args x.w fun e w' => e = .returned v ∧ x.w = w') : Calls P f args x.w fun e w'' => e = .returned v ∧ ∃ y : Ext w, w'' = y.w :=
  h.mono fun _ _ ⟨he, hb⟩ => ⟨he, x, hb.symm⟩
end

/-! ### Links -/
/-- A link as three numbers. -/
structure Lk where
  a : Int
  b : Int
  c : Int
abbrev Lk.v (l : Lk) : Value := .agg #[.int .i64 l.a, .int .i64 l.b, .int .i64 l.c]

def inB (x lo hi : Int) : Bool := decide (lo ≤ x) && decide (x ≤ hi)
def beforeB (l m : Lk) : Bool := decide (l.a < m.a) || (decide (l.a = m.a) && decide (l.b < m.b))
def allowsB (n : Int) (l : Lk) : Bool := inB l.a 0 (n-1) && inB l.b 0 (n-1) && decide (l.a < l.b) && inB l.c 1 20
def eqLinkB (l m : Lk) : Bool := decide (l.a = m.a) && decide (l.b = m.b) && decide (l.c = m.c)

theorem ret_bool {a b : Bool} (h : a = b) : Ending.returned (.bool a) = .returned (.bool b) := by rw [h]
theorem ret_int {a b : Int} (h : a = b) : Ending.returned (.int .i64 a) = .returned (.int .i64 b) := by rw [h]

theorem toLink_any (l : Lk) (w : World) :
   Calls Try.prog 93 #[l.v] w fun e w' => e = .returned l.v ∧ Below w.heap.size w w' := by
  go_enter Try.func93, Try.ntmps93
  go_wp2
  refine bodyPost_ret (v := l.v) (by simp [results, Try.results93, go_sem]) rfl ⟨rfl, ?_⟩
  (repeat (first | exact Below.refl _ _ | (refine Below.alloc ?_ (by first | exact Nat.le_refl _ | omega | (simp; done) | (simp; omega)) _) | (refine Below.setCell ?_ (by first | exact Nat.le_refl _ | omega | (simp; done) | (simp; omega)) _) | exact Below.drew ‹_›))

theorem hasNode_any (n : Int) (v : Value) (x : Int) (w : World) :
   Calls Try.prog 97 #[.agg #[.int .i64 n, v], .int .i64 x] w fun e w' => e = .returned (.bool (inB x 0 (n-1))) ∧ Below w.heap.size w w' := by
  go_enter Try.func97, Try.ntmps97
  go_wp2
  all_goals
    go_ret
    exact ⟨ret_bool (by unfold inB; rw [Bool.eq_iff_iff]; simp; omega), by (repeat (first | exact Below.refl _ _ | (refine Below.alloc ?_ (by first | exact Nat.le_refl _ | omega | (simp; done) | (simp; omega)) _) | (refine Below.setCell ?_ (by first | exact Nat.le_refl _ | omega | (simp; done) | (simp; omega)) _) | exact Below.drew ‹_›))⟩

theorem costValid_any (x : Int) (w : World) :
   Calls Try.prog 107 #[.int .i64 x] w fun e w' => e = .returned (.bool (inB x 1 20)) ∧ w = w' := by
  go_enter Try.func107, Try.ntmps107
  go_wp2
  all_goals
    go_ret
    exact ⟨ret_bool (by unfold inB; rw [Bool.eq_iff_iff]; simp; omega), rfl⟩

theorem l6In_any (x lo hi : Int) (w : World) :
   Calls Try.prog 52 #[.int .i64 x, .int .i64 lo, .int .i64 hi] w fun e w' => e = .returned (.bool (inB x lo hi)) ∧ w = w' := by
  go_enter Try.func52, Try.ntmps52
  go_wp2
  all_goals
    go_ret
    exact ⟨ret_bool (by unfold inB; rw [Bool.eq_iff_iff]; simp; omega), rfl⟩

theorem before_any (l m : Lk) (w : World) :
   Calls Try.prog 86 #[l.v, m.v] w fun e w' => e = .returned (.bool (beforeB l m)) ∧ Below w.heap.size w w' := by
  go_enter Try.func86, Try.ntmps86
  go_wp2
  all_goals
    go_ret
    exact ⟨ret_bool (by unfold beforeB; rw [Bool.eq_iff_iff]; simp; omega), by (repeat (first | exact Below.refl _ _ | (refine Below.alloc ?_ (by first | exact Nat.le_refl _ | omega | (simp; done) | (simp; omega)) _) | (refine Below.setCell ?_ (by first | exact Nat.le_refl _ | omega | (simp; done) | (simp; omega)) _) | exact Below.drew ‹_›))⟩

theorem eqLink_any (l m : Lk) (w : World) :
   Calls Try.prog 94 #[l.v, m.v] w fun e w' => e = .returned (.bool (eqLinkB l m)) ∧ Below w.heap.size w w' := by
  go_enter Try.func94, Try.ntmps94
  go_wp2
  all_goals
    go_ret
    exact ⟨ret_bool (by unfold eqLinkB; simp_all [bne_iff_ne]), by (repeat (first | exact Below.refl _ _ | (refine Below.alloc ?_ (by first | exact Nat.le_refl _ | omega | (simp; done) | (simp; omega)) _) | (refine Below.setCell ?_ (by first | exact Nat.le_refl _ | omega | (simp; done) | (simp; omega)) _) | exact Below.drew ‹_›))⟩

theorem allows_any (n : Int) (v : Value) (l : Lk) (w : World) :
   Calls Try.prog 85 #[.agg #[.int .i64 n, v], l.v] w fun e w' => e = .returned (.bool (allowsB n l)) ∧ Below w.heap.size w w' := by
  go_enter Try.func85, Try.ntmps85
  go_wp2
  all_goals
    go_ret
    exact ⟨ret_bool (by unfold allowsB inB; rw [Bool.eq_iff_iff]; simp; omega), by (repeat (first | exact Below.refl _ _ | (refine Below.alloc ?_ (by first | exact Nat.le_refl _ | omega | (simp; done) | (simp; omega)) _) | (refine Below.setCell ?_ (by first | exact Nat.le_refl _ | omega | (simp; done) | (simp; omega)) _) | exact Below.drew ‹_›))⟩

/-! ### Slices of links -/
/-- The slice of address A reads as the links ls, below block B. -/
def Sl (w : World) (B : Nat) (A : Option Addr) (ls : List Lk) : Prop :=
  ∀ k l, ls[k]? = some l → ∃ b off, A = some ⟨b, off, none⟩ ∧ b < B ∧ w.cell? ⟨b, off + k * 3, none⟩ = some (.int .i64 l.a) ∧ w.cell? ⟨b, off + k * 3 + 1, none⟩ = some (.int .i64 l.b) ∧ w.cell? ⟨b, off + k * 3 + 2, none⟩ = some (.int .i64 l.c)

theorem Sl.keep {w w' : World} {B : Nat} {A : Option Addr} {ls : List Lk} (h : Sl w B A ls) (hk : ∀ b o, b < B → w'.cell? ⟨b, o, none⟩ = w.cell? ⟨b, o, none⟩) : Sl w' B A ls := by
  intro k l hl
  obtain ⟨b, off, e, hb, h1, h2, h3⟩ := h k l hl
  exact ⟨b, off, e, hb, (hk _ _ hb).trans h1, (hk _ _ hb).trans h2, (hk _ _ hb).trans h3⟩
theorem Sl.below {w w' : World} {B : Nat} {A : Option Addr} {ls : List Lk} (h : Sl w B A ls) (hb : Below B w w') : Sl w' B A ls := h.keep fun b o h => hb.cell (p := ⟨b, o, none⟩) h
theorem Sl.more {w : World} {B B' : Nat} {A : Option Addr} {ls : List Lk} (h : Sl w B A ls) (hb : B ≤ B') : Sl w B' A ls := by
  intro k l hl
  obtain ⟨b, off, e, hb', h1, h2, h3⟩ := h k l hl
  exact ⟨b, off, e, by omega, h1, h2, h3⟩

theorem eqLinkB_iff (l m : Lk) : eqLinkB l m = true ↔ l = m := by
  cases l; cases m; simp [eqLinkB, and_assoc]
def eqLksB : List Lk → List Lk → Bool
  | [], [] => true
  | x :: xs, y :: ys => eqLinkB x y && eqLksB xs ys
  | _, _ => false
theorem eqLksB_iff (xs ys : List Lk) : eqLksB xs ys = true ↔ xs = ys := by
  induction xs generalizing ys with
  | nil => cases ys <;> simp [eqLksB]
  | cons x xs ih => cases ys <;> simp [eqLksB, eqLinkB_iff, ih]
theorem eqLksB_no {xs ys : List Lk} {k : Nat} {x y : Lk} (hx : xs[k]? = some x) (hy : ys[k]? = some y) (h : (!eqLinkB x y) = true) : false = eqLksB xs ys := by
  by_cases e : eqLksB xs ys = true
  · rw [eqLksB_iff] at e
    subst e
    rw [hx] at hy
    cases hy
    rw [(eqLinkB_iff x x).2 rfl] at h
    cases h
  · simpa using e
theorem eqLksB_yes {xs ys : List Lk} (hl : xs.length = ys.length) (h : ∀ j x y, j < xs.length → xs[j]? = some x → ys[j]? = some y → eqLinkB x y = true) : true = eqLksB xs ys := by
  symm
  rw [eqLksB_iff]
  refine List.ext_getElem hl fun j h1 h2 => ?_
  exact (eqLinkB_iff _ _).1 (h j _ _ h1 (List.getElem?_eq_getElem h1) (List.getElem?_eq_getElem h2))

set_option maxHeartbeats 400000 in
theorem eqLinkS_any (A1 A2 : Option Addr) (xs ys : List Lk) (c1 c2 : Nat) (w : World) (hm : xs.length ≤ 2000000)
    (h1 : Sl w w.heap.size A1 xs) (h2 : Sl w w.heap.size A2 ys) :
   Calls Try.prog 67 #[.slice A1 xs.length c1, .slice A2 ys.length c2] w fun e w' => e = .returned (.bool (eqLksB xs ys)) ∧ Below w.heap.size w w' := by
  by_cases hlen : xs.length = ys.length
  · have hl : ((xs.length : Int) != (ys.length : Int)) = false := by simp [hlen]
    have HL := Lib.hid hlen
    go_enter Try.func67, Try.ntmps67
    clear hlen
    go_wp2
    go_loopw [5] (fun i wr => ∃ k : Nat, k ≤ xs.length ∧ i = .int .i64 k ∧ Below w.heap.size w wr ∧ (∀ j x y, j < k → xs[j]? = some x → ys[j]? = some y → eqLinkB x y = true)) (fun i _ => xs.length - (intOf i).toNat)
    case atStart => exact ⟨0, Nat.zero_le _, rfl, Below.refl _ _, fun j _ _ h => by omega⟩
    case round =>
      obtain ⟨k, hk, rfl, hb, hall⟩ := hrel
      by_cases hlt : k < xs.length
      · have hlt2 : k < ys.length := by rw [← HL.out]; exact hlt
        obtain ⟨x, hx⟩ : ∃ x, xs[k]? = some x := ⟨_, List.getElem?_eq_getElem hlt⟩
        obtain ⟨y, hy⟩ : ∃ y, ys[k]? = some y := ⟨_, List.getElem?_eq_getElem hlt2⟩
        obtain ⟨b, off, rfl, hbb, hc1, hc2, hc3⟩ := (h1.below hb) k x hx
        obtain ⟨b', off', rfl, hbb', hd1, hd2, hd3⟩ := (h2.below hb) k y hy
        have HX := Lib.hid hx
        have HY := Lib.hid hy
        have HA := Lib.hid hall
        have hz := hb.size
        have hbb1 : b < wr.heap.size := by omega
        have hbb2 : b' < wr.heap.size := by omega
        clear hx hy hall h1 h2
        have hX := fun (x : Ext wr) (bb o : Nat) (h : bb < wr.heap.size) => x.cell bb o h
        go_wp2
        refine wp_region_ext (by kernel_rfl) (by kernel_rfl) ?_
        repeat (go_big_quiet_step (first | (go_at_call 94; exact Calls.ext_of (eqLink_any _ _ _))))
        (refine wpQuiet_nil ?_); (rintro _ ⟨X, rfl⟩); (have hw1 := X.below); (generalize X.w = w1 at *); (clear X)
        clear hX
        go_wp2
        · go_ret
          exact ⟨ret_bool (eqLksB_no HX.out HY.out ‹_›), hb.trans (hw1.mono hz)⟩
        · go_roundw
          case rel =>
            refine ⟨k + 1, hlt, by go_num, hb.trans (hw1.mono hz), fun j x' y' hj e1 e2 => ?_⟩
            by_cases hjk : j < k
            · exact HA.out j x' y' hjk e1 e2
            · obtain rfl : j = k := by omega
              rw [HX.out] at e1
              rw [HY.out] at e2
              cases e1
              cases e2
              simpa using ‹(!eqLinkB x y) = false›
          case measure => simp [intOf]; omega
      · have hge : xs.length ≤ k := by omega
        have HA := Lib.hid hall
        clear hall h1 h2
        go_wp2
        go_ret
        exact ⟨ret_bool (eqLksB_yes HL.out fun j x y hj => HA.out j x y (by omega)), hb⟩
  · have hl : ((xs.length : Int) != (ys.length : Int)) = true := by simp; omega
    go_enter Try.func67, Try.ntmps67
    go_wp2
    go_ret
    refine ⟨ret_bool ?_, Below.refl _ _⟩
    by_cases e : eqLksB xs ys = true
    · exact absurd (congrArg List.length ((eqLksB_iff _ _).1 e)) hlen
    · simpa using e

theorem eqGraph_any (n m : Int) (A1 A2 : Option Addr) (xs ys : List Lk) (c1 c2 : Nat) (w : World) (hm : xs.length ≤ 2000000)
    (h1 : Sl w w.heap.size A1 xs) (h2 : Sl w w.heap.size A2 ys) :
   Calls Try.prog 32 #[.agg #[.int .i64 n, .slice A1 xs.length c1], .agg #[.int .i64 m, .slice A2 ys.length c2]] w fun e w' => e = .returned (.bool (decide (n = m) && eqLksB xs ys)) ∧ Below w.heap.size w w' := by
  have H1 := Lib.hid h1
  have H2 := Lib.hid h2
  clear h1 h2
  go_enter Try.func32, Try.ntmps32
  go_wp2_with (first | (go_at_call 67; refine (eqLinkS_any A1 A2 xs ys c1 c2 _ hm ?_ ?_).mono ?_; (exact (H1.out.below (by (repeat (first | exact Below.refl _ _ | (refine Below.alloc ?_ (by first | exact Nat.le_refl _ | omega | (simp; done) | (simp; omega)) _) | (refine Below.setCell ?_ (by first | exact Nat.le_refl _ | omega | (simp; done) | (simp; omega)) _) | exact Below.drew ‹_›)))).more (by simp; omega)); (exact (H2.out.below (by (repeat (first | exact Below.refl _ _ | (refine Below.alloc ?_ (by first | exact Nat.le_refl _ | omega | (simp; done) | (simp; omega)) _) | (refine Below.setCell ?_ (by first | exact Nat.le_refl _ | omega | (simp; done) | (simp; omega)) _) | exact Below.drew ‹_›)))).more (by simp; omega)); rintro e w' ⟨rfl, hb⟩))
  · go_ret
    have hn : n ≠ m := by simpa using ‹(n != m) = true›
    exact ⟨ret_bool (by simp [hn]), by (repeat (first | exact Below.refl _ _ | (refine Below.alloc ?_ (by first | exact Nat.le_refl _ | omega | (simp; done) | (simp; omega)) _) | (refine Below.setCell ?_ (by first | exact Nat.le_refl _ | omega | (simp; done) | (simp; omega)) _) | exact Below.drew ‹_›))⟩
  · go_ret
    have hs : eqLksB xs ys = false := by simpa using ‹(!eqLksB xs ys) = true›
    exact ⟨ret_bool (by simp [hs]), Below.trans (by (repeat (first | exact Below.refl _ _ | (refine Below.alloc ?_ (by first | exact Nat.le_refl _ | omega | (simp; done) | (simp; omega)) _) | (refine Below.setCell ?_ (by first | exact Nat.le_refl _ | omega | (simp; done) | (simp; omega)) _) | exact Below.drew ‹_›))) (hb.mono (by simp; omega))⟩
  · go_ret
    have hn : n = m := by simpa using ‹(n != m) = false›
    have hs : eqLksB xs ys = true := by simpa using ‹(!eqLksB xs ys) = false›
    exact ⟨ret_bool (by simp [hn, hs]), Below.trans (by (repeat (first | exact Below.refl _ _ | (refine Below.alloc ?_ (by first | exact Nat.le_refl _ | omega | (simp; done) | (simp; omega)) _) | (refine Below.setCell ?_ (by first | exact Nat.le_refl _ | omega | (simp; done) | (simp; omega)) _) | exact Below.drew ‹_›))) (hb.mono (by simp; omega))⟩

/-! ### Arrays of links of the call's own -/
/-- Block g is an array whose first elements are the links ls. -/
def Arr (w : World) (g : Nat) (ls : List Lk) : Prop :=
  ∃ cs : Array Value, w.heap[g]? = some (.cells cs 68 (0, 0)) ∧ ∀ k l, ls[k]? = some l → cs[k * 3]? = some (.int .i64 l.a) ∧ cs[k * 3 + 1]? = some (.int .i64 l.b) ∧ cs[k * 3 + 2]? = some (.int .i64 l.c)
theorem heap_lt {w : World} {g : Nat} {o : Obj} (h : w.heap[g]? = some o) : g < w.heap.size := (Array.getElem?_eq_some_iff.1 h).1
theorem Arr.lt {w : World} {g : Nat} {ls : List Lk} (h : Arr w g ls) : g < w.heap.size := by
  obtain ⟨cs, h, _⟩ := h
  exact heap_lt h
theorem Arr.sl {w : World} {g B : Nat} {ls : List Lk} (h : Arr w g ls) (hB : g < B) : Sl w B (some ⟨g, 0, none⟩) ls := by
  obtain ⟨cs, hh, hc⟩ := h
  intro k l hl
  obtain ⟨h1, h2, h3⟩ := hc k l hl
  refine ⟨g, 0, rfl, hB, ?_, ?_, ?_⟩
  · rw [cell_of_row w g _ cs _ _ hh]; simpa using h1
  · rw [cell_of_row w g _ cs _ _ hh]; simpa using h2
  · rw [cell_of_row w g _ cs _ _ hh]; simpa using h3
theorem Arr.below {w w' : World} {g B : Nat} {ls : List Lk} (h : Arr w g ls) (hb : Below B w w') (hg : g < B) : Arr w' g ls := by
  obtain ⟨cs, hh, hc⟩ := h
  exact ⟨cs, (hb.block g hg).trans hh, hc⟩

theorem bcell {W w1 : World} (hb : Below W.heap.size W w1) : (∀ b o, b < W.heap.size → w1.cell? ⟨b, o, none⟩ = W.cell? ⟨b, o, none⟩) ∧ (∀ b o, b < W.heap.size → w1.frozen? ⟨b, o, none⟩ = W.frozen? ⟨b, o, none⟩) :=
  ⟨fun b o h => hb.cell (p := ⟨b, o, none⟩) h, fun b o h => hb.frozen (p := ⟨b, o, none⟩) h⟩

theorem infoLink : (Try.prog.info? 68).map (fun i => (i.zero, i.size, i.bytes)) = some (some (.agg #[.int .i64 0, .int .i64 0, .int .i64 0]), 3, 24) := by kernel_rfl

theorem own_arr {w : World} {base e size g n cap : Nat} {xs : List Value} (h : w.ownsRow base e size (.slice (some ⟨g, 0, none⟩) n cap) n xs) :
    ∃ cs : Array Value, w.heap[g]? = some (.cells cs e (0, 0)) ∧ cs.size = cap * size ∧ base ≤ g ∧ n ≤ cap ∧ cs.toList.take (n * size) = xs := by
  rcases h.2 with ⟨h, _⟩ | ⟨g', cap', cur, hv, hb, hh, hn, _, hs, ht⟩
  · cases h
  · cases hv
    exact ⟨cur, hh, hs, hb, hn, ht⟩
theorem heap_set {w : World} {g : Nat} {t : TypeId} {cs : Array Value} (h : w.heap[g]? = some (.cells cs t (0, 0))) (i : Nat) (u : Value) : (w.setCell ⟨g, i, none⟩ u).heap[g]? = some (.cells (cs.setIfInBounds i u) t (0, 0)) := by
  simp [World.setCell, Array.getElem?_modify, h]
theorem heap_frozen {w : World} {g : Nat} {t : TypeId} {cs : Array Value} (h : w.heap[g]? = some (.cells cs t (0, 0))) (i : Nat) : w.frozen? ⟨g, i, none⟩ = false := by
  simp [World.frozen?, h]

/-- What 'toLinkS' leaves. -/
def MadeArr (ls : List Lk) (w : World) (e : Ending) (w' : World) : Prop :=
  ∃ g, e = .returned (.slice (some ⟨g, 0, none⟩) ls.length ls.length) ∧ w.heap.size ≤ g ∧ Arr w' g ls ∧ Below w.heap.size w w'

/-- The first k links stand in the array cs. -/
def Upto (cs : Array Value) (ls : List Lk) (k : Nat) : Prop :=
  ∀ j l, j < k → ls[j]? = some l → cs[j * 3]? = some (.int .i64 l.a) ∧ cs[j * 3 + 1]? = some (.int .i64 l.b) ∧ cs[j * 3 + 2]? = some (.int .i64 l.c)
theorem Upto.succ {cs : Array Value} {ls : List Lk} {k : Nat} {l : Lk} (h : Upto cs ls k) (hl : ls[k]? = some l) (hs : k * 3 + 2 < cs.size) :
    Upto (((cs.setIfInBounds (k * 3) (.int .i64 l.a)).setIfInBounds (k * 3 + 1) (.int .i64 l.b)).setIfInBounds (k * 3 + 2) (.int .i64 l.c)) ls (k + 1) := by
  intro j m hj hm
  by_cases hjk : j < k
  · obtain ⟨h1, h2, h3⟩ := h j m hjk hm
    simp only [Array.getElem?_setIfInBounds, Array.size_setIfInBounds]
    refine ⟨?_, ?_, ?_⟩
    · rw [if_neg (by omega), if_neg (by omega), if_neg (by omega)]; exact h1
    · rw [if_neg (by omega), if_neg (by omega), if_neg (by omega)]; exact h2
    · rw [if_neg (by omega), if_neg (by omega), if_neg (by omega)]; exact h3
  · obtain rfl : j = k := by omega
    rw [hl] at hm
    cases hm
    simp only [Array.getElem?_setIfInBounds, Array.size_setIfInBounds]
    refine ⟨?_, ?_, ?_⟩
    · rw [if_neg (by omega), if_neg (by omega), if_pos trivial, if_pos (by omega)]
    · rw [if_neg (by omega), if_pos trivial, if_pos (by omega)]
    · rw [if_pos trivial, if_pos (by omega)]

theorem cell_in {w : World} {g : Nat} {t : TypeId} {cs : Array Value} (h : w.heap[g]? = some (.cells cs t (0, 0))) {i : Nat} (hi : i < cs.size) : ∃ v, w.cell? ⟨g, i, none⟩ = some v :=
  ⟨_, (cell_of_row w g i cs t (0, 0) h).trans (Array.getElem?_eq_getElem hi)⟩
theorem toLink_at (l : Lk) (wr : World) {g : Nat} {t : TypeId} {cs : Array Value} {k : Nat} (hcs : wr.heap[g]? = some (.cells cs t (0, 0))) (hs : k * 3 + 2 < cs.size) :
   Calls Try.prog 93 #[l.v] wr fun e w1 => e = .returned l.v ∧ Below wr.heap.size wr w1 ∧ Hid (w1.heap[g]? = some (.cells cs t (0, 0))) ∧ (∀ i, w1.frozen? ⟨g, i, none⟩ = false) ∧
     (∃ v, w1.cell? ⟨g, k * 3, none⟩ = some v) ∧ (∃ v, w1.cell? ⟨g, k * 3 + 1, none⟩ = some v) ∧ (∃ v, w1.cell? ⟨g, k * 3 + 2, none⟩ = some v) :=
  (toLink_any l wr).mono fun e w1 ⟨he, hb⟩ => by
    have hh := (hb.block _ (heap_lt hcs)).trans hcs
    exact ⟨he, hb, hh, heap_frozen hh, cell_in hh (by omega), cell_in hh (by omega), cell_in hh hs⟩

set_option maxHeartbeats 400000 in
theorem toLinkS_any (A : Option Addr) (ls : List Lk) (c : Nat) (w : World) (hm : ls.length ≤ 2000000)
    (h1 : Sl w w.heap.size A ls) :
   Calls Try.prog 66 #[.slice A ls.length c] w (MadeArr ls w) := by
  obtain ⟨i0, hi, hz0, hz1, hz2⟩ := info_parts infoLink
  have H1 := Lib.hid h1
  clear h1
  go_enter Try.func66, Try.ntmps66
  go_wp2_with (first | (at_make; refine wpList_make_full _ rfl _ _ 23 rfl w.heap.size 68 i0 _ 3 Try.underlying23 hi hz0 hz1 _ _ _ _ ls.length rfl rfl rfl rfl (by rw [hz2]; omega) (by unfold maxLen; omega) (Nat.le_refl _) ?_; intro w1 hown hgrow))
  obtain ⟨cs0, hh0, hs0, hg0, _, _⟩ := own_arr hown
  have HB := Lib.hid ((Below.refl w.heap.size w).grown hgrow (Nat.le_refl _) (fun _ h => by cases h))
  have HH := Lib.hid hh0
  have HS := Lib.hid hs0
  clear hown hgrow hh0 hs0 hg0 hi hz0 hz1 hz2
  go_loopw [4] (fun i wr => ∃ k : Nat, k ≤ ls.length ∧ i = .int .i64 k ∧ Below w.heap.size w wr ∧ ∃ cs : Array Value, wr.heap[w.heap.size]? = some (.cells cs 68 (0, 0)) ∧ cs.size = ls.length * 3 ∧ Upto cs ls k) (fun i _ => ls.length - (intOf i).toNat)
  case atStart => exact ⟨0, Nat.zero_le _, rfl, HB.out, cs0, HH.out, HS.out, fun j _ h => by omega⟩
  case round =>
    obtain ⟨k, hk, rfl, hb, cs, hcs, hsz, hup⟩ := hrel
    have HU := Lib.hid hup
    have HC := Lib.hid hcs
    have HZ := Lib.hid hsz
    have hgl : w.heap.size < wr.heap.size := heap_lt hcs
    clear hup HB HH HS
    by_cases hlt : k < ls.length
    · obtain ⟨l, hl⟩ : ∃ x, ls[k]? = some x := ⟨_, List.getElem?_eq_getElem hlt⟩
      obtain ⟨b, off, rfl, hbb, hc1, hc2, hc3⟩ := (H1.out.below hb) k l hl
      have HL := Lib.hid hl
      clear hl hcs hsz
      have hs3 : k * 3 + 2 < cs.size := by rw [HZ.out]; omega
      have C1 := toLink_at l wr HC.out hs3
      go_wp2_with (first | (go_at_call 93; refine C1.mono ?_; clear C1; rintro e w1 ⟨rfl, hb1, HH, hf, ⟨v0, hd0⟩, ⟨v1, hd1⟩, ⟨v2, hd2⟩⟩))
      go_roundw
      case rel => exact ⟨k + 1, hlt, by go_num, (((hb.trans (hb1.mono hb.size)).setCell (Nat.le_refl _) _).setCell (Nat.le_refl _) _).setCell (Nat.le_refl _) _, _, heap_set (heap_set (heap_set HH.out _ _) _ _) _ _, by simp only [Array.size_setIfInBounds]; exact HZ.out, HU.out.succ HL.out hs3⟩
      case measure => simp [intOf]; omega
    · obtain rfl : k = ls.length := by omega
      go_wp2
      go_ret
      exact ⟨_, rfl, Nat.le_refl _, ⟨cs, HC.out, fun j l hl => HU.out j l (List.getElem?_eq_some_iff.1 hl).1 hl⟩, hb⟩

end Go.Proofs.Ytkcnbgimdiggoab

/-
  Contracts over this seat: toGraph lays a copy of a graph in new memory; GraphValid, of the program and of the specification, answers the Boolean gvB.
-/
namespace Go.Proofs.Ytkcnbgimdiggoab
open Go.RowKit

abbrev gval (n : Int) (A : Option Addr) (len c : Nat) : Value := .agg #[.int .i64 n, .slice A len c]

theorem Arr.far {w : World} {g : Nat} {ls : List Lk} (h : Arr w g ls) {p : Addr} (hp : g ≠ p.block) (u : Value) : Arr (w.setCell p u) g ls := by
  obtain ⟨cs, hh, hc⟩ := h
  exact ⟨cs, (Below.heap_setCell w p u g hp).trans hh, hc⟩

/-- What 'toGraph' leaves. -/
def MadeG (n : Int) (ls : List Lk) (w : World) (e : Ending) (w' : World) : Prop :=
  ∃ g, e = .returned (gval n (some ⟨g, 0, none⟩) ls.length ls.length) ∧ w.heap.size ≤ g ∧ Arr w' g ls ∧ Below w.heap.size w w'

set_option maxHeartbeats 400000 in
theorem toGraph_any (n : Int) (A : Option Addr) (ls : List Lk) (c : Nat) (w : World) (hm : ls.length ≤ 2000000)
    (h1 : Sl w w.heap.size A ls) :
   Calls Try.prog 29 #[gval n A ls.length c] w (MadeG n ls w) := by
  have H1 := Lib.hid h1
  clear h1
  go_enter Try.func29, Try.ntmps29
  go_wp2_with (first | (go_at_call 66; refine (toLinkS_any A ls c _ hm ((H1.out.below (by (repeat (first | exact Below.refl _ _ | (refine Below.alloc ?_ (by first | exact Nat.le_refl _ | omega | (simp; done) | (simp; omega)) _) | (refine Below.setCell ?_ (by first | exact Nat.le_refl _ | omega | (simp; done) | (simp; omega)) _) | exact Below.drew ‹_›)))).more (by simp; omega))).mono ?_; rintro e w1 ⟨g, rfl, hg, harr, hb⟩; obtain ⟨hc, hf⟩ := bcell hb; have hz := hb.size; have HB := Lib.hid hb; have HA := Lib.hid harr; have hgl := harr.lt; clear hb harr))
  simp only [World.size_alloc] at hg hz
  refine bodyPost_ret (v := gval n (some ⟨g, 0, none⟩) ls.length ls.length) (by simp [results, Try.results29, go_sem, hc]) rfl ⟨g, rfl, by omega, ?_, ?_⟩
  · exact ((HA.out.far (by simp; omega) _).far (by simp; omega) _).far (by simp; omega) _
  · exact (((Below.trans (by (repeat (first | exact Below.refl _ _ | (refine Below.alloc ?_ (by first | exact Nat.le_refl _ | omega | (simp; done) | (simp; omega)) _) | (refine Below.setCell ?_ (by first | exact Nat.le_refl _ | omega | (simp; done) | (simp; omega)) _) | exact Below.drew ‹_›))) (HB.out.mono (by simp; omega))).setCell (by simp; omega) _).setCell (by simp) _).setCell (by simp) _

/-! ### GraphValid -/
def okAt (n : Int) (ls : List Lk) (k : Nat) : Bool :=
  match ls[k]? with
  | none => true
  | some l => allowsB n l && (if k = 0 then true else match ls[k - 1]? with
    | some m => beforeB m l
    | none => true)
def gvB (n : Int) (ls : List Lk) : Bool := inB n 1 8 && decide (ls.length ≤ 14) && (List.range ls.length).all (okAt n ls)
theorem okAt_bad {n : Int} {ls : List Lk} {k : Nat} {l : Lk} (h : ls[k]? = some l) (ha : ¬ allowsB n l = true) : okAt n ls k = false := by
  unfold okAt
  simp [h, ha]
theorem okAt_zero {n : Int} {ls : List Lk} {l : Lk} (h : ls[0]? = some l) (ha : allowsB n l = true) : okAt n ls 0 = true := by
  unfold okAt
  simp [h, ha]
theorem okAt_succ {n : Int} {ls : List Lk} {k : Nat} {l m : Lk} (h : ls[k]? = some l) (hm : ls[k - 1]? = some m) (hk : 0 < k) (ha : allowsB n l = true) : okAt n ls k = beforeB m l := by
  unfold okAt
  simp [h, ha, hm, show k ≠ 0 by omega]
theorem valid_rel {n : Int} {v : Value} {ls : List Lk} {w wr w1 : World} {k : Nat} {o : Obj} (hb : Below w.heap.size w wr) (hz : w.heap.size < wr.heap.size)
    (hg0 : wr.cell? ⟨w.heap.size, 0, none⟩ = some (.int .i64 n)) (hg1 : wr.cell? ⟨w.heap.size, 1, none⟩ = some v) (hall : ∀ j, j < k → okAt n ls j = true)
    (hw : Below (wr.alloc o).heap.size (wr.alloc o) w1) (hok : okAt n ls k = true) :
    Below w.heap.size w w1 ∧ w.heap.size < w1.heap.size ∧ w1.cell? ⟨w.heap.size, 0, none⟩ = some (.int .i64 n) ∧ w1.cell? ⟨w.heap.size, 1, none⟩ = some v ∧ ∀ j, j < k + 1 → okAt n ls j = true := by
  have hw2 : Below wr.heap.size wr w1 := ((Below.refl _ _).alloc (Nat.le_refl _) _).trans (hw.mono (by simp))
  refine ⟨hb.trans (hw2.mono hb.size), Nat.lt_of_lt_of_le hz hw2.size, ?_, ?_, fun j hj => ?_⟩
  · exact (hw2.cell (p := ⟨w.heap.size, 0, none⟩) hz).trans hg0
  · exact (hw2.cell (p := ⟨w.heap.size, 1, none⟩) hz).trans hg1
  · by_cases h : j < k
    · exact hall j h
    · obtain rfl : j = k := by omega
      exact hok
theorem gvB_no {n : Int} {ls : List Lk} {k : Nat} (hk : k < ls.length) (h : okAt n ls k = false) : false = gvB n ls := by
  symm
  unfold gvB
  have : (List.range ls.length).all (okAt n ls) = false := by
    rw [List.all_eq_false]
    exact ⟨k, by simpa using hk, by simp [h]⟩
  simp [this]
theorem gvB_yes {n : Int} {ls : List Lk} (h0 : inB n 1 8 = true) (h1 : ls.length ≤ 14) (h : ∀ j, j < ls.length → okAt n ls j = true) : true = gvB n ls := by
  symm
  unfold gvB
  have : (List.range ls.length).all (okAt n ls) = true := by
    rw [List.all_eq_true]
    intro j hj
    exact h j (by simpa using hj)
  simp [this, h0, h1]

theorem Ext.old {wr : World} {o : Obj} (x : Ext (wr.alloc o)) (b i : Nat) (h : b < wr.heap.size) : x.w.cell? ⟨b, i, none⟩ = wr.cell? ⟨b, i, none⟩ :=
  (x.cell b i (by simp; omega)).trans (World.cell?_alloc_lt wr o ⟨b, i, none⟩ h)
theorem Ext.new {wr : World} {cs : Array Value} {t : TypeId} (x : Ext (wr.alloc (.cells cs t))) (i : Nat) : x.w.cell? ⟨wr.heap.size, i, none⟩ = cs[i]? :=
  (x.cell wr.heap.size i (by simp)).trans (cell_of_row _ wr.heap.size i cs t (0, 0) (heap_alloc_new wr _))

set_option maxHeartbeats 800000 in
theorem valid_impl (n : Int) (A : Option Addr) (ls : List Lk) (c : Nat) (w : World) (hm : ls.length ≤ 2000000)
    (h1 : Sl w w.heap.size A ls) :
   Calls Try.prog 58 #[gval n A ls.length c] w fun e w' => e = .returned (.bool (gvB n ls)) ∧ Below w.heap.size w w' := by
  have H1 := Lib.hid h1
  clear h1
  by_cases hn : 1 ≤ n ∧ n ≤ 8 ∧ ls.length ≤ 14
  · obtain ⟨hn1, hn2, hn3⟩ := hn
    go_enter Try.func58, Try.ntmps58
    go_wp2
    go_loopw [22] (fun i wr => ∃ k : Nat, k ≤ ls.length ∧ i = .int .i64 k ∧ Below w.heap.size w wr ∧ w.heap.size < wr.heap.size ∧ wr.cell? ⟨w.heap.size, 0, none⟩ = some (.int .i64 n) ∧ wr.cell? ⟨w.heap.size, 1, none⟩ = some (.slice A ls.length c) ∧ ∀ j, j < k → okAt n ls j = true) (fun i _ => ls.length - (intOf i).toNat)
    case atStart => exact ⟨0, Nat.zero_le _, rfl, by (repeat (first | exact Below.refl _ _ | (refine Below.alloc ?_ (by first | exact Nat.le_refl _ | omega | (simp; done) | (simp; omega)) _) | (refine Below.setCell ?_ (by first | exact Nat.le_refl _ | omega | (simp; done) | (simp; omega)) _) | exact Below.drew ‹_›)), by simp, by simp [World.cell?_alloc_new], by simp [World.cell?_alloc_new], fun j h => by omega⟩
    case round =>
      obtain ⟨k, hk, rfl, hb, hz, hg0, hg1, hall⟩ := hrel
      have HA := Lib.hid hall
      clear hall
      by_cases hlt : k < ls.length
      · obtain ⟨l, hl⟩ : ∃ x, ls[k]? = some x := ⟨_, List.getElem?_eq_getElem hlt⟩
        obtain ⟨b, off, rfl, hbb, hc1, hc2, hc3⟩ := (H1.out.below hb) k l hl
        have HL := Lib.hid hl
        have hbb1 : b < wr.heap.size := by omega
        clear hl
        have hXo := fun (x : Ext (wr.alloc (.cells #[.int .i64 l.a, .int .i64 l.b, .int .i64 l.c] 68))) (bb o : Nat) (h : bb < wr.heap.size) => x.old bb o h
        have hXn := fun (x : Ext (wr.alloc (.cells #[.int .i64 l.a, .int .i64 l.b, .int .i64 l.c] 68))) (o : Nat) => x.new o
        by_cases hal : allowsB n l = true
        · have C1 : ∀ W : World, Calls Try.prog 85 #[gval n (some ⟨b, off, none⟩) ls.length c, l.v] W fun e w' => e = .returned (.bool true) ∧ Below W.heap.size W w' := fun W => by
            have := allows_any n (.slice (some ⟨b, off, none⟩) ls.length c) l W
            rwa [hal] at this
          have HAL := Lib.hid hal
          clear hal
          by_cases hk0 : k = 0
          · subst hk0
            simp only [Nat.zero_mul, Nat.add_zero] at hc1 hc2 hc3
            go_wp2
            refine wp_region_ext (by kernel_rfl) (by kernel_rfl) ?_
            repeat (go_big_quiet_step (first | (go_at_call 85; exact Calls.ext_of (C1 _))))
            (refine wpQuiet_nil ?_); (rintro _ ⟨X, rfl⟩); (have hw1 := X.below); (generalize X.w = w1 at *); (clear X)
            clear hXo hXn
            go_wp2
            go_roundw
            case rel => exact ⟨1, hlt, rfl, valid_rel hb hz hg0 hg1 HA.out hw1 (okAt_zero HL.out HAL.out)⟩
            case measure => simp [intOf]; omega
          · obtain ⟨m, hmm⟩ : ∃ x, ls[k - 1]? = some x := ⟨_, List.getElem?_eq_getElem (by omega)⟩
            obtain ⟨b', off', hbe, hbb', hd1, hd2, hd3⟩ := (H1.out.below hb) (k - 1) m hmm
            cases hbe
            have HM := Lib.hid hmm
            clear hmm
            have hkn : 0 < k := by omega
            go_wp2
            refine wp_region_ext (by kernel_rfl) (by kernel_rfl) ?_
            repeat (go_big_quiet_step (first | (go_at_call 85; exact Calls.ext_of (C1 _)) | (go_at_call 86; exact Calls.ext_of (before_any m l _))))
            (refine wpQuiet_nil ?_); (rintro _ ⟨X, rfl⟩); (have hw1 := X.below); (generalize X.w = w1 at *); (clear X)
            clear hXo hXn
            go_wp2
            · go_ret
              exact ⟨ret_bool (gvB_no hlt (by rw [okAt_succ HL.out HM.out hkn HAL.out]; simpa using ‹(!beforeB m l) = true›)), hb.trans (Below.trans (by (repeat (first | exact Below.refl _ _ | (refine Below.alloc ?_ (by first | exact Nat.le_refl _ | omega | (simp; done) | (simp; omega)) _) | (refine Below.setCell ?_ (by first | exact Nat.le_refl _ | omega | (simp; done) | (simp; omega)) _) | exact Below.drew ‹_›))) (hw1.mono (by simp; omega)))⟩
            · go_roundw
              case rel => exact ⟨k + 1, hlt, by go_num, valid_rel hb hz hg0 hg1 HA.out hw1 (by rw [okAt_succ HL.out HM.out hkn HAL.out]; simpa using ‹(!beforeB m l) = false›)⟩
              case measure => simp [intOf]; omega
        · have C1 : ∀ W : World, Calls Try.prog 85 #[gval n (some ⟨b, off, none⟩) ls.length c, l.v] W fun e w' => e = .returned (.bool false) ∧ Below W.heap.size W w' := fun W => by
            have := allows_any n (.slice (some ⟨b, off, none⟩) ls.length c) l W
            rwa [show allowsB n l = false by simpa using hal] at this
          have HAL := Lib.hid hal
          clear hal
          go_wp2
          refine wp_region_ext (by kernel_rfl) (by kernel_rfl) ?_
          repeat (go_big_quiet_step (first | (go_at_call 85; exact Calls.ext_of (C1 _))))
          (refine wpQuiet_nil ?_); (rintro _ ⟨X, rfl⟩); (have hw1 := X.below); (generalize X.w = w1 at *); (clear X)
          clear hXo hXn
          go_wp2
          go_ret
          exact ⟨ret_bool (gvB_no hlt (okAt_bad HL.out HAL.out)), hb.trans (Below.trans (by (repeat (first | exact Below.refl _ _ | (refine Below.alloc ?_ (by first | exact Nat.le_refl _ | omega | (simp; done) | (simp; omega)) _) | (refine Below.setCell ?_ (by first | exact Nat.le_refl _ | omega | (simp; done) | (simp; omega)) _) | exact Below.drew ‹_›))) (hw1.mono (by simp; omega)))⟩
      · go_wp2
        go_ret
        exact ⟨ret_bool (gvB_yes (by simp [inB, hn1, hn2]) hn3 fun j hj => HA.out j (by omega)), hb⟩
  · have hn' : n < 1 ∨ (1 ≤ n ∧ 8 < n) ∨ (1 ≤ n ∧ n ≤ 8 ∧ 14 < ls.length) := by omega
    have hv : false = gvB n ls := by
      symm
      unfold gvB inB
      simp
      omega
    have HV := Lib.hid hv
    clear hv hn
    rcases hn' with h | ⟨h, h'⟩ | ⟨h, h', h''⟩
    · go_enter Try.func58, Try.ntmps58
      go_wp2
      go_ret
      exact ⟨ret_bool HV.out, by (repeat (first | exact Below.refl _ _ | (refine Below.alloc ?_ (by first | exact Nat.le_refl _ | omega | (simp; done) | (simp; omega)) _) | (refine Below.setCell ?_ (by first | exact Nat.le_refl _ | omega | (simp; done) | (simp; omega)) _) | exact Below.drew ‹_›))⟩
    · go_enter Try.func58, Try.ntmps58
      go_wp2
      go_ret
      exact ⟨ret_bool HV.out, by (repeat (first | exact Below.refl _ _ | (refine Below.alloc ?_ (by first | exact Nat.le_refl _ | omega | (simp; done) | (simp; omega)) _) | (refine Below.setCell ?_ (by first | exact Nat.le_refl _ | omega | (simp; done) | (simp; omega)) _) | exact Below.drew ‹_›))⟩
    · go_enter Try.func58, Try.ntmps58
      go_wp2
      go_ret
      exact ⟨ret_bool HV.out, by (repeat (first | exact Below.refl _ _ | (refine Below.alloc ?_ (by first | exact Nat.le_refl _ | omega | (simp; done) | (simp; omega)) _) | (refine Below.setCell ?_ (by first | exact Nat.le_refl _ | omega | (simp; done) | (simp; omega)) _) | exact Below.drew ‹_›))⟩

end Go.Proofs.Ytkcnbgimdiggoab

/-
  A contract over this seat: the specification's GraphValid answers the Boolean gvB, too.
-/
namespace Go.Proofs.Ytkcnbgimdiggoab
open Go.RowKit

theorem Ext.olds {wr : World} {o : Obj} (x : Ext (wr.alloc o)) : ∀ (b i : Nat), b < wr.heap.size → x.w.cell? ⟨b, i, none⟩ = wr.cell? ⟨b, i, none⟩ := fun b i h => x.old b i h

theorem allowsB_a {n : Int} {l : Lk} (h : ¬ inB l.a 0 (n - 1) = true) : ¬ allowsB n l = true := by
  unfold allowsB; simp [h]
theorem allowsB_of {n : Int} {l : Lk} (h : inB l.a 0 (n - 1) = true) : allowsB n l = (inB l.b (l.a + 1) (n - 1) && inB l.c 1 20) := by
  unfold allowsB; unfold inB at *; rw [Bool.eq_iff_iff]; simp at *; omega

set_option maxRecDepth 100000 in
set_option maxHeartbeats 800000 in
theorem valid_spec (n : Int) (A : Option Addr) (ls : List Lk) (c : Nat) (w : World) (hm : ls.length ≤ 2000000) (hnl : -9223372036854775808 < n) (hnu : n ≤ 9223372036854775807)
    (h1 : Sl w w.heap.size A ls) :
   Calls Try.prog 18 #[gval n A ls.length c] w fun e w' => e = .returned (.bool (gvB n ls)) ∧ Below w.heap.size w w' := by
  have H1 := Lib.hid h1
  clear h1
  go_enter Try.func18, Try.ntmps18
  go_wp2
  go_loopw [3] (fun i wr => ∃ k : Nat, k ≤ ls.length ∧ i = .int .i64 k ∧ Below w.heap.size w wr ∧ w.heap.size < wr.heap.size ∧ wr.cell? ⟨w.heap.size, 0, none⟩ = some (.int .i64 n) ∧ wr.cell? ⟨w.heap.size, 1, none⟩ = some (.slice A ls.length c) ∧ ∀ j, j < k → okAt n ls j = true) (fun i _ => ls.length - (intOf i).toNat)
  case atStart => exact ⟨0, Nat.zero_le _, rfl, by (repeat (first | exact Below.refl _ _ | (refine Below.alloc ?_ (by first | exact Nat.le_refl _ | omega | (simp; done) | (simp; omega)) _) | (refine Below.setCell ?_ (by first | exact Nat.le_refl _ | omega | (simp; done) | (simp; omega)) _) | exact Below.drew ‹_›)), by simp, by simp [World.cell?_alloc_new], by simp [World.cell?_alloc_new], fun j h => by omega⟩
  case round =>
    obtain ⟨k, hk, rfl, hb, hz, hg0, hg1, hall⟩ := hrel
    have HA := Lib.hid hall
    clear hall
    by_cases hlt : k < ls.length
    · obtain ⟨l, hl⟩ : ∃ x, ls[k]? = some x := ⟨_, List.getElem?_eq_getElem hlt⟩
      obtain ⟨b, off, rfl, hbb, hc1, hc2, hc3⟩ := (H1.out.below hb) k l hl
      have HL := Lib.hid hl
      have hbb1 : b < wr.heap.size := by omega
      clear hl
      by_cases ha : inB l.a 0 (n - 1) = true
      · have ha' : 0 ≤ l.a ∧ l.a ≤ n - 1 := by unfold inB at ha; simpa using ha
        obtain ⟨ha1, ha2⟩ := ha'
        have hAB := allowsB_of ha
        have HAB := Lib.hid hAB
        have Ca : ∀ W : World, Calls Try.prog 52 #[.int .i64 l.a, .int .i64 0, .int .i64 (n - 1)] W fun e w' => e = .returned (.bool true) ∧ W = w' := fun W => by
          have := l6In_any l.a 0 (n - 1) W
          rwa [ha] at this
        clear ha hAB
        go_wp2_with (first | (go_at_call 52; refine (Ca _).mono ?_; clear Ca; rintro e w' ⟨rfl, rfl⟩) | (go_at_call 52; refine (l6In_any _ _ _ _).mono ?_; rintro e w' ⟨rfl, rfl⟩))
        · go_ret
          exact ⟨ret_bool (gvB_no hlt (okAt_bad HL.out (by rw [HAB.out]; simp [show inB l.c 1 20 = false by simpa using ‹(!inB l.c 1 20) = true›]))), hb.trans (by (repeat (first | exact Below.refl _ _ | (refine Below.alloc ?_ (by first | exact Nat.le_refl _ | omega | (simp; done) | (simp; omega)) _) | (refine Below.setCell ?_ (by first | exact Nat.le_refl _ | omega | (simp; done) | (simp; omega)) _) | exact Below.drew ‹_›)))⟩
        · have HAL : Hid (allowsB n l = true) := by
            unfold Hid
            rw [HAB.out]
            simp [show inB l.c 1 20 = true by simpa using ‹(!inB l.c 1 20) = false›, ‹inB l.b (l.a + 1) (n - 1) = true›]
          have hXo := fun (x : Ext (wr.alloc (.cells #[.int .i64 l.a, .int .i64 l.b, .int .i64 l.c] 68))) (bb o : Nat) (h : bb < wr.heap.size) => x.old bb o h
          have hXn := fun (x : Ext (wr.alloc (.cells #[.int .i64 l.a, .int .i64 l.b, .int .i64 l.c] 68))) (o : Nat) => x.new o
          by_cases hk0 : k = 0
          · subst hk0
            simp only [Nat.zero_mul, Nat.add_zero] at hc1 hc2 hc3
            refine wp_region_ext (by kernel_rfl) (by kernel_rfl) ?_
            repeat (go_big_quiet_step (fail))
            (refine wpQuiet_nil ?_); (rintro _ ⟨X, rfl⟩); (have hw1 := X.below); (generalize X.w = w1 at *); (clear X)
            clear hXo hXn
            go_wp2
            go_roundw
            case rel => exact ⟨1, hlt, rfl, valid_rel hb hz hg0 hg1 HA.out hw1 (okAt_zero HL.out HAL.out)⟩
            case measure => simp [intOf]; omega
          · obtain ⟨m, hmm⟩ : ∃ x, ls[k - 1]? = some x := ⟨_, List.getElem?_eq_getElem (by omega)⟩
            obtain ⟨b', off', hbe, hbb', hd1, hd2, hd3⟩ := (H1.out.below hb) (k - 1) m hmm
            cases hbe
            have HM := Lib.hid hmm
            clear hmm
            have hkn : 0 < k := by omega
            by_cases g1 : l.a < m.a
            · refine wp_region_ext (by kernel_rfl) (by kernel_rfl) ?_
              repeat (go_big_quiet_step (fail))
              (refine wpQuiet_nil ?_); (rintro _ ⟨X, rfl⟩); (have hw1 := X.below); (generalize X.w = w1 at *); (clear X)
              clear hXo hXn
              go_wp2
              go_ret
              exact ⟨ret_bool (gvB_no hlt (by rw [okAt_succ HL.out HM.out hkn HAL.out]; unfold beforeB; simp; omega)), hb.trans (Below.trans (by (repeat (first | exact Below.refl _ _ | (refine Below.alloc ?_ (by first | exact Nat.le_refl _ | omega | (simp; done) | (simp; omega)) _) | (refine Below.setCell ?_ (by first | exact Nat.le_refl _ | omega | (simp; done) | (simp; omega)) _) | exact Below.drew ‹_›))) (hw1.mono (by simp; omega)))⟩
            · have g1' : decide (l.a < m.a) = false := by simpa using g1
              have G1 := Lib.hid g1
              clear g1
              by_cases g2 : m.a = l.a
              · have g2' : (m.a == l.a) = true := by simpa using g2
                have G2 := Lib.hid g2
                clear g2
                refine wp_region_ext (by kernel_rfl) (by kernel_rfl) ?_
                repeat (go_big_quiet_step (fail))
                (refine wpQuiet_nil ?_); (rintro _ ⟨X, rfl⟩); (have hw1 := X.below); (generalize X.w = w1 at *); (clear X)
                clear hXo hXn
                go_wp2
                · go_ret
                  have h5 : l.b ≤ m.b := by assumption
                  exact ⟨ret_bool (gvB_no hlt (by rw [okAt_succ HL.out HM.out hkn HAL.out]; unfold beforeB; have := G2.out; simp; omega)), hb.trans (Below.trans (by (repeat (first | exact Below.refl _ _ | (refine Below.alloc ?_ (by first | exact Nat.le_refl _ | omega | (simp; done) | (simp; omega)) _) | (refine Below.setCell ?_ (by first | exact Nat.le_refl _ | omega | (simp; done) | (simp; omega)) _) | exact Below.drew ‹_›))) (hw1.mono (by simp; omega)))⟩
                · go_roundw
                  case rel =>
                    have h5 : m.b < l.b := by omega
                    exact ⟨k + 1, hlt, by go_num, valid_rel hb hz hg0 hg1 HA.out hw1 (by rw [okAt_succ HL.out HM.out hkn HAL.out]; unfold beforeB; have := G2.out; simp; omega)⟩
                  case measure => simp [intOf]; omega
              · have g2' : (m.a == l.a) = false := by simpa using g2
                have G2 := Lib.hid g2
                clear g2
                refine wp_region_ext (by kernel_rfl) (by kernel_rfl) ?_
                repeat (go_big_quiet_step (fail))
                (refine wpQuiet_nil ?_); (rintro _ ⟨X, rfl⟩); (have hw1 := X.below); (generalize X.w = w1 at *); (clear X)
                clear hXo hXn
                go_wp2
                go_roundw
                case rel => exact ⟨k + 1, hlt, by go_num, valid_rel hb hz hg0 hg1 HA.out hw1 (by rw [okAt_succ HL.out HM.out hkn HAL.out]; unfold beforeB; have := G2.out; have := G1.out; simp; omega)⟩
                case measure => simp [intOf]; omega
        · go_ret
          exact ⟨ret_bool (gvB_no hlt (okAt_bad HL.out (by rw [HAB.out]; simp [show inB l.b (l.a + 1) (n - 1) = false by simpa using ‹¬inB l.b (l.a + 1) (n - 1) = true›]))), hb.trans (by (repeat (first | exact Below.refl _ _ | (refine Below.alloc ?_ (by first | exact Nat.le_refl _ | omega | (simp; done) | (simp; omega)) _) | (refine Below.setCell ?_ (by first | exact Nat.le_refl _ | omega | (simp; done) | (simp; omega)) _) | exact Below.drew ‹_›)))⟩
      · have Ca : ∀ W : World, Calls Try.prog 52 #[.int .i64 l.a, .int .i64 0, .int .i64 (n - 1)] W fun e w' => e = .returned (.bool false) ∧ W = w' := fun W => by
          have := l6In_any l.a 0 (n - 1) W
          rwa [show inB l.a 0 (n - 1) = false by simpa using ha] at this
        have HAL := Lib.hid (allowsB_a ha)
        clear ha
        go_wp2_with (go_at_call 52; refine (Ca _).mono ?_; rintro e w' ⟨rfl, rfl⟩)
        go_ret
        exact ⟨ret_bool (gvB_no hlt (okAt_bad HL.out HAL.out)), hb.trans (by (repeat (first | exact Below.refl _ _ | (refine Below.alloc ?_ (by first | exact Nat.le_refl _ | omega | (simp; done) | (simp; omega)) _) | (refine Below.setCell ?_ (by first | exact Nat.le_refl _ | omega | (simp; done) | (simp; omega)) _) | exact Below.drew ‹_›)))⟩
    · go_wp2_with (go_at_call 52; refine (l6In_any _ _ _ _).mono ?_; rintro e w' ⟨rfl, rfl⟩)
      · go_ret
        refine ⟨ret_bool ?_, hb⟩
        have h8 := ‹inB n 1 8 = true›
        by_cases h14 : ls.length ≤ 14
        · rw [← gvB_yes h8 h14 fun j hj => HA.out j (by omega)]
          simp; omega
        · unfold gvB
          simp [h14]
          omega
      · go_ret
        refine ⟨ret_bool ?_, hb⟩
        unfold gvB
        simp [show inB n 1 8 = false by simpa using ‹¬inB n 1 8 = true›]

/-! ### A number of nodes that is not positive -/
theorem neg_rel {n : Int} {v : Value} {w wr w1 : World} {o : Obj} (hb : Below w.heap.size w wr) (hz : w.heap.size < wr.heap.size)
    (hg0 : wr.cell? ⟨w.heap.size, 0, none⟩ = some (.int .i64 n)) (hg1 : wr.cell? ⟨w.heap.size, 1, none⟩ = some v)
    (hw : Below (wr.alloc o).heap.size (wr.alloc o) w1) :
    Below w.heap.size w w1 ∧ w.heap.size < w1.heap.size ∧ w1.cell? ⟨w.heap.size, 0, none⟩ = some (.int .i64 n) ∧ w1.cell? ⟨w.heap.size, 1, none⟩ = some v := by
  have := valid_rel (ls := []) (n := n) (k := 0) hb hz hg0 hg1 (fun _ h => absurd h (by omega)) hw (by simp [okAt])
  exact ⟨this.1, this.2.1, this.2.2.1, this.2.2.2.1⟩

set_option maxRecDepth 100000 in
set_option maxHeartbeats 800000 in
theorem valid_spec_neg (n : Int) (A : Option Addr) (ls : List Lk) (c : Nat) (w : World) (hm : ls.length ≤ 2000000) (hn : n ≤ 0)
    (h1 : Sl w w.heap.size A ls) :
   Calls Try.prog 18 #[gval n A ls.length c] w fun e w' => e = .returned (.bool false) ∧ Below w.heap.size w w' := by
  have H1 := Lib.hid h1
  clear h1
  go_enter Try.func18, Try.ntmps18
  go_wp2
  go_loopw [3] (fun i wr => ∃ k : Nat, k ≤ ls.length ∧ i = .int .i64 k ∧ Below w.heap.size w wr ∧ w.heap.size < wr.heap.size ∧ wr.cell? ⟨w.heap.size, 0, none⟩ = some (.int .i64 n) ∧ wr.cell? ⟨w.heap.size, 1, none⟩ = some (.slice A ls.length c)) (fun i _ => ls.length - (intOf i).toNat)
  case atStart => exact ⟨0, Nat.zero_le _, rfl, by (repeat (first | exact Below.refl _ _ | (refine Below.alloc ?_ (by first | exact Nat.le_refl _ | omega | (simp; done) | (simp; omega)) _) | (refine Below.setCell ?_ (by first | exact Nat.le_refl _ | omega | (simp; done) | (simp; omega)) _) | exact Below.drew ‹_›)), by simp, by simp [World.cell?_alloc_new], by simp [World.cell?_alloc_new]⟩
  case round =>
    obtain ⟨k, hk, rfl, hb, hz, hg0, hg1⟩ := hrel
    by_cases hlt : k < ls.length
    · obtain ⟨l, hl⟩ : ∃ x, ls[k]? = some x := ⟨_, List.getElem?_eq_getElem hlt⟩
      obtain ⟨b, off, rfl, hbb, hc1, hc2, hc3⟩ := (H1.out.below hb) k l hl
      have hbb1 : b < wr.heap.size := by omega
      clear hl
      go_wp2_with (go_at_call 52; refine (l6In_any _ _ _ _).mono ?_; rintro e w' ⟨rfl, rfl⟩)
      · go_ret
        exact ⟨rfl, hb.trans (by (repeat (first | exact Below.refl _ _ | (refine Below.alloc ?_ (by first | exact Nat.le_refl _ | omega | (simp; done) | (simp; omega)) _) | (refine Below.setCell ?_ (by first | exact Nat.le_refl _ | omega | (simp; done) | (simp; omega)) _) | exact Below.drew ‹_›)))⟩
      · have hXo := fun (x : Ext (wr.alloc (.cells #[.int .i64 l.a, .int .i64 l.b, .int .i64 l.c] 68))) (bb o : Nat) (h : bb < wr.heap.size) => x.old bb o h
        have hXn := fun (x : Ext (wr.alloc (.cells #[.int .i64 l.a, .int .i64 l.b, .int .i64 l.c] 68))) (o : Nat) => x.new o
        by_cases hk0 : k = 0
        · subst hk0
          simp only [Nat.zero_mul, Nat.add_zero] at hc1 hc2 hc3
          refine wp_region_ext (by kernel_rfl) (by kernel_rfl) ?_
          repeat (go_big_quiet_step (fail))
          (refine wpQuiet_nil ?_); (rintro _ ⟨X, rfl⟩); (have hw1 := X.below); (generalize X.w = w1 at *); (clear X)
          clear hXo hXn
          go_wp2
          go_roundw
          case rel => exact ⟨1, hlt, rfl, neg_rel hb hz hg0 hg1 hw1⟩
          case measure => simp [intOf]; omega
        · obtain ⟨m, hmm⟩ : ∃ x, ls[k - 1]? = some x := ⟨_, List.getElem?_eq_getElem (by omega)⟩
          obtain ⟨b', off', hbe, hbb', hd1, hd2, hd3⟩ := (H1.out.below hb) (k - 1) m hmm
          cases hbe
          clear hmm
          have hkn : 0 < k := by omega
          by_cases g1 : l.a < m.a
          · refine wp_region_ext (by kernel_rfl) (by kernel_rfl) ?_
            repeat (go_big_quiet_step (fail))
            (refine wpQuiet_nil ?_); (rintro _ ⟨X, rfl⟩); (have hw1 := X.below); (generalize X.w = w1 at *); (clear X)
            clear hXo hXn
            go_wp2
            go_ret
            exact ⟨rfl, hb.trans (Below.trans (by (repeat (first | exact Below.refl _ _ | (refine Below.alloc ?_ (by first | exact Nat.le_refl _ | omega | (simp; done) | (simp; omega)) _) | (refine Below.setCell ?_ (by first | exact Nat.le_refl _ | omega | (simp; done) | (simp; omega)) _) | exact Below.drew ‹_›))) (hw1.mono (by simp; omega)))⟩
          · have g1' : decide (l.a < m.a) = false := by simpa using g1
            clear g1
            by_cases g2 : m.a = l.a
            · have g2' : (m.a == l.a) = true := by simpa using g2
              clear g2
              refine wp_region_ext (by kernel_rfl) (by kernel_rfl) ?_
              repeat (go_big_quiet_step (fail))
              (refine wpQuiet_nil ?_); (rintro _ ⟨X, rfl⟩); (have hw1 := X.below); (generalize X.w = w1 at *); (clear X)
              clear hXo hXn
              go_wp2
              · go_ret
                exact ⟨rfl, hb.trans (Below.trans (by (repeat (first | exact Below.refl _ _ | (refine Below.alloc ?_ (by first | exact Nat.le_refl _ | omega | (simp; done) | (simp; omega)) _) | (refine Below.setCell ?_ (by first | exact Nat.le_refl _ | omega | (simp; done) | (simp; omega)) _) | exact Below.drew ‹_›))) (hw1.mono (by simp; omega)))⟩
              · go_roundw
                case rel => exact ⟨k + 1, hlt, by go_num, neg_rel hb hz hg0 hg1 hw1⟩
                case measure => simp [intOf]; omega
            · have g2' : (m.a == l.a) = false := by simpa using g2
              clear g2
              refine wp_region_ext (by kernel_rfl) (by kernel_rfl) ?_
              repeat (go_big_quiet_step (fail))
              (refine wpQuiet_nil ?_); (rintro _ ⟨X, rfl⟩); (have hw1 := X.below); (generalize X.w = w1 at *); (clear X)
              clear hXo hXn
              go_wp2
              go_roundw
              case rel => exact ⟨k + 1, hlt, by go_num, neg_rel hb hz hg0 hg1 hw1⟩
              case measure => simp [intOf]; omega
      · go_ret
        exact ⟨rfl, hb.trans (by (repeat (first | exact Below.refl _ _ | (refine Below.alloc ?_ (by first | exact Nat.le_refl _ | omega | (simp; done) | (simp; omega)) _) | (refine Below.setCell ?_ (by first | exact Nat.le_refl _ | omega | (simp; done) | (simp; omega)) _) | exact Below.drew ‹_›)))⟩
      · go_ret
        exact ⟨rfl, hb.trans (by (repeat (first | exact Below.refl _ _ | (refine Below.alloc ?_ (by first | exact Nat.le_refl _ | omega | (simp; done) | (simp; omega)) _) | (refine Below.setCell ?_ (by first | exact Nat.le_refl _ | omega | (simp; done) | (simp; omega)) _) | exact Below.drew ‹_›)))⟩
    · have hf : ∀ W : World, Calls Try.prog 52 #[.int .i64 n, .int .i64 1, .int .i64 8] W fun e w' => e = .returned (.bool false) ∧ W = w' := fun W => by
        have := l6In_any n 1 8 W
        rwa [show inB n 1 8 = false by unfold inB; simp; omega] at this
      go_wp2_with (go_at_call 52; refine (hf _).mono ?_; rintro e w' ⟨rfl, rfl⟩)
      go_ret
      exact ⟨rfl, hb⟩

/-- Whatever the number of nodes. -/
theorem valid_spec_any (n : Int) (A : Option Addr) (ls : List Lk) (c : Nat) (w : World) (hm : ls.length ≤ 2000000) (hnu : n ≤ 9223372036854775807)
    (h1 : Sl w w.heap.size A ls) :
   Calls Try.prog 18 #[gval n A ls.length c] w fun e w' => e = .returned (.bool (gvB n ls)) ∧ Below w.heap.size w w' := by
  by_cases h : 0 < n
  · exact valid_spec n A ls c w hm (by omega) hnu h1
  · have : gvB n ls = false := by unfold gvB inB; simp; omega
    rw [this]
    exact valid_spec_neg n A ls c w hm (by omega) h1

end Go.Proofs.Ytkcnbgimdiggoab

/-
  Small lemmas on memory over this seat: a block that begins with two cells; two equal graphs are found equal.
-/
namespace Go.Proofs.Ytkcnbgimdiggoab
open Go.RowKit

theorem Sl.alloc {w : World} {B : Nat} {A : Option Addr} {ls : List Lk} (h : Sl w B A ls) (hB : B ≤ w.heap.size) (o : Obj) : Sl (w.alloc o) B A ls :=
  h.below ((Below.refl _ _).alloc hB _)
/-- Block b begins with these two cells. -/
def At2 (w : World) (b : Nat) (v0 v1 : Value) : Prop := b < w.heap.size ∧ w.cell? ⟨b, 0, none⟩ = some v0 ∧ w.cell? ⟨b, 1, none⟩ = some v1
theorem At2.new (w : World) (v0 v1 : Value) (t : TypeId) : At2 (w.alloc (.cells #[v0, v1] t)) w.heap.size v0 v1 :=
  ⟨by simp, by simp [World.cell?_alloc_new], by simp [World.cell?_alloc_new]⟩
theorem At2.below {w w' : World} {b : Nat} {v0 v1 : Value} (h : At2 w b v0 v1) (hb : Below w.heap.size w w') : At2 w' b v0 v1 :=
  ⟨Nat.lt_of_lt_of_le h.1 hb.size, (hb.cell (p := ⟨b, 0, none⟩) h.1).trans h.2.1, (hb.cell (p := ⟨b, 1, none⟩) h.1).trans h.2.2⟩
theorem At2.alloc {w : World} {b : Nat} {v0 v1 : Value} (h : At2 w b v0 v1) (o : Obj) : At2 (w.alloc o) b v0 v1 :=
  h.below ((Below.refl _ _).alloc (Nat.le_refl _) _)

theorem eqLksB_same (ls : List Lk) : eqLksB ls ls = true := (eqLksB_iff ls ls).2 rfl
theorem eqGraph_same (n : Int) (A1 A2 : Option Addr) (ls : List Lk) (c1 c2 : Nat) (w : World) (hm : ls.length ≤ 2000000) (h1 : Sl w w.heap.size A1 ls) (h2 : Sl w w.heap.size A2 ls) :
   Calls Try.prog 32 #[gval n A1 ls.length c1, gval n A2 ls.length c2] w fun e w' => e = .returned (.bool true) ∧ Below w.heap.size w w' := by
  have := eqGraph_any n n A1 A2 ls ls c1 c2 w hm h1 h2
  rwa [eqLksB_same, show (decide (n = n) && true) = true by simp] at this

end Go.Proofs.Ytkcnbgimdiggoab
