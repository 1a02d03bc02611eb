/-
  Common ground for the proofs over this seat: links as triples of numbers, tests as Booleans, regions whose callees make memory but change none (Ext), and small contracts.
-/
import Derived.Test.YtigamnnboojiiaaProg
import Derived.WalkKit
import Derived.WalkSpells
import Derived.WalkLawsBesides
import Derived.Below
import Derived.Laws.OwnMore
import Derived.Deep.AppendLies
import Derived.Deep.Draws
import Derived.Laws.Rows
import Derived.Outline
import Derived.Deep.QuietTactic
import Derived.BigQuiet
import Derived.Lib.Hide
namespace Go.Proofs.Ytigamnnboojiiaa
open Go.RowKit

/-! ### Worlds that have grown from w: nothing that was there has changed -/
def Ext (w : World) : Type := { W : World // Below w.heap.size w W }
def Ext.w {w : World} (x : Ext w) : World := x.1
theorem Ext.below {w : World} (x : Ext w) : Below w.heap.size w x.w := x.2
instance instNonemptyExt (w : World) : Nonempty (Ext w) := ⟨⟨w, Below.refl _ _⟩⟩
theorem Ext.cell {w : World} (x : Ext w) (b o : Nat) (h : b < w.heap.size) : x.w.cell? ⟨b, o, none⟩ = w.cell? ⟨b, o, none⟩ := x.below.cell (p := ⟨b, o, none⟩) h

section
variable {P : Program} {w : World}
theorem wp_region_ext {id : Nat} {Q : Exit → Act → World → Prop} {a : Act} {l : List Oper} (hm : P.follows .mixedOrders = true) (hB : Region.lexB .any l.toArray = true)
    (h : wpQuiet P l.toArray (fun w' => ∃ x : Ext w, w' = x.w) (fun a' => ∀ w', (∃ x : Ext w, w' = x.w) → Q .normal a' w') l a) : (Code.region id l.toArray true).wp P Q a w :=
  wp_region_quiet (C := fun w' => ∃ x : Ext w, w' = x.w) hm hB ⟨⟨{ w with drawn := w.drawn + 1 }, (Below.refl _ _).drew⟩, rfl⟩ (by simpa using h)
theorem Calls.ext_of {f : FuncId} {args : Array Value} {v : Value} {x : Ext w}
    (h : Calls P f args x.w fun e w' => e = .returned v ∧ Below x.w.heap.size x.w w') : Calls P f args x.w fun e w'' => e = .returned v ∧ ∃ y : Ext w, w'' = y.w :=
  h.mono fun _ w' ⟨he, hb⟩ => ⟨he, ⟨w', x.below.trans (hb.mono x.below.size)⟩, rfl⟩
theorem Calls.ext_same {f : FuncId} {args : Array Value} {v : Value} {x : Ext w}
    (h : Calls P f args x.w fun e w' => e = .returned v ∧ x.w = w') : Calls P f args x.w fun e w'' => e = .returned v ∧ ∃ y : Ext w, w'' = y.w :=
  h.mono fun _ _ ⟨he, hb⟩ => ⟨he, x, hb.symm⟩
end

/-! ### Links -/
/-- A link as three numbers. -/
structure Lk where
  a : Int
  b : Int
  c : Int
abbrev Lk.v (l : Lk) : Value := .agg #[.int .i64 l.a, .int .i64 l.b, .int .i64 l.c]

def inB (x lo hi : Int) : Bool := decide (lo ≤ x) && decide (x ≤ hi)
def beforeB (l m : Lk) : Bool := decide (l.a < m.a) || (decide (l.a = m.a) && decide (l.b < m.b))
def allowsB (n : Int) (l : Lk) : Bool := inB l.a 0 (n-1) && inB l.b 0 (n-1) && decide (l.a < l.b) && inB l.c 1 20
def eqLinkB (l m : Lk) : Bool := decide (l.a = m.a) && decide (l.b = m.b) && decide (l.c = m.c)

theorem ret_bool {a b : Bool} (h : a = b) : Ending.returned (.bool a) = .returned (.bool b) := by rw [h]
theorem ret_int {a b : Int} (h : a = b) : Ending.returned (.int .i64 a) = .returned (.int .i64 b) := by rw [h]

theorem toLink_any (l : Lk) (w : World) :
   Calls Try.prog 55 #[l.v] w fun e w' => e = .returned l.v ∧ Below w.heap.size w w' := by
  go_enter Try.func55, Try.ntmps55
  go_wp2
  refine bodyPost_ret (v := l.v) (by simp [results, Try.results55, go_sem]) rfl ⟨rfl, ?_⟩
  (repeat (first | exact Below.refl _ _ | (refine Below.alloc ?_ (by first | exact Nat.le_refl _ | omega | (simp; done) | (simp; omega)) _) | (refine Below.setCell ?_ (by first | exact Nat.le_refl _ | omega | (simp; done) | (simp; omega)) _) | exact Below.drew ‹_›))

theorem hasNode_any (n : Int) (v : Value) (x : Int) (w : World) :
   Calls Try.prog 50 #[.agg #[.int .i64 n, v], .int .i64 x] w fun e w' => e = .returned (.bool (inB x 0 (n-1))) ∧ Below w.heap.size w w' := by
  go_enter Try.func50, Try.ntmps50
  go_wp2
  all_goals
    go_ret
    exact ⟨ret_bool (by unfold inB; rw [Bool.eq_iff_iff]; simp; omega), by (repeat (first | exact Below.refl _ _ | (refine Below.alloc ?_ (by first | exact Nat.le_refl _ | omega | (simp; done) | (simp; omega)) _) | (refine Below.setCell ?_ (by first | exact Nat.le_refl _ | omega | (simp; done) | (simp; omega)) _) | exact Below.drew ‹_›))⟩

theorem costValid_any (x : Int) (w : World) :
   Calls Try.prog 74 #[.int .i64 x] w fun e w' => e = .returned (.bool (inB x 1 20)) ∧ w = w' := by
  go_enter Try.func74, Try.ntmps74
  go_wp2
  all_goals
    go_ret
    exact ⟨ret_bool (by unfold inB; rw [Bool.eq_iff_iff]; simp; omega), rfl⟩

theorem l6In_any (x lo hi : Int) (w : World) :
   Calls Try.prog 54 #[.int .i64 x, .int .i64 lo, .int .i64 hi] w fun e w' => e = .returned (.bool (inB x lo hi)) ∧ w = w' := by
  go_enter Try.func54, Try.ntmps54
  go_wp2
  all_goals
    go_ret
    exact ⟨ret_bool (by unfold inB; rw [Bool.eq_iff_iff]; simp; omega), rfl⟩

theorem before_any (l m : Lk) (w : World) :
   Calls Try.prog 68 #[l.v, m.v] w fun e w' => e = .returned (.bool (beforeB l m)) ∧ Below w.heap.size w w' := by
  go_enter Try.func68, Try.ntmps68
  go_wp2
  all_goals
    go_ret
    exact ⟨ret_bool (by unfold beforeB; rw [Bool.eq_iff_iff]; simp; omega), by (repeat (first | exact Below.refl _ _ | (refine Below.alloc ?_ (by first | exact Nat.le_refl _ | omega | (simp; done) | (simp; omega)) _) | (refine Below.setCell ?_ (by first | exact Nat.le_refl _ | omega | (simp; done) | (simp; omega)) _) | exact Below.drew ‹_›))⟩

theorem eqLink_any (l m : Lk) (w : World) :
   Calls Try.prog 56 #[l.v, m.v] w fun e w' => e = .returned (.bool (eqLinkB l m)) ∧ Below w.heap.size w w' := by
  go_enter Try.func56, Try.ntmps56
  go_wp2
  all_goals
    go_ret
    exact ⟨ret_bool (by unfold eqLinkB; simp_all [bne_iff_ne]), by (repeat (first | exact Below.refl _ _ | (refine Below.alloc ?_ (by first | exact Nat.le_refl _ | omega | (simp; done) | (simp; omega)) _) | (refine Below.setCell ?_ (by first | exact Nat.le_refl _ | omega | (simp; done) | (simp; omega)) _) | exact Below.drew ‹_›))⟩

theorem allows_any (n : Int) (v : Value) (l : Lk) (w : World) :
   Calls Try.prog 67 #[.agg #[.int .i64 n, v], l.v] w fun e w' => e = .returned (.bool (allowsB n l)) ∧ Below w.heap.size w w' := by
  go_enter Try.func67, Try.ntmps67
  go_wp2
  all_goals
    go_ret
    exact ⟨ret_bool (by unfold allowsB inB; rw [Bool.eq_iff_iff]; simp; omega), by (repeat (first | exact Below.refl _ _ | (refine Below.alloc ?_ (by first | exact Nat.le_refl _ | omega | (simp; done) | (simp; omega)) _) | (refine Below.setCell ?_ (by first | exact Nat.le_refl _ | omega | (simp; done) | (simp; omega)) _) | exact Below.drew ‹_›))⟩

/-! ### Slices of links -/
/-- The slice of address A reads as the links ls, below block B. -/
def Sl (w : World) (B : Nat) (A : Option Addr) (ls : List Lk) : Prop :=
  ∀ k l, ls[k]? = some l → ∃ b off, A = some ⟨b, off, none⟩ ∧ b < B ∧ w.cell? ⟨b, off + k * 3, none⟩ = some (.int .i64 l.a) ∧ w.cell? ⟨b, off + k * 3 + 1, none⟩ = some (.int .i64 l.b) ∧ w.cell? ⟨b, off + k * 3 + 2, none⟩ = some (.int .i64 l.c)

theorem Sl.keep {w w' : World} {B : Nat} {A : Option Addr} {ls : List Lk} (h : Sl w B A ls) (hk : ∀ b o, b < B → w'.cell? ⟨b, o, none⟩ = w.cell? ⟨b, o, none⟩) : Sl w' B A ls := by
  intro k l hl
  obtain ⟨b, off, e, hb, h1, h2, h3⟩ := h k l hl
  exact ⟨b, off, e, hb, (hk _ _ hb).trans h1, (hk _ _ hb).trans h2, (hk _ _ hb).trans h3⟩
theorem Sl.below {w w' : World} {B : Nat} {A : Option Addr} {ls : List Lk} (h : Sl w B A ls) (hb : Below B w w') : Sl w' B A ls := h.keep fun b o h => hb.cell (p := ⟨b, o, none⟩) h
theorem Sl.more {w : World} {B B' : Nat} {A : Option Addr} {ls : List Lk} (h : Sl w B A ls) (hb : B ≤ B') : Sl w B' A ls := by
  intro k l hl
  obtain ⟨b, off, e, hb', h1, h2, h3⟩ := h k l hl
  exact ⟨b, off, e, by omega, h1, h2, h3⟩

theorem eqLinkB_iff (l m : Lk) : eqLinkB l m = true ↔ l = m := by
  cases l; cases m; simp [eqLinkB, and_assoc]
def eqLksB : List Lk → List Lk → Bool
  | [], [] => true
  | x :: xs, y :: ys => eqLinkB x y && eqLksB xs ys
  | _, _ => false
theorem eqLksB_iff (xs ys : List Lk) : eqLksB xs ys = true ↔ xs = ys := by
  induction xs generalizing ys with
  | nil => cases ys <;> simp [eqLksB]
  | cons x xs ih => cases ys <;> simp [eqLksB, eqLinkB_iff, ih]
theorem eqLksB_no {xs ys : List Lk} {k : Nat} {x y : Lk} (hx : xs[k]? = some x) (hy : ys[k]? = some y) (h : (!eqLinkB x y) = true) : false = eqLksB xs ys := by
  by_cases e : eqLksB xs ys = true
  · rw [eqLksB_iff] at e
    subst e
    rw [hx] at hy
    cases hy
    rw [(eqLinkB_iff x x).2 rfl] at h
    cases h
  · simpa using e
theorem eqLksB_yes {xs ys : List Lk} (hl : xs.length = ys.length) (h : ∀ j x y, j < xs.length → xs[j]? = some x → ys[j]? = some y → eqLinkB x y = true) : true = eqLksB xs ys := by
  symm
  rw [eqLksB_iff]
  refine List.ext_getElem hl fun j h1 h2 => ?_
  exact (eqLinkB_iff _ _).1 (h j _ _ h1 (List.getElem?_eq_getElem h1) (List.getElem?_eq_getElem h2))

set_option maxHeartbeats 400000 in
theorem eqLinkS_any (A1 A2 : Option Addr) (xs ys : List Lk) (c1 c2 : Nat) (w : World) (hm : xs.length ≤ 2000000)
    (h1 : Sl w w.heap.size A1 xs) (h2 : Sl w w.heap.size A2 ys) :
   Calls Try.prog 41 #[.slice A1 xs.length c1, .slice A2 ys.length c2] w fun e w' => e = .returned (.bool (eqLksB xs ys)) ∧ Below w.heap.size w w' := by
  by_cases hlen : xs.length = ys.length
  · have hl : ((xs.length : Int) != (ys.length : Int)) = false := by simp [hlen]
    have HL := Lib.hid hlen
    go_enter Try.func41, Try.ntmps41
    clear hlen
    go_wp2
    go_loopw [5] (fun i wr => ∃ k : Nat, k ≤ xs.length ∧ i = .int .i64 k ∧ Below w.heap.size w wr ∧ (∀ j x y, j < k → xs[j]? = some x → ys[j]? = some y → eqLinkB x y = true)) (fun i _ => xs.length - (intOf i).toNat)
    case atStart => exact ⟨0, Nat.zero_le _, rfl, Below.refl _ _, fun j _ _ h => by omega⟩
    case round =>
      obtain ⟨k, hk, rfl, hb, hall⟩ := hrel
      by_cases hlt : k < xs.length
      · have hlt2 : k < ys.length := by rw [← HL.out]; exact hlt
        obtain ⟨x, hx⟩ : ∃ x, xs[k]? = some x := ⟨_, List.getElem?_eq_getElem hlt⟩
        obtain ⟨y, hy⟩ : ∃ y, ys[k]? = some y := ⟨_, List.getElem?_eq_getElem hlt2⟩
        obtain ⟨b, off, rfl, hbb, hc1, hc2, hc3⟩ := (h1.below hb) k x hx
        obtain ⟨b', off', rfl, hbb', hd1, hd2, hd3⟩ := (h2.below hb) k y hy
        have HX := Lib.hid hx
        have HY := Lib.hid hy
        have HA := Lib.hid hall
        have hz := hb.size
        have hbb1 : b < wr.heap.size := by omega
        have hbb2 : b' < wr.heap.size := by omega
        clear hx hy hall h1 h2
        have hX := fun (x : Ext wr) (bb o : Nat) (h : bb < wr.heap.size) => x.cell bb o h
        go_wp2
        refine wp_region_ext (by kernel_rfl) (by kernel_rfl) ?_
        repeat (go_big_quiet_step (first | (go_at_call 56; exact Calls.ext_of (eqLink_any _ _ _))))
        (refine wpQuiet_nil ?_); (rintro _ ⟨X, rfl⟩); (have hw1 := X.below); (generalize X.w = w1 at *); (clear X)
        clear hX
        go_wp2
        · go_ret
          exact ⟨ret_bool (eqLksB_no HX.out HY.out ‹_›), hb.trans (hw1.mono hz)⟩
        · go_roundw
          case rel =>
            refine ⟨k + 1, hlt, by go_num, hb.trans (hw1.mono hz), fun j x' y' hj e1 e2 => ?_⟩
            by_cases hjk : j < k
            · exact HA.out j x' y' hjk e1 e2
            · obtain rfl : j = k := by omega
              rw [HX.out] at e1
              rw [HY.out] at e2
              cases e1
              cases e2
              simpa using ‹(!eqLinkB x y) = false›
          case measure => simp [intOf]; omega
      · have hge : xs.length ≤ k := by omega
        have HA := Lib.hid hall
        clear hall h1 h2
        go_wp2
        go_ret
        exact ⟨ret_bool (eqLksB_yes HL.out fun j x y hj => HA.out j x y (by omega)), hb⟩
  · have hl : ((xs.length : Int) != (ys.length : Int)) = true := by simp; omega
    go_enter Try.func41, Try.ntmps41
    go_wp2
    go_ret
    refine ⟨ret_bool ?_, Below.refl _ _⟩
    by_cases e : eqLksB xs ys = true
    · exact absurd (congrArg List.length ((eqLksB_iff _ _).1 e)) hlen
    · simpa using e

theorem eqGraph_any (n m : Int) (A1 A2 : Option Addr) (xs ys : List Lk) (c1 c2 : Nat) (w : World) (hm : xs.length ≤ 2000000)
    (h1 : Sl w w.heap.size A1 xs) (h2 : Sl w w.heap.size A2 ys) :
   Calls Try.prog 18 #[.agg #[.int .i64 n, .slice A1 xs.length c1], .agg #[.int .i64 m, .slice A2 ys.length c2]] w fun e w' => e = .returned (.bool (decide (n = m) && eqLksB xs ys)) ∧ Below w.heap.size w w' := by
  have H1 := Lib.hid h1
  have H2 := Lib.hid h2
  clear h1 h2
  go_enter Try.func18, Try.ntmps18
  go_wp2_with (first | (go_at_call 41; refine (eqLinkS_any A1 A2 xs ys c1 c2 _ hm ?_ ?_).mono ?_; (exact (H1.out.below (by (repeat (first | exact Below.refl _ _ | (refine Below.alloc ?_ (by first | exact Nat.le_refl _ | omega | (simp; done) | (simp; omega)) _) | (refine Below.setCell ?_ (by first | exact Nat.le_refl _ | omega | (simp; done) | (simp; omega)) _) | exact Below.drew ‹_›)))).more (by simp; omega)); (exact (H2.out.below (by (repeat (first | exact Below.refl _ _ | (refine Below.alloc ?_ (by first | exact Nat.le_refl _ | omega | (simp; done) | (simp; omega)) _) | (refine Below.setCell ?_ (by first | exact Nat.le_refl _ | omega | (simp; done) | (simp; omega)) _) | exact Below.drew ‹_›)))).more (by simp; omega)); rintro e w' ⟨rfl, hb⟩))
  · go_ret
    have hn : n ≠ m := by simpa using ‹(n != m) = true›
    exact ⟨ret_bool (by simp [hn]), by (repeat (first | exact Below.refl _ _ | (refine Below.alloc ?_ (by first | exact Nat.le_refl _ | omega | (simp; done) | (simp; omega)) _) | (refine Below.setCell ?_ (by first | exact Nat.le_refl _ | omega | (simp; done) | (simp; omega)) _) | exact Below.drew ‹_›))⟩
  · go_ret
    have hs : eqLksB xs ys = false := by simpa using ‹(!eqLksB xs ys) = true›
    exact ⟨ret_bool (by simp [hs]), Below.trans (by (repeat (first | exact Below.refl _ _ | (refine Below.alloc ?_ (by first | exact Nat.le_refl _ | omega | (simp; done) | (simp; omega)) _) | (refine Below.setCell ?_ (by first | exact Nat.le_refl _ | omega | (simp; done) | (simp; omega)) _) | exact Below.drew ‹_›))) (hb.mono (by simp; omega))⟩
  · go_ret
    have hn : n = m := by simpa using ‹(n != m) = false›
    have hs : eqLksB xs ys = true := by simpa using ‹(!eqLksB xs ys) = false›
    exact ⟨ret_bool (by simp [hn, hs]), Below.trans (by (repeat (first | exact Below.refl _ _ | (refine Below.alloc ?_ (by first | exact Nat.le_refl _ | omega | (simp; done) | (simp; omega)) _) | (refine Below.setCell ?_ (by first | exact Nat.le_refl _ | omega | (simp; done) | (simp; omega)) _) | exact Below.drew ‹_›))) (hb.mono (by simp; omega))⟩

/-! ### Arrays of links of the call's own -/
/-- Block g is an array whose first elements are the links ls. -/
def Arr (w : World) (g : Nat) (ls : List Lk) : Prop :=
  ∃ cs : Array Value, w.heap[g]? = some (.cells cs 47 (0, 0)) ∧ ∀ k l, ls[k]? = some l → cs[k * 3]? = some (.int .i64 l.a) ∧ cs[k * 3 + 1]? = some (.int .i64 l.b) ∧ cs[k * 3 + 2]? = some (.int .i64 l.c)
theorem heap_lt {w : World} {g : Nat} {o : Obj} (h : w.heap[g]? = some o) : g < w.heap.size := (Array.getElem?_eq_some_iff.1 h).1
theorem Arr.lt {w : World} {g : Nat} {ls : List Lk} (h : Arr w g ls) : g < w.heap.size := by
  obtain ⟨cs, h, _⟩ := h
  exact heap_lt h
theorem Arr.sl {w : World} {g B : Nat} {ls : List Lk} (h : Arr w g ls) (hB : g < B) : Sl w B (some ⟨g, 0, none⟩) ls := by
  obtain ⟨cs, hh, hc⟩ := h
  intro k l hl
  obtain ⟨h1, h2, h3⟩ := hc k l hl
  refine ⟨g, 0, rfl, hB, ?_, ?_, ?_⟩
  · rw [cell_of_row w g _ cs _ _ hh]; simpa using h1
  · rw [cell_of_row w g _ cs _ _ hh]; simpa using h2
  · rw [cell_of_row w g _ cs _ _ hh]; simpa using h3
theorem Arr.below {w w' : World} {g B : Nat} {ls : List Lk} (h : Arr w g ls) (hb : Below B w w') (hg : g < B) : Arr w' g ls := by
  obtain ⟨cs, hh, hc⟩ := h
  exact ⟨cs, (hb.block g hg).trans hh, hc⟩

theorem bcell {W w1 : World} (hb : Below W.heap.size W w1) : (∀ b o, b < W.heap.size → w1.cell? ⟨b, o, none⟩ = W.cell? ⟨b, o, none⟩) ∧ (∀ b o, b < W.heap.size → w1.frozen? ⟨b, o, none⟩ = W.frozen? ⟨b, o, none⟩) :=
  ⟨fun b o h => hb.cell (p := ⟨b, o, none⟩) h, fun b o h => hb.frozen (p := ⟨b, o, none⟩) h⟩

theorem infoLink : (Try.prog.info? 47).map (fun i => (i.zero, i.size, i.bytes)) = some (some (.agg #[.int .i64 0, .int .i64 0, .int .i64 0]), 3, 24) := by kernel_rfl

theorem own_arr {w : World} {base e size g n cap : Nat} {xs : List Value} (h : w.ownsRow base e size (.slice (some ⟨g, 0, none⟩) n cap) n xs) :
    ∃ cs : Array Value, w.heap[g]? = some (.cells cs e (0, 0)) ∧ cs.size = cap * size ∧ base ≤ g ∧ n ≤ cap ∧ cs.toList.take (n * size) = xs := by
  rcases h.2 with ⟨h, _⟩ | ⟨g', cap', cur, hv, hb, hh, hn, _, hs, ht⟩
  · cases h
  · cases hv
    exact ⟨cur, hh, hs, hb, hn, ht⟩
theorem heap_set {w : World} {g : Nat} {t : TypeId} {cs : Array Value} (h : w.heap[g]? = some (.cells cs t (0, 0))) (i : Nat) (u : Value) : (w.setCell ⟨g, i, none⟩ u).heap[g]? = some (.cells (cs.setIfInBounds i u) t (0, 0)) := by
  simp [World.setCell, Array.getElem?_modify, h]
theorem heap_frozen {w : World} {g : Nat} {t : TypeId} {cs : Array Value} (h : w.heap[g]? = some (.cells cs t (0, 0))) (i : Nat) : w.frozen? ⟨g, i, none⟩ = false := by
  simp [World.frozen?, h]

/-- What 'toLinkS' leaves. -/
def MadeArr (ls : List Lk) (w : World) (e : Ending) (w' : World) : Prop :=
  ∃ g, e = .returned (.slice (some ⟨g, 0, none⟩) ls.length ls.length) ∧ w.heap.size ≤ g ∧ Arr w' g ls ∧ Below w.heap.size w w'

/-- The first k links stand in the array cs. -/
def Upto (cs : Array Value) (ls : List Lk) (k : Nat) : Prop :=
  ∀ j l, j < k → ls[j]? = some l → cs[j * 3]? = some (.int .i64 l.a) ∧ cs[j * 3 + 1]? = some (.int .i64 l.b) ∧ cs[j * 3 + 2]? = some (.int .i64 l.c)
theorem Upto.succ {cs : Array Value} {ls : List Lk} {k : Nat} {l : Lk} (h : Upto cs ls k) (hl : ls[k]? = some l) (hs : k * 3 + 2 < cs.size) :
    Upto (((cs.setIfInBounds (k * 3) (.int .i64 l.a)).setIfInBounds (k * 3 + 1) (.int .i64 l.b)).setIfInBounds (k * 3 + 2) (.int .i64 l.c)) ls (k + 1) := by
  intro j m hj hm
  by_cases hjk : j < k
  · obtain ⟨h1, h2, h3⟩ := h j m hjk hm
    simp only [Array.getElem?_setIfInBounds, Array.size_setIfInBounds]
    refine ⟨?_, ?_, ?_⟩
    · rw [if_neg (by omega), if_neg (by omega), if_neg (by omega)]; exact h1
    · rw [if_neg (by omega), if_neg (by omega), if_neg (by omega)]; exact h2
    · rw [if_neg (by omega), if_neg (by omega), if_neg (by omega)]; exact h3
  · obtain rfl : j = k := by omega
    rw [hl] at hm
    cases hm
    simp only [Array.getElem?_setIfInBounds, Array.size_setIfInBounds]
    refine ⟨?_, ?_, ?_⟩
    · rw [if_neg (by omega), if_neg (by omega), if_pos trivial, if_pos (by omega)]
    · rw [if_neg (by omega), if_pos trivial, if_pos (by omega)]
    · rw [if_pos trivial, if_pos (by omega)]

theorem cell_in {w : World} {g : Nat} {t : TypeId} {cs : Array Value} (h : w.heap[g]? = some (.cells cs t (0, 0))) {i : Nat} (hi : i < cs.size) : ∃ v, w.cell? ⟨g, i, none⟩ = some v :=
  ⟨_, (cell_of_row w g i cs t (0, 0) h).trans (Array.getElem?_eq_getElem hi)⟩
theorem toLink_at (l : Lk) (wr : World) {g : Nat} {t : TypeId} {cs : Array Value} {k : Nat} (hcs : wr.heap[g]? = some (.cells cs t (0, 0))) (hs : k * 3 + 2 < cs.size) :
   Calls Try.prog 55 #[l.v] wr fun e w1 => e = .returned l.v ∧ Below wr.heap.size wr w1 ∧ Hid (w1.heap[g]? = some (.cells cs t (0, 0))) ∧ (∀ i, w1.frozen? ⟨g, i, none⟩ = false) ∧
     (∃ v, w1.cell? ⟨g, k * 3, none⟩ = some v) ∧ (∃ v, w1.cell? ⟨g, k * 3 + 1, none⟩ = some v) ∧ (∃ v, w1.cell? ⟨g, k * 3 + 2, none⟩ = some v) :=
  (toLink_any l wr).mono fun e w1 ⟨he, hb⟩ => by
    have hh := (hb.block _ (heap_lt hcs)).trans hcs
    exact ⟨he, hb, hh, heap_frozen hh, cell_in hh (by omega), cell_in hh (by omega), cell_in hh hs⟩

set_option maxHeartbeats 400000 in
theorem toLinkS_any (A : Option Addr) (ls : List Lk) (c : Nat) (w : World) (hm : ls.length ≤ 2000000)
    (h1 : Sl w w.heap.size A ls) :
   Calls Try.prog 40 #[.slice A ls.length c] w (MadeArr ls w) := by
  obtain ⟨i0, hi, hz0, hz1, hz2⟩ := info_parts infoLink
  have H1 := Lib.hid h1
  clear h1
  go_enter Try.func40, Try.ntmps40
  go_wp2_with (first | (at_make; refine wpList_make_full _ rfl _ _ 28 rfl w.heap.size 47 i0 _ 3 Try.underlying28 hi hz0 hz1 _ _ _ _ ls.length rfl rfl rfl rfl (by rw [hz2]; omega) (by unfold maxLen; omega) (Nat.le_refl _) ?_; intro w1 hown hgrow))
  obtain ⟨cs0, hh0, hs0, hg0, _, _⟩ := own_arr hown
  have HB := Lib.hid ((Below.refl w.heap.size w).grown hgrow (Nat.le_refl _) (fun _ h => by cases h))
  have HH := Lib.hid hh0
  have HS := Lib.hid hs0
  clear hown hgrow hh0 hs0 hg0 hi hz0 hz1 hz2
  go_loopw [4] (fun i wr => ∃ k : Nat, k ≤ ls.length ∧ i = .int .i64 k ∧ Below w.heap.size w wr ∧ ∃ cs : Array Value, wr.heap[w.heap.size]? = some (.cells cs 47 (0, 0)) ∧ cs.size = ls.length * 3 ∧ Upto cs ls k) (fun i _ => ls.length - (intOf i).toNat)
  case atStart => exact ⟨0, Nat.zero_le _, rfl, HB.out, cs0, HH.out, HS.out, fun j _ h => by omega⟩
  case round =>
    obtain ⟨k, hk, rfl, hb, cs, hcs, hsz, hup⟩ := hrel
    have HU := Lib.hid hup
    have HC := Lib.hid hcs
    have HZ := Lib.hid hsz
    have hgl : w.heap.size < wr.heap.size := heap_lt hcs
    clear hup HB HH HS
    by_cases hlt : k < ls.length
    · obtain ⟨l, hl⟩ : ∃ x, ls[k]? = some x := ⟨_, List.getElem?_eq_getElem hlt⟩
      obtain ⟨b, off, rfl, hbb, hc1, hc2, hc3⟩ := (H1.out.below hb) k l hl
      have HL := Lib.hid hl
      clear hl hcs hsz
      have hs3 : k * 3 + 2 < cs.size := by rw [HZ.out]; omega
      have C1 := toLink_at l wr HC.out hs3
      go_wp2_with (first | (go_at_call 55; refine C1.mono ?_; clear C1; rintro e w1 ⟨rfl, hb1, HH, hf, ⟨v0, hd0⟩, ⟨v1, hd1⟩, ⟨v2, hd2⟩⟩))
      go_roundw
      case rel => exact ⟨k + 1, hlt, by go_num, (((hb.trans (hb1.mono hb.size)).setCell (Nat.le_refl _) _).setCell (Nat.le_refl _) _).setCell (Nat.le_refl _) _, _, heap_set (heap_set (heap_set HH.out _ _) _ _) _ _, by simp only [Array.size_setIfInBounds]; exact HZ.out, HU.out.succ HL.out hs3⟩
      case measure => simp [intOf]; omega
    · obtain rfl : k = ls.length := by omega
      go_wp2
      go_ret
      exact ⟨_, rfl, Nat.le_refl _, ⟨cs, HC.out, fun j l hl => HU.out j l (List.getElem?_eq_some_iff.1 hl).1 hl⟩, hb⟩

end Go.Proofs.Ytigamnnboojiiaa
