/-
  Contracts over this seat: the drawn graph that is seldom invalid, a node, a link, and the laws' drawings.
-/
import Derived.Test.YtohflcbpjjnccabA4
import Derived.Deep.Onto
import Derived.Laws.OwnMore
namespace Go.Proofs.Ytohflcbpjjnccab
open Go.RowKit

theorem flat_set_b : ∀ (ls : List Lk) (x : Nat) (l : Lk), ls[x]? = some l → ∀ u : Int, (flat ls).set (x * 3 + 1) (.int .i64 u) = flat (ls.set x ⟨l.a, u, l.c⟩)
  | [], x, l, h, u => by simp at h
  | y :: ys, 0, l, h, u => by
    obtain rfl : y = l := by simpa using h
    simp [flat]
  | y :: ys, x + 1, l, h, u => by
    have ih := flat_set_b ys x l (by simpa using h) u
    have e : (x + 1) * 3 + 1 = (x * 3 + 1) + 3 := by omega
    rw [e, List.set_cons_succ]
    show (flat (y :: ys)).set (x * 3 + 1 + 3) _ = _
    simp only [flat, List.set_cons_succ] at ih ⊢
    rw [ih]
theorem flat_set_c : ∀ (ls : List Lk) (x : Nat) (l : Lk), ls[x]? = some l → ∀ u : Int, (flat ls).set (x * 3 + 2) (.int .i64 u) = flat (ls.set x ⟨l.a, l.b, u⟩)
  | [], x, l, h, u => by simp at h
  | y :: ys, 0, l, h, u => by
    obtain rfl : y = l := by simpa using h
    simp [flat]
  | y :: ys, x + 1, l, h, u => by
    have ih := flat_set_c ys x l (by simpa using h) u
    have e : (x + 1) * 3 + 2 = (x * 3 + 2) + 3 := by omega
    rw [e, List.set_cons_succ]
    show (flat (y :: ys)).set (x * 3 + 2 + 3) _ = _
    simp only [flat, List.set_cons_succ] at ih ⊢
    rw [ih]



theorem slice_inj {A A' : Option Addr} {n n' c c' : Nat} (h : Value.slice A n c = .slice A' n' c') : A = A' ∧ c = c' := by
  injection h with h1 h2 h3
  exact ⟨h1, h3⟩
theorem pick_of_three {w w4 : World} {R k t : Nat} {x y z : Int} (hg : (w.alloc (.cells #[.int .i64 x, .int .i64 y, .int .i64 z] t)).grownBy w4 (some R)) (hR : R < w.heap.size) (hk : k < 3) :
    ∃ v : Int, w4.cell? ⟨w.heap.size, k, none⟩ = some (.int .i64 v) := by
  have h := ((Box.new w t #[.int .i64 x, .int .i64 y, .int .i64 z]).grown hg (by omega)).cell k
  rcases (show k = 0 ∨ k = 1 ∨ k = 2 by omega) with rfl | rfl | rfl
  · exact ⟨x, h⟩
  · exact ⟨y, h⟩
  · exact ⟨z, h⟩
theorem three_new (w : World) {k : Nat} (t : TypeId) (x y z : Int) (hk : k < 3) :
    ∃ v : Int, (w.alloc (.cells #[.int .i64 x, .int .i64 y, .int .i64 z] t)).cell? ⟨w.heap.size, k, none⟩ = some (.int .i64 v) ∧ (#[.int .i64 x, .int .i64 y, .int .i64 z] : Array Value)[k]? = some (.int .i64 v) := by
  have h := (Box.new w t #[.int .i64 x, .int .i64 y, .int .i64 z]).cell k
  rcases (show k = 0 ∨ k = 1 ∨ k = 2 by omega) with rfl | rfl | rfl
  · exact ⟨x, h, rfl⟩
  · exact ⟨y, h, rfl⟩
  · exact ⟨z, h, rfl⟩



theorem ret_two {w : World} {Q t : Nat} {v0 v1 : Value} (h : Box w Q t #[v0, v1]) (u0 u1 : Value) :
    Box ((w.setCell ⟨Q, 0, none⟩ u0).setCell ⟨Q, 1, none⟩ u1) Q t #[u0, u1] ∧ ((w.setCell ⟨Q, 0, none⟩ u0).setCell ⟨Q, 1, none⟩ u1).cell? ⟨Q, 0, none⟩ = some u0 ∧ ((w.setCell ⟨Q, 0, none⟩ u0).setCell ⟨Q, 1, none⟩ u1).cell? ⟨Q, 1, none⟩ = some u1 := by
  have b2 : Box ((w.setCell ⟨Q, 0, none⟩ u0).setCell ⟨Q, 1, none⟩ u1) Q t #[u0, u1] := heap_set (heap_set h 0 u0) 1 u1
  exact ⟨b2, b2.cell 0, b2.cell 1⟩


end Go.Proofs.Ytohflcbpjjnccab

/-
  Contracts over this seat: the reader opened, a node, and what the laws of chapter 1 draw.
-/
namespace Go.Proofs.Ytohflcbpjjnccab
open Go.RowKit

theorem Byt.less {w : World} {B : Nat} {A : Option Addr} {len len' : Nat} {f : Nat → Int} (h : Byt w B A len f) (hl : len' ≤ len) : Byt w B A len' f := fun hp => by
  obtain ⟨b, off, e, hb, hc⟩ := h (by omega)
  exact ⟨b, off, e, hb, fun i hi => hc i (by omega)⟩

set_option maxRecDepth 100000 in
theorem open_any (A : Option Addr) (len c : Nat) (f : Nat → Int) (w : World) (hlc : len ≤ c) (hc : c ≤ maxLen) (hB : Byt w w.heap.size A len f) :
   Calls Try.prog 65 #[.slice A len c] w fun e w' => ∃ len' : Nat, len' ≤ 2000 ∧ e = .returned (.pointer (some ⟨w.heap.size, 0, none⟩)) ∧ RD w.heap.size A len' c f 0 w' ∧ Below w.heap.size w w' ∧ w'.heap.size = w.heap.size + 1 := by
  have HB := Lib.hid hB
  clear hB
  unfold maxLen at hc
  by_cases h : len ≤ 2000
  · go_enter Try.func65, Try.ntmps65
    go_wp2
    go_ret
    exact ⟨len, h, rfl, ⟨0, Nat.le_refl _, Box.new w 82 _, HB.out.below ((Below.refl w.heap.size w).alloc (Nat.le_refl _) _)⟩, by (repeat (first | exact Below.refl _ _ | (refine Below.alloc ?_ (by first | exact Nat.le_refl _ | omega | (simp; done) | (simp; omega)) _) | (refine Below.setCell ?_ (by first | exact Nat.le_refl _ | omega | (simp; done) | (simp; omega)) _) | exact Below.drew ‹_›)), by simp⟩
  · obtain ⟨b, off, rfl, hb, hcc⟩ := HB.out (by omega)
    clear hcc
    go_enter Try.func65, Try.ntmps65
    go_wp2
    go_ret
    exact ⟨2000, Nat.le_refl _, rfl, ⟨0, Nat.le_refl _, Box.new w 82 _, (HB.out.less (by omega)).below ((Below.refl w.heap.size w).alloc (Nat.le_refl _) _)⟩, by (repeat (first | exact Below.refl _ _ | (refine Below.alloc ?_ (by first | exact Nat.le_refl _ | omega | (simp; done) | (simp; omega)) _) | (refine Below.setCell ?_ (by first | exact Nat.le_refl _ | omega | (simp; done) | (simp; omega)) _) | exact Below.drew ‹_›)), by simp⟩




theorem Byt.alloc {w : World} {A : Option Addr} {len : Nat} {f : Nat → Int} (h : Byt w w.heap.size A len f) (o : Obj) : Byt (w.alloc o) (w.alloc o).heap.size A len f := fun hl => by
  obtain ⟨b, off, e, hb, hc⟩ := (h.below ((Below.refl w.heap.size w).alloc (Nat.le_refl _) o)) hl
  exact ⟨b, off, e, by simp; omega, hc⟩







end Go.Proofs.Ytohflcbpjjnccab

/-
  Contracts over this seat: what the laws of chapter 1 draw, further ones.
-/
namespace Go.Proofs.Ytohflcbpjjnccab
open Go.RowKit




end Go.Proofs.Ytohflcbpjjnccab

/-
  Contracts over this seat: what the laws of reach and of distances draw.
-/
namespace Go.Proofs.Ytohflcbpjjnccab
open Go.RowKit



end Go.Proofs.Ytohflcbpjjnccab
