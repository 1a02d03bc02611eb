/-
  A contract over this seat: the distance that the laws ask for.
-/
import Derived.Test.YtigamnnboojiiaaDn
namespace Go.Proofs.Ytigamnnboojiiaa
open Go.RowKit

theorem Own1i.at {w : World} {A : Option Addr} {g : Nat} {xs : List Int} (h : Own1i w A g xs) {i : Nat} {x : Int} (hx : xs[i]? = some x) : A = some ⟨g, 0, none⟩ ∧ g < w.heap.size ∧ w.cell? ⟨g, i, none⟩ = some (.int .i64 x) := by
  have hl := (List.getElem?_eq_some_iff.1 hx).1
  obtain ⟨e, ha⟩ := h (by omega)
  exact ⟨e, ha.lt, ha.cell hx⟩
theorem distL_at {n : Nat} {ls : List Lk} {s : Int} (hg : gvB (n : Int) ls = true) (hs : 0 ≤ s ∧ s < (n : Int)) {i : Nat} (hi : i < n) : (distL (n : Int) ls s)[i]? = some (bf (n : Int) ls s (i : Int)) := by
  rw [distL_fl (vwB_one hg hs), fl_at hi]
theorem distL_length {n : Nat} {ls : List Lk} {s : Int} (hg : gvB (n : Int) ls = true) (hs : 0 ≤ s ∧ s < (n : Int)) : (distL (n : Int) ls s).length = n := by
  rw [distL_fl (vwB_one hg hs), fl_len]

set_option maxHeartbeats 800000 in
theorem dist_any (n : Nat) (A : Option Addr) (ls : List Lk) (c : Nat) (a : Int) (b : Nat) (w : World) (hm : ls.length ≤ 2000000) (hg : gvB (n : Int) ls = true) (ha : 0 ≤ a ∧ a < (n : Int)) (hb : b < n) (hS : Sl w w.heap.size A ls) :
   Calls Try.prog 35 #[gval (n : Int) A ls.length c, .int .i64 a, .int .i64 (b : Int)] w fun e w' => e = .returned (.int .i64 (bf (n : Int) ls a b)) ∧ Below w.heap.size w w' := by
  have C1 := dist_impl (n : Int) A ls c a (w.alloc (.cells #[.int .i64 (n : Int), .slice A ls.length c] 30)) hm ((hS.alloc (Nat.le_refl _) _).more (by simp))
  have HB := Lib.hid (show Below w.heap.size w (w.alloc (.cells #[.int .i64 (n : Int), .slice A ls.length c] 30)) by (repeat (first | exact Below.refl _ _ | (refine Below.alloc ?_ (by first | exact Nat.le_refl _ | omega | (simp; done) | (simp; omega)) _) | (refine Below.setCell ?_ (by first | exact Nat.le_refl _ | omega | (simp; done) | (simp; omega)) _) | exact Below.drew ‹_›)))
  have hl := distL_length (ls := ls) hg ha
  have hx := distL_at (ls := ls) hg ha hb
  generalize distL (n : Int) ls a = xs at *
  generalize bf (n : Int) ls a b = d at *
  have HX := Lib.hid hx
  have hbl : b < xs.length := by omega
  clear hx hl hS hg ha
  go_enter Try.func35, Try.ntmps35
  go_wp2_with (go_at_call 23; refine C1.mono ?_; clear C1; rintro e w1 ⟨A3, g3, c3, rfl, hg3, ho3, hb3⟩; obtain ⟨rfl, z3, hc3⟩ := ho3.at HX.out; have B1 := Lib.hid (HB.out.trans (hb3.mono (by simp))); clear ho3 hb3 hg3 HB)
  go_ret
  exact ⟨rfl, B1.out⟩
end Go.Proofs.Ytigamnnboojiiaa
