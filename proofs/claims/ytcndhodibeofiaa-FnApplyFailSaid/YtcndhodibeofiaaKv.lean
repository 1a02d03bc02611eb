/-
  What the laws of candidates have in common over this seat.
-/
import Derived.Test.YtcndhodibeofiaaKf
import Derived.Test.YtcndhodibeofiaaKg
import Derived.Test.YtcndhodibeofiaaKi
namespace Go.Proofs.Ytcndhodibeofiaa
open Go.RowKit Go.Maps

/-- The drawn candidates. -/
structure KL (w : World) (A : Option Addr) (xs : List Lk) (W : World) : Prop where
  sl : Sl W W.heap.size A xs
  bel : Below w.heap.size w W
section
variable {w w1 w2 : World} {A : Option Addr} {xs : List Lk}
theorem KL.call (h : KL w A xs w1) (hb : Below w1.heap.size w1 w2) : KL w A xs w2 := ⟨(h.sl.below hb).more hb.size, h.bel.trans (hb.mono h.bel.size)⟩
theorem KL.drew (h : KL w A xs w1) : KL w A xs w1.drew := h.call (Below.refl _ _).drew
theorem KL.alloc (h : KL w A xs w1) (o : Obj) : KL w A xs (w1.alloc o) := h.call ((Below.refl _ _).alloc (Nat.le_refl _) _)
end
theorem elect_facts {xs : List Lk} (hv : cdB xs = true) : ∃ s b, elA xs = (s, b) ∧ CdOk xs ∧ IsSp xs s ∧ IsBk xs s b := by
  have h := (cdB_iff xs).1 hv
  obtain ⟨h1, h2⟩ := elA_is h (show elA xs = ((elA xs).1, (elA xs).2) from rfl)
  exact ⟨_, _, rfl, h, h1, h2⟩
/-- How many of the first k candidates can be elected. -/
def cnP (xs : List Lk) (k : Nat) : Nat := ((xs.take k).filter (fun x => decide (0 < x.b))).length
theorem cnP_next {xs : List Lk} {k : Nat} {x : Lk} (h : xs[k]? = some x) : cnP xs (k + 1) = cnP xs k + (if 0 < x.b then 1 else 0) := by
  unfold cnP
  rw [List.take_add_one, h, List.filter_append, List.length_append]
  by_cases hp : 0 < x.b <;> simp [hp]
theorem cnP_all (xs : List Lk) : cnP xs xs.length = (xs.filter (fun x => decide (0 < x.b))).length := by unfold cnP; rw [List.take_length]
theorem cnP_le (xs : List Lk) (k : Nat) : cnP xs k ≤ xs.length := by
  unfold cnP
  exact Nat.le_trans (List.length_filter_le _ _) (by rw [List.length_take]; omega)
theorem apA_le (xs : List Lk) : (apA xs).length ≤ xs.length := by
  unfold apA apL
  split <;> simp
theorem filt_next {xs : List Lk} {k : Nat} {x : Lk} {s : Int} (h : xs[k]? = some x) : (xs.take (k + 1)).filter (fun x => decide (x.a ≠ s)) = (xs.take k).filter (fun x => decide (x.a ≠ s)) ++ (if x.a ≠ s then [x] else []) := by
  rw [List.take_add_one, h, List.filter_append]
  by_cases hp : x.a = s <;> simp [hp]
/-- The drawn candidates, and the applied ones. -/
structure KA (w : World) (A : Option Addr) (xs : List Lk) (B : Option Addr) (ys : List Lk) (W : World) : Prop where
  kl : KL w A xs W
  so : Sl W W.heap.size B ys
theorem KA.call {w w1 w2 : World} {A B : Option Addr} {xs ys : List Lk} (h : KA w A xs B ys w1) (hb : Below w1.heap.size w1 w2) : KA w A xs B ys w2 := ⟨h.kl.call hb, (h.so.below hb).more hb.size⟩
theorem KA.alloc {w w1 : World} {A B : Option Addr} {xs ys : List Lk} (h : KA w A xs B ys w1) (o : Obj) : KA w A xs B ys (w1.alloc o) := h.call ((Below.refl _ _).alloc (Nat.le_refl _) _)
theorem KA.drewN {w w1 : World} {A B : Option Addr} {xs ys : List Lk} (h : KA w A xs B ys w1) (n : Nat) : KA w A xs B ys (w1.drewN n) :=
  h.call (w2 := w1.drewN n) (by have hb := Below.refl w1.heap.size w1; exact ⟨hb.os, hb.tape, hb.output, hb.size, hb.block⟩)
end Go.Proofs.Ytcndhodibeofiaa
