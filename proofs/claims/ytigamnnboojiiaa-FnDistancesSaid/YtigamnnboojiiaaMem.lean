/-
  Small lemmas on memory over this seat: a block that begins with two cells; two equal graphs are found equal.
-/
import Derived.Test.YtigamnnboojiiaaGs
namespace Go.Proofs.Ytigamnnboojiiaa
open Go.RowKit

theorem Sl.alloc {w : World} {B : Nat} {A : Option Addr} {ls : List Lk} (h : Sl w B A ls) (hB : B ≤ w.heap.size) (o : Obj) : Sl (w.alloc o) B A ls :=
  h.below ((Below.refl _ _).alloc hB _)
/-- Block b begins with these two cells. -/
def At2 (w : World) (b : Nat) (v0 v1 : Value) : Prop := b < w.heap.size ∧ w.cell? ⟨b, 0, none⟩ = some v0 ∧ w.cell? ⟨b, 1, none⟩ = some v1
theorem At2.new (w : World) (v0 v1 : Value) (t : TypeId) : At2 (w.alloc (.cells #[v0, v1] t)) w.heap.size v0 v1 :=
  ⟨by simp, by simp [World.cell?_alloc_new], by simp [World.cell?_alloc_new]⟩
theorem At2.below {w w' : World} {b : Nat} {v0 v1 : Value} (h : At2 w b v0 v1) (hb : Below w.heap.size w w') : At2 w' b v0 v1 :=
  ⟨Nat.lt_of_lt_of_le h.1 hb.size, (hb.cell (p := ⟨b, 0, none⟩) h.1).trans h.2.1, (hb.cell (p := ⟨b, 1, none⟩) h.1).trans h.2.2⟩
theorem At2.alloc {w : World} {b : Nat} {v0 v1 : Value} (h : At2 w b v0 v1) (o : Obj) : At2 (w.alloc o) b v0 v1 :=
  h.below ((Below.refl _ _).alloc (Nat.le_refl _) _)

theorem eqLksB_same (ls : List Lk) : eqLksB ls ls = true := (eqLksB_iff ls ls).2 rfl
theorem eqGraph_same (n : Int) (A1 A2 : Option Addr) (ls : List Lk) (c1 c2 : Nat) (w : World) (hm : ls.length ≤ 2000000) (h1 : Sl w w.heap.size A1 ls) (h2 : Sl w w.heap.size A2 ls) :
   Calls Try.prog 18 #[gval n A1 ls.length c1, gval n A2 ls.length c2] w fun e w' => e = .returned (.bool true) ∧ Below w.heap.size w w' := by
  have := eqGraph_any n n A1 A2 ls ls c1 c2 w hm h1 h2
  rwa [eqLksB_same, show (decide (n = n) && true) = true by simp] at this

end Go.Proofs.Ytigamnnboojiiaa
