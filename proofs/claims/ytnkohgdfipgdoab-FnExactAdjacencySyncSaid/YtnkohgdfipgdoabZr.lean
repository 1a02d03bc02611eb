/-
  Contracts over this seat: the draws of announcements.
-/
import Derived.Test.YtnkohgdfipgdoabZq
namespace Go.Proofs.Ytnkohgdfipgdoab
open Go.RowKit Go.Maps

theorem InnZ.far {W : World} {B : Nat} {z : Lz} (h : InnZ W B z) {p : Addr} (hp : z.g ≠ p.block) (u : Value) : InnZ (W.setCell p u) B z := ⟨h.1.set_far hp u, h.2⟩
theorem ZI.set_box {B : Nat} {v : Value} {zs : List Lz} {W : World} (h : ZI B v zs W) {Q : Nat} (hQ : Q < B) (i : Nat) (u : Value) : ZI B v zs (W.setCell ⟨Q, i, none⟩ u) := by
  refine ⟨h.row.kept (grown_set (World.grownBy.refl W (some Q)) i u) (.inr ?_), fun z hz => (h.inn z hz).far (p := ⟨Q, i, none⟩) (by have := (h.inn z hz).2.1; show z.g ≠ Q; omega) u, h.dis⟩
  intro e
  have := (h.row.lt Q e).1
  omega
/-- A drawn announcement. -/
def LsaX (w : World) (e : Ending) (w' : World) : Prop := ∃ z : Lz, e = .returned z.v ∧ LaOk z.d ∧ InnZ w' w.heap.size z ∧ Below w.heap.size w w'
/-- A drawn list and a drawn announcement. -/
def PutX (w : World) (e : Ending) (w' : World) : Prop := ∃ (zs : List Lz) (A : Option Addr) (c : Nat) (z : Lz), e = .returned (.tuple #[.slice A zs.length c, z.v]) ∧ zs.length ≤ 9 ∧ (∀ x ∈ zs, LaOk x.d) ∧ LaOk z.d ∧
  ZI w.heap.size (.slice A zs.length c) zs w' ∧ InnZ w' w.heap.size z ∧ (∀ x ∈ zs, 0 < x.es.length → 0 < z.es.length → x.g ≠ z.g) ∧ Below w.heap.size w w'



end Go.Proofs.Ytnkohgdfipgdoab
