/-
  The state of a law of stored announcements; what these laws ask for.
-/
import Derived.Test.YtimebipgiicmiacIp
import Derived.Test.YtimebipgiicmiacZs
namespace Go.Proofs.Ytimebipgiicmiac
open Go.RowKit Go.Maps

theorem ZI.base {B : Nat} {v : Value} {zs : List Lz} {W : World} (h : ZI B v zs W) {B' : Nat} (hB : B' ≤ B) : ZI B' v zs W := h.down hB
theorem InnZ.slb {W : World} {B : Nat} {z : Lz} (h : InnZ W B z) : Slb W W.heap.size z.A z.es := h.1.slb
/-- A drawn list and a drawn announcement in its box. -/
structure LU (w : World) (G : Nat) (z : Lz) (A : Option Addr) (zs : List Lz) (W : World) : Prop where
  box : Box W G 28 #[.int .i64 z.o, .int .i64 z.q, .slice z.A z.es.length z.c]
  sl : Slz W W.heap.size A zs
  le : Slb W W.heap.size z.A z.es
  bel : Below w.heap.size w W
section
variable {w w1 w2 : World} {G : Nat} {z : Lz} {A : Option Addr} {zs : List Lz}
theorem LU.call (h : LU w G z A zs w1) (hb : Below w1.heap.size w1 w2) : LU w G z A zs w2 := ⟨h.box.below hb h.box.lt, h.sl.grow hb, (h.le.below hb).more hb.size, h.bel.trans (hb.mono h.bel.size)⟩
theorem LU.drew (h : LU w G z A zs w1) : LU w G z A zs w1.drew := ⟨h.box, h.sl, h.le, h.bel.drew⟩
theorem LU.start {c : Nat} (hz : ZI w.heap.size (.slice A zs.length c) zs w1) (hi : InnZ w1 w.heap.size z) (hb : Below w.heap.size w w1) : LU w w1.heap.size z A zs (w1.alloc (.cells #[.int .i64 z.o, .int .i64 z.q, .slice z.A z.es.length z.c] 28)) := by
  have hb2 : Below w1.heap.size w1 (w1.alloc (.cells #[.int .i64 z.o, .int .i64 z.q, .slice z.A z.es.length z.c] 28)) := by (repeat (first | exact Below.refl _ _ | (refine Below.alloc ?_ (by first | exact Nat.le_refl _ | omega | (simp; done) | (simp; omega)) _) | (refine Below.setCell ?_ (by first | exact Nat.le_refl _ | omega | (simp; done) | (simp; omega)) _) | exact Below.drew ‹_›))
  exact ⟨Box.new w1 _ _, (hz.slz hb.size).grow hb2, (hi.slb.below hb2).more hb2.size, hb.trans (hb2.mono hb.size)⟩
end
theorem Slz.step {w w' : World} {A : Option Addr} {zs : List Lz} (h : Slz w w.heap.size A zs) (hb : Below w.heap.size w w') : Slz w' w'.heap.size A zs := h.grow hb

theorem dbB_nil : dbB [] = true := rfl
theorem putD_val (db : List La) (l : La) : dbB (putD db l) = true := by
  unfold putD
  split
  · rename_i h
    simp only [Bool.and_eq_true] at h
    obtain ⟨h1, h2⟩ := dbB_inv h.1
    exact dbB_of (putL_val h2 h1 h.2) (putL_srt h2)
  · rfl
theorem putN_cases (db : List La) (l : La) : (putN db l = 3 ∧ putD db l = []) ∨ (putN db l ≠ 3 ∧ dbB db = true ∧ laB l = true ∧ putN db l = putC db l ∧ putD db l = putL db l) := by
  unfold putN putD
  by_cases h : (dbB db && laB l) = true
  · rw [if_pos h, if_pos h]
    right
    simp only [Bool.and_eq_true] at h
    refine ⟨?_, h.1, h.2, rfl, rfl⟩
    unfold putC
    split
    · split
      · omega
      · split <;> omega
    · omega
  · rw [if_neg h, if_neg h]
    exact .inl ⟨rfl, rfl⟩
/-- A put list is short. -/
theorem put_short {db : List La} {l : La} {ys : List Lz} (h : datL ys = putD db l) : ys.length ≤ 8 ∧ (∀ y ∈ ys, y.es.length ≤ 8) ∧ dbB (datL ys) = true := by
  have hv : dbB (datL ys) = true := by rw [h]; exact putD_val _ _
  exact ⟨(db_short hv).1, (db_short hv).2, hv⟩

end Go.Proofs.Ytimebipgiicmiac
