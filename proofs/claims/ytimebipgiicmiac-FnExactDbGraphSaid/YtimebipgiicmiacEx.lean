/-
  The state of an exact law over announcements.
-/
import Derived.Test.YtimebipgiicmiacZz
import Derived.Test.YtimebipgiicmiacZg
namespace Go.Proofs.Ytimebipgiicmiac
open Go.RowKit Go.Maps

theorem ZI.keepL {B B1 Bx : Nat} {v : Value} {zs : List Lz} {W W' : World} (h : ZI Bx v zs W) (hk : KeepO B B1 W W') (hl : B1 ≤ Bx) : ZI Bx v zs W' :=
  h.keepO (B := B) (B1 := Bx) ⟨hk.os, hk.tape, hk.output, hk.size, fun i hi ho => hk.block i hi (by omega)⟩
theorem cntZ_le {zs : List Lz} {m : Nat} (h : ∀ z ∈ zs, z.es.length ≤ m) : cntZ zs ≤ zs.length * (2 + 2 * m) := by
  induction zs with
  | nil => simp [cntZ]
  | cons z r ih =>
    have h1 := h z (List.mem_cons_self ..)
    have h2 := ih (fun y hy => h y (List.mem_cons_of_mem _ hy))
    unfold cntZ
    rw [List.length_cons, Nat.add_mul, Nat.one_mul]
    omega
/-- What came in lies as it lay; what is wanted (P) lies below block B0. -/
structure EW (w : World) (Q : World → Prop) (B0 : Nat) (P : World → Prop) (W : World) : Prop where
  ex : Q W
  wn : P W
  sz : w.heap.size ≤ B0
  le : B0 ≤ W.heap.size
  bel : Below w.heap.size w W
  mq : ∀ {X Y : World}, Below B0 X Y → Q X → Q Y
  mp : ∀ {X Y : World}, Below B0 X Y → P X → P Y
theorem EW.b {w W W' : World} {Q P : World → Prop} {B0 : Nat} (h : EW w Q B0 P W) (hb : Below B0 W W') : EW w Q B0 P W' :=
  ⟨h.mq hb h.ex, h.mp hb h.wn, h.sz, Nat.le_trans h.le hb.size, h.bel.trans (hb.mono h.sz), h.mq, h.mp⟩
theorem EW.call {w W W' : World} {Q P : World → Prop} {B0 : Nat} (h : EW w Q B0 P W) (hb : Below W.heap.size W W') : EW w Q B0 P W' := h.b (hb.mono h.le)
theorem EW.keep {w W W' : World} {Q P : World → Prop} {B0 b b1 : Nat} (h : EW w Q B0 P W) (hk : KeepO b b1 W W') (h1 : B0 ≤ b) (h2 : b ≤ W.heap.size) : EW w Q B0 P W' := h.b ((hk.below h2).mono h1)
theorem EW.drew {w W : World} {Q P : World → Prop} {B0 : Nat} (h : EW w Q B0 P W) : EW w Q B0 P W.drew :=
  h.b ⟨rfl, rfl, rfl, Nat.le_refl _, fun _ _ => rfl⟩
/-- Two lists that came in. -/
def Q2 (w : World) (A : Option Addr) (zs : List Lz) (B : Option Addr) (os : List Lz) (W : World) : Prop := Slz W w.heap.size A zs ∧ Slz W w.heap.size B os ∧ w.heap.size ≤ W.heap.size
theorem Q2.b {w X Y : World} {A B : Option Addr} {zs os : List Lz} {B0 : Nat} (h : Q2 w A zs B os X) (hb : Below B0 X Y) (hl : w.heap.size ≤ B0) : Q2 w A zs B os Y := ⟨h.1.below (hb.mono hl), h.2.1.below (hb.mono hl), Nat.le_trans h.2.2 hb.size⟩
theorem Q2.s1 {w X : World} {A B : Option Addr} {zs os : List Lz} (h : Q2 w A zs B os X) : Slz X X.heap.size A zs := h.1.more h.2.2
theorem Q2.s2 {w X : World} {A B : Option Addr} {zs os : List Lz} (h : Q2 w A zs B os X) : Slz X X.heap.size B os := h.2.1.more h.2.2

theorem merge_short2 {db other : List La} {ys : List Lz} (h : datL ys = mergeD db other) : ys.length ≤ 8 ∧ (∀ y ∈ ys, y.es.length ≤ 8) := by
  have hv : dbB (datL ys) = true := by
    rw [h]
    unfold mergeD
    split
    · rename_i h
      simp only [Bool.and_eq_true] at h
      obtain ⟨h1, h2⟩ := dbB_inv h.1
      obtain ⟨h3, h4⟩ := dbB_inv h.2
      exact dbB_of (mergeL_val h2 h1 h3) (mergeL_srt h2)
    · rfl
  exact db_short hv
theorem missD_short2 (db other : List La) : (missD db other).length ≤ 8 := by
  unfold missD
  split
  · rename_i h
    simp only [Bool.and_eq_true] at h
    obtain ⟨h1, h2⟩ := dbB_inv h.2
    unfold missL
    rw [List.length_map]
    exact Nat.le_trans (List.length_filter_le _ _) (db_len h2 h1)
  · simp
theorem Own1i.keepO {B B1 : Nat} {W W' : World} {A : Option Addr} {g : Nat} {xs : List Int} (h : Own1i W A g xs) (hk : KeepO B B1 W W') (hl : B1 ≤ g) : Own1i W' A g xs := fun hp => by
  obtain ⟨e, cs, hh, hc⟩ := h hp
  exact ⟨e, cs, (hk.block _ (heap_lt hh) (.inr hl)).trans hh, hc⟩


end Go.Proofs.Ytimebipgiicmiac
