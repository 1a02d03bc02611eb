/-
  What the exact laws of tables have in memory.
-/
import Derived.Test.YtohflcbpjjnccabTfm
namespace Go.Proofs.Ytohflcbpjjnccab
open Go.RowKit Go.Maps

/-- The boxes of the argument, of the specification's answer, of the copy that was handed in and of the program's answer; the specification's answer itself. -/
structure ES (w : World) (aT u0 u1 u2 : Array Value) (P0 P1 P2 : Nat) (A0 B0 : Option Addr) (ws : List Lk) (vs : List Int) (b1 : Nat) (W : World) : Prop where
  bel : Below w.heap.size w W
  kI : Box W w.heap.size 25 aT
  k0 : Box W P0 30 u0
  k1 : Box W P1 30 u1
  k2 : Box W P2 30 u2
  s0 : Sl W b1 A0 ws
  i0 : Sli W b1 B0 vs
  hI : w.heap.size < b1
  h0 : P0 < b1
  hb : b1 ≤ W.heap.size
section
variable {w W W' : World} {aT u0 u1 u2 : Array Value} {P0 P1 P2 : Nat} {A0 B0 : Option Addr} {ws : List Lk} {vs : List Int} {b1 : Nat}
theorem ES.below (h : ES w aT u0 u1 u2 P0 P1 P2 A0 B0 ws vs b1 W) (hb : Below W.heap.size W W') : ES w aT u0 u1 u2 P0 P1 P2 A0 B0 ws vs b1 W' :=
  ⟨h.bel.trans (hb.mono h.bel.size), h.kI.below hb h.kI.lt, h.k0.below hb h.k0.lt, h.k1.below hb h.k1.lt, h.k2.below hb h.k2.lt, h.s0.below (hb.mono h.hb), h.i0.below (hb.mono h.hb), h.hI, h.h0, Nat.le_trans h.hb hb.size⟩
theorem ES.kx {X : Nat → Prop} (h : ES w aT u0 u1 u2 P0 P1 P2 A0 B0 ws vs b1 W) (hk : Kx X W W') (hX : ∀ b, X b → b1 ≤ b ∧ b ≠ P1 ∧ b ≠ P2) : ES w aT u0 u1 u2 P0 P1 P2 A0 B0 ws vs b1 W' := by
  have hb : Below b1 W W' := hk.below h.hb (fun k e => (hX k e).1)
  have hi := h.hI
  have h0 := h.h0
  exact ⟨h.bel.trans (hb.mono (by omega)), hk.box h.kI (fun e => by have := (hX _ e).1; omega), hk.box h.k0 (fun e => by have := (hX _ e).1; omega), hk.box h.k1 (fun e => (hX _ e).2.1 rfl), hk.box h.k2 (fun e => (hX _ e).2.2 rfl), h.s0.below hb, h.i0.below hb, h.hI, h.h0, Nat.le_trans h.hb hk.size⟩
theorem ES.sl (h : ES w aT u0 u1 u2 P0 P1 P2 A0 B0 ws vs b1 W) : Sl W W.heap.size A0 ws := h.s0.more h.hb
theorem ES.sli (h : ES w aT u0 u1 u2 P0 P1 P2 A0 B0 ws vs b1 W) : Sli W W.heap.size B0 vs := h.i0.more h.hb
end
theorem remR_len {rs : List Lk} {hs : List Int} {p b : Int} : (remR rs hs p b).length ≤ rs.length := by
  unfold remR
  split
  · exact List.length_filter_le _ _
  · simp
theorem remH_len {rs : List Lk} {hs : List Int} : (remH rs hs).length ≤ hs.length := by
  unfold remH
  split
  · exact Nat.le_refl _
  · simp
theorem trnR_len {rs : List Lk} {hs : List Int} {p b : Int} : (trnR rs hs p b).length ≤ rs.length := by
  unfold trnR
  split
  · exact Nat.le_refl _
  · simp
theorem trnH_len {rs : List Lk} {hs : List Int} {p b : Int} : (trnH rs hs p b).length ≤ hs.length := by
  unfold trnH
  split
  · simp
  · simp
theorem addR_len {rs : List Lk} {hs : List Int} {r : Lk} : (addR rs hs r).length ≤ rs.length + 1 := by
  unfold addR
  split
  · split
    · exact insR_len
    · omega
  · simp
theorem addH_len {rs : List Lk} {hs : List Int} {r : Lk} : (addH rs hs r).length ≤ hs.length := by
  unfold addH
  split
  · exact Nat.le_refl _
  · simp
end Go.Proofs.Ytohflcbpjjnccab
