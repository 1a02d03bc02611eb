/-
  Contracts over this seat: the specification's low, order, validity of a route.
-/
import Derived.Test.YtohflcbpjjnccabTc
import Derived.Test.YtohflcbpjjnccabC1
import Derived.Test.YtohflcbpjjnccabA8
namespace Go.Proofs.Ytohflcbpjjnccab
open Go.RowKit Go.Maps

abbrev rtV (x : Lk) : Value := .agg #[.int .i64 x.a, .int .i64 x.b, .int .i64 x.c]
theorem ret3 {w : World} {Q t : Nat} {v0 v1 v2 : Value} (h : Box w Q t #[v0, v1, v2]) (u0 u1 u2 : Value) :
    Box (((w.setCell ⟨Q, 0, none⟩ u0).setCell ⟨Q, 1, none⟩ u1).setCell ⟨Q, 2, none⟩ u2) Q t #[u0, u1, u2] ∧ (((w.setCell ⟨Q, 0, none⟩ u0).setCell ⟨Q, 1, none⟩ u1).setCell ⟨Q, 2, none⟩ u2).cell? ⟨Q, 0, none⟩ = some u0 ∧ (((w.setCell ⟨Q, 0, none⟩ u0).setCell ⟨Q, 1, none⟩ u1).setCell ⟨Q, 2, none⟩ u2).cell? ⟨Q, 1, none⟩ = some u1 ∧ (((w.setCell ⟨Q, 0, none⟩ u0).setCell ⟨Q, 1, none⟩ u1).setCell ⟨Q, 2, none⟩ u2).cell? ⟨Q, 2, none⟩ = some u2 := by
  have b2 : Box (((w.setCell ⟨Q, 0, none⟩ u0).setCell ⟨Q, 1, none⟩ u1).setCell ⟨Q, 2, none⟩ u2) Q t #[u0, u1, u2] := heap_set (heap_set (heap_set h 0 u0) 1 u1) 2 u2
  exact ⟨b2, b2.cell 0, b2.cell 1, b2.cell 2⟩
theorem Box.trip {w : World} {b : Nat} {t : TypeId} {v0 v1 v2 : Value} (h : Box w b t #[v0, v1, v2]) : b < w.heap.size ∧ w.cell? ⟨b, 0, none⟩ = some v0 ∧ w.cell? ⟨b, 1, none⟩ = some v1 ∧ w.cell? ⟨b, 2, none⟩ = some v2 ∧ w.frozen? ⟨b, 0, none⟩ = false ∧ w.frozen? ⟨b, 1, none⟩ = false ∧ w.frozen? ⟨b, 2, none⟩ = false :=
  ⟨h.lt, h.cell 0, h.cell 1, h.cell 2, h.frozen 0, h.frozen 1, h.frozen 2⟩
theorem lowN_half {i : Nat} (h : i < 8) : Int.tdiv (lowN i) 2 = lowN (i + 1) := by
  have hb : i = 0 ∨ i = 1 ∨ i = 2 ∨ i = 3 ∨ i = 4 ∨ i = 5 ∨ i = 6 ∨ i = 7 := by omega
  rcases hb with rfl | rfl | rfl | rfl | rfl | rfl | rfl | rfl <;> decide
theorem lowN_in {i : Nat} (h : i ≤ 8) : 1 ≤ lowN i ∧ lowN i ≤ 256 := by
  have := low_pos (b := (i : Int)) (by omega)
  unfold lowB at this
  rwa [Int.toNat_natCast] at this

set_option maxRecDepth 100000 in
theorem l23low_any (b : Int) (w : World) (hb : 0 ≤ b ∧ b ≤ 8) :
   Calls Try.prog 69 #[.int .i64 b] w fun e w' => e = .returned (.int .i64 (lowB b)) ∧ Below w.heap.size w w' := by
  obtain ⟨n, rfl⟩ : ∃ n : Nat, b = (n : Int) := ⟨b.toNat, by omega⟩
  have HE : Hid (lowB (n : Int) = lowN n) := Lib.hid (by unfold lowB; rw [Int.toNat_natCast])
  have h0 : Hid ((256 : Int) = lowN 0) := Lib.hid (by decide)
  go_enter Try.func69, Try.ntmps69
  go_wp2_with fail
  go_loopw [3, 4] (fun v i wr => ∃ (k : Nat) (m : Int), k ≤ n ∧ i = .int .i64 (k : Int) ∧ v = .int .i64 m ∧ Hid (m = lowN k) ∧ Below w.heap.size w wr) (fun _ i _ => n - (intOf i).toNat)
  case atStart => exact ⟨0, 256, Nat.zero_le _, rfl, rfl, h0, Below.refl _ _⟩
  case round =>
    obtain ⟨k, m, hk, rfl, rfl, hm, hb1⟩ := hrel
    by_cases hlt : k < n
    · have hh := lowN_half (i := k) (by omega)
      have hi := lowN_in (i := k + 1) (by omega)
      rw [← hm.out] at hh
      have HM : Hid (Int.tdiv m 2 = lowN (k + 1)) := Lib.hid hh
      have hw : IntKind.i64.wrap (Int.tdiv m 2) = Int.tdiv m 2 := IntWalk.i64_in _ (by rw [hh]; omega)
      clear hh hi hm
      go_wp2_with fail
      go_roundw
      case rel => exact ⟨k + 1, Int.tdiv m 2, hlt, by go_num, rfl, HM, hb1⟩
      case measure => simp [intOf]; omega
    · obtain rfl : k = n := by omega
      have hge : ¬ ((k : Int) < (k : Int)) := by omega
      go_wp2_with fail
      go_ret
      exact ⟨by rw [HE.out, ← hm.out]; rfl, hb1⟩

set_option maxRecDepth 100000 in
theorem l23less_any (x y : Lk) (w : World) :
   Calls Try.prog 37 #[rtV x, rtV y] w fun e w' => e = .returned (.bool (rtLt x y)) ∧ Below w.heap.size w w' := by
  obtain ⟨xa, xb, xc⟩ := x
  obtain ⟨ya, yb, yc⟩ := y
  have HE : Hid (rtLt ⟨xa, xb, xc⟩ ⟨ya, yb, yc⟩ = (decide (xa < ya) || decide (xa = ya) && decide (xb < yb))) := Lib.hid rfl
  dsimp only [rtV]
  by_cases h1 : xa < ya
  · have HF : Hid (rtLt ⟨xa, xb, xc⟩ ⟨ya, yb, yc⟩ = true) := Lib.hid (by rw [HE.out]; simp [h1])
    clear HE
    go_enter Try.func37, Try.ntmps37
    go_wp2_with fail
    go_ret
    exact ⟨ret_bool HF.out.symm, by (repeat (first | exact Below.refl _ _ | (refine Below.alloc ?_ (by first | exact Nat.le_refl _ | omega | (simp; done) | (simp; omega)) _) | (refine Below.setCell ?_ (by first | exact Nat.le_refl _ | omega | (simp; done) | (simp; omega)) _) | exact Below.drew ‹_›))⟩
  · by_cases h2 : xa = ya
    · subst h2
      have HF : Hid (rtLt ⟨xa, xb, xc⟩ ⟨xa, yb, yc⟩ = decide (xb < yb)) := Lib.hid (by rw [HE.out]; simp)
      clear HE
      go_enter Try.func37, Try.ntmps37
      go_wp2_with fail
      go_ret
      exact ⟨ret_bool HF.out.symm, by (repeat (first | exact Below.refl _ _ | (refine Below.alloc ?_ (by first | exact Nat.le_refl _ | omega | (simp; done) | (simp; omega)) _) | (refine Below.setCell ?_ (by first | exact Nat.le_refl _ | omega | (simp; done) | (simp; omega)) _) | exact Below.drew ‹_›))⟩
    · have h2' : (xa == ya) = false := by simpa using h2
      have HF : Hid (rtLt ⟨xa, xb, xc⟩ ⟨ya, yb, yc⟩ = false) := Lib.hid (by rw [HE.out]; simp [h1, h2])
      clear HE h2
      go_enter Try.func37, Try.ntmps37
      go_wp2_with fail
      go_ret
      exact ⟨ret_bool HF.out.symm, by (repeat (first | exact Below.refl _ _ | (refine Below.alloc ?_ (by first | exact Nat.le_refl _ | omega | (simp; done) | (simp; omega)) _) | (refine Below.setCell ?_ (by first | exact Nat.le_refl _ | omega | (simp; done) | (simp; omega)) _) | exact Below.drew ‹_›))⟩
end Go.Proofs.Ytohflcbpjjnccab
