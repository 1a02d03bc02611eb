/-
  Contracts over this seat: what the laws do with candidates: the same, the one of a node.
-/
import Derived.Test.YtcndhodibeofiaaKe
import Derived.Test.YtcndhodibeofiaaA5
namespace Go.Proofs.Ytcndhodibeofiaa
open Go.RowKit Go.Maps

theorem ret_tri {w : World} {Q t : Nat} {v0 v1 v2 : Value} (h : Box w Q t #[v0, v1, v2]) (u0 u1 u2 : Value) :
    Box (((w.setCell ⟨Q, 0, none⟩ u0).setCell ⟨Q, 1, none⟩ u1).setCell ⟨Q, 2, none⟩ u2) Q t #[u0, u1, u2] ∧ (((w.setCell ⟨Q, 0, none⟩ u0).setCell ⟨Q, 1, none⟩ u1).setCell ⟨Q, 2, none⟩ u2).cell? ⟨Q, 0, none⟩ = some u0 ∧
      (((w.setCell ⟨Q, 0, none⟩ u0).setCell ⟨Q, 1, none⟩ u1).setCell ⟨Q, 2, none⟩ u2).cell? ⟨Q, 1, none⟩ = some u1 ∧ (((w.setCell ⟨Q, 0, none⟩ u0).setCell ⟨Q, 1, none⟩ u1).setCell ⟨Q, 2, none⟩ u2).cell? ⟨Q, 2, none⟩ = some u2 := by
  have b2 : Box (((w.setCell ⟨Q, 0, none⟩ u0).setCell ⟨Q, 1, none⟩ u1).setCell ⟨Q, 2, none⟩ u2) Q t #[u0, u1, u2] := heap_set (heap_set (heap_set h 0 u0) 1 u1) 2 u2
  exact ⟨b2, b2.cell 0, b2.cell 1, b2.cell 2⟩
theorem Box.tri {w : World} {b : Nat} {t : TypeId} {v0 v1 v2 : Value} (h : Box w b t #[v0, v1, v2]) : b < w.heap.size ∧ w.cell? ⟨b, 0, none⟩ = some v0 ∧ w.cell? ⟨b, 1, none⟩ = some v1 ∧ w.cell? ⟨b, 2, none⟩ = some v2 ∧ w.frozen? ⟨b, 0, none⟩ = false ∧ w.frozen? ⟨b, 1, none⟩ = false ∧ w.frozen? ⟨b, 2, none⟩ = false :=
  ⟨h.lt, h.cell 0, h.cell 1, h.cell 2, h.frozen 0, h.frozen 1, h.frozen 2⟩

set_option maxHeartbeats 800000 in
theorem sameCand_same (A1 A2 : Option Addr) (xs : List Lk) (c1 c2 : Nat) (w : World) (hm : xs.length ≤ 2000000)
    (h1 : Sl w w.heap.size A1 xs) (h2 : Sl w w.heap.size A2 xs) :
   Calls Try.prog 27 #[.slice A1 xs.length c1, .slice A2 xs.length c2] w fun e w' => e = .returned (.bool true) ∧ Below w.heap.size w w' := by
  have R1 := Lib.hid h1
  have R2 := Lib.hid h2
  clear h1 h2
  go_enter Try.func27, Try.ntmps27
  go_wp2
  go_loopw [5] (fun i wr => ∃ k : Nat, k ≤ xs.length ∧ i = .int .i64 k ∧ Below w.heap.size w wr) (fun i _ => xs.length - (intOf i).toNat)
  case atStart => exact ⟨0, Nat.zero_le _, rfl, Below.refl _ _⟩
  case round =>
    obtain ⟨k, hk, rfl, hb⟩ := hrel
    by_cases hlt : k < xs.length
    · obtain ⟨x, hx⟩ : ∃ x, xs[k]? = some x := ⟨_, List.getElem?_eq_getElem hlt⟩
      obtain ⟨b, off, rfl, hbb, hc0, hc1, hc2⟩ := (R1.out.below hb) k x hx
      obtain ⟨b', off', rfl, hbb', hd0, hd1, hd2⟩ := (R2.out.below hb) k x hx
      clear hx
      go_wp2
      try go_quiet (fail)
      try go_wp2
      go_roundw
      case rel => exact ⟨k + 1, hlt, by go_num, by first | exact hb | exact hb.drew | exact ⟨hb.os, hb.tape, hb.output, hb.size, hb.block⟩⟩
      case measure => simp [intOf]; omega
    · have hge : xs.length ≤ k := by omega
      go_wp2
      go_ret
      exact ⟨rfl, hb⟩

theorem cdI_at {xs : List Lk} {n : Int} {k : Nat} {x : Lk} (hx : xs[k]? = some x) (hn : x.a = n) (h : ∀ (j : Nat) (y : Lk), j < k → xs[j]? = some y → y.a ≠ n) : cdI xs n = x := by
  unfold cdI
  have hf : xs.find? (fun y => decide (y.a = n)) = some x := by
    obtain ⟨hk, hxe⟩ := List.getElem?_eq_some_iff.1 hx
    rw [List.find?_eq_some_iff_getElem]
    refine ⟨by simpa using hn, k, hk, hxe, fun j hj => ?_⟩
    have := h j xs[j] hj (List.getElem?_eq_getElem (by omega))
    simpa using this
  rw [hf]

set_option maxHeartbeats 800000 in
theorem candidate_any (A : Option Addr) (xs : List Lk) (c : Nat) (n : Int) (w : World) (hm : xs.length ≤ 2000000) (h1 : Sl w w.heap.size A xs) :
   Calls Try.prog 25 #[.slice A xs.length c, .int .i64 n] w fun e w' => e = .returned (cdV (cdI xs n)) ∧ Below w.heap.size w w' := by
  have R1 := Lib.hid h1
  have HN := Lib.hid (fun (h : ∀ x ∈ xs, x.a ≠ n) => cdI_no h)
  have HC := Lib.hid (fun (k : Nat) (x : Lk) (hx : xs[k]? = some x) (hn : x.a = n) (h : ∀ (j : Nat) (y : Lk), j < k → xs[j]? = some y → y.a ≠ n) => cdI_at hx hn h)
  have Q0 := Lib.hid (Box.new w 36 #[.int .i64 0, .int .i64 0, .int .i64 0])
  have B0 := Lib.hid (show Below w.heap.size w (w.alloc (.cells #[.int .i64 0, .int .i64 0, .int .i64 0] 36)) by (repeat (first | exact Below.refl _ _ | (refine Below.alloc ?_ (by first | exact Nat.le_refl _ | omega | (simp; done) | (simp; omega)) _) | (refine Below.setCell ?_ (by first | exact Nat.le_refl _ | omega | (simp; done) | (simp; omega)) _) | exact Below.drew ‹_›)))
  clear h1
  go_enter Try.func25, Try.ntmps25
  go_wp2_with fail
  generalize w.alloc (.cells #[.int .i64 0, .int .i64 0, .int .i64 0] 36) = W at *
  have HSL := Lib.hid ((R1.out.below B0.out).more B0.out.size)
  go_loop [5] (fun i => ∃ k : Nat, k ≤ xs.length ∧ i = .int .i64 (k : Int) ∧ Hid (∀ (j : Nat) (y : Lk), j < k → xs[j]? = some y → y.a ≠ n)) (fun i => xs.length - (intOf i).toNat)
  case atStart => exact ⟨0, Nat.zero_le _, rfl, Lib.hid (fun j y hj => by omega)⟩
  case round =>
    obtain ⟨k, hk, rfl, HA⟩ := hrel
    obtain ⟨zb, q0, q1, q2, u0, u1, u2⟩ := Q0.out.tri
    by_cases hlt : k < xs.length
    · obtain ⟨x, hx⟩ : ∃ x, xs[k]? = some x := ⟨_, List.getElem?_eq_getElem hlt⟩
      obtain ⟨b, off, rfl, hbb, hc0, hc1, hc2⟩ := HSL.out k x hx
      have HX := Lib.hid hx
      clear hx
      by_cases he : x.a = n
      · have hcd := HC.out k x HX.out he HA.out
        have HCD := Lib.hid hcd
        have he' : (x.a == n) = true := by simp [he]
        obtain ⟨b3, y0, y1, y2⟩ := ret_tri Q0.out (.int .i64 x.a) (.int .i64 x.b) (.int .i64 x.c)
        clear he hcd b3
        obtain ⟨xa, xb, xc⟩ := x
        dsimp only at *
        go_wp2_with fail
        refine bodyPost_ret (v := cdV ⟨xa, xb, xc⟩) (by simp [results, Try.results25, go_sem, y0, y1, y2]) rfl ⟨by rw [HCD.out], ?_⟩
        exact ((B0.out.setCell (p := ⟨w.heap.size, 0, none⟩) (Nat.le_refl _) _).setCell (p := ⟨w.heap.size, 1, none⟩) (Nat.le_refl _) _).setCell (p := ⟨w.heap.size, 2, none⟩) (Nat.le_refl _) _
      · have he' : (x.a == n) = false := by simpa using he
        have HE := Lib.hid he
        clear he
        go_wp2_with fail
        go_round
        case rel => exact ⟨k + 1, hlt, by go_num, Lib.hid (fun j y hj hy => by
          by_cases hjk : j < k
          · exact HA.out j y hjk hy
          · obtain rfl : j = k := by omega
            rw [HX.out] at hy
            cases hy
            exact HE.out)⟩
        case measure => simp [intOf]; omega
    · have hge : xs.length ≤ k := by omega
      have HCD : Hid (cdI xs n = ⟨-1, 0, 0⟩) := Lib.hid (HN.out (fun x hx => by
        obtain ⟨j, hj⟩ := List.getElem?_of_mem hx
        exact HA.out j x (by have := (List.getElem?_eq_some_iff.1 hj).1; omega) hj))
      obtain ⟨b3, y0, y1, y2⟩ := ret_tri Q0.out (.int .i64 (-1)) (.int .i64 0) (.int .i64 0)
      clear b3
      go_wp2_with fail
      refine bodyPost_ret (v := cdV ⟨-1, 0, 0⟩) (by simp [results, Try.results25, go_sem, y0, y1, y2]) rfl ⟨by rw [HCD.out], ?_⟩
      exact ((B0.out.setCell (p := ⟨w.heap.size, 0, none⟩) (Nat.le_refl _) _).setCell (p := ⟨w.heap.size, 1, none⟩) (Nat.le_refl _) _).setCell (p := ⟨w.heap.size, 2, none⟩) (Nat.le_refl _) _
end Go.Proofs.Ytcndhodibeofiaa
