/-
  Contracts over this seat: the specification's Distances.
-/
import Derived.Test.YtigamnnboojiiaaSd
import Derived.Test.YtigamnnboojiiaaDist
namespace Go.Proofs.Ytigamnnboojiiaa
open Go.RowKit

theorem l1Node_vis (nn : Int) (A : Option Addr) (len c : Nat) (x : Int) (w : World) (h1 : 1 ≤ nn) (h8 : nn ≤ 8) :
   Calls Try.prog 38 #[gval nn A len c, .int .i64 x] w fun e w' => e = .returned (.bool (inB x 0 (nn - 1))) ∧ Below w.heap.size w w' := by
  go_enter Try.func38, Try.ntmps38
  go_wp2_with (go_at_call 54; refine (l6In_any x 0 (nn - 1) _).mono ?_; rintro e w' ⟨rfl, rfl⟩)
  go_ret
  exact ⟨rfl, by (repeat (first | exact Below.refl _ _ | (refine Below.alloc ?_ (by first | exact Nat.le_refl _ | omega | (simp; done) | (simp; omega)) _) | (refine Below.setCell ?_ (by first | exact Nat.le_refl _ | omega | (simp; done) | (simp; omega)) _) | exact Below.drew ‹_›))⟩

theorem distL_fl {n : Nat} {ls : List Lk} {s : Int} (h : vwB (n : Int) ls [s] = true) : distL (n : Int) ls s = fl n (bf (n : Int) ls s) := by
  unfold distL fl
  rw [if_pos h, Int.toNat_natCast]
theorem distL_len (nn : Int) (ls : List Lk) (s : Int) : (distL nn ls s).length ≤ 8 := by
  unfold distL
  split
  · rename_i h
    unfold vwB at h
    simp only [Bool.and_eq_true] at h
    obtain ⟨_, h1, h8, _⟩ := gvB_fit h.1
    simp; omega
  · simp

set_option maxHeartbeats 800000 in
theorem dist_spec (nn : Int) (A : Option Addr) (ls : List Lk) (c : Nat) (s : Int) (w : World) (hm : ls.length ≤ 2000000) (hnu : nn ≤ 9223372036854775807) (hS : Sl w w.heap.size A ls) :
   Calls Try.prog 22 #[gval nn A ls.length c, .int .i64 s] w (NewI (distL nn ls s) w) := by
  have HS := Lib.hid hS
  have HK := Lib.hid (Box.new w 30 #[.int .i64 nn, .slice A ls.length c])
  clear hS
  cases hv : gvB nn ls with
  | true =>
    obtain ⟨hf, hn1, hn8, hl14⟩ := gvB_fit hv
    have C1 : ∀ V : World, Sl V V.heap.size A ls → Calls Try.prog 37 #[gval nn A ls.length c] V fun e w' => e = .returned (.bool true) ∧ Below V.heap.size V w' := fun V hV => by
      have := valid_spec_any nn A ls c V hm hnu hV
      rwa [hv] at this
    obtain ⟨n, rfl⟩ : ∃ n : Nat, nn = (n : Int) := ⟨nn.toNat, by omega⟩
    cases hx : inB s 0 ((n : Int) - 1) with
    | true =>
      have hvw : vwB (n : Int) ls [s] = true := by unfold vwB; simp [hv, hx]
      rw [distL_fl hvw]
      have C2 : ∀ V : World, Calls Try.prog 38 #[gval (n : Int) A ls.length c, .int .i64 s] V fun e w' => e = .returned (.bool true) ∧ Below V.heap.size V w' := fun V => by
        have := l1Node_vis (n : Int) A ls.length c s V hn1 hn8
        rwa [hx] at this
      have hs : 0 ≤ s ∧ s < (n : Int) := by unfold inB at hx; simp at hx; omega
      have HF := Lib.hid hf
      have HSS := Lib.hid hs
      clear hv hx hvw hf hs
      go_enter Try.func22, Try.ntmps22
      go_wp2_with (first
        | (go_at_call 37; refine (C1 _ ((HS.out.below (by (repeat (first | exact Below.refl _ _ | (refine Below.alloc ?_ (by first | exact Nat.le_refl _ | omega | (simp; done) | (simp; omega)) _) | (refine Below.setCell ?_ (by first | exact Nat.le_refl _ | omega | (simp; done) | (simp; omega)) _) | exact Below.drew ‹_›)))).more (by simp))).mono ?_; clear C1; rintro e w1 ⟨rfl, hb1⟩; have K1 := HK.out.below hb1 (by simp); have B1 := Lib.hid (Below.trans (B := w.heap.size) (a := w) (by (repeat (first | exact Below.refl _ _ | (refine Below.alloc ?_ (by first | exact Nat.le_refl _ | omega | (simp; done) | (simp; omega)) _) | (refine Below.setCell ?_ (by first | exact Nat.le_refl _ | omega | (simp; done) | (simp; omega)) _) | exact Below.drew ‹_›))) (hb1.mono (by simp))); clear hb1; have e10 := K1.cell 0; have e11 := K1.cell 1; have z1 := K1.lt)
        | (go_at_call 38; refine (C2 _).mono ?_; clear C2; rintro e w2 ⟨rfl, hb2⟩; have K2 := K1.below hb2 K1.lt; have B2 := Lib.hid (B1.out.trans (hb2.mono (Nat.le_of_lt z1))); clear hb2 K1 e10 e11; have e20 := K2.cell 0; have e21 := K2.cell 1; have z2 := K2.lt)
        | (go_at_call 39; refine (l2d_any n A ls c s _ (by omega) (by omega) hl14 HF.out HSS.out ((HS.out.below B2.out).more (Nat.le_of_lt z2))).mono ?_; rintro e w3 ⟨A3, g3, c3, rfl, hg3, ho3, hb3⟩; have O3 := Lib.hid ho3; have B3 := Lib.hid (B2.out.trans (hb3.mono (Nat.le_of_lt z2))); clear ho3 hb3))
      go_ret
      exact ⟨A3, g3, c3, rfl, by omega, O3.out, B3.out⟩
    | false =>
      have hvw : vwB (n : Int) ls [s] = false := by unfold vwB; simp [hx]
      have e : distL (n : Int) ls s = [] := by unfold distL; rw [hvw]; rfl
      rw [e]
      have C2 : ∀ V : World, Calls Try.prog 38 #[gval (n : Int) A ls.length c, .int .i64 s] V fun e w' => e = .returned (.bool false) ∧ Below V.heap.size V w' := fun V => by
        have := l1Node_vis (n : Int) A ls.length c s V hn1 hn8
        rwa [hx] at this
      clear hv hx hvw hf e
      go_enter Try.func22, Try.ntmps22
      go_wp2_with (first
        | (go_at_call 37; refine (C1 _ ((HS.out.below (by (repeat (first | exact Below.refl _ _ | (refine Below.alloc ?_ (by first | exact Nat.le_refl _ | omega | (simp; done) | (simp; omega)) _) | (refine Below.setCell ?_ (by first | exact Nat.le_refl _ | omega | (simp; done) | (simp; omega)) _) | exact Below.drew ‹_›)))).more (by simp))).mono ?_; clear C1; rintro e w1 ⟨rfl, hb1⟩; have K1 := HK.out.below hb1 (by simp); have B1 := Lib.hid (Below.trans (B := w.heap.size) (a := w) (by (repeat (first | exact Below.refl _ _ | (refine Below.alloc ?_ (by first | exact Nat.le_refl _ | omega | (simp; done) | (simp; omega)) _) | (refine Below.setCell ?_ (by first | exact Nat.le_refl _ | omega | (simp; done) | (simp; omega)) _) | exact Below.drew ‹_›))) (hb1.mono (by simp))); clear hb1; have e10 := K1.cell 0; have e11 := K1.cell 1; have z1 := K1.lt)
        | (go_at_call 38; refine (C2 _).mono ?_; clear C2; rintro e w2 ⟨rfl, hb2⟩; have K2 := K1.below hb2 K1.lt; have B2 := Lib.hid (B1.out.trans (hb2.mono (Nat.le_of_lt z1))); clear hb2 K1 e10 e11; have z2 := K2.lt))
      go_ret
      exact ⟨_, w2.heap.size, _, rfl, by omega, fun h => absurd h (by simp), Below.trans B2.out (by (repeat (first | exact Below.refl _ _ | (refine Below.alloc ?_ (by first | exact Nat.le_refl _ | omega | (simp; done) | (simp; omega)) _) | (refine Below.setCell ?_ (by first | exact Nat.le_refl _ | omega | (simp; done) | (simp; omega)) _) | exact Below.drew ‹_›)))⟩
  | false =>
    have hvw : vwB nn ls [s] = false := by unfold vwB; simp [hv]
    have e : distL nn ls s = [] := by unfold distL; rw [hvw]; rfl
    rw [e]
    have C1 : ∀ V : World, Sl V V.heap.size A ls → Calls Try.prog 37 #[gval nn A ls.length c] V fun e w' => e = .returned (.bool false) ∧ Below V.heap.size V w' := fun V hV => by
      have := valid_spec_any nn A ls c V hm hnu hV
      rwa [hv] at this
    clear hv hvw e
    go_enter Try.func22, Try.ntmps22
    go_wp2_with (go_at_call 37; refine (C1 _ ((HS.out.below (by (repeat (first | exact Below.refl _ _ | (refine Below.alloc ?_ (by first | exact Nat.le_refl _ | omega | (simp; done) | (simp; omega)) _) | (refine Below.setCell ?_ (by first | exact Nat.le_refl _ | omega | (simp; done) | (simp; omega)) _) | exact Below.drew ‹_›)))).more (by simp))).mono ?_; rintro e w1 ⟨rfl, hb1⟩; have K1 := HK.out.below hb1 (by simp); have z1 := K1.lt; have B1 := Lib.hid (Below.trans (B := w.heap.size) (a := w) (by (repeat (first | exact Below.refl _ _ | (refine Below.alloc ?_ (by first | exact Nat.le_refl _ | omega | (simp; done) | (simp; omega)) _) | (refine Below.setCell ?_ (by first | exact Nat.le_refl _ | omega | (simp; done) | (simp; omega)) _) | exact Below.drew ‹_›))) (hb1.mono (by simp))); clear hb1)
    go_ret
    exact ⟨_, w1.heap.size, _, rfl, by omega, fun h => absurd h (by simp), Below.trans B1.out (by (repeat (first | exact Below.refl _ _ | (refine Below.alloc ?_ (by first | exact Nat.le_refl _ | omega | (simp; done) | (simp; omega)) _) | (refine Below.setCell ?_ (by first | exact Nat.le_refl _ | omega | (simp; done) | (simp; omega)) _) | exact Below.drew ‹_›)))⟩
end Go.Proofs.Ytigamnnboojiiaa
