/-
  Contracts over this seat: the specification's NextHops.
-/
import Derived.Test.YtddgeohgancnbaaUf
import Derived.Test.YtddgeohgancnbaaB6
namespace Go.Proofs.Ytddgeohgancnbaa
open Go.RowKit Go.Maps

set_option maxHeartbeats 800000 in
theorem l2two_any (nn : Int) (A : Option Addr) (ls : List Lk) (c : Nat) (s t : Int) (w : World) (hm : ls.length ≤ 2000000) (hnu : nn ≤ 9223372036854775807) (hS : Sl w w.heap.size A ls) :
   Calls Try.prog 38 #[gval nn A ls.length c, .int .i64 s, .int .i64 t] w fun e w' => e = .returned (.bool (vwB nn ls [s, t])) ∧ Below w.heap.size w w' := by
  have HS := Lib.hid hS
  have HK := Lib.hid (Box.new w 25 #[.int .i64 nn, .slice A ls.length c])
  clear hS
  cases hv : gvB nn ls with
  | false =>
    have hvw : vwB nn ls [s, t] = false := by unfold vwB; simp [hv]
    rw [hvw]
    have C1 : ∀ V : World, Sl V V.heap.size A ls → Calls Try.prog 18 #[gval nn A ls.length c] V fun e w' => e = .returned (.bool false) ∧ Below V.heap.size V w' := fun V hV => by
      have := valid_spec_any nn A ls c V hm hnu hV
      rwa [hv] at this
    clear hv hvw
    go_enter Try.func38, Try.ntmps38
    go_wp2_with (go_at_call 18; refine (C1 _ ((HS.out.below (by (repeat (first | exact Below.refl _ _ | (refine Below.alloc ?_ (by first | exact Nat.le_refl _ | omega | (simp; done) | (simp; omega)) _) | (refine Below.setCell ?_ (by first | exact Nat.le_refl _ | omega | (simp; done) | (simp; omega)) _) | exact Below.drew ‹_›)))).more (by simp))).mono ?_; clear C1; rintro e w1 ⟨rfl, hb1⟩; have B1 := Lib.hid (Below.trans (B := w.heap.size) (a := w) (by (repeat (first | exact Below.refl _ _ | (refine Below.alloc ?_ (by first | exact Nat.le_refl _ | omega | (simp; done) | (simp; omega)) _) | (refine Below.setCell ?_ (by first | exact Nat.le_refl _ | omega | (simp; done) | (simp; omega)) _) | exact Below.drew ‹_›))) (hb1.mono (by simp))); clear hb1)
    go_ret
    exact ⟨rfl, B1.out⟩
  | true =>
    obtain ⟨hf, hn1, hn8, hl14⟩ := gvB_fit hv
    have C1 : ∀ V : World, Sl V V.heap.size A ls → Calls Try.prog 18 #[gval nn A ls.length c] V fun e w' => e = .returned (.bool true) ∧ Below V.heap.size V w' := fun V hV => by
      have := valid_spec_any nn A ls c V hm hnu hV
      rwa [hv] at this
    have C2 : ∀ V : World, Calls Try.prog 22 #[gval nn A ls.length c, .int .i64 s] V fun e w' => e = .returned (.bool (inB s 0 (nn - 1))) ∧ Below V.heap.size V w' := fun V => l1Node_vis nn A ls.length c s V hn1 hn8
    have C3 : ∀ V : World, Calls Try.prog 22 #[gval nn A ls.length c, .int .i64 t] V fun e w' => e = .returned (.bool (inB t 0 (nn - 1))) ∧ Below V.heap.size V w' := fun V => l1Node_vis nn A ls.length c t V hn1 hn8
    have hvw : vwB nn ls [s, t] = (inB s 0 (nn - 1) && inB t 0 (nn - 1)) := by unfold vwB; simp [hv]
    rw [hvw]
    generalize inB s 0 (nn - 1) = bs at *
    generalize inB t 0 (nn - 1) = bt at *
    clear hv hvw hf
    cases bs with
    | false =>
      go_enter Try.func38, Try.ntmps38
      go_wp2_with (first
        | (go_at_call 18; refine (C1 _ ((HS.out.below (by (repeat (first | exact Below.refl _ _ | (refine Below.alloc ?_ (by first | exact Nat.le_refl _ | omega | (simp; done) | (simp; omega)) _) | (refine Below.setCell ?_ (by first | exact Nat.le_refl _ | omega | (simp; done) | (simp; omega)) _) | exact Below.drew ‹_›)))).more (by simp))).mono ?_; clear C1; rintro e w1 ⟨rfl, hb1⟩; have K1 := Lib.hid (HK.out.below hb1 (by simp)); have e10 := K1.out.cell 0; have e11 := K1.out.cell 1; have z1 := K1.out.lt; have B1 := Lib.hid (Below.trans (B := w.heap.size) (a := w) (by (repeat (first | exact Below.refl _ _ | (refine Below.alloc ?_ (by first | exact Nat.le_refl _ | omega | (simp; done) | (simp; omega)) _) | (refine Below.setCell ?_ (by first | exact Nat.le_refl _ | omega | (simp; done) | (simp; omega)) _) | exact Below.drew ‹_›))) (hb1.mono (by simp))); clear hb1)
        | (go_at_call 22; refine (C2 _).mono ?_; clear C2; rintro e w2 ⟨rfl, hb2⟩; have B2 := Lib.hid (B1.out.trans (hb2.mono (Nat.le_of_lt z1))); clear hb2))
      go_ret
      exact ⟨rfl, B2.out⟩
    | true =>
      go_enter Try.func38, Try.ntmps38
      go_wp2_with fail
      refine (C1 _ ((HS.out.below (by (repeat (first | exact Below.refl _ _ | (refine Below.alloc ?_ (by first | exact Nat.le_refl _ | omega | (simp; done) | (simp; omega)) _) | (refine Below.setCell ?_ (by first | exact Nat.le_refl _ | omega | (simp; done) | (simp; omega)) _) | exact Below.drew ‹_›)))).more (by simp))).mono ?_
      rintro e w1 ⟨rfl, hb1⟩
      have K1 := Lib.hid (HK.out.below hb1 (by simp))
      have e10 := K1.out.cell 0
      have e11 := K1.out.cell 1
      have z1 := K1.out.lt
      have B1 := Lib.hid (Below.trans (B := w.heap.size) (a := w) (by (repeat (first | exact Below.refl _ _ | (refine Below.alloc ?_ (by first | exact Nat.le_refl _ | omega | (simp; done) | (simp; omega)) _) | (refine Below.setCell ?_ (by first | exact Nat.le_refl _ | omega | (simp; done) | (simp; omega)) _) | exact Below.drew ‹_›))) (hb1.mono (by simp)))
      clear hb1
      go_wp2_with fail
      refine (C2 _).mono ?_
      rintro e w2 ⟨rfl, hb2⟩
      have K2 := Lib.hid (K1.out.below hb2 z1)
      have B2 := Lib.hid (B1.out.trans (hb2.mono (Nat.le_of_lt z1)))
      clear hb2 e10 e11
      have e20 := K2.out.cell 0
      have e21 := K2.out.cell 1
      have z2 := K2.out.lt
      go_wp2_with fail
      refine (C3 _).mono ?_
      rintro e w3 ⟨rfl, hb3⟩
      have B3 := Lib.hid (B2.out.trans (hb3.mono (Nat.le_of_lt z2)))
      go_wp2_with fail
      go_ret
      exact ⟨by simp, B3.out⟩

theorem AL.call {w : World} {gv : Array Value} {g3 : Nat} {A3 : Option Addr} {xs : List Int} {v : Value} {out : List Int} {W W' : World} (h : AL w gv g3 A3 xs v out W) (hb : Below W.heap.size W W') : AL w gv g3 A3 xs v out W' :=
  ⟨owns_kept h.row hb, h.far, h.own.below hb, h.bel.trans (hb.mono h.bel.size), h.box.below hb h.box.lt, fun hp => Nat.lt_of_lt_of_le (h.lt3 hp) hb.size⟩
theorem AL.drew {w : World} {gv : Array Value} {g3 : Nat} {A3 : Option Addr} {xs : List Int} {v : Value} {out : List Int} {W : World} (h : AL w gv g3 A3 xs v out W) : AL w gv g3 A3 xs v out W.drew :=
  ⟨h.row, h.far, h.own, h.bel.drew, h.box, h.lt3⟩



end Go.Proofs.Ytddgeohgancnbaa
