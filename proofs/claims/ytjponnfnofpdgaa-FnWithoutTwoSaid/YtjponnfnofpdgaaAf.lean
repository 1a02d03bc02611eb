/-
  Contracts over this seat: DistancesAfter and Affected, of the program.
-/
import Derived.Test.YtjponnfnofpdgaaAp
import Derived.Test.YtjponnfnofpdgaaHos
import Derived.Test.YtjponnfnofpdgaaB7
namespace Go.Proofs.Ytjponnfnofpdgaa
open Go.RowKit Go.Maps

set_option maxHeartbeats 800000 in
/-- As cost_impl, also of a graph without links, wherever its slice lies. -/
theorem cost_implA (n : Int) (A : Option Addr) (ls : List Lk) (c : Nat) (x cost : Int) (w : World) (hm : ls.length ≤ 2000000) (hA : 0 < ls.length → ∃ g, A = some ⟨g, 0, none⟩) (h : Sl w w.heap.size A ls) :
   Calls Try.prog 34 #[gval n A ls.length c, .int .i64 x, .int .i64 cost] w
     (if costOk n ls x cost = true then GRes n (costLs ls x.toNat cost) true w else GRes 0 [] false w) := by
  by_cases hok : costOk n ls x cost = true
  · obtain ⟨g, rfl⟩ := hA (by have := (costOk_inv hok).2.1; omega)
    exact cost_impl n g ls c x cost w hm h
  · have hno := hok
    have H := Lib.hid h
    clear h
    rw [if_neg hok]
    unfold costOk at hok
    cases hv : gvB n ls with
    | false =>
      clear hok
      have C1 : ∀ W : World, Sl W W.heap.size A ls → Calls Try.prog 32 #[gval n A ls.length c] W fun e w' => e = .returned (.bool false) ∧ Below W.heap.size W w' := fun W hW => by
        have := valid_impl n _ ls c W hm hW
        rwa [hv] at this
      go_enter Try.func34, Try.ntmps34
      go_wp2_with (first
        | (go_at_call 32; refine (C1 _ ((H.out.below (by (repeat (first | exact Below.refl _ _ | (refine Below.alloc ?_ (by first | exact Nat.le_refl _ | omega | (simp; done) | (simp; omega)) _) | (refine Below.setCell ?_ (by first | exact Nat.le_refl _ | omega | (simp; done) | (simp; omega)) _) | exact Below.drew ‹_›)))).more (by simp; omega))).mono ?_; rintro e w1 ⟨rfl, hb1⟩; have K1 := Box.below ((Box.new w 30 #[.int .i64 n, .slice A ls.length c]).alloc (.cells #[.int .i64 0, .slice none 0 0] 30)) hb1 (by simp; omega); have L1 := Box.below (Box.new (w.alloc (.cells #[.int .i64 n, .slice A ls.length c] 30)) 30 #[.int .i64 0, .slice none 0 0]) hb1 (by simp); have B1 := Lib.hid (Below.trans (B := w.heap.size) (a := w) (by (repeat (first | exact Below.refl _ _ | (refine Below.alloc ?_ (by first | exact Nat.le_refl _ | omega | (simp; done) | (simp; omega)) _) | (refine Below.setCell ?_ (by first | exact Nat.le_refl _ | omega | (simp; done) | (simp; omega)) _) | exact Below.drew ‹_›))) (hb1.mono (by simp; omega))); clear hb1; obtain ⟨z10, e10, e11, _, _⟩ := K1.two; obtain ⟨z11, f10, f11, q10, q11⟩ := L1.two; simp only [World.size_alloc] at f10 f11 q10 q11)
        | fail)
      refine bodyPost_ret (v := .tuple #[gval 0 none 0 0, .bool false]) (by simp [results, Try.results34, go_sem, f10, f11]) rfl ⟨none, w.heap.size, 0, rfl, Nat.le_refl _, fun h => absurd h (by simp), ?_⟩
      exact (B1.out.setCell (by simp) _).setCell (by simp) _
    | true =>
      rw [hv] at hok
      cases hx : inB x 0 ((ls.length : Int) - 1) with
      | false =>
        clear hok
        have C1 : ∀ W : World, Sl W W.heap.size A ls → Calls Try.prog 32 #[gval n A ls.length c] W fun e w' => e = .returned (.bool true) ∧ Below W.heap.size W w' := fun W hW => by
          have := valid_impl n _ ls c W hm hW
          rwa [hv] at this
        have C2 : ∀ W : World, Calls Try.prog 46 #[gval n A ls.length c, .int .i64 x] W fun e w' => e = .returned (.bool false) ∧ Below W.heap.size W w' := fun W => by
          have := hasLink_any n A ls.length c x W hm
          rwa [hx] at this
        go_enter Try.func34, Try.ntmps34
        go_wp2_with (first
          | (go_at_call 32; refine (C1 _ ((H.out.below (by (repeat (first | exact Below.refl _ _ | (refine Below.alloc ?_ (by first | exact Nat.le_refl _ | omega | (simp; done) | (simp; omega)) _) | (refine Below.setCell ?_ (by first | exact Nat.le_refl _ | omega | (simp; done) | (simp; omega)) _) | exact Below.drew ‹_›)))).more (by simp; omega))).mono ?_; rintro e w1 ⟨rfl, hb1⟩; have K1 := Box.below ((Box.new w 30 #[.int .i64 n, .slice A ls.length c]).alloc (.cells #[.int .i64 0, .slice none 0 0] 30)) hb1 (by simp; omega); have L1 := Box.below (Box.new (w.alloc (.cells #[.int .i64 n, .slice A ls.length c] 30)) 30 #[.int .i64 0, .slice none 0 0]) hb1 (by simp); have B1 := Lib.hid (Below.trans (B := w.heap.size) (a := w) (by (repeat (first | exact Below.refl _ _ | (refine Below.alloc ?_ (by first | exact Nat.le_refl _ | omega | (simp; done) | (simp; omega)) _) | (refine Below.setCell ?_ (by first | exact Nat.le_refl _ | omega | (simp; done) | (simp; omega)) _) | exact Below.drew ‹_›))) (hb1.mono (by simp; omega))); clear hb1; obtain ⟨z10, e10, e11, _, _⟩ := K1.two; obtain ⟨z11, f10, f11, q10, q11⟩ := L1.two; simp only [World.size_alloc] at f10 f11 q10 q11)
          | (go_at_call 46; refine (C2 _).mono ?_; rintro e w2 ⟨rfl, hb2⟩; have K2 := K1.below hb2 K1.lt; have L2 := L1.below hb2 L1.lt; have B2 := Lib.hid (B1.out.trans (hb2.mono (by omega))); clear hb2 e10 e11 f10 f11 q10 q11; obtain ⟨z20, e20, e21, _, _⟩ := K2.two; obtain ⟨z21, f20, f21, q20, q21⟩ := L2.two; simp only [World.size_alloc] at f20 f21 q20 q21)
          | fail)
        refine bodyPost_ret (v := .tuple #[gval 0 none 0 0, .bool false]) (by simp [results, Try.results34, go_sem, f20, f21]) rfl ⟨none, w.heap.size, 0, rfl, Nat.le_refl _, fun h => absurd h (by simp), ?_⟩
        exact (B2.out.setCell (by simp) _).setCell (by simp) _
      | true =>
        rw [hx] at hok
        have hc : inB cost 1 20 = false := by simpa using hok
        clear hok
        have C1 : ∀ W : World, Sl W W.heap.size A ls → Calls Try.prog 32 #[gval n A ls.length c] W fun e w' => e = .returned (.bool true) ∧ Below W.heap.size W w' := fun W hW => by
          have := valid_impl n _ ls c W hm hW
          rwa [hv] at this
        have C2 : ∀ W : World, Calls Try.prog 46 #[gval n A ls.length c, .int .i64 x] W fun e w' => e = .returned (.bool true) ∧ Below W.heap.size W w' := fun W => by
          have := hasLink_any n A ls.length c x W hm
          rwa [hx] at this
        have C3 : ∀ W : World, Calls Try.prog 57 #[.int .i64 cost] W fun e w' => e = .returned (.bool false) ∧ W = w' := fun W => by
          have := costValid_any cost W
          rwa [hc] at this
        go_enter Try.func34, Try.ntmps34
        go_wp2_with (first
          | (go_at_call 32; refine (C1 _ ((H.out.below (by (repeat (first | exact Below.refl _ _ | (refine Below.alloc ?_ (by first | exact Nat.le_refl _ | omega | (simp; done) | (simp; omega)) _) | (refine Below.setCell ?_ (by first | exact Nat.le_refl _ | omega | (simp; done) | (simp; omega)) _) | exact Below.drew ‹_›)))).more (by simp; omega))).mono ?_; rintro e w1 ⟨rfl, hb1⟩; have K1 := Box.below ((Box.new w 30 #[.int .i64 n, .slice A ls.length c]).alloc (.cells #[.int .i64 0, .slice none 0 0] 30)) hb1 (by simp; omega); have L1 := Box.below (Box.new (w.alloc (.cells #[.int .i64 n, .slice A ls.length c] 30)) 30 #[.int .i64 0, .slice none 0 0]) hb1 (by simp); have B1 := Lib.hid (Below.trans (B := w.heap.size) (a := w) (by (repeat (first | exact Below.refl _ _ | (refine Below.alloc ?_ (by first | exact Nat.le_refl _ | omega | (simp; done) | (simp; omega)) _) | (refine Below.setCell ?_ (by first | exact Nat.le_refl _ | omega | (simp; done) | (simp; omega)) _) | exact Below.drew ‹_›))) (hb1.mono (by simp; omega))); clear hb1; obtain ⟨z10, e10, e11, _, _⟩ := K1.two; obtain ⟨z11, f10, f11, q10, q11⟩ := L1.two; simp only [World.size_alloc] at f10 f11 q10 q11)
          | (go_at_call 46; refine (C2 _).mono ?_; rintro e w2 ⟨rfl, hb2⟩; have K2 := K1.below hb2 K1.lt; have L2 := L1.below hb2 L1.lt; have B2 := Lib.hid (B1.out.trans (hb2.mono (by omega))); clear hb2 e10 e11 f10 f11 q10 q11; obtain ⟨z20, e20, e21, _, _⟩ := K2.two; obtain ⟨z21, f20, f21, q20, q21⟩ := L2.two; simp only [World.size_alloc] at f20 f21 q20 q21)
          | (go_at_call 57; refine (C3 _).mono ?_; rintro e w3 ⟨rfl, rfl⟩)
          | fail)
        refine bodyPost_ret (v := .tuple #[gval 0 none 0 0, .bool false]) (by simp [results, Try.results34, go_sem, f20, f21]) rfl ⟨none, w.heap.size, 0, rfl, Nat.le_refl _, fun h => absurd h (by simp), ?_⟩
        exact (B2.out.setCell (by simp) _).setCell (by simp) _

abbrev cgv (n : Int) (A : Option Addr) (len c : Nat) (x cost : Int) : Value := .agg #[.int .i64 n, .slice A len c, .int .i64 x, .int .i64 cost]


/-- A list that grows, beside two rows of numbers. -/
def AL2 (w : World) (gv : Array Value) (g3 : Nat) (A3 : Option Addr) (xs : List Int) (g4 : Nat) (A4 : Option Addr) (ys : List Int) (v : Value) (out : List Int) (W : World) : Prop :=
  AL w gv g3 A3 xs v out W ∧ AL w gv g4 A4 ys v out W
theorem AL.other {w : World} {gv : Array Value} {g3 g5 : Nat} {A3 A5 : Option Addr} {xs ys : List Int} {v : Value} {out : List Int} {W W' : World} (h : AL w gv g3 A3 xs v out W) (hb : Below W.heap.size W W') (hg : W.heap.size ≤ g5) (ho : Own1i W' A5 g5 ys) : AL w gv g5 A5 ys v out W' :=
  ⟨(h.call hb).row, fun g e => by have := (h.row.lt g e).2; omega, ho, (h.call hb).bel, (h.call hb).box, fun hp => (ho hp).2.lt⟩



end Go.Proofs.Ytjponnfnofpdgaa
