/-
  Contracts over this seat: DistancesAfter and Affected, of the program.
-/
import Derived.Test.YtkdcialdjnedeaaAp
import Derived.Test.YtkdcialdjnedeaaHos
import Derived.Test.YtkdcialdjnedeaaB7
namespace Go.Proofs.Ytkdcialdjnedeaa
open Go.RowKit Go.Maps

set_option maxHeartbeats 800000 in
/-- As cost_impl, also of a graph without links, wherever its slice lies. -/
theorem cost_implA (n : Int) (A : Option Addr) (ls : List Lk) (c : Nat) (x cost : Int) (w : World) (hm : ls.length ≤ 2000000) (hA : 0 < ls.length → ∃ g, A = some ⟨g, 0, none⟩) (h : Sl w w.heap.size A ls) :
   Calls Try.prog 25 #[gval n A ls.length c, .int .i64 x, .int .i64 cost] w
     (if costOk n ls x cost = true then GRes n (costLs ls x.toNat cost) true w else GRes 0 [] false w) := by
  by_cases hok : costOk n ls x cost = true
  · obtain ⟨g, rfl⟩ := hA (by have := (costOk_inv hok).2.1; omega)
    exact cost_impl n g ls c x cost w hm h
  · have hno := hok
    have H := Lib.hid h
    clear h
    rw [if_neg hok]
    unfold costOk at hok
    cases hv : gvB n ls with
    | false =>
      clear hok
      have C1 : ∀ W : World, Sl W W.heap.size A ls → Calls Try.prog 46 #[gval n A ls.length c] W fun e w' => e = .returned (.bool false) ∧ Below W.heap.size W w' := fun W hW => by
        have := valid_impl n _ ls c W hm hW
        rwa [hv] at this
      go_enter Try.func25, Try.ntmps25
      go_wp2_with (first
        | (go_at_call 46; refine (C1 _ ((H.out.below (by (repeat (first | exact Below.refl _ _ | (refine Below.alloc ?_ (by first | exact Nat.le_refl _ | omega | (simp; done) | (simp; omega)) _) | (refine Below.setCell ?_ (by first | exact Nat.le_refl _ | omega | (simp; done) | (simp; omega)) _) | exact Below.drew ‹_›)))).more (by simp; omega))).mono ?_; rintro e w1 ⟨rfl, hb1⟩; have K1 := Box.below ((Box.new w 30 #[.int .i64 n, .slice A ls.length c]).alloc (.cells #[.int .i64 0, .slice none 0 0] 30)) hb1 (by simp; omega); have L1 := Box.below (Box.new (w.alloc (.cells #[.int .i64 n, .slice A ls.length c] 30)) 30 #[.int .i64 0, .slice none 0 0]) hb1 (by simp); have B1 := Lib.hid (Below.trans (B := w.heap.size) (a := w) (by (repeat (first | exact Below.refl _ _ | (refine Below.alloc ?_ (by first | exact Nat.le_refl _ | omega | (simp; done) | (simp; omega)) _) | (refine Below.setCell ?_ (by first | exact Nat.le_refl _ | omega | (simp; done) | (simp; omega)) _) | exact Below.drew ‹_›))) (hb1.mono (by simp; omega))); clear hb1; obtain ⟨z10, e10, e11, _, _⟩ := K1.two; obtain ⟨z11, f10, f11, q10, q11⟩ := L1.two; simp only [World.size_alloc] at f10 f11 q10 q11)
        | fail)
      refine bodyPost_ret (v := .tuple #[gval 0 none 0 0, .bool false]) (by simp [results, Try.results25, go_sem, f10, f11]) rfl ⟨none, w.heap.size, 0, rfl, Nat.le_refl _, fun h => absurd h (by simp), ?_⟩
      exact (B1.out.setCell (by simp) _).setCell (by simp) _
    | true =>
      rw [hv] at hok
      cases hx : inB x 0 ((ls.length : Int) - 1) with
      | false =>
        clear hok
        have C1 : ∀ W : World, Sl W W.heap.size A ls → Calls Try.prog 46 #[gval n A ls.length c] W fun e w' => e = .returned (.bool true) ∧ Below W.heap.size W w' := fun W hW => by
          have := valid_impl n _ ls c W hm hW
          rwa [hv] at this
        have C2 : ∀ W : World, Calls Try.prog 47 #[gval n A ls.length c, .int .i64 x] W fun e w' => e = .returned (.bool false) ∧ Below W.heap.size W w' := fun W => by
          have := hasLink_any n A ls.length c x W hm
          rwa [hx] at this
        go_enter Try.func25, Try.ntmps25
        go_wp2_with (first
          | (go_at_call 46; refine (C1 _ ((H.out.below (by (repeat (first | exact Below.refl _ _ | (refine Below.alloc ?_ (by first | exact Nat.le_refl _ | omega | (simp; done) | (simp; omega)) _) | (refine Below.setCell ?_ (by first | exact Nat.le_refl _ | omega | (simp; done) | (simp; omega)) _) | exact Below.drew ‹_›)))).more (by simp; omega))).mono ?_; rintro e w1 ⟨rfl, hb1⟩; have K1 := Box.below ((Box.new w 30 #[.int .i64 n, .slice A ls.length c]).alloc (.cells #[.int .i64 0, .slice none 0 0] 30)) hb1 (by simp; omega); have L1 := Box.below (Box.new (w.alloc (.cells #[.int .i64 n, .slice A ls.length c] 30)) 30 #[.int .i64 0, .slice none 0 0]) hb1 (by simp); have B1 := Lib.hid (Below.trans (B := w.heap.size) (a := w) (by (repeat (first | exact Below.refl _ _ | (refine Below.alloc ?_ (by first | exact Nat.le_refl _ | omega | (simp; done) | (simp; omega)) _) | (refine Below.setCell ?_ (by first | exact Nat.le_refl _ | omega | (simp; done) | (simp; omega)) _) | exact Below.drew ‹_›))) (hb1.mono (by simp; omega))); clear hb1; obtain ⟨z10, e10, e11, _, _⟩ := K1.two; obtain ⟨z11, f10, f11, q10, q11⟩ := L1.two; simp only [World.size_alloc] at f10 f11 q10 q11)
          | (go_at_call 47; refine (C2 _).mono ?_; rintro e w2 ⟨rfl, hb2⟩; have K2 := K1.below hb2 K1.lt; have L2 := L1.below hb2 L1.lt; have B2 := Lib.hid (B1.out.trans (hb2.mono (by omega))); clear hb2 e10 e11 f10 f11 q10 q11; obtain ⟨z20, e20, e21, _, _⟩ := K2.two; obtain ⟨z21, f20, f21, q20, q21⟩ := L2.two; simp only [World.size_alloc] at f20 f21 q20 q21)
          | fail)
        refine bodyPost_ret (v := .tuple #[gval 0 none 0 0, .bool false]) (by simp [results, Try.results25, go_sem, f20, f21]) rfl ⟨none, w.heap.size, 0, rfl, Nat.le_refl _, fun h => absurd h (by simp), ?_⟩
        exact (B2.out.setCell (by simp) _).setCell (by simp) _
      | true =>
        rw [hx] at hok
        have hc : inB cost 1 20 = false := by simpa using hok
        clear hok
        have C1 : ∀ W : World, Sl W W.heap.size A ls → Calls Try.prog 46 #[gval n A ls.length c] W fun e w' => e = .returned (.bool true) ∧ Below W.heap.size W w' := fun W hW => by
          have := valid_impl n _ ls c W hm hW
          rwa [hv] at this
        have C2 : ∀ W : World, Calls Try.prog 47 #[gval n A ls.length c, .int .i64 x] W fun e w' => e = .returned (.bool true) ∧ Below W.heap.size W w' := fun W => by
          have := hasLink_any n A ls.length c x W hm
          rwa [hx] at this
        have C3 : ∀ W : World, Calls Try.prog 48 #[.int .i64 cost] W fun e w' => e = .returned (.bool false) ∧ W = w' := fun W => by
          have := costValid_any cost W
          rwa [hc] at this
        go_enter Try.func25, Try.ntmps25
        go_wp2_with (first
          | (go_at_call 46; refine (C1 _ ((H.out.below (by (repeat (first | exact Below.refl _ _ | (refine Below.alloc ?_ (by first | exact Nat.le_refl _ | omega | (simp; done) | (simp; omega)) _) | (refine Below.setCell ?_ (by first | exact Nat.le_refl _ | omega | (simp; done) | (simp; omega)) _) | exact Below.drew ‹_›)))).more (by simp; omega))).mono ?_; rintro e w1 ⟨rfl, hb1⟩; have K1 := Box.below ((Box.new w 30 #[.int .i64 n, .slice A ls.length c]).alloc (.cells #[.int .i64 0, .slice none 0 0] 30)) hb1 (by simp; omega); have L1 := Box.below (Box.new (w.alloc (.cells #[.int .i64 n, .slice A ls.length c] 30)) 30 #[.int .i64 0, .slice none 0 0]) hb1 (by simp); have B1 := Lib.hid (Below.trans (B := w.heap.size) (a := w) (by (repeat (first | exact Below.refl _ _ | (refine Below.alloc ?_ (by first | exact Nat.le_refl _ | omega | (simp; done) | (simp; omega)) _) | (refine Below.setCell ?_ (by first | exact Nat.le_refl _ | omega | (simp; done) | (simp; omega)) _) | exact Below.drew ‹_›))) (hb1.mono (by simp; omega))); clear hb1; obtain ⟨z10, e10, e11, _, _⟩ := K1.two; obtain ⟨z11, f10, f11, q10, q11⟩ := L1.two; simp only [World.size_alloc] at f10 f11 q10 q11)
          | (go_at_call 47; refine (C2 _).mono ?_; rintro e w2 ⟨rfl, hb2⟩; have K2 := K1.below hb2 K1.lt; have L2 := L1.below hb2 L1.lt; have B2 := Lib.hid (B1.out.trans (hb2.mono (by omega))); clear hb2 e10 e11 f10 f11 q10 q11; obtain ⟨z20, e20, e21, _, _⟩ := K2.two; obtain ⟨z21, f20, f21, q20, q21⟩ := L2.two; simp only [World.size_alloc] at f20 f21 q20 q21)
          | (go_at_call 48; refine (C3 _).mono ?_; rintro e w3 ⟨rfl, rfl⟩)
          | fail)
        refine bodyPost_ret (v := .tuple #[gval 0 none 0 0, .bool false]) (by simp [results, Try.results25, go_sem, f20, f21]) rfl ⟨none, w.heap.size, 0, rfl, Nat.le_refl _, fun h => absurd h (by simp), ?_⟩
        exact (B2.out.setCell (by simp) _).setCell (by simp) _

abbrev cgv (n : Int) (A : Option Addr) (len c : Nat) (x cost : Int) : Value := .agg #[.int .i64 n, .slice A len c, .int .i64 x, .int .i64 cost]

set_option maxHeartbeats 800000 in
theorem after_any (n : Int) (A : Option Addr) (ls : List Lk) (c : Nat) (x cost : Int) (w : World) (hm : ls.length ≤ 2000000) (hA : 0 < ls.length → ∃ g, A = some ⟨g, 0, none⟩) (h : Sl w w.heap.size A ls) :
   Calls Try.prog 38 #[cgv n A ls.length c x cost] w
     (if costOk n ls x cost = true then NewG n (costLs ls x.toNat cost) w else NewG 0 [] w) := by
  have B0 : Below w.heap.size w ((w.alloc (.cells #[.int .i64 n, .slice A ls.length c, .int .i64 x, .int .i64 cost] 56)).alloc (.cells #[.int .i64 0, .slice none 0 0] 30)) := by (repeat (first | exact Below.refl _ _ | (refine Below.alloc ?_ (by first | exact Nat.le_refl _ | omega | (simp; done) | (simp; omega)) _) | (refine Below.setCell ?_ (by first | exact Nat.le_refl _ | omega | (simp; done) | (simp; omega)) _) | exact Below.drew ‹_›))
  have C1 := cost_implA n A ls c x cost _ hm hA ((h.below B0).more (by simp; omega))
  have HB0 := Lib.hid B0
  have HE := Lib.hid (Box.new (w.alloc (.cells #[.int .i64 n, .slice A ls.length c, .int .i64 x, .int .i64 cost] 56)) 30 #[.int .i64 0, .slice none 0 0])
  obtain ⟨m, rs, ok, hPQ, hCC⟩ : ∃ (m : Int) (rs : List Lk) (ok : Bool), (NewG m rs w = if costOk n ls x cost = true then NewG n (costLs ls x.toNat cost) w else NewG 0 [] w) ∧
      ∀ W : World, (if costOk n ls x cost = true then GRes n (costLs ls x.toNat cost) true W else GRes 0 [] false W) = GRes m rs ok W := by
    by_cases hok : costOk n ls x cost = true
    · exact ⟨n, costLs ls x.toNat cost, true, by rw [if_pos hok], fun W => by rw [if_pos hok]⟩
    · exact ⟨0, [], false, by rw [if_neg hok], fun W => by rw [if_neg hok]⟩
  rw [← hPQ]
  rw [hCC] at C1
  clear h B0 hPQ hCC
  go_enter Try.func38, Try.ntmps38
  go_wp2_with (go_at_call 25; refine C1.mono ?_; clear C1; rintro e w1 ⟨A1, g1, c1, rfl, hg1, ho1, hb1⟩; have E1 := HE.out.below hb1 HE.out.lt; have B1 := Lib.hid (HB0.out.trans (hb1.mono HB0.out.size)); have O1 := Lib.hid ho1; have hz1 := hb1.size; clear hb1 ho1; obtain ⟨z1, e10, e11, q10, q11⟩ := E1.two; simp only [World.size_alloc] at z1 e10 e11 q10 q11 hg1)
  have hE1 := E1.lt
  simp only [World.size_alloc] at hE1
  obtain ⟨b2, -, -⟩ := ret_two E1 (.int .i64 m) (.slice A1 rs.length c1)
  simp only [World.size_alloc] at b2
  have b3 := b2.alloc (.cells #[.int .i64 m, .slice A1 rs.length c1] 30)
  have r0 := b3.cell 0
  have r1 := b3.cell 1
  refine bodyPost_ret (v := gval m A1 rs.length c1) (by simp [results, Try.results38, go_sem, r0, r1]) rfl ⟨A1, g1, c1, rfl, by omega, ?_, ?_⟩
  · exact ((O1.out.set_far (p := ⟨w.heap.size + 1, 0, none⟩) (by dsimp only; omega) _).set_far (p := ⟨w.heap.size + 1, 1, none⟩) (by dsimp only; omega) _).alloc _
  · exact ((B1.out.setCell (p := ⟨w.heap.size + 1, 0, none⟩) (by dsimp only; omega) _).setCell (p := ⟨w.heap.size + 1, 1, none⟩) (by dsimp only; omega) _).alloc (by simp; omega) _

/-- A list that grows, beside two rows of numbers. -/
def AL2 (w : World) (gv : Array Value) (g3 : Nat) (A3 : Option Addr) (xs : List Int) (g4 : Nat) (A4 : Option Addr) (ys : List Int) (v : Value) (out : List Int) (W : World) : Prop :=
  AL w gv g3 A3 xs v out W ∧ AL w gv g4 A4 ys v out W
theorem AL.other {w : World} {gv : Array Value} {g3 g5 : Nat} {A3 A5 : Option Addr} {xs ys : List Int} {v : Value} {out : List Int} {W W' : World} (h : AL w gv g3 A3 xs v out W) (hb : Below W.heap.size W W') (hg : W.heap.size ≤ g5) (ho : Own1i W' A5 g5 ys) : AL w gv g5 A5 ys v out W' :=
  ⟨(h.call hb).row, fun g e => by have := (h.row.lt g e).2; omega, ho, (h.call hb).bel, (h.call hb).box, fun hp => (ho hp).2.lt⟩
theorem after_res (n : Int) (A : Option Addr) (ls : List Lk) (s x cost : Int) (hm : ls.length ≤ 2000000) (hA : 0 < ls.length → ∃ g, A = some ⟨g, 0, none⟩) :
    ∃ (m : Int) (rs : List Lk), rs.length ≤ 2000000 ∧ distL m rs s = aftL n ls s x cost ∧ ∀ (c : Nat) (w : World), Sl w w.heap.size A ls → Calls Try.prog 38 #[cgv n A ls.length c x cost] w (NewG m rs w) := by
  by_cases hok : costOk n ls x cost = true
  · refine ⟨n, costLs ls x.toNat cost, by rw [costLs_len]; exact hm, by unfold aftL; rw [if_pos hok], fun c w h => ?_⟩
    have := after_any n A ls c x cost w hm hA h
    rwa [if_pos hok] at this
  · refine ⟨0, [], by simp, by unfold aftL; rw [if_neg hok, distL_zero], fun c w h => ?_⟩
    have := after_any n A ls c x cost w hm hA h
    rwa [if_neg hok] at this

set_option maxHeartbeats 800000 in
theorem aft_impl (n : Int) (A : Option Addr) (ls : List Lk) (c : Nat) (s x cost : Int) (w : World) (hm : ls.length ≤ 2000000) (hA : 0 < ls.length → ∃ g, A = some ⟨g, 0, none⟩) (hS : Sl w w.heap.size A ls) :
   Calls Try.prog 15 #[gval n A ls.length c, .int .i64 s, .int .i64 x, .int .i64 cost] w (NewI (aftL n ls s x cost) w) := by
  obtain ⟨m, rs, hrm, hrs, CA⟩ := after_res n A ls s x cost hm hA
  have B0 : Below w.heap.size w ((w.alloc (.cells #[.int .i64 n, .slice A ls.length c] 30)).alloc (.cells #[.int .i64 n, .slice A ls.length c, .int .i64 x, .int .i64 cost] 56)) := by (repeat (first | exact Below.refl _ _ | (refine Below.alloc ?_ (by first | exact Nat.le_refl _ | omega | (simp; done) | (simp; omega)) _) | (refine Below.setCell ?_ (by first | exact Nat.le_refl _ | omega | (simp; done) | (simp; omega)) _) | exact Below.drew ‹_›))
  have C1 := CA c _ ((hS.below B0).more (by simp; omega))
  have HB0 := Lib.hid B0
  rw [← hrs]
  clear hS B0 CA hrs
  go_enter Try.func15, Try.ntmps15
  go_wp2_with fail
  refine C1.mono ?_
  clear C1
  rintro e w1 ⟨A1, g1, c1, rfl, hg1, ho1, hb1⟩
  have B1 := Lib.hid (HB0.out.trans (hb1.mono HB0.out.size))
  have C2 := dist_impl m A1 rs c1 s w1 hrm ho1.sl
  clear hb1 ho1
  go_wp2_with fail
  refine C2.mono ?_
  clear C2
  rintro e w2 ⟨A2, g2, c2, rfl, hg2, ho2, hb2⟩
  have O2 := Lib.hid ho2
  have B2 := Lib.hid (B1.out.trans (hb2.mono B1.out.size))
  have hz := B1.out.size
  clear hb2 ho2
  go_wp2_with fail
  go_ret
  exact ⟨A2, g2, c2, rfl, by omega, O2.out, B2.out⟩

set_option maxRecDepth 100000 in
set_option maxHeartbeats 1600000 in
theorem aff_impl (n : Int) (A : Option Addr) (ls : List Lk) (c : Nat) (s x cost : Int) (w : World) (hm : ls.length ≤ 2000000) (hA : 0 < ls.length → ∃ g, A = some ⟨g, 0, none⟩) (hS : Sl w w.heap.size A ls) :
   Calls Try.prog 22 #[gval n A ls.length c, .int .i64 s, .int .i64 x, .int .i64 cost] w (NewI (affL n ls s x cost) w) := by
  obtain ⟨i0, hi, hz0, hz1, hz2⟩ := info_parts infoInt
  obtain ⟨m, rs, hrm, hrs, CA⟩ := after_res n A ls s x cost hm hA
  have B0 : Below w.heap.size w ((w.alloc (.cells #[.int .i64 n, .slice A ls.length c] 30)).alloc (.cells #[] 3)) := by (repeat (first | exact Below.refl _ _ | (refine Below.alloc ?_ (by first | exact Nat.le_refl _ | omega | (simp; done) | (simp; omega)) _) | (refine Below.setCell ?_ (by first | exact Nat.le_refl _ | omega | (simp; done) | (simp; omega)) _) | exact Below.drew ‹_›))
  have G0 := (Box.new w 30 #[.int .i64 n, .slice A ls.length c]).alloc (.cells #[] 3)
  have E0 := Box.new (w.alloc (.cells #[.int .i64 n, .slice A ls.length c] 30)) 3 #[]
  rw [World.size_alloc] at E0
  have HS := Lib.hid hS
  have hlen := aftL_len n ls s x cost
  have hd8 := distL_len n ls s
  unfold affL
  have B1 := B0.alloc (by simp; omega) (.cells #[.int .i64 n, .slice A ls.length c, .int .i64 x, .int .i64 cost] 56)
  have C1 := dist_impl n A ls c s _ hm ((hS.below B1).more (by simp; omega))
  have C2 := fun W (h : Sl W W.heap.size A ls) => CA c W h
  have C3 := fun (A' : Option Addr) (c' : Nat) W (h : Sl W W.heap.size A' rs) => dist_impl m A' rs c' s W hrm h
  rw [hrs] at C3
  have HB0 := Lib.hid B0
  have HG0 := Lib.hid G0
  have HE0 := Lib.hid E0
  have HX := Lib.hid (Box.new ((w.alloc (.cells #[.int .i64 n, .slice A ls.length c] 30)).alloc (.cells #[] 3)) 56 #[.int .i64 n, .slice A ls.length c, .int .i64 x, .int .i64 cost])
  have HBX := Lib.hid ((Below.refl ((w.alloc (.cells #[.int .i64 n, .slice A ls.length c] 30)).alloc (.cells #[] 3)).heap.size _).alloc (Nat.le_refl _) (.cells #[.int .i64 n, .slice A ls.length c, .int .i64 x, .int .i64 cost] 56))
  generalize distL n ls s = ds at *
  generalize aftL n ls s x cost = es at *
  clear hS B0 B1 G0 E0 CA hrs
  go_enter Try.func22, Try.ntmps22
  go_wp2_with fail
  refine C1.mono ?_
  clear C1
  rintro e w1 ⟨A3, g3, c3, rfl, hg3, ho3, hb3⟩
  have X1 := HX.out.below hb3 HX.out.lt
  have HA := Lib.hid (AL.start HE0.out HG0.out (HBX.out.trans (hb3.mono HBX.out.size)) HB0.out (Nat.le_trans HBX.out.size hg3) ho3)
  clear hg3 ho3 hb3
  simp only [World.size_alloc] at X1
  have hB1 := HA.out.bel
  have C4 := C2 w1 ((HS.out.below hB1).more hB1.size)
  clear C2 hB1
  have x10 := X1.cell 0
  have x11 := X1.cell 1
  have x12 := X1.cell 2
  have x13 := X1.cell 3
  have zx1 := X1.lt
  go_wp2_with fail
  refine C4.mono ?_
  clear C4
  rintro e w2 ⟨A4, g4, c4, rfl, hg4, ho4, hb4⟩
  have HA2 := Lib.hid (HA.out.call hb4)
  have C5 := C3 A4 c4 w2 ho4.sl
  clear C3 hb4 ho4 x10 x11 x12 x13 zx1 X1
  go_wp2_with fail
  refine C5.mono ?_
  clear C5
  rintro e w3 ⟨A5, g5, c5, rfl, hg5, ho5, hb5⟩
  have HA3 := Lib.hid (HA2.out.call hb5)
  have HA4 := Lib.hid (HA2.out.other hb5 hg5 ho5)
  clear hg5 ho5 hb5 HA HA2 HE0 HG0 HB0 HX HBX HS
  go_wp2_with fail
  go_loopw [9, 28] (fun v9 v28 wr => ∃ k : Nat, k ≤ es.length ∧ v28 = .int .i64 k ∧ AL2 w #[.int .i64 n, .slice A ls.length c] g3 A3 ds g5 A5 es v9 (dTo ds es k) wr) (fun _ v28 _ => es.length - (intOf v28).toNat)
  case atStart => exact ⟨0, Nat.zero_le _, rfl, HA3.out, HA4.out⟩
  case round =>
    obtain ⟨k, hk, rfl, ha, hb⟩ := hrel
    have HA := Lib.hid ha
    have HB := Lib.hid hb
    clear HA3 HA4
    by_cases hlt : k < es.length
    · obtain ⟨d, hd⟩ : ∃ d, ds[k]? = some d := ⟨_, List.getElem?_eq_getElem (by omega)⟩
      obtain ⟨e, he⟩ : ∃ e, es[k]? = some e := ⟨_, List.getElem?_eq_getElem hlt⟩
      obtain ⟨rfl, harr⟩ := ha.own (by omega)
      obtain ⟨rfl, harr2⟩ := hb.own (by omega)
      have hc := harr.cell hd
      have hc2 := harr2.cell he
      have zg := harr.lt
      have zg2 := harr2.lt
      have hkl := dTo_len ds es k
      have hwz := ha.box.lt
      have hkd : k < ds.length := by omega
      have HD := Lib.hid hd
      have HE := Lib.hid he
      clear ha hb harr harr2 hd he
      go_wp2_with (at_builtin; refine wpList_append_own_at _ rfl _ _ 26 rfl (w.heap.size + 1) 3 i0 _ 1 8 Try.underlying26 hi hz0 hz1 hz2 rfl (by decide) _ (dTo ds es k).length _ rfl (HA.out.row.alloc _) ⟨wr.heap.size, 0, none⟩ 1 1 [.int .i64 k] rfl rfl (fun j u h => by obtain rfl : j = 0 := (by have := (List.getElem?_eq_some_iff.1 h).1; simpa using this); cases h; exact (Box.new wr 3 #[.int .i64 (k : Int)]).cell 0) (fun u hu => by simp at hu; subst hu; rfl) (by unfold maxLen; omega) (by omega) (by simp; omega) ?_; intro v' w3 hown' hgrow _ hat; have HN := Lib.hid (HA.out.append (by omega) hown' hgrow hat); have HN2 := Lib.hid (HB.out.append (by omega) hown' hgrow hat); clear hown' hgrow hat)
      · go_roundw
        case rel =>
          refine ⟨k + 1, hlt, by go_num, ?_⟩
          rw [dTo_hit HD.out HE.out (by simpa using ‹(e != d) = true›)]
          exact ⟨HN.out, HN2.out⟩
        case measure => simp [intOf]; omega
      · go_roundw
        case rel =>
          refine ⟨k + 1, hlt, by go_num, ?_⟩
          rw [dTo_miss HD.out HE.out (by simpa using ‹(e != d) = false›)]
          exact ⟨HA.out, HB.out⟩
        case measure => simp [intOf]; omega
    · obtain rfl : k = es.length := by omega
      clear ha hb
      go_wp2
      obtain ⟨A', g', c', rfl, hg', ho⟩ := HA.out.done
      go_ret
      exact ⟨A', g', c', rfl, hg', ho, HA.out.bel⟩

end Go.Proofs.Ytkdcialdjnedeaa
