/-
  Contracts over this seat: the draws of adjacencies.
-/
import Derived.Test.YtnkohgdfipgdoaaJb
import Derived.Test.YtnkohgdfipgdoaaA5
namespace Go.Proofs.Ytnkohgdfipgdoaa
open Go.RowKit Go.Maps

/-- The state while an adjacency is drawn: the reader, the result's box, its own box. -/
structure AD (w : World) (R : Nat) (A : Option Addr) (len c : Nat) (f : Nat → Int) (G : Nat) (P : Nat) (s g : Int) (W : World) : Prop where
  rd : RD R A len c f P W
  res : Box W w.heap.size 25 #[.int .i64 0, .int .i64 0]
  box : Box W G 25 #[.int .i64 s, .int .i64 g]
  gr : w.grownBy W (some R)
section
variable {w w1 w2 : World} {R : Nat} {A : Option Addr} {len c : Nat} {f : Nat → Int} {G : Nat} {P P' : Nat} {s g : Int}
theorem AD.picked (h : AD w R A len c f G P s g w1) (hr : RD R A len c f P' w2) (hg : w1.grownBy w2 (some R)) (hRw : R < w.heap.size) (hRG : R < G) : AD w R A len c f G P' s g w2 :=
  ⟨hr, h.res.grown hg (by omega), h.box.grown hg (by omega), grown_trans h.gr hg⟩
theorem AD.mono (h : AD w R A len c f G P s g w1) (hP : P ≤ P') : AD w R A len c f G P' s g w1 := ⟨h.rd.mono hP, h.res, h.box, h.gr⟩
theorem AD.set1 (h : AD w R A len c f G P s g w1) (hRG : R < G) (hwG : w.heap.size < G) (g' : Int) : AD w R A len c f G P s g' (w1.setCell ⟨G, 1, none⟩ (.int .i64 g')) :=
  ⟨h.rd.set (q := ⟨G, 1, none⟩) hRG _, (Below.heap_setCell w1 ⟨G, 1, none⟩ _ _ (by show w.heap.size ≠ G; omega)).trans h.res, heap_set h.box 1 _, grown_setFar h.gr (p := ⟨G, 1, none⟩) (by show w.heap.size ≤ G; omega) _⟩
theorem AD.set0 (h : AD w R A len c f G P s g w1) (hRG : R < G) (hwG : w.heap.size < G) (s' : Int) : AD w R A len c f G P s' g (w1.setCell ⟨G, 0, none⟩ (.int .i64 s')) :=
  ⟨h.rd.set (q := ⟨G, 0, none⟩) hRG _, (Below.heap_setCell w1 ⟨G, 0, none⟩ _ _ (by show w.heap.size ≠ G; omega)).trans h.res, heap_set h.box 0 _, grown_setFar h.gr (p := ⟨G, 0, none⟩) (by show w.heap.size ≤ G; omega) _⟩
end
/-- What 'l91Adjacency' leaves. -/
def AdjD (R : Nat) (A : Option Addr) (len c : Nat) (f : Nat → Int) (P : Nat) (w : World) (e : Ending) (w' : World) : Prop :=
  ∃ s g : Int, e = .returned (adjV s g) ∧ -1 ≤ s ∧ s ≤ 4 ∧ -1 ≤ g ∧ g ≤ 5 ∧ RD R A len c f P w' ∧ w.grownBy w' (some R)
theorem quo7 {k : Nat} (h : k < 8) : Int.tdiv (k : Int) 7 = ((k / 7 : Nat) : Int) := by
  rw [Int.tdiv_eq_ediv_of_nonneg (by omega)]
  rfl

set_option maxRecDepth 100000 in
set_option maxHeartbeats 1600000 in
theorem l91adj_any (R : Nat) (A : Option Addr) (len c P : Nat) (f : Nat → Int) (w : World) (hlen : len ≤ 2000) (hP : P ≤ 100000) (hR : RD R A len c f P w) :
   Calls Try.prog 31 #[.pointer (some ⟨R, 0, none⟩)] w (AdjD R A len c f (P + 8) w) := by
  have hRw := hR.lt
  have HR := Lib.hid (hR.alloc (.cells #[.int .i64 0, .int .i64 0] 25))
  have Q0 := Lib.hid (Box.new w 25 #[.int .i64 0, .int .i64 0])
  clear hR
  go_enter Try.func31, Try.ntmps31
  go_wp2_with fail
  refine (pick_rd R A len c P 4 f _ hlen (by omega) (by omega) (by omega) HR.out).mono ?_
  rintro e w1 ⟨k1, rfl, hk1, hR1, hg1, hs1, -⟩
  have HR1 := Lib.hid hR1
  have Q1 := Lib.hid (Q0.out.grown hg1 (by omega))
  have g1 := Lib.hid (grown_trans (World.grownBy_alloc w _ _) hg1)
  rw [World.size_alloc] at hs1
  have z1 : w.heap.size < w1.heap.size := by omega
  clear hR1 hg1 Q0 HR hs1
  go_wp2_with fail
  refine (pick_rd R A len c _ 4 f _ hlen (by omega) (by omega) (by omega) HR1.out).mono ?_
  rintro e w2 ⟨k2, rfl, hk2, hR2, hg2, hs2, -⟩
  have g2 := grown_trans g1.out hg2
  have S0 := Lib.hid (show AD w R A len c f w2.heap.size (P + 1 + 1) (k1 : Int) (k2 : Int) (w2.alloc (.cells #[.int .i64 (k1 : Int), .int .i64 (k2 : Int)] 25)) from
    ⟨hR2.alloc _, (Q1.out.grown hg2 (by omega)).alloc _, Box.new w2 _ _, grown_alloc g2 _⟩)
  have hwG : w.heap.size < w2.heap.size := by omega
  have hRG : R < w2.heap.size := by omega
  clear hR2 hg2 g2 g1 Q1 HR1 hs2 z1
  have hs0 : 0 ≤ (k1 : Int) := by omega
  have hs3 : (k1 : Int) ≤ 3 := by omega
  generalize (k1 : Int) = s at *
  have hg0 : 0 ≤ (k2 : Int) := by omega
  have hg3 : (k2 : Int) ≤ 3 := by omega
  generalize (k2 : Int) = g at *
  obtain ⟨zG, c0, c1, q0, q1⟩ := S0.out.box.two
  by_cases h10 : s = 0
  · have h10' : (s == 0) = true := by simp [h10]
    clear h10
    go_wp2_with fail
    refine (pick_rd R A len c _ 8 f _ hlen (by omega) (by omega) (by omega) S0.out.rd).mono ?_
    rintro e w3 ⟨k3, rfl, hk3, hR3, hg3', hs3', -⟩
    have S1 := Lib.hid (S0.out.picked hR3 hg3' hRw hRG)
    clear hR3 hg3' hs3' S0 zG c0 c1 q0 q1
    obtain ⟨zG, c0, c1, q0, q1⟩ := S1.out.box.two
    have h7 := quo7 (k := k3) (by omega)
    have hk7 : ((k3 / 7 : Nat) : Int) ≤ 1 := by omega
    have hk70 : 0 ≤ ((k3 / 7 : Nat) : Int) := by omega
    generalize ((k3 / 7 : Nat) : Int) = g' at *
    have h7w : IntKind.i64.wrap g' = g' := IntWalk.i64_in _ (by omega)
    have S2 := Lib.hid (S1.out.set1 hRG hwG g')
    clear S1
    have hg3 : g' ≤ 3 := by omega
    have hg0 : 0 ≤ g' := hk70
    clear hk7 hk70
    revert S2 hg3 hg0
    generalize hgg : g' = g2
    intro S2 hg3 hg0
    go_wp2_with fail
    refine (pick_rd R A len c _ 16 f _ hlen (by omega) (by omega) (by omega) S2.out.rd).mono ?_
    rintro e w4 ⟨k4, rfl, hk4, hR4, hg4, hs4, -⟩
    have S4 := Lib.hid (S2.out.picked hR4 hg4 hRw hRG)
    clear hR4 hg4 hs4 S2
    by_cases h40 : k4 = 0
    · subst h40
      go_wp2_with fail
      refine (pick_rd R A len c _ 6 f _ hlen (by omega) (by omega) (by omega) S4.out.rd).mono ?_
      rintro e w5 ⟨k5, rfl, hk5, hR5, hg5, hs5, -⟩
      have S5 := Lib.hid (S4.out.picked hR5 hg5 hRw hRG)
      clear hR5 hg5 hs5 S4
      go_wp2_with fail
      refine (pick_rd R A len c _ 7 f _ hlen (by omega) (by omega) (by omega) S5.out.rd).mono ?_
      rintro e w6 ⟨k6, rfl, hk6, hR6, hg6, hs6, -⟩
      have S6 := Lib.hid (S5.out.picked hR6 hg6 hRw hRG)
      clear hR6 hg6 hs6 S5
      have e5 : IntKind.i64.wrap ((k5 : Int) - 1) = (k5 : Int) - 1 := IntWalk.i64_in _ (by omega)
      have e6 : IntKind.i64.wrap ((k6 : Int) - 1) = (k6 : Int) - 1 := IntWalk.i64_in _ (by omega)
      have b5 : -1 ≤ (k5 : Int) - 1 ∧ (k5 : Int) - 1 ≤ 4 := by omega
      have b6 : -1 ≤ (k6 : Int) - 1 ∧ (k6 : Int) - 1 ≤ 5 := by omega
      have S7 := Lib.hid ((S6.out.set0 hRG hwG ((k5 : Int) - 1)).set1 hRG hwG ((k6 : Int) - 1))
      obtain ⟨zG, c0, c1, q0, q1⟩ := S6.out.box.two
      obtain ⟨zr, r0, r1, u0, u1⟩ := S6.out.res.two
      obtain ⟨b8, x0, x1⟩ := ret_two S7.out.res (.int .i64 ((k5 : Int) - 1)) (.int .i64 ((k6 : Int) - 1))
      clear b8
      go_wp2_with fail
      refine bodyPost_ret (v := adjV ((k5 : Int) - 1) ((k6 : Int) - 1)) (by simp [results, Try.results31, go_sem, x0, x1]) rfl ?_
      exact ⟨(k5 : Int) - 1, (k6 : Int) - 1, rfl, b5.1, b5.2, b6.1, b6.2, ((S7.out.rd.set (q := ⟨w.heap.size, 0, none⟩) hRw _).set (q := ⟨w.heap.size, 1, none⟩) hRw _).mono (by omega), grown_setFar (grown_setFar S7.out.gr (p := ⟨w.heap.size, 0, none⟩) (Nat.le_refl _) _) (p := ⟨w.heap.size, 1, none⟩) (Nat.le_refl _) _⟩
    · have h40' : ((k4 : Int) == 0) = false := by simpa using h40
      obtain ⟨zG, c0, c1, q0, q1⟩ := S4.out.box.two
      obtain ⟨zr, r0, r1, u0, u1⟩ := S4.out.res.two
      obtain ⟨b8, x0, x1⟩ := ret_two S4.out.res (.int .i64 s) (.int .i64 g2)
      go_wp2_with fail
      refine bodyPost_ret (v := adjV s g2) (by simp [results, Try.results31, go_sem, x0, x1]) rfl ?_
      exact ⟨s, g2, rfl, by omega, by omega, by omega, by omega, ((S4.out.rd.set (q := ⟨w.heap.size, 0, none⟩) hRw _).set (q := ⟨w.heap.size, 1, none⟩) hRw _).mono (by omega), grown_setFar (grown_setFar S4.out.gr (p := ⟨w.heap.size, 0, none⟩) (Nat.le_refl _) _) (p := ⟨w.heap.size, 1, none⟩) (Nat.le_refl _) _⟩
  · have h10' : (s == 0) = false := by simpa using h10
    clear h10
    have S2 := S0
    clear S0 zG c0 c1 q0 q1
    go_wp2_with fail
    refine (pick_rd R A len c _ 16 f _ hlen (by omega) (by omega) (by omega) S2.out.rd).mono ?_
    rintro e w4 ⟨k4, rfl, hk4, hR4, hg4, hs4, -⟩
    have S4 := Lib.hid (S2.out.picked hR4 hg4 hRw hRG)
    clear hR4 hg4 hs4 S2
    by_cases h40 : k4 = 0
    · subst h40
      go_wp2_with fail
      refine (pick_rd R A len c _ 6 f _ hlen (by omega) (by omega) (by omega) S4.out.rd).mono ?_
      rintro e w5 ⟨k5, rfl, hk5, hR5, hg5, hs5, -⟩
      have S5 := Lib.hid (S4.out.picked hR5 hg5 hRw hRG)
      clear hR5 hg5 hs5 S4
      go_wp2_with fail
      refine (pick_rd R A len c _ 7 f _ hlen (by omega) (by omega) (by omega) S5.out.rd).mono ?_
      rintro e w6 ⟨k6, rfl, hk6, hR6, hg6, hs6, -⟩
      have S6 := Lib.hid (S5.out.picked hR6 hg6 hRw hRG)
      clear hR6 hg6 hs6 S5
      have e5 : IntKind.i64.wrap ((k5 : Int) - 1) = (k5 : Int) - 1 := IntWalk.i64_in _ (by omega)
      have e6 : IntKind.i64.wrap ((k6 : Int) - 1) = (k6 : Int) - 1 := IntWalk.i64_in _ (by omega)
      have b5 : -1 ≤ (k5 : Int) - 1 ∧ (k5 : Int) - 1 ≤ 4 := by omega
      have b6 : -1 ≤ (k6 : Int) - 1 ∧ (k6 : Int) - 1 ≤ 5 := by omega
      have S7 := Lib.hid ((S6.out.set0 hRG hwG ((k5 : Int) - 1)).set1 hRG hwG ((k6 : Int) - 1))
      obtain ⟨zG, c0, c1, q0, q1⟩ := S6.out.box.two
      obtain ⟨zr, r0, r1, u0, u1⟩ := S6.out.res.two
      obtain ⟨b8, x0, x1⟩ := ret_two S7.out.res (.int .i64 ((k5 : Int) - 1)) (.int .i64 ((k6 : Int) - 1))
      clear b8
      go_wp2_with fail
      refine bodyPost_ret (v := adjV ((k5 : Int) - 1) ((k6 : Int) - 1)) (by simp [results, Try.results31, go_sem, x0, x1]) rfl ?_
      exact ⟨(k5 : Int) - 1, (k6 : Int) - 1, rfl, b5.1, b5.2, b6.1, b6.2, ((S7.out.rd.set (q := ⟨w.heap.size, 0, none⟩) hRw _).set (q := ⟨w.heap.size, 1, none⟩) hRw _).mono (by omega), grown_setFar (grown_setFar S7.out.gr (p := ⟨w.heap.size, 0, none⟩) (Nat.le_refl _) _) (p := ⟨w.heap.size, 1, none⟩) (Nat.le_refl _) _⟩
    · have h40' : ((k4 : Int) == 0) = false := by simpa using h40
      obtain ⟨zG, c0, c1, q0, q1⟩ := S4.out.box.two
      obtain ⟨zr, r0, r1, u0, u1⟩ := S4.out.res.two
      obtain ⟨b8, x0, x1⟩ := ret_two S4.out.res (.int .i64 s) (.int .i64 g)
      go_wp2_with fail
      refine bodyPost_ret (v := adjV s g) (by simp [results, Try.results31, go_sem, x0, x1]) rfl ?_
      exact ⟨s, g, rfl, by omega, by omega, by omega, by omega, ((S4.out.rd.set (q := ⟨w.heap.size, 0, none⟩) hRw _).set (q := ⟨w.heap.size, 1, none⟩) hRw _).mono (by omega), grown_setFar (grown_setFar S4.out.gr (p := ⟨w.heap.size, 0, none⟩) (Nat.le_refl _) _) (p := ⟨w.heap.size, 1, none⟩) (Nat.le_refl _) _⟩

/-- A drawn adjacency. -/
def AdjX (w : World) (e : Ending) (w' : World) : Prop := ∃ s g : Int, e = .returned (adjV s g) ∧ -1 ≤ s ∧ s ≤ 4 ∧ -1 ≤ g ∧ g ≤ 5 ∧ Below w.heap.size w w'

set_option maxRecDepth 100000 in
set_option maxHeartbeats 1600000 in
theorem drawAdjTick_any (A : Option Addr) (len c : Nat) (f : Nat → Int) (w : World) (hlc : len ≤ c) (hc : c ≤ maxLen) (hB : Byt w w.heap.size A len f) :
   Calls Try.prog 21 #[.slice A len c] w (AdjX w) := by
  have HB := Lib.hid (hB.alloc (.cells #[.int .i64 0, .int .i64 0] 25))
  have HQ := Lib.hid (Box.new w 25 #[.int .i64 0, .int .i64 0])
  clear hB
  go_enter Try.func21, Try.ntmps21
  go_wp2_with fail
  refine (open_any A len c f _ hlc hc HB.out).mono ?_
  rintro e w1 ⟨l1, hl1, rfl, hr1, hb1, hs1⟩
  rw [World.size_alloc] at hr1 hb1 hs1
  have H1 := Lib.hid hr1
  have B1 := Lib.hid (Below.trans (B := w.heap.size) (a := w) (by (repeat (first | exact Below.refl _ _ | (refine Below.alloc ?_ (by first | exact Nat.le_refl _ | omega | (simp; done) | (simp; omega)) _) | (refine Below.setCell ?_ (by first | exact Nat.le_refl _ | omega | (simp; done) | (simp; omega)) _) | exact Below.drew ‹_›))) (hb1.mono (by omega)))
  have Q1 := Lib.hid (HQ.out.below hb1 (by omega))
  have hz1 : w.heap.size + 1 < w1.heap.size := by omega
  clear hr1 hb1 HQ HB hs1
  go_wp2_with fail
  refine (l91adj_any _ A l1 c 0 f w1 hl1 (by omega) H1.out).mono ?_
  rintro e w2 ⟨s, g, rfl, hs0, hs1, hg0, hg1, hr2, hb2⟩
  have Q2 := Lib.hid (Q1.out.grown hb2 (by omega))
  have B2 := Lib.hid (B1.out.grown hb2 (by omega) (fun k e => by injection e with e; omega))
  clear hr2 hb2 Q1 B1 H1
  obtain ⟨zr, r0, r1, u0, u1⟩ := Q2.out.two
  obtain ⟨b7, x0, x1⟩ := ret_two Q2.out (.int .i64 s) (.int .i64 g)
  go_wp2_with fail
  refine bodyPost_ret (v := adjV s g) (by simp [results, Try.results21, go_sem, x0, x1]) rfl ?_
  exact ⟨s, g, rfl, hs0, hs1, hg0, hg1, (B2.out.setCell (p := ⟨w.heap.size, 0, none⟩) (Nat.le_refl _) _).setCell (p := ⟨w.heap.size, 1, none⟩) (Nat.le_refl _) _⟩

/-- The state while a hello is drawn: the reader, the result's box, the adjacency's box, the row of nodes. -/
structure HD (w : World) (A : Option Addr) (len c : Nat) (f : Nat → Int) (P : Nat) (s g : Int) (G : Nat) (v : Value) (out : List Int) (W : World) : Prop where
  rd : RD (w.heap.size + 1) A len c f P W
  res : Box W w.heap.size 25 #[.int .i64 0, .int .i64 0]
  box : Box W G 25 #[.int .i64 s, .int .i64 g]
  row : W.ownsRow (w.heap.size + 2) 3 1 v out.length (out.map (Value.int .i64))
  bel : Below w.heap.size w W
section
variable {w w1 w2 : World} {A : Option Addr} {len c : Nat} {f : Nat → Int} {P P' : Nat} {s g : Int} {G : Nat} {v v' : Value} {out : List Int}
theorem HD.picked (h : HD w A len c f P s g G v out w1) (hr : RD (w.heap.size + 1) A len c f P' w2) (hg : w1.grownBy w2 (some (w.heap.size + 1))) (hG : G ≠ w.heap.size + 1) : HD w A len c f P' s g G v out w2 := by
  obtain ⟨cs, hx⟩ := h.rd.box
  exact ⟨hr, h.res.grown hg (by omega), h.box.grown hg hG, owns_picked h.row hx (by decide) hg, h.bel.grown hg h.bel.size (fun k e => by injection e with e; omega)⟩
theorem HD.drew (h : HD w A len c f P s g G v out w1) : HD w A len c f P s g G v out w1.drew := by
  obtain ⟨⟨p, hp, hx, hB⟩, h2, h3, h4, h5⟩ := h
  exact ⟨⟨p, hp, hx, hB⟩, h2, h3, h4, h5.drew⟩
theorem HD.mono (h : HD w A len c f P s g G v out w1) (hP : P ≤ P') : HD w A len c f P' s g G v out w1 := ⟨h.rd.mono hP, h.res, h.box, h.row, h.bel⟩
theorem HD.append {W W' : World} {x : Int} {o : Obj} (h : HD w A len c f P s g G v out W) (hown : W'.ownsRow (w.heap.size + 2) 3 1 v' (out.length + 1) (out.map (Value.int .i64) ++ [.int .i64 x])) (hg : (W.alloc o).grownBy W' v.ownBlock) : HD w A len c f P s g G v' (out ++ [x]) W' := by
  have hl := h.row.lt
  have hz := h.bel.size
  have b1 : Box W' w.heap.size 25 #[.int .i64 0, .int .i64 0] := (hg.block _ (by have := h.res.lt; simp; omega) (fun e => own_box_ne h.row h.res (by decide) e.symm)).trans (h.res.alloc o)
  have b2 : Box W' G 25 #[.int .i64 s, .int .i64 g] := (hg.block _ (by have := h.box.lt; simp; omega) (fun e => own_box_ne h.row h.box (by decide) e.symm)).trans (h.box.alloc o)
  refine ⟨h.rd.below (((Below.refl (w.heap.size + 1 + 1) W).alloc h.rd.lt o).grown hg (by have := h.rd.lt; simp; omega) (fun j e => by have := (hl j e).1; omega)), b1, b2, ?_, (h.bel.alloc hz _).grown hg (by simp; omega) (fun j e => by have := (hl j e).1; omega)⟩
  rw [List.length_append, List.map_append]
  exact hown
end
theorem quo19 {k : Nat} (h : k < 20) : Int.tdiv (k : Int) 19 = ((k / 19 : Nat) : Int) := by
  rw [Int.tdiv_eq_ediv_of_nonneg (by omega)]
  rfl
/-- The list behind the result's store. -/
theorem hello_sli {W : World} {A : Option Addr} {xs : List Int} {Q : Nat} {u0 u1 : Value} (h : Sli W W.heap.size A xs) (hne : ∀ b off, 0 < xs.length → A = some ⟨b, off, none⟩ → b ≠ Q) : Sli ((W.setCell ⟨Q, 0, none⟩ u0).setCell ⟨Q, 1, none⟩ u1) ((W.setCell ⟨Q, 0, none⟩ u0).setCell ⟨Q, 1, none⟩ u1).heap.size A xs := by
  intro k x hx
  obtain ⟨b, off, e, hb, hc⟩ := h k x hx
  have hq := hne b off (by have := (List.getElem?_eq_some_iff.1 hx).1; omega) e
  refine ⟨b, off, e, by simpa using hb, ?_⟩
  rw [World.cell?_setCell_other _ _ _ _ (by intro e; injection e with e _; exact hq e.symm), World.cell?_setCell_other _ _ _ _ (by intro e; injection e with e _; exact hq e.symm)]
  exact hc
/-- A drawn hello. -/
def HelX (w : World) (e : Ending) (w' : World) : Prop := ∃ (s g me : Int) (xs : List Int) (B : Option Addr) (c : Nat), e = .returned (.tuple #[adjV s g, .int .i64 me, .slice B xs.length c]) ∧ -1 ≤ s ∧ s ≤ 4 ∧ -1 ≤ g ∧ g ≤ 5 ∧ xs.length ≤ 9 ∧ Sli w' w'.heap.size B xs ∧ Below w.heap.size w w'

set_option maxRecDepth 100000 in
set_option maxHeartbeats 1600000 in
theorem drawAdjHello_any (A : Option Addr) (len c : Nat) (f : Nat → Int) (w : World) (hlc : len ≤ c) (hc : c ≤ maxLen) (hB : Byt w w.heap.size A len f) :
   Calls Try.prog 22 #[.slice A len c] w (HelX w) := by
  obtain ⟨i0, hi, hz0, hz10, hz20⟩ := info_parts infoInt
  have HB := Lib.hid (hB.alloc (.cells #[.int .i64 0, .int .i64 0] 25))
  have HQ := Lib.hid (Box.new w 25 #[.int .i64 0, .int .i64 0])
  clear hB
  go_enter Try.func22, Try.ntmps22
  go_wp2_with fail
  refine (open_any A len c f _ hlc hc HB.out).mono ?_
  rintro e w1 ⟨l1, hl1, rfl, hr1, hb1, hs1⟩
  rw [World.size_alloc] at hr1 hb1 hs1 ⊢
  have H1 := Lib.hid hr1
  have B1 := Lib.hid (Below.trans (B := w.heap.size) (a := w) (by (repeat (first | exact Below.refl _ _ | (refine Below.alloc ?_ (by first | exact Nat.le_refl _ | omega | (simp; done) | (simp; omega)) _) | (refine Below.setCell ?_ (by first | exact Nat.le_refl _ | omega | (simp; done) | (simp; omega)) _) | exact Below.drew ‹_›))) (hb1.mono (by omega)))
  have Q1 := Lib.hid (HQ.out.below hb1 (by omega))
  have hz1 : w.heap.size + 1 < w1.heap.size := by omega
  clear hr1 hb1 HQ HB hs1
  go_wp2_with fail
  refine (l91adj_any _ A l1 c 0 f w1 hl1 (by omega) H1.out).mono ?_
  rintro e w2 ⟨s, g, rfl, hs0, hs1, hg0, hg1, hr2, hb2⟩
  have Q2 := Lib.hid (Q1.out.grown hb2 (by omega))
  have B2 := Lib.hid (B1.out.grown hb2 (by omega) (fun k e => by injection e with e; omega))
  have hz2 := hb2.size
  have S0 := Lib.hid (show HD w A l1 c f 8 s g w2.heap.size (.slice (some ⟨w2.heap.size + 1, 0, none⟩) 0 0) [] ((w2.alloc (.cells #[.int .i64 s, .int .i64 g] 25)).alloc (.cells #[] 3)) from
    ⟨(hr2.alloc _).alloc _, (Q2.out.alloc _).alloc _, (Box.new w2 _ _).alloc _, ⟨by simp, .inr ⟨w2.heap.size + 1, 0, #[], rfl, by omega, by
      have := Box.new (w2.alloc (.cells #[.int .i64 s, .int .i64 g] 25)) 3 #[]
      rwa [World.size_alloc] at this, Nat.le_refl _, by omega, rfl, by simp⟩⟩, (B2.out.alloc B2.out.size _).alloc (by have := B2.out.size; simp; omega) _⟩)
  have hGR : w2.heap.size ≠ w.heap.size + 1 := by omega
  clear hr2 hb2 Q1 B1 H1 Q2 B2
  go_wp2_with fail
  go_loopw [7, 8] (fun v i wr => ∃ (k : Nat) (out : List Int), k ≤ 8 ∧ i = .int .i64 (k : Int) ∧ out.length ≤ k ∧ Hid (HD w A l1 c f (8 + k) s g w2.heap.size v out wr)) (fun _ i _ => 8 - (intOf i).toNat)
  case atStart => exact ⟨0, [], by omega, rfl, by simp, S0⟩
  case round =>
    obtain ⟨k, out, hk, rfl, hle, S⟩ := hrel
    clear S0
    obtain ⟨A2, g2, c2, rfl, hg2, -, -⟩ := own_slicei S.out.row (by have := S.out.rd.lt; omega)
    by_cases hlt : k < 8
    · have hlti : (k : Int) < 8 := by omega
      go_wp2_with fail
      refine (pick_rd _ A l1 c _ 2 f _ hl1 (by omega) (by omega) (by omega) S.out.rd).mono ?_
      rintro e w3 ⟨k3, rfl, hk3, hR3, hg3, hs3, -⟩
      have S3 := Lib.hid (S.out.picked hR3 hg3 hGR)
      clear hR3 hg3 hs3 S
      by_cases h3 : k3 = 0
      · subst h3
        go_wp2_with (at_builtin; refine wpList_append_own_at _ rfl _ _ 30 rfl (w.heap.size + 2) 3 i0 _ 1 8 Try.underlying30 hi hz0 hz10 hz20 rfl (by decide) _ out.length _ rfl (owns_kept S3.out.row ((Below.refl _ _).alloc (Nat.le_refl _) _)) ⟨w3.heap.size, 0, none⟩ 1 1 [.int .i64 (k : Int)] rfl rfl (cell_one_new _ _ _) (fun u hu => by simp at hu; subst hu; rfl) (by unfold maxLen; omega) (by omega) (by have := S3.out.bel.size; have := S3.out.rd.lt; simp; omega) ?_; intro v' w9 hown' hgrow hnil hat; have S9 := Lib.hid (S3.out.append (x := (k : Int)) hown' hgrow); clear hown' hgrow hnil hat)
        go_roundw
        case rel => exact ⟨k + 1, out ++ [(k : Int)], by omega, by go_num, by simp; omega, Lib.hid (S9.out.mono (by omega))⟩
        case measure => simp [intOf]; omega
      · have h3' : ((k3 : Int) == 0) = false := by simpa using h3
        go_wp2_with fail
        go_roundw
        case rel => exact ⟨k + 1, out, by omega, by go_num, by omega, Lib.hid (S3.out.mono (by omega))⟩
        case measure => simp [intOf]; omega
    · obtain rfl : k = 8 := by omega
      go_wp2_with fail
      refine (pick_rd _ A l1 c _ 16 f _ hl1 (by omega) (by omega) (by omega) S.out.rd).mono ?_
      rintro e w3 ⟨k3, rfl, hk3, hR3, hg3, hs3, -⟩
      have S3 := Lib.hid (S.out.picked hR3 hg3 hGR)
      clear hR3 hg3 hs3 S
      by_cases h3 : k3 = 0
      · subst h3
        go_wp2_with fail
        refine (pick_rd _ A l1 c _ 10 f _ hl1 (by omega) (by omega) (by omega) S3.out.rd).mono ?_
        rintro e w4 ⟨k4, rfl, hk4, hR4, hg4, hs4, -⟩
        have S4 := Lib.hid (S3.out.picked hR4 hg4 hGR)
        have e4 : IntKind.i64.wrap ((k4 : Int) - 1) = (k4 : Int) - 1 := IntWalk.i64_in _ (by omega)
        clear hR4 hg4 hs4 S3
        go_wp2_with (at_builtin; refine wpList_append_own_at _ rfl _ _ 30 rfl (w.heap.size + 2) 3 i0 _ 1 8 Try.underlying30 hi hz0 hz10 hz20 rfl (by decide) _ out.length _ rfl (owns_kept S4.out.row ((Below.refl _ _).alloc (Nat.le_refl _) _)) ⟨w4.heap.size, 0, none⟩ 1 1 [.int .i64 ((k4 : Int) - 1)] rfl rfl (cell_one_new _ _ _) (fun u hu => by simp at hu; subst hu; rfl) (by unfold maxLen; omega) (by omega) (by have := S4.out.bel.size; have := S4.out.rd.lt; simp; omega) ?_; intro v' w9 hown' hgrow hnil hat; have S9 := Lib.hid (S4.out.append (x := ((k4 : Int) - 1)) hown' hgrow); clear hown' hgrow hnil hat)
        obtain ⟨A5, g5, c5, rfl, -, -, -⟩ := own_slicei S9.out.row (by have := S9.out.rd.lt; omega)
        obtain ⟨zG, c0, c1, -, -⟩ := S9.out.box.two
        have SD := Lib.hid S9.out.drew
        have hzw : w.heap.size + 1 < w2.heap.size := by omega
        have hX0 := fun (y : ExtX (fun b => b = w.heap.size + 1 ∨ b = w.heap.size ∨ w9.heap.size ≤ b) w9.drew) => (y.cell w2.heap.size 0 zG (by omega)).trans (show w9.drew.cell? ⟨w2.heap.size, 0, none⟩ = _ from c0)
        have hX1 := fun (y : ExtX (fun b => b = w.heap.size + 1 ∨ b = w.heap.size ∨ w9.heap.size ≤ b) w9.drew) => (y.cell w2.heap.size 1 zG (by omega)).trans (show w9.drew.cell? ⟨w2.heap.size, 1, none⟩ = _ from c1)
        refine wp_region_stx 16 (fun b => b = w.heap.size + 1 ∨ b = w.heap.size ∨ w9.heap.size ≤ b) (by kernel_rfl) (by kernel_rfl) ?_
        refine stx_seg _ 11 [0, 1, 3, 7, 12] (by kernel_rfl) (by kernel_rfl) (by kernel_rfl) (by kernel_rfl) ?_
        (simp only [List.map_cons, List.map_nil, List.getElem?_cons_zero, List.getElem?_cons_succ, Option.getD_some]); (repeat (go_big_quiet_step (fail))); (refine wpQuiet_nil ?_)
        clear hX0 hX1 c0 c1 zG S9
        refine stx_one _ 10 2 (by kernel_rfl) (by rfl) (by kernel_rfl) (by rfl) ?_
        go_wp2_with fail
        refine (pick_rd _ A l1 c _ 8 f _ hl1 (by omega) (by omega) (by omega) SD.out.rd).mono ?_
        rintro e w5 ⟨k5, rfl, hk5, hR5, hg5, hs5, -⟩
        refine ⟨⟨hg5.os, hg5.tape, hg5.output, hg5.size, fun k hk hx => hg5.block k hk (fun e => hx (.inl (by cases e; rfl)))⟩, _, fun _ h => h, ?_⟩
        have S5 := Lib.hid (SD.out.picked hR5 hg5 hGR)
        clear hR5 hg5 hs5 SD
        refine stx_one _ 9 4 (by kernel_rfl) (by rfl) (by kernel_rfl) (by rfl) ?_
        go_wp2_with fail
        refine (pick_rd _ A l1 c _ 20 f _ hl1 (by omega) (by omega) (by omega) S5.out.rd).mono ?_
        rintro e w6 ⟨k6, rfl, hk6, hR6, hg6, hs6, -⟩
        refine ⟨⟨hg6.os, hg6.tape, hg6.output, hg6.size, fun k hk hx => hg6.block k hk (fun e => hx (.inl (by cases e; rfl)))⟩, _, fun _ h => h, ?_⟩
        have S6 := Lib.hid (S5.out.picked hR6 hg6 hGR)
        clear hR6 hg6 hs6 S5
        have h19 := quo19 (k := k6) (by omega)
        have q60 : 0 ≤ ((k6 / 19 : Nat) : Int) ∧ ((k6 / 19 : Nat) : Int) ≤ 1 := by omega
        generalize ((k6 / 19 : Nat) : Int) = q6 at *
        have e6 : IntKind.i64.wrap q6 = q6 := IntWalk.i64_in _ (by omega)
        have e56 : IntKind.i64.wrap ((k5 : Int) + q6) = (k5 : Int) + q6 := IntWalk.i64_in _ (by omega)
        refine stx_seg _ 7 [5, 6] (by kernel_rfl) (by kernel_rfl) (by kernel_rfl) (by kernel_rfl) ?_
        (simp only [List.map_cons, List.map_nil, List.getElem?_cons_zero, List.getElem?_cons_succ, Option.getD_some]); (repeat (go_big_quiet_step (fail))); (refine wpQuiet_nil ?_)
        refine stx_one _ 6 8 (by kernel_rfl) (by rfl) (by kernel_rfl) (by rfl) ?_
        go_wp2_with fail
        refine (pick_rd _ A l1 c _ 20 f _ hl1 (by omega) (by omega) (by omega) S6.out.rd).mono ?_
        rintro e w8 ⟨k8, rfl, hk8, hR8, hg8, hs8, -⟩
        refine ⟨⟨hg8.os, hg8.tape, hg8.output, hg8.size, fun k hk hx => hg8.block k hk (fun e => hx (.inl (by cases e; rfl)))⟩, _, fun _ h => h, ?_⟩
        have S8 := Lib.hid (S6.out.picked hR8 hg8 hGR)
        clear hR8 hg8 hs8 S6
        have h19 := quo19 (k := k8) (by omega)
        have q80 : 0 ≤ ((k8 / 19 : Nat) : Int) ∧ ((k8 / 19 : Nat) : Int) ≤ 1 := by omega
        generalize ((k8 / 19 : Nat) : Int) = q8 at *
        have e8 : IntKind.i64.wrap q8 = q8 := IntWalk.i64_in _ (by omega)
        have e82 : IntKind.i64.wrap (q8 * 2) = q8 * 2 := IntWalk.i64_in _ (by omega)
        have e58 : IntKind.i64.wrap ((k5 : Int) + q6 - q8 * 2) = (k5 : Int) + q6 - q8 * 2 := IntWalk.i64_in _ (by omega)
        refine stx_seg _ 3 [9, 10, 11] (by kernel_rfl) (by kernel_rfl) (by kernel_rfl) (by kernel_rfl) ?_
        (simp only [List.map_cons, List.map_nil, List.getElem?_cons_zero, List.getElem?_cons_succ, Option.getD_some]); (repeat (go_big_quiet_step (fail))); (refine wpQuiet_nil ?_)
        obtain ⟨zr, r0, r1, u0, u1⟩ := S8.out.res.two
        obtain ⟨b8, x0, x1⟩ := ret_two S8.out.res (.int .i64 s) (.int .i64 g)
        clear b8
        refine stx_one _ 2 13 (by kernel_rfl) (by rfl) (by kernel_rfl) (by rfl) ?_
        go_wp2_with fail
        refine ⟨((Kx.refl _ _).setCell (p := ⟨w.heap.size, 0, none⟩) (.inr (.inl rfl)) _).setCell (p := ⟨w.heap.size, 1, none⟩) (.inr (.inl rfl)) _, _, fun _ h => h, ?_⟩
        refine stx_seg _ 0 [14, 15] (by kernel_rfl) (by kernel_rfl) (by kernel_rfl) (by kernel_rfl) ?_
        (simp only [List.map_cons, List.map_nil, List.getElem?_cons_zero, List.getElem?_cons_succ, Option.getD_some]); (repeat (go_big_quiet_step (fail))); (refine wpQuiet_nil ?_)
        refine stx_end (by kernel_rfl) ?_
        go_wp2_with fail
        have HO := own_slicei S8.out.row (by have := S8.out.rd.lt; omega)
        refine bodyPost_ret (v := .tuple #[adjV s g, .int .i64 ((k5 : Int) + q6 - q8 * 2), .slice A5 (out ++ [(k4 : Int) - 1]).length c5]) (by simp [results, Try.results22, go_sem, x0, x1]) rfl ?_
        obtain ⟨A9, g9, c9, he9, hg9, -, ho9⟩ := HO
        cases he9
        have hsl : Sli w8 w8.heap.size A5 (out ++ [(k4 : Int) - 1]) := ho9.sli
        refine ⟨s, g, _, out ++ [(k4 : Int) - 1], A5, c5, rfl, hs0, hs1, hg0, hg1, by first | omega | (simp; omega), ?_, (S8.out.bel.setCell (p := ⟨w.heap.size, 0, none⟩) (Nat.le_refl _) _).setCell (p := ⟨w.heap.size, 1, none⟩) (Nat.le_refl _) _⟩
        exact hello_sli hsl (fun b off hp he => by have e2 := (ho9 hp).1; rw [he] at e2; injection e2 with e2; injection e2 with e2; omega)
      · have h3' : ((k3 : Int) == 0) = false := by simpa using h3
        go_wp2_with fail
        obtain ⟨zG, c0, c1, -, -⟩ := S3.out.box.two
        have SD := Lib.hid S3.out.drew
        have hzw : w.heap.size + 1 < w2.heap.size := by omega
        have hX0 := fun (y : ExtX (fun b => b = w.heap.size + 1 ∨ b = w.heap.size ∨ w3.heap.size ≤ b) w3.drew) => (y.cell w2.heap.size 0 zG (by omega)).trans (show w3.drew.cell? ⟨w2.heap.size, 0, none⟩ = _ from c0)
        have hX1 := fun (y : ExtX (fun b => b = w.heap.size + 1 ∨ b = w.heap.size ∨ w3.heap.size ≤ b) w3.drew) => (y.cell w2.heap.size 1 zG (by omega)).trans (show w3.drew.cell? ⟨w2.heap.size, 1, none⟩ = _ from c1)
        refine wp_region_stx 16 (fun b => b = w.heap.size + 1 ∨ b = w.heap.size ∨ w3.heap.size ≤ b) (by kernel_rfl) (by kernel_rfl) ?_
        refine stx_seg _ 11 [0, 1, 3, 7, 12] (by kernel_rfl) (by kernel_rfl) (by kernel_rfl) (by kernel_rfl) ?_
        (simp only [List.map_cons, List.map_nil, List.getElem?_cons_zero, List.getElem?_cons_succ, Option.getD_some]); (repeat (go_big_quiet_step (fail))); (refine wpQuiet_nil ?_)
        clear hX0 hX1 c0 c1 zG S3
        refine stx_one _ 10 2 (by kernel_rfl) (by rfl) (by kernel_rfl) (by rfl) ?_
        go_wp2_with fail
        refine (pick_rd _ A l1 c _ 8 f _ hl1 (by omega) (by omega) (by omega) SD.out.rd).mono ?_
        rintro e w5 ⟨k5, rfl, hk5, hR5, hg5, hs5, -⟩
        refine ⟨⟨hg5.os, hg5.tape, hg5.output, hg5.size, fun k hk hx => hg5.block k hk (fun e => hx (.inl (by cases e; rfl)))⟩, _, fun _ h => h, ?_⟩
        have S5 := Lib.hid (SD.out.picked hR5 hg5 hGR)
        clear hR5 hg5 hs5 SD
        refine stx_one _ 9 4 (by kernel_rfl) (by rfl) (by kernel_rfl) (by rfl) ?_
        go_wp2_with fail
        refine (pick_rd _ A l1 c _ 20 f _ hl1 (by omega) (by omega) (by omega) S5.out.rd).mono ?_
        rintro e w6 ⟨k6, rfl, hk6, hR6, hg6, hs6, -⟩
        refine ⟨⟨hg6.os, hg6.tape, hg6.output, hg6.size, fun k hk hx => hg6.block k hk (fun e => hx (.inl (by cases e; rfl)))⟩, _, fun _ h => h, ?_⟩
        have S6 := Lib.hid (S5.out.picked hR6 hg6 hGR)
        clear hR6 hg6 hs6 S5
        have h19 := quo19 (k := k6) (by omega)
        have q60 : 0 ≤ ((k6 / 19 : Nat) : Int) ∧ ((k6 / 19 : Nat) : Int) ≤ 1 := by omega
        generalize ((k6 / 19 : Nat) : Int) = q6 at *
        have e6 : IntKind.i64.wrap q6 = q6 := IntWalk.i64_in _ (by omega)
        have e56 : IntKind.i64.wrap ((k5 : Int) + q6) = (k5 : Int) + q6 := IntWalk.i64_in _ (by omega)
        refine stx_seg _ 7 [5, 6] (by kernel_rfl) (by kernel_rfl) (by kernel_rfl) (by kernel_rfl) ?_
        (simp only [List.map_cons, List.map_nil, List.getElem?_cons_zero, List.getElem?_cons_succ, Option.getD_some]); (repeat (go_big_quiet_step (fail))); (refine wpQuiet_nil ?_)
        refine stx_one _ 6 8 (by kernel_rfl) (by rfl) (by kernel_rfl) (by rfl) ?_
        go_wp2_with fail
        refine (pick_rd _ A l1 c _ 20 f _ hl1 (by omega) (by omega) (by omega) S6.out.rd).mono ?_
        rintro e w8 ⟨k8, rfl, hk8, hR8, hg8, hs8, -⟩
        refine ⟨⟨hg8.os, hg8.tape, hg8.output, hg8.size, fun k hk hx => hg8.block k hk (fun e => hx (.inl (by cases e; rfl)))⟩, _, fun _ h => h, ?_⟩
        have S8 := Lib.hid (S6.out.picked hR8 hg8 hGR)
        clear hR8 hg8 hs8 S6
        have h19 := quo19 (k := k8) (by omega)
        have q80 : 0 ≤ ((k8 / 19 : Nat) : Int) ∧ ((k8 / 19 : Nat) : Int) ≤ 1 := by omega
        generalize ((k8 / 19 : Nat) : Int) = q8 at *
        have e8 : IntKind.i64.wrap q8 = q8 := IntWalk.i64_in _ (by omega)
        have e82 : IntKind.i64.wrap (q8 * 2) = q8 * 2 := IntWalk.i64_in _ (by omega)
        have e58 : IntKind.i64.wrap ((k5 : Int) + q6 - q8 * 2) = (k5 : Int) + q6 - q8 * 2 := IntWalk.i64_in _ (by omega)
        refine stx_seg _ 3 [9, 10, 11] (by kernel_rfl) (by kernel_rfl) (by kernel_rfl) (by kernel_rfl) ?_
        (simp only [List.map_cons, List.map_nil, List.getElem?_cons_zero, List.getElem?_cons_succ, Option.getD_some]); (repeat (go_big_quiet_step (fail))); (refine wpQuiet_nil ?_)
        obtain ⟨zr, r0, r1, u0, u1⟩ := S8.out.res.two
        obtain ⟨b8, x0, x1⟩ := ret_two S8.out.res (.int .i64 s) (.int .i64 g)
        clear b8
        refine stx_one _ 2 13 (by kernel_rfl) (by rfl) (by kernel_rfl) (by rfl) ?_
        go_wp2_with fail
        refine ⟨((Kx.refl _ _).setCell (p := ⟨w.heap.size, 0, none⟩) (.inr (.inl rfl)) _).setCell (p := ⟨w.heap.size, 1, none⟩) (.inr (.inl rfl)) _, _, fun _ h => h, ?_⟩
        refine stx_seg _ 0 [14, 15] (by kernel_rfl) (by kernel_rfl) (by kernel_rfl) (by kernel_rfl) ?_
        (simp only [List.map_cons, List.map_nil, List.getElem?_cons_zero, List.getElem?_cons_succ, Option.getD_some]); (repeat (go_big_quiet_step (fail))); (refine wpQuiet_nil ?_)
        refine stx_end (by kernel_rfl) ?_
        go_wp2_with fail
        have HO := own_slicei S8.out.row (by have := S8.out.rd.lt; omega)
        refine bodyPost_ret (v := .tuple #[adjV s g, .int .i64 ((k5 : Int) + q6 - q8 * 2), .slice A2 (out).length c2]) (by simp [results, Try.results22, go_sem, x0, x1]) rfl ?_
        obtain ⟨A9, g9, c9, he9, hg9, -, ho9⟩ := HO
        cases he9
        have hsl : Sli w8 w8.heap.size A2 (out) := ho9.sli
        refine ⟨s, g, _, out, A2, c2, rfl, hs0, hs1, hg0, hg1, by first | omega | (simp; omega), ?_, (S8.out.bel.setCell (p := ⟨w.heap.size, 0, none⟩) (Nat.le_refl _) _).setCell (p := ⟨w.heap.size, 1, none⟩) (Nat.le_refl _) _⟩
        exact hello_sli hsl (fun b off hp he => by have e2 := (ho9 hp).1; rw [he] at e2; injection e2 with e2; injection e2 with e2; omega)
end Go.Proofs.Ytnkohgdfipgdoaa
