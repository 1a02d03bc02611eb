/-
  Contracts over this seat: a drawn route.
-/
import Derived.Test.YtohflcbpjjnccabTd
import Derived.Test.YtohflcbpjjnccabA5
namespace Go.Proofs.Ytohflcbpjjnccab
open Go.RowKit Go.Maps

/-- The state while a route is drawn: the reader, the row of the result, the route in a box. -/
structure RX (w : World) (R : Nat) (A : Option Addr) (len c : Nat) (f : Nat → Int) (P Q : Nat) (x : Lk) (W : World) : Prop where
  rd : RD R A len c f P W
  bx : Box W Q 38 #[.int .i64 x.a, .int .i64 x.b, .int .i64 x.c]
  rs : Box W w.heap.size 38 #[.int .i64 0, .int .i64 0, .int .i64 0]
  gr : w.grownBy W (some R)
  far : R < w.heap.size
  old : w.heap.size < Q
section
variable {w w1 w2 : World} {R : Nat} {A : Option Addr} {len c : Nat} {f : Nat → Int} {P P' Q : Nat} {x y : Lk}
theorem RX.mono (h : RX w R A len c f P Q x w1) (hP : P ≤ P') : RX w R A len c f P' Q x w1 := ⟨h.rd.mono hP, h.bx, h.rs, h.gr, h.far, h.old⟩
theorem RX.picked (h : RX w R A len c f P Q x w1) (hr : RD R A len c f P' w2) (hg : w1.grownBy w2 (some R)) : RX w R A len c f P' Q x w2 :=
  ⟨hr, h.bx.grown hg (by have := h.far; have := h.old; omega), h.rs.grown hg (by have := h.far; omega), grown_trans h.gr hg, h.far, h.old⟩
theorem rx_grown {w w' : World} (r : Option Nat) (h : Below w.heap.size w w') : w.grownBy w' r := ⟨h.os, h.tape, h.output, h.size, fun k hk _ => h.block k hk⟩
theorem RX.call (h : RX w R A len c f P Q x w1) (hb : Below w1.heap.size w1 w2) : RX w R A len c f P Q x w2 :=
  ⟨h.rd.below (hb.mono h.rd.lt), h.bx.below hb h.bx.lt, h.rs.below hb h.rs.lt, grown_trans h.gr (rx_grown _ hb), h.far, h.old⟩
theorem RX.setA (h : RX w R A len c f P Q x w1) (u : Int) : RX w R A len c f P Q ⟨u, x.b, x.c⟩ (w1.setCell ⟨Q, 0, none⟩ (.int .i64 u)) :=
  ⟨h.rd.set (q := ⟨Q, 0, none⟩) (Nat.lt_trans h.far h.old) _, heap_set h.bx 0 _, (Below.heap_setCell w1 ⟨Q, 0, none⟩ _ _ (Nat.ne_of_lt h.old)).trans h.rs, grown_setFar h.gr (p := ⟨Q, 0, none⟩) (Nat.le_of_lt h.old) _, h.far, h.old⟩
theorem RX.setB (h : RX w R A len c f P Q x w1) (u : Int) : RX w R A len c f P Q ⟨x.a, u, x.c⟩ (w1.setCell ⟨Q, 1, none⟩ (.int .i64 u)) :=
  ⟨h.rd.set (q := ⟨Q, 1, none⟩) (Nat.lt_trans h.far h.old) _, heap_set h.bx 1 _, (Below.heap_setCell w1 ⟨Q, 1, none⟩ _ _ (Nat.ne_of_lt h.old)).trans h.rs, grown_setFar h.gr (p := ⟨Q, 1, none⟩) (Nat.le_of_lt h.old) _, h.far, h.old⟩
theorem RX.setC (h : RX w R A len c f P Q x w1) (u : Int) : RX w R A len c f P Q ⟨x.a, x.b, u⟩ (w1.setCell ⟨Q, 2, none⟩ (.int .i64 u)) :=
  ⟨h.rd.set (q := ⟨Q, 2, none⟩) (Nat.lt_trans h.far h.old) _, heap_set h.bx 2 _, (Below.heap_setCell w1 ⟨Q, 2, none⟩ _ _ (Nat.ne_of_lt h.old)).trans h.rs, grown_setFar h.gr (p := ⟨Q, 2, none⟩) (Nat.le_of_lt h.old) _, h.far, h.old⟩
theorem rx_low {k : Nat} {b : Int} (hb : 0 ≤ b ∧ b ≤ 8) (hk : (k : Int) < 256) : (0 ≤ (k : Int) / lowB b * lowB b ∧ (k : Int) / lowB b * lowB b ≤ 255) ∧ 0 ≤ (k : Int) / lowB b ∧ (k : Int) / lowB b ≤ 255 := by
  rcases low_at hb with h | h | h | h | h | h | h | h | h <;> rw [h.2] <;> omega
end
/-- What 'l92Route' leaves. -/
def RouteD (R : Nat) (A : Option Addr) (len c P : Nat) (f : Nat → Int) (w : World) (e : Ending) (w' : World) : Prop :=
  ∃ x : Lk, e = .returned (rtV x) ∧ (-1 ≤ x.a ∧ x.a ≤ 256) ∧ (-1 ≤ x.b ∧ x.b ≤ 9) ∧ (-1 ≤ x.c ∧ x.c ≤ 9) ∧ RD R A len c f (P + 8) w' ∧ w.grownBy w' (some R)

set_option maxRecDepth 100000 in
set_option maxHeartbeats 4000000 in
theorem l92route_any (R : Nat) (A : Option Addr) (len c P : Nat) (f : Nat → Int) (w : World) (hlen : len ≤ 2000) (hP : P ≤ 900000) (hR : RD R A len c f P w) :
   Calls Try.prog 78 #[.pointer (some ⟨R, 0, none⟩)] w (RouteD R A len c P f w) := by
  have hRw := hR.lt
  have S0 := Lib.hid (hR.alloc (.cells #[.int .i64 0, .int .i64 0, .int .i64 0] 38))
  have B0 := Lib.hid (Box.new w 38 #[.int .i64 0, .int .i64 0, .int .i64 0])
  have G0 := Lib.hid (show w.grownBy (w.alloc (.cells #[.int .i64 0, .int .i64 0, .int .i64 0] 38)) (some R) from grown_alloc (World.grownBy.refl w _) _)
  clear hR
  go_enter Try.func78, Try.ntmps78
  go_wp2_with fail
  generalize w.alloc (.cells #[.int .i64 0, .int .i64 0, .int .i64 0] 38) = w0 at *
  refine (pick_rd R A len c P 9 f _ hlen (by omega) (by omega) (by omega) S0.out).mono ?_
  rintro e w1 ⟨k1, rfl, hk1, hR1, hg1, hs1, -⟩
  have B1 := Lib.hid (B0.out.grown hg1 (by omega))
  have G1 := Lib.hid (grown_trans G0.out hg1)
  have S1 := Lib.hid hR1
  clear hR1 hg1 hs1 S0 B0 G0
  go_wp2_with fail
  refine (pick_rd R A len c _ 3 f _ hlen (by omega) (by omega) (by omega) S1.out).mono ?_
  rintro e w2 ⟨k2, rfl, hk2, hR2, hg2, hs2, -⟩
  have B2 := Lib.hid (B1.out.grown hg2 (by omega))
  have G2 := Lib.hid (grown_trans G1.out hg2)
  have hz2 := B2.out.lt
  have X2 := Lib.hid (show RX w R A len c f (P + 1 + 1) w2.heap.size ⟨0, (k1 : Int), (k2 : Int)⟩ (w2.alloc (.cells #[.int .i64 0, .int .i64 (k1 : Int), .int .i64 (k2 : Int)] 38)) from
    ⟨hR2.alloc _, Box.new w2 _ _, B2.out.alloc _, grown_alloc G2.out _, hRw, hz2⟩)
  clear hR2 hg2 hs2 S1 B1 G1 B2 G2
  go_wp2_with fail
  generalize w2.alloc (.cells #[.int .i64 0, .int .i64 (k1 : Int), .int .i64 (k2 : Int)] 38) = w3 at *
  generalize w2.heap.size = Q at *
  refine (pick_rd R A len c _ 2 f _ hlen (by omega) (by omega) (by omega) X2.out.rd).mono ?_
  rintro e w4 ⟨k3, rfl, hk3, hR4, hg4, hs4, -⟩
  have X4 := Lib.hid (X2.out.picked hR4 hg4)
  clear hR4 hg4 hs4 X2
  by_cases h3 : k3 = 0
  · subst h3
    go_wp2_with fail
    refine (pick_rd R A len c _ 4 f _ hlen (by omega) (by omega) (by omega) X4.out.rd).mono ?_
    rintro e w5 ⟨k5, rfl, hk5, hR5, hg5, hs5, -⟩
    have X5 := Lib.hid (X4.out.picked hR5 hg5)
    clear hR5 hg5 hs5 X4
    have X6 := Lib.hid (X5.out.setB (k5 : Int))
    obtain ⟨y5, a0, a1, a2, f0, f1, f2⟩ := X5.out.bx.trip
    go_wp2_with fail
    clear X5 a0 a1 a2 f0 f1 f2 y5
    have X5 := Lib.hid X6.out
    clear X6
    generalize w5.setCell ⟨Q, 1, none⟩ (.int .i64 (k5 : Int)) = w55 at *
    have hb5 : (0 : Int) ≤ (k5 : Int) := by omega
    obtain ⟨y5, a0, a1, a2, -, -, -⟩ := X5.out.bx.trip
    have CL := fun W => l23low_any ((k5 : Int)) W (by omega)
    go_wp2_with fail
    refine (CL _).mono ?_
    clear CL
    rintro e w6 ⟨rfl, hb6⟩
    have X6 := Lib.hid (X5.out.call hb6)
    have hL := low_pos (b := ((k5 : Int))) (by omega)
    have HV := Lib.hid (fun (k : Nat) (hk : (k : Int) < 256) => rx_low (b := ((k5 : Int))) (k := k) (by omega) hk)
    clear hb6 X5 a0 a1 a2 y5
    generalize lowB ((k5 : Int)) = L at *
    go_wp2_with fail
    refine (pick_rd R A len c _ 256 f _ hlen (by omega) (by omega) (by omega) X6.out.rd).mono ?_
    rintro e w7 ⟨k7, rfl, hk7, hR7, hg7, hs7, -⟩
    have X7 := Lib.hid (X6.out.picked hR7 hg7)
    clear hR7 hg7 hs7 X6
    obtain ⟨hv, hd⟩ := HV.out k7 hk7
    have hL0 : (L == 0) = false := beq_eq_false_iff_ne.2 (by omega)
    have hz : Hid (wrap64 (wrap64 ((k7 : Int) / L) * L) = (k7 : Int) / L * L) := Lib.hid (by rw [IntWalk.wrap64_in ((k7 : Int) / L) (by omega), IntWalk.wrap64_in _ (by omega)])
    obtain ⟨y7, a0, a1, a2, f0, f1, f2⟩ := X7.out.bx.trip
    clear HV
    go_wp2_with fail
    have X8 := Lib.hid (X7.out.setA ((k7 : Int) / L * L))
    clear X7 hz hL0 hd a0 a1 a2 f0 f1 f2 y7
    generalize (k7 : Int) / L * L = z at *
    generalize w7.setCell ⟨Q, 0, none⟩ (.int .i64 z) = w8 at *
    refine (pick_rd R A len c _ 24 f _ hlen (by omega) (by omega) (by omega) X8.out.rd).mono ?_
    rintro e w9 ⟨k9, rfl, hk9, hR9, hg9, hs9, -⟩
    have X9 := Lib.hid (X8.out.picked hR9 hg9)
    clear hR9 hg9 hs9 X8
    obtain ⟨y9, a0, a1, a2, f0, f1, f2⟩ := X9.out.bx.trip
    obtain ⟨q9, r9, s9, t9, u9, v9, x9⟩ := X9.out.rs.trip
    by_cases h90 : k9 = 0
    · subst h90
      have hw : IntKind.i64.wrap (z + 1) = z + 1 := IntWalk.i64_in _ (by omega)
      have X10 := Lib.hid ((X9.out.setA (z + 1)).mono (P' := P + 8) (by omega))
      go_wp2_with fail
      obtain ⟨b2, r0, r1, r2⟩ := ret3 X10.out.rs (.int .i64 (z + 1)) (.int .i64 ((k5 : Int))) (.int .i64 ((k2 : Int)))
      refine bodyPost_ret (v := rtV ⟨z + 1, (k5 : Int), (k2 : Int)⟩) (by simp [results, Try.results78, go_sem, r0, r1, r2]) rfl ?_
      exact ⟨⟨z + 1, (k5 : Int), (k2 : Int)⟩, rfl, by dsimp only; omega, by dsimp only; omega, by dsimp only; omega, ((X10.out.rd.set (q := ⟨w.heap.size, 0, none⟩) hRw _).set (q := ⟨w.heap.size, 1, none⟩) hRw _).set (q := ⟨w.heap.size, 2, none⟩) hRw _, grown_setFar (grown_setFar (grown_setFar X10.out.gr (p := ⟨w.heap.size, 0, none⟩) (Nat.le_refl _) _) (p := ⟨w.heap.size, 1, none⟩) (Nat.le_refl _) _) (p := ⟨w.heap.size, 2, none⟩) (Nat.le_refl _) _⟩
    · have h90' : ((k9 : Int) == 0) = false := by simpa using h90
      by_cases h91 : k9 = 1
      · subst h91
        go_wp2_with fail
        refine (pick_rd R A len c _ 7 f _ hlen (by omega) (by omega) (by omega) X9.out.rd).mono ?_
        rintro e w10 ⟨k10, rfl, hk10, hR10, hg10, hs10, -⟩
        have X9b := Lib.hid (X9.out.picked hR10 hg10)
        clear hR10 hg10 hs10 X9 q9 r9 s9 t9 u9 v9 x9 a0 a1 a2 f0 f1 f2 y9
        obtain ⟨y9, a0, a1, a2, f0, f1, f2⟩ := X9b.out.bx.trip
        obtain ⟨q9, r9, s9, t9, u9, v9, x9⟩ := X9b.out.rs.trip
        have hw : IntKind.i64.wrap ((k10 : Int) - 1) = (k10 : Int) - 1 := IntWalk.i64_in _ (by omega)
        have X10 := Lib.hid ((X9b.out.setC ((k10 : Int) - 1)).mono (P' := P + 8) (by omega))
        go_wp2_with fail
        obtain ⟨b2, r0, r1, r2⟩ := ret3 X10.out.rs (.int .i64 (z)) (.int .i64 ((k5 : Int))) (.int .i64 ((k10 : Int) - 1))
        refine bodyPost_ret (v := rtV ⟨z, (k5 : Int), (k10 : Int) - 1⟩) (by simp [results, Try.results78, go_sem, r0, r1, r2]) rfl ?_
        exact ⟨⟨z, (k5 : Int), (k10 : Int) - 1⟩, rfl, by dsimp only; omega, by dsimp only; omega, by dsimp only; omega, ((X10.out.rd.set (q := ⟨w.heap.size, 0, none⟩) hRw _).set (q := ⟨w.heap.size, 1, none⟩) hRw _).set (q := ⟨w.heap.size, 2, none⟩) hRw _, grown_setFar (grown_setFar (grown_setFar X10.out.gr (p := ⟨w.heap.size, 0, none⟩) (Nat.le_refl _) _) (p := ⟨w.heap.size, 1, none⟩) (Nat.le_refl _) _) (p := ⟨w.heap.size, 2, none⟩) (Nat.le_refl _) _⟩
      · have h91' : ((k9 : Int) == 1) = false := beq_eq_false_iff_ne.2 (by omega)
        by_cases h92 : k9 = 2
        · subst h92
          go_wp2_with fail
          refine (pick_rd R A len c _ 2 f _ hlen (by omega) (by omega) (by omega) X9.out.rd).mono ?_
          rintro e w10 ⟨k10, rfl, hk10, hR10, hg10, hs10, -⟩
          have X9b := Lib.hid (X9.out.picked hR10 hg10)
          clear hR10 hg10 hs10 X9 q9 r9 s9 t9 u9 v9 x9 a0 a1 a2 f0 f1 f2 y9
          obtain ⟨y9, a0, a1, a2, f0, f1, f2⟩ := X9b.out.bx.trip
          obtain ⟨q9, r9, s9, t9, u9, v9, x9⟩ := X9b.out.rs.trip
          have hw : IntKind.i64.wrap ((k10 : Int) * 10) = (k10 : Int) * 10 := IntWalk.i64_in _ (by omega)
          have hw' : IntKind.i64.wrap ((k10 : Int) * 10 - 1) = (k10 : Int) * 10 - 1 := IntWalk.i64_in _ (by omega)
          have X10 := Lib.hid ((X9b.out.setB ((k10 : Int) * 10 - 1)).mono (P' := P + 8) (by omega))
          go_wp2_with fail
          obtain ⟨b2, r0, r1, r2⟩ := ret3 X10.out.rs (.int .i64 (z)) (.int .i64 ((k10 : Int) * 10 - 1)) (.int .i64 ((k2 : Int)))
          refine bodyPost_ret (v := rtV ⟨z, (k10 : Int) * 10 - 1, (k2 : Int)⟩) (by simp [results, Try.results78, go_sem, r0, r1, r2]) rfl ?_
          exact ⟨⟨z, (k10 : Int) * 10 - 1, (k2 : Int)⟩, rfl, by dsimp only; omega, by dsimp only; omega, by dsimp only; omega, ((X10.out.rd.set (q := ⟨w.heap.size, 0, none⟩) hRw _).set (q := ⟨w.heap.size, 1, none⟩) hRw _).set (q := ⟨w.heap.size, 2, none⟩) hRw _, grown_setFar (grown_setFar (grown_setFar X10.out.gr (p := ⟨w.heap.size, 0, none⟩) (Nat.le_refl _) _) (p := ⟨w.heap.size, 1, none⟩) (Nat.le_refl _) _) (p := ⟨w.heap.size, 2, none⟩) (Nat.le_refl _) _⟩
        · have h92' : ((k9 : Int) == 2) = false := beq_eq_false_iff_ne.2 (by omega)
          have X10 := Lib.hid (X9.out.mono (P' := P + 8) (by omega))
          go_wp2_with fail
          obtain ⟨b2, r0, r1, r2⟩ := ret3 X10.out.rs (.int .i64 (z)) (.int .i64 ((k5 : Int))) (.int .i64 ((k2 : Int)))
          refine bodyPost_ret (v := rtV ⟨z, (k5 : Int), (k2 : Int)⟩) (by simp [results, Try.results78, go_sem, r0, r1, r2]) rfl ?_
          exact ⟨⟨z, (k5 : Int), (k2 : Int)⟩, rfl, by dsimp only; omega, by dsimp only; omega, by dsimp only; omega, ((X10.out.rd.set (q := ⟨w.heap.size, 0, none⟩) hRw _).set (q := ⟨w.heap.size, 1, none⟩) hRw _).set (q := ⟨w.heap.size, 2, none⟩) hRw _, grown_setFar (grown_setFar (grown_setFar X10.out.gr (p := ⟨w.heap.size, 0, none⟩) (Nat.le_refl _) _) (p := ⟨w.heap.size, 1, none⟩) (Nat.le_refl _) _) (p := ⟨w.heap.size, 2, none⟩) (Nat.le_refl _) _⟩
  · have h3' : ((k3 : Int) == 0) = false := by simpa using h3
    have hb5 : (0 : Int) ≤ (k1 : Int) := by omega
    obtain ⟨y5, a0, a1, a2, -, -, -⟩ := X4.out.bx.trip
    have CL := fun W => l23low_any ((k1 : Int)) W (by omega)
    go_wp2_with fail
    refine (CL _).mono ?_
    clear CL
    rintro e w6 ⟨rfl, hb6⟩
    have X6 := Lib.hid (X4.out.call hb6)
    have hL := low_pos (b := ((k1 : Int))) (by omega)
    have HV := Lib.hid (fun (k : Nat) (hk : (k : Int) < 256) => rx_low (b := ((k1 : Int))) (k := k) (by omega) hk)
    clear hb6 X4 a0 a1 a2 y5
    generalize lowB ((k1 : Int)) = L at *
    go_wp2_with fail
    refine (pick_rd R A len c _ 256 f _ hlen (by omega) (by omega) (by omega) X6.out.rd).mono ?_
    rintro e w7 ⟨k7, rfl, hk7, hR7, hg7, hs7, -⟩
    have X7 := Lib.hid (X6.out.picked hR7 hg7)
    clear hR7 hg7 hs7 X6
    obtain ⟨hv, hd⟩ := HV.out k7 hk7
    have hL0 : (L == 0) = false := beq_eq_false_iff_ne.2 (by omega)
    have hz : Hid (wrap64 (wrap64 ((k7 : Int) / L) * L) = (k7 : Int) / L * L) := Lib.hid (by rw [IntWalk.wrap64_in ((k7 : Int) / L) (by omega), IntWalk.wrap64_in _ (by omega)])
    obtain ⟨y7, a0, a1, a2, f0, f1, f2⟩ := X7.out.bx.trip
    clear HV
    go_wp2_with fail
    have X8 := Lib.hid (X7.out.setA ((k7 : Int) / L * L))
    clear X7 hz hL0 hd a0 a1 a2 f0 f1 f2 y7
    generalize (k7 : Int) / L * L = z at *
    generalize w7.setCell ⟨Q, 0, none⟩ (.int .i64 z) = w8 at *
    refine (pick_rd R A len c _ 24 f _ hlen (by omega) (by omega) (by omega) X8.out.rd).mono ?_
    rintro e w9 ⟨k9, rfl, hk9, hR9, hg9, hs9, -⟩
    have X9 := Lib.hid (X8.out.picked hR9 hg9)
    clear hR9 hg9 hs9 X8
    obtain ⟨y9, a0, a1, a2, f0, f1, f2⟩ := X9.out.bx.trip
    obtain ⟨q9, r9, s9, t9, u9, v9, x9⟩ := X9.out.rs.trip
    by_cases h90 : k9 = 0
    · subst h90
      have hw : IntKind.i64.wrap (z + 1) = z + 1 := IntWalk.i64_in _ (by omega)
      have X10 := Lib.hid ((X9.out.setA (z + 1)).mono (P' := P + 8) (by omega))
      go_wp2_with fail
      obtain ⟨b2, r0, r1, r2⟩ := ret3 X10.out.rs (.int .i64 (z + 1)) (.int .i64 ((k1 : Int))) (.int .i64 ((k2 : Int)))
      refine bodyPost_ret (v := rtV ⟨z + 1, (k1 : Int), (k2 : Int)⟩) (by simp [results, Try.results78, go_sem, r0, r1, r2]) rfl ?_
      exact ⟨⟨z + 1, (k1 : Int), (k2 : Int)⟩, rfl, by dsimp only; omega, by dsimp only; omega, by dsimp only; omega, ((X10.out.rd.set (q := ⟨w.heap.size, 0, none⟩) hRw _).set (q := ⟨w.heap.size, 1, none⟩) hRw _).set (q := ⟨w.heap.size, 2, none⟩) hRw _, grown_setFar (grown_setFar (grown_setFar X10.out.gr (p := ⟨w.heap.size, 0, none⟩) (Nat.le_refl _) _) (p := ⟨w.heap.size, 1, none⟩) (Nat.le_refl _) _) (p := ⟨w.heap.size, 2, none⟩) (Nat.le_refl _) _⟩
    · have h90' : ((k9 : Int) == 0) = false := by simpa using h90
      by_cases h91 : k9 = 1
      · subst h91
        go_wp2_with fail
        refine (pick_rd R A len c _ 7 f _ hlen (by omega) (by omega) (by omega) X9.out.rd).mono ?_
        rintro e w10 ⟨k10, rfl, hk10, hR10, hg10, hs10, -⟩
        have X9b := Lib.hid (X9.out.picked hR10 hg10)
        clear hR10 hg10 hs10 X9 q9 r9 s9 t9 u9 v9 x9 a0 a1 a2 f0 f1 f2 y9
        obtain ⟨y9, a0, a1, a2, f0, f1, f2⟩ := X9b.out.bx.trip
        obtain ⟨q9, r9, s9, t9, u9, v9, x9⟩ := X9b.out.rs.trip
        have hw : IntKind.i64.wrap ((k10 : Int) - 1) = (k10 : Int) - 1 := IntWalk.i64_in _ (by omega)
        have X10 := Lib.hid ((X9b.out.setC ((k10 : Int) - 1)).mono (P' := P + 8) (by omega))
        go_wp2_with fail
        obtain ⟨b2, r0, r1, r2⟩ := ret3 X10.out.rs (.int .i64 (z)) (.int .i64 ((k1 : Int))) (.int .i64 ((k10 : Int) - 1))
        refine bodyPost_ret (v := rtV ⟨z, (k1 : Int), (k10 : Int) - 1⟩) (by simp [results, Try.results78, go_sem, r0, r1, r2]) rfl ?_
        exact ⟨⟨z, (k1 : Int), (k10 : Int) - 1⟩, rfl, by dsimp only; omega, by dsimp only; omega, by dsimp only; omega, ((X10.out.rd.set (q := ⟨w.heap.size, 0, none⟩) hRw _).set (q := ⟨w.heap.size, 1, none⟩) hRw _).set (q := ⟨w.heap.size, 2, none⟩) hRw _, grown_setFar (grown_setFar (grown_setFar X10.out.gr (p := ⟨w.heap.size, 0, none⟩) (Nat.le_refl _) _) (p := ⟨w.heap.size, 1, none⟩) (Nat.le_refl _) _) (p := ⟨w.heap.size, 2, none⟩) (Nat.le_refl _) _⟩
      · have h91' : ((k9 : Int) == 1) = false := beq_eq_false_iff_ne.2 (by omega)
        by_cases h92 : k9 = 2
        · subst h92
          go_wp2_with fail
          refine (pick_rd R A len c _ 2 f _ hlen (by omega) (by omega) (by omega) X9.out.rd).mono ?_
          rintro e w10 ⟨k10, rfl, hk10, hR10, hg10, hs10, -⟩
          have X9b := Lib.hid (X9.out.picked hR10 hg10)
          clear hR10 hg10 hs10 X9 q9 r9 s9 t9 u9 v9 x9 a0 a1 a2 f0 f1 f2 y9
          obtain ⟨y9, a0, a1, a2, f0, f1, f2⟩ := X9b.out.bx.trip
          obtain ⟨q9, r9, s9, t9, u9, v9, x9⟩ := X9b.out.rs.trip
          have hw : IntKind.i64.wrap ((k10 : Int) * 10) = (k10 : Int) * 10 := IntWalk.i64_in _ (by omega)
          have hw' : IntKind.i64.wrap ((k10 : Int) * 10 - 1) = (k10 : Int) * 10 - 1 := IntWalk.i64_in _ (by omega)
          have X10 := Lib.hid ((X9b.out.setB ((k10 : Int) * 10 - 1)).mono (P' := P + 8) (by omega))
          go_wp2_with fail
          obtain ⟨b2, r0, r1, r2⟩ := ret3 X10.out.rs (.int .i64 (z)) (.int .i64 ((k10 : Int) * 10 - 1)) (.int .i64 ((k2 : Int)))
          refine bodyPost_ret (v := rtV ⟨z, (k10 : Int) * 10 - 1, (k2 : Int)⟩) (by simp [results, Try.results78, go_sem, r0, r1, r2]) rfl ?_
          exact ⟨⟨z, (k10 : Int) * 10 - 1, (k2 : Int)⟩, rfl, by dsimp only; omega, by dsimp only; omega, by dsimp only; omega, ((X10.out.rd.set (q := ⟨w.heap.size, 0, none⟩) hRw _).set (q := ⟨w.heap.size, 1, none⟩) hRw _).set (q := ⟨w.heap.size, 2, none⟩) hRw _, grown_setFar (grown_setFar (grown_setFar X10.out.gr (p := ⟨w.heap.size, 0, none⟩) (Nat.le_refl _) _) (p := ⟨w.heap.size, 1, none⟩) (Nat.le_refl _) _) (p := ⟨w.heap.size, 2, none⟩) (Nat.le_refl _) _⟩
        · have h92' : ((k9 : Int) == 2) = false := beq_eq_false_iff_ne.2 (by omega)
          have X10 := Lib.hid (X9.out.mono (P' := P + 8) (by omega))
          go_wp2_with fail
          obtain ⟨b2, r0, r1, r2⟩ := ret3 X10.out.rs (.int .i64 (z)) (.int .i64 ((k1 : Int))) (.int .i64 ((k2 : Int)))
          refine bodyPost_ret (v := rtV ⟨z, (k1 : Int), (k2 : Int)⟩) (by simp [results, Try.results78, go_sem, r0, r1, r2]) rfl ?_
          exact ⟨⟨z, (k1 : Int), (k2 : Int)⟩, rfl, by dsimp only; omega, by dsimp only; omega, by dsimp only; omega, ((X10.out.rd.set (q := ⟨w.heap.size, 0, none⟩) hRw _).set (q := ⟨w.heap.size, 1, none⟩) hRw _).set (q := ⟨w.heap.size, 2, none⟩) hRw _, grown_setFar (grown_setFar (grown_setFar X10.out.gr (p := ⟨w.heap.size, 0, none⟩) (Nat.le_refl _) _) (p := ⟨w.heap.size, 1, none⟩) (Nat.le_refl _) _) (p := ⟨w.heap.size, 2, none⟩) (Nat.le_refl _) _⟩
end Go.Proofs.Ytohflcbpjjnccab
