/-
  Contracts over this seat: a drawn cost; what the laws of changed costs draw.
-/
import Derived.Test.YtkdcialdjnedeaaDraw3
namespace Go.Proofs.Ytkdcialdjnedeaa
open Go.RowKit

theorem three_at {w : World} {b k t : Nat} {x y z : Int} (h : Box w b t #[.int .i64 x, .int .i64 y, .int .i64 z]) (hk : k < 3) :
    ∃ v : Int, w.cell? ⟨b, k, none⟩ = some (.int .i64 v) ∧ (v = x ∨ v = y ∨ v = z) ∧ (#[.int .i64 x, .int .i64 y, .int .i64 z] : Array Value)[k]? = some (.int .i64 v) := by
  have h := h.cell k
  rcases (show k = 0 ∨ k = 1 ∨ k = 2 by omega) with rfl | rfl | rfl
  · exact ⟨x, h, .inl rfl, rfl⟩
  · exact ⟨y, h, .inr (.inl rfl), rfl⟩
  · exact ⟨z, h, .inr (.inr rfl), rfl⟩

set_option maxRecDepth 100000 in
theorem costn_any (R : Nat) (A : Option Addr) (len c P : Nat) (f : Nat → Int) (w : World) (hlen : len ≤ 2000) (hP : P ≤ 10000) (hR : RD R A len c f P w) :
   Calls Try.prog 45 #[.pointer (some ⟨R, 0, none⟩)] w fun e w' => ∃ k : Int, e = .returned (.int .i64 k) ∧ 0 ≤ k ∧ k ≤ 21 ∧ RD R A len c f (P + 2) w' ∧ w.grownBy w' (some R) := by
  have zR := hR.lt
  have HR := Lib.hid hR
  clear hR
  go_enter Try.func45, Try.ntmps45
  go_wp2_with fail
  refine (pick_rd R A len c P 12 f _ hlen (by omega) (by omega) (by omega) HR.out).mono ?_
  rintro e w1 ⟨k1, rfl, hk1, hR1, hg1, hs1, hb1⟩
  have H1 := Lib.hid hR1
  have G1 := Lib.hid hg1
  have z1 := hR1.lt
  clear hR1 hg1 hb1 HR
  by_cases h0 : k1 = 0
  · subst h0
    go_wp2_with fail
    refine (pick_rd R A len c _ _ f _ hlen (by omega) (by omega) (by omega) (H1.out.alloc _)).mono ?_
    rintro e w2 ⟨k2, rfl, hk2, hR2, hg2, hs2, hb2⟩
    obtain ⟨v2, e2, hv2, -⟩ := three_at ((Box.new w1 3 #[.int .i64 0, .int .i64 20, .int .i64 21]).grown hg2 (by omega)) (k := k2) (by omega)
    have H2 := Lib.hid hR2
    have G2 := Lib.hid (grown_trans (grown_alloc G1.out (.cells #[.int .i64 0, .int .i64 20, .int .i64 21] 3)) hg2)
    have q2 : w1.heap.size < w2.heap.size := by rw [hs2, World.size_alloc]; omega
    rw [hs1] at e2 q2
    clear hR2 hg2 hs2 hb2
    go_wp2_with fail
    go_ret
    exact ⟨v2, rfl, by omega, by omega, H2.out, G2.out⟩
  · have h0' : ((k1 : Int) == 0) = false := by simpa using h0
    go_wp2_with fail
    refine (pick_rd R A len c (P + 1) 9 f _ hlen (by omega) (by omega) (by omega) H1.out).mono ?_
    rintro e w2 ⟨k2, rfl, hk2, hR2, hg2, hs2, hb2⟩
    have H2 := Lib.hid hR2
    have G2 := Lib.hid (grown_trans G1.out hg2)
    clear hR2 hg2 hs2 hb2
    go_wp2_with fail
    go_ret
    exact ⟨1 + (k2 : Int), ret_int (by omega), by omega, by omega, H2.out, G2.out⟩

set_option maxRecDepth 100000 in
theorem drawAft_any (A : Option Addr) (len c : Nat) (f : Nat → Int) (w : World) (hlc : len ≤ c) (hc : c ≤ maxLen) (hB : Byt w w.heap.size A len f) :
   Calls Try.prog 23 #[.slice A len c] w fun e w' => ∃ (n : Int) (ls : List Lk) (A' : Option Addr) (g' c' : Nat) (x z y : Int), e = .returned (.tuple #[gval n A' ls.length c', .int .i64 x, .int .i64 z, .int .i64 y]) ∧ DG w n ls A' g' w' ∧ -1 ≤ x ∧ x ≤ 10 ∧ -1 ≤ z ∧ z ≤ 16 ∧ 0 ≤ y ∧ y ≤ 21 := by
  have HB := Lib.hid (hB.alloc (.cells #[.int .i64 0, .slice none 0 0] 30))
  have HQ := Lib.hid (Box.new w 30 #[.int .i64 0, .slice none 0 0])
  clear hB
  go_enter Try.func23, Try.ntmps23
  go_wp2_with fail
  refine (open_any A len c f _ hlc hc HB.out).mono ?_
  rintro e w1 ⟨l1, hl1, rfl, hr1, hb1, hs1⟩
  rw [World.size_alloc] at hr1 hb1 hs1
  have H1 := Lib.hid hr1
  have B1 := Lib.hid (Below.trans (B := w.heap.size) (a := w) (by (repeat (first | exact Below.refl _ _ | (refine Below.alloc ?_ (by first | exact Nat.le_refl _ | omega | (simp; done) | (simp; omega)) _) | (refine Below.setCell ?_ (by first | exact Nat.le_refl _ | omega | (simp; done) | (simp; omega)) _) | exact Below.drew ‹_›))) (hb1.mono (by omega)))
  have Q1 := Lib.hid (HQ.out.below hb1 (by omega))
  clear hr1 hb1 HQ HB
  have hq := World.size_alloc w (.cells #[.int .i64 0, .slice none 0 0] 30)
  rw [hq]
  go_wp2_with fail
  refine (spoilt_any _ A l1 c 0 f w1 hl1 (by omega) H1.out).mono ?_
  rintro e w2 ⟨n, ls, A2, g2, c2, rfl, hn0, hn1, hls, hg2, ho2, hr2, hb2, -⟩
  have D2 := Lib.hid (show DI w (w.heap.size + 1) w.heap.size w2.heap.size A l1 c f (0 + 1010) n ls A2 g2 c2 (w2.alloc (.cells #[.int .i64 n, .slice A2 ls.length c2] 30)) from
    ⟨hr2.alloc _, (Q1.out.grown hb2 (by omega)).alloc _, Box.new w2 _ _, ho2.alloc _, (B1.out.grown hb2 (by omega) (fun k e => by injection e with e; omega)).alloc (by have := hb2.size; omega) _,
      by omega, by omega, by omega, by omega, by have := hb2.size; omega, by omega, by have := hb2.size; omega⟩)
  clear hr2 hb2 ho2 H1 B1 Q1
  generalize hG : w2.heap.size = G at *
  go_wp2_with fail
  refine (node_any _ A l1 c _ f n A2 ls.length c2 _ hl1 (by omega) hn0 hn1 D2.out.1).mono ?_
  rintro e w3 ⟨x, rfl, hx0, hx1, hr3, hb3⟩
  have D3 := Lib.hid (D2.out.node hr3 hb3)
  clear hr3 hb3 D2 hG
  obtain ⟨zg, d0, d1, p0, p1⟩ := D3.out.2.2.1.two
  obtain ⟨zq, e0, e1, q0, q1⟩ := D3.out.2.1.two
  go_wp2_with fail
  refine (linkn_any _ A l1 c _ f n A2 ls.length c2 _ hl1 (by omega) hls D3.out.1).mono ?_
  rintro e w4 ⟨z, rfl, hz0, hz1, hr4, hb4⟩
  have D3 := Lib.hid (D3.out.node hr4 hb4)
  clear hr4 hb4 zg zq e0 e1 q0 q1 d0 d1 p0 p1
  obtain ⟨zg, d0, d1, p0, p1⟩ := D3.out.2.2.1.two
  obtain ⟨zq, e0, e1, q0, q1⟩ := D3.out.2.1.two
  have D4 := Lib.hid D3.out.drew
  clear D3
  go_wp2_with fail
  go_region_law (go_simp; go_at_call 45; refine (costn_any _ A l1 c _ f _ hl1 (by omega) D4.out.1).mono ?_; rintro e w5 ⟨y, rfl, hy0, hy1, hr5, hb5⟩; have D5 := Lib.hid (D4.out.node hr5 hb5); obtain ⟨yg, x0, x1, r0, r1⟩ := D5.out.2.2.1.two; obtain ⟨yq, y0, y1, s0, s1⟩ := D5.out.2.1.two)
  all_goals
    go_wp2_with fail
    obtain ⟨b2, r0, r1⟩ := ret_two D5.out.2.1 (.int .i64 n) (.slice A2 ls.length c2)
    refine bodyPost_ret (v := .tuple #[gval n A2 ls.length c2, .int .i64 x, .int .i64 z, .int .i64 y]) (by simp [results, Try.results23, go_sem, r0, r1]) rfl ?_
    exact ⟨n, ls, A2, g2, c2, x, z, y, rfl, D5.out.dg hn0 hn1 hls _ _, hx0, hx1, hz0, hz1, hy0, hy1⟩

set_option maxRecDepth 100000 in
theorem drawAff_any (A : Option Addr) (len c : Nat) (f : Nat → Int) (w : World) (hlc : len ≤ c) (hc : c ≤ maxLen) (hB : Byt w w.heap.size A len f) :
   Calls Try.prog 27 #[.slice A len c] w fun e w' => ∃ (n : Int) (ls : List Lk) (A' : Option Addr) (g' c' : Nat) (x z y : Int), e = .returned (.tuple #[gval n A' ls.length c', .int .i64 x, .int .i64 z, .int .i64 y]) ∧ DG w n ls A' g' w' ∧ -1 ≤ x ∧ x ≤ 10 ∧ -1 ≤ z ∧ z ≤ 16 ∧ 0 ≤ y ∧ y ≤ 21 := by
  have HB := Lib.hid (hB.alloc (.cells #[.int .i64 0, .slice none 0 0] 30))
  have HQ := Lib.hid (Box.new w 30 #[.int .i64 0, .slice none 0 0])
  clear hB
  go_enter Try.func27, Try.ntmps27
  go_wp2_with fail
  refine (drawAft_any A len c f _ hlc hc HB.out).mono ?_
  rintro e w1 ⟨n, ls, A2, g2, c2, x, z, y, rfl, ⟨hn0, hn1, hls, hg2, ho2, hb2⟩, hx0, hx1, hz0, hz1, hy0, hy1⟩
  rw [World.size_alloc] at hg2 hb2
  have Q1 := HQ.out.below hb2 (by omega)
  have B1 := Lib.hid (Below.trans (B := w.heap.size) (a := w) (by (repeat (first | exact Below.refl _ _ | (refine Below.alloc ?_ (by first | exact Nat.le_refl _ | omega | (simp; done) | (simp; omega)) _) | (refine Below.setCell ?_ (by first | exact Nat.le_refl _ | omega | (simp; done) | (simp; omega)) _) | exact Below.drew ‹_›))) (hb2.mono (by omega)))
  have O1 := Lib.hid ho2
  clear HQ HB hb2 ho2
  obtain ⟨zq, e0, e1, q0, q1⟩ := Q1.two
  go_wp2_with fail
  obtain ⟨b2, r0, r1⟩ := ret_two Q1 (.int .i64 n) (.slice A2 ls.length c2)
  refine bodyPost_ret (v := .tuple #[gval n A2 ls.length c2, .int .i64 x, .int .i64 z, .int .i64 y]) (by simp [results, Try.results27, go_sem, r0, r1]) rfl ?_
  exact ⟨n, ls, A2, g2, c2, x, z, y, rfl, ⟨hn0, hn1, hls, by omega, (O1.out.set_box Q1 (by decide) 0 _).set_box (heap_set Q1 0 _) (by decide) 1 _, (B1.out.setCell (p := ⟨w.heap.size, 0, none⟩) (Nat.le_refl _) _).setCell (p := ⟨w.heap.size, 1, none⟩) (Nat.le_refl _) _⟩, hx0, hx1, hz0, hz1, hy0, hy1⟩

end Go.Proofs.Ytkdcialdjnedeaa
