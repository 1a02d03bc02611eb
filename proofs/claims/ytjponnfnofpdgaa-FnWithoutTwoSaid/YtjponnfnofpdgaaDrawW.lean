/-
  Contracts over this seat: what the laws of critical links and of removed links draw; the drawn slice's capacity holds its links.
-/
import Derived.Test.YtjponnfnofpdgaaDrawC
namespace Go.Proofs.Ytjponnfnofpdgaa
open Go.RowKit

set_option maxRecDepth 100000 in
theorem drawCrit_any (A : Option Addr) (len c : Nat) (f : Nat → Int) (w : World) (hlc : len ≤ c) (hc : c ≤ maxLen) (hB : Byt w w.heap.size A len f) :
   Calls Try.prog 20 #[.slice A len c] w fun e w' => ∃ (n : Int) (ls : List Lk) (A' : Option Addr) (g' c' : Nat), e = .returned (gval n A' ls.length c') ∧ DG w n ls A' g' w' ∧ ls.length ≤ c' := by
  have HB := Lib.hid (hB.alloc (.cells #[.int .i64 0, .slice none 0 0] 30))
  have HQ := Lib.hid (Box.new w 30 #[.int .i64 0, .slice none 0 0])
  clear hB
  go_enter Try.func20, Try.ntmps20
  go_wp2_with fail
  refine (open_any A len c f _ hlc hc HB.out).mono ?_
  rintro e w1 ⟨l1, hl1, rfl, hr1, hb1, hs1⟩
  rw [World.size_alloc] at hr1 hb1 hs1
  have H1 := Lib.hid hr1
  have B1 := Lib.hid (Below.trans (B := w.heap.size) (a := w) (by (repeat (first | exact Below.refl _ _ | (refine Below.alloc ?_ (by first | exact Nat.le_refl _ | omega | (simp; done) | (simp; omega)) _) | (refine Below.setCell ?_ (by first | exact Nat.le_refl _ | omega | (simp; done) | (simp; omega)) _) | exact Below.drew ‹_›))) (hb1.mono (by omega)))
  have Q1 := Lib.hid (HQ.out.below hb1 (by omega))
  clear hr1 hb1 HQ HB
  have hq := World.size_alloc w (.cells #[.int .i64 0, .slice none 0 0] 30)
  rw [hq]
  go_wp2_with fail
  refine (spoilt_any _ A l1 c 0 f w1 hl1 (by omega) H1.out).mono ?_
  rintro e w2 ⟨n, ls, A2, g2, c2, rfl, hn0, hn1, hls, hg2, ho2, hr2, hb2, hcap⟩
  have Q2 := Q1.out.grown hb2 (by omega)
  have B2 := Lib.hid (B1.out.grown hb2 (by omega) (fun k e => by injection e with e; omega))
  have O2 := Lib.hid ho2
  clear hb2 hr2 H1 B1 Q1 ho2
  obtain ⟨zq, e0, e1, q0, q1⟩ := Q2.two
  go_wp2_with fail
  obtain ⟨b2, r0, r1⟩ := ret_two Q2 (.int .i64 n) (.slice A2 ls.length c2)
  refine bodyPost_ret (v := gval n A2 ls.length c2) (by simp [results, Try.results20, go_sem, r0, r1]) rfl ?_
  exact ⟨n, ls, A2, g2, c2, rfl, ⟨hn0, hn1, hls, by omega, (O2.out.set_box Q2 (by decide) 0 _).set_box (heap_set Q2 0 _) (by decide) 1 _, (B2.out.setCell (p := ⟨w.heap.size, 0, none⟩) (Nat.le_refl _) _).setCell (p := ⟨w.heap.size, 1, none⟩) (Nat.le_refl _) _⟩, hcap⟩

set_option maxRecDepth 100000 in
theorem drawWo_any (A : Option Addr) (len c : Nat) (f : Nat → Int) (w : World) (hlc : len ≤ c) (hc : c ≤ maxLen) (hB : Byt w w.heap.size A len f) :
   Calls Try.prog 29 #[.slice A len c] w fun e w' => ∃ (n : Int) (ls : List Lk) (A' : Option Addr) (g' c' : Nat) (x : Int), e = .returned (.tuple #[gval n A' ls.length c', .int .i64 x]) ∧ DG w n ls A' g' w' ∧ -1 ≤ x ∧ x ≤ 16 ∧ ls.length ≤ c' := by
  have HB := Lib.hid (hB.alloc (.cells #[.int .i64 0, .slice none 0 0] 30))
  have HQ := Lib.hid (Box.new w 30 #[.int .i64 0, .slice none 0 0])
  clear hB
  go_enter Try.func29, Try.ntmps29
  go_wp2_with fail
  refine (open_any A len c f _ hlc hc HB.out).mono ?_
  rintro e w1 ⟨l1, hl1, rfl, hr1, hb1, hs1⟩
  rw [World.size_alloc] at hr1 hb1 hs1
  have H1 := Lib.hid hr1
  have B1 := Lib.hid (Below.trans (B := w.heap.size) (a := w) (by (repeat (first | exact Below.refl _ _ | (refine Below.alloc ?_ (by first | exact Nat.le_refl _ | omega | (simp; done) | (simp; omega)) _) | (refine Below.setCell ?_ (by first | exact Nat.le_refl _ | omega | (simp; done) | (simp; omega)) _) | exact Below.drew ‹_›))) (hb1.mono (by omega)))
  have Q1 := Lib.hid (HQ.out.below hb1 (by omega))
  clear hr1 hb1 HQ HB
  have hq := World.size_alloc w (.cells #[.int .i64 0, .slice none 0 0] 30)
  rw [hq]
  go_wp2_with fail
  refine (spoilt_any _ A l1 c 0 f w1 hl1 (by omega) H1.out).mono ?_
  rintro e w2 ⟨n, ls, A2, g2, c2, rfl, hn0, hn1, hls, hg2, ho2, hr2, hb2, hcap⟩
  have D2 := Lib.hid (show DI w (w.heap.size + 1) w.heap.size w2.heap.size A l1 c f (0 + 1010) n ls A2 g2 c2 (w2.alloc (.cells #[.int .i64 n, .slice A2 ls.length c2] 30)) from
    ⟨hr2.alloc _, (Q1.out.grown hb2 (by omega)).alloc _, Box.new w2 _ _, ho2.alloc _, (B1.out.grown hb2 (by omega) (fun k e => by injection e with e; omega)).alloc (by have := hb2.size; omega) _,
      by omega, by omega, by omega, by omega, by have := hb2.size; omega, by omega, by have := hb2.size; omega⟩)
  clear hr2 hb2 ho2 H1 B1 Q1
  generalize hG : w2.heap.size = G at *
  have D4 := Lib.hid D2.out.drew
  obtain ⟨zg, d0, d1, p0, p1⟩ := D2.out.2.2.1.two
  obtain ⟨zq, e0, e1, q0, q1⟩ := D2.out.2.1.two
  have HC := Lib.hid hcap
  clear D2 hcap
  go_wp2_with fail
  go_region_law (go_simp; go_at_call 52; refine (linkn_any _ A l1 c _ f n A2 ls.length c2 _ hl1 (by omega) hls D4.out.1).mono ?_; rintro e w5 ⟨y, rfl, hy0, hy1, hr5, hb5⟩; have D5 := Lib.hid (D4.out.node hr5 hb5); obtain ⟨yg, x0, x1, r0, r1⟩ := D5.out.2.2.1.two; obtain ⟨yq, y0, y1, s0, s1⟩ := D5.out.2.1.two)
  all_goals
    go_wp2_with fail
    obtain ⟨b2, r0, r1⟩ := ret_two D5.out.2.1 (.int .i64 n) (.slice A2 ls.length c2)
    refine bodyPost_ret (v := .tuple #[gval n A2 ls.length c2, .int .i64 y]) (by simp [results, Try.results29, go_sem, r0, r1]) rfl ?_
    exact ⟨n, ls, A2, g2, c2, y, rfl, D5.out.dg hn0 hn1 hls _ _, hy0, hy1, HC.out⟩

set_option maxRecDepth 100000 in
theorem drawCostG_any (A : Option Addr) (len c : Nat) (f : Nat → Int) (w : World) (hlc : len ≤ c) (hc : c ≤ maxLen) (hB : Byt w w.heap.size A len f) :
   Calls Try.prog 33 #[.slice A len c] w fun e w' => ∃ (n : Int) (ls : List Lk) (A' : Option Addr) (g' c' : Nat) (x y : Int), e = .returned (.tuple #[gval n A' ls.length c', .int .i64 x, .int .i64 y]) ∧ DG w n ls A' g' w' ∧ -1 ≤ x ∧ x ≤ 16 ∧ 0 ≤ y ∧ y ≤ 21 := by
  have HB := Lib.hid (hB.alloc (.cells #[.int .i64 0, .slice none 0 0] 30))
  have HQ := Lib.hid (Box.new w 30 #[.int .i64 0, .slice none 0 0])
  clear hB
  go_enter Try.func33, Try.ntmps33
  go_wp2_with fail
  refine (open_any A len c f _ hlc hc HB.out).mono ?_
  rintro e w1 ⟨l1, hl1, rfl, hr1, hb1, hs1⟩
  rw [World.size_alloc] at hr1 hb1 hs1
  have H1 := Lib.hid hr1
  have B1 := Lib.hid (Below.trans (B := w.heap.size) (a := w) (by (repeat (first | exact Below.refl _ _ | (refine Below.alloc ?_ (by first | exact Nat.le_refl _ | omega | (simp; done) | (simp; omega)) _) | (refine Below.setCell ?_ (by first | exact Nat.le_refl _ | omega | (simp; done) | (simp; omega)) _) | exact Below.drew ‹_›))) (hb1.mono (by omega)))
  have Q1 := Lib.hid (HQ.out.below hb1 (by omega))
  clear hr1 hb1 HQ HB
  have hq := World.size_alloc w (.cells #[.int .i64 0, .slice none 0 0] 30)
  rw [hq]
  go_wp2_with fail
  refine (spoilt_any _ A l1 c 0 f w1 hl1 (by omega) H1.out).mono ?_
  rintro e w2 ⟨n, ls, A2, g2, c2, rfl, hn0, hn1, hls, hg2, ho2, hr2, hb2, -⟩
  have D2 := Lib.hid (show DI w (w.heap.size + 1) w.heap.size w2.heap.size A l1 c f (0 + 1010) n ls A2 g2 c2 (w2.alloc (.cells #[.int .i64 n, .slice A2 ls.length c2] 30)) from
    ⟨hr2.alloc _, (Q1.out.grown hb2 (by omega)).alloc _, Box.new w2 _ _, ho2.alloc _, (B1.out.grown hb2 (by omega) (fun k e => by injection e with e; omega)).alloc (by have := hb2.size; omega) _,
      by omega, by omega, by omega, by omega, by have := hb2.size; omega, by omega, by have := hb2.size; omega⟩)
  clear hr2 hb2 ho2 H1 B1 Q1
  generalize hG : w2.heap.size = G at *
  go_wp2_with fail
  refine (linkn_any _ A l1 c _ f n A2 ls.length c2 _ hl1 (by omega) hls D2.out.1).mono ?_
  rintro e w3 ⟨x, rfl, hx0, hx1, hr3, hb3⟩
  have D3 := Lib.hid (D2.out.node hr3 hb3)
  clear hr3 hb3 D2 hG
  obtain ⟨zg, d0, d1, p0, p1⟩ := D3.out.2.2.1.two
  obtain ⟨zq, e0, e1, q0, q1⟩ := D3.out.2.1.two
  have D4 := Lib.hid D3.out.drew
  clear D3
  go_wp2_with fail
  go_region_law (go_simp; go_at_call 56; refine (costn_any _ A l1 c _ f _ hl1 (by omega) D4.out.1).mono ?_; rintro e w5 ⟨y, rfl, hy0, hy1, hr5, hb5⟩; have D5 := Lib.hid (D4.out.node hr5 hb5); obtain ⟨yg, x0, x1, r0, r1⟩ := D5.out.2.2.1.two; obtain ⟨yq, y0, y1, s0, s1⟩ := D5.out.2.1.two)
  all_goals
    go_wp2_with fail
    obtain ⟨b2, r0, r1⟩ := ret_two D5.out.2.1 (.int .i64 n) (.slice A2 ls.length c2)
    refine bodyPost_ret (v := .tuple #[gval n A2 ls.length c2, .int .i64 x, .int .i64 y]) (by simp [results, Try.results33, go_sem, r0, r1]) rfl ?_
    exact ⟨n, ls, A2, g2, c2, x, y, rfl, D5.out.dg hn0 hn1 hls _ _, hx0, hx1, hy0, hy1⟩

end Go.Proofs.Ytjponnfnofpdgaa
