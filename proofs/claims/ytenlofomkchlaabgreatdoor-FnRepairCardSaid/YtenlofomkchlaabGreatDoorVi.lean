/-
  Contracts over this seat: what the laws of repairs draw.
-/
import Derived.Test.YtenlofomkchlaabGreatDoorVe
import Derived.Test.YtenlofomkchlaabGreatDoorDrawW
namespace Go.Proofs.YtenlofomkchlaabGreatDoor
open Go.RowKit

theorem DI.call {w w1 w2 : World} {R Q G : Nat} {A : Option Addr} {len c : Nat} {f : Nat → Int} {P : Nat} {n : Int} {ls : List Lk} {A' : Option Addr} {g' c' : Nat} (h : DI w R Q G A len c f P n ls A' g' c' w1) (hb : Below w1.heap.size w1 w2) :
    DI w R Q G A len c f P n ls A' g' c' w2 := by
  obtain ⟨h1, h2, h3, h4, h5, h⟩ := h
  exact ⟨h1.below (hb.mono h1.lt), h2.below hb h2.lt, h3.below hb h3.lt, h4.below hb, h5.trans (hb.mono h5.size), h⟩
theorem DI.mono {w w1 : World} {R Q G : Nat} {A : Option Addr} {len c : Nat} {f : Nat → Int} {P P' : Nat} {n : Int} {ls : List Lk} {A' : Option Addr} {g' c' : Nat} (h : DI w R Q G A len c f P n ls A' g' c' w1) (hP : P ≤ P') : DI w R Q G A len c f P' n ls A' g' c' w1 := by
  obtain ⟨h1, h⟩ := h
  exact ⟨h1.mono hP, h⟩
theorem DI.own {w w1 : World} {R Q G : Nat} {A : Option Addr} {len c : Nat} {f : Nat → Int} {P : Nat} {n : Int} {ls : List Lk} {A' : Option Addr} {g' c' : Nat} (h : DI w R Q G A len c f P n ls A' g' c' w1) : Sl w1 w1.heap.size A' ls := h.2.2.2.1.sl



set_option maxRecDepth 100000 in
set_option maxHeartbeats 3200000 in
theorem drawRepP_any (A : Option Addr) (len c : Nat) (f : Nat → Int) (w : World) (hlc : len ≤ c) (hc : c ≤ maxLen) (hB : Byt w w.heap.size A len f) :
   Calls Tryz.prog 10 #[.slice A len c] w fun e w' => ∃ (n : Int) (ls : List Lk) (A' : Option Addr) (g' c' : Nat) (x y z : Int), e = .returned (.tuple #[gval n A' ls.length c', .int .i64 x, .int .i64 y, .int .i64 z]) ∧ DG w n ls A' g' w' ∧ -1 ≤ x ∧ x ≤ 10 ∧ -1 ≤ y ∧ y ≤ 16 ∧ -1 ≤ z ∧ z ≤ 10 ∧ ls.length ≤ c' := by
  have HB := Lib.hid (hB.alloc (.cells #[.int .i64 0, .slice none 0 0] 25))
  have HQ := Lib.hid (Box.new w 25 #[.int .i64 0, .slice none 0 0])
  clear hB
  go_enter Tryz.func10, Tryz.ntmps10
  go_wp2_with fail
  refine (open_any A len c f _ hlc hc HB.out).mono ?_
  rintro e w1 ⟨l1, hl1, rfl, hr1, hb1, hs1⟩
  rw [World.size_alloc] at hr1 hb1 hs1
  have H1 := Lib.hid hr1
  have B1 := Lib.hid (Below.trans (B := w.heap.size) (a := w) (by (repeat (first | exact Below.refl _ _ | (refine Below.alloc ?_ (by first | exact Nat.le_refl _ | omega | (simp; done) | (simp; omega)) _) | (refine Below.setCell ?_ (by first | exact Nat.le_refl _ | omega | (simp; done) | (simp; omega)) _) | exact Below.drew ‹_›))) (hb1.mono (by omega)))
  have Q1 := Lib.hid (HQ.out.below hb1 (by omega))
  clear hr1 hb1 HQ HB
  have hq := World.size_alloc w (.cells #[.int .i64 0, .slice none 0 0] 25)
  rw [hq]
  go_wp2_with fail
  refine (spoilt_any _ A l1 c 0 f w1 hl1 (by omega) H1.out).mono ?_
  rintro e w2 ⟨n, ls, A2, g2, c2, rfl, hn0, hn1, hls, hg2, ho2, hr2, hb2, hcap⟩
  have D2 := Lib.hid (show DI w (w.heap.size + 1) w.heap.size w2.heap.size A l1 c f (0 + 1010) n ls A2 g2 c2 (w2.alloc (.cells #[.int .i64 n, .slice A2 ls.length c2] 25)) from
    ⟨hr2.alloc _, (Q1.out.grown hb2 (by omega)).alloc _, Box.new w2 _ _, ho2.alloc _, (B1.out.grown hb2 (by omega) (fun k e => by injection e with e; omega)).alloc (by have := hb2.size; omega) _,
      by omega, by omega, by omega, by omega, by have := hb2.size; omega, by omega, by have := hb2.size; omega⟩)
  have HCAP := Lib.hid hcap
  clear hr2 hb2 ho2 H1 B1 Q1 hcap
  generalize hG : w2.heap.size = G at *
  go_wp2_with fail
  refine (node_any _ A l1 c _ f n A2 ls.length c2 _ hl1 (by omega) hn0 hn1 D2.out.1).mono ?_
  rintro e w3 ⟨x, rfl, hx0, hx1, hr, hb⟩
  have D3 := Lib.hid (D2.out.node hr hb)
  clear hr hb D2
  clear hG
  obtain ⟨zg, d0, d1, p0, p1⟩ := D3.out.2.2.1.two
  obtain ⟨zq, e0, e1, q0, q1⟩ := D3.out.2.1.two
  go_wp2_with fail
  refine (linkn_any _ A l1 c _ f n A2 ls.length c2 _ hl1 (by omega) hls D3.out.1).mono ?_
  rintro e w4 ⟨y, rfl, hy0, hy1, hr, hb⟩
  have D4 := Lib.hid (D3.out.node hr hb)
  clear hr hb D3 zg d0 d1 p0 p1 zq e0 e1 q0 q1
  obtain ⟨zg, d0, d1, p0, p1⟩ := D4.out.2.2.1.two
  obtain ⟨zq, e0, e1, q0, q1⟩ := D4.out.2.1.two
  go_wp2_with fail
  refine (node_any _ A l1 c _ f n A2 ls.length c2 _ hl1 (by omega) hn0 hn1 D4.out.1).mono ?_
  rintro e w5 ⟨z, rfl, hz0, hz1, hr, hb⟩
  have D5 := Lib.hid (D4.out.node hr hb)
  clear hr hb D4
  clear zg d0 d1 p0 p1 zq e0 e1 q0 q1
  have C1 := fun (a b : Int) W (h : Sl W W.heap.size A2 ls) => l2two_any n A2 ls c2 a b W (by omega) (by omega) h
  have C2 := fun W (h : Sl W W.heap.size A2 ls) => l1Index_any n A2 ls c2 y W (by omega) (by omega) h
  have HU := Lib.hid (fun (a b : Int) (k : Nat) (hv : vwB n ls [a, b] = true) (hk : k < ls.length) W (h : Sl W W.heap.size A2 ls) => (show Calls Tryz.prog 27 #[gval n A2 ls.length c2, .int .i64 a, .int .i64 b, .int .i64 (k : Int)] W fun e w' => e = .returned (.bool (usedB n ls a b (k : Int))) ∧ Below W.heap.size W w' by
    obtain ⟨hg, ha, hb⟩ := vwB_two hv
    obtain ⟨m, rfl⟩ : ∃ m : Nat, n = (m : Int) := ⟨n.toNat, by omega⟩
    rw [used_at hv (List.getElem?_eq_getElem hk)]
    exact l2used_any m A2 ls c2 a b k _ W (List.getElem?_eq_getElem hk) hg ha hb h))
  go_wp2_with fail
  go_loopw [8, 10, 11] (fun u v t wr => ∃ (a b : Int) (i : Nat), u = .int .i64 a ∧ v = .int .i64 b ∧ t = .int .i64 (i : Int) ∧ i ≤ 6 ∧ -1 ≤ a ∧ a ≤ 10 ∧ -1 ≤ b ∧ b ≤ 10 ∧ Hid (DI w (w.heap.size + 1) w.heap.size G A l1 c f (2000 + 2 * i) n ls A2 g2 c2 wr)) (fun _ _ t _ => 6 - (intOf t).toNat)
  case atStart => exact ⟨x, z, 0, rfl, rfl, rfl, by omega, hx0, hx1, hz0, hz1, Lib.hid (D5.out.mono (by omega))⟩
  case round =>
    obtain ⟨a, b, i, rfl, rfl, rfl, hi6, ha0, ha1, hb0, hb1, D6⟩ := hrel
    clear D5
    by_cases hlt : i < 6
    · have hlti : (i : Int) < 6 := by omega
      have C1 := C1 a b
      obtain ⟨zg, d0, d1, p0, p1⟩ := D6.out.2.2.1.two
      obtain ⟨zq, e0, e1, q0, q1⟩ := D6.out.2.1.two
      cases h2 : vwB n ls [a, b] with
      | false =>
        rw [h2] at C1
        clear h2
        go_wp2_with fail
        refine (C1 _ D6.out.own).mono ?_
        rintro e w7 ⟨rfl, hb⟩
        have D7 := Lib.hid (D6.out.call hb)
        clear hb D6 zg d0 d1 p0 p1 zq e0 e1 q0 q1
        obtain ⟨zg, d0, d1, p0, p1⟩ := D7.out.2.2.1.two
        obtain ⟨zq, e0, e1, q0, q1⟩ := D7.out.2.1.two
        go_wp2_with fail
        obtain ⟨b2, r0, r1⟩ := ret_two D7.out.2.1 (.int .i64 n) (.slice A2 ls.length c2)
        refine bodyPost_ret (v := .tuple #[gval n A2 ls.length c2, .int .i64 a, .int .i64 y, .int .i64 b]) (by simp [results, Tryz.results10, go_sem, r0, r1]) rfl ?_
        exact ⟨n, ls, A2, g2, c2, a, y, b, rfl, D7.out.dg hn0 hn1 hls _ _, ha0, ha1, hy0, hy1, hb0, hb1, HCAP.out⟩
      | true =>
        rw [h2] at C1
        have HV := Lib.hid h2
        have hgv : gvB n ls = true := (vwB_two h2).1
        have hn2 : 1 ≤ n := (gvB_fit hgv).2.1
        rw [hgv, Bool.true_and] at C2
        clear h2 hgv
        cases h1 : inB y 0 ((ls.length : Int) - 1) with
        | false =>
          rw [h1] at C2
          clear h1
          go_wp2_with fail
          refine (C1 _ D6.out.own).mono ?_
          rintro e w7 ⟨rfl, hb⟩
          have D7 := Lib.hid (D6.out.call hb)
          clear hb D6 zg d0 d1 p0 p1 zq e0 e1 q0 q1
          obtain ⟨zg, d0, d1, p0, p1⟩ := D7.out.2.2.1.two
          obtain ⟨zq, e0, e1, q0, q1⟩ := D7.out.2.1.two
          go_wp2_with fail
          refine (C2 _ D7.out.own).mono ?_
          rintro e w8 ⟨rfl, hb⟩
          have D8 := Lib.hid (D7.out.call hb)
          clear hb D7 zg d0 d1 p0 p1 zq e0 e1 q0 q1
          obtain ⟨zg, d0, d1, p0, p1⟩ := D8.out.2.2.1.two
          obtain ⟨zq, e0, e1, q0, q1⟩ := D8.out.2.1.two
          go_wp2_with fail
          obtain ⟨b2, r0, r1⟩ := ret_two D8.out.2.1 (.int .i64 n) (.slice A2 ls.length c2)
          refine bodyPost_ret (v := .tuple #[gval n A2 ls.length c2, .int .i64 a, .int .i64 y, .int .i64 b]) (by simp [results, Tryz.results10, go_sem, r0, r1]) rfl ?_
          exact ⟨n, ls, A2, g2, c2, a, y, b, rfl, D8.out.dg hn0 hn1 hls _ _, ha0, ha1, hy0, hy1, hb0, hb1, HCAP.out⟩
        | true =>
          rw [h1] at C2
          unfold inB at h1
          simp only [Bool.and_eq_true, decide_eq_true_eq] at h1
          obtain ⟨k, rfl⟩ : ∃ q : Nat, y = (q : Int) := ⟨y.toNat, by omega⟩
          have C3 := HU.out a b k HV.out (by omega)
          clear h1 HU
          generalize usedB n ls a b (k : Int) = us at *
          go_wp2_with fail
          refine (C1 _ D6.out.own).mono ?_
          rintro e w7 ⟨rfl, hb⟩
          have D7 := Lib.hid (D6.out.call hb)
          clear hb D6 zg d0 d1 p0 p1 zq e0 e1 q0 q1
          obtain ⟨zg, d0, d1, p0, p1⟩ := D7.out.2.2.1.two
          obtain ⟨zq, e0, e1, q0, q1⟩ := D7.out.2.1.two
          go_wp2_with fail
          refine (C2 _ D7.out.own).mono ?_
          rintro e w8 ⟨rfl, hb⟩
          have D8 := Lib.hid (D7.out.call hb)
          clear hb D7 zg d0 d1 p0 p1 zq e0 e1 q0 q1
          obtain ⟨zg, d0, d1, p0, p1⟩ := D8.out.2.2.1.two
          obtain ⟨zq, e0, e1, q0, q1⟩ := D8.out.2.1.two
          go_wp2_with fail
          refine (C3 _ D8.out.own).mono ?_
          rintro e w9 ⟨rfl, hb⟩
          have D9 := Lib.hid (D8.out.call hb)
          clear hb D8 zg d0 d1 p0 p1 zq e0 e1 q0 q1
          cases us with
          | true =>
            obtain ⟨zg, d0, d1, p0, p1⟩ := D9.out.2.2.1.two
            obtain ⟨zq, e0, e1, q0, q1⟩ := D9.out.2.1.two
            go_wp2_with fail
            obtain ⟨b2, r0, r1⟩ := ret_two D9.out.2.1 (.int .i64 n) (.slice A2 ls.length c2)
            refine bodyPost_ret (v := .tuple #[gval n A2 ls.length c2, .int .i64 a, .int .i64 (k : Int), .int .i64 b]) (by simp [results, Tryz.results10, go_sem, r0, r1]) rfl ?_
            exact ⟨n, ls, A2, g2, c2, a, (k : Int), b, rfl, D9.out.dg hn0 hn1 hls _ _, ha0, ha1, hy0, hy1, hb0, hb1, HCAP.out⟩
          | false =>
            obtain ⟨zg, d0, d1, p0, p1⟩ := D9.out.2.2.1.two
            obtain ⟨zq, e0, e1, q0, q1⟩ := D9.out.2.1.two
            go_wp2_with fail
            refine (pick_rd _ A l1 c _ _ f _ hl1 (by omega) (by omega) (by omega) D9.out.1).mono ?_
            rintro e w10 ⟨k10, rfl, hk10, hr, hg, -, -⟩
            have D10 := Lib.hid (D9.out.node hr hg)
            clear hr hg D9 zg d0 d1 p0 p1 zq e0 e1 q0 q1
            obtain ⟨zg, d0, d1, p0, p1⟩ := D10.out.2.2.1.two
            obtain ⟨zq, e0, e1, q0, q1⟩ := D10.out.2.1.two
            go_wp2_with fail
            refine (pick_rd _ A l1 c _ _ f _ hl1 (by omega) (by omega) (by omega) D10.out.1).mono ?_
            rintro e w11 ⟨k11, rfl, hk11, hr, hg, -, -⟩
            have D11 := Lib.hid (D10.out.node hr hg)
            clear hr hg D10 zg d0 d1 p0 p1 zq e0 e1 q0 q1
            go_wp2_with fail
            go_roundw
            case rel => exact ⟨(k10 : Int), (k11 : Int), i + 1, rfl, rfl, by go_num, by omega, by omega, by omega, by omega, by omega, Lib.hid (D11.out.mono (by omega))⟩
            case measure => simp [intOf]; omega
    · have hge : ¬ (i : Int) < 6 := by omega
      obtain ⟨zg, d0, d1, p0, p1⟩ := D6.out.2.2.1.two
      obtain ⟨zq, e0, e1, q0, q1⟩ := D6.out.2.1.two
      go_wp2_with fail
      obtain ⟨b2, r0, r1⟩ := ret_two D6.out.2.1 (.int .i64 n) (.slice A2 ls.length c2)
      refine bodyPost_ret (v := .tuple #[gval n A2 ls.length c2, .int .i64 a, .int .i64 y, .int .i64 b]) (by simp [results, Tryz.results10, go_sem, r0, r1]) rfl ?_
      exact ⟨n, ls, A2, g2, c2, a, y, b, rfl, D6.out.dg hn0 hn1 hls _ _, ha0, ha1, hy0, hy1, hb0, hb1, HCAP.out⟩

set_option maxRecDepth 100000 in
set_option maxHeartbeats 3200000 in
theorem drawRepK_any (A : Option Addr) (len c : Nat) (f : Nat → Int) (w : World) (hlc : len ≤ c) (hc : c ≤ maxLen) (hB : Byt w w.heap.size A len f) :
   Calls Tryz.prog 4 #[.slice A len c] w fun e w' => ∃ (n : Int) (ls : List Lk) (A' : Option Addr) (g' c' : Nat) (x y z : Int), e = .returned (.tuple #[gval n A' ls.length c', .int .i64 x, .int .i64 y, .int .i64 z]) ∧ DG w n ls A' g' w' ∧ -1 ≤ x ∧ x ≤ 10 ∧ -1 ≤ y ∧ y ≤ 16 ∧ -1 ≤ z ∧ z ≤ 10 ∧ ls.length ≤ c' := by
  have HB := Lib.hid (hB.alloc (.cells #[.int .i64 0, .slice none 0 0] 25))
  have HQ := Lib.hid (Box.new w 25 #[.int .i64 0, .slice none 0 0])
  clear hB
  go_enter Tryz.func4, Tryz.ntmps4
  go_wp2_with fail
  refine (drawRepP_any A len c f _ hlc hc HB.out).mono ?_
  rintro e w1 ⟨n, ls, A2, g2, c2, x, y, z, rfl, ⟨hn0, hn1, hls, hg2, ho2, hb2⟩, hx0, hx1, hy0, hy1, hz0, hz1, hcap⟩
  rw [World.size_alloc] at hg2 hb2
  have Q1 := HQ.out.below hb2 (by omega)
  have B1 := Lib.hid (Below.trans (B := w.heap.size) (a := w) (by (repeat (first | exact Below.refl _ _ | (refine Below.alloc ?_ (by first | exact Nat.le_refl _ | omega | (simp; done) | (simp; omega)) _) | (refine Below.setCell ?_ (by first | exact Nat.le_refl _ | omega | (simp; done) | (simp; omega)) _) | exact Below.drew ‹_›))) (hb2.mono (by omega)))
  have O1 := Lib.hid ho2
  clear HQ HB hb2 ho2
  obtain ⟨zq, e0, e1, q0, q1⟩ := Q1.two
  go_wp2_with fail
  obtain ⟨b2, r0, r1⟩ := ret_two Q1 (.int .i64 n) (.slice A2 ls.length c2)
  refine bodyPost_ret (v := .tuple #[gval n A2 ls.length c2, .int .i64 x, .int .i64 y, .int .i64 z]) (by simp [results, Tryz.results4, go_sem, r0, r1]) rfl ?_
  exact ⟨n, ls, A2, g2, c2, x, y, z, rfl, ⟨hn0, hn1, hls, by omega, (O1.out.set_box Q1 (by decide) 0 _).set_box (heap_set Q1 0 _) (by decide) 1 _, (B1.out.setCell (p := ⟨w.heap.size, 0, none⟩) (Nat.le_refl _) _).setCell (p := ⟨w.heap.size, 1, none⟩) (Nat.le_refl _) _⟩, hx0, hx1, hy0, hy1, hz0, hz1, hcap⟩

end Go.Proofs.YtenlofomkchlaabGreatDoor
