/-
  A contract over this seat: the draw of a graph, a node and a sequence number.
-/
import Derived.Test.YtimebipgiicmiacZt
namespace Go.Proofs.Ytimebipgiicmiac
open Go.RowKit Go.Maps

/-- A drawn graph, a drawn node, a drawn sequence number. -/
def LofX (w : World) (e : Ending) (w' : World) : Prop :=
  ∃ (n : Int) (ls : List Lk) (A' : Option Addr) (g' c' : Nat) (x q : Int), e = .returned (.tuple #[gval n A' ls.length c', .int .i64 x, .int .i64 q]) ∧ DG w n ls A' g' w' ∧ -1 ≤ x ∧ x ≤ 10 ∧ 0 ≤ q ∧ q ≤ 100

theorem wrap1 {k : Nat} (h : (k : Int) < 9) : 0 ≤ IntKind.i64.wrap (1 + (k : Int)) ∧ IntKind.i64.wrap (1 + (k : Int)) ≤ 100 := by
  have : IntKind.i64.wrap (1 + (k : Int)) = 1 + (k : Int) := IntWalk.i64_in _ (by omega)
  rw [this]
  omega
set_option maxRecDepth 100000 in
set_option maxHeartbeats 4000000 in
theorem drawLsaOf_any (A : Option Addr) (len c : Nat) (f : Nat → Int) (w : World) (hlc : len ≤ c) (hc : c ≤ maxLen) (hB : Byt w w.heap.size A len f) :
   Calls Try.prog 18 #[.slice A len c] w (LofX w) := by
  have HB := Lib.hid (hB.alloc (.cells #[.int .i64 0, .slice none 0 0] 33))
  have HQ := Lib.hid (Box.new w 33 #[.int .i64 0, .slice none 0 0])
  clear hB
  go_enter Try.func18, Try.ntmps18
  go_wp2_with fail
  refine (open_any A len c f _ hlc hc HB.out).mono ?_
  rintro e w1 ⟨l1, hl1, rfl, hr1, hb1, hs1⟩
  rw [World.size_alloc] at hr1 hb1 hs1
  have H1 := Lib.hid hr1
  have B1 := Lib.hid (Below.trans (B := w.heap.size) (a := w) (by (repeat (first | exact Below.refl _ _ | (refine Below.alloc ?_ (by first | exact Nat.le_refl _ | omega | (simp; done) | (simp; omega)) _) | (refine Below.setCell ?_ (by first | exact Nat.le_refl _ | omega | (simp; done) | (simp; omega)) _) | exact Below.drew ‹_›))) (hb1.mono (by omega)))
  have Q1 := Lib.hid (HQ.out.below hb1 (by omega))
  clear hr1 hb1 HQ HB
  have hq := World.size_alloc w (.cells #[.int .i64 0, .slice none 0 0] 33)
  rw [hq]
  go_wp2_with fail
  refine (spoilt_any _ A l1 c 0 f w1 hl1 (by omega) H1.out).mono ?_
  rintro e w2 ⟨n, ls, A2, g2, c2, rfl, hn0, hn1, hls, hg2, ho2, hr2, hb2, -⟩
  have D2 := Lib.hid (show DI w (w.heap.size + 1) w.heap.size w2.heap.size A l1 c f (0 + 1010) n ls A2 g2 c2 (w2.alloc (.cells #[.int .i64 n, .slice A2 ls.length c2] 33)) from
    ⟨hr2.alloc _, (Q1.out.grown hb2 (by omega)).alloc _, Box.new w2 _ _, ho2.alloc _, (B1.out.grown hb2 (by omega) (fun k e => by injection e with e; omega)).alloc (by have := hb2.size; omega) _,
      by omega, by omega, by omega, by omega, by have := hb2.size; omega, by omega, by have := hb2.size; omega⟩)
  have hgR : g2 ≠ w.heap.size + 1 := by omega
  have hG0 : w.heap.size + 1 < w2.heap.size := by have := hb2.size; omega
  clear hr2 hb2 ho2 H1 B1 Q1 hg2
  generalize hG : w2.heap.size = G at *
  go_wp2_with fail
  refine (node_any _ A l1 c _ f n A2 ls.length c2 _ hl1 (by omega) hn0 hn1 D2.out.1).mono ?_
  rintro e w3 ⟨x, rfl, hx0, hx1, hr3, hb3⟩
  have D3 := Lib.hid (D2.out.node hr3 hb3)
  clear hr3 hb3 D2 hG
  obtain ⟨zg, d0, d1, p0, p1⟩ := D3.out.2.2.1.two
  have zq := D3.out.2.1.lt
  have DD := Lib.hid D3.out.drew
  have hGR : G ≠ w.heap.size + 1 := by omega
  have hGQ : G ≠ w.heap.size := by omega
  clear D3
  go_wp2_with fail
  have hX0 := fun (y : ExtX (fun b => b = w.heap.size + 1 ∨ b = w.heap.size) w3.drew) => (y.cell G 0 zg (by omega)).trans d0
  have hX1 := fun (y : ExtX (fun b => b = w.heap.size + 1 ∨ b = w.heap.size) w3.drew) => (y.cell G 1 zg (by omega)).trans d1
  refine wp_region_stx 19 (fun b => b = w.heap.size + 1 ∨ b = w.heap.size) (by kernel_rfl) (by kernel_rfl) ?_
  refine stx_seg _ 13 [0, 1, 2, 5, 8, 12] (by kernel_rfl) (by kernel_rfl) (by kernel_rfl) (by kernel_rfl) ?_
  (simp only [List.map_cons, List.map_nil, List.getElem?_cons_zero, List.getElem?_cons_succ, Option.getD_some]); (repeat (go_big_quiet_step (fail))); (refine wpQuiet_nil ?_)
  clear hX0 hX1 d0 d1 p0 p1
  refine stx_one _ 12 3 (by kernel_rfl) (by rfl) (by kernel_rfl) (by rfl) ?_
  go_wp2_with fail
  refine (pick_rd _ A l1 c _ 9 f _ hl1 (by omega) (by omega) (by omega) DD.out.1).mono ?_
  rintro e w4 ⟨k4, rfl, hk4, hr4, hg4, hs4, -⟩
  refine ⟨⟨hg4.os, hg4.tape, hg4.output, hg4.size, fun k hk hx => hg4.block k hk (fun e => hx (.inl (by cases e; rfl)))⟩, _, fun _ h => h, ?_⟩
  have D4 := Lib.hid (DD.out.node hr4 hg4)
  clear hr4 hg4 hs4 DD
  refine stx_seg _ 11 [4] (by kernel_rfl) (by kernel_rfl) (by kernel_rfl) (by kernel_rfl) ?_
  (simp only [List.map_cons, List.map_nil, List.getElem?_cons_zero, List.getElem?_cons_succ, Option.getD_some]); (repeat (go_big_quiet_step (fail))); (refine wpQuiet_nil ?_)
  refine stx_one _ 10 6 (by kernel_rfl) (by rfl) (by kernel_rfl) (by rfl) ?_
  go_wp2_with fail
  refine (pick_rd _ A l1 c _ 9 f _ hl1 (by omega) (by omega) (by omega) D4.out.1).mono ?_
  rintro e w5 ⟨k5, rfl, hk5, hr5, hg5, hs5, -⟩
  refine ⟨⟨hg5.os, hg5.tape, hg5.output, hg5.size, fun k hk hx => hg5.block k hk (fun e => hx (.inl (by cases e; rfl)))⟩, _, fun _ h => h, ?_⟩
  have D5 := Lib.hid (D4.out.node hr5 hg5)
  clear hr5 hg5 hs5 D4
  refine stx_seg _ 9 [7] (by kernel_rfl) (by kernel_rfl) (by kernel_rfl) (by kernel_rfl) ?_
  (simp only [List.map_cons, List.map_nil, List.getElem?_cons_zero, List.getElem?_cons_succ, Option.getD_some]); (repeat (go_big_quiet_step (fail))); (refine wpQuiet_nil ?_)
  refine stx_one _ 8 9 (by kernel_rfl) (by rfl) (by kernel_rfl) (by rfl) ?_
  go_wp2_with fail
  refine (pick_rd _ A l1 c _ 9 f _ hl1 (by omega) (by omega) (by omega) D5.out.1).mono ?_
  rintro e w6 ⟨k6, rfl, hk6, hr6, hg6, hs6, -⟩
  refine ⟨⟨hg6.os, hg6.tape, hg6.output, hg6.size, fun k hk hx => hg6.block k hk (fun e => hx (.inl (by cases e; rfl)))⟩, _, fun _ h => h, ?_⟩
  have D6 := Lib.hid (D5.out.node hr6 hg6)
  clear hr6 hg6 hs6 D5
  refine stx_seg _ 7 [10] (by kernel_rfl) (by kernel_rfl) (by kernel_rfl) (by kernel_rfl) ?_
  (simp only [List.map_cons, List.map_nil, List.getElem?_cons_zero, List.getElem?_cons_succ, Option.getD_some]); (repeat (go_big_quiet_step (fail))); (refine wpQuiet_nil ?_)
  refine stx_two _ 6 11 13 (by rfl) (by rfl) (by rfl) (by kernel_rfl) (by rfl) (by rfl) ?_ ?_
  · go_wp2_with fail
    refine ⟨(Kx.refl _ _).alloc _, _, fun _ h => h, ?_⟩
    have DA := Lib.hid (D6.out.alloc (.cells #[.int .i64 0, .int .i64 99, .int .i64 100, .int .i64 (1 + (k4 : Int)), .int .i64 (1 + (k5 : Int)), .int .i64 (1 + (k6 : Int))] 3))
    have XA := Lib.hid (Box.new w6 3 #[.int .i64 0, .int .i64 99, .int .i64 100, .int .i64 (1 + (k4 : Int)), .int .i64 (1 + (k5 : Int)), .int .i64 (1 + (k6 : Int))])
    have hz6 := D6.out.2.1.lt
    have hR6 := D6.out.1.lt
    clear D6
    refine stx_one _ 5 13 (by kernel_rfl) (by rfl) (by kernel_rfl) (by rfl) ?_
    go_wp2_with fail
    refine (pick_rd _ A l1 c _ 6 f _ hl1 (by omega) (by omega) (by omega) DA.out.1).mono ?_
    rintro e w7 ⟨k7, rfl, hk7, hr7, hg7, hs7, -⟩
    refine ⟨⟨hg7.os, hg7.tape, hg7.output, hg7.size, fun k hk hx => hg7.block k hk (fun e => hx (.inl (by cases e; rfl)))⟩, _, fun _ h => h, ?_⟩
    have D7 := Lib.hid (DA.out.node hr7 hg7)
    have XB := Lib.hid (XA.out.grown hg7 (by omega))
    have hbx := XB.out.lt
    clear hr7 hg7 hs7 DA XA
    obtain ⟨zq5, u0, u1, v0, v1⟩ := D7.out.2.1.two
    obtain ⟨b2, r0, r1⟩ := ret_two D7.out.2.1 (.int .i64 n) (.slice A2 ls.length c2)
    obtain rfl | rfl | rfl | rfl | rfl | rfl : k7 = 0 ∨ k7 = 1 ∨ k7 = 2 ∨ k7 = 3 ∨ k7 = 4 ∨ k7 = 5 := by omega
    · have hXr := fun (y : ExtX (fun b => b = w.heap.size + 1 ∨ b = w.heap.size) w7) => (y.cell w6.heap.size 0 hbx (by omega)).trans (XB.out.cell 0)
      refine stx_seg _ 3 [14, 15] (by kernel_rfl) (by kernel_rfl) (by kernel_rfl) (by kernel_rfl) ?_
      (simp only [List.map_cons, List.map_nil, List.getElem?_cons_zero, List.getElem?_cons_succ, Option.getD_some]); (repeat (go_big_quiet_step (fail))); (refine wpQuiet_nil ?_)
      clear hXr
      refine stx_one _ 2 16 (by kernel_rfl) (by rfl) (by kernel_rfl) (by rfl) ?_
      go_wp2_with fail
      refine ⟨((Kx.refl (fun b => b = w.heap.size + 1 ∨ b = w.heap.size) _).setCell (p := ⟨w.heap.size, 0, none⟩) (.inr rfl) _).setCell (p := ⟨w.heap.size, 1, none⟩) (.inr rfl) _, _, fun _ h => h, ?_⟩
      refine stx_seg _ 0 [17, 18] (by kernel_rfl) (by kernel_rfl) (by kernel_rfl) (by kernel_rfl) ?_
      (simp only [List.map_cons, List.map_nil, List.getElem?_cons_zero, List.getElem?_cons_succ, Option.getD_some]); (repeat (go_big_quiet_step (fail))); (refine wpQuiet_nil ?_)
      refine stx_end (by kernel_rfl) ?_
      go_wp2_with fail
      refine bodyPost_ret (v := .tuple #[gval n A2 ls.length c2, .int .i64 x, .int .i64 (0)]) (by simp [results, Try.results18, go_sem, r0, r1]) rfl ?_
      exact ⟨n, ls, A2, g2, c2, x, 0, rfl, D7.out.dg hn0 hn1 hls _ _, hx0, hx1, by omega, by omega⟩
    · have hXr := fun (y : ExtX (fun b => b = w.heap.size + 1 ∨ b = w.heap.size) w7) => (y.cell w6.heap.size 1 hbx (by omega)).trans (XB.out.cell 1)
      refine stx_seg _ 3 [14, 15] (by kernel_rfl) (by kernel_rfl) (by kernel_rfl) (by kernel_rfl) ?_
      (simp only [List.map_cons, List.map_nil, List.getElem?_cons_zero, List.getElem?_cons_succ, Option.getD_some]); (repeat (go_big_quiet_step (fail))); (refine wpQuiet_nil ?_)
      clear hXr
      refine stx_one _ 2 16 (by kernel_rfl) (by rfl) (by kernel_rfl) (by rfl) ?_
      go_wp2_with fail
      refine ⟨((Kx.refl (fun b => b = w.heap.size + 1 ∨ b = w.heap.size) _).setCell (p := ⟨w.heap.size, 0, none⟩) (.inr rfl) _).setCell (p := ⟨w.heap.size, 1, none⟩) (.inr rfl) _, _, fun _ h => h, ?_⟩
      refine stx_seg _ 0 [17, 18] (by kernel_rfl) (by kernel_rfl) (by kernel_rfl) (by kernel_rfl) ?_
      (simp only [List.map_cons, List.map_nil, List.getElem?_cons_zero, List.getElem?_cons_succ, Option.getD_some]); (repeat (go_big_quiet_step (fail))); (refine wpQuiet_nil ?_)
      refine stx_end (by kernel_rfl) ?_
      go_wp2_with fail
      refine bodyPost_ret (v := .tuple #[gval n A2 ls.length c2, .int .i64 x, .int .i64 (99)]) (by simp [results, Try.results18, go_sem, r0, r1]) rfl ?_
      exact ⟨n, ls, A2, g2, c2, x, 99, rfl, D7.out.dg hn0 hn1 hls _ _, hx0, hx1, by omega, by omega⟩
    · have hXr := fun (y : ExtX (fun b => b = w.heap.size + 1 ∨ b = w.heap.size) w7) => (y.cell w6.heap.size 2 hbx (by omega)).trans (XB.out.cell 2)
      refine stx_seg _ 3 [14, 15] (by kernel_rfl) (by kernel_rfl) (by kernel_rfl) (by kernel_rfl) ?_
      (simp only [List.map_cons, List.map_nil, List.getElem?_cons_zero, List.getElem?_cons_succ, Option.getD_some]); (repeat (go_big_quiet_step (fail))); (refine wpQuiet_nil ?_)
      clear hXr
      refine stx_one _ 2 16 (by kernel_rfl) (by rfl) (by kernel_rfl) (by rfl) ?_
      go_wp2_with fail
      refine ⟨((Kx.refl (fun b => b = w.heap.size + 1 ∨ b = w.heap.size) _).setCell (p := ⟨w.heap.size, 0, none⟩) (.inr rfl) _).setCell (p := ⟨w.heap.size, 1, none⟩) (.inr rfl) _, _, fun _ h => h, ?_⟩
      refine stx_seg _ 0 [17, 18] (by kernel_rfl) (by kernel_rfl) (by kernel_rfl) (by kernel_rfl) ?_
      (simp only [List.map_cons, List.map_nil, List.getElem?_cons_zero, List.getElem?_cons_succ, Option.getD_some]); (repeat (go_big_quiet_step (fail))); (refine wpQuiet_nil ?_)
      refine stx_end (by kernel_rfl) ?_
      go_wp2_with fail
      refine bodyPost_ret (v := .tuple #[gval n A2 ls.length c2, .int .i64 x, .int .i64 (100)]) (by simp [results, Try.results18, go_sem, r0, r1]) rfl ?_
      exact ⟨n, ls, A2, g2, c2, x, 100, rfl, D7.out.dg hn0 hn1 hls _ _, hx0, hx1, by omega, by omega⟩
    · have hXr := fun (y : ExtX (fun b => b = w.heap.size + 1 ∨ b = w.heap.size) w7) => (y.cell w6.heap.size 3 hbx (by omega)).trans (XB.out.cell 3)
      refine stx_seg _ 3 [14, 15] (by kernel_rfl) (by kernel_rfl) (by kernel_rfl) (by kernel_rfl) ?_
      (simp only [List.map_cons, List.map_nil, List.getElem?_cons_zero, List.getElem?_cons_succ, Option.getD_some]); (repeat (go_big_quiet_step (fail))); (refine wpQuiet_nil ?_)
      clear hXr
      refine stx_one _ 2 16 (by kernel_rfl) (by rfl) (by kernel_rfl) (by rfl) ?_
      go_wp2_with fail
      refine ⟨((Kx.refl (fun b => b = w.heap.size + 1 ∨ b = w.heap.size) _).setCell (p := ⟨w.heap.size, 0, none⟩) (.inr rfl) _).setCell (p := ⟨w.heap.size, 1, none⟩) (.inr rfl) _, _, fun _ h => h, ?_⟩
      refine stx_seg _ 0 [17, 18] (by kernel_rfl) (by kernel_rfl) (by kernel_rfl) (by kernel_rfl) ?_
      (simp only [List.map_cons, List.map_nil, List.getElem?_cons_zero, List.getElem?_cons_succ, Option.getD_some]); (repeat (go_big_quiet_step (fail))); (refine wpQuiet_nil ?_)
      refine stx_end (by kernel_rfl) ?_
      go_wp2_with fail
      refine bodyPost_ret (v := .tuple #[gval n A2 ls.length c2, .int .i64 x, .int .i64 (1 + (k4 : Int))]) (by simp [results, Try.results18, go_sem, r0, r1]) rfl ?_
      exact ⟨n, ls, A2, g2, c2, x, 1 + (k4 : Int), rfl, D7.out.dg hn0 hn1 hls _ _, hx0, hx1, by omega, by omega⟩
    · have hXr := fun (y : ExtX (fun b => b = w.heap.size + 1 ∨ b = w.heap.size) w7) => (y.cell w6.heap.size 4 hbx (by omega)).trans (XB.out.cell 4)
      refine stx_seg _ 3 [14, 15] (by kernel_rfl) (by kernel_rfl) (by kernel_rfl) (by kernel_rfl) ?_
      (simp only [List.map_cons, List.map_nil, List.getElem?_cons_zero, List.getElem?_cons_succ, Option.getD_some]); (repeat (go_big_quiet_step (fail))); (refine wpQuiet_nil ?_)
      clear hXr
      refine stx_one _ 2 16 (by kernel_rfl) (by rfl) (by kernel_rfl) (by rfl) ?_
      go_wp2_with fail
      refine ⟨((Kx.refl (fun b => b = w.heap.size + 1 ∨ b = w.heap.size) _).setCell (p := ⟨w.heap.size, 0, none⟩) (.inr rfl) _).setCell (p := ⟨w.heap.size, 1, none⟩) (.inr rfl) _, _, fun _ h => h, ?_⟩
      refine stx_seg _ 0 [17, 18] (by kernel_rfl) (by kernel_rfl) (by kernel_rfl) (by kernel_rfl) ?_
      (simp only [List.map_cons, List.map_nil, List.getElem?_cons_zero, List.getElem?_cons_succ, Option.getD_some]); (repeat (go_big_quiet_step (fail))); (refine wpQuiet_nil ?_)
      refine stx_end (by kernel_rfl) ?_
      go_wp2_with fail
      refine bodyPost_ret (v := .tuple #[gval n A2 ls.length c2, .int .i64 x, .int .i64 (1 + (k5 : Int))]) (by simp [results, Try.results18, go_sem, r0, r1]) rfl ?_
      exact ⟨n, ls, A2, g2, c2, x, 1 + (k5 : Int), rfl, D7.out.dg hn0 hn1 hls _ _, hx0, hx1, by omega, by omega⟩
    · have hXr := fun (y : ExtX (fun b => b = w.heap.size + 1 ∨ b = w.heap.size) w7) => (y.cell w6.heap.size 5 hbx (by omega)).trans (XB.out.cell 5)
      refine stx_seg _ 3 [14, 15] (by kernel_rfl) (by kernel_rfl) (by kernel_rfl) (by kernel_rfl) ?_
      (simp only [List.map_cons, List.map_nil, List.getElem?_cons_zero, List.getElem?_cons_succ, Option.getD_some]); (repeat (go_big_quiet_step (fail))); (refine wpQuiet_nil ?_)
      clear hXr
      refine stx_one _ 2 16 (by kernel_rfl) (by rfl) (by kernel_rfl) (by rfl) ?_
      go_wp2_with fail
      refine ⟨((Kx.refl (fun b => b = w.heap.size + 1 ∨ b = w.heap.size) _).setCell (p := ⟨w.heap.size, 0, none⟩) (.inr rfl) _).setCell (p := ⟨w.heap.size, 1, none⟩) (.inr rfl) _, _, fun _ h => h, ?_⟩
      refine stx_seg _ 0 [17, 18] (by kernel_rfl) (by kernel_rfl) (by kernel_rfl) (by kernel_rfl) ?_
      (simp only [List.map_cons, List.map_nil, List.getElem?_cons_zero, List.getElem?_cons_succ, Option.getD_some]); (repeat (go_big_quiet_step (fail))); (refine wpQuiet_nil ?_)
      refine stx_end (by kernel_rfl) ?_
      go_wp2_with fail
      refine bodyPost_ret (v := .tuple #[gval n A2 ls.length c2, .int .i64 x, .int .i64 (1 + (k6 : Int))]) (by simp [results, Try.results18, go_sem, r0, r1]) rfl ?_
      exact ⟨n, ls, A2, g2, c2, x, 1 + (k6 : Int), rfl, D7.out.dg hn0 hn1 hls _ _, hx0, hx1, by omega, by omega⟩
  · go_wp2_with fail
    refine (pick_rd _ A l1 c _ 6 f _ hl1 (by omega) (by omega) (by omega) D6.out.1).mono ?_
    rintro e w7 ⟨k7, rfl, hk7, hr7, hg7, hs7, -⟩
    refine ⟨⟨hg7.os, hg7.tape, hg7.output, hg7.size, fun k hk hx => hg7.block k hk (fun e => hx (.inl (by cases e; rfl)))⟩, _, fun _ h => h, ?_⟩
    have D7 := Lib.hid (D6.out.node hr7 hg7)
    clear hr7 hg7 hs7 D6
    have hz6 := D7.out.2.1.lt
    have hR6 := D7.out.1.lt
    refine stx_two _ 5 11 16 (by rfl) (by rfl) (by rfl) (by kernel_rfl) (by rfl) (by rfl) ?_ ?_
    · go_wp2_with fail
      refine ⟨(Kx.refl _ _).alloc _, _, fun _ h => h, ?_⟩
      have D8 := Lib.hid (D7.out.alloc (.cells #[.int .i64 0, .int .i64 99, .int .i64 100, .int .i64 (1 + (k4 : Int)), .int .i64 (1 + (k5 : Int)), .int .i64 (1 + (k6 : Int))] 3))
      have XB := Lib.hid (Box.new w7 3 #[.int .i64 0, .int .i64 99, .int .i64 100, .int .i64 (1 + (k4 : Int)), .int .i64 (1 + (k5 : Int)), .int .i64 (1 + (k6 : Int))])
      have hbx := XB.out.lt
      clear D7
      generalize w7.alloc (.cells #[.int .i64 0, .int .i64 99, .int .i64 100, .int .i64 (1 + (k4 : Int)), .int .i64 (1 + (k5 : Int)), .int .i64 (1 + (k6 : Int))] 3) = W9 at *
      obtain ⟨zq5, u0, u1, v0, v1⟩ := D8.out.2.1.two
      obtain ⟨b2, r0, r1⟩ := ret_two D8.out.2.1 (.int .i64 n) (.slice A2 ls.length c2)
      obtain rfl | rfl | rfl | rfl | rfl | rfl : k7 = 0 ∨ k7 = 1 ∨ k7 = 2 ∨ k7 = 3 ∨ k7 = 4 ∨ k7 = 5 := by omega
      · have hXr := fun (y : ExtX (fun b => b = w.heap.size + 1 ∨ b = w.heap.size) W9) => (y.cell w7.heap.size 0 hbx (by omega)).trans (XB.out.cell 0)
        refine stx_seg _ 3 [14, 15] (by kernel_rfl) (by kernel_rfl) (by kernel_rfl) (by kernel_rfl) ?_
        (simp only [List.map_cons, List.map_nil, List.getElem?_cons_zero, List.getElem?_cons_succ, Option.getD_some]); (repeat (go_big_quiet_step (fail))); (refine wpQuiet_nil ?_)
        clear hXr
        refine stx_one _ 2 16 (by kernel_rfl) (by rfl) (by kernel_rfl) (by rfl) ?_
        go_wp2_with fail
        refine ⟨((Kx.refl (fun b => b = w.heap.size + 1 ∨ b = w.heap.size) _).setCell (p := ⟨w.heap.size, 0, none⟩) (.inr rfl) _).setCell (p := ⟨w.heap.size, 1, none⟩) (.inr rfl) _, _, fun _ h => h, ?_⟩
        refine stx_seg _ 0 [17, 18] (by kernel_rfl) (by kernel_rfl) (by kernel_rfl) (by kernel_rfl) ?_
        (simp only [List.map_cons, List.map_nil, List.getElem?_cons_zero, List.getElem?_cons_succ, Option.getD_some]); (repeat (go_big_quiet_step (fail))); (refine wpQuiet_nil ?_)
        refine stx_end (by kernel_rfl) ?_
        go_wp2_with fail
        refine bodyPost_ret (v := .tuple #[gval n A2 ls.length c2, .int .i64 x, .int .i64 (0)]) (by simp [results, Try.results18, go_sem, r0, r1]) rfl ?_
        exact ⟨n, ls, A2, g2, c2, x, 0, rfl, D8.out.dg hn0 hn1 hls _ _, hx0, hx1, by omega, by omega⟩
      · have hXr := fun (y : ExtX (fun b => b = w.heap.size + 1 ∨ b = w.heap.size) W9) => (y.cell w7.heap.size 1 hbx (by omega)).trans (XB.out.cell 1)
        refine stx_seg _ 3 [14, 15] (by kernel_rfl) (by kernel_rfl) (by kernel_rfl) (by kernel_rfl) ?_
        (simp only [List.map_cons, List.map_nil, List.getElem?_cons_zero, List.getElem?_cons_succ, Option.getD_some]); (repeat (go_big_quiet_step (fail))); (refine wpQuiet_nil ?_)
        clear hXr
        refine stx_one _ 2 16 (by kernel_rfl) (by rfl) (by kernel_rfl) (by rfl) ?_
        go_wp2_with fail
        refine ⟨((Kx.refl (fun b => b = w.heap.size + 1 ∨ b = w.heap.size) _).setCell (p := ⟨w.heap.size, 0, none⟩) (.inr rfl) _).setCell (p := ⟨w.heap.size, 1, none⟩) (.inr rfl) _, _, fun _ h => h, ?_⟩
        refine stx_seg _ 0 [17, 18] (by kernel_rfl) (by kernel_rfl) (by kernel_rfl) (by kernel_rfl) ?_
        (simp only [List.map_cons, List.map_nil, List.getElem?_cons_zero, List.getElem?_cons_succ, Option.getD_some]); (repeat (go_big_quiet_step (fail))); (refine wpQuiet_nil ?_)
        refine stx_end (by kernel_rfl) ?_
        go_wp2_with fail
        refine bodyPost_ret (v := .tuple #[gval n A2 ls.length c2, .int .i64 x, .int .i64 (99)]) (by simp [results, Try.results18, go_sem, r0, r1]) rfl ?_
        exact ⟨n, ls, A2, g2, c2, x, 99, rfl, D8.out.dg hn0 hn1 hls _ _, hx0, hx1, by omega, by omega⟩
      · have hXr := fun (y : ExtX (fun b => b = w.heap.size + 1 ∨ b = w.heap.size) W9) => (y.cell w7.heap.size 2 hbx (by omega)).trans (XB.out.cell 2)
        refine stx_seg _ 3 [14, 15] (by kernel_rfl) (by kernel_rfl) (by kernel_rfl) (by kernel_rfl) ?_
        (simp only [List.map_cons, List.map_nil, List.getElem?_cons_zero, List.getElem?_cons_succ, Option.getD_some]); (repeat (go_big_quiet_step (fail))); (refine wpQuiet_nil ?_)
        clear hXr
        refine stx_one _ 2 16 (by kernel_rfl) (by rfl) (by kernel_rfl) (by rfl) ?_
        go_wp2_with fail
        refine ⟨((Kx.refl (fun b => b = w.heap.size + 1 ∨ b = w.heap.size) _).setCell (p := ⟨w.heap.size, 0, none⟩) (.inr rfl) _).setCell (p := ⟨w.heap.size, 1, none⟩) (.inr rfl) _, _, fun _ h => h, ?_⟩
        refine stx_seg _ 0 [17, 18] (by kernel_rfl) (by kernel_rfl) (by kernel_rfl) (by kernel_rfl) ?_
        (simp only [List.map_cons, List.map_nil, List.getElem?_cons_zero, List.getElem?_cons_succ, Option.getD_some]); (repeat (go_big_quiet_step (fail))); (refine wpQuiet_nil ?_)
        refine stx_end (by kernel_rfl) ?_
        go_wp2_with fail
        refine bodyPost_ret (v := .tuple #[gval n A2 ls.length c2, .int .i64 x, .int .i64 (100)]) (by simp [results, Try.results18, go_sem, r0, r1]) rfl ?_
        exact ⟨n, ls, A2, g2, c2, x, 100, rfl, D8.out.dg hn0 hn1 hls _ _, hx0, hx1, by omega, by omega⟩
      · have hXr := fun (y : ExtX (fun b => b = w.heap.size + 1 ∨ b = w.heap.size) W9) => (y.cell w7.heap.size 3 hbx (by omega)).trans (XB.out.cell 3)
        refine stx_seg _ 3 [14, 15] (by kernel_rfl) (by kernel_rfl) (by kernel_rfl) (by kernel_rfl) ?_
        (simp only [List.map_cons, List.map_nil, List.getElem?_cons_zero, List.getElem?_cons_succ, Option.getD_some]); (repeat (go_big_quiet_step (fail))); (refine wpQuiet_nil ?_)
        clear hXr
        refine stx_one _ 2 16 (by kernel_rfl) (by rfl) (by kernel_rfl) (by rfl) ?_
        go_wp2_with fail
        refine ⟨((Kx.refl (fun b => b = w.heap.size + 1 ∨ b = w.heap.size) _).setCell (p := ⟨w.heap.size, 0, none⟩) (.inr rfl) _).setCell (p := ⟨w.heap.size, 1, none⟩) (.inr rfl) _, _, fun _ h => h, ?_⟩
        refine stx_seg _ 0 [17, 18] (by kernel_rfl) (by kernel_rfl) (by kernel_rfl) (by kernel_rfl) ?_
        (simp only [List.map_cons, List.map_nil, List.getElem?_cons_zero, List.getElem?_cons_succ, Option.getD_some]); (repeat (go_big_quiet_step (fail))); (refine wpQuiet_nil ?_)
        refine stx_end (by kernel_rfl) ?_
        go_wp2_with fail
        refine bodyPost_ret (v := .tuple #[gval n A2 ls.length c2, .int .i64 x, .int .i64 (1 + (k4 : Int))]) (by simp [results, Try.results18, go_sem, r0, r1]) rfl ?_
        exact ⟨n, ls, A2, g2, c2, x, 1 + (k4 : Int), rfl, D8.out.dg hn0 hn1 hls _ _, hx0, hx1, by omega, by omega⟩
      · have hXr := fun (y : ExtX (fun b => b = w.heap.size + 1 ∨ b = w.heap.size) W9) => (y.cell w7.heap.size 4 hbx (by omega)).trans (XB.out.cell 4)
        refine stx_seg _ 3 [14, 15] (by kernel_rfl) (by kernel_rfl) (by kernel_rfl) (by kernel_rfl) ?_
        (simp only [List.map_cons, List.map_nil, List.getElem?_cons_zero, List.getElem?_cons_succ, Option.getD_some]); (repeat (go_big_quiet_step (fail))); (refine wpQuiet_nil ?_)
        clear hXr
        refine stx_one _ 2 16 (by kernel_rfl) (by rfl) (by kernel_rfl) (by rfl) ?_
        go_wp2_with fail
        refine ⟨((Kx.refl (fun b => b = w.heap.size + 1 ∨ b = w.heap.size) _).setCell (p := ⟨w.heap.size, 0, none⟩) (.inr rfl) _).setCell (p := ⟨w.heap.size, 1, none⟩) (.inr rfl) _, _, fun _ h => h, ?_⟩
        refine stx_seg _ 0 [17, 18] (by kernel_rfl) (by kernel_rfl) (by kernel_rfl) (by kernel_rfl) ?_
        (simp only [List.map_cons, List.map_nil, List.getElem?_cons_zero, List.getElem?_cons_succ, Option.getD_some]); (repeat (go_big_quiet_step (fail))); (refine wpQuiet_nil ?_)
        refine stx_end (by kernel_rfl) ?_
        go_wp2_with fail
        refine bodyPost_ret (v := .tuple #[gval n A2 ls.length c2, .int .i64 x, .int .i64 (1 + (k5 : Int))]) (by simp [results, Try.results18, go_sem, r0, r1]) rfl ?_
        exact ⟨n, ls, A2, g2, c2, x, 1 + (k5 : Int), rfl, D8.out.dg hn0 hn1 hls _ _, hx0, hx1, by omega, by omega⟩
      · have hXr := fun (y : ExtX (fun b => b = w.heap.size + 1 ∨ b = w.heap.size) W9) => (y.cell w7.heap.size 5 hbx (by omega)).trans (XB.out.cell 5)
        refine stx_seg _ 3 [14, 15] (by kernel_rfl) (by kernel_rfl) (by kernel_rfl) (by kernel_rfl) ?_
        (simp only [List.map_cons, List.map_nil, List.getElem?_cons_zero, List.getElem?_cons_succ, Option.getD_some]); (repeat (go_big_quiet_step (fail))); (refine wpQuiet_nil ?_)
        clear hXr
        refine stx_one _ 2 16 (by kernel_rfl) (by rfl) (by kernel_rfl) (by rfl) ?_
        go_wp2_with fail
        refine ⟨((Kx.refl (fun b => b = w.heap.size + 1 ∨ b = w.heap.size) _).setCell (p := ⟨w.heap.size, 0, none⟩) (.inr rfl) _).setCell (p := ⟨w.heap.size, 1, none⟩) (.inr rfl) _, _, fun _ h => h, ?_⟩
        refine stx_seg _ 0 [17, 18] (by kernel_rfl) (by kernel_rfl) (by kernel_rfl) (by kernel_rfl) ?_
        (simp only [List.map_cons, List.map_nil, List.getElem?_cons_zero, List.getElem?_cons_succ, Option.getD_some]); (repeat (go_big_quiet_step (fail))); (refine wpQuiet_nil ?_)
        refine stx_end (by kernel_rfl) ?_
        go_wp2_with fail
        refine bodyPost_ret (v := .tuple #[gval n A2 ls.length c2, .int .i64 x, .int .i64 (1 + (k6 : Int))]) (by simp [results, Try.results18, go_sem, r0, r1]) rfl ?_
        exact ⟨n, ls, A2, g2, c2, x, 1 + (k6 : Int), rfl, D8.out.dg hn0 hn1 hls _ _, hx0, hx1, by omega, by omega⟩
    · obtain ⟨zq5, u0, u1, v0, v1⟩ := D7.out.2.1.two
      obtain ⟨b2, r0, r1⟩ := ret_two D7.out.2.1 (.int .i64 n) (.slice A2 ls.length c2)
      go_wp2_with fail
      refine ⟨((Kx.refl (fun b => b = w.heap.size + 1 ∨ b = w.heap.size) _).setCell (p := ⟨w.heap.size, 0, none⟩) (.inr rfl) _).setCell (p := ⟨w.heap.size, 1, none⟩) (.inr rfl) _, _, fun _ h => h, ?_⟩
      have DW := Lib.hid (D7.out.dg hn0 hn1 hls (.int .i64 n) (.slice A2 ls.length c2))
      have zW : w.heap.size < ((w7.setCell ⟨w.heap.size, 0, none⟩ (.int .i64 n)).setCell ⟨w.heap.size, 1, none⟩ (.slice A2 ls.length c2)).heap.size := by simpa using zq5
      have zW2 : w.heap.size + 1 < ((w7.setCell ⟨w.heap.size, 0, none⟩ (.int .i64 n)).setCell ⟨w.heap.size, 1, none⟩ (.slice A2 ls.length c2)).heap.size := by simpa using hR6
      clear D7 b2 u0 u1 v0 v1 zq5
      generalize (w7.setCell ⟨w.heap.size, 0, none⟩ (.int .i64 n)).setCell ⟨w.heap.size, 1, none⟩ (.slice A2 ls.length c2) = W8 at *
      refine stx_seg _ 4 [17] (by kernel_rfl) (by kernel_rfl) (by kernel_rfl) (by kernel_rfl) ?_
      (simp only [List.map_cons, List.map_nil, List.getElem?_cons_zero, List.getElem?_cons_succ, Option.getD_some]); (repeat (go_big_quiet_step (fail))); (refine wpQuiet_nil ?_)
      refine stx_one _ 3 11 (by kernel_rfl) (by rfl) (by kernel_rfl) (by rfl) ?_
      go_wp2_with fail
      refine ⟨(Kx.refl _ _).alloc _, _, fun _ h => h, ?_⟩
      have XB := Lib.hid (Box.new W8 3 #[.int .i64 0, .int .i64 99, .int .i64 100, .int .i64 (1 + (k4 : Int)), .int .i64 (1 + (k5 : Int)), .int .i64 (1 + (k6 : Int))])
      have hbx := XB.out.lt
      obtain rfl | rfl | rfl | rfl | rfl | rfl : k7 = 0 ∨ k7 = 1 ∨ k7 = 2 ∨ k7 = 3 ∨ k7 = 4 ∨ k7 = 5 := by omega
      · have hXr := fun (y : ExtX (fun b => b = w.heap.size + 1 ∨ b = w.heap.size) (W8.alloc (.cells #[.int .i64 0, .int .i64 99, .int .i64 100, .int .i64 (1 + (k4 : Int)), .int .i64 (1 + (k5 : Int)), .int .i64 (1 + (k6 : Int))] 3))) => (y.cell W8.heap.size 0 hbx (by omega)).trans (XB.out.cell 0)
        refine stx_seg _ 0 [14, 15, 18] (by kernel_rfl) (by kernel_rfl) (by kernel_rfl) (by kernel_rfl) ?_
        (simp only [List.map_cons, List.map_nil, List.getElem?_cons_zero, List.getElem?_cons_succ, Option.getD_some]); (repeat (go_big_quiet_step (fail))); (refine wpQuiet_nil ?_)
        clear hXr
        refine stx_end (by kernel_rfl) ?_
        go_wp2_with fail
        refine bodyPost_ret (v := .tuple #[gval n A2 ls.length c2, .int .i64 x, .int .i64 (0)]) (by simp [results, Try.results18, go_sem, r0, r1, zW]) rfl ?_
        exact ⟨n, ls, A2, g2, c2, x, 0, rfl, ⟨DW.out.1, DW.out.2.1, DW.out.2.2.1, DW.out.2.2.2.1, DW.out.2.2.2.2.1.alloc _, DW.out.2.2.2.2.2.alloc (Nat.le_of_lt zW) _⟩, hx0, hx1, by omega, by omega⟩
      · have hXr := fun (y : ExtX (fun b => b = w.heap.size + 1 ∨ b = w.heap.size) (W8.alloc (.cells #[.int .i64 0, .int .i64 99, .int .i64 100, .int .i64 (1 + (k4 : Int)), .int .i64 (1 + (k5 : Int)), .int .i64 (1 + (k6 : Int))] 3))) => (y.cell W8.heap.size 1 hbx (by omega)).trans (XB.out.cell 1)
        refine stx_seg _ 0 [14, 15, 18] (by kernel_rfl) (by kernel_rfl) (by kernel_rfl) (by kernel_rfl) ?_
        (simp only [List.map_cons, List.map_nil, List.getElem?_cons_zero, List.getElem?_cons_succ, Option.getD_some]); (repeat (go_big_quiet_step (fail))); (refine wpQuiet_nil ?_)
        clear hXr
        refine stx_end (by kernel_rfl) ?_
        go_wp2_with fail
        refine bodyPost_ret (v := .tuple #[gval n A2 ls.length c2, .int .i64 x, .int .i64 (99)]) (by simp [results, Try.results18, go_sem, r0, r1, zW]) rfl ?_
        exact ⟨n, ls, A2, g2, c2, x, 99, rfl, ⟨DW.out.1, DW.out.2.1, DW.out.2.2.1, DW.out.2.2.2.1, DW.out.2.2.2.2.1.alloc _, DW.out.2.2.2.2.2.alloc (Nat.le_of_lt zW) _⟩, hx0, hx1, by omega, by omega⟩
      · have hXr := fun (y : ExtX (fun b => b = w.heap.size + 1 ∨ b = w.heap.size) (W8.alloc (.cells #[.int .i64 0, .int .i64 99, .int .i64 100, .int .i64 (1 + (k4 : Int)), .int .i64 (1 + (k5 : Int)), .int .i64 (1 + (k6 : Int))] 3))) => (y.cell W8.heap.size 2 hbx (by omega)).trans (XB.out.cell 2)
        refine stx_seg _ 0 [14, 15, 18] (by kernel_rfl) (by kernel_rfl) (by kernel_rfl) (by kernel_rfl) ?_
        (simp only [List.map_cons, List.map_nil, List.getElem?_cons_zero, List.getElem?_cons_succ, Option.getD_some]); (repeat (go_big_quiet_step (fail))); (refine wpQuiet_nil ?_)
        clear hXr
        refine stx_end (by kernel_rfl) ?_
        go_wp2_with fail
        refine bodyPost_ret (v := .tuple #[gval n A2 ls.length c2, .int .i64 x, .int .i64 (100)]) (by simp [results, Try.results18, go_sem, r0, r1, zW]) rfl ?_
        exact ⟨n, ls, A2, g2, c2, x, 100, rfl, ⟨DW.out.1, DW.out.2.1, DW.out.2.2.1, DW.out.2.2.2.1, DW.out.2.2.2.2.1.alloc _, DW.out.2.2.2.2.2.alloc (Nat.le_of_lt zW) _⟩, hx0, hx1, by omega, by omega⟩
      · have hXr := fun (y : ExtX (fun b => b = w.heap.size + 1 ∨ b = w.heap.size) (W8.alloc (.cells #[.int .i64 0, .int .i64 99, .int .i64 100, .int .i64 (1 + (k4 : Int)), .int .i64 (1 + (k5 : Int)), .int .i64 (1 + (k6 : Int))] 3))) => (y.cell W8.heap.size 3 hbx (by omega)).trans (XB.out.cell 3)
        refine stx_seg _ 0 [14, 15, 18] (by kernel_rfl) (by kernel_rfl) (by kernel_rfl) (by kernel_rfl) ?_
        (simp only [List.map_cons, List.map_nil, List.getElem?_cons_zero, List.getElem?_cons_succ, Option.getD_some]); (repeat (go_big_quiet_step (fail))); (refine wpQuiet_nil ?_)
        clear hXr
        refine stx_end (by kernel_rfl) ?_
        go_wp2_with fail
        refine bodyPost_ret (v := .tuple #[gval n A2 ls.length c2, .int .i64 x, .int .i64 (1 + (k4 : Int))]) (by simp [results, Try.results18, go_sem, r0, r1, zW]) rfl ?_
        exact ⟨n, ls, A2, g2, c2, x, 1 + (k4 : Int), rfl, ⟨DW.out.1, DW.out.2.1, DW.out.2.2.1, DW.out.2.2.2.1, DW.out.2.2.2.2.1.alloc _, DW.out.2.2.2.2.2.alloc (Nat.le_of_lt zW) _⟩, hx0, hx1, by omega, by omega⟩
      · have hXr := fun (y : ExtX (fun b => b = w.heap.size + 1 ∨ b = w.heap.size) (W8.alloc (.cells #[.int .i64 0, .int .i64 99, .int .i64 100, .int .i64 (1 + (k4 : Int)), .int .i64 (1 + (k5 : Int)), .int .i64 (1 + (k6 : Int))] 3))) => (y.cell W8.heap.size 4 hbx (by omega)).trans (XB.out.cell 4)
        refine stx_seg _ 0 [14, 15, 18] (by kernel_rfl) (by kernel_rfl) (by kernel_rfl) (by kernel_rfl) ?_
        (simp only [List.map_cons, List.map_nil, List.getElem?_cons_zero, List.getElem?_cons_succ, Option.getD_some]); (repeat (go_big_quiet_step (fail))); (refine wpQuiet_nil ?_)
        clear hXr
        refine stx_end (by kernel_rfl) ?_
        go_wp2_with fail
        refine bodyPost_ret (v := .tuple #[gval n A2 ls.length c2, .int .i64 x, .int .i64 (1 + (k5 : Int))]) (by simp [results, Try.results18, go_sem, r0, r1, zW]) rfl ?_
        exact ⟨n, ls, A2, g2, c2, x, 1 + (k5 : Int), rfl, ⟨DW.out.1, DW.out.2.1, DW.out.2.2.1, DW.out.2.2.2.1, DW.out.2.2.2.2.1.alloc _, DW.out.2.2.2.2.2.alloc (Nat.le_of_lt zW) _⟩, hx0, hx1, by omega, by omega⟩
      · have hXr := fun (y : ExtX (fun b => b = w.heap.size + 1 ∨ b = w.heap.size) (W8.alloc (.cells #[.int .i64 0, .int .i64 99, .int .i64 100, .int .i64 (1 + (k4 : Int)), .int .i64 (1 + (k5 : Int)), .int .i64 (1 + (k6 : Int))] 3))) => (y.cell W8.heap.size 5 hbx (by omega)).trans (XB.out.cell 5)
        refine stx_seg _ 0 [14, 15, 18] (by kernel_rfl) (by kernel_rfl) (by kernel_rfl) (by kernel_rfl) ?_
        (simp only [List.map_cons, List.map_nil, List.getElem?_cons_zero, List.getElem?_cons_succ, Option.getD_some]); (repeat (go_big_quiet_step (fail))); (refine wpQuiet_nil ?_)
        clear hXr
        refine stx_end (by kernel_rfl) ?_
        go_wp2_with fail
        refine bodyPost_ret (v := .tuple #[gval n A2 ls.length c2, .int .i64 x, .int .i64 (1 + (k6 : Int))]) (by simp [results, Try.results18, go_sem, r0, r1, zW]) rfl ?_
        exact ⟨n, ls, A2, g2, c2, x, 1 + (k6 : Int), rfl, ⟨DW.out.1, DW.out.2.1, DW.out.2.2.1, DW.out.2.2.2.1, DW.out.2.2.2.2.1.alloc _, DW.out.2.2.2.2.2.alloc (Nat.le_of_lt zW) _⟩, hx0, hx1, by omega, by omega⟩
end Go.Proofs.Ytimebipgiicmiac
