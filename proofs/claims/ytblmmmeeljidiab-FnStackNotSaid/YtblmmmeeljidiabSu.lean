/-
  Contracts over this seat: what the laws of stacks draw.
-/
import Derived.Test.YtblmmmeeljidiabSt
namespace Go.Proofs.Ytblmmmeeljidiab
open Go.RowKit Go.Maps

theorem Ownb.set_far {w : World} {A : Option Addr} {g : Nat} {ls : List Lb} (h : Ownb w A g ls) {p : Addr} (hp : g ≠ p.block) (u : Value) : Ownb (w.setCell p u) A g ls := fun hl => by
  obtain ⟨e, cs, hh, hc⟩ := h hl
  exact ⟨e, cs, (Below.heap_setCell w p u g hp).trans hh, hc⟩

theorem own_some {w : World} {base cx : Nat} {Ax : Option Addr} {ls : List Lb} (h : w.ownsRow base 40 2 (.slice Ax ls.length cx) ls.length (flatB ls)) (hn : Ax ≠ none) :
    ∃ g, Ax = some ⟨g, 0, none⟩ ∧ base ≤ g ∧ g < w.heap.size ∧ Ownb w (some ⟨g, 0, none⟩) g ls ∧ ls.length ≤ cx := by
  rcases h.2 with ⟨h0, _⟩ | ⟨g, cap, cur, h0, hbg, hh, hl, _, hs, ht⟩
  · injection h0 with h0
    exact absurd h0 hn
  · injection h0 with h1 h2 h3
    subst h1 h3
    refine ⟨g, rfl, hbg, heap_lt hh, fun _ => ⟨rfl, cur, hh, fun k l hl => ?_⟩, hl⟩
    have hk : k < ls.length := (List.getElem?_eq_some_iff.1 hl).1
    obtain ⟨h1, h2⟩ := flatB_at ls k l hl
    rw [← ht] at h1 h2
    rw [List.getElem?_take_of_lt (by omega), Array.getElem?_toList] at h1 h2
    exact ⟨h1, h2⟩

/-- What a law of stacks is drawn. -/
def DStk (w : World) (e : Ending) (w' : World) : Prop :=
  ∃ (n : Int) (ls : List Lk) (A' : Option Addr) (g' c' : Nat) (x : Int) (st : List Lb) (Ax : Option Addr) (gx cx : Nat), e = .returned (.tuple #[gval n A' ls.length c', .int .i64 x, .slice Ax st.length cx]) ∧ DG w n ls A' g' w' ∧ -1 ≤ x ∧ x ≤ 10 ∧
    st.length ≤ 9 ∧ (∀ l ∈ st, LbOk l) ∧ Ownb w' Ax gx st ∧ w.heap.size ≤ gx ∧ st.length ≤ cx ∧ Ax = some ⟨gx, 0, none⟩ ∧ gx < w'.heap.size

set_option maxRecDepth 100000 in
set_option maxHeartbeats 1600000 in
theorem drawStackEnd_any (A : Option Addr) (len c : Nat) (f : Nat → Int) (w : World) (hlc : len ≤ c) (hc : c ≤ maxLen) (hB : Byt w w.heap.size A len f) :
   Calls Try.prog 12 #[.slice A len c] w (DStk w) := by
  have HB := Lib.hid (hB.alloc (.cells #[.int .i64 0, .slice none 0 0] 25))
  have HQ := Lib.hid (Box.new w 25 #[.int .i64 0, .slice none 0 0])
  clear hB
  go_enter Try.func12, Try.ntmps12
  go_wp2_with fail
  refine (open_any A len c f _ hlc hc HB.out).mono ?_
  rintro e w1 ⟨l1, hl1, rfl, hr1, hb1, hs1⟩
  rw [World.size_alloc] at hr1 hb1 hs1
  have H1 := Lib.hid hr1
  have B1 := Lib.hid (Below.trans (B := w.heap.size) (a := w) (by (repeat (first | exact Below.refl _ _ | (refine Below.alloc ?_ (by first | exact Nat.le_refl _ | omega | (simp; done) | (simp; omega)) _) | (refine Below.setCell ?_ (by first | exact Nat.le_refl _ | omega | (simp; done) | (simp; omega)) _) | exact Below.drew ‹_›))) (hb1.mono (by omega)))
  have Q1 := Lib.hid (HQ.out.below hb1 (by omega))
  clear hr1 hb1 HQ HB
  have hq := World.size_alloc w (.cells #[.int .i64 0, .slice none 0 0] 25)
  rw [hq]
  go_wp2_with fail
  refine (spoilt_any _ A l1 c 0 f w1 hl1 (by omega) H1.out).mono ?_
  rintro e w2 ⟨n, ls, A2, g2, c2, rfl, hn0, hn1, hls, hg2, ho2, hr2, hb2, -⟩
  have D2 := Lib.hid (show DI w (w.heap.size + 1) w.heap.size w2.heap.size A l1 c f (0 + 1010) n ls A2 g2 c2 (w2.alloc (.cells #[.int .i64 n, .slice A2 ls.length c2] 25)) from
    ⟨hr2.alloc _, (Q1.out.grown hb2 (by omega)).alloc _, Box.new w2 _ _, ho2.alloc _, (B1.out.grown hb2 (by omega) (fun k e => by injection e with e; omega)).alloc (by have := hb2.size; omega) _,
      by omega, by omega, by omega, by omega, by have := hb2.size; omega, by omega, by have := hb2.size; omega⟩)
  have hgR : g2 ≠ w.heap.size + 1 := by omega
  have hG0 : w.heap.size + 1 < w2.heap.size := by have := hb2.size; omega
  clear hr2 hb2 ho2 H1 B1 Q1 hg2
  generalize hG : w2.heap.size = G at *
  go_wp2_with fail
  refine (node_any _ A l1 c _ f n A2 ls.length c2 _ hl1 (by omega) hn0 hn1 D2.out.1).mono ?_
  rintro e w3 ⟨x, rfl, hx0, hx1, hr3, hb3⟩
  have D3 := Lib.hid (D2.out.node hr3 hb3)
  clear hr3 hb3 D2 hG
  obtain ⟨zg, d0, d1, p0, p1⟩ := D3.out.2.2.1.two
  have zq := D3.out.2.1.lt
  have D4 := Lib.hid D3.out.drew
  have hGR : G ≠ w.heap.size + 1 := by omega
  have hGQ : G ≠ w.heap.size := by omega
  clear D3
  go_wp2_with fail
  have hX0 := fun (y : ExtX (fun b => b = w.heap.size + 1 ∨ b = w.heap.size) w3.drew) => (y.cell G 0 zg (by omega)).trans d0
  have hX1 := fun (y : ExtX (fun b => b = w.heap.size + 1 ∨ b = w.heap.size) w3.drew) => (y.cell G 1 zg (by omega)).trans d1
  refine wp_region_stx 9 (fun b => b = w.heap.size + 1 ∨ b = w.heap.size) (by kernel_rfl) (by kernel_rfl) ?_
  refine stx_seg _ 4 [0, 1, 2, 3, 4] (by kernel_rfl) (by kernel_rfl) (by kernel_rfl) (by kernel_rfl) ?_
  (simp only [List.map_cons, List.map_nil, List.getElem?_cons_zero, List.getElem?_cons_succ, Option.getD_some]); (repeat (go_big_quiet_step (fail))); (refine wpQuiet_nil ?_)
  clear hX0 hX1 d0 d1 p0 p1
  refine stx_one _ 3 5 (by kernel_rfl) (by rfl) (by kernel_rfl) (by rfl) ?_
  go_wp2_with fail
  refine (stackd_any _ A l1 c _ f n ls A2 g2 c2 x _ hl1 (by omega) hn0 hn1 hls ⟨hx0, by omega⟩ D4.out.1 D4.out.2.2.2.1 hgR).mono ?_
  rintro e w5 ⟨st, Ax, cx, rfl, hs9, hok, hrow, hr5, hg5, hsz, hne⟩
  refine ⟨⟨hg5.os, hg5.tape, hg5.output, hg5.size, fun k hk hx => hg5.block k hk (fun e => hx (.inl (by cases e; rfl)))⟩, _, fun _ h => h, ?_⟩
  have D5 := Lib.hid (D4.out.node hr5 hg5)
  obtain ⟨g9, rfl, hg9, hg9l, ho9, hc9⟩ := own_some hrow hne
  have hg10 : w3.heap.size + 1 ≤ g9 := hg9
  have HOK := Lib.hid hok
  have HO := Lib.hid ho9
  clear hr5 hg5 hrow ho9 hok D4
  obtain ⟨zq5, e0, e1, q0, q1⟩ := D5.out.2.1.two
  refine stx_one _ 2 6 (by kernel_rfl) (by rfl) (by kernel_rfl) (by rfl) ?_
  go_wp2_with fail
  refine ⟨((Kx.refl _ _).setCell (p := ⟨w.heap.size, 0, none⟩) (.inr rfl) _).setCell (p := ⟨w.heap.size, 1, none⟩) (.inr rfl) _, _, fun _ h => h, ?_⟩
  refine stx_seg _ 0 [7, 8] (by kernel_rfl) (by kernel_rfl) (by kernel_rfl) (by kernel_rfl) ?_
  (simp only [List.map_cons, List.map_nil, List.getElem?_cons_zero, List.getElem?_cons_succ, Option.getD_some]); (repeat (go_big_quiet_step (fail))); (refine wpQuiet_nil ?_)
  refine stx_end (by kernel_rfl) ?_
  go_wp2_with fail
  obtain ⟨b2, r0, r1⟩ := ret_two D5.out.2.1 (.int .i64 n) (.slice A2 ls.length c2)
  refine bodyPost_ret (v := .tuple #[gval n A2 ls.length c2, .int .i64 x, .slice (some ⟨g9, 0, none⟩) st.length cx]) (by simp [results, Try.results12, go_sem, r0, r1]) rfl ?_
  exact ⟨n, ls, A2, g2, c2, x, st, some ⟨g9, 0, none⟩, g9, cx, rfl, D5.out.dg hn0 hn1 hls _ _, hx0, hx1, hs9, HOK.out, (HO.out.set_far (by show g9 ≠ w.heap.size; omega) _).set_far (by show g9 ≠ w.heap.size; omega) _, by omega, hc9, rfl, by simpa using hg9l⟩

set_option maxRecDepth 100000 in
theorem drawStackPath_any (A : Option Addr) (len c : Nat) (f : Nat → Int) (w : World) (hlc : len ≤ c) (hc : c ≤ maxLen) (hB : Byt w w.heap.size A len f) :
   Calls Try.prog 21 #[.slice A len c] w (DStk w) := by
  have HB := Lib.hid (hB.alloc (.cells #[.int .i64 0, .slice none 0 0] 25))
  have HQ := Lib.hid (Box.new w 25 #[.int .i64 0, .slice none 0 0])
  clear hB
  go_enter Try.func21, Try.ntmps21
  go_wp2_with fail
  refine (drawStackEnd_any A len c f _ hlc hc HB.out).mono ?_
  rintro e w1 ⟨n, ls, A2, g2, c2, x, st, _, gx, cx, rfl, ⟨hn0, hn1, hls, hg2, ho2, hb2⟩, hx0, hx1, hs9, hok, hox, hgx, hcx, rfl, hgl⟩
  rw [World.size_alloc] at hg2 hb2 hgx
  have Q1 := HQ.out.below hb2 (by omega)
  have B1 := Lib.hid (Below.trans (B := w.heap.size) (a := w) (by (repeat (first | exact Below.refl _ _ | (refine Below.alloc ?_ (by first | exact Nat.le_refl _ | omega | (simp; done) | (simp; omega)) _) | (refine Below.setCell ?_ (by first | exact Nat.le_refl _ | omega | (simp; done) | (simp; omega)) _) | exact Below.drew ‹_›))) (hb2.mono (by omega)))
  have O1 := Lib.hid ho2
  have OX := Lib.hid hox
  have HOK := Lib.hid hok
  clear HQ HB hb2 ho2 hox hok
  obtain ⟨zq, e0, e1, q0, q1⟩ := Q1.two
  go_wp2_with fail
  obtain ⟨b2, r0, r1⟩ := ret_two Q1 (.int .i64 n) (.slice A2 ls.length c2)
  refine bodyPost_ret (v := .tuple #[gval n A2 ls.length c2, .int .i64 x, .slice (some ⟨gx, 0, none⟩) st.length cx]) (by simp [results, Try.results21, go_sem, r0, r1]) rfl ?_
  exact ⟨n, ls, A2, g2, c2, x, st, _, gx, cx, rfl, ⟨hn0, hn1, hls, by omega, (O1.out.set_box Q1 (by decide) 0 _).set_box (heap_set Q1 0 _) (by decide) 1 _, (B1.out.setCell (p := ⟨w.heap.size, 0, none⟩) (Nat.le_refl _) _).setCell (p := ⟨w.heap.size, 1, none⟩) (Nat.le_refl _) _⟩, hx0, hx1, hs9, HOK.out, (OX.out.set_far (by show gx ≠ w.heap.size; omega) _).set_far (by show gx ≠ w.heap.size; omega) _, by omega, hcx, rfl, by simpa using hgl⟩

set_option maxRecDepth 100000 in
theorem drawStackCost_any (A : Option Addr) (len c : Nat) (f : Nat → Int) (w : World) (hlc : len ≤ c) (hc : c ≤ maxLen) (hB : Byt w w.heap.size A len f) :
   Calls Try.prog 15 #[.slice A len c] w (DStk w) := by
  have HB := Lib.hid (hB.alloc (.cells #[.int .i64 0, .slice none 0 0] 25))
  have HQ := Lib.hid (Box.new w 25 #[.int .i64 0, .slice none 0 0])
  clear hB
  go_enter Try.func15, Try.ntmps15
  go_wp2_with fail
  refine (drawStackEnd_any A len c f _ hlc hc HB.out).mono ?_
  rintro e w1 ⟨n, ls, A2, g2, c2, x, st, _, gx, cx, rfl, ⟨hn0, hn1, hls, hg2, ho2, hb2⟩, hx0, hx1, hs9, hok, hox, hgx, hcx, rfl, hgl⟩
  rw [World.size_alloc] at hg2 hb2 hgx
  have Q1 := HQ.out.below hb2 (by omega)
  have B1 := Lib.hid (Below.trans (B := w.heap.size) (a := w) (by (repeat (first | exact Below.refl _ _ | (refine Below.alloc ?_ (by first | exact Nat.le_refl _ | omega | (simp; done) | (simp; omega)) _) | (refine Below.setCell ?_ (by first | exact Nat.le_refl _ | omega | (simp; done) | (simp; omega)) _) | exact Below.drew ‹_›))) (hb2.mono (by omega)))
  have O1 := Lib.hid ho2
  have OX := Lib.hid hox
  have HOK := Lib.hid hok
  clear HQ HB hb2 ho2 hox hok
  obtain ⟨zq, e0, e1, q0, q1⟩ := Q1.two
  go_wp2_with fail
  obtain ⟨b2, r0, r1⟩ := ret_two Q1 (.int .i64 n) (.slice A2 ls.length c2)
  refine bodyPost_ret (v := .tuple #[gval n A2 ls.length c2, .int .i64 x, .slice (some ⟨gx, 0, none⟩) st.length cx]) (by simp [results, Try.results15, go_sem, r0, r1]) rfl ?_
  exact ⟨n, ls, A2, g2, c2, x, st, _, gx, cx, rfl, ⟨hn0, hn1, hls, by omega, (O1.out.set_box Q1 (by decide) 0 _).set_box (heap_set Q1 0 _) (by decide) 1 _, (B1.out.setCell (p := ⟨w.heap.size, 0, none⟩) (Nat.le_refl _) _).setCell (p := ⟨w.heap.size, 1, none⟩) (Nat.le_refl _) _⟩, hx0, hx1, hs9, HOK.out, (OX.out.set_far (by show gx ≠ w.heap.size; omega) _).set_far (by show gx ≠ w.heap.size; omega) _, by omega, hcx, rfl, by simpa using hgl⟩

set_option maxRecDepth 100000 in
theorem drawStackUnique_any (A : Option Addr) (len c : Nat) (f : Nat → Int) (w : World) (hlc : len ≤ c) (hc : c ≤ maxLen) (hB : Byt w w.heap.size A len f) :
   Calls Try.prog 28 #[.slice A len c] w (DStk w) := by
  have HB := Lib.hid (hB.alloc (.cells #[.int .i64 0, .slice none 0 0] 25))
  have HQ := Lib.hid (Box.new w 25 #[.int .i64 0, .slice none 0 0])
  clear hB
  go_enter Try.func28, Try.ntmps28
  go_wp2_with fail
  refine (drawStackEnd_any A len c f _ hlc hc HB.out).mono ?_
  rintro e w1 ⟨n, ls, A2, g2, c2, x, st, _, gx, cx, rfl, ⟨hn0, hn1, hls, hg2, ho2, hb2⟩, hx0, hx1, hs9, hok, hox, hgx, hcx, rfl, hgl⟩
  rw [World.size_alloc] at hg2 hb2 hgx
  have Q1 := HQ.out.below hb2 (by omega)
  have B1 := Lib.hid (Below.trans (B := w.heap.size) (a := w) (by (repeat (first | exact Below.refl _ _ | (refine Below.alloc ?_ (by first | exact Nat.le_refl _ | omega | (simp; done) | (simp; omega)) _) | (refine Below.setCell ?_ (by first | exact Nat.le_refl _ | omega | (simp; done) | (simp; omega)) _) | exact Below.drew ‹_›))) (hb2.mono (by omega)))
  have O1 := Lib.hid ho2
  have OX := Lib.hid hox
  have HOK := Lib.hid hok
  clear HQ HB hb2 ho2 hox hok
  obtain ⟨zq, e0, e1, q0, q1⟩ := Q1.two
  go_wp2_with fail
  obtain ⟨b2, r0, r1⟩ := ret_two Q1 (.int .i64 n) (.slice A2 ls.length c2)
  refine bodyPost_ret (v := .tuple #[gval n A2 ls.length c2, .int .i64 x, .slice (some ⟨gx, 0, none⟩) st.length cx]) (by simp [results, Try.results28, go_sem, r0, r1]) rfl ?_
  exact ⟨n, ls, A2, g2, c2, x, st, _, gx, cx, rfl, ⟨hn0, hn1, hls, by omega, (O1.out.set_box Q1 (by decide) 0 _).set_box (heap_set Q1 0 _) (by decide) 1 _, (B1.out.setCell (p := ⟨w.heap.size, 0, none⟩) (Nat.le_refl _) _).setCell (p := ⟨w.heap.size, 1, none⟩) (Nat.le_refl _) _⟩, hx0, hx1, hs9, HOK.out, (OX.out.set_far (by show gx ≠ w.heap.size; omega) _).set_far (by show gx ≠ w.heap.size; omega) _, by omega, hcx, rfl, by simpa using hgl⟩

end Go.Proofs.Ytblmmmeeljidiab
