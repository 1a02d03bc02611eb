/-
  Contracts over this seat: the drawn graph that is seldom invalid, a node, a link, and the laws' drawings.
-/
import Derived.Test.YtkcnbgimdiggoabA4
import Derived.Deep.Onto
import Derived.Laws.OwnMore
namespace Go.Proofs.Ytkcnbgimdiggoab
open Go.RowKit

theorem flat_set_b : ∀ (ls : List Lk) (x : Nat) (l : Lk), ls[x]? = some l → ∀ u : Int, (flat ls).set (x * 3 + 1) (.int .i64 u) = flat (ls.set x ⟨l.a, u, l.c⟩)
  | [], x, l, h, u => by simp at h
  | y :: ys, 0, l, h, u => by
    obtain rfl : y = l := by simpa using h
    simp [flat]
  | y :: ys, x + 1, l, h, u => by
    have ih := flat_set_b ys x l (by simpa using h) u
    have e : (x + 1) * 3 + 1 = (x * 3 + 1) + 3 := by omega
    rw [e, List.set_cons_succ]
    show (flat (y :: ys)).set (x * 3 + 1 + 3) _ = _
    simp only [flat, List.set_cons_succ] at ih ⊢
    rw [ih]
theorem flat_set_c : ∀ (ls : List Lk) (x : Nat) (l : Lk), ls[x]? = some l → ∀ u : Int, (flat ls).set (x * 3 + 2) (.int .i64 u) = flat (ls.set x ⟨l.a, l.b, u⟩)
  | [], x, l, h, u => by simp at h
  | y :: ys, 0, l, h, u => by
    obtain rfl : y = l := by simpa using h
    simp [flat]
  | y :: ys, x + 1, l, h, u => by
    have ih := flat_set_c ys x l (by simpa using h) u
    have e : (x + 1) * 3 + 2 = (x * 3 + 2) + 3 := by omega
    rw [e, List.set_cons_succ]
    show (flat (y :: ys)).set (x * 3 + 2 + 3) _ = _
    simp only [flat, List.set_cons_succ] at ih ⊢
    rw [ih]

/-- A graph of the call's own, the reader behind it. -/
def Spoil (R : Nat) (A : Option Addr) (len c : Nat) (f : Nat → Int) (P : Nat) (w : World) (e : Ending) (w' : World) : Prop :=
  ∃ (n : Int) (ls : List Lk) (A' : Option Addr) (g' c' : Nat), e = .returned (gval n A' ls.length c') ∧ 0 ≤ n ∧ n ≤ 10 ∧ ls.length ≤ 16 ∧ w.heap.size ≤ g' ∧ Own1 w' A' g' ls ∧ RD R A len c f P w' ∧ w.grownBy w' (some R) ∧ ls.length ≤ c'

theorem own_cap {w : World} {base n c' : Nat} {A' : Option Addr} {xs : List Value} (h : w.ownsRow base 68 3 (.slice A' n c') n xs) : n ≤ c' := by
  rcases h.2 with ⟨_, h0⟩ | ⟨g, cap, cur, e, _, _, hn, _⟩
  · omega
  · injection e with _ _ e3
    omega
theorem slice_inj {A A' : Option Addr} {n n' c c' : Nat} (h : Value.slice A n c = .slice A' n' c') : A = A' ∧ c = c' := by
  injection h with h1 h2 h3
  exact ⟨h1, h3⟩
theorem pick_of_three {w w4 : World} {R k t : Nat} {x y z : Int} (hg : (w.alloc (.cells #[.int .i64 x, .int .i64 y, .int .i64 z] t)).grownBy w4 (some R)) (hR : R < w.heap.size) (hk : k < 3) :
    ∃ v : Int, w4.cell? ⟨w.heap.size, k, none⟩ = some (.int .i64 v) := by
  have h := ((Box.new w t #[.int .i64 x, .int .i64 y, .int .i64 z]).grown hg (by omega)).cell k
  rcases (show k = 0 ∨ k = 1 ∨ k = 2 by omega) with rfl | rfl | rfl
  · exact ⟨x, h⟩
  · exact ⟨y, h⟩
  · exact ⟨z, h⟩
theorem three_new (w : World) {k : Nat} (t : TypeId) (x y z : Int) (hk : k < 3) :
    ∃ v : Int, (w.alloc (.cells #[.int .i64 x, .int .i64 y, .int .i64 z] t)).cell? ⟨w.heap.size, k, none⟩ = some (.int .i64 v) ∧ (#[.int .i64 x, .int .i64 y, .int .i64 z] : Array Value)[k]? = some (.int .i64 v) := by
  have h := (Box.new w t #[.int .i64 x, .int .i64 y, .int .i64 z]).cell k
  rcases (show k = 0 ∨ k = 1 ∨ k = 2 by omega) with rfl | rfl | rfl
  · exact ⟨x, h, rfl⟩
  · exact ⟨y, h, rfl⟩
  · exact ⟨z, h, rfl⟩
theorem GI.alloc {w w1 : World} {R Q G : Nat} {A : Option Addr} {len c : Nat} {f : Nat → Int} {n : Int} {P : Nat} {ls : List Lk} {v : Value} (h : GI w R Q G A len c f n P ls v w1) (o : Obj) : GI w R Q G A len c f n P ls v (w1.alloc o) := by
  obtain ⟨h1, h2, h3, h4, h5, h6⟩ := h
  exact ⟨h1.alloc o, h2.alloc o, h3.alloc o, h4.alloc o, grown_alloc h5 o, by simp; omega⟩
theorem GI.row {w w1 : World} {R Q G g1 cc k : Nat} {A : Option Addr} {len c : Nat} {f : Nat → Int} {n : Int} {P : Nat} {ls : List Lk} (h : GI w R Q G A len c f n P ls (.slice (some ⟨g1, 0, none⟩) ls.length cc) w1) (hk : k < ls.length) :
    ∃ a b d : Int, w1.cell? ⟨g1, k * 3, none⟩ = some (.int .i64 a) ∧ w1.cell? ⟨g1, k * 3 + 1, none⟩ = some (.int .i64 b) ∧ w1.cell? ⟨g1, k * 3 + 2, none⟩ = some (.int .i64 d) ∧
      (∀ j, w1.frozen? ⟨g1, j, none⟩ = false) ∧ w.heap.size ≤ g1 ∧ g1 < w1.heap.size ∧ g1 ≠ Q ∧ g1 ≠ G := by
  obtain ⟨h1, h2, h3, h4, h5, h6⟩ := h
  obtain ⟨f1, f2, f3⟩ := flat_at ls k _ (List.getElem?_eq_getElem hk)
  exact ⟨_, _, _, (h4.cellAt _ (by omega)).trans f1, (h4.cellAt _ (by omega)).trans f2, (h4.cellAt _ (by omega)).trans f3, fun j => h4.frozenAt j, (h4.lt g1 rfl).1, (h4.lt g1 rfl).2,
    fun e => own_box_ne h4 h2 (by decide) (by rw [← e]; rfl), fun e => own_box_ne h4 h3 (by decide) (by rw [← e]; rfl)⟩
theorem GI.rowset {w w1 : World} {R Q G g1 cc k : Nat} {A : Option Addr} {len c : Nat} {f : Nat → Int} {n : Int} {P : Nat} {ls : List Lk} (h : GI w R Q G A len c f n P ls (.slice (some ⟨g1, 0, none⟩) ls.length cc) w1) (hk : k < ls.length) (hR : R < w.heap.size) (m : Nat) (hm : m = 1 ∨ m = 2) (u : Int) :
    ∃ ls' : List Lk, ls'.length = ls.length ∧ GI w R Q G A len c f n P ls' (.slice (some ⟨g1, 0, none⟩) ls.length cc) (w1.setCell ⟨g1, k * 3 + m, none⟩ (.int .i64 u)) := by
  obtain ⟨_, _, _, _, _, _, _, hb, _, hQ, hG⟩ := h.row hk
  obtain ⟨h1, h2, h3, h4, h5, h6⟩ := h
  obtain ⟨ls', e1, e2⟩ : ∃ ls' : List Lk, ls'.length = ls.length ∧ (flat ls).set (k * 3 + m) (.int .i64 u) = flat ls' := by
    rcases hm with rfl | rfl
    · exact ⟨_, by simp, flat_set_b ls k _ (List.getElem?_eq_getElem hk) u⟩
    · exact ⟨_, by simp, flat_set_c ls k _ (List.getElem?_eq_getElem hk) u⟩
  refine ⟨ls', e1, h1.set (by simpa using (by omega : R < g1)) _, (Below.heap_setCell w1 ⟨g1, k * 3 + m, none⟩ _ Q (fun e => hQ e.symm)).trans h2, (Below.heap_setCell w1 ⟨g1, k * 3 + m, none⟩ _ G (fun e => hG e.symm)).trans h3, ?_, grown_setFar h5 hb _, by simpa using h6⟩
  have := (h4.stored (k * 3 + m) (.int .i64 u)).1
  rw [e2] at this
  rw [e1]
  exact this
theorem ret_two {w : World} {Q t : Nat} {v0 v1 : Value} (h : Box w Q t #[v0, v1]) (u0 u1 : Value) :
    Box ((w.setCell ⟨Q, 0, none⟩ u0).setCell ⟨Q, 1, none⟩ u1) Q t #[u0, u1] ∧ ((w.setCell ⟨Q, 0, none⟩ u0).setCell ⟨Q, 1, none⟩ u1).cell? ⟨Q, 0, none⟩ = some u0 ∧ ((w.setCell ⟨Q, 0, none⟩ u0).setCell ⟨Q, 1, none⟩ u1).cell? ⟨Q, 1, none⟩ = some u1 := by
  have b2 : Box ((w.setCell ⟨Q, 0, none⟩ u0).setCell ⟨Q, 1, none⟩ u1) Q t #[u0, u1] := heap_set (heap_set h 0 u0) 1 u1
  exact ⟨b2, b2.cell 0, b2.cell 1⟩
theorem GI.spoil {w w1 : World} {R Q G : Nat} {A A' : Option Addr} {len c c' : Nat} {f : Nat → Int} {n : Int} {P P' : Nat} {ls : List Lk} (h : GI w R Q G A len c f n P ls (.slice A' ls.length c') w1) (hQ : R < Q) (hwQ : w.heap.size ≤ Q)
    (hn0 : 0 ≤ n) (hn : n ≤ 10) (hl : ls.length ≤ 16) (hP : P ≤ P') (u0 u1 : Value) :
    Spoil R A len c f P' w (.returned (gval n A' ls.length c')) ((w1.setCell ⟨Q, 0, none⟩ u0).setCell ⟨Q, 1, none⟩ u1) := by
  obtain ⟨h1, h2, h3, h4, h5, h6⟩ := h
  have k1 := h4.kept (grown_set (World.grownBy.refl w1 (some Q)) 0 u0) (.inr (own_box_ne h4 h2 (by decide)))
  have k2 := k1.kept (grown_set (World.grownBy.refl _ (some Q)) 1 u1) (.inr (own_box_ne k1 (heap_set h2 0 u0) (by decide)))
  have hcap := own_cap k2
  obtain ⟨A2, g2, c2, e2, hg2, -, ho2⟩ := own_slice k2 (by simpa using h6)
  injection e2 with e3 e4 e5
  subst e3; subst e5
  exact ⟨n, ls, A', g2, c', rfl, hn0, hn, hl, hg2, ho2, RD.mono ((h1.set (q := ⟨Q, 0, none⟩) hQ _).set (q := ⟨Q, 1, none⟩) hQ _) hP,
    grown_setFar (grown_setFar h5 (p := ⟨Q, 0, none⟩) hwQ _) (p := ⟨Q, 1, none⟩) hwQ _, hcap⟩

set_option maxRecDepth 100000 in
set_option maxHeartbeats 4000000 in
theorem spoilt_any (R : Nat) (A : Option Addr) (len c P : Nat) (f : Nat → Int) (w : World) (hlen : len ≤ 2000) (hP : P ≤ 1000) (hR : RD R A len c f P w) :
   Calls Try.prog 37 #[.pointer (some ⟨R, 0, none⟩)] w (Spoil R A len c f (P + 1010) w) := by
  obtain ⟨i0, hi, hz0, hz1, hz2⟩ := info_parts infoLink
  have HR := Lib.hid hR
  have zR := hR.lt
  clear hR
  have HQ := Lib.hid (Box.new w 25 #[.int .i64 0, .slice none 0 0])
  go_enter Try.func37, Try.ntmps37
  go_wp2_with fail
  refine (drawG_any R A len c P f _ hlen hP (HR.out.alloc _)).mono ?_
  rintro e w1 ⟨n, ls, A1, cc, rfl, hn0, hn10, hls, ho1, hr1, hg1⟩
  have Q1 := HQ.out.grown hg1 (by omega)
  have hs1 := hg1.size
  rw [World.size_alloc] at hs1 ho1
  have hgw := grown_trans (World.grownBy_alloc w _ (some R)) hg1
  have G1 := Lib.hid (show GI w R w.heap.size w1.heap.size A len c f n (P + 1000) ls (.slice A1 ls.length cc) (w1.alloc (.cells #[.int .i64 n, .slice A1 ls.length cc] 25)) from
    ⟨hr1.alloc _, Q1.alloc _, Box.new w1 25 #[.int .i64 n, .slice A1 ls.length cc], (ho1.mono (by omega)).alloc _, grown_alloc hgw _, by simp; omega⟩)
  obtain ⟨zg, c0, c1, q0, q1⟩ := Q1.two
  obtain ⟨A', g1, c', hsl, hgg1, -, hOwn⟩ := own_slice (ho1.mono (by omega : w.heap.size ≤ w.heap.size + 1)) (by omega)
  by_cases hl0 : ls.length = 0
  · obtain rfl : ls = [] := List.eq_nil_of_length_eq_zero hl0
    go_wp2_with fail
    obtain ⟨b2, -, -⟩ := ret_two Q1 (.int .i64 n) (.slice A1 0 cc)
    have b3 := b2.alloc (.cells #[.int .i64 n, .slice A1 0 cc] 25)
    have r0 := b3.cell 0
    have r1 := b3.cell 1
    refine bodyPost_ret (v := gval n A1 0 cc) (by simp [results, Try.results37, go_sem, r0, r1]) rfl ?_
    exact ⟨n, [], A1, g1, cc, rfl, hn0, hn10, by simp, hgg1, fun h => by simp at h, RD.mono (((hr1.set (q := ⟨w.heap.size, 0, none⟩) zR _).set (q := ⟨w.heap.size, 1, none⟩) zR _).alloc _) (by omega),
      grown_alloc (grown_setFar (grown_setFar hgw (p := ⟨w.heap.size, 0, none⟩) (Nat.le_refl _) _) (p := ⟨w.heap.size, 1, none⟩) (Nat.le_refl _) _) _, Nat.zero_le _⟩
  · obtain ⟨hA1, -⟩ := hOwn (by omega)
    obtain ⟨rfl, rfl⟩ := slice_inj hsl
    subst hA1
    clear hsl hOwn
    go_wp2_with fail
    refine (pick_rd R A len c (P + 1000) ls.length f _ hlen (by omega) (by omega) (by omega) G1.out.1).mono ?_
    rintro e w2 ⟨k2, rfl, hk2, hR2, hg2, hs2, hb2⟩
    have G2 := Lib.hid (G1.out.picked (by omega) (by omega) hR2 hg2 hb2)
    obtain ⟨zg, d0, d1, p0, p1⟩ := G2.out.2.2.1.two
    go_wp2_with fail
    refine (pick_rd R A len c (P + 1001) 24 f _ hlen (by omega) (by omega) (by omega) G2.out.1).mono ?_
    rintro e w3 ⟨k3, rfl, hk3, hR3, hg3, hs3, hb3⟩
    have G3 := Lib.hid (G2.out.picked (by omega) (by omega) hR3 hg3 hb3)
    clear d0 d1 p0 p1 zg G1 G2 c0 c1 q0 q1 hR2 hg2 hs2 hb2 hR3 hg3 hs3 hb3
    obtain ⟨zg, d0, d1, p0, p1⟩ := G3.out.2.2.1.two
    obtain ⟨zq, f0, f1, u0, u1⟩ := G3.out.2.1.two
    have zz := zR
    generalize hG : w1.heap.size = G at *
    rcases (show k3 = 0 ∨ k3 = 1 ∨ k3 = 2 ∨ k3 = 3 ∨ 4 ≤ k3 by omega) with rfl | rfl | rfl | rfl | h4
    · have GD := Lib.hid G3.out.drew
      clear G3
      go_wp2_with fail
      go_region_law (first
        | (go_simp; go_at_call 70; refine (pick_rd R A len c _ _ f _ hlen (by omega) (by omega) (by omega) GD.out.1).mono ?_; rintro e w4 ⟨k4, rfl, hk4, hR4, hg4, hs4, hb4⟩; have G4 := Lib.hid (GD.out.picked (by omega) (by omega) hR4 hg4 hb4); obtain ⟨_, _, _, x0, x1, x2, xf, xb, xl, xQ, xG⟩ := G4.out.row (k := k2) (by omega); have y0 : w4.cell? ⟨G, 1, none⟩ = _ := G4.out.2.2.1.cell 1; have y1 := xf (k2 * 3 + 2); obtain ⟨v4, e4, e4'⟩ := three_new w4 (k := k4) 3 0 20 21 (by omega); obtain ⟨_, _, _, h0, h1, h2, hf, hb, hl, -, -⟩ := (G4.out.alloc (.cells #[.int .i64 0, .int .i64 20, .int .i64 21] 3)).row (k := k2) (by omega); have y2 := hf (k2 * 3 + 2); have G5 := Lib.hid (G4.out.alloc (.cells #[.int .i64 0, .int .i64 20, .int .i64 21] 3)))
        | (go_simp; go_at_call 70; refine (pick_rd R A len c _ _ f _ hlen (by omega) (by omega) (by omega) (GD.out.alloc _).1).mono ?_; rintro e w4 ⟨k4, rfl, hk4, hR4, hg4, hs4, hb4⟩; have G4 := Lib.hid ((GD.out.alloc _).picked (by omega) (by omega) hR4 hg4 hb4); obtain ⟨_, _, _, x0, x1, x2, xf, xb, xl, xQ, xG⟩ := G4.out.row (k := k2) (by omega); have y0 : w4.cell? ⟨G, 1, none⟩ = _ := G4.out.2.2.1.cell 1; have y1 := xf (k2 * 3 + 2); obtain ⟨v4, e4⟩ := pick_of_three hg4 (by show R < w3.heap.size; omega) (by omega : k4 < 3); replace e4 : w4.cell? ⟨w3.heap.size, k4, none⟩ = some (.int .i64 v4) := e4; have G5 := G4))
      all_goals
        obtain ⟨ls', e1, hs'⟩ := G5.out.rowset (k := k2) (by omega) zR 2 (by omega) v4
        have E1 := Lib.hid e1
        clear e1 zg d0 d1 p0 p1 zq f0 f1 u0 u1 e4 x0 x1 x2 y0 y1
        generalize hW : World.setCell _ ⟨g1, k2 * 3 + 2, none⟩ (.int .i64 v4) = W' at hs' ⊢
        clear hW
        obtain ⟨zg, d0, d1, p0, p1⟩ := hs'.2.2.1.two
        obtain ⟨zq, f0, f1, u0, u1⟩ := hs'.2.1.two
        go_wp2_with fail
        obtain ⟨b2, r0, r1⟩ := ret_two hs'.2.1 (.int .i64 n) (.slice (some ⟨g1, 0, none⟩) ls.length cc)
        refine bodyPost_ret (v := gval n (some ⟨g1, 0, none⟩) ls.length cc) (by simp [results, Try.results37, go_sem, r0, r1]) rfl ?_
        have e1 := E1.out
        have hls' := hls
        rw [← e1] at hs' hls' ⊢
        exact hs'.spoil zR (Nat.le_refl _) hn0 hn10 (by omega) (by omega) _ _
    · have GD := Lib.hid G3.out.drew
      clear G3
      go_wp2_with fail
      go_region_law (go_simp; go_at_call 70; refine (pick_rd R A len c _ _ f _ hlen (by omega) (by omega) (by omega) GD.out.1).mono ?_; rintro e w4 ⟨k4, rfl, hk4, hR4, hg4, hs4, hb4⟩; have G4 := Lib.hid (GD.out.picked (by omega) (by omega) hR4 hg4 hb4); obtain ⟨_, _, _, x0, x1, x2, xf, xb, xl, xQ, xG⟩ := G4.out.row (k := k2) (by omega); have y0 : w4.cell? ⟨G, 1, none⟩ = _ := G4.out.2.2.1.cell 1; have y1 := xf (k2 * 3 + 1); skip)
      all_goals
        obtain ⟨ls', e1, hs'⟩ := G4.out.rowset (k := k2) (by omega) zR 1 (by omega) (k4 : Int)
        have E1 := Lib.hid e1
        clear e1
        obtain ⟨zg, d0, d1, p0, p1⟩ := hs'.2.2.1.two
        obtain ⟨zq, f0, f1, u0, u1⟩ := hs'.2.1.two
        go_wp2_with fail
        obtain ⟨b2, r0, r1⟩ := ret_two hs'.2.1 (.int .i64 n) (.slice (some ⟨g1, 0, none⟩) ls.length cc)
        refine bodyPost_ret (v := gval n (some ⟨g1, 0, none⟩) ls.length cc) (by simp [results, Try.results37, go_sem, r0, r1]) rfl ?_
        have e1 := E1.out
        have hls' := hls
        rw [← e1] at hs' hls' ⊢
        exact hs'.spoil zR (Nat.le_refl _) hn0 hn10 (by omega) (by omega) _ _
    · go_wp2_with fail
      refine (pick_rd R A len c _ 10 f _ hlen (by omega) (by omega) (by omega) G3.out.1).mono ?_
      rintro e w4 ⟨k4, rfl, hk4, hR4, hg4, hs4, hb4⟩
      have G4 := Lib.hid (G3.out.picked (by omega) (by omega) hR4 hg4 hb4)
      obtain ⟨yg, y0, y1, y2, y3⟩ := G4.out.2.2.1.two
      have hs' := G4.out.setN (by omega) (by omega) (by omega) (k4 : Int)
      clear zg d0 d1 p0 p1 zq f0 f1 u0 u1
      obtain ⟨zg, d0, d1, p0, p1⟩ := hs'.2.2.1.two
      obtain ⟨zq, f0, f1, u0, u1⟩ := hs'.2.1.two
      go_wp2_with fail
      obtain ⟨b2, r0, r1⟩ := ret_two hs'.2.1 (.int .i64 (k4 : Int)) (.slice (some ⟨g1, 0, none⟩) ls.length cc)
      refine bodyPost_ret (v := gval (k4 : Int) (some ⟨g1, 0, none⟩) ls.length cc) (by simp [results, Try.results37, go_sem, r0, r1]) rfl ?_
      exact hs'.spoil zR (Nat.le_refl _) (by omega) (by omega) (by omega) (by omega) _ _
    · have GD := Lib.hid G3.out.drew
      obtain ⟨xa, xb', xc, x0, x1, x2, xf, xb, xl, xQ, xG⟩ := GD.out.row (k := k2) (by omega)
      clear G3
      go_wp2_with fail
      go_region_law (refine step_append_lies _ rfl _ _ 23 rfl w.heap.size 68 i0 _ 3 24 Try.underlying23 hi hz0 hz1 hz2 rfl (by decide) _ ls.length (flat ls) rfl (GD.out.2.2.2.1.alloc _) ⟨w3.heap.size, 0, none⟩ 1 1 _ rfl rfl (new3 _ _ _ _ _) (one3 _ _ _) (by decide) (by unfold maxLen; omega) (by omega) (by have := GD.out.2.2.2.2.2; simp; omega) _ rfl ?_; intro g8 cap8 w8 hown8 hgrow8 hat8 hlt8; have S8 := Lib.hid (GD.out.appended zR hown8 hgrow8); have e8 : w8.cell? ⟨G, 1, none⟩ = _ := S8.out.2.2.1.cell 1; have q8 : w8.frozen? ⟨G, 1, none⟩ = false := S8.out.2.2.1.frozen 1; clear hown8 hgrow8 hat8 hlt8)
      all_goals
        obtain ⟨ls', e1, hs'⟩ : ∃ ls' : List Lk, ls'.length = ls.length + 1 ∧ GI w R w.heap.size G A len c f n (P + 1001 + 1) ls' (.slice (some ⟨g8, 0, none⟩) (ls.length + 1) cap8) (w8.setCell ⟨G, 1, none⟩ (.slice (some ⟨g8, 0, none⟩) (ls.length + 1) cap8)) :=
          ⟨_, by simp, GI.stored S8.out (by omega) (by omega) (by omega)⟩
        have E1 := Lib.hid e1
        clear e1 zg d0 d1 p0 p1 zq f0 f1 u0 u1
        generalize hW : World.setCell _ _ _ = W' at hs' ⊢
        clear hW
        obtain ⟨zg, d0, d1, p0, p1⟩ := hs'.2.2.1.two
        obtain ⟨zq, f0, f1, u0, u1⟩ := hs'.2.1.two
        go_wp2_with fail
        obtain ⟨b2, r0, r1⟩ := ret_two hs'.2.1 (.int .i64 n) (.slice (some ⟨g8, 0, none⟩) (ls.length + 1) cap8)
        refine bodyPost_ret (v := gval n (some ⟨g8, 0, none⟩) (ls.length + 1) cap8) (by simp [results, Try.results37, go_sem, r0, r1]) rfl ?_
        have e1 := E1.out
        rw [← e1] at hs' ⊢
        exact hs'.spoil zR (Nat.le_refl _) hn0 hn10 (by omega) (by omega) _ _
    · have e0 : ((k3 : Int) == 0) = false := by simp; omega
      have e1 : ((k3 : Int) == 1) = false := by simp; omega
      have e2 : ((k3 : Int) == 2) = false := by simp; omega
      have e3 : ((k3 : Int) == 3) = false := by simp; omega
      go_wp2_with fail
      have hs := G3.out
      obtain ⟨b2, r0, r1⟩ := ret_two hs.2.1 (.int .i64 n) (.slice (some ⟨g1, 0, none⟩) ls.length cc)
      refine bodyPost_ret (v := gval n (some ⟨g1, 0, none⟩) ls.length cc) (by simp [results, Try.results37, go_sem, r0, r1]) rfl ?_
      exact hs.spoil zR (Nat.le_refl _) hn0 hn10 (by omega) (by omega) _ _

end Go.Proofs.Ytkcnbgimdiggoab

/-
  Contracts over this seat: the reader opened, a node, and what the laws of chapter 1 draw.
-/
namespace Go.Proofs.Ytkcnbgimdiggoab
open Go.RowKit

theorem Byt.less {w : World} {B : Nat} {A : Option Addr} {len len' : Nat} {f : Nat → Int} (h : Byt w B A len f) (hl : len' ≤ len) : Byt w B A len' f := fun hp => by
  obtain ⟨b, off, e, hb, hc⟩ := h (by omega)
  exact ⟨b, off, e, hb, fun i hi => hc i (by omega)⟩

set_option maxRecDepth 100000 in
theorem open_any (A : Option Addr) (len c : Nat) (f : Nat → Int) (w : World) (hlc : len ≤ c) (hc : c ≤ maxLen) (hB : Byt w w.heap.size A len f) :
   Calls Try.prog 36 #[.slice A len c] w fun e w' => ∃ len' : Nat, len' ≤ 2000 ∧ e = .returned (.pointer (some ⟨w.heap.size, 0, none⟩)) ∧ RD w.heap.size A len' c f 0 w' ∧ Below w.heap.size w w' ∧ w'.heap.size = w.heap.size + 1 := by
  have HB := Lib.hid hB
  clear hB
  unfold maxLen at hc
  by_cases h : len ≤ 2000
  · go_enter Try.func36, Try.ntmps36
    go_wp2
    go_ret
    exact ⟨len, h, rfl, ⟨0, Nat.le_refl _, Box.new w 80 _, HB.out.below ((Below.refl w.heap.size w).alloc (Nat.le_refl _) _)⟩, by (repeat (first | exact Below.refl _ _ | (refine Below.alloc ?_ (by first | exact Nat.le_refl _ | omega | (simp; done) | (simp; omega)) _) | (refine Below.setCell ?_ (by first | exact Nat.le_refl _ | omega | (simp; done) | (simp; omega)) _) | exact Below.drew ‹_›)), by simp⟩
  · obtain ⟨b, off, rfl, hb, hcc⟩ := HB.out (by omega)
    clear hcc
    go_enter Try.func36, Try.ntmps36
    go_wp2
    go_ret
    exact ⟨2000, Nat.le_refl _, rfl, ⟨0, Nat.le_refl _, Box.new w 80 _, (HB.out.less (by omega)).below ((Below.refl w.heap.size w).alloc (Nat.le_refl _) _)⟩, by (repeat (first | exact Below.refl _ _ | (refine Below.alloc ?_ (by first | exact Nat.le_refl _ | omega | (simp; done) | (simp; omega)) _) | (refine Below.setCell ?_ (by first | exact Nat.le_refl _ | omega | (simp; done) | (simp; omega)) _) | exact Below.drew ‹_›)), by simp⟩

set_option maxRecDepth 100000 in
theorem node_any (R : Nat) (A : Option Addr) (len c P : Nat) (f : Nat → Int) (n : Int) (A' : Option Addr) (l' c' : Nat) (w : World) (hlen : len ≤ 2000) (hP : P ≤ 10000) (hn0 : 0 ≤ n) (hn : n ≤ 10) (hR : RD R A len c f P w) :
   Calls Try.prog 39 #[.pointer (some ⟨R, 0, none⟩), gval n A' l' c'] w fun e w' => ∃ k : Int, e = .returned (.int .i64 k) ∧ -1 ≤ k ∧ k ≤ 10 ∧ RD R A len c f (P + 2) w' ∧ w.grownBy w' (some R) := by
  have HR := Lib.hid (hR.alloc (.cells #[.int .i64 n, .slice A' l' c'] 25))
  have zR := hR.lt
  have HK := Lib.hid (Box.new w 25 #[.int .i64 n, .slice A' l' c'])
  have HG := Lib.hid (World.grownBy_alloc w (.cells #[.int .i64 n, .slice A' l' c'] 25) (some R))
  clear hR
  go_enter Try.func39, Try.ntmps39
  go_wp2_with fail
  refine (pick_rd R A len c P 20 f _ hlen (by omega) (by omega) (by omega) HR.out).mono ?_
  rintro e w1 ⟨k1, rfl, hk1, hR1, hg1, hs1, hb1⟩
  have H1 := Lib.hid hR1
  have G1 := Lib.hid (grown_trans HG.out hg1)
  have K1 := Lib.hid (HK.out.grown hg1 (by omega))
  clear hR1 hg1 hs1 hb1 HR HG HK
  by_cases h0 : k1 = 0
  · subst h0
    go_wp2_with fail
    refine (pick_rd R A len c (P + 1) 11 f _ hlen (by omega) (by omega) (by omega) H1.out).mono ?_
    rintro e w2 ⟨k2, rfl, hk2, hR2, hg2, hs2, hb2⟩
    have H2 := Lib.hid hR2
    have G2 := Lib.hid (grown_trans G1.out hg2)
    clear hR2 hg2 hs2 hb2
    go_wp2_with fail
    go_ret
    exact ⟨(k2 : Int) - 1, ret_int (by omega), by omega, by omega, H2.out, G2.out⟩
  · have h0' : ((k1 : Int) == 0) = false := by simpa using h0
    obtain ⟨zk, c0, c1, q0, q1⟩ := K1.out.two
    by_cases hn1 : 1 ≤ n
    · go_wp2_with fail
      refine (pick_rd R A len c (P + 1) _ f _ hlen (by omega) (by omega) (by omega) H1.out).mono ?_
      rintro e w2 ⟨k2, rfl, hk2, hR2, hg2, hs2, hb2⟩
      have H2 := Lib.hid hR2
      have G2 := Lib.hid (grown_trans G1.out hg2)
      clear hR2 hg2 hs2 hb2
      go_wp2_with fail
      go_ret
      exact ⟨(k2 : Int), rfl, by omega, by omega, H2.out, G2.out⟩
    · go_wp2_with fail
      refine (pick_rd R A len c (P + 1) _ f _ hlen (by omega) (by omega) (by omega) H1.out).mono ?_
      rintro e w2 ⟨k2, rfl, hk2, hR2, hg2, hs2, hb2⟩
      have H2 := Lib.hid hR2
      have G2 := Lib.hid (grown_trans G1.out hg2)
      clear hR2 hg2 hs2 hb2
      go_wp2_with fail
      go_ret
      exact ⟨(k2 : Int), rfl, by omega, by omega, H2.out, G2.out⟩
/-- What a law of chapter 1 is drawn: a graph in memory of the draw's own. -/
def DG (w : World) (n : Int) (ls : List Lk) (A' : Option Addr) (g' : Nat) (w' : World) : Prop :=
  0 ≤ n ∧ n ≤ 10 ∧ ls.length ≤ 16 ∧ w.heap.size ≤ g' ∧ Own1 w' A' g' ls ∧ Below w.heap.size w w'

theorem draw_tail {w w1 w2 : World} {R len : Nat} {g' : Nat} {A' : Option Addr} {ls : List Lk} (hb : Below w.heap.size w w1) (hs : w1.heap.size = w.heap.size + 1) (hR : R = w.heap.size) (hg : w1.grownBy w2 (some R)) (_h : len = len) (hg' : w1.heap.size ≤ g') (ho : Own1 w2 A' g' ls) :
    w.heap.size ≤ g' ∧ Own1 w2 A' g' ls ∧ Below w.heap.size w w2 :=
  ⟨by omega, ho, hb.grown hg (by omega) (fun k e => by injection e with e; omega)⟩

theorem Byt.alloc {w : World} {A : Option Addr} {len : Nat} {f : Nat → Int} (h : Byt w w.heap.size A len f) (o : Obj) : Byt (w.alloc o) (w.alloc o).heap.size A len f := fun hl => by
  obtain ⟨b, off, e, hb, hc⟩ := (h.below ((Below.refl w.heap.size w).alloc (Nat.le_refl _) o)) hl
  exact ⟨b, off, e, by simp; omega, hc⟩

/-- The state while nodes are drawn: the reader, the result's box, the graph's box, its links. -/
def DI (w : World) (R Q G : Nat) (A : Option Addr) (len c : Nat) (f : Nat → Int) (P : Nat) (n : Int) (ls : List Lk) (A' : Option Addr) (g' c' : Nat) (wx : World) : Prop :=
  RD R A len c f P wx ∧ Box wx Q 25 #[.int .i64 0, .slice none 0 0] ∧ Box wx G 25 #[.int .i64 n, .slice A' ls.length c'] ∧ Own1 wx A' g' ls ∧ Below w.heap.size w wx ∧
    w.heap.size ≤ R ∧ w.heap.size ≤ Q ∧ w.heap.size ≤ g' ∧ Q ≠ R ∧ G ≠ R ∧ g' ≠ R ∧ Q ≠ G
theorem DI.node {w w1 w2 : World} {R Q G : Nat} {A : Option Addr} {len c : Nat} {f : Nat → Int} {P P' : Nat} {n : Int} {ls : List Lk} {A' : Option Addr} {g' c' : Nat} (h : DI w R Q G A len c f P n ls A' g' c' w1) (hr : RD R A len c f P' w2) (hg : w1.grownBy w2 (some R)) :
    DI w R Q G A len c f P' n ls A' g' c' w2 := by
  obtain ⟨h1, h2, h3, h4, h5, h6, h7, h8, h9, h10, h11, h12⟩ := h
  exact ⟨hr, h2.grown hg h9, h3.grown hg h10, h4.grownFar hg h11, h5.grown hg h5.size (fun k e => by injection e with e; omega), h6, h7, h8, h9, h10, h11, h12⟩
theorem DI.alloc {w w1 : World} {R Q G : Nat} {A : Option Addr} {len c : Nat} {f : Nat → Int} {P : Nat} {n : Int} {ls : List Lk} {A' : Option Addr} {g' c' : Nat} (h : DI w R Q G A len c f P n ls A' g' c' w1) (o : Obj) :
    DI w R Q G A len c f P n ls A' g' c' (w1.alloc o) := by
  obtain ⟨h1, h2, h3, h4, h5, h6, h7, h8, h9, h10, h11, h12⟩ := h
  exact ⟨h1.alloc o, h2.alloc o, h3.alloc o, h4.alloc o, h5.alloc h5.size o, h6, h7, h8, h9, h10, h11, h12⟩
theorem DI.drew {w w1 : World} {R Q G : Nat} {A : Option Addr} {len c : Nat} {f : Nat → Int} {P : Nat} {n : Int} {ls : List Lk} {A' : Option Addr} {g' c' : Nat} (h : DI w R Q G A len c f P n ls A' g' c' w1) :
    DI w R Q G A len c f P n ls A' g' c' w1.drew := by
  obtain ⟨⟨p, hp, hx, hB⟩, h2, h3, h4, h5, h⟩ := h
  exact ⟨⟨p, hp, hx, hB⟩, h2, h3, h4, ⟨h5.os, h5.tape, h5.output, h5.size, h5.block⟩, h⟩
theorem DI.dg {w w1 : World} {R Q G : Nat} {A : Option Addr} {len c : Nat} {f : Nat → Int} {P : Nat} {n : Int} {ls : List Lk} {A' : Option Addr} {g' c' : Nat} (h : DI w R Q G A len c f P n ls A' g' c' w1) (hn0 : 0 ≤ n) (hn : n ≤ 10) (hl : ls.length ≤ 16) (u0 u1 : Value) :
    DG w n ls A' g' ((w1.setCell ⟨Q, 0, none⟩ u0).setCell ⟨Q, 1, none⟩ u1) := by
  obtain ⟨h1, h2, h3, h4, h5, h6, h7, h8, h9, h10, h11, h12⟩ := h
  exact ⟨hn0, hn, hl, h8, (h4.set_box h2 (by decide) 0 u0).set_box (heap_set h2 0 u0) (by decide) 1 u1, (h5.setCell (p := ⟨Q, 0, none⟩) h7 u0).setCell (p := ⟨Q, 1, none⟩) h7 u1⟩


end Go.Proofs.Ytkcnbgimdiggoab

/-
  Contracts over this seat: what the laws of chapter 1 draw, further ones.
-/
namespace Go.Proofs.Ytkcnbgimdiggoab
open Go.RowKit




end Go.Proofs.Ytkcnbgimdiggoab

/-
  Contracts over this seat: what the laws of reach and of distances draw.
-/
namespace Go.Proofs.Ytkcnbgimdiggoab
open Go.RowKit



end Go.Proofs.Ytkcnbgimdiggoab
