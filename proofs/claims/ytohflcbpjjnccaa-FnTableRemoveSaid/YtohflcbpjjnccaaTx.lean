/-
  Contracts over this seat: what the laws of removed routes draw.
-/
import Derived.Test.YtohflcbpjjnccaaTs
namespace Go.Proofs.Ytohflcbpjjnccaa
open Go.RowKit Go.Maps
theorem DTs.alloc {w W : World} {R : Nat} {A : Option Addr} {len c P G : Nat} {f : Nat → Int} {rs : List Lk} {hs : List Int} {g cr gh d : Nat} (h : DTs w R A len c f P G rs hs g cr gh d W) (o : Obj) : DTs w R A len c f P G rs hs g cr gh d (W.alloc o) :=
  ⟨h.dt.call ((Below.refl _ _).alloc (Nat.le_refl _) o), h.rd.alloc o, h.far, h.kL.alloc o, h.kT.alloc o, h.old⟩
theorem DTs.setX {w W : World} {R : Nat} {A : Option Addr} {len c P G : Nat} {f : Nat → Int} {rs : List Lk} {hs : List Int} {g cr gh d X : Nat} (h : DTs w R A len c f P G rs hs g cr gh d W) (h1 : g < X) (h2 : gh < X) (h3 : G < X) (i : Nat) (u : Value) : DTs w R A len c f P G rs hs g cr gh d (W.setCell ⟨X, i, none⟩ u) := by
  have h4 := h.far
  have h5 := h.old
  exact ⟨⟨h.dt.ar.far (p := ⟨X, i, none⟩) (by dsimp only; omega) _, h.dt.an.setFar (p := ⟨X, i, none⟩) (by dsimp only; omega) _, h.dt.bel.setCell (p := ⟨X, i, none⟩) (by dsimp only; omega) _, h.dt.hg, h.dt.hgh, h.dt.hc, h.dt.hd, h.dt.hr, h.dt.hh⟩, h.rd.set (q := ⟨X, i, none⟩) (by dsimp only; omega) _, h4, (Below.heap_setCell W ⟨X, i, none⟩ _ _ (by dsimp only; omega)).trans h.kL, (Below.heap_setCell W ⟨X, i, none⟩ _ _ (by dsimp only; omega)).trans h.kT, h5⟩

set_option maxRecDepth 100000 in
set_option maxHeartbeats 3200000 in
theorem drawTR_any (A : Option Addr) (len c : Nat) (f : Nat → Int) (w : World) (hlc : len ≤ c) (hc : c ≤ maxLen) (hB : Byt w w.heap.size A len f) :
   Calls Try.prog 18 #[.slice A len c] w fun e w' => ∃ (rs : List Lk) (hs : List Int) (g cr gh d : Nat) (a b : Int), e = .returned (.tuple #[tbV (some ⟨g, 0, none⟩) rs.length cr (some ⟨gh, 0, none⟩) hs.length d, .int .i64 a, .int .i64 b]) ∧ DT w rs hs g cr gh d w' := by
  have HB := Lib.hid (hB.alloc (.cells #[.slice none 0 0, .slice none 0 0] 26))
  have HQ := Lib.hid (Box.new w 26 #[.slice none 0 0, .slice none 0 0])
  clear hB
  go_enter Try.func18, Try.ntmps18
  go_wp2_with fail
  refine (open_any A len c f _ hlc hc HB.out).mono ?_
  rintro e w1 ⟨l1, hl1, rfl, hr1, hb1, hs1⟩
  rw [World.size_alloc] at hr1 hb1 hs1
  have H1 := Lib.hid hr1
  have B1 := Lib.hid (Below.trans (B := w.heap.size) (a := w) (by (repeat (first | exact Below.refl _ _ | (refine Below.alloc ?_ (by first | exact Nat.le_refl _ | omega | (simp; done) | (simp; omega)) _) | (refine Below.setCell ?_ (by first | exact Nat.le_refl _ | omega | (simp; done) | (simp; omega)) _) | exact Below.drew ‹_›))) (hb1.mono (by omega)))
  have Q1 := Lib.hid (HQ.out.below hb1 (by omega))
  clear hr1 hb1 HQ HB
  have hq := World.size_alloc w (.cells #[.slice none 0 0, .slice none 0 0] 26)
  rw [hq]
  go_wp2_with fail
  refine (l92table_any _ A l1 c 0 f w1 hl1 (by omega) H1.out).mono ?_
  rintro e w2 ⟨rs, hs, g, cr, gh, d, rfl, hrl, hhl, har, hgg, han, hghg, hcr, hdd, hr2, hg2⟩
  have hz2 := hg2.size
  have S2 := Lib.hid (show DTs w (w.heap.size + 1) A l1 c f (0 + 300) w2.heap.size rs hs g cr gh d (w2.alloc (.cells #[.slice (some ⟨g, 0, none⟩) rs.length cr, .slice (some ⟨gh, 0, none⟩) hs.length d] 26)) from
    ⟨⟨har.below ((Below.refl _ _).alloc (Nat.le_refl _) _) har.lt, han.below ((Below.refl _ _).alloc (Nat.le_refl _) _) han.lt, (B1.out.grown hg2 (by omega) (fun k e => by injection e with e; omega)).alloc (by omega) _, by omega, by omega, hcr, hdd, hrl, hhl⟩,
      hr2.alloc _, by omega, (Q1.out.grown hg2 (by omega)).alloc _, Box.new w2 _ _, by omega⟩)
  clear hr2 hg2 H1 B1 Q1 har han
  go_wp2_with fail
  generalize w2.alloc (.cells #[.slice (some ⟨g, 0, none⟩) rs.length cr, .slice (some ⟨gh, 0, none⟩) hs.length d] 26) = W3 at *
  generalize w2.heap.size = G at *
  have hG := S2.out.old
  refine (l92route_any _ A l1 c _ f _ hl1 (by omega) S2.out.rd).mono ?_
  rintro e w4 ⟨x, rfl, hxa, hxb, hxc, hR4, hg4⟩
  obtain ⟨xa, xb, xc⟩ := x
  have S4 := Lib.hid (S2.out.picked hR4 hg4)
  have S5 := Lib.hid (S4.out.alloc (.cells #[.int .i64 xa, .int .i64 xb, .int .i64 xc] 28))
  have X5 := Lib.hid (Box.new w4 28 #[.int .i64 xa, .int .i64 xb, .int .i64 xc])
  have hX4 : G < w4.heap.size := S4.out.kT.lt
  have hX5 : g < w4.heap.size := S4.out.dt.ar.lt
  have hX6 : gh < w4.heap.size := S4.out.dt.an.lt
  clear hR4 hg4 S2
  obtain ⟨z5, e50, e51, q50, q51⟩ := S4.out.kT.two
  obtain ⟨z6, e60, e61, q60, q61⟩ := S4.out.kL.two
  by_cases h0 : rs.length = 0
  · have h0i : ¬ (0 < (rs.length : Int)) := by omega
    have h0h := Lib.hid h0
    clear h0
    go_wp2_with fail
    clear S4 z5 e50 e51 q50 q51 z6 e60 e61 q60 q61
    generalize w4.alloc (.cells #[.int .i64 xa, .int .i64 xb, .int .i64 xc] 28) = W5 at *
    generalize w4.heap.size = X at *
    obtain ⟨z5, e50, e51, q50, q51⟩ := S5.out.kT.two
    obtain ⟨z6, e60, e61, q60, q61⟩ := S5.out.kL.two
    obtain ⟨z7, e70, e71, e72, q70, q71, q72⟩ := X5.out.trip
    go_region_law (fail)
    all_goals
      go_wp2_with fail
      obtain ⟨b2, r0, r1⟩ := ret_two S5.out.kL (.slice (some ⟨g, 0, none⟩) rs.length cr) (.slice (some ⟨gh, 0, none⟩) hs.length d)
      refine bodyPost_ret (v := .tuple #[tbV (some ⟨g, 0, none⟩) rs.length cr (some ⟨gh, 0, none⟩) hs.length d, .int .i64 xa, .int .i64 xb]) (by simp [results, Try.results18, go_sem, r0, r1]) rfl ?_
      exact ⟨rs, hs, g, cr, gh, d, xa, xb, rfl, (S5.out.done _ _).call (Below.refl _ _).drew⟩
  · have h0i : 0 < (rs.length : Int) := by omega
    go_wp2_with fail
    clear S4 z5 e50 e51 q50 q51 z6 e60 e61 q60 q61
    generalize w4.alloc (.cells #[.int .i64 xa, .int .i64 xb, .int .i64 xc] 28) = W5 at *
    generalize w4.heap.size = X at *
    refine (pick_rd _ A l1 c _ 4 f _ hl1 (by omega) (by omega) (by omega) S5.out.rd).mono ?_
    rintro e w6 ⟨k6, rfl, hk6, hR6, hg6, -, -⟩
    have S6 := Lib.hid (S5.out.picked hR6 hg6)
    have X6 := Lib.hid (X5.out.grown hg6 (by omega))
    clear hR6 hg6 S5 X5
    by_cases h6 : 0 < (k6 : Int)
    · have hrl1 : (1 : Int) ≤ (rs.length : Int) := by omega
      obtain ⟨z5, e50, e51, q50, q51⟩ := S6.out.kT.two
      obtain ⟨z6, e60, e61, q60, q61⟩ := S6.out.kL.two
      have SD := Lib.hid S6.out.drew
      have XD := Lib.hid (show Box w6.drew X 28 #[.int .i64 xa, .int .i64 xb, .int .i64 xc] from X6.out)
      go_wp2_with fail
      go_region_law (go_simp; go_at_call 43; refine (pick_rd _ A l1 c _ (rs.length : Int) f _ hl1 (by omega) (by omega) (by omega) SD.out.rd).mono ?_; rintro e w7 ⟨k7, rfl, hk7, hR7, hg7, -, -⟩; have S7 := Lib.hid (SD.out.picked hR7 hg7); have X7 := Lib.hid (XD.out.grown hg7 (by omega)); clear hR7 hg7; obtain ⟨y5, c50, c51, s50, s51⟩ := S7.out.kT.two; obtain ⟨y7, c70, c71, c72, s70, s71, s72⟩ := X7.out.trip; obtain ⟨y, hy⟩ : ∃ y, rs[k7]? = some y := ⟨_, List.getElem?_eq_getElem (by omega)⟩; obtain ⟨b0, b1, b2⟩ := S7.out.dt.ar.cells hy; have hk7n : k7 < rs.length := (by omega); obtain ⟨ya, yb, yc⟩ := y)
      all_goals
        clear z5 e50 e51 q50 q51 z6 e60 e61 q60 q61 y5 c50 c51 s50 s51 y7 c70 c71 c72 s70 s71 s72 b0 b1 b2
        have S8 := Lib.hid (((S7.out.setX hX5 hX6 hX4 0 (.int .i64 ya)).setX hX5 hX6 hX4 1 (.int .i64 yb)).setX hX5 hX6 hX4 2 (.int .i64 yc))
        have X8 := Lib.hid (show Box _ X 28 #[.int .i64 ya, .int .i64 yb, .int .i64 yc] from heap_set (heap_set (heap_set X7.out 0 (.int .i64 ya)) 1 (.int .i64 yb)) 2 (.int .i64 yc))
        generalize ((w7.setCell ⟨X, 0, none⟩ (.int .i64 ya)).setCell ⟨X, 1, none⟩ (.int .i64 yb)).setCell ⟨X, 2, none⟩ (.int .i64 yc) = W8 at *
        go_wp2_with fail
        obtain ⟨z5, e50, e51, q50, q51⟩ := S8.out.kT.two
        obtain ⟨z6, e60, e61, q60, q61⟩ := S8.out.kL.two
        obtain ⟨z7, e70, e71, e72, q70, q71, q72⟩ := X8.out.trip
        go_region_law (fail)
        all_goals
          go_wp2_with fail
          obtain ⟨b2, r0, r1⟩ := ret_two S8.out.kL (.slice (some ⟨g, 0, none⟩) rs.length cr) (.slice (some ⟨gh, 0, none⟩) hs.length d)
          refine bodyPost_ret (v := .tuple #[tbV (some ⟨g, 0, none⟩) rs.length cr (some ⟨gh, 0, none⟩) hs.length d, .int .i64 ya, .int .i64 yb]) (by simp [results, Try.results18, go_sem, r0, r1]) rfl ?_
          exact ⟨rs, hs, g, cr, gh, d, ya, yb, rfl, (S8.out.done _ _).call (Below.refl _ _).drew⟩
    · go_wp2_with fail
      obtain ⟨z5, e50, e51, q50, q51⟩ := S6.out.kT.two
      obtain ⟨z6, e60, e61, q60, q61⟩ := S6.out.kL.two
      obtain ⟨z7, e70, e71, e72, q70, q71, q72⟩ := X6.out.trip
      go_region_law (fail)
      all_goals
        go_wp2_with fail
        obtain ⟨b2, r0, r1⟩ := ret_two S6.out.kL (.slice (some ⟨g, 0, none⟩) rs.length cr) (.slice (some ⟨gh, 0, none⟩) hs.length d)
        refine bodyPost_ret (v := .tuple #[tbV (some ⟨g, 0, none⟩) rs.length cr (some ⟨gh, 0, none⟩) hs.length d, .int .i64 xa, .int .i64 xb]) (by simp [results, Try.results18, go_sem, r0, r1]) rfl ?_
        exact ⟨rs, hs, g, cr, gh, d, xa, xb, rfl, (S6.out.done _ _).call (Below.refl _ _).drew⟩
end Go.Proofs.Ytohflcbpjjnccaa
