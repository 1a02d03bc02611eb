/-
  Contracts over this seat: the draw of two nodes that compare their announcements.
-/
import Derived.Test.YtnkohgdfipgdoabF1
import Derived.Test.YtnkohgdfipgdoabLm
import Derived.Test.YtnkohgdfipgdoabC1
namespace Go.Proofs.Ytnkohgdfipgdoab
open Go.RowKit Go.Maps

/-- A drawn adjacency and two drawn lists. -/
def SyX (w : World) (e : Ending) (w' : World) : Prop := ∃ (s g : Int) (zs : List Lz) (A : Option Addr) (c : Nat) (os : List Lz) (B : Option Addr) (cb : Nat), e = .returned (.tuple #[adjV s g, .slice A zs.length c, .slice B os.length cb]) ∧ -1 ≤ s ∧ s ≤ 4 ∧ -1 ≤ g ∧ g ≤ 5 ∧ zs.length ≤ 9 ∧ os.length ≤ 9 ∧ (∀ x ∈ zs, x.es.length ≤ 8) ∧ (∀ x ∈ os, x.es.length ≤ 8) ∧
  Slz w' w'.heap.size A zs ∧ Slz w' w'.heap.size B os ∧ Below w.heap.size w w'
/-- The state behind the first list: the result's box, the adjacency's box, the list. -/
structure SD (w w3 : World) (A : Option Addr) (len c : Nat) (f : Nat → Int) (P : Nat) (s g : Int) (G : Nat) (v : Value) (zs : List Lz) (W : World) : Prop where
  zl : ZL w3 (w.heap.size + 1) A len c f P v zs W
  res : Box W w.heap.size 26 #[.int .i64 0, .int .i64 0]
  box : Box W G 26 #[.int .i64 s, .int .i64 g]
  bel : Below w.heap.size w W
section
variable {w w3 w1 w2 : World} {A : Option Addr} {len c : Nat} {f : Nat → Int} {P P' : Nat} {s g : Int} {G : Nat} {v : Value} {zs : List Lz}
theorem SD.picked (h : SD w w3 A len c f P s g G v zs w1) (hr : RD (w.heap.size + 1) A len c f P' w2) (hg : w1.grownBy w2 (some (w.heap.size + 1))) (hG : G ≠ w.heap.size + 1) (hw3 : w.heap.size + 1 < w3.heap.size) : SD w w3 A len c f P' s g G v zs w2 :=
  ⟨h.zl.picked hr hg hw3, h.res.grown hg (by omega), h.box.grown hg hG, h.bel.grown hg h.bel.size (fun k e => by injection e with e; omega)⟩
theorem SD.call (h : SD w w3 A len c f P s g G v zs w1) (hb : Below w1.heap.size w1 w2) : SD w w3 A len c f P s g G v zs w2 :=
  ⟨h.zl.call hb, h.res.below hb h.res.lt, h.box.below hb h.box.lt, h.bel.trans (hb.mono h.bel.size)⟩
theorem SD.drew (h : SD w w3 A len c f P s g G v zs w1) : SD w w3 A len c f P s g G v zs w1.drew := ⟨h.zl.drew, h.res, h.box, h.bel.drew⟩
end

set_option maxRecDepth 100000 in
set_option maxHeartbeats 4000000 in
theorem drawAdjSync_any (A : Option Addr) (len c : Nat) (f : Nat → Int) (w : World) (hlc : len ≤ c) (hc : c ≤ maxLen) (hB : Byt w w.heap.size A len f) :
   Calls Try.prog 16 #[.slice A len c] w (SyX w) := by
  have HB := Lib.hid (hB.alloc (.cells #[.int .i64 0, .int .i64 0] 26))
  have HQ := Lib.hid (Box.new w 26 #[.int .i64 0, .int .i64 0])
  clear hB
  go_enter Try.func16, Try.ntmps16
  go_wp2_with fail
  refine (open_any A len c f _ hlc hc HB.out).mono ?_
  rintro e w1 ⟨l1, hl1, rfl, hr1, hb1, hs1⟩
  rw [World.size_alloc] at hr1 hb1 hs1 ⊢
  have H1 := Lib.hid hr1
  have B1 := Lib.hid (Below.trans (B := w.heap.size) (a := w) (by (repeat (first | exact Below.refl _ _ | (refine Below.alloc ?_ (by first | exact Nat.le_refl _ | omega | (simp; done) | (simp; omega)) _) | (refine Below.setCell ?_ (by first | exact Nat.le_refl _ | omega | (simp; done) | (simp; omega)) _) | exact Below.drew ‹_›))) (hb1.mono (by omega)))
  have Q1 := Lib.hid (HQ.out.below hb1 (by omega))
  have hz1 : w.heap.size + 1 < w1.heap.size := by omega
  clear hr1 hb1 HQ HB hs1
  go_wp2_with fail
  refine (l91adj_any _ A l1 c 0 f w1 hl1 (by omega) H1.out).mono ?_
  rintro e w2 ⟨s, g, rfl, hs0, hs1, hg0, hg1, hr2, hb2⟩
  have hz2 := hb2.size
  have R3 := Lib.hid (hr2.alloc (.cells #[.int .i64 s, .int .i64 g] 26))
  have Q3 := Lib.hid ((Q1.out.grown hb2 (by omega)).alloc (.cells #[.int .i64 s, .int .i64 g] 26))
  have X3 := Lib.hid (Box.new w2 26 #[.int .i64 s, .int .i64 g])
  have hB2 := B1.out.grown hb2 (by omega) (fun k e => by injection e with e; omega)
  have B3 := Lib.hid (hB2.alloc hB2.size (.cells #[.int .i64 s, .int .i64 g] 26))
  have hsz := World.size_alloc w2 (.cells #[.int .i64 s, .int .i64 g] 26)
  clear hr2 hb2 Q1 B1 H1 hB2
  go_wp2_with fail
  have hGR : w2.heap.size ≠ w.heap.size + 1 := by omega
  have hGw : w.heap.size + 1 < w2.heap.size := by omega
  generalize w2.heap.size = G at *
  generalize w2.alloc (.cells #[.int .i64 s, .int .i64 g] 26) = w3 at *
  have hw3 : w.heap.size + 1 < w3.heap.size := by omega
  refine (l91db_any _ A l1 c _ f w3 hl1 (by omega) R3.out).mono ?_
  rintro e w4 ⟨zs, A3, c3, rfl, hl9, hok, hzi, hr4, hb4⟩
  have S4 := Lib.hid (show SD w w3 A l1 c f (0 + 8 + 300) s g G (.slice A3 zs.length c3) zs w4 from ⟨⟨hr4, hzi, hb4⟩, Q3.out.grown hb4 (by omega), X3.out.grown hb4 hGR, B3.out.grown hb4 B3.out.size (fun k e => by injection e with e; omega)⟩)
  have hes : ∀ z ∈ zs, z.es.length ≤ 8 := fun z hz => (hok z hz).2.2.2.2.1
  have HES := Lib.hid hes
  clear hok hzi hr4 hb4 R3 Q3 X3 B3 hes hsz
  go_wp2_with fail
  refine (pick_rd _ A l1 c _ 2 f _ hl1 (by omega) (by omega) (by omega) S4.out.zl.rd).mono ?_
  rintro e w5 ⟨k5, rfl, hk5, hr5, hg5, hs5, -⟩
  have S5 := Lib.hid (S4.out.picked hr5 hg5 hGR hw3)
  have hz5 := S5.out.zl.gr.size
  clear hr5 hg5 hs5 S4
  by_cases h5 : k5 = 0
  · subst h5
    go_wp2_with fail
    obtain ⟨zG, c0, c1, -, -⟩ := S5.out.box.two
    have SE := Lib.hid S5.out.drew
    have hX0 := fun (y : ExtX (fun b => b = w.heap.size + 1 ∨ b = w.heap.size ∨ w5.heap.size ≤ b) w5.drew) => (y.cell G 0 zG (by omega)).trans (show w5.drew.cell? ⟨G, 0, none⟩ = _ from c0)
    have hX1 := fun (y : ExtX (fun b => b = w.heap.size + 1 ∨ b = w.heap.size ∨ w5.heap.size ≤ b) w5.drew) => (y.cell G 1 zG (by omega)).trans (show w5.drew.cell? ⟨G, 1, none⟩ = _ from c1)
    have hsd : w5.drew.heap.size = w5.heap.size := rfl
    refine wp_region_stx 7 (fun b => b = w.heap.size + 1 ∨ b = w.heap.size ∨ w5.heap.size ≤ b) (by kernel_rfl) (by kernel_rfl) ?_
    refine stx_seg _ 4 [0, 1, 2] (by kernel_rfl) (by kernel_rfl) (by kernel_rfl) (by kernel_rfl) ?_
    (simp only [List.map_cons, List.map_nil, List.getElem?_cons_zero, List.getElem?_cons_succ, Option.getD_some]); (repeat (go_big_quiet_step (fail))); (refine wpQuiet_nil ?_)
    clear hX0 hX1 c0 c1 zG S5
    refine stx_one _ 3 3 (by kernel_rfl) (by rfl) (by kernel_rfl) (by rfl) ?_
    go_wp2_with fail
    have CC := l11copy_any A3 zs c3 w5.drew (by omega) (fun z hz => by have := HES.out z hz; omega) (SE.out.zl.row.slz SE.out.zl.gr.size)
    refine CC.mono ?_
    clear CC
    rintro e w6 ⟨os, Ay, cy, rfl, hd6, hz6, hb6⟩
    refine ⟨Kx.of_below hb6, _, fun _ h => h, ?_⟩
    have hlo : os.length ≤ 9 := by
      have := congrArg List.length hd6
      simp [datL] at this
      omega
    have HEO : Hid (∀ y ∈ os, y.es.length ≤ 8) := Lib.hid (by
      have := datL_all (zs := os) (P := fun d => d.es.length ≤ 8) (by
        rw [hd6]
        intro d hd
        obtain ⟨z, hz, rfl⟩ := List.mem_map.1 hd
        exact HES.out z hz)
      exact this)
    have S6 := Lib.hid (SE.out.call hb6)
    have Y6 := Lib.hid hz6
    have hz56 := hb6.size
    rw [hsd] at hz56 Y6
    clear hd6 hz6 hb6 SE
    obtain ⟨zr, r0, r1, u0, u1⟩ := S6.out.res.two
    obtain ⟨b8, x0, x1⟩ := ret_two S6.out.res (.int .i64 s) (.int .i64 g)
    clear b8
    refine stx_one _ 2 4 (by kernel_rfl) (by rfl) (by kernel_rfl) (by rfl) ?_
    go_wp2_with fail
    refine ⟨((Kx.refl _ _).setCell (p := ⟨w.heap.size, 0, none⟩) (.inr (.inl rfl)) _).setCell (p := ⟨w.heap.size, 1, none⟩) (.inr (.inl rfl)) _, _, fun _ h => h, ?_⟩
    refine stx_seg _ 0 [5, 6] (by kernel_rfl) (by kernel_rfl) (by kernel_rfl) (by kernel_rfl) ?_
    (simp only [List.map_cons, List.map_nil, List.getElem?_cons_zero, List.getElem?_cons_succ, Option.getD_some]); (repeat (go_big_quiet_step (fail))); (refine wpQuiet_nil ?_)
    refine stx_end (by kernel_rfl) ?_
    go_wp2_with fail
    refine bodyPost_ret (v := .tuple #[adjV s g, .slice A3 zs.length c3, .slice Ay os.length cy]) (by simp [results, Try.results16, go_sem, x0, x1]) rfl ?_
    have hz6 := (S6.out.zl.row.set_box (Q := w.heap.size) (by omega) 0 (.int .i64 s)).set_box (Q := w.heap.size) (by omega) 1 (.int .i64 g)
    have hy6 := (Y6.out.set_box (Q := w.heap.size) (by omega) 0 (.int .i64 s)).set_box (Q := w.heap.size) (by omega) 1 (.int .i64 g)
    refine ⟨s, g, zs, A3, c3, os, Ay, cy, rfl, hs0, hs1, hg0, hg1, hl9, hlo, HES.out, HEO.out, hz6.slz ?_, hy6.slz ?_, (S6.out.bel.setCell (p := ⟨w.heap.size, 0, none⟩) (Nat.le_refl _) _).setCell (p := ⟨w.heap.size, 1, none⟩) (Nat.le_refl _) _⟩
    · have := S6.out.zl.gr.size
      simpa using this
    · simpa using hz56
  · have h5' : ((k5 : Int) == 0) = false := by simpa using h5
    go_wp2_with fail
    obtain ⟨zG, c0, c1, -, -⟩ := S5.out.box.two
    have SE := Lib.hid S5.out.drew
    have hX0 := fun (y : ExtX (fun b => b = w.heap.size + 1 ∨ b = w.heap.size ∨ w5.heap.size ≤ b) w5.drew) => (y.cell G 0 zG (by omega)).trans (show w5.drew.cell? ⟨G, 0, none⟩ = _ from c0)
    have hX1 := fun (y : ExtX (fun b => b = w.heap.size + 1 ∨ b = w.heap.size ∨ w5.heap.size ≤ b) w5.drew) => (y.cell G 1 zG (by omega)).trans (show w5.drew.cell? ⟨G, 1, none⟩ = _ from c1)
    have hsd : w5.drew.heap.size = w5.heap.size := rfl
    refine wp_region_stx 7 (fun b => b = w.heap.size + 1 ∨ b = w.heap.size ∨ w5.heap.size ≤ b) (by kernel_rfl) (by kernel_rfl) ?_
    refine stx_seg _ 4 [0, 1, 2] (by kernel_rfl) (by kernel_rfl) (by kernel_rfl) (by kernel_rfl) ?_
    (simp only [List.map_cons, List.map_nil, List.getElem?_cons_zero, List.getElem?_cons_succ, Option.getD_some]); (repeat (go_big_quiet_step (fail))); (refine wpQuiet_nil ?_)
    clear hX0 hX1 c0 c1 zG S5
    refine stx_one _ 3 3 (by kernel_rfl) (by rfl) (by kernel_rfl) (by rfl) ?_
    go_wp2_with fail
    refine (l91db_any _ A l1 c _ f w5.drew hl1 (by omega) SE.out.zl.rd).mono ?_
    rintro e w6 ⟨os, Ay, cy, rfl, hlo, hoko, hzo, hr6, hb6⟩
    refine ⟨⟨hb6.os, hb6.tape, hb6.output, hb6.size, fun k hk hx => hb6.block k hk (fun e => hx (.inl (by cases e; rfl)))⟩, _, fun _ h => h, ?_⟩
    have S6 := Lib.hid (SE.out.picked hr6 hb6 hGR hw3)
    have Y6 := Lib.hid hzo
    have hz56 := hb6.size
    have HEO : Hid (∀ y ∈ os, y.es.length ≤ 8) := Lib.hid (fun z hz => (hoko z hz).2.2.2.2.1)
    rw [hsd] at hz56 Y6
    clear hoko hzo hr6 hb6 SE
    obtain ⟨zr, r0, r1, u0, u1⟩ := S6.out.res.two
    obtain ⟨b8, x0, x1⟩ := ret_two S6.out.res (.int .i64 s) (.int .i64 g)
    clear b8
    refine stx_one _ 2 4 (by kernel_rfl) (by rfl) (by kernel_rfl) (by rfl) ?_
    go_wp2_with fail
    refine ⟨((Kx.refl _ _).setCell (p := ⟨w.heap.size, 0, none⟩) (.inr (.inl rfl)) _).setCell (p := ⟨w.heap.size, 1, none⟩) (.inr (.inl rfl)) _, _, fun _ h => h, ?_⟩
    refine stx_seg _ 0 [5, 6] (by kernel_rfl) (by kernel_rfl) (by kernel_rfl) (by kernel_rfl) ?_
    (simp only [List.map_cons, List.map_nil, List.getElem?_cons_zero, List.getElem?_cons_succ, Option.getD_some]); (repeat (go_big_quiet_step (fail))); (refine wpQuiet_nil ?_)
    refine stx_end (by kernel_rfl) ?_
    go_wp2_with fail
    refine bodyPost_ret (v := .tuple #[adjV s g, .slice A3 zs.length c3, .slice Ay os.length cy]) (by simp [results, Try.results16, go_sem, x0, x1]) rfl ?_
    have hz6 := (S6.out.zl.row.set_box (Q := w.heap.size) (by omega) 0 (.int .i64 s)).set_box (Q := w.heap.size) (by omega) 1 (.int .i64 g)
    have hy6 := (Y6.out.set_box (Q := w.heap.size) (by omega) 0 (.int .i64 s)).set_box (Q := w.heap.size) (by omega) 1 (.int .i64 g)
    refine ⟨s, g, zs, A3, c3, os, Ay, cy, rfl, hs0, hs1, hg0, hg1, hl9, hlo, HES.out, HEO.out, hz6.slz ?_, hy6.slz ?_, (S6.out.bel.setCell (p := ⟨w.heap.size, 0, none⟩) (Nat.le_refl _) _).setCell (p := ⟨w.heap.size, 1, none⟩) (Nat.le_refl _) _⟩
    · have := S6.out.zl.gr.size
      simpa using this
    · simpa using hz56
end Go.Proofs.Ytnkohgdfipgdoab
