/-
  The walk of FnExactLsaValid over this seat.
-/
import Derived.Test.YtimebipgiicmiaaZx
import Derived.Test.YtimebipgiicmiaaIv
namespace Go.Proofs.Ytimebipgiicmiaa
open Go.RowKit Go.Maps

/-- An announcement that came in, in its box. -/
structure LA (w : World) (G : Nat) (z : Lz) (W : World) : Prop where
  box : Box W G 24 #[.int .i64 z.o, .int .i64 z.q, .slice z.A z.es.length z.c]
  le : Slb W W.heap.size z.A z.es
  bel : Below w.heap.size w W
theorem LA.call {w w1 w2 : World} {G : Nat} {z : Lz} (h : LA w G z w1) (hb : Below w1.heap.size w1 w2) : LA w G z w2 := ⟨h.box.below hb h.box.lt, (h.le.below hb).more hb.size, h.bel.trans (hb.mono h.bel.size)⟩
theorem LA.start {w : World} {z : Lz} (h : Slb w w.heap.size z.A z.es) : LA w w.heap.size z (w.alloc (.cells #[.int .i64 z.o, .int .i64 z.q, .slice z.A z.es.length z.c] 24)) := by
  have hb : Below w.heap.size w (w.alloc (.cells #[.int .i64 z.o, .int .i64 z.q, .slice z.A z.es.length z.c] 24)) := by (repeat (first | exact Below.refl _ _ | (refine Below.alloc ?_ (by first | exact Nat.le_refl _ | omega | (simp; done) | (simp; omega)) _) | (refine Below.setCell ?_ (by first | exact Nat.le_refl _ | omega | (simp; done) | (simp; omega)) _) | exact Below.drew ‹_›))
  exact ⟨Box.new w _ _, (h.below hb).more hb.size, hb⟩

set_option maxRecDepth 100000 in
set_option maxHeartbeats 1600000 in
theorem exactLsaValid_walk (z : Lz) (w : World) (hmax : z.es.length ≤ maxLen) (hS : Slb w w.heap.size z.A z.es) :
   Calls Try.prog 3 #[z.v] w fun e w' => e = .returned (.bool true) ∧ Below w.heap.size w w' := by
  have L1 := Lib.hid (LA.start hS)
  have CZ := fun W => szLsa_any z 1048576 W hmax (by omega)
  have HC := Lib.hid (leftI_cases 1048576 z.es.length (by omega))
  obtain ⟨r, hr⟩ : ∃ r, leftI 1048576 z.es.length = r := ⟨_, rfl⟩
  rw [hr] at CZ HC
  have CT := fun (hm : z.es.length ≤ 2000000) W (h : Slb W W.heap.size z.A z.es) => toLsa_any z W hm h
  obtain ⟨zo, zq, zes, zA, zc, zg⟩ := z
  dsimp only at *
  clear hS hr
  go_enter Try.func3, Try.ntmps3
  go_wp2_with fail
  refine (CZ _).mono ?_
  rintro e w1 ⟨rfl, hb1⟩
  have L2 := Lib.hid (L1.out.call hb1)
  clear hb1 CZ L1
  rcases HC.out with rfl | ⟨h0, -, h2⟩
  · go_wp2_with fail
    go_ret
    exact ⟨rfl, L2.out.bel⟩
  · have h0' : ¬ r < 0 := by omega
    have hm : zes.length ≤ 2000000 := by omega
    have CT := CT hm
    obtain ⟨zx, x0, x1, x2, -, -, -⟩ := L2.out.box.three
    go_wp2_with fail
    refine (CT _ L2.out.le).mono ?_
    rintro e w3 ⟨a, rfl, hda, hia, hb3⟩
    have L3 := Lib.hid (L2.out.call hb3)
    have CS := lsaValid_spec a w3 (by cases a; cases hda; exact hm) hia.1.slb
    rw [hda] at CS
    clear hia hb3 L2 zx x0 x1 x2
    obtain ⟨b, hb⟩ : ∃ b, laB ⟨zo, zq, zes⟩ = b := ⟨_, rfl⟩
    rw [hb] at CS
    obtain ⟨ao, aq, aes, aA, ac, ag⟩ := a
    dsimp only at *
    go_wp2_with fail
    refine CS.mono ?_
    clear CS
    rintro e w4 ⟨rfl, hb4⟩
    have L4 := Lib.hid (L3.out.call hb4)
    clear hb4 L3 hda
    obtain ⟨zx, x0, x1, x2, -, -, -⟩ := L4.out.box.three
    go_wp2_with fail
    refine (CT _ L4.out.le).mono ?_
    rintro e w5 ⟨a, rfl, hda, hia, hb5⟩
    have L5 := Lib.hid (L4.out.call hb5)
    have CI := fun W (h : Slb W W.heap.size a.A a.es) => lsaValid_impl a W (by cases a; cases hda; exact hm) h
    rw [hda, hb] at CI
    have A5 := Lib.hid (Box.new w5 29 #[.int .i64 a.o, .int .i64 a.q, .slice a.A a.es.length a.c])
    have hb6 : Below w5.heap.size w5 (w5.alloc (.cells #[.int .i64 a.o, .int .i64 a.q, .slice a.A a.es.length a.c] 29)) := by (repeat (first | exact Below.refl _ _ | (refine Below.alloc ?_ (by first | exact Nat.le_refl _ | omega | (simp; done) | (simp; omega)) _) | (refine Below.setCell ?_ (by first | exact Nat.le_refl _ | omega | (simp; done) | (simp; omega)) _) | exact Below.drew ‹_›))
    have L6 := Lib.hid (L5.out.call hb6)
    have S6 := Lib.hid ((hia.1.slb.below hb6).more hb6.size)
    have CE := fun (y : Lz) W (hd : (⟨zo, zq, zes⟩ : La) = y.d) (h1 : Slb W W.heap.size a.A a.es) (h2 : Slb W W.heap.size y.A y.es) => eqLsa_same a y W (by rw [hda]; exact hd) (by cases a; cases hda; exact hm) h1 h2
    clear hia hb5 hb6 hb L4 L5 zx x0 x1 x2 hda
    obtain ⟨ao', aq', aes', aA', ac', ag'⟩ := a
    dsimp only at *
    go_wp2_with fail
    refine (CI _ S6.out).mono ?_
    clear CI
    rintro e w7 ⟨rfl, hb7⟩
    have L7 := Lib.hid (L6.out.call hb7)
    have S7 := Lib.hid ((S6.out.below hb7).more hb7.size)
    have A7 := Lib.hid (A5.out.below hb7 A5.out.lt)
    clear hb7 L6 S6 A5
    obtain ⟨zx, x0, x1, x2, -, -, -⟩ := L7.out.box.three
    obtain ⟨zy, y0, y1, y2, -, -, -⟩ := A7.out.three
    have hbb : (b != b) = false := by cases b <;> rfl
    go_wp2_with fail
    have hX := fun (x : Ext w7.drew) (bb oo : Nat) (h : bb < w7.heap.size) => (show x.w.cell? ⟨bb, oo, none⟩ = w7.cell? ⟨bb, oo, none⟩ from x.cell bb oo h)
    refine wp_region_staged 5 (by kernel_rfl) (by kernel_rfl) ?_
    refine stage_seg _ 3 [0, 1] (by kernel_rfl) (by kernel_rfl) (by kernel_rfl) (by kernel_rfl) ?_
    (simp only [List.map_cons, List.map_nil, List.getElem?_cons_zero, List.getElem?_cons_succ, Option.getD_some]); (repeat (go_big_quiet_step (fail))); (refine wpQuiet_nil ?_)
    refine stage_call _ 2 2 (by kernel_rfl) (by rfl) (by kernel_rfl) (by rfl) ?_
    go_wp2_with fail
    refine (CT w7.drew L7.out.le).mono ?_
    rintro e w8 ⟨y, rfl, hdy, hiy, hb8⟩
    refine ⟨hb8, ?_⟩
    have B8 := Lib.hid (L7.out.bel.drew.trans (hb8.mono L7.out.bel.size))
    have S8 := Lib.hid ((Slb.below (w := w7.drew) S7.out hb8).more hb8.size)
    have CE := CE y w8 hdy.symm S8.out hiy.1.slb
    obtain ⟨yo, yq, yes, yA, yc, yg⟩ := y
    clear hb8 hX hdy hiy
    refine stage_call _ 1 3 (by kernel_rfl) (by rfl) (by kernel_rfl) (by rfl) ?_
    go_wp2_with fail
    refine CE.mono ?_
    rintro e w9 ⟨rfl, hb9⟩
    refine ⟨hb9, ?_⟩
    have B9 := Lib.hid (B8.out.trans (hb9.mono B8.out.size))
    clear hb9
    refine stage_seg _ 0 [4] (by kernel_rfl) (by kernel_rfl) (by kernel_rfl) (by kernel_rfl) ?_
    (simp only [List.map_cons, List.map_nil, List.getElem?_cons_zero, List.getElem?_cons_succ, Option.getD_some]); (repeat (go_big_quiet_step (fail))); (refine wpQuiet_nil ?_)
    refine stage_end (by kernel_rfl) ?_
    go_wp2_with fail
    go_ret
    exact ⟨rfl, B9.out⟩

end Go.Proofs.Ytimebipgiicmiaa
