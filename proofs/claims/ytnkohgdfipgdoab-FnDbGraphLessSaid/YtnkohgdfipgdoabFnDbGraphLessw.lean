/-
  The walk of FnDbGraphLess over this seat.
-/
import Derived.Test.YtnkohgdfipgdoabGl
import Derived.Test.YtnkohgdfipgdoabA7
import Derived.Test.YtnkohgdfipgdoabA8
import Derived.Test.YtnkohgdfipgdoabC1
namespace Go.Proofs.Ytnkohgdfipgdoab
open Go.RowKit Go.Maps

/-- A graph in its box beside a list of announcements. -/
structure GZ (w : World) (A : Option Addr) (zs : List Lz) (G : Nat) (n : Int) (Ag : Option Addr) (gg cg : Nat) (ls : List Lk) (W : World) : Prop where
  box : Box W G 48 #[.int .i64 n, .slice Ag ls.length cg]
  own : Own1 W Ag gg ls
  sl : Slz W W.heap.size A zs
  bel : Below w.heap.size w W
section
variable {w w1 w2 : World} {A : Option Addr} {zs : List Lz} {G : Nat} {n : Int} {Ag : Option Addr} {gg cg : Nat} {ls : List Lk}
theorem GZ.call (h : GZ w A zs G n Ag gg cg ls w1) (hb : Below w1.heap.size w1 w2) : GZ w A zs G n Ag gg cg ls w2 :=
  ⟨h.box.below hb h.box.lt, h.own.below hb, h.sl.grow hb, h.bel.trans (hb.mono h.bel.size)⟩
theorem GZ.drew (h : GZ w A zs G n Ag gg cg ls w1) : GZ w A zs G n Ag gg cg ls w1.drew := ⟨h.box, h.own, h.sl.grow (Below.refl _ _).drew, h.bel.drew⟩
theorem GZ.start (ho : Own1 w1 Ag gg ls) (hs : Slz w1 w1.heap.size A zs) (hb : Below w.heap.size w w1) : GZ w A zs w1.heap.size n Ag gg cg ls (w1.alloc (.cells #[.int .i64 n, .slice Ag ls.length cg] 48)) := by
  have h1 : Below w1.heap.size w1 (w1.alloc (.cells #[.int .i64 n, .slice Ag ls.length cg] 48)) := by (repeat (first | exact Below.refl _ _ | (refine Below.alloc ?_ (by first | exact Nat.le_refl _ | omega | (simp; done) | (simp; omega)) _) | (refine Below.setCell ?_ (by first | exact Nat.le_refl _ | omega | (simp; done) | (simp; omega)) _) | exact Below.drew ‹_›))
  exact ⟨Box.new w1 _ _, ho.alloc _, hs.grow h1, hb.trans (h1.mono hb.size)⟩
end

theorem below_aa' {B : Nat} {w : World} {o o' : Obj} (hB : B ≤ w.heap.size) : Below B (w.alloc o) (w.alloc o') :=
  ⟨rfl, rfl, rfl, by simp, fun k hk => (Below.heap_alloc w o' k (by omega)).trans (Below.heap_alloc w o k (by omega)).symm⟩
theorem own1_box_ne {w : World} {g Q : Nat} {ls : List Lk} {cs : Array Value} (h : Arr w g ls) (hq : Box w Q 48 cs) : g ≠ Q := by
  rintro rfl
  obtain ⟨ds, hh, _⟩ := h
  have := hh.symm.trans hq
  injection this with this
  injection this with _ this
  exact absurd this (by decide)
theorem own1_far {w : World} {A : Option Addr} {g Q : Nat} {ls : List Lk} (h : Own1 w A g ls) (hne : 0 < ls.length → g ≠ Q) (u0 u1 : Value) : Own1 ((w.setCell ⟨Q, 0, none⟩ u0).setCell ⟨Q, 1, none⟩ u1) A g ls := fun hp => by
  obtain ⟨e, cs, hh, hc⟩ := h hp
  have hq := hne hp
  exact ⟨e, cs, ((Below.heap_setCell _ ⟨Q, 1, none⟩ u1 g hq).trans (Below.heap_setCell w ⟨Q, 0, none⟩ u0 g hq)).trans hh, hc⟩

set_option maxRecDepth 100000 in
set_option maxHeartbeats 16000000 in
theorem fnDbGraphLess_walk (A : Option Addr) (len c : Nat) (Am : Option Addr) (len' c' : Nat) (f f' : Nat → Int) (w : World) (hlc : len ≤ c) (hc : c ≤ maxLen) (hB : Byt w w.heap.size A len f) (_hlc' : len' ≤ c') (_hc' : c' ≤ maxLen) (_hB' : Byt w w.heap.size Am len' f') :
   Calls Try.prog 8 #[.slice A len c, .slice Am len' c'] w fun e w' => e = .returned (.bool true) ∧ Below w.heap.size w w' := by
  obtain ⟨i0, hi, hz0, hz10, hz20⟩ := info_parts infoLsa
  have HB := Lib.hid hB
  clear hB _hB'
  by_cases hl : len ≤ 1048576 ∧ len' ≤ 1048576
  · obtain ⟨hl, hl'⟩ := hl
    go_enter Try.func8, Try.ntmps8
    go_wp2_with fail
    refine (drawDbGraph_any A len c f w hlc hc HB.out).mono ?_
    rintro e w1 ⟨n, zs, Az, cz, rfl, hn0, hn10, hzl, hze10, hsz, hb1, hcz⟩
    have hze : ∀ z ∈ zs, z.es.length ≤ 2000000 := fun z hz => by have := hze10 z hz; omega
    have CI := fun W (h : Slz W W.heap.size Az zs) => dbGraph_impl n Az zs cz W (by omega) hze h
    have CS := fun W (h : Slz W W.heap.size Az zs) => dbGraph_spec n Az zs cz W (by omega) hze h
    have HES := Lib.hid hze
    have HS1 := Lib.hid hsz
    have HB1 := Lib.hid hb1
    clear hsz hb1 HB hze10 hze
    by_cases hg : grB n (datL zs) = true
    · obtain ⟨gl, hgl⟩ : ∃ gl, graphL (datL zs) n.toNat = gl := ⟨_, rfl⟩
      have hgll : gl.length ≤ 14 := by
        have h := hg
        unfold grB at h
        simp only [Bool.and_eq_true, decide_eq_true_eq] at h
        rw [← hgl]
        exact h.2
      simp only [hg, ↓reduceIte] at CI CS
      rw [hgl] at CI CS
      have HG := Lib.hid hg
      clear hg hgl
      go_wp2_with fail
      refine (CI _ HS1.out).mono ?_
      clear CI
      rintro e w2 ⟨A2, g2, c2, rfl, hg2, ho2, hb2⟩
      have L2 := Lib.hid (GZ.start (w := w) (n := n) (cg := c2) ho2 (HS1.out.grow hb2) (HB1.out.trans (hb2.mono HB1.out.size)))
      clear hb2 ho2 HS1 HB1
      go_wp2_with fail
      generalize w2.heap.size = X at *
      generalize w2.alloc (.cells #[.int .i64 n, .slice A2 gl.length c2] 48) = V2 at *
      refine (CS _ L2.out.sl).mono ?_
      clear CS
      rintro e w3 ⟨A3, g3, c3, rfl, hg3, ho3, hb3⟩
      have hb4 := hb3.alloc hb3.size (.cells #[.int .i64 n, .slice A3 gl.length c3] 48)
      have L3 := Lib.hid (L2.out.call hb4)
      have W3 := Lib.hid (Box.new w3 48 #[.int .i64 n, .slice A3 gl.length c3])
      have O3 := Lib.hid (ho3.alloc (.cells #[.int .i64 n, .slice A3 gl.length c3] 48))
      clear hb3 hb4 ho3 L2
      obtain ⟨zx, x0, x1, -, -⟩ := L3.out.box.two
      obtain ⟨zy, y0, y1, -, -⟩ := W3.out.two
      have CM := fun W (h1 : Sl W W.heap.size A2 gl) (h2 : Sl W W.heap.size A3 gl) => sameGraph_same n A2 A3 gl c2 c3 W (by omega) h1 h2
      go_wp2_with fail
      generalize w3.heap.size = Y at *
      generalize w3.alloc (.cells #[.int .i64 n, .slice A3 gl.length c3] 48) = V3 at *
      refine (CM _ L3.out.own.sl O3.out.sl).mono ?_
      rintro e w4 ⟨rfl, hb4⟩
      have L4 := Lib.hid (L3.out.call hb4)
      have W4 := Lib.hid (W3.out.below hb4 W3.out.lt)
      have O4 := Lib.hid (O3.out.below hb4)
      clear hb4 L3 W3 O3 zx x0 x1 zy y0 y1
      by_cases hz : zs.length = 0
      · have hz' : ((zs.length : Int) == 0) = true := by simp [hz]
        obtain ⟨zx, x0, x1, -, -⟩ := L4.out.box.two
        obtain ⟨zy, y0, y1, -, -⟩ := W4.out.two
        go_wp2_with fail
        refine (CM _ L4.out.own.sl O4.out.sl).mono ?_
        rintro e w5 ⟨rfl, hb5⟩
        have L5 := Lib.hid (L4.out.call hb5)
        clear hb5
        go_wp2_with fail
        go_ret
        exact ⟨rfl, L5.out.bel⟩
      · have hz' : ((zs.length : Int) == 0) = false := beq_eq_false_iff_ne.2 (by omega)
        clear CM W4 O4
        obtain ⟨k, hk⟩ : ∃ k, len' % zs.length = k := ⟨_, rfl⟩
        have hkl : k < zs.length := by rw [← hk]; exact Nat.mod_lt _ (by omega)
        have hq : Int.tmod (len' : Int) (zs.length : Int) = (k : Int) := by rw [Int.tmod_eq_emod_of_nonneg (by omega), ← hk]; exact (Int.natCast_emod _ _).symm
        have hwr : IntKind.i64.wrap ((k : Int) + 1) = ((k + 1 : Nat) : Int) := by simp [IntKind.wrap, IntKind.bits, IntKind.signed]; omega
        have hwk : IntKind.i64.wrap (k : Int) = (k : Int) := IntWalk.i64_in _ (by omega)
        have hzn0 : ¬ (zs.length : Int) = 0 := by omega
        have hkc : k ≤ cz := by omega
        have hk0 : (0 : Int) ≤ (k : Int) + 1 := by omega
        have hk1 : (k : Int) + 1 ≤ (zs.length : Int) := by omega
        obtain ⟨z, hzk⟩ : ∃ z, zs[k]? = some z := ⟨_, List.getElem?_eq_getElem hkl⟩
        have HZ := Lib.hid hzk
        obtain ⟨bb, off, hAz, -, -⟩ := L4.out.sl k z hzk
        subst hAz
        obtain ⟨ys, hys⟩ : ∃ ys, ys = zs.take k ++ zs.drop (k + 1) := ⟨_, rfl⟩
        have HYS := Lib.hid hys
        have HYM : Hid (∀ z ∈ ys, z ∈ zs) := Lib.hid (fun z hz => by rw [hys] at hz; exact (drop_one zs k).subset hz)
        have hyl : ys.length ≤ 10 := by rw [hys]; simp; omega
        have hdy : datL ys = (datL zs).take k ++ (datL zs).drop (k + 1) := by rw [hys]; simp [datL]
        have hzd : (datL zs)[k]? = some z.d := by rw [List.getElem?_map, hzk]; rfl
        have hgy : grB n (datL ys) = true := by rw [hdy]; exact grB_less HG.out k
        have HLL : Hid ((graphL (datL ys) n.toNat).length ≤ 2000000) := Lib.hid (by
          have h := hgy
          unfold grB at h
          simp only [Bool.and_eq_true, decide_eq_true_eq] at h
          have := h.2
          omega)
        have HNB : Hid (nbI n (graphL (datL ys) n.toNat) z.o = []) := Lib.hid (nbI_none (by
          rw [hdy]
          have h := HG.out
          unfold grB at h
          simp only [Bool.and_eq_true, decide_eq_true_eq] at h
          exact graph_less (dbB_inv h.1.2).2 hzd n.toNat))
        have C9 := fun (A9 : Option Addr) (c9 : Nat) W (h : Slz W W.heap.size A9 ys) => dbGraph_impl n A9 ys c9 W (by omega) (fun z hz => HES.out z (HYM.out z hz)) h
        simp only [hgy, ↓reduceIte] at C9
        have Ld := Lib.hid L4.out.drew
        have HT := Lib.hid (Ld.out.sl.take k)
        have HD := Lib.hid (Ld.out.sl.drop (k + 1))
        have hBd : Below w4.drew.heap.size w4.drew w4.drew := Below.refl _ _
        clear hk hzk hys hdy hzd hgy L4 HG
        go_upto_region 9 with fail
        by_cases hcap : cz = k + 1
        · subst hcap
          refine wp_region_stg 18 w4.drew.heap.size (by kernel_rfl) (by kernel_rfl) ?_
          refine stg_seg _ 10 [0, 2, 3, 4, 6, 7, 8, 9] (by kernel_rfl) (by kernel_rfl) (by kernel_rfl) (by kernel_rfl) ?_
          (simp only [List.map_cons, List.map_nil, List.getElem?_cons_zero, List.getElem?_cons_succ, Option.getD_some]); (repeat (go_big_quiet_step (fail))); (refine wpQuiet_nil ?_)
          generalize w4.drew = wd at *
          refine stg_two _ 9 1 15 (by rfl) (by rfl) (by rfl) (by kernel_rfl) (by rfl) (by rfl) ?_ ?_
          · go_wp2_with fail
            refine ⟨(Below.refl wd.heap.size wd).alloc hBd.size _, wd.heap.size, Nat.le_refl _, ?_⟩
            have K2 := Lib.hid (GS.made (wd := wd) hBd)
            have hB4 := K2.out.bel
            generalize wd.alloc (.cells #[] 54) = u1 at *
            refine stg_two _ 8 5 15 (by rfl) (by rfl) (by rfl) (by kernel_rfl) (by rfl) (by rfl) ?_ ?_
            · have hT := HT.out.below hB4
              refine wp_append_own _ _ _ 29 rfl wd.heap.size 54 i0 _ 3 40 Try.underlying29 hi hz0 hz10 hz20 rfl (by decide) _ 0 (flatZ []) rfl K2.out.row ⟨bb, off, none⟩ k (k + 1) (flatZ (zs.take k)) rfl (by rw [flatZ_len, List.length_take]; congr 1; omega) hT.flat (flatZ_one _) (by unfold maxLen; omega) (by omega) hB4.size ?_
              intro v9 u5 ho10 hg11 _
              have K6 := Lib.hid (K2.out.grown ho10 hg11)
              have hB8 := K6.out.bel
              refine ⟨(Below.refl wd.heap.size _).grown hg11 hB4.size (fun j e => (K2.out.row.lt j e).1), wd.heap.size, Nat.le_refl _, ?_⟩
              rw [List.nil_append, Nat.zero_add] at K6
              clear ho10 hg11 hT
              refine stg_two _ 7 10 15 (by rfl) (by rfl) (by rfl) (by kernel_rfl) (by rfl) (by rfl) ?_ ?_
              · refine wp_append_own _ _ _ 29 rfl wd.heap.size 54 i0 _ 3 40 Try.underlying29 hi hz0 hz10 hz20 rfl (by decide) _ k (flatZ (zs.take k)) rfl K6.out.row ⟨bb, off, none⟩ 0 0 (flatZ (zs.drop (k + 1))) rfl (by rw [List.drop_eq_nil_of_le (by omega)]; rfl) (by rw [List.drop_eq_nil_of_le (by omega)]; intro j u h; simp [flatZ] at h) (flatZ_one _) (by unfold maxLen; omega) (by omega) hB8.size ?_
                intro v16 u12 ho17 hg18 _
                have K13 := Lib.hid (K6.out.grown ho17 hg18)
                have hB15 := K13.out.bel
                refine ⟨(Below.refl wd.heap.size _).grown hg18 hB8.size (fun j e => (K6.out.row.lt j e).1), wd.heap.size, Nat.le_refl _, ?_⟩
                rw [← HYS.out] at K13
                clear ho17 hg18
                refine stg_two _ 6 11 15 (by rfl) (by rfl) (by rfl) (by kernel_rfl) (by rfl) (by rfl) ?_ ?_
                · have hL := Lib.hid (Ld.out.call hB15)
                  obtain ⟨A9, c9, rfl, hs9⟩ := slz_of_row K13.out.row hB15.size (fun z hz => hL.out.sl.ends (HYM.out z hz))
                  have CC := C9 A9 c9 u12 hs9
                  go_wp2_with fail
                  refine CC.mono ?_
                  clear CC
                  rintro e u19 ⟨A10, g10, c10, rfl, -, ho10, hb10⟩
                  refine ⟨hb10.mono hB15.size, wd.heap.size, Nat.le_refl _, ?_⟩
                  have hB21 := hB15.trans (hb10.mono hB15.size)
                  clear hb10 hs9 hL
                  refine stg_seg _ 3 [12, 13, 14] (by kernel_rfl) (by kernel_rfl) (by kernel_rfl) (by kernel_rfl) ?_
                  (simp only [List.map_cons, List.map_nil, List.getElem?_cons_zero, List.getElem?_cons_succ, Option.getD_some]); (repeat (go_big_quiet_step (fail))); (refine wpQuiet_nil ?_)
                  refine stg_one _ 2 15 (by kernel_rfl) (by rfl) (by kernel_rfl) (by rfl) ?_
                  go_wp2_with fail
                  refine ⟨(Below.refl wd.heap.size u19).alloc hB21.size _, wd.heap.size, Nat.le_refl _, ?_⟩
                  refine stg_one _ 1 16 (by kernel_rfl) (by rfl) (by kernel_rfl) (by rfl) ?_
                  go_wp2_with fail
                  refine ⟨below_aa' hB21.size, wd.heap.size, Nat.le_refl _, ?_⟩
                  have X7 := Lib.hid (Box.new u19 48 #[.int .i64 n, .slice A10 (graphL (datL ys) n.toNat).length c10])
                  have O7 := Lib.hid (ho10.alloc (.cells #[.int .i64 n, .slice A10 (graphL (datL ys) n.toNat).length c10] 48))
                  have hB7 := hB21.alloc hB21.size (.cells #[.int .i64 n, .slice A10 (graphL (datL ys) n.toNat).length c10] 48)
                  have L7 := Lib.hid (Ld.out.call hB7)
                  generalize u19.alloc (.cells #[.int .i64 n, .slice A10 (graphL (datL ys) n.toNat).length c10] 48) = w7 at *
                  refine stg_seg _ 0 [17] (by kernel_rfl) (by kernel_rfl) (by kernel_rfl) (by kernel_rfl) ?_
                  (simp only [List.map_cons, List.map_nil, List.getElem?_cons_zero, List.getElem?_cons_succ, Option.getD_some]); (repeat (go_big_quiet_step (fail))); (refine wpQuiet_nil ?_)
                  refine stg_end (by kernel_rfl) ?_
                  generalize u19.heap.size = Q7 at *
                  obtain ⟨zx7, x70, x71, -, -⟩ := X7.out.two
                  obtain ⟨b8, o8, hA8, hb8, hc8, -, -, -⟩ := L7.out.sl k z HZ.out
                  have CN := nb_impl n A10 (graphL (datL ys) n.toNat) c10 z.o w7.drew HLL.out (O7.out.sl)
                  rw [HNB.out] at CN
                  obtain ⟨zo, zq, zes, zA, zc, zg⟩ := z
                  dsimp only at hc8 CN
                  injection hA8 with hA8
                  injection hA8 with hA8 hA9
                  subst hA8
                  subst hA9
                  have hX0 := fun (x : Ext w7.drew) (b2 oo : Nat) (h : b2 < w7.heap.size) => (show x.w.cell? ⟨b2, oo, none⟩ = w7.cell? ⟨b2, oo, none⟩ from x.cell b2 oo h)
                  go_wp2_with fail
                  refine wp_region_staged 13 (by kernel_rfl) (by kernel_rfl) ?_
                  refine stage_seg _ 5 [0, 1, 2, 3, 4, 5, 6, 7] (by kernel_rfl) (by kernel_rfl) (by kernel_rfl) (by kernel_rfl) ?_
                  (simp only [List.map_cons, List.map_nil, List.getElem?_cons_zero, List.getElem?_cons_succ, Option.getD_some]); (repeat (go_big_quiet_step (fail))); (refine wpQuiet_nil ?_)
                  refine stage_call _ 4 8 (by kernel_rfl) (by rfl) (by kernel_rfl) (by rfl) ?_
                  go_wp2_with fail
                  refine CN.mono ?_
                  rintro e w8 ⟨A11, g11, c11, rfl, -, -, hb9⟩
                  refine ⟨hb9, ?_⟩
                  have B8 := Lib.hid (L7.out.bel.drew.trans (hb9.mono L7.out.bel.size))
                  clear hb9 hX0
                  refine stage_seg _ 0 [9, 10, 11, 12] (by kernel_rfl) (by kernel_rfl) (by kernel_rfl) (by kernel_rfl) ?_
                  (simp only [List.map_cons, List.map_nil, List.getElem?_cons_zero, List.getElem?_cons_succ, Option.getD_some]); (repeat (go_big_quiet_step (fail))); (refine wpQuiet_nil ?_)
                  refine stage_end (by kernel_rfl) ?_
                  go_wp2_with fail
                  go_ret
                  exact ⟨rfl, B8.out⟩
                · go_wp2_with fail
                  refine ⟨(Below.refl wd.heap.size u12).alloc hB15.size _, wd.heap.size, Nat.le_refl _, ?_⟩
                  have X29 := Lib.hid (Box.new u12 48 #[.int .i64 0, .slice none 0 0])
                  have K28 := Lib.hid (K13.out.alloc (.cells #[.int .i64 0, .slice none 0 0] 48))
                  have hB30 := K28.out.bel
                  have hqu27 : wd.heap.size ≤ u12.heap.size := hB15.size
                  generalize u12.alloc (.cells #[.int .i64 0, .slice none 0 0] 48) = u27 at *
                  refine stg_one _ 5 11 (by kernel_rfl) (by rfl) (by kernel_rfl) (by rfl) ?_
                  have hL := Lib.hid (Ld.out.call hB30)
                  obtain ⟨A9, c9, rfl, hs9⟩ := slz_of_row K28.out.row hB30.size (fun z hz => hL.out.sl.ends (HYM.out z hz))
                  have CC := C9 A9 c9 u27 hs9
                  go_wp2_with fail
                  refine CC.mono ?_
                  clear CC
                  rintro e u31 ⟨A10, g10, c10, rfl, -, ho10, hb10⟩
                  refine ⟨hb10.mono hB30.size, wd.heap.size, Nat.le_refl _, ?_⟩
                  have hB33 := hB30.trans (hb10.mono hB30.size)
                  have X32 := Lib.hid (X29.out.below hb10 X29.out.lt)
                  clear hb10 hs9 hL
                  refine stg_seg _ 2 [12, 13, 14] (by kernel_rfl) (by kernel_rfl) (by kernel_rfl) (by kernel_rfl) ?_
                  (simp only [List.map_cons, List.map_nil, List.getElem?_cons_zero, List.getElem?_cons_succ, Option.getD_some]); (repeat (go_big_quiet_step (fail))); (refine wpQuiet_nil ?_)
                  obtain ⟨zq7, y70, y71, q70, q71⟩ := X32.out.two
                  refine stg_one _ 1 16 (by kernel_rfl) (by rfl) (by kernel_rfl) (by rfl) ?_
                  go_wp2_with fail
                  have hQ7 : wd.heap.size ≤ u12.heap.size := hqu27
                  refine ⟨((Below.refl wd.heap.size u31).setCell (p := ⟨u12.heap.size, 0, none⟩) hQ7 _).setCell (p := ⟨u12.heap.size, 1, none⟩) hQ7 _, wd.heap.size, Nat.le_refl _, ?_⟩
                  have X7 : Hid (Box ((u31.setCell ⟨u12.heap.size, 0, none⟩ (.int .i64 n)).setCell ⟨u12.heap.size, 1, none⟩ (.slice A10 (graphL (datL ys) n.toNat).length c10)) (u12.heap.size) 48 #[.int .i64 n, .slice A10 (graphL (datL ys) n.toNat).length c10]) := Lib.hid (heap_set (heap_set X32.out 0 _) 1 _)
                  have O7 := Lib.hid (own1_far ho10 (Q := u12.heap.size) (fun hp => by have h1 := (ho10 hp).2; exact own1_box_ne h1 X32.out) (.int .i64 n) (.slice A10 (graphL (datL ys) n.toNat).length c10))
                  have hB7 := (hB33.setCell (p := ⟨u12.heap.size, 0, none⟩) hQ7 (.int .i64 n)).setCell (p := ⟨u12.heap.size, 1, none⟩) hQ7 (.slice A10 (graphL (datL ys) n.toNat).length c10)
                  have L7 := Lib.hid (Ld.out.call hB7)
                  generalize (u31.setCell ⟨u12.heap.size, 0, none⟩ (.int .i64 n)).setCell ⟨u12.heap.size, 1, none⟩ (.slice A10 (graphL (datL ys) n.toNat).length c10) = w7 at *
                  refine stg_seg _ 0 [17] (by kernel_rfl) (by kernel_rfl) (by kernel_rfl) (by kernel_rfl) ?_
                  (simp only [List.map_cons, List.map_nil, List.getElem?_cons_zero, List.getElem?_cons_succ, Option.getD_some]); (repeat (go_big_quiet_step (fail))); (refine wpQuiet_nil ?_)
                  refine stg_end (by kernel_rfl) ?_
                  generalize u12.heap.size = Q7 at *
                  obtain ⟨zx7, x70, x71, -, -⟩ := X7.out.two
                  obtain ⟨b8, o8, hA8, hb8, hc8, -, -, -⟩ := L7.out.sl k z HZ.out
                  have CN := nb_impl n A10 (graphL (datL ys) n.toNat) c10 z.o w7.drew HLL.out (O7.out.sl)
                  rw [HNB.out] at CN
                  obtain ⟨zo, zq, zes, zA, zc, zg⟩ := z
                  dsimp only at hc8 CN
                  injection hA8 with hA8
                  injection hA8 with hA8 hA9
                  subst hA8
                  subst hA9
                  have hX0 := fun (x : Ext w7.drew) (b2 oo : Nat) (h : b2 < w7.heap.size) => (show x.w.cell? ⟨b2, oo, none⟩ = w7.cell? ⟨b2, oo, none⟩ from x.cell b2 oo h)
                  go_wp2_with fail
                  refine wp_region_staged 13 (by kernel_rfl) (by kernel_rfl) ?_
                  refine stage_seg _ 5 [0, 1, 2, 3, 4, 5, 6, 7] (by kernel_rfl) (by kernel_rfl) (by kernel_rfl) (by kernel_rfl) ?_
                  (simp only [List.map_cons, List.map_nil, List.getElem?_cons_zero, List.getElem?_cons_succ, Option.getD_some]); (repeat (go_big_quiet_step (fail))); (refine wpQuiet_nil ?_)
                  refine stage_call _ 4 8 (by kernel_rfl) (by rfl) (by kernel_rfl) (by rfl) ?_
                  go_wp2_with fail
                  refine CN.mono ?_
                  rintro e w8 ⟨A11, g11, c11, rfl, -, -, hb9⟩
                  refine ⟨hb9, ?_⟩
                  have B8 := Lib.hid (L7.out.bel.drew.trans (hb9.mono L7.out.bel.size))
                  clear hb9 hX0
                  refine stage_seg _ 0 [9, 10, 11, 12] (by kernel_rfl) (by kernel_rfl) (by kernel_rfl) (by kernel_rfl) ?_
                  (simp only [List.map_cons, List.map_nil, List.getElem?_cons_zero, List.getElem?_cons_succ, Option.getD_some]); (repeat (go_big_quiet_step (fail))); (refine wpQuiet_nil ?_)
                  refine stage_end (by kernel_rfl) ?_
                  go_wp2_with fail
                  go_ret
                  exact ⟨rfl, B8.out⟩
              · go_wp2_with fail
                refine ⟨(Below.refl wd.heap.size u5).alloc hB8.size _, wd.heap.size, Nat.le_refl _, ?_⟩
                have X37 := Lib.hid (Box.new u5 48 #[.int .i64 0, .slice none 0 0])
                have K36 := Lib.hid (K6.out.alloc (.cells #[.int .i64 0, .slice none 0 0] 48))
                have hB38 := K36.out.bel
                have hqu35 : wd.heap.size ≤ u5.heap.size := hB8.size
                generalize u5.alloc (.cells #[.int .i64 0, .slice none 0 0] 48) = u35 at *
                refine stg_one _ 6 10 (by kernel_rfl) (by rfl) (by kernel_rfl) (by rfl) ?_
                refine wp_append_own _ _ _ 29 rfl wd.heap.size 54 i0 _ 3 40 Try.underlying29 hi hz0 hz10 hz20 rfl (by decide) _ k (flatZ (zs.take k)) rfl K36.out.row ⟨bb, off, none⟩ 0 0 (flatZ (zs.drop (k + 1))) rfl (by rw [List.drop_eq_nil_of_le (by omega)]; rfl) (by rw [List.drop_eq_nil_of_le (by omega)]; intro j u h; simp [flatZ] at h) (flatZ_one _) (by unfold maxLen; omega) (by omega) hB38.size ?_
                intro v43 u39 ho44 hg45 _
                have K40 := Lib.hid (K36.out.grown ho44 hg45)
                have hB42 := K40.out.bel
                have X41 := Lib.hid (K36.out.box X37.out hg45)
                refine ⟨(Below.refl wd.heap.size _).grown hg45 hB38.size (fun j e => (K36.out.row.lt j e).1), wd.heap.size, Nat.le_refl _, ?_⟩
                rw [← HYS.out] at K40
                clear ho44 hg45
                refine stg_one _ 5 11 (by kernel_rfl) (by rfl) (by kernel_rfl) (by rfl) ?_
                have hL := Lib.hid (Ld.out.call hB42)
                obtain ⟨A9, c9, rfl, hs9⟩ := slz_of_row K40.out.row hB42.size (fun z hz => hL.out.sl.ends (HYM.out z hz))
                have CC := C9 A9 c9 u39 hs9
                go_wp2_with fail
                refine CC.mono ?_
                clear CC
                rintro e u46 ⟨A10, g10, c10, rfl, -, ho10, hb10⟩
                refine ⟨hb10.mono hB42.size, wd.heap.size, Nat.le_refl _, ?_⟩
                have hB48 := hB42.trans (hb10.mono hB42.size)
                have X47 := Lib.hid (X41.out.below hb10 X41.out.lt)
                clear hb10 hs9 hL
                refine stg_seg _ 2 [12, 13, 14] (by kernel_rfl) (by kernel_rfl) (by kernel_rfl) (by kernel_rfl) ?_
                (simp only [List.map_cons, List.map_nil, List.getElem?_cons_zero, List.getElem?_cons_succ, Option.getD_some]); (repeat (go_big_quiet_step (fail))); (refine wpQuiet_nil ?_)
                obtain ⟨zq7, y70, y71, q70, q71⟩ := X47.out.two
                refine stg_one _ 1 16 (by kernel_rfl) (by rfl) (by kernel_rfl) (by rfl) ?_
                go_wp2_with fail
                have hQ7 : wd.heap.size ≤ u5.heap.size := hqu35
                refine ⟨((Below.refl wd.heap.size u46).setCell (p := ⟨u5.heap.size, 0, none⟩) hQ7 _).setCell (p := ⟨u5.heap.size, 1, none⟩) hQ7 _, wd.heap.size, Nat.le_refl _, ?_⟩
                have X7 : Hid (Box ((u46.setCell ⟨u5.heap.size, 0, none⟩ (.int .i64 n)).setCell ⟨u5.heap.size, 1, none⟩ (.slice A10 (graphL (datL ys) n.toNat).length c10)) (u5.heap.size) 48 #[.int .i64 n, .slice A10 (graphL (datL ys) n.toNat).length c10]) := Lib.hid (heap_set (heap_set X47.out 0 _) 1 _)
                have O7 := Lib.hid (own1_far ho10 (Q := u5.heap.size) (fun hp => by have h1 := (ho10 hp).2; exact own1_box_ne h1 X47.out) (.int .i64 n) (.slice A10 (graphL (datL ys) n.toNat).length c10))
                have hB7 := (hB48.setCell (p := ⟨u5.heap.size, 0, none⟩) hQ7 (.int .i64 n)).setCell (p := ⟨u5.heap.size, 1, none⟩) hQ7 (.slice A10 (graphL (datL ys) n.toNat).length c10)
                have L7 := Lib.hid (Ld.out.call hB7)
                generalize (u46.setCell ⟨u5.heap.size, 0, none⟩ (.int .i64 n)).setCell ⟨u5.heap.size, 1, none⟩ (.slice A10 (graphL (datL ys) n.toNat).length c10) = w7 at *
                refine stg_seg _ 0 [17] (by kernel_rfl) (by kernel_rfl) (by kernel_rfl) (by kernel_rfl) ?_
                (simp only [List.map_cons, List.map_nil, List.getElem?_cons_zero, List.getElem?_cons_succ, Option.getD_some]); (repeat (go_big_quiet_step (fail))); (refine wpQuiet_nil ?_)
                refine stg_end (by kernel_rfl) ?_
                generalize u5.heap.size = Q7 at *
                obtain ⟨zx7, x70, x71, -, -⟩ := X7.out.two
                obtain ⟨b8, o8, hA8, hb8, hc8, -, -, -⟩ := L7.out.sl k z HZ.out
                have CN := nb_impl n A10 (graphL (datL ys) n.toNat) c10 z.o w7.drew HLL.out (O7.out.sl)
                rw [HNB.out] at CN
                obtain ⟨zo, zq, zes, zA, zc, zg⟩ := z
                dsimp only at hc8 CN
                injection hA8 with hA8
                injection hA8 with hA8 hA9
                subst hA8
                subst hA9
                have hX0 := fun (x : Ext w7.drew) (b2 oo : Nat) (h : b2 < w7.heap.size) => (show x.w.cell? ⟨b2, oo, none⟩ = w7.cell? ⟨b2, oo, none⟩ from x.cell b2 oo h)
                go_wp2_with fail
                refine wp_region_staged 13 (by kernel_rfl) (by kernel_rfl) ?_
                refine stage_seg _ 5 [0, 1, 2, 3, 4, 5, 6, 7] (by kernel_rfl) (by kernel_rfl) (by kernel_rfl) (by kernel_rfl) ?_
                (simp only [List.map_cons, List.map_nil, List.getElem?_cons_zero, List.getElem?_cons_succ, Option.getD_some]); (repeat (go_big_quiet_step (fail))); (refine wpQuiet_nil ?_)
                refine stage_call _ 4 8 (by kernel_rfl) (by rfl) (by kernel_rfl) (by rfl) ?_
                go_wp2_with fail
                refine CN.mono ?_
                rintro e w8 ⟨A11, g11, c11, rfl, -, -, hb9⟩
                refine ⟨hb9, ?_⟩
                have B8 := Lib.hid (L7.out.bel.drew.trans (hb9.mono L7.out.bel.size))
                clear hb9 hX0
                refine stage_seg _ 0 [9, 10, 11, 12] (by kernel_rfl) (by kernel_rfl) (by kernel_rfl) (by kernel_rfl) ?_
                (simp only [List.map_cons, List.map_nil, List.getElem?_cons_zero, List.getElem?_cons_succ, Option.getD_some]); (repeat (go_big_quiet_step (fail))); (refine wpQuiet_nil ?_)
                refine stage_end (by kernel_rfl) ?_
                go_wp2_with fail
                go_ret
                exact ⟨rfl, B8.out⟩
            · go_wp2_with fail
              refine ⟨(Below.refl wd.heap.size u1).alloc hB4.size _, wd.heap.size, Nat.le_refl _, ?_⟩
              have X52 := Lib.hid (Box.new u1 48 #[.int .i64 0, .slice none 0 0])
              have K51 := Lib.hid (K2.out.alloc (.cells #[.int .i64 0, .slice none 0 0] 48))
              have hB53 := K51.out.bel
              have hqu50 : wd.heap.size ≤ u1.heap.size := hB4.size
              generalize u1.alloc (.cells #[.int .i64 0, .slice none 0 0] 48) = u50 at *
              refine stg_one _ 7 5 (by kernel_rfl) (by rfl) (by kernel_rfl) (by rfl) ?_
              have hT := HT.out.below hB53
              refine wp_append_own _ _ _ 29 rfl wd.heap.size 54 i0 _ 3 40 Try.underlying29 hi hz0 hz10 hz20 rfl (by decide) _ 0 (flatZ []) rfl K51.out.row ⟨bb, off, none⟩ k (k + 1) (flatZ (zs.take k)) rfl (by rw [flatZ_len, List.length_take]; congr 1; omega) hT.flat (flatZ_one _) (by unfold maxLen; omega) (by omega) hB53.size ?_
              intro v58 u54 ho59 hg60 _
              have K55 := Lib.hid (K51.out.grown ho59 hg60)
              have hB57 := K55.out.bel
              have X56 := Lib.hid (K51.out.box X52.out hg60)
              refine ⟨(Below.refl wd.heap.size _).grown hg60 hB53.size (fun j e => (K51.out.row.lt j e).1), wd.heap.size, Nat.le_refl _, ?_⟩
              rw [List.nil_append, Nat.zero_add] at K55
              clear ho59 hg60 hT
              refine stg_one _ 6 10 (by kernel_rfl) (by rfl) (by kernel_rfl) (by rfl) ?_
              refine wp_append_own _ _ _ 29 rfl wd.heap.size 54 i0 _ 3 40 Try.underlying29 hi hz0 hz10 hz20 rfl (by decide) _ k (flatZ (zs.take k)) rfl K55.out.row ⟨bb, off, none⟩ 0 0 (flatZ (zs.drop (k + 1))) rfl (by rw [List.drop_eq_nil_of_le (by omega)]; rfl) (by rw [List.drop_eq_nil_of_le (by omega)]; intro j u h; simp [flatZ] at h) (flatZ_one _) (by unfold maxLen; omega) (by omega) hB57.size ?_
              intro v65 u61 ho66 hg67 _
              have K62 := Lib.hid (K55.out.grown ho66 hg67)
              have hB64 := K62.out.bel
              have X63 := Lib.hid (K55.out.box X56.out hg67)
              refine ⟨(Below.refl wd.heap.size _).grown hg67 hB57.size (fun j e => (K55.out.row.lt j e).1), wd.heap.size, Nat.le_refl _, ?_⟩
              rw [← HYS.out] at K62
              clear ho66 hg67
              refine stg_one _ 5 11 (by kernel_rfl) (by rfl) (by kernel_rfl) (by rfl) ?_
              have hL := Lib.hid (Ld.out.call hB64)
              obtain ⟨A9, c9, rfl, hs9⟩ := slz_of_row K62.out.row hB64.size (fun z hz => hL.out.sl.ends (HYM.out z hz))
              have CC := C9 A9 c9 u61 hs9
              go_wp2_with fail
              refine CC.mono ?_
              clear CC
              rintro e u68 ⟨A10, g10, c10, rfl, -, ho10, hb10⟩
              refine ⟨hb10.mono hB64.size, wd.heap.size, Nat.le_refl _, ?_⟩
              have hB70 := hB64.trans (hb10.mono hB64.size)
              have X69 := Lib.hid (X63.out.below hb10 X63.out.lt)
              clear hb10 hs9 hL
              refine stg_seg _ 2 [12, 13, 14] (by kernel_rfl) (by kernel_rfl) (by kernel_rfl) (by kernel_rfl) ?_
              (simp only [List.map_cons, List.map_nil, List.getElem?_cons_zero, List.getElem?_cons_succ, Option.getD_some]); (repeat (go_big_quiet_step (fail))); (refine wpQuiet_nil ?_)
              obtain ⟨zq7, y70, y71, q70, q71⟩ := X69.out.two
              refine stg_one _ 1 16 (by kernel_rfl) (by rfl) (by kernel_rfl) (by rfl) ?_
              go_wp2_with fail
              have hQ7 : wd.heap.size ≤ u1.heap.size := hqu50
              refine ⟨((Below.refl wd.heap.size u68).setCell (p := ⟨u1.heap.size, 0, none⟩) hQ7 _).setCell (p := ⟨u1.heap.size, 1, none⟩) hQ7 _, wd.heap.size, Nat.le_refl _, ?_⟩
              have X7 : Hid (Box ((u68.setCell ⟨u1.heap.size, 0, none⟩ (.int .i64 n)).setCell ⟨u1.heap.size, 1, none⟩ (.slice A10 (graphL (datL ys) n.toNat).length c10)) (u1.heap.size) 48 #[.int .i64 n, .slice A10 (graphL (datL ys) n.toNat).length c10]) := Lib.hid (heap_set (heap_set X69.out 0 _) 1 _)
              have O7 := Lib.hid (own1_far ho10 (Q := u1.heap.size) (fun hp => by have h1 := (ho10 hp).2; exact own1_box_ne h1 X69.out) (.int .i64 n) (.slice A10 (graphL (datL ys) n.toNat).length c10))
              have hB7 := (hB70.setCell (p := ⟨u1.heap.size, 0, none⟩) hQ7 (.int .i64 n)).setCell (p := ⟨u1.heap.size, 1, none⟩) hQ7 (.slice A10 (graphL (datL ys) n.toNat).length c10)
              have L7 := Lib.hid (Ld.out.call hB7)
              generalize (u68.setCell ⟨u1.heap.size, 0, none⟩ (.int .i64 n)).setCell ⟨u1.heap.size, 1, none⟩ (.slice A10 (graphL (datL ys) n.toNat).length c10) = w7 at *
              refine stg_seg _ 0 [17] (by kernel_rfl) (by kernel_rfl) (by kernel_rfl) (by kernel_rfl) ?_
              (simp only [List.map_cons, List.map_nil, List.getElem?_cons_zero, List.getElem?_cons_succ, Option.getD_some]); (repeat (go_big_quiet_step (fail))); (refine wpQuiet_nil ?_)
              refine stg_end (by kernel_rfl) ?_
              generalize u1.heap.size = Q7 at *
              obtain ⟨zx7, x70, x71, -, -⟩ := X7.out.two
              obtain ⟨b8, o8, hA8, hb8, hc8, -, -, -⟩ := L7.out.sl k z HZ.out
              have CN := nb_impl n A10 (graphL (datL ys) n.toNat) c10 z.o w7.drew HLL.out (O7.out.sl)
              rw [HNB.out] at CN
              obtain ⟨zo, zq, zes, zA, zc, zg⟩ := z
              dsimp only at hc8 CN
              injection hA8 with hA8
              injection hA8 with hA8 hA9
              subst hA8
              subst hA9
              have hX0 := fun (x : Ext w7.drew) (b2 oo : Nat) (h : b2 < w7.heap.size) => (show x.w.cell? ⟨b2, oo, none⟩ = w7.cell? ⟨b2, oo, none⟩ from x.cell b2 oo h)
              go_wp2_with fail
              refine wp_region_staged 13 (by kernel_rfl) (by kernel_rfl) ?_
              refine stage_seg _ 5 [0, 1, 2, 3, 4, 5, 6, 7] (by kernel_rfl) (by kernel_rfl) (by kernel_rfl) (by kernel_rfl) ?_
              (simp only [List.map_cons, List.map_nil, List.getElem?_cons_zero, List.getElem?_cons_succ, Option.getD_some]); (repeat (go_big_quiet_step (fail))); (refine wpQuiet_nil ?_)
              refine stage_call _ 4 8 (by kernel_rfl) (by rfl) (by kernel_rfl) (by rfl) ?_
              go_wp2_with fail
              refine CN.mono ?_
              rintro e w8 ⟨A11, g11, c11, rfl, -, -, hb9⟩
              refine ⟨hb9, ?_⟩
              have B8 := Lib.hid (L7.out.bel.drew.trans (hb9.mono L7.out.bel.size))
              clear hb9 hX0
              refine stage_seg _ 0 [9, 10, 11, 12] (by kernel_rfl) (by kernel_rfl) (by kernel_rfl) (by kernel_rfl) ?_
              (simp only [List.map_cons, List.map_nil, List.getElem?_cons_zero, List.getElem?_cons_succ, Option.getD_some]); (repeat (go_big_quiet_step (fail))); (refine wpQuiet_nil ?_)
              refine stage_end (by kernel_rfl) ?_
              go_wp2_with fail
              go_ret
              exact ⟨rfl, B8.out⟩
          · go_wp2_with fail
            refine ⟨(Below.refl wd.heap.size wd).alloc hBd.size _, wd.heap.size, Nat.le_refl _, ?_⟩
            have X74 := Lib.hid (Box.new wd 48 #[.int .i64 0, .slice none 0 0])
            have hB75 := hBd.alloc hBd.size (.cells #[.int .i64 0, .slice none 0 0] 48)
            have hqu72 : wd.heap.size ≤ wd.heap.size := hBd.size
            generalize wd.alloc (.cells #[.int .i64 0, .slice none 0 0] 48) = u72 at *
            refine stg_one _ 8 1 (by kernel_rfl) (by rfl) (by kernel_rfl) (by rfl) ?_
            go_wp2_with fail
            refine ⟨(Below.refl wd.heap.size u72).alloc hB75.size _, wd.heap.size, Nat.le_refl _, ?_⟩
            have K77 := Lib.hid (GS.made (wd := wd) hB75)
            have hB79 := K77.out.bel
            have X78 := Lib.hid (X74.out.alloc (.cells #[] 54))
            generalize u72.alloc (.cells #[] 54) = u76 at *
            refine stg_one _ 7 5 (by kernel_rfl) (by rfl) (by kernel_rfl) (by rfl) ?_
            have hT := HT.out.below hB79
            refine wp_append_own _ _ _ 29 rfl wd.heap.size 54 i0 _ 3 40 Try.underlying29 hi hz0 hz10 hz20 rfl (by decide) _ 0 (flatZ []) rfl K77.out.row ⟨bb, off, none⟩ k (k + 1) (flatZ (zs.take k)) rfl (by rw [flatZ_len, List.length_take]; congr 1; omega) hT.flat (flatZ_one _) (by unfold maxLen; omega) (by omega) hB79.size ?_
            intro v84 u80 ho85 hg86 _
            have K81 := Lib.hid (K77.out.grown ho85 hg86)
            have hB83 := K81.out.bel
            have X82 := Lib.hid (K77.out.box X78.out hg86)
            refine ⟨(Below.refl wd.heap.size _).grown hg86 hB79.size (fun j e => (K77.out.row.lt j e).1), wd.heap.size, Nat.le_refl _, ?_⟩
            rw [List.nil_append, Nat.zero_add] at K81
            clear ho85 hg86 hT
            refine stg_one _ 6 10 (by kernel_rfl) (by rfl) (by kernel_rfl) (by rfl) ?_
            refine wp_append_own _ _ _ 29 rfl wd.heap.size 54 i0 _ 3 40 Try.underlying29 hi hz0 hz10 hz20 rfl (by decide) _ k (flatZ (zs.take k)) rfl K81.out.row ⟨bb, off, none⟩ 0 0 (flatZ (zs.drop (k + 1))) rfl (by rw [List.drop_eq_nil_of_le (by omega)]; rfl) (by rw [List.drop_eq_nil_of_le (by omega)]; intro j u h; simp [flatZ] at h) (flatZ_one _) (by unfold maxLen; omega) (by omega) hB83.size ?_
            intro v91 u87 ho92 hg93 _
            have K88 := Lib.hid (K81.out.grown ho92 hg93)
            have hB90 := K88.out.bel
            have X89 := Lib.hid (K81.out.box X82.out hg93)
            refine ⟨(Below.refl wd.heap.size _).grown hg93 hB83.size (fun j e => (K81.out.row.lt j e).1), wd.heap.size, Nat.le_refl _, ?_⟩
            rw [← HYS.out] at K88
            clear ho92 hg93
            refine stg_one _ 5 11 (by kernel_rfl) (by rfl) (by kernel_rfl) (by rfl) ?_
            have hL := Lib.hid (Ld.out.call hB90)
            obtain ⟨A9, c9, rfl, hs9⟩ := slz_of_row K88.out.row hB90.size (fun z hz => hL.out.sl.ends (HYM.out z hz))
            have CC := C9 A9 c9 u87 hs9
            go_wp2_with fail
            refine CC.mono ?_
            clear CC
            rintro e u94 ⟨A10, g10, c10, rfl, -, ho10, hb10⟩
            refine ⟨hb10.mono hB90.size, wd.heap.size, Nat.le_refl _, ?_⟩
            have hB96 := hB90.trans (hb10.mono hB90.size)
            have X95 := Lib.hid (X89.out.below hb10 X89.out.lt)
            clear hb10 hs9 hL
            refine stg_seg _ 2 [12, 13, 14] (by kernel_rfl) (by kernel_rfl) (by kernel_rfl) (by kernel_rfl) ?_
            (simp only [List.map_cons, List.map_nil, List.getElem?_cons_zero, List.getElem?_cons_succ, Option.getD_some]); (repeat (go_big_quiet_step (fail))); (refine wpQuiet_nil ?_)
            obtain ⟨zq7, y70, y71, q70, q71⟩ := X95.out.two
            refine stg_one _ 1 16 (by kernel_rfl) (by rfl) (by kernel_rfl) (by rfl) ?_
            go_wp2_with fail
            have hQ7 : wd.heap.size ≤ wd.heap.size := hqu72
            refine ⟨((Below.refl wd.heap.size u94).setCell (p := ⟨wd.heap.size, 0, none⟩) hQ7 _).setCell (p := ⟨wd.heap.size, 1, none⟩) hQ7 _, wd.heap.size, Nat.le_refl _, ?_⟩
            have X7 : Hid (Box ((u94.setCell ⟨wd.heap.size, 0, none⟩ (.int .i64 n)).setCell ⟨wd.heap.size, 1, none⟩ (.slice A10 (graphL (datL ys) n.toNat).length c10)) (wd.heap.size) 48 #[.int .i64 n, .slice A10 (graphL (datL ys) n.toNat).length c10]) := Lib.hid (heap_set (heap_set X95.out 0 _) 1 _)
            have O7 := Lib.hid (own1_far ho10 (Q := wd.heap.size) (fun hp => by have h1 := (ho10 hp).2; exact own1_box_ne h1 X95.out) (.int .i64 n) (.slice A10 (graphL (datL ys) n.toNat).length c10))
            have hB7 := (hB96.setCell (p := ⟨wd.heap.size, 0, none⟩) hQ7 (.int .i64 n)).setCell (p := ⟨wd.heap.size, 1, none⟩) hQ7 (.slice A10 (graphL (datL ys) n.toNat).length c10)
            have L7 := Lib.hid (Ld.out.call hB7)
            generalize (u94.setCell ⟨wd.heap.size, 0, none⟩ (.int .i64 n)).setCell ⟨wd.heap.size, 1, none⟩ (.slice A10 (graphL (datL ys) n.toNat).length c10) = w7 at *
            refine stg_seg _ 0 [17] (by kernel_rfl) (by kernel_rfl) (by kernel_rfl) (by kernel_rfl) ?_
            (simp only [List.map_cons, List.map_nil, List.getElem?_cons_zero, List.getElem?_cons_succ, Option.getD_some]); (repeat (go_big_quiet_step (fail))); (refine wpQuiet_nil ?_)
            refine stg_end (by kernel_rfl) ?_
            generalize wd.heap.size = Q7 at *
            obtain ⟨zx7, x70, x71, -, -⟩ := X7.out.two
            obtain ⟨b8, o8, hA8, hb8, hc8, -, -, -⟩ := L7.out.sl k z HZ.out
            have CN := nb_impl n A10 (graphL (datL ys) n.toNat) c10 z.o w7.drew HLL.out (O7.out.sl)
            rw [HNB.out] at CN
            obtain ⟨zo, zq, zes, zA, zc, zg⟩ := z
            dsimp only at hc8 CN
            injection hA8 with hA8
            injection hA8 with hA8 hA9
            subst hA8
            subst hA9
            have hX0 := fun (x : Ext w7.drew) (b2 oo : Nat) (h : b2 < w7.heap.size) => (show x.w.cell? ⟨b2, oo, none⟩ = w7.cell? ⟨b2, oo, none⟩ from x.cell b2 oo h)
            go_wp2_with fail
            refine wp_region_staged 13 (by kernel_rfl) (by kernel_rfl) ?_
            refine stage_seg _ 5 [0, 1, 2, 3, 4, 5, 6, 7] (by kernel_rfl) (by kernel_rfl) (by kernel_rfl) (by kernel_rfl) ?_
            (simp only [List.map_cons, List.map_nil, List.getElem?_cons_zero, List.getElem?_cons_succ, Option.getD_some]); (repeat (go_big_quiet_step (fail))); (refine wpQuiet_nil ?_)
            refine stage_call _ 4 8 (by kernel_rfl) (by rfl) (by kernel_rfl) (by rfl) ?_
            go_wp2_with fail
            refine CN.mono ?_
            rintro e w8 ⟨A11, g11, c11, rfl, -, -, hb9⟩
            refine ⟨hb9, ?_⟩
            have B8 := Lib.hid (L7.out.bel.drew.trans (hb9.mono L7.out.bel.size))
            clear hb9 hX0
            refine stage_seg _ 0 [9, 10, 11, 12] (by kernel_rfl) (by kernel_rfl) (by kernel_rfl) (by kernel_rfl) ?_
            (simp only [List.map_cons, List.map_nil, List.getElem?_cons_zero, List.getElem?_cons_succ, Option.getD_some]); (repeat (go_big_quiet_step (fail))); (refine wpQuiet_nil ?_)
            refine stage_end (by kernel_rfl) ?_
            go_wp2_with fail
            go_ret
            exact ⟨rfl, B8.out⟩
        · have hcap' : ¬ (cz : Nat) = k + 1 := hcap
          refine wp_region_stg 18 w4.drew.heap.size (by kernel_rfl) (by kernel_rfl) ?_
          refine stg_seg _ 10 [0, 2, 3, 4, 6, 7, 8, 9] (by kernel_rfl) (by kernel_rfl) (by kernel_rfl) (by kernel_rfl) ?_
          (simp only [List.map_cons, List.map_nil, List.getElem?_cons_zero, List.getElem?_cons_succ, Option.getD_some]); (repeat (go_big_quiet_step (fail))); (refine wpQuiet_nil ?_)
          generalize w4.drew = wd at *
          refine stg_two _ 9 1 15 (by rfl) (by rfl) (by rfl) (by kernel_rfl) (by rfl) (by rfl) ?_ ?_
          · go_wp2_with fail
            refine ⟨(Below.refl wd.heap.size wd).alloc hBd.size _, wd.heap.size, Nat.le_refl _, ?_⟩
            have K99 := Lib.hid (GS.made (wd := wd) hBd)
            have hB101 := K99.out.bel
            generalize wd.alloc (.cells #[] 54) = u98 at *
            refine stg_two _ 8 5 15 (by rfl) (by rfl) (by rfl) (by kernel_rfl) (by rfl) (by rfl) ?_ ?_
            · have hT := HT.out.below hB101
              refine wp_append_own _ _ _ 29 rfl wd.heap.size 54 i0 _ 3 40 Try.underlying29 hi hz0 hz10 hz20 rfl (by decide) _ 0 (flatZ []) rfl K99.out.row ⟨bb, off, none⟩ k cz (flatZ (zs.take k)) rfl (by rw [flatZ_len, List.length_take]; congr 1; omega) hT.flat (flatZ_one _) (by unfold maxLen; omega) (by omega) hB101.size ?_
              intro v106 u102 ho107 hg108 _
              have K103 := Lib.hid (K99.out.grown ho107 hg108)
              have hB105 := K103.out.bel
              refine ⟨(Below.refl wd.heap.size _).grown hg108 hB101.size (fun j e => (K99.out.row.lt j e).1), wd.heap.size, Nat.le_refl _, ?_⟩
              rw [List.nil_append, Nat.zero_add] at K103
              clear ho107 hg108 hT
              refine stg_two _ 7 10 15 (by rfl) (by rfl) (by rfl) (by kernel_rfl) (by rfl) (by rfl) ?_ ?_
              · have hD := HD.out.below hB105
                refine wp_append_own _ _ _ 29 rfl wd.heap.size 54 i0 _ 3 40 Try.underlying29 hi hz0 hz10 hz20 rfl (by decide) _ k (flatZ (zs.take k)) rfl K103.out.row ⟨bb, off + (k + 1) * 3, none⟩ (zs.length - (k + 1)) (cz - (k + 1)) (flatZ (zs.drop (k + 1))) rfl (by rw [flatZ_len, List.length_drop]) hD.flat (flatZ_one _) (by unfold maxLen; omega) (by omega) hB105.size ?_
                intro v113 u109 ho114 hg115 _
                have K110 := Lib.hid (K103.out.grown ho114 hg115)
                have hB112 := K110.out.bel
                refine ⟨(Below.refl wd.heap.size _).grown hg115 hB105.size (fun j e => (K103.out.row.lt j e).1), wd.heap.size, Nat.le_refl _, ?_⟩
                rw [← HYS.out] at K110
                clear ho114 hg115 hD
                refine stg_two _ 6 11 15 (by rfl) (by rfl) (by rfl) (by kernel_rfl) (by rfl) (by rfl) ?_ ?_
                · have hL := Lib.hid (Ld.out.call hB112)
                  obtain ⟨A9, c9, rfl, hs9⟩ := slz_of_row K110.out.row hB112.size (fun z hz => hL.out.sl.ends (HYM.out z hz))
                  have CC := C9 A9 c9 u109 hs9
                  go_wp2_with fail
                  refine CC.mono ?_
                  clear CC
                  rintro e u116 ⟨A10, g10, c10, rfl, -, ho10, hb10⟩
                  refine ⟨hb10.mono hB112.size, wd.heap.size, Nat.le_refl _, ?_⟩
                  have hB118 := hB112.trans (hb10.mono hB112.size)
                  clear hb10 hs9 hL
                  refine stg_seg _ 3 [12, 13, 14] (by kernel_rfl) (by kernel_rfl) (by kernel_rfl) (by kernel_rfl) ?_
                  (simp only [List.map_cons, List.map_nil, List.getElem?_cons_zero, List.getElem?_cons_succ, Option.getD_some]); (repeat (go_big_quiet_step (fail))); (refine wpQuiet_nil ?_)
                  refine stg_one _ 2 15 (by kernel_rfl) (by rfl) (by kernel_rfl) (by rfl) ?_
                  go_wp2_with fail
                  refine ⟨(Below.refl wd.heap.size u116).alloc hB118.size _, wd.heap.size, Nat.le_refl _, ?_⟩
                  refine stg_one _ 1 16 (by kernel_rfl) (by rfl) (by kernel_rfl) (by rfl) ?_
                  go_wp2_with fail
                  refine ⟨below_aa' hB118.size, wd.heap.size, Nat.le_refl _, ?_⟩
                  have X7 := Lib.hid (Box.new u116 48 #[.int .i64 n, .slice A10 (graphL (datL ys) n.toNat).length c10])
                  have O7 := Lib.hid (ho10.alloc (.cells #[.int .i64 n, .slice A10 (graphL (datL ys) n.toNat).length c10] 48))
                  have hB7 := hB118.alloc hB118.size (.cells #[.int .i64 n, .slice A10 (graphL (datL ys) n.toNat).length c10] 48)
                  have L7 := Lib.hid (Ld.out.call hB7)
                  generalize u116.alloc (.cells #[.int .i64 n, .slice A10 (graphL (datL ys) n.toNat).length c10] 48) = w7 at *
                  refine stg_seg _ 0 [17] (by kernel_rfl) (by kernel_rfl) (by kernel_rfl) (by kernel_rfl) ?_
                  (simp only [List.map_cons, List.map_nil, List.getElem?_cons_zero, List.getElem?_cons_succ, Option.getD_some]); (repeat (go_big_quiet_step (fail))); (refine wpQuiet_nil ?_)
                  refine stg_end (by kernel_rfl) ?_
                  generalize u116.heap.size = Q7 at *
                  obtain ⟨zx7, x70, x71, -, -⟩ := X7.out.two
                  obtain ⟨b8, o8, hA8, hb8, hc8, -, -, -⟩ := L7.out.sl k z HZ.out
                  have CN := nb_impl n A10 (graphL (datL ys) n.toNat) c10 z.o w7.drew HLL.out (O7.out.sl)
                  rw [HNB.out] at CN
                  obtain ⟨zo, zq, zes, zA, zc, zg⟩ := z
                  dsimp only at hc8 CN
                  injection hA8 with hA8
                  injection hA8 with hA8 hA9
                  subst hA8
                  subst hA9
                  have hX0 := fun (x : Ext w7.drew) (b2 oo : Nat) (h : b2 < w7.heap.size) => (show x.w.cell? ⟨b2, oo, none⟩ = w7.cell? ⟨b2, oo, none⟩ from x.cell b2 oo h)
                  go_wp2_with fail
                  refine wp_region_staged 13 (by kernel_rfl) (by kernel_rfl) ?_
                  refine stage_seg _ 5 [0, 1, 2, 3, 4, 5, 6, 7] (by kernel_rfl) (by kernel_rfl) (by kernel_rfl) (by kernel_rfl) ?_
                  (simp only [List.map_cons, List.map_nil, List.getElem?_cons_zero, List.getElem?_cons_succ, Option.getD_some]); (repeat (go_big_quiet_step (fail))); (refine wpQuiet_nil ?_)
                  refine stage_call _ 4 8 (by kernel_rfl) (by rfl) (by kernel_rfl) (by rfl) ?_
                  go_wp2_with fail
                  refine CN.mono ?_
                  rintro e w8 ⟨A11, g11, c11, rfl, -, -, hb9⟩
                  refine ⟨hb9, ?_⟩
                  have B8 := Lib.hid (L7.out.bel.drew.trans (hb9.mono L7.out.bel.size))
                  clear hb9 hX0
                  refine stage_seg _ 0 [9, 10, 11, 12] (by kernel_rfl) (by kernel_rfl) (by kernel_rfl) (by kernel_rfl) ?_
                  (simp only [List.map_cons, List.map_nil, List.getElem?_cons_zero, List.getElem?_cons_succ, Option.getD_some]); (repeat (go_big_quiet_step (fail))); (refine wpQuiet_nil ?_)
                  refine stage_end (by kernel_rfl) ?_
                  go_wp2_with fail
                  go_ret
                  exact ⟨rfl, B8.out⟩
                · go_wp2_with fail
                  refine ⟨(Below.refl wd.heap.size u109).alloc hB112.size _, wd.heap.size, Nat.le_refl _, ?_⟩
                  have X126 := Lib.hid (Box.new u109 48 #[.int .i64 0, .slice none 0 0])
                  have K125 := Lib.hid (K110.out.alloc (.cells #[.int .i64 0, .slice none 0 0] 48))
                  have hB127 := K125.out.bel
                  have hqu124 : wd.heap.size ≤ u109.heap.size := hB112.size
                  generalize u109.alloc (.cells #[.int .i64 0, .slice none 0 0] 48) = u124 at *
                  refine stg_one _ 5 11 (by kernel_rfl) (by rfl) (by kernel_rfl) (by rfl) ?_
                  have hL := Lib.hid (Ld.out.call hB127)
                  obtain ⟨A9, c9, rfl, hs9⟩ := slz_of_row K125.out.row hB127.size (fun z hz => hL.out.sl.ends (HYM.out z hz))
                  have CC := C9 A9 c9 u124 hs9
                  go_wp2_with fail
                  refine CC.mono ?_
                  clear CC
                  rintro e u128 ⟨A10, g10, c10, rfl, -, ho10, hb10⟩
                  refine ⟨hb10.mono hB127.size, wd.heap.size, Nat.le_refl _, ?_⟩
                  have hB130 := hB127.trans (hb10.mono hB127.size)
                  have X129 := Lib.hid (X126.out.below hb10 X126.out.lt)
                  clear hb10 hs9 hL
                  refine stg_seg _ 2 [12, 13, 14] (by kernel_rfl) (by kernel_rfl) (by kernel_rfl) (by kernel_rfl) ?_
                  (simp only [List.map_cons, List.map_nil, List.getElem?_cons_zero, List.getElem?_cons_succ, Option.getD_some]); (repeat (go_big_quiet_step (fail))); (refine wpQuiet_nil ?_)
                  obtain ⟨zq7, y70, y71, q70, q71⟩ := X129.out.two
                  refine stg_one _ 1 16 (by kernel_rfl) (by rfl) (by kernel_rfl) (by rfl) ?_
                  go_wp2_with fail
                  have hQ7 : wd.heap.size ≤ u109.heap.size := hqu124
                  refine ⟨((Below.refl wd.heap.size u128).setCell (p := ⟨u109.heap.size, 0, none⟩) hQ7 _).setCell (p := ⟨u109.heap.size, 1, none⟩) hQ7 _, wd.heap.size, Nat.le_refl _, ?_⟩
                  have X7 : Hid (Box ((u128.setCell ⟨u109.heap.size, 0, none⟩ (.int .i64 n)).setCell ⟨u109.heap.size, 1, none⟩ (.slice A10 (graphL (datL ys) n.toNat).length c10)) (u109.heap.size) 48 #[.int .i64 n, .slice A10 (graphL (datL ys) n.toNat).length c10]) := Lib.hid (heap_set (heap_set X129.out 0 _) 1 _)
                  have O7 := Lib.hid (own1_far ho10 (Q := u109.heap.size) (fun hp => by have h1 := (ho10 hp).2; exact own1_box_ne h1 X129.out) (.int .i64 n) (.slice A10 (graphL (datL ys) n.toNat).length c10))
                  have hB7 := (hB130.setCell (p := ⟨u109.heap.size, 0, none⟩) hQ7 (.int .i64 n)).setCell (p := ⟨u109.heap.size, 1, none⟩) hQ7 (.slice A10 (graphL (datL ys) n.toNat).length c10)
                  have L7 := Lib.hid (Ld.out.call hB7)
                  generalize (u128.setCell ⟨u109.heap.size, 0, none⟩ (.int .i64 n)).setCell ⟨u109.heap.size, 1, none⟩ (.slice A10 (graphL (datL ys) n.toNat).length c10) = w7 at *
                  refine stg_seg _ 0 [17] (by kernel_rfl) (by kernel_rfl) (by kernel_rfl) (by kernel_rfl) ?_
                  (simp only [List.map_cons, List.map_nil, List.getElem?_cons_zero, List.getElem?_cons_succ, Option.getD_some]); (repeat (go_big_quiet_step (fail))); (refine wpQuiet_nil ?_)
                  refine stg_end (by kernel_rfl) ?_
                  generalize u109.heap.size = Q7 at *
                  obtain ⟨zx7, x70, x71, -, -⟩ := X7.out.two
                  obtain ⟨b8, o8, hA8, hb8, hc8, -, -, -⟩ := L7.out.sl k z HZ.out
                  have CN := nb_impl n A10 (graphL (datL ys) n.toNat) c10 z.o w7.drew HLL.out (O7.out.sl)
                  rw [HNB.out] at CN
                  obtain ⟨zo, zq, zes, zA, zc, zg⟩ := z
                  dsimp only at hc8 CN
                  injection hA8 with hA8
                  injection hA8 with hA8 hA9
                  subst hA8
                  subst hA9
                  have hX0 := fun (x : Ext w7.drew) (b2 oo : Nat) (h : b2 < w7.heap.size) => (show x.w.cell? ⟨b2, oo, none⟩ = w7.cell? ⟨b2, oo, none⟩ from x.cell b2 oo h)
                  go_wp2_with fail
                  refine wp_region_staged 13 (by kernel_rfl) (by kernel_rfl) ?_
                  refine stage_seg _ 5 [0, 1, 2, 3, 4, 5, 6, 7] (by kernel_rfl) (by kernel_rfl) (by kernel_rfl) (by kernel_rfl) ?_
                  (simp only [List.map_cons, List.map_nil, List.getElem?_cons_zero, List.getElem?_cons_succ, Option.getD_some]); (repeat (go_big_quiet_step (fail))); (refine wpQuiet_nil ?_)
                  refine stage_call _ 4 8 (by kernel_rfl) (by rfl) (by kernel_rfl) (by rfl) ?_
                  go_wp2_with fail
                  refine CN.mono ?_
                  rintro e w8 ⟨A11, g11, c11, rfl, -, -, hb9⟩
                  refine ⟨hb9, ?_⟩
                  have B8 := Lib.hid (L7.out.bel.drew.trans (hb9.mono L7.out.bel.size))
                  clear hb9 hX0
                  refine stage_seg _ 0 [9, 10, 11, 12] (by kernel_rfl) (by kernel_rfl) (by kernel_rfl) (by kernel_rfl) ?_
                  (simp only [List.map_cons, List.map_nil, List.getElem?_cons_zero, List.getElem?_cons_succ, Option.getD_some]); (repeat (go_big_quiet_step (fail))); (refine wpQuiet_nil ?_)
                  refine stage_end (by kernel_rfl) ?_
                  go_wp2_with fail
                  go_ret
                  exact ⟨rfl, B8.out⟩
              · go_wp2_with fail
                refine ⟨(Below.refl wd.heap.size u102).alloc hB105.size _, wd.heap.size, Nat.le_refl _, ?_⟩
                have X134 := Lib.hid (Box.new u102 48 #[.int .i64 0, .slice none 0 0])
                have K133 := Lib.hid (K103.out.alloc (.cells #[.int .i64 0, .slice none 0 0] 48))
                have hB135 := K133.out.bel
                have hqu132 : wd.heap.size ≤ u102.heap.size := hB105.size
                generalize u102.alloc (.cells #[.int .i64 0, .slice none 0 0] 48) = u132 at *
                refine stg_one _ 6 10 (by kernel_rfl) (by rfl) (by kernel_rfl) (by rfl) ?_
                have hD := HD.out.below hB135
                refine wp_append_own _ _ _ 29 rfl wd.heap.size 54 i0 _ 3 40 Try.underlying29 hi hz0 hz10 hz20 rfl (by decide) _ k (flatZ (zs.take k)) rfl K133.out.row ⟨bb, off + (k + 1) * 3, none⟩ (zs.length - (k + 1)) (cz - (k + 1)) (flatZ (zs.drop (k + 1))) rfl (by rw [flatZ_len, List.length_drop]) hD.flat (flatZ_one _) (by unfold maxLen; omega) (by omega) hB135.size ?_
                intro v140 u136 ho141 hg142 _
                have K137 := Lib.hid (K133.out.grown ho141 hg142)
                have hB139 := K137.out.bel
                have X138 := Lib.hid (K133.out.box X134.out hg142)
                refine ⟨(Below.refl wd.heap.size _).grown hg142 hB135.size (fun j e => (K133.out.row.lt j e).1), wd.heap.size, Nat.le_refl _, ?_⟩
                rw [← HYS.out] at K137
                clear ho141 hg142 hD
                refine stg_one _ 5 11 (by kernel_rfl) (by rfl) (by kernel_rfl) (by rfl) ?_
                have hL := Lib.hid (Ld.out.call hB139)
                obtain ⟨A9, c9, rfl, hs9⟩ := slz_of_row K137.out.row hB139.size (fun z hz => hL.out.sl.ends (HYM.out z hz))
                have CC := C9 A9 c9 u136 hs9
                go_wp2_with fail
                refine CC.mono ?_
                clear CC
                rintro e u143 ⟨A10, g10, c10, rfl, -, ho10, hb10⟩
                refine ⟨hb10.mono hB139.size, wd.heap.size, Nat.le_refl _, ?_⟩
                have hB145 := hB139.trans (hb10.mono hB139.size)
                have X144 := Lib.hid (X138.out.below hb10 X138.out.lt)
                clear hb10 hs9 hL
                refine stg_seg _ 2 [12, 13, 14] (by kernel_rfl) (by kernel_rfl) (by kernel_rfl) (by kernel_rfl) ?_
                (simp only [List.map_cons, List.map_nil, List.getElem?_cons_zero, List.getElem?_cons_succ, Option.getD_some]); (repeat (go_big_quiet_step (fail))); (refine wpQuiet_nil ?_)
                obtain ⟨zq7, y70, y71, q70, q71⟩ := X144.out.two
                refine stg_one _ 1 16 (by kernel_rfl) (by rfl) (by kernel_rfl) (by rfl) ?_
                go_wp2_with fail
                have hQ7 : wd.heap.size ≤ u102.heap.size := hqu132
                refine ⟨((Below.refl wd.heap.size u143).setCell (p := ⟨u102.heap.size, 0, none⟩) hQ7 _).setCell (p := ⟨u102.heap.size, 1, none⟩) hQ7 _, wd.heap.size, Nat.le_refl _, ?_⟩
                have X7 : Hid (Box ((u143.setCell ⟨u102.heap.size, 0, none⟩ (.int .i64 n)).setCell ⟨u102.heap.size, 1, none⟩ (.slice A10 (graphL (datL ys) n.toNat).length c10)) (u102.heap.size) 48 #[.int .i64 n, .slice A10 (graphL (datL ys) n.toNat).length c10]) := Lib.hid (heap_set (heap_set X144.out 0 _) 1 _)
                have O7 := Lib.hid (own1_far ho10 (Q := u102.heap.size) (fun hp => by have h1 := (ho10 hp).2; exact own1_box_ne h1 X144.out) (.int .i64 n) (.slice A10 (graphL (datL ys) n.toNat).length c10))
                have hB7 := (hB145.setCell (p := ⟨u102.heap.size, 0, none⟩) hQ7 (.int .i64 n)).setCell (p := ⟨u102.heap.size, 1, none⟩) hQ7 (.slice A10 (graphL (datL ys) n.toNat).length c10)
                have L7 := Lib.hid (Ld.out.call hB7)
                generalize (u143.setCell ⟨u102.heap.size, 0, none⟩ (.int .i64 n)).setCell ⟨u102.heap.size, 1, none⟩ (.slice A10 (graphL (datL ys) n.toNat).length c10) = w7 at *
                refine stg_seg _ 0 [17] (by kernel_rfl) (by kernel_rfl) (by kernel_rfl) (by kernel_rfl) ?_
                (simp only [List.map_cons, List.map_nil, List.getElem?_cons_zero, List.getElem?_cons_succ, Option.getD_some]); (repeat (go_big_quiet_step (fail))); (refine wpQuiet_nil ?_)
                refine stg_end (by kernel_rfl) ?_
                generalize u102.heap.size = Q7 at *
                obtain ⟨zx7, x70, x71, -, -⟩ := X7.out.two
                obtain ⟨b8, o8, hA8, hb8, hc8, -, -, -⟩ := L7.out.sl k z HZ.out
                have CN := nb_impl n A10 (graphL (datL ys) n.toNat) c10 z.o w7.drew HLL.out (O7.out.sl)
                rw [HNB.out] at CN
                obtain ⟨zo, zq, zes, zA, zc, zg⟩ := z
                dsimp only at hc8 CN
                injection hA8 with hA8
                injection hA8 with hA8 hA9
                subst hA8
                subst hA9
                have hX0 := fun (x : Ext w7.drew) (b2 oo : Nat) (h : b2 < w7.heap.size) => (show x.w.cell? ⟨b2, oo, none⟩ = w7.cell? ⟨b2, oo, none⟩ from x.cell b2 oo h)
                go_wp2_with fail
                refine wp_region_staged 13 (by kernel_rfl) (by kernel_rfl) ?_
                refine stage_seg _ 5 [0, 1, 2, 3, 4, 5, 6, 7] (by kernel_rfl) (by kernel_rfl) (by kernel_rfl) (by kernel_rfl) ?_
                (simp only [List.map_cons, List.map_nil, List.getElem?_cons_zero, List.getElem?_cons_succ, Option.getD_some]); (repeat (go_big_quiet_step (fail))); (refine wpQuiet_nil ?_)
                refine stage_call _ 4 8 (by kernel_rfl) (by rfl) (by kernel_rfl) (by rfl) ?_
                go_wp2_with fail
                refine CN.mono ?_
                rintro e w8 ⟨A11, g11, c11, rfl, -, -, hb9⟩
                refine ⟨hb9, ?_⟩
                have B8 := Lib.hid (L7.out.bel.drew.trans (hb9.mono L7.out.bel.size))
                clear hb9 hX0
                refine stage_seg _ 0 [9, 10, 11, 12] (by kernel_rfl) (by kernel_rfl) (by kernel_rfl) (by kernel_rfl) ?_
                (simp only [List.map_cons, List.map_nil, List.getElem?_cons_zero, List.getElem?_cons_succ, Option.getD_some]); (repeat (go_big_quiet_step (fail))); (refine wpQuiet_nil ?_)
                refine stage_end (by kernel_rfl) ?_
                go_wp2_with fail
                go_ret
                exact ⟨rfl, B8.out⟩
            · go_wp2_with fail
              refine ⟨(Below.refl wd.heap.size u98).alloc hB101.size _, wd.heap.size, Nat.le_refl _, ?_⟩
              have X149 := Lib.hid (Box.new u98 48 #[.int .i64 0, .slice none 0 0])
              have K148 := Lib.hid (K99.out.alloc (.cells #[.int .i64 0, .slice none 0 0] 48))
              have hB150 := K148.out.bel
              have hqu147 : wd.heap.size ≤ u98.heap.size := hB101.size
              generalize u98.alloc (.cells #[.int .i64 0, .slice none 0 0] 48) = u147 at *
              refine stg_one _ 7 5 (by kernel_rfl) (by rfl) (by kernel_rfl) (by rfl) ?_
              have hT := HT.out.below hB150
              refine wp_append_own _ _ _ 29 rfl wd.heap.size 54 i0 _ 3 40 Try.underlying29 hi hz0 hz10 hz20 rfl (by decide) _ 0 (flatZ []) rfl K148.out.row ⟨bb, off, none⟩ k cz (flatZ (zs.take k)) rfl (by rw [flatZ_len, List.length_take]; congr 1; omega) hT.flat (flatZ_one _) (by unfold maxLen; omega) (by omega) hB150.size ?_
              intro v155 u151 ho156 hg157 _
              have K152 := Lib.hid (K148.out.grown ho156 hg157)
              have hB154 := K152.out.bel
              have X153 := Lib.hid (K148.out.box X149.out hg157)
              refine ⟨(Below.refl wd.heap.size _).grown hg157 hB150.size (fun j e => (K148.out.row.lt j e).1), wd.heap.size, Nat.le_refl _, ?_⟩
              rw [List.nil_append, Nat.zero_add] at K152
              clear ho156 hg157 hT
              refine stg_one _ 6 10 (by kernel_rfl) (by rfl) (by kernel_rfl) (by rfl) ?_
              have hD := HD.out.below hB154
              refine wp_append_own _ _ _ 29 rfl wd.heap.size 54 i0 _ 3 40 Try.underlying29 hi hz0 hz10 hz20 rfl (by decide) _ k (flatZ (zs.take k)) rfl K152.out.row ⟨bb, off + (k + 1) * 3, none⟩ (zs.length - (k + 1)) (cz - (k + 1)) (flatZ (zs.drop (k + 1))) rfl (by rw [flatZ_len, List.length_drop]) hD.flat (flatZ_one _) (by unfold maxLen; omega) (by omega) hB154.size ?_
              intro v162 u158 ho163 hg164 _
              have K159 := Lib.hid (K152.out.grown ho163 hg164)
              have hB161 := K159.out.bel
              have X160 := Lib.hid (K152.out.box X153.out hg164)
              refine ⟨(Below.refl wd.heap.size _).grown hg164 hB154.size (fun j e => (K152.out.row.lt j e).1), wd.heap.size, Nat.le_refl _, ?_⟩
              rw [← HYS.out] at K159
              clear ho163 hg164 hD
              refine stg_one _ 5 11 (by kernel_rfl) (by rfl) (by kernel_rfl) (by rfl) ?_
              have hL := Lib.hid (Ld.out.call hB161)
              obtain ⟨A9, c9, rfl, hs9⟩ := slz_of_row K159.out.row hB161.size (fun z hz => hL.out.sl.ends (HYM.out z hz))
              have CC := C9 A9 c9 u158 hs9
              go_wp2_with fail
              refine CC.mono ?_
              clear CC
              rintro e u165 ⟨A10, g10, c10, rfl, -, ho10, hb10⟩
              refine ⟨hb10.mono hB161.size, wd.heap.size, Nat.le_refl _, ?_⟩
              have hB167 := hB161.trans (hb10.mono hB161.size)
              have X166 := Lib.hid (X160.out.below hb10 X160.out.lt)
              clear hb10 hs9 hL
              refine stg_seg _ 2 [12, 13, 14] (by kernel_rfl) (by kernel_rfl) (by kernel_rfl) (by kernel_rfl) ?_
              (simp only [List.map_cons, List.map_nil, List.getElem?_cons_zero, List.getElem?_cons_succ, Option.getD_some]); (repeat (go_big_quiet_step (fail))); (refine wpQuiet_nil ?_)
              obtain ⟨zq7, y70, y71, q70, q71⟩ := X166.out.two
              refine stg_one _ 1 16 (by kernel_rfl) (by rfl) (by kernel_rfl) (by rfl) ?_
              go_wp2_with fail
              have hQ7 : wd.heap.size ≤ u98.heap.size := hqu147
              refine ⟨((Below.refl wd.heap.size u165).setCell (p := ⟨u98.heap.size, 0, none⟩) hQ7 _).setCell (p := ⟨u98.heap.size, 1, none⟩) hQ7 _, wd.heap.size, Nat.le_refl _, ?_⟩
              have X7 : Hid (Box ((u165.setCell ⟨u98.heap.size, 0, none⟩ (.int .i64 n)).setCell ⟨u98.heap.size, 1, none⟩ (.slice A10 (graphL (datL ys) n.toNat).length c10)) (u98.heap.size) 48 #[.int .i64 n, .slice A10 (graphL (datL ys) n.toNat).length c10]) := Lib.hid (heap_set (heap_set X166.out 0 _) 1 _)
              have O7 := Lib.hid (own1_far ho10 (Q := u98.heap.size) (fun hp => by have h1 := (ho10 hp).2; exact own1_box_ne h1 X166.out) (.int .i64 n) (.slice A10 (graphL (datL ys) n.toNat).length c10))
              have hB7 := (hB167.setCell (p := ⟨u98.heap.size, 0, none⟩) hQ7 (.int .i64 n)).setCell (p := ⟨u98.heap.size, 1, none⟩) hQ7 (.slice A10 (graphL (datL ys) n.toNat).length c10)
              have L7 := Lib.hid (Ld.out.call hB7)
              generalize (u165.setCell ⟨u98.heap.size, 0, none⟩ (.int .i64 n)).setCell ⟨u98.heap.size, 1, none⟩ (.slice A10 (graphL (datL ys) n.toNat).length c10) = w7 at *
              refine stg_seg _ 0 [17] (by kernel_rfl) (by kernel_rfl) (by kernel_rfl) (by kernel_rfl) ?_
              (simp only [List.map_cons, List.map_nil, List.getElem?_cons_zero, List.getElem?_cons_succ, Option.getD_some]); (repeat (go_big_quiet_step (fail))); (refine wpQuiet_nil ?_)
              refine stg_end (by kernel_rfl) ?_
              generalize u98.heap.size = Q7 at *
              obtain ⟨zx7, x70, x71, -, -⟩ := X7.out.two
              obtain ⟨b8, o8, hA8, hb8, hc8, -, -, -⟩ := L7.out.sl k z HZ.out
              have CN := nb_impl n A10 (graphL (datL ys) n.toNat) c10 z.o w7.drew HLL.out (O7.out.sl)
              rw [HNB.out] at CN
              obtain ⟨zo, zq, zes, zA, zc, zg⟩ := z
              dsimp only at hc8 CN
              injection hA8 with hA8
              injection hA8 with hA8 hA9
              subst hA8
              subst hA9
              have hX0 := fun (x : Ext w7.drew) (b2 oo : Nat) (h : b2 < w7.heap.size) => (show x.w.cell? ⟨b2, oo, none⟩ = w7.cell? ⟨b2, oo, none⟩ from x.cell b2 oo h)
              go_wp2_with fail
              refine wp_region_staged 13 (by kernel_rfl) (by kernel_rfl) ?_
              refine stage_seg _ 5 [0, 1, 2, 3, 4, 5, 6, 7] (by kernel_rfl) (by kernel_rfl) (by kernel_rfl) (by kernel_rfl) ?_
              (simp only [List.map_cons, List.map_nil, List.getElem?_cons_zero, List.getElem?_cons_succ, Option.getD_some]); (repeat (go_big_quiet_step (fail))); (refine wpQuiet_nil ?_)
              refine stage_call _ 4 8 (by kernel_rfl) (by rfl) (by kernel_rfl) (by rfl) ?_
              go_wp2_with fail
              refine CN.mono ?_
              rintro e w8 ⟨A11, g11, c11, rfl, -, -, hb9⟩
              refine ⟨hb9, ?_⟩
              have B8 := Lib.hid (L7.out.bel.drew.trans (hb9.mono L7.out.bel.size))
              clear hb9 hX0
              refine stage_seg _ 0 [9, 10, 11, 12] (by kernel_rfl) (by kernel_rfl) (by kernel_rfl) (by kernel_rfl) ?_
              (simp only [List.map_cons, List.map_nil, List.getElem?_cons_zero, List.getElem?_cons_succ, Option.getD_some]); (repeat (go_big_quiet_step (fail))); (refine wpQuiet_nil ?_)
              refine stage_end (by kernel_rfl) ?_
              go_wp2_with fail
              go_ret
              exact ⟨rfl, B8.out⟩
          · go_wp2_with fail
            refine ⟨(Below.refl wd.heap.size wd).alloc hBd.size _, wd.heap.size, Nat.le_refl _, ?_⟩
            have X171 := Lib.hid (Box.new wd 48 #[.int .i64 0, .slice none 0 0])
            have hB172 := hBd.alloc hBd.size (.cells #[.int .i64 0, .slice none 0 0] 48)
            have hqu169 : wd.heap.size ≤ wd.heap.size := hBd.size
            generalize wd.alloc (.cells #[.int .i64 0, .slice none 0 0] 48) = u169 at *
            refine stg_one _ 8 1 (by kernel_rfl) (by rfl) (by kernel_rfl) (by rfl) ?_
            go_wp2_with fail
            refine ⟨(Below.refl wd.heap.size u169).alloc hB172.size _, wd.heap.size, Nat.le_refl _, ?_⟩
            have K174 := Lib.hid (GS.made (wd := wd) hB172)
            have hB176 := K174.out.bel
            have X175 := Lib.hid (X171.out.alloc (.cells #[] 54))
            generalize u169.alloc (.cells #[] 54) = u173 at *
            refine stg_one _ 7 5 (by kernel_rfl) (by rfl) (by kernel_rfl) (by rfl) ?_
            have hT := HT.out.below hB176
            refine wp_append_own _ _ _ 29 rfl wd.heap.size 54 i0 _ 3 40 Try.underlying29 hi hz0 hz10 hz20 rfl (by decide) _ 0 (flatZ []) rfl K174.out.row ⟨bb, off, none⟩ k cz (flatZ (zs.take k)) rfl (by rw [flatZ_len, List.length_take]; congr 1; omega) hT.flat (flatZ_one _) (by unfold maxLen; omega) (by omega) hB176.size ?_
            intro v181 u177 ho182 hg183 _
            have K178 := Lib.hid (K174.out.grown ho182 hg183)
            have hB180 := K178.out.bel
            have X179 := Lib.hid (K174.out.box X175.out hg183)
            refine ⟨(Below.refl wd.heap.size _).grown hg183 hB176.size (fun j e => (K174.out.row.lt j e).1), wd.heap.size, Nat.le_refl _, ?_⟩
            rw [List.nil_append, Nat.zero_add] at K178
            clear ho182 hg183 hT
            refine stg_one _ 6 10 (by kernel_rfl) (by rfl) (by kernel_rfl) (by rfl) ?_
            have hD := HD.out.below hB180
            refine wp_append_own _ _ _ 29 rfl wd.heap.size 54 i0 _ 3 40 Try.underlying29 hi hz0 hz10 hz20 rfl (by decide) _ k (flatZ (zs.take k)) rfl K178.out.row ⟨bb, off + (k + 1) * 3, none⟩ (zs.length - (k + 1)) (cz - (k + 1)) (flatZ (zs.drop (k + 1))) rfl (by rw [flatZ_len, List.length_drop]) hD.flat (flatZ_one _) (by unfold maxLen; omega) (by omega) hB180.size ?_
            intro v188 u184 ho189 hg190 _
            have K185 := Lib.hid (K178.out.grown ho189 hg190)
            have hB187 := K185.out.bel
            have X186 := Lib.hid (K178.out.box X179.out hg190)
            refine ⟨(Below.refl wd.heap.size _).grown hg190 hB180.size (fun j e => (K178.out.row.lt j e).1), wd.heap.size, Nat.le_refl _, ?_⟩
            rw [← HYS.out] at K185
            clear ho189 hg190 hD
            refine stg_one _ 5 11 (by kernel_rfl) (by rfl) (by kernel_rfl) (by rfl) ?_
            have hL := Lib.hid (Ld.out.call hB187)
            obtain ⟨A9, c9, rfl, hs9⟩ := slz_of_row K185.out.row hB187.size (fun z hz => hL.out.sl.ends (HYM.out z hz))
            have CC := C9 A9 c9 u184 hs9
            go_wp2_with fail
            refine CC.mono ?_
            clear CC
            rintro e u191 ⟨A10, g10, c10, rfl, -, ho10, hb10⟩
            refine ⟨hb10.mono hB187.size, wd.heap.size, Nat.le_refl _, ?_⟩
            have hB193 := hB187.trans (hb10.mono hB187.size)
            have X192 := Lib.hid (X186.out.below hb10 X186.out.lt)
            clear hb10 hs9 hL
            refine stg_seg _ 2 [12, 13, 14] (by kernel_rfl) (by kernel_rfl) (by kernel_rfl) (by kernel_rfl) ?_
            (simp only [List.map_cons, List.map_nil, List.getElem?_cons_zero, List.getElem?_cons_succ, Option.getD_some]); (repeat (go_big_quiet_step (fail))); (refine wpQuiet_nil ?_)
            obtain ⟨zq7, y70, y71, q70, q71⟩ := X192.out.two
            refine stg_one _ 1 16 (by kernel_rfl) (by rfl) (by kernel_rfl) (by rfl) ?_
            go_wp2_with fail
            have hQ7 : wd.heap.size ≤ wd.heap.size := hqu169
            refine ⟨((Below.refl wd.heap.size u191).setCell (p := ⟨wd.heap.size, 0, none⟩) hQ7 _).setCell (p := ⟨wd.heap.size, 1, none⟩) hQ7 _, wd.heap.size, Nat.le_refl _, ?_⟩
            have X7 : Hid (Box ((u191.setCell ⟨wd.heap.size, 0, none⟩ (.int .i64 n)).setCell ⟨wd.heap.size, 1, none⟩ (.slice A10 (graphL (datL ys) n.toNat).length c10)) (wd.heap.size) 48 #[.int .i64 n, .slice A10 (graphL (datL ys) n.toNat).length c10]) := Lib.hid (heap_set (heap_set X192.out 0 _) 1 _)
            have O7 := Lib.hid (own1_far ho10 (Q := wd.heap.size) (fun hp => by have h1 := (ho10 hp).2; exact own1_box_ne h1 X192.out) (.int .i64 n) (.slice A10 (graphL (datL ys) n.toNat).length c10))
            have hB7 := (hB193.setCell (p := ⟨wd.heap.size, 0, none⟩) hQ7 (.int .i64 n)).setCell (p := ⟨wd.heap.size, 1, none⟩) hQ7 (.slice A10 (graphL (datL ys) n.toNat).length c10)
            have L7 := Lib.hid (Ld.out.call hB7)
            generalize (u191.setCell ⟨wd.heap.size, 0, none⟩ (.int .i64 n)).setCell ⟨wd.heap.size, 1, none⟩ (.slice A10 (graphL (datL ys) n.toNat).length c10) = w7 at *
            refine stg_seg _ 0 [17] (by kernel_rfl) (by kernel_rfl) (by kernel_rfl) (by kernel_rfl) ?_
            (simp only [List.map_cons, List.map_nil, List.getElem?_cons_zero, List.getElem?_cons_succ, Option.getD_some]); (repeat (go_big_quiet_step (fail))); (refine wpQuiet_nil ?_)
            refine stg_end (by kernel_rfl) ?_
            generalize wd.heap.size = Q7 at *
            obtain ⟨zx7, x70, x71, -, -⟩ := X7.out.two
            obtain ⟨b8, o8, hA8, hb8, hc8, -, -, -⟩ := L7.out.sl k z HZ.out
            have CN := nb_impl n A10 (graphL (datL ys) n.toNat) c10 z.o w7.drew HLL.out (O7.out.sl)
            rw [HNB.out] at CN
            obtain ⟨zo, zq, zes, zA, zc, zg⟩ := z
            dsimp only at hc8 CN
            injection hA8 with hA8
            injection hA8 with hA8 hA9
            subst hA8
            subst hA9
            have hX0 := fun (x : Ext w7.drew) (b2 oo : Nat) (h : b2 < w7.heap.size) => (show x.w.cell? ⟨b2, oo, none⟩ = w7.cell? ⟨b2, oo, none⟩ from x.cell b2 oo h)
            go_wp2_with fail
            refine wp_region_staged 13 (by kernel_rfl) (by kernel_rfl) ?_
            refine stage_seg _ 5 [0, 1, 2, 3, 4, 5, 6, 7] (by kernel_rfl) (by kernel_rfl) (by kernel_rfl) (by kernel_rfl) ?_
            (simp only [List.map_cons, List.map_nil, List.getElem?_cons_zero, List.getElem?_cons_succ, Option.getD_some]); (repeat (go_big_quiet_step (fail))); (refine wpQuiet_nil ?_)
            refine stage_call _ 4 8 (by kernel_rfl) (by rfl) (by kernel_rfl) (by rfl) ?_
            go_wp2_with fail
            refine CN.mono ?_
            rintro e w8 ⟨A11, g11, c11, rfl, -, -, hb9⟩
            refine ⟨hb9, ?_⟩
            have B8 := Lib.hid (L7.out.bel.drew.trans (hb9.mono L7.out.bel.size))
            clear hb9 hX0
            refine stage_seg _ 0 [9, 10, 11, 12] (by kernel_rfl) (by kernel_rfl) (by kernel_rfl) (by kernel_rfl) ?_
            (simp only [List.map_cons, List.map_nil, List.getElem?_cons_zero, List.getElem?_cons_succ, Option.getD_some]); (repeat (go_big_quiet_step (fail))); (refine wpQuiet_nil ?_)
            refine stage_end (by kernel_rfl) ?_
            go_wp2_with fail
            go_ret
            exact ⟨rfl, B8.out⟩
    · have hg' : grB n (datL zs) = false := by simpa using hg
      obtain ⟨gl, hgl⟩ : ∃ gl : List Lk, gl = [] := ⟨_, rfl⟩
      simp only [hg', Bool.false_eq_true, ↓reduceIte] at CI CS
      rw [← hgl] at CI CS
      have hgll : gl.length ≤ 14 := by rw [hgl]; simp
      clear hg hg' hgl
      go_wp2_with fail
      refine (CI _ HS1.out).mono ?_
      clear CI
      rintro e w2 ⟨A2, g2, c2, rfl, hg2, ho2, hb2⟩
      have L2 := Lib.hid (GZ.start (w := w) (n := 0) (cg := c2) ho2 (HS1.out.grow hb2) (HB1.out.trans (hb2.mono HB1.out.size)))
      clear hb2 ho2 HS1 HB1
      go_wp2_with fail
      generalize w2.heap.size = X at *
      generalize w2.alloc (.cells #[.int .i64 0, .slice A2 gl.length c2] 48) = V2 at *
      refine (CS _ L2.out.sl).mono ?_
      clear CS
      rintro e w3 ⟨A3, g3, c3, rfl, hg3, ho3, hb3⟩
      have hb4 := hb3.alloc hb3.size (.cells #[.int .i64 0, .slice A3 gl.length c3] 48)
      have L3 := Lib.hid (L2.out.call hb4)
      have W3 := Lib.hid (Box.new w3 48 #[.int .i64 0, .slice A3 gl.length c3])
      have O3 := Lib.hid (ho3.alloc (.cells #[.int .i64 0, .slice A3 gl.length c3] 48))
      clear hb3 hb4 ho3 L2
      obtain ⟨zx, x0, x1, -, -⟩ := L3.out.box.two
      obtain ⟨zy, y0, y1, -, -⟩ := W3.out.two
      have CM := fun W (h1 : Sl W W.heap.size A2 gl) (h2 : Sl W W.heap.size A3 gl) => sameGraph_same 0 A2 A3 gl c2 c3 W (by omega) h1 h2
      go_wp2_with fail
      generalize w3.heap.size = Y at *
      generalize w3.alloc (.cells #[.int .i64 0, .slice A3 gl.length c3] 48) = V3 at *
      refine (CM _ L3.out.own.sl O3.out.sl).mono ?_
      rintro e w4 ⟨rfl, hb4⟩
      have L4 := Lib.hid (L3.out.call hb4)
      have W4 := Lib.hid (W3.out.below hb4 W3.out.lt)
      have O4 := Lib.hid (O3.out.below hb4)
      clear hb4 L3 W3 O3 zx x0 x1 zy y0 y1
      obtain ⟨zx, x0, x1, -, -⟩ := L4.out.box.two
      obtain ⟨zy, y0, y1, -, -⟩ := W4.out.two
      go_wp2_with fail
      refine (CM _ L4.out.own.sl O4.out.sl).mono ?_
      rintro e w5 ⟨rfl, hb5⟩
      have L5 := Lib.hid (L4.out.call hb5)
      clear hb5
      go_wp2_with fail
      go_ret
      exact ⟨rfl, L5.out.bel⟩
  · go_enter Try.func8, Try.ntmps8
    by_cases hl1 : len ≤ 1048576
    · have hl2 : ¬ len' ≤ 1048576 := fun h => hl ⟨hl1, h⟩
      clear hl
      go_wp2
      go_ret
      exact ⟨rfl, by (repeat (first | exact Below.refl _ _ | (refine Below.alloc ?_ (by first | exact Nat.le_refl _ | omega | (simp; done) | (simp; omega)) _) | (refine Below.setCell ?_ (by first | exact Nat.le_refl _ | omega | (simp; done) | (simp; omega)) _) | exact Below.drew ‹_›))⟩
    · clear hl
      go_wp2
      go_ret
      exact ⟨rfl, by (repeat (first | exact Below.refl _ _ | (refine Below.alloc ?_ (by first | exact Nat.le_refl _ | omega | (simp; done) | (simp; omega)) _) | (refine Below.setCell ?_ (by first | exact Nat.le_refl _ | omega | (simp; done) | (simp; omega)) _) | exact Below.drew ‹_›))⟩

end Go.Proofs.Ytnkohgdfipgdoab
