/-
  The walk of FnLsaPart over this seat.
-/
import Derived.Test.YtimebipgiicmiaaLu
namespace Go.Proofs.Ytimebipgiicmiaa
open Go.RowKit Go.Maps

set_option maxRecDepth 100000 in
set_option maxHeartbeats 1600000 in
theorem fnLsaPart_walk (A : Option Addr) (len c : Nat) (Am : Option Addr) (len' c' : Nat) (f f' : Nat → Int) (w : World) (hlc : len ≤ c) (hc : c ≤ maxLen) (hB : Byt w w.heap.size A len f) (_hlc' : len' ≤ c') (_hc' : c' ≤ maxLen) (_hB' : Byt w w.heap.size Am len' f') :
   Calls Try.prog 6 #[.slice A len c, .slice Am len' c'] w fun e w' => e = .returned (.bool true) ∧ Below w.heap.size w w' := by
  have HB := Lib.hid hB
  clear hB _hB'
  by_cases hl : len ≤ 1048576 ∧ len' ≤ 1048576
  · obtain ⟨hl, hl'⟩ := hl
    go_enter Try.func6, Try.ntmps6
    go_wp2_with fail
    refine (drawLsaValid_any A len c f w hlc hc HB.out).mono ?_
    rintro e w1 ⟨z, rfl, hokz, hin, hb1⟩
    have hle : z.es.length ≤ 2000000 := by have := hokz.2.2.2.2.1; dsimp only at this; omega
    have hzc := hin.2.2
    have hb1a : Below w1.heap.size w1 (w1.alloc (.cells #[.int .i64 z.o, .int .i64 z.q, .slice z.A z.es.length z.c] 29)) := by (repeat (first | exact Below.refl _ _ | (refine Below.alloc ?_ (by first | exact Nat.le_refl _ | omega | (simp; done) | (simp; omega)) _) | (refine Below.setCell ?_ (by first | exact Nat.le_refl _ | omega | (simp; done) | (simp; omega)) _) | exact Below.drew ‹_›))
    have L1 := Lib.hid (show LU w w1.heap.size z none [] _ from ⟨Box.new w1 29 #[.int .i64 z.o, .int .i64 z.q, .slice z.A z.es.length z.c], fun k x h => by simp at h, (hin.slb.below hb1a).more hb1a.size, hb1.trans (hb1a.mono hb1.size)⟩)
    have CI := fun W (h2 : Slb W W.heap.size z.A z.es) => lsaValid_impl z W hle h2
    have CS := fun W (h2 : Slb W W.heap.size z.A z.es) => lsaValid_spec z W hle h2
    have HP := Lib.hid (fun (h : laB z.d = true) (k : Nat) => laB_part h k)
    have HF := Lib.hid (laB_self z.d)
    generalize hG : w1.heap.size = G at *
    obtain ⟨zo, zq, zes, zA, zc, zg⟩ := z
    dsimp only at *
    clear hin hb1 hb1a HB hokz
    cases hv : laB ⟨zo, zq, zes⟩ with
    | false =>
      rw [hv] at CI CS
      clear hv
      go_wp2_with fail
      refine (CI _ L1.out.le).mono ?_
      rintro e w2 ⟨rfl, hb2⟩
      have L2 := Lib.hid (L1.out.call hb2)
      clear hb2 L1
      obtain ⟨zx, x0, x1, x2, -, -, -⟩ := L2.out.box.three
      go_wp2_with fail
      refine (CS _ L2.out.le).mono ?_
      rintro e w3 ⟨rfl, hb3⟩
      have L3 := Lib.hid (L2.out.call hb3)
      clear hb3 L2 zx x0 x1 x2
      go_wp2_with fail
      go_ret
      exact ⟨ret_bool (by simp), L3.out.bel⟩
    | true =>
      rw [hv] at CI CS
      have HV := Lib.hid hv
      clear hv
      go_wp2_with fail
      refine (CI _ L1.out.le).mono ?_
      rintro e w2 ⟨rfl, hb2⟩
      have L2 := Lib.hid (L1.out.call hb2)
      clear hb2 L1
      obtain ⟨zx, x0, x1, x2, -, -, -⟩ := L2.out.box.three
      go_wp2_with fail
      refine (CS _ L2.out.le).mono ?_
      clear CS
      rintro e w3 ⟨rfl, hb3⟩
      have L3 := Lib.hid (L2.out.call hb3)
      clear hb3 L2 zx x0 x1 x2
      obtain ⟨zx, x0, x1, x2, -, -, -⟩ := L3.out.box.three
      by_cases hz : zes.length = 0
      · have hz' : ((zes.length : Int) == 0) = true := by simp [hz]
        go_wp2_with fail
        go_ret
        exact ⟨ret_bool (by simp), L3.out.bel⟩
      · have hz' : ((zes.length : Int) == 0) = false := beq_eq_false_iff_ne.2 (by omega)
        obtain ⟨b0, off, e0, hbb, -, -⟩ := L3.out.le 0 _ (List.getElem?_eq_getElem (show 0 < zes.length by omega))
        subst e0
        obtain ⟨k, hk⟩ : ∃ k, len' % zes.length = k := ⟨_, rfl⟩
        have hkl : k < zes.length := by rw [← hk]; exact Nat.mod_lt _ (by omega)
        have hq : Int.tmod (len' : Int) (zes.length : Int) = (k : Int) := by rw [Int.tmod_eq_emod_of_nonneg (by omega), ← hk]; exact (Int.natCast_emod _ _).symm
        have hwr : IntKind.i64.wrap ((k : Int) + 1) = ((k + 1 : Nat) : Int) := by simp [IntKind.wrap, IntKind.bits, IntKind.signed]; omega
        have hwk : IntKind.i64.wrap (k : Int) = (k : Int) := IntWalk.i64_in _ (by omega)
        have hz0 : ¬ (zes.length : Int) = 0 := by omega
        have hkc : k ≤ zc := by omega
        have hk0 : (0 : Int) ≤ (k : Int) + 1 := by omega
        have hk1 : (k : Int) + 1 ≤ (zes.length : Int) := by omega
        obtain ⟨ps, hps⟩ : ∃ ps, ps = zes.take k ++ zes.drop (k + 1) := ⟨_, rfl⟩
        have HPK : Hid (laB ⟨zo, zq, ps⟩ = true) := Lib.hid (by rw [hps]; exact HP.out HV.out k)
        have HPS := Lib.hid hps
        clear hps
        have HT0 := Lib.hid (L3.out.le.take k)
        have HD0 := Lib.hid (L3.out.le.drop (k + 1))
        clear hk
        obtain ⟨i0, hi, hiz0, hiz1, hiz2⟩ := info_parts infoEnd
        have A4 := Lib.hid (Box.new w3 29 #[.int .i64 zo, .int .i64 zq, .slice (some ⟨b0, off, none⟩) zes.length zc])
        have B4 := Lib.hid (show Below w3.heap.size w3 (w3.alloc (.cells #[.int .i64 zo, .int .i64 zq, .slice (some ⟨b0, off, none⟩) zes.length zc] 29)) by (repeat (first | exact Below.refl _ _ | (refine Below.alloc ?_ (by first | exact Nat.le_refl _ | omega | (simp; done) | (simp; omega)) _) | (refine Below.setCell ?_ (by first | exact Nat.le_refl _ | omega | (simp; done) | (simp; omega)) _) | exact Below.drew ‹_›)))
        have hs4 : w3.heap.size < (w3.alloc (.cells #[.int .i64 zo, .int .i64 zq, .slice (some ⟨b0, off, none⟩) zes.length zc] 29)).heap.size := by simp
        go_upto_region 10 with fail
        generalize w3.alloc (.cells #[.int .i64 zo, .int .i64 zq, .slice (some ⟨b0, off, none⟩) zes.length zc] 29) = w4 at *
        have L4 := Lib.hid (L3.out.call B4.out)
        have HT := Lib.hid ((HT0.out.below B4.out))
        have HD := Lib.hid ((HD0.out.below B4.out))
        have hGw : G < w3.heap.size := zx
        clear zx x0 x1 x2 HT0 HD0
        obtain ⟨zx, x0, x1, x2, -, -, -⟩ := L4.out.box.three
        have hX := fun (x : ExtB w3.heap.size w4.drew) (bb oo : Nat) (h : bb < w3.heap.size) => (show x.w.cell? ⟨bb, oo, none⟩ = w4.cell? ⟨bb, oo, none⟩ from x.cell bb oo h)
        by_cases hcap : zc = k + 1
        · subst hcap
          refine wp_region_stg 14 w3.heap.size (by kernel_rfl) (by kernel_rfl) ?_
          refine stg_seg _ 5 [1, 2, 3, 4, 6, 7, 8, 9, 10] (by kernel_rfl) (by kernel_rfl) (by kernel_rfl) (by kernel_rfl) ?_
          (simp only [List.map_cons, List.map_nil, List.getElem?_cons_zero, List.getElem?_cons_succ, Option.getD_some]); (repeat (go_big_quiet_step (fail))); (refine wpQuiet_nil ?_)
          refine stg_one _ 4 0 (by kernel_rfl) (by rfl) (by kernel_rfl) (by rfl) ?_
          go_wp2_with fail
          refine ⟨(show Below w3.heap.size w4.drew (w4.drew.alloc (.cells #[] 48)) from (Below.refl w3.heap.size w4.drew).alloc (Nat.le_of_lt hs4) _), w3.heap.size, Nat.le_refl _, ?_⟩
          have hM : ((w4.alloc (.cells #[] 48)).drew).ownsRow w4.heap.size 48 2 (.slice (some ⟨w4.heap.size, 0, none⟩) 0 0) 0 [] := World.ownsRow_made (base := w4.heap.size) (e := 48) (size := 2) w4 #[] 0 (Nat.le_refl _) (by unfold maxLen; omega) rfl
          have BM := Lib.hid (show Below w3.heap.size w4 ((w4.alloc (.cells #[] 48)).drew) from ((Below.refl w3.heap.size w4).alloc (Nat.le_of_lt hs4) _).drew)
          have hsm : w4.heap.size < ((w4.alloc (.cells #[] 48)).drew).heap.size := by simp
          refine stg_one _ 3 5 (by kernel_rfl) (by rfl) (by kernel_rfl) (by rfl) ?_
          refine wp_append_own _ _ _ 27 rfl w4.heap.size 48 i0 _ 2 16 Try.underlying27 hi hiz0 hiz1 hiz2 rfl (by decide) _ 0 [] rfl hM ⟨b0, off, none⟩ k (k + 1) (flatB (zes.take k)) rfl (by rw [flatB_len, List.length_take]; congr 1; omega) ((HT.out.below BM.out).flat) (flatB_one _) (by unfold maxLen; omega) (by omega) (by omega) ?_
          intro v5 w5 hown5 hgrow5 _
          rw [List.nil_append, Nat.zero_add] at hown5
          have B5 := Lib.hid (BM.out.grown hgrow5 (by omega) (fun j e => by cases e; exact Nat.le_of_lt hs4))
          have hs5 := hgrow5.size
          refine ⟨(Below.refl w3.heap.size _).grown hgrow5 (by omega) (fun j e => by cases e; exact Nat.le_of_lt hs4), w3.heap.size, Nat.le_refl _, ?_⟩
          have O5 := Lib.hid hown5
          have hgrow5x := hgrow5
          have hl5 := hown5.lt
          clear hown5 hgrow5 hM hX
          refine stg_one _ 2 11 (by kernel_rfl) (by rfl) (by kernel_rfl) (by rfl) ?_
          have HA5 : Hid (Box w5 w3.heap.size 29 #[.int .i64 zo, .int .i64 zq, .slice (some ⟨b0, off, none⟩) zes.length (k + 1)]) := Lib.hid ((hgrow5x.block _ (by omega) (fun e => Nat.ne_of_lt hs4 (Option.some.inj (show some w3.heap.size = some w4.heap.size from e)))).trans (Box.alloc A4.out _))
          refine wp_append_own _ _ _ 27 rfl w4.heap.size 48 i0 _ 2 16 Try.underlying27 hi hiz0 hiz1 hiz2 rfl (by decide) v5 k (flatB (zes.take k)) rfl O5.out ⟨b0, off, none⟩ 0 0 (flatB (zes.drop (k + 1))) rfl (by rw [List.drop_eq_nil_of_le (by omega)]; rfl) (by rw [List.drop_eq_nil_of_le (by omega)]; intro j u h; simp [flatB] at h) (flatB_one _) (by unfold maxLen; omega) (by omega) (by omega) ?_
          intro v6 w6 hown6 hgrow6 _
          rw [← flatB_append, ← HPS.out] at hown6
          have B6 := Lib.hid (B5.out.grown hgrow6 (by omega) (fun j e => by have := (hl5 j e).1; omega))
          refine ⟨(Below.refl w3.heap.size _).grown hgrow6 (by omega) (fun j e => by have := (hl5 j e).1; omega), w3.heap.size, Nat.le_refl _, ?_⟩
          have hs6 := hgrow6.size
          have A6 : Hid (Box w6 w3.heap.size 29 #[.int .i64 zo, .int .i64 zq, .slice (some ⟨b0, off, none⟩) zes.length (k + 1)]) := Lib.hid ((hgrow6.block _ (by omega) (fun e => by have := (hl5 _ e.symm).1; omega)).trans HA5.out)
          obtain ⟨A9, g9, c9, rfl, hg9, -, ho9, hc9⟩ := own_slicee hown6 (by omega)
          have O6 := Lib.hid ho9
          clear hown6 hgrow6 hl5 O5 ho9 hgrow5x
          go_simp
          refine stg_seg _ 1 [12] (by kernel_rfl) (by kernel_rfl) (by kernel_rfl) (by kernel_rfl) ?_
          (simp only [List.map_cons, List.map_nil, List.getElem?_cons_zero, List.getElem?_cons_succ, Option.getD_some]); (repeat (go_big_quiet_step (fail))); (refine wpQuiet_nil ?_)
          obtain ⟨z6, r0, r1, r2, q0, q1, q6⟩ := A6.out.three
          refine stg_one _ 0 13 (by kernel_rfl) (by rfl) (by kernel_rfl) (by rfl) ?_
          go_wp2_with fail
          refine ⟨(Below.refl w3.heap.size w6).setCell (p := ⟨w3.heap.size, 2, none⟩) (Nat.le_refl _) _, w3.heap.size, Nat.le_refl _, ?_⟩
          refine stg_end (by kernel_rfl) ?_
          have hw7 : (w6.setCell ⟨w3.heap.size, 2, none⟩ (.slice A9 ps.length c9)).heap.size = w6.heap.size := by simp
          have A7 : Hid (Box (w6.setCell ⟨w3.heap.size, 2, none⟩ (.slice A9 ps.length c9)) w3.heap.size 29 #[.int .i64 zo, .int .i64 zq, .slice A9 ps.length c9]) := Lib.hid (heap_set A6.out 2 _)
          have O7 := Lib.hid (O6.out.set_far (p := ⟨w3.heap.size, 2, none⟩) (by show g9 ≠ w3.heap.size; omega) (.slice A9 ps.length c9))
          have B7 := Lib.hid (B6.out.setCell (p := ⟨w3.heap.size, 2, none⟩) (Nat.le_refl _) (.slice A9 ps.length c9))
          generalize w6.setCell ⟨w3.heap.size, 2, none⟩ (.slice A9 ps.length c9) = w7 at *
          have G7 : Hid (Box w7 G 29 #[.int .i64 zo, .int .i64 zq, .slice (some ⟨b0, off, none⟩) zes.length (k + 1)]) := Lib.hid ((B7.out.block G hGw).trans L4.out.box)
          have W7 := Lib.hid (L4.out.bel.trans (B7.out.mono L3.out.bel.size))
          have hl7 : ps.length ≤ 2000000 := by rw [HPS.out]; simp; omega
          have hwz : w.heap.size ≤ w7.heap.size := W7.out.size
          have C9 := fun W (h : Slb W W.heap.size A9 ps) => lsaValid_impl ⟨zo, zq, ps, A9, c9, g9⟩ W hl7 h
          have CF := fun (Ab : Option Addr) (cb : Nat) W (h : Slb W W.heap.size Ab [⟨zo, 1⟩]) => lsaValid_impl ⟨zo, zq, [⟨zo, 1⟩], Ab, cb, 0⟩ W (by simp) h
          simp only [HPK.out, HF.out] at C9 CF
          generalize w3.heap.size = g3 at *
          clear L4 L3 CI HP HV HPK HF HT HD A6 O6 B6 B5 BM A4 B4 hw7 hs6 hs5 hsm zx x0 x1 x2 q6 z6 r0 r1 r2 q0 q1 HA5
          obtain ⟨zx, x0, x1, x2, -, -, -⟩ := G7.out.three
          have B8 : Hid (Below w7.heap.size w7 ((w7.alloc (.cells #[.int .i64 zo, .int .i64 zq, .slice (some ⟨w7.heap.size + 1, 0, none⟩) 1 1] 29)).alloc (.cells #[.int .i64 zo, .int .i64 1] 48))) := Lib.hid (by (repeat (first | exact Below.refl _ _ | (refine Below.alloc ?_ (by first | exact Nat.le_refl _ | omega | (simp; done) | (simp; omega)) _) | (refine Below.setCell ?_ (by first | exact Nat.le_refl _ | omega | (simp; done) | (simp; omega)) _) | exact Below.drew ‹_›)))
          have R8 : Hid (Box ((w7.alloc (.cells #[.int .i64 zo, .int .i64 zq, .slice (some ⟨w7.heap.size + 1, 0, none⟩) 1 1] 29)).alloc (.cells #[.int .i64 zo, .int .i64 1] 48)) w7.heap.size 29 #[.int .i64 zo, .int .i64 zq, .slice (some ⟨w7.heap.size + 1, 0, none⟩) 1 1]) := Lib.hid ((Box.new w7 _ _).alloc _)
          have E8 : Hid (Box ((w7.alloc (.cells #[.int .i64 zo, .int .i64 zq, .slice (some ⟨w7.heap.size + 1, 0, none⟩) 1 1] 29)).alloc (.cells #[.int .i64 zo, .int .i64 1] 48)) (w7.heap.size + 1) 48 #[.int .i64 zo, .int .i64 1]) := Lib.hid (by
            have hh := Box.new (w7.alloc (.cells #[.int .i64 zo, .int .i64 zq, .slice (some ⟨w7.heap.size + 1, 0, none⟩) 1 1] 29)) 48 #[.int .i64 zo, .int .i64 1]
            rw [World.size_alloc] at hh
            exact hh)
          go_upto_region 13 with fail
          generalize ((w7.alloc (.cells #[.int .i64 zo, .int .i64 zq, .slice (some ⟨w7.heap.size + 1, 0, none⟩) 1 1] 29)).alloc (.cells #[.int .i64 zo, .int .i64 1] 48)) = w8 at *
          have A8 := Lib.hid (A7.out.below B8.out A7.out.lt)
          have S8 : Hid (Slb w8 w8.heap.size A9 ps) := Lib.hid ((O7.out.slb.below B8.out).more B8.out.size)
          have T8 : Hid (Slb w8 w8.heap.size (some ⟨w7.heap.size + 1, 0, none⟩) [⟨zo, 1⟩]) := Lib.hid (fun j x hj => by
            have hj0 : j = 0 := by have := (List.getElem?_eq_some_iff.1 hj).1; simp at this; omega
            subst hj0
            simp at hj
            subst hj
            exact ⟨w7.heap.size + 1, 0, rfl, E8.out.lt, E8.out.cell 0, E8.out.cell 1⟩)
          have W8 := Lib.hid (W7.out.trans (B8.out.mono hwz))
          generalize w7.heap.size = g7 at *
          clear zx x0 x1 x2 A7 O7 B7 G7 B8 E8
          obtain ⟨zx, x0, x1, x2, -, -, -⟩ := A8.out.three
          obtain ⟨zy, y0, y1, y2, -, -, -⟩ := R8.out.three
          go_wp2_with fail
          refine (C9 _ S8.out).mono ?_
          clear C9
          rintro e wa ⟨rfl, hba⟩
          have Ra := Lib.hid (R8.out.below hba R8.out.lt)
          have Ta := Lib.hid ((T8.out.below hba).more hba.size)
          have Wa := Lib.hid (W8.out.trans (hba.mono W8.out.size))
          clear hba zx x0 x1 x2 zy y0 y1 y2 A8 R8 S8 T8
          obtain ⟨zy, y0, y1, y2, -, -, -⟩ := Ra.out.three
          go_wp2_with fail
          refine (CF _ _ _ Ta.out).mono ?_
          rintro e wb ⟨rfl, hbb⟩
          have Wb := Lib.hid (Wa.out.trans (hbb.mono Wa.out.size))
          clear hbb
          go_wp2_with fail
          go_ret
          exact ⟨ret_bool (by simp), Wb.out⟩

        · have hcap' : ¬ (zc : Nat) = k + 1 := hcap
          refine wp_region_stg 14 w3.heap.size (by kernel_rfl) (by kernel_rfl) ?_
          refine stg_seg _ 5 [1, 2, 3, 4, 6, 7, 8, 9, 10] (by kernel_rfl) (by kernel_rfl) (by kernel_rfl) (by kernel_rfl) ?_
          (simp only [List.map_cons, List.map_nil, List.getElem?_cons_zero, List.getElem?_cons_succ, Option.getD_some]); (repeat (go_big_quiet_step (fail))); (refine wpQuiet_nil ?_)
          refine stg_one _ 4 0 (by kernel_rfl) (by rfl) (by kernel_rfl) (by rfl) ?_
          go_wp2_with fail
          refine ⟨(show Below w3.heap.size w4.drew (w4.drew.alloc (.cells #[] 48)) from (Below.refl w3.heap.size w4.drew).alloc (Nat.le_of_lt hs4) _), w3.heap.size, Nat.le_refl _, ?_⟩
          have hM : ((w4.alloc (.cells #[] 48)).drew).ownsRow w4.heap.size 48 2 (.slice (some ⟨w4.heap.size, 0, none⟩) 0 0) 0 [] := World.ownsRow_made (base := w4.heap.size) (e := 48) (size := 2) w4 #[] 0 (Nat.le_refl _) (by unfold maxLen; omega) rfl
          have BM := Lib.hid (show Below w3.heap.size w4 ((w4.alloc (.cells #[] 48)).drew) from ((Below.refl w3.heap.size w4).alloc (Nat.le_of_lt hs4) _).drew)
          have hsm : w4.heap.size < ((w4.alloc (.cells #[] 48)).drew).heap.size := by simp
          refine stg_one _ 3 5 (by kernel_rfl) (by rfl) (by kernel_rfl) (by rfl) ?_
          refine wp_append_own _ _ _ 27 rfl w4.heap.size 48 i0 _ 2 16 Try.underlying27 hi hiz0 hiz1 hiz2 rfl (by decide) _ 0 [] rfl hM ⟨b0, off, none⟩ k zc (flatB (zes.take k)) rfl (by rw [flatB_len, List.length_take]; congr 1; omega) ((HT.out.below BM.out).flat) (flatB_one _) (by unfold maxLen; omega) (by omega) (by omega) ?_
          intro v5 w5 hown5 hgrow5 _
          rw [List.nil_append, Nat.zero_add] at hown5
          have B5 := Lib.hid (BM.out.grown hgrow5 (by omega) (fun j e => by cases e; exact Nat.le_of_lt hs4))
          have hs5 := hgrow5.size
          refine ⟨(Below.refl w3.heap.size _).grown hgrow5 (by omega) (fun j e => by cases e; exact Nat.le_of_lt hs4), w3.heap.size, Nat.le_refl _, ?_⟩
          have O5 := Lib.hid hown5
          have hgrow5x := hgrow5
          have hl5 := hown5.lt
          clear hown5 hgrow5 hM hX
          refine stg_one _ 2 11 (by kernel_rfl) (by rfl) (by kernel_rfl) (by rfl) ?_
          have HA5 : Hid (Box w5 w3.heap.size 29 #[.int .i64 zo, .int .i64 zq, .slice (some ⟨b0, off, none⟩) zes.length zc]) := Lib.hid ((hgrow5x.block _ (by omega) (fun e => Nat.ne_of_lt hs4 (Option.some.inj (show some w3.heap.size = some w4.heap.size from e)))).trans (Box.alloc A4.out _))
          refine wp_append_own _ _ _ 27 rfl w4.heap.size 48 i0 _ 2 16 Try.underlying27 hi hiz0 hiz1 hiz2 rfl (by decide) v5 k (flatB (zes.take k)) rfl O5.out ⟨b0, off + (k + 1) * 2, none⟩ (zes.length - (k + 1)) (zc - (k + 1)) (flatB (zes.drop (k + 1))) rfl (by rw [flatB_len, List.length_drop]) ((HD.out.below B5.out).flat) (flatB_one _) (by unfold maxLen; omega) (by omega) (by omega) ?_
          intro v6 w6 hown6 hgrow6 _
          rw [← flatB_append, ← HPS.out] at hown6
          have B6 := Lib.hid (B5.out.grown hgrow6 (by omega) (fun j e => by have := (hl5 j e).1; omega))
          refine ⟨(Below.refl w3.heap.size _).grown hgrow6 (by omega) (fun j e => by have := (hl5 j e).1; omega), w3.heap.size, Nat.le_refl _, ?_⟩
          have hs6 := hgrow6.size
          have A6 : Hid (Box w6 w3.heap.size 29 #[.int .i64 zo, .int .i64 zq, .slice (some ⟨b0, off, none⟩) zes.length zc]) := Lib.hid ((hgrow6.block _ (by omega) (fun e => by have := (hl5 _ e.symm).1; omega)).trans HA5.out)
          obtain ⟨A9, g9, c9, rfl, hg9, -, ho9, hc9⟩ := own_slicee hown6 (by omega)
          have O6 := Lib.hid ho9
          clear hown6 hgrow6 hl5 O5 ho9 hgrow5x
          go_simp
          refine stg_seg _ 1 [12] (by kernel_rfl) (by kernel_rfl) (by kernel_rfl) (by kernel_rfl) ?_
          (simp only [List.map_cons, List.map_nil, List.getElem?_cons_zero, List.getElem?_cons_succ, Option.getD_some]); (repeat (go_big_quiet_step (fail))); (refine wpQuiet_nil ?_)
          obtain ⟨z6, r0, r1, r2, q0, q1, q6⟩ := A6.out.three
          refine stg_one _ 0 13 (by kernel_rfl) (by rfl) (by kernel_rfl) (by rfl) ?_
          go_wp2_with fail
          refine ⟨(Below.refl w3.heap.size w6).setCell (p := ⟨w3.heap.size, 2, none⟩) (Nat.le_refl _) _, w3.heap.size, Nat.le_refl _, ?_⟩
          refine stg_end (by kernel_rfl) ?_
          have hw7 : (w6.setCell ⟨w3.heap.size, 2, none⟩ (.slice A9 ps.length c9)).heap.size = w6.heap.size := by simp
          have A7 : Hid (Box (w6.setCell ⟨w3.heap.size, 2, none⟩ (.slice A9 ps.length c9)) w3.heap.size 29 #[.int .i64 zo, .int .i64 zq, .slice A9 ps.length c9]) := Lib.hid (heap_set A6.out 2 _)
          have O7 := Lib.hid (O6.out.set_far (p := ⟨w3.heap.size, 2, none⟩) (by show g9 ≠ w3.heap.size; omega) (.slice A9 ps.length c9))
          have B7 := Lib.hid (B6.out.setCell (p := ⟨w3.heap.size, 2, none⟩) (Nat.le_refl _) (.slice A9 ps.length c9))
          generalize w6.setCell ⟨w3.heap.size, 2, none⟩ (.slice A9 ps.length c9) = w7 at *
          have G7 : Hid (Box w7 G 29 #[.int .i64 zo, .int .i64 zq, .slice (some ⟨b0, off, none⟩) zes.length zc]) := Lib.hid ((B7.out.block G hGw).trans L4.out.box)
          have W7 := Lib.hid (L4.out.bel.trans (B7.out.mono L3.out.bel.size))
          have hl7 : ps.length ≤ 2000000 := by rw [HPS.out]; simp; omega
          have hwz : w.heap.size ≤ w7.heap.size := W7.out.size
          have C9 := fun W (h : Slb W W.heap.size A9 ps) => lsaValid_impl ⟨zo, zq, ps, A9, c9, g9⟩ W hl7 h
          have CF := fun (Ab : Option Addr) (cb : Nat) W (h : Slb W W.heap.size Ab [⟨zo, 1⟩]) => lsaValid_impl ⟨zo, zq, [⟨zo, 1⟩], Ab, cb, 0⟩ W (by simp) h
          simp only [HPK.out, HF.out] at C9 CF
          generalize w3.heap.size = g3 at *
          clear L4 L3 CI HP HV HPK HF HT HD A6 O6 B6 B5 BM A4 B4 hw7 hs6 hs5 hsm zx x0 x1 x2 q6 z6 r0 r1 r2 q0 q1 HA5
          obtain ⟨zx, x0, x1, x2, -, -, -⟩ := G7.out.three
          have B8 : Hid (Below w7.heap.size w7 ((w7.alloc (.cells #[.int .i64 zo, .int .i64 zq, .slice (some ⟨w7.heap.size + 1, 0, none⟩) 1 1] 29)).alloc (.cells #[.int .i64 zo, .int .i64 1] 48))) := Lib.hid (by (repeat (first | exact Below.refl _ _ | (refine Below.alloc ?_ (by first | exact Nat.le_refl _ | omega | (simp; done) | (simp; omega)) _) | (refine Below.setCell ?_ (by first | exact Nat.le_refl _ | omega | (simp; done) | (simp; omega)) _) | exact Below.drew ‹_›)))
          have R8 : Hid (Box ((w7.alloc (.cells #[.int .i64 zo, .int .i64 zq, .slice (some ⟨w7.heap.size + 1, 0, none⟩) 1 1] 29)).alloc (.cells #[.int .i64 zo, .int .i64 1] 48)) w7.heap.size 29 #[.int .i64 zo, .int .i64 zq, .slice (some ⟨w7.heap.size + 1, 0, none⟩) 1 1]) := Lib.hid ((Box.new w7 _ _).alloc _)
          have E8 : Hid (Box ((w7.alloc (.cells #[.int .i64 zo, .int .i64 zq, .slice (some ⟨w7.heap.size + 1, 0, none⟩) 1 1] 29)).alloc (.cells #[.int .i64 zo, .int .i64 1] 48)) (w7.heap.size + 1) 48 #[.int .i64 zo, .int .i64 1]) := Lib.hid (by
            have hh := Box.new (w7.alloc (.cells #[.int .i64 zo, .int .i64 zq, .slice (some ⟨w7.heap.size + 1, 0, none⟩) 1 1] 29)) 48 #[.int .i64 zo, .int .i64 1]
            rw [World.size_alloc] at hh
            exact hh)
          go_upto_region 13 with fail
          generalize ((w7.alloc (.cells #[.int .i64 zo, .int .i64 zq, .slice (some ⟨w7.heap.size + 1, 0, none⟩) 1 1] 29)).alloc (.cells #[.int .i64 zo, .int .i64 1] 48)) = w8 at *
          have A8 := Lib.hid (A7.out.below B8.out A7.out.lt)
          have S8 : Hid (Slb w8 w8.heap.size A9 ps) := Lib.hid ((O7.out.slb.below B8.out).more B8.out.size)
          have T8 : Hid (Slb w8 w8.heap.size (some ⟨w7.heap.size + 1, 0, none⟩) [⟨zo, 1⟩]) := Lib.hid (fun j x hj => by
            have hj0 : j = 0 := by have := (List.getElem?_eq_some_iff.1 hj).1; simp at this; omega
            subst hj0
            simp at hj
            subst hj
            exact ⟨w7.heap.size + 1, 0, rfl, E8.out.lt, E8.out.cell 0, E8.out.cell 1⟩)
          have W8 := Lib.hid (W7.out.trans (B8.out.mono hwz))
          generalize w7.heap.size = g7 at *
          clear zx x0 x1 x2 A7 O7 B7 G7 B8 E8
          obtain ⟨zx, x0, x1, x2, -, -, -⟩ := A8.out.three
          obtain ⟨zy, y0, y1, y2, -, -, -⟩ := R8.out.three
          go_wp2_with fail
          refine (C9 _ S8.out).mono ?_
          clear C9
          rintro e wa ⟨rfl, hba⟩
          have Ra := Lib.hid (R8.out.below hba R8.out.lt)
          have Ta := Lib.hid ((T8.out.below hba).more hba.size)
          have Wa := Lib.hid (W8.out.trans (hba.mono W8.out.size))
          clear hba zx x0 x1 x2 zy y0 y1 y2 A8 R8 S8 T8
          obtain ⟨zy, y0, y1, y2, -, -, -⟩ := Ra.out.three
          go_wp2_with fail
          refine (CF _ _ _ Ta.out).mono ?_
          rintro e wb ⟨rfl, hbb⟩
          have Wb := Lib.hid (Wa.out.trans (hbb.mono Wa.out.size))
          clear hbb
          go_wp2_with fail
          go_ret
          exact ⟨ret_bool (by simp), Wb.out⟩


  · by_cases hl1 : len ≤ 1048576
    · have hl2 : 1048576 < len' := by omega
      clear hl
      go_enter Try.func6, Try.ntmps6
      go_wp2
      go_ret
      exact ⟨rfl, by (repeat (first | exact Below.refl _ _ | (refine Below.alloc ?_ (by first | exact Nat.le_refl _ | omega | (simp; done) | (simp; omega)) _) | (refine Below.setCell ?_ (by first | exact Nat.le_refl _ | omega | (simp; done) | (simp; omega)) _) | exact Below.drew ‹_›))⟩
    · clear hl
      go_enter Try.func6, Try.ntmps6
      go_wp2
      go_ret
      exact ⟨rfl, by (repeat (first | exact Below.refl _ _ | (refine Below.alloc ?_ (by first | exact Nat.le_refl _ | omega | (simp; done) | (simp; omega)) _) | (refine Below.setCell ?_ (by first | exact Nat.le_refl _ | omega | (simp; done) | (simp; omega)) _) | exact Below.drew ‹_›))⟩

end Go.Proofs.Ytimebipgiicmiaa
