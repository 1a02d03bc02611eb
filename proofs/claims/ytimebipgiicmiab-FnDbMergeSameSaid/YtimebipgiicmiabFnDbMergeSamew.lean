/-
  The walk of FnDbMergeSame over this seat.
-/
import Derived.Test.YtimebipgiicmiabLm
namespace Go.Proofs.Ytimebipgiicmiab
open Go.RowKit Go.Maps

set_option maxRecDepth 100000 in
set_option maxHeartbeats 1600000 in
theorem fnDbMergeSame_walk (A : Option Addr) (len c : Nat) (f : Nat → Int) (w : World) (hlc : len ≤ c) (hc : c ≤ maxLen) (hB : Byt w w.heap.size A len f) :
   Calls Try.prog 6 #[.slice A len c] w fun e w' => e = .returned (.bool true) ∧ Below w.heap.size w w' := by
  have HB := Lib.hid hB
  clear hB
  by_cases hl : len ≤ 1048576
  · go_enter Try.func6, Try.ntmps6
    go_wp2_with fail
    refine (drawDbMerge_any A len c f w hlc hc HB.out).mono ?_
    rintro e w1 ⟨zs, A1, c1, os, B1, cb, b0, rfl, hl9, ho9, hze8, hoe8, hzi, hb0, hoi, -, -, hb1⟩
    have hze : ∀ x ∈ zs, x.es.length ≤ 2000000 := fun x hx => by have := hze8 x hx; omega
    have hoe : ∀ x ∈ os, x.es.length ≤ 2000000 := fun x hx => by have := hoe8 x hx; omega
    have L1 := Lib.hid (show LM w A1 zs B1 os w1 from ⟨hzi.slz hb1.size, (hoi.down hb0).slz hb1.size, hb1⟩)
    clear hzi hoi hb0 hb1 hze8 hoe8 HB
    have CI := fun W (h1 : Slz W W.heap.size A1 zs) (h2 : Slz W W.heap.size B1 os) => dbMerge_impl A1 zs c1 B1 os cb W (by omega) hze (by omega) hoe h1 h2
    have CS := fun W (h1 : Slz W W.heap.size A1 zs) (h2 : Slz W W.heap.size B1 os) => dbMerge_spec A1 zs c1 B1 os cb W (by omega) hze (by omega) hoe h1 h2
    have HSH := Lib.hid (fun (ys : List Lz) (h : datL ys = mergeD (datL zs) (datL os)) => merge_short h)
    obtain ⟨ds, hds⟩ : ∃ ds, mergeD (datL zs) (datL os) = ds := ⟨_, rfl⟩
    rw [hds] at CI CS HSH
    have HDS := Lib.hid hds
    clear hds
    cases hv : (dbB (datL zs) && dbB (datL os)) with
    | false =>
      rw [hv] at CI CS
      clear hv
      go_wp2_with fail
      refine (CI _ L1.out.sl L1.out.so).mono ?_
      clear CI
      rintro e w2 ⟨ys, A2, c2, rfl, hd2, hz2, hb2⟩
      have L2 := Lib.hid (L1.out.call hb2)
      have Y2 := Lib.hid (hz2.slz hb2.size)
      obtain ⟨hyl, hye8, hyv⟩ := HSH.out ys hd2
      have hye : ∀ x ∈ ys, x.es.length ≤ 2000000 := fun x hx => by have := hye8 x hx; omega
      clear hb2 hz2 L1 hye8
      go_wp2_with fail
      refine (CS _ L2.out.sl L2.out.so).mono ?_
      clear CS
      rintro e w3 ⟨vs, A3, c3, rfl, hd3, hz3, hb3⟩
      have L3 := Lib.hid (L2.out.call hb3)
      have Y3 := Lib.hid (Y2.out.step2 hb3)
      have V3 := Lib.hid (hz3.slz hb3.size)
      have hsame : datL ys = datL vs := hd2.trans hd3.symm
      have D2 := Lib.hid hd2
      clear hb3 hz3 L2 Y2 hd2 hd3
      have CM := fun W (h1 : Slz W W.heap.size A2 ys) (h2 : Slz W W.heap.size A3 vs) => sameDb_any A2 A3 ys vs c2 c3 W (by omega) hye h1 h2
      rw [decide_eq_true hsame] at CM
      clear hsame
      go_wp2_with fail
      refine (CM _ Y3.out V3.out).mono ?_
      rintro e w4 ⟨rfl, hb4⟩
      have L4 := Lib.hid (L3.out.call hb4)
      have Y4 := Lib.hid (Y3.out.step2 hb4)
      have V4 := Lib.hid (V3.out.step2 hb4)
      clear hb4 L3 Y3 V3
      go_wp2_with fail
      refine (CM _ Y4.out V4.out).mono ?_
      rintro e w5 ⟨rfl, hb5⟩
      have L5 := Lib.hid (L4.out.call hb5)
      clear hb5
      go_wp2_with fail
      go_ret
      exact ⟨ret_bool (by simp), L5.out.bel⟩

    | true =>
      rw [hv] at CI CS
      have hv2 : dbB (datL zs) = true ∧ dbB (datL os) = true := by simpa using hv
      obtain ⟨hv1, hv2⟩ := hv2
      have HME : Hid (ds = mergeL (datL zs) (datL os)) := Lib.hid (by rw [← HDS.out, mergeD_valid hv1 hv2])
      have hs1 := (dbB_inv hv1).2
      have hs2 := (dbB_inv hv2).2
      clear hv
      go_wp2_with fail
      refine (CI _ L1.out.sl L1.out.so).mono ?_
      clear CI
      rintro e w2 ⟨ys, A2, c2, rfl, hd2, hz2, hb2⟩
      have L2 := Lib.hid (L1.out.call hb2)
      have Y2 := Lib.hid (hz2.slz hb2.size)
      obtain ⟨hyl, hye8, hyv⟩ := HSH.out ys hd2
      have hye : ∀ x ∈ ys, x.es.length ≤ 2000000 := fun x hx => by have := hye8 x hx; omega
      clear hb2 hz2 L1 hye8
      go_wp2_with fail
      refine (CS _ L2.out.sl L2.out.so).mono ?_
      clear CS
      rintro e w3 ⟨vs, A3, c3, rfl, hd3, hz3, hb3⟩
      have L3 := Lib.hid (L2.out.call hb3)
      have Y3 := Lib.hid (Y2.out.step2 hb3)
      have V3 := Lib.hid (hz3.slz hb3.size)
      have hsame : datL ys = datL vs := hd2.trans hd3.symm
      have D2 := Lib.hid hd2
      clear hb3 hz3 L2 Y2 hd2 hd3
      have CM := fun W (h1 : Slz W W.heap.size A2 ys) (h2 : Slz W W.heap.size A3 vs) => sameDb_any A2 A3 ys vs c2 c3 W (by omega) hye h1 h2
      rw [decide_eq_true hsame] at CM
      clear hsame
      go_wp2_with fail
      refine (CM _ Y3.out V3.out).mono ?_
      rintro e w4 ⟨rfl, hb4⟩
      have L4 := Lib.hid (L3.out.call hb4)
      have Y4 := Lib.hid (Y3.out.step2 hb4)
      have V4 := Lib.hid (V3.out.step2 hb4)
      clear hb4 L3 Y3 V3
      have e1 : mergeD (datL zs) (datL zs) = datL zs := by rw [mergeD_valid hv1 hv1]; exact merge_self hs1
      have e2 : mergeD (datL ys) (datL os) = datL ys := by rw [mergeD_valid hyv hv2, D2.out, HME.out]; exact merge_again hs1 hs2
      have CX := fun W (h1 : Slz W W.heap.size A1 zs) (h2 : Slz W W.heap.size A1 zs) => dbMerge_impl A1 zs c1 A1 zs c1 W (by omega) hze (by omega) hze h1 h2
      have CY := fun W (h1 : Slz W W.heap.size A2 ys) (h2 : Slz W W.heap.size B1 os) => dbMerge_impl A2 ys c2 B1 os cb W (by omega) hye (by omega) hoe h1 h2
      rw [e1, hv1] at CX
      rw [e2, hyv, hv2] at CY
      clear e1 e2
      go_wp2_with fail
      refine (CX _ L4.out.sl L4.out.sl).mono ?_
      clear CX
      rintro e w5 ⟨xs, A5, c5, rfl, hd5, hz5, hb5⟩
      have L5 := Lib.hid (L4.out.call hb5)
      have Y5 := Lib.hid (Y4.out.step2 hb5)
      have X5 := Lib.hid (hz5.slz hb5.size)
      have hxl9 : xs.length ≤ 9 := by
        have := congrArg List.length hd5
        simp [datL] at this
        omega
      have hxe : ∀ x ∈ xs, x.es.length ≤ 2000000 := fun x hx => by
        have := (db_short (zs := xs) (by rw [hd5]; exact hv1)).2 x hx
        omega
      have CD := fun W (h1 : Slz W W.heap.size A5 xs) (h2 : Slz W W.heap.size A1 zs) => sameDb_any A5 A1 xs zs c5 c1 W (by omega) hxe h1 h2
      rw [decide_eq_true hd5] at CD
      clear hb5 hz5 hd5 L4 Y4 V4
      go_wp2_with fail
      refine (CY _ Y5.out L5.out.so).mono ?_
      clear CY
      rintro e w6 ⟨us, A6, c6, rfl, hd6, hz6, hb6⟩
      have L6 := Lib.hid (L5.out.call hb6)
      have Y6 := Lib.hid (Y5.out.step2 hb6)
      have X6 := Lib.hid (X5.out.step2 hb6)
      have U6 := Lib.hid (hz6.slz hb6.size)
      have hul9 : us.length ≤ 9 := by
        have := congrArg List.length hd6
        simp [datL] at this
        omega
      have hue : ∀ x ∈ us, x.es.length ≤ 2000000 := fun x hx => by
        have := (db_short (zs := us) (by rw [hd6]; exact hyv)).2 x hx
        omega
      have CE := fun W (h1 : Slz W W.heap.size A6 us) (h2 : Slz W W.heap.size A2 ys) => sameDb_any A6 A2 us ys c6 c2 W (by omega) hue h1 h2
      rw [decide_eq_true hd6] at CE
      clear hb6 hz6 hd6 L5 Y5 X5
      go_wp2_with fail
      refine (CD _ X6.out L6.out.sl).mono ?_
      clear CD
      rintro e w7 ⟨rfl, hb7⟩
      have L7 := Lib.hid (L6.out.call hb7)
      have Y7 := Lib.hid (Y6.out.step2 hb7)
      have U7 := Lib.hid (U6.out.step2 hb7)
      clear hb7 L6 Y6 U6 X6
      go_wp2_with fail
      refine (CE _ U7.out Y7.out).mono ?_
      rintro e w8 ⟨rfl, hb8⟩
      have L8 := Lib.hid (L7.out.call hb8)
      clear hb8
      go_wp2_with fail
      go_ret
      exact ⟨ret_bool (by simp), L8.out.bel⟩

  · go_enter Try.func6, Try.ntmps6
    go_wp2
    go_ret
    exact ⟨rfl, by (repeat (first | exact Below.refl _ _ | (refine Below.alloc ?_ (by first | exact Nat.le_refl _ | omega | (simp; done) | (simp; omega)) _) | (refine Below.setCell ?_ (by first | exact Nat.le_refl _ | omega | (simp; done) | (simp; omega)) _) | exact Below.drew ‹_›))⟩

end Go.Proofs.Ytimebipgiicmiab
