/-
  The walk of FnDbMissingNone over this seat.
-/
import Derived.Test.YtimebipgiicmiabLm
namespace Go.Proofs.Ytimebipgiicmiab
open Go.RowKit Go.Maps

set_option maxRecDepth 100000 in
set_option maxHeartbeats 1600000 in
theorem fnDbMissingNone_walk (A : Option Addr) (len c : Nat) (f : Nat → Int) (w : World) (hlc : len ≤ c) (hc : c ≤ maxLen) (hB : Byt w w.heap.size A len f) :
   Calls Try.prog 10 #[.slice A len c] w fun e w' => e = .returned (.bool true) ∧ Below w.heap.size w w' := by
  have HB := Lib.hid hB
  clear hB
  by_cases hl : len ≤ 1048576
  · go_enter Try.func10, Try.ntmps10
    go_wp2_with fail
    refine (drawDbMissing_any A len c f w hlc hc HB.out).mono ?_
    rintro e w1 ⟨zs, A1, c1, os, B1, cb, b0, rfl, hl9, ho9, hze8, hoe8, hzi, hb0, hoi, -, -, hb1⟩
    have hze : ∀ x ∈ zs, x.es.length ≤ 2000000 := fun x hx => by have := hze8 x hx; omega
    have hoe : ∀ x ∈ os, x.es.length ≤ 2000000 := fun x hx => by have := hoe8 x hx; omega
    have L1 := Lib.hid (show LM w A1 zs B1 os w1 from ⟨hzi.slz hb1.size, (hoi.down hb0).slz hb1.size, hb1⟩)
    clear hzi hoi hb0 hb1 hze8 hoe8 HB
    have CI := fun W (h1 : Slz W W.heap.size A1 zs) (h2 : Slz W W.heap.size B1 os) => dbMissing_impl A1 zs c1 B1 os cb W (by omega) hze (by omega) hoe h1 h2
    have CS := fun W (h1 : Slz W W.heap.size A1 zs) (h2 : Slz W W.heap.size B1 os) => dbMissing_spec A1 zs c1 B1 os cb W (by omega) hze (by omega) hoe h1 h2
    have CV1 := fun W (h : Slz W W.heap.size A1 zs) => dbValid_spec A1 zs c1 W (by omega) hze h
    have CV2 := fun W (h : Slz W W.heap.size B1 os) => dbValid_spec B1 os cb W (by omega) hoe h
    have hxl := missD_short (datL zs) (datL os)
    obtain ⟨xs, hxs⟩ : ∃ xs, missD (datL zs) (datL os) = xs := ⟨_, rfl⟩
    rw [hxs] at CI CS hxl
    have HXS := Lib.hid hxs
    clear hxs
    go_wp2_with fail
    refine (CI _ L1.out.sl L1.out.so).mono ?_
    clear CI
    rintro e w2 ⟨A2, g2, c2, rfl, -, ho2, hb2⟩
    have L2 := Lib.hid (L1.out.call hb2)
    have X2 := Lib.hid ho2
    clear hb2 ho2 L1
    go_wp2_with fail
    refine (CS _ L2.out.sl L2.out.so).mono ?_
    clear CS
    rintro e w3 ⟨A3, g3, c3, rfl, -, ho3, hb3⟩
    have L3 := Lib.hid (L2.out.call hb3)
    have X3 := Lib.hid (X2.out.below hb3)
    have V3 := Lib.hid ho3
    clear hb3 ho3 L2 X2
    have CM := fun W (h1 : Own1i W A2 g2 xs) (h2 : Own1i W A3 g3 xs) => sameInts_same A2 A3 xs c2 c3 W (by omega) h1.sli h2.sli
    go_wp2_with fail
    refine (CM _ X3.out V3.out).mono ?_
    rintro e w4 ⟨rfl, hb4⟩
    have L4 := Lib.hid (L3.out.call hb4)
    have X4 := Lib.hid (X3.out.below hb4)
    have V4 := Lib.hid (V3.out.below hb4)
    clear hb4 L3 X3 V3
    cases h1 : dbB (datL zs) with
    | false =>
      rw [h1] at CV1
      go_wp2_with fail
      refine (CV1 _ L4.out.sl).mono ?_
      rintro e w5 ⟨rfl, hb5⟩
      have L5 := Lib.hid (L4.out.call hb5)
      have X5 := Lib.hid (X4.out.below hb5)
      have V5 := Lib.hid (V4.out.below hb5)
      clear hb5 L4 X4 V4
      go_wp2_with fail
      refine (CM _ X5.out V5.out).mono ?_
      rintro e w6 ⟨rfl, hb6⟩
      have L6 := Lib.hid (L5.out.call hb6)
      clear hb6
      go_wp2_with fail
      go_ret
      exact ⟨rfl, L6.out.bel⟩

    | true =>
      rw [h1] at CV1
      have e1 : missD [] (datL zs) = (datL zs).map La.o := by rw [missD_valid rfl h1]; exact miss_all _
      have e2 : missD (datL zs) [] = [] := by rw [missD_valid h1 rfl]; rfl
      have e3 : missD (datL zs) (datL zs) = [] := by rw [missD_valid h1 h1]; exact miss_self (dbB_inv h1).2
      have hlm : ((datL zs).map La.o).length = zs.length := by simp [datL]
      have CA := fun (Q : Option Addr) (cq : Nat) W (h2 : Slz W W.heap.size A1 zs) => dbMissing_impl Q [] cq A1 zs c1 W (by simp) (by simp) (by omega) hze (fun k z h => by simp at h) h2
      have CB := fun (Q : Option Addr) (cq : Nat) W (h2 : Slz W W.heap.size A1 zs) => dbMissing_impl A1 zs c1 Q [] cq W (by omega) hze (by simp) (by simp) h2 (fun k z h => by simp at h)
      have CC := fun W (h2 : Slz W W.heap.size A1 zs) => dbMissing_impl A1 zs c1 A1 zs c1 W (by omega) hze (by omega) hze h2 h2
      rw [show datL ([] : List Lz) = [] from rfl] at CA CB
      rw [e1] at CA
      rw [e2] at CB
      rw [e3] at CC
      obtain ⟨ks, hks⟩ : ∃ ks, (datL zs).map La.o = ks := ⟨_, rfl⟩
      rw [hks] at CA hlm
      clear e1 e2 e3 hks
      go_wp2_with fail
      refine (CV1 _ L4.out.sl).mono ?_
      rintro e w5 ⟨rfl, hb5⟩
      have L5 := Lib.hid (L4.out.call hb5)
      have X5 := Lib.hid (X4.out.below hb5)
      have V5 := Lib.hid (V4.out.below hb5)
      clear hb5 L4 X4 V4
      have L6 := Lib.hid (L5.out.call (show Below w5.heap.size w5 (w5.alloc (.cells #[] 49)) by (repeat (first | exact Below.refl _ _ | (refine Below.alloc ?_ (by first | exact Nat.le_refl _ | omega | (simp; done) | (simp; omega)) _) | (refine Below.setCell ?_ (by first | exact Nat.le_refl _ | omega | (simp; done) | (simp; omega)) _) | exact Below.drew ‹_›))))
      go_wp2_with fail
      refine (CA _ _ _ L6.out.sl).mono ?_
      clear CA
      rintro e w7 ⟨A7, g7, c7, rfl, -, -, hb7⟩
      have L7 := Lib.hid (L6.out.call hb7)
      clear hb7 L5 L6 X5 V5
      have L8 := Lib.hid (L7.out.call (show Below w7.heap.size w7 (w7.alloc (.cells #[] 49)) by (repeat (first | exact Below.refl _ _ | (refine Below.alloc ?_ (by first | exact Nat.le_refl _ | omega | (simp; done) | (simp; omega)) _) | (refine Below.setCell ?_ (by first | exact Nat.le_refl _ | omega | (simp; done) | (simp; omega)) _) | exact Below.drew ‹_›))))
      go_wp2_with fail
      refine (CB _ _ _ L8.out.sl).mono ?_
      clear CB
      rintro e w9 ⟨A9, g9, c9, rfl, -, -, hb9⟩
      have L9 := Lib.hid (L8.out.call hb9)
      clear hb9 L7 L8
      go_wp2_with fail
      refine (CC _ L9.out.sl).mono ?_
      clear CC
      rintro e wa ⟨Aa, ga, ca, rfl, -, -, hba⟩
      have La := Lib.hid (L9.out.call hba)
      clear hba L9
      have hle : ((ks.length : Int) == (zs.length : Int)) = true := by rw [hlm]; simp
      go_wp2_with fail
      go_ret
      exact ⟨ret_bool (by simp), La.out.bel⟩

  · go_enter Try.func10, Try.ntmps10
    go_wp2
    go_ret
    exact ⟨rfl, by (repeat (first | exact Below.refl _ _ | (refine Below.alloc ?_ (by first | exact Nat.le_refl _ | omega | (simp; done) | (simp; omega)) _) | (refine Below.setCell ?_ (by first | exact Nat.le_refl _ | omega | (simp; done) | (simp; omega)) _) | exact Below.drew ‹_›))⟩

end Go.Proofs.Ytimebipgiicmiab
