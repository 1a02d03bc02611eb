/-
  The walk of FnDbMissingList over this seat.
-/
import Derived.Test.YtimebipgiicmiabLm
namespace Go.Proofs.Ytimebipgiicmiab
open Go.RowKit Go.Maps

set_option maxRecDepth 100000 in
set_option maxHeartbeats 1600000 in
theorem fnDbMissingList_walk (A : Option Addr) (len c : Nat) (f : Nat → Int) (w : World) (hlc : len ≤ c) (hc : c ≤ maxLen) (hB : Byt w w.heap.size A len f) :
   Calls Try.prog 8 #[.slice A len c] w fun e w' => e = .returned (.bool true) ∧ Below w.heap.size w w' := by
  have HB := Lib.hid hB
  clear hB
  by_cases hl : len ≤ 1048576
  · go_enter Try.func8, Try.ntmps8
    go_wp2_with fail
    refine (drawDbMissing_any A len c f w hlc hc HB.out).mono ?_
    rintro e w1 ⟨zs, A1, c1, os, B1, cb, b0, rfl, hl9, ho9, hze8, hoe8, hzi, hb0, hoi, -, -, hb1⟩
    have hze : ∀ x ∈ zs, x.es.length ≤ 2000000 := fun x hx => by have := hze8 x hx; omega
    have hoe : ∀ x ∈ os, x.es.length ≤ 2000000 := fun x hx => by have := hoe8 x hx; omega
    have L1 := Lib.hid (show LM w A1 zs B1 os w1 from ⟨hzi.slz hb1.size, (hoi.down hb0).slz hb1.size, hb1⟩)
    clear hzi hoi hb0 hb1 hze8 hoe8 HB
    have CI := fun W (h1 : Slz W W.heap.size A1 zs) (h2 : Slz W W.heap.size B1 os) => dbMissing_impl A1 zs c1 B1 os cb W (by omega) hze (by omega) hoe h1 h2
    have CS := fun W (h1 : Slz W W.heap.size A1 zs) (h2 : Slz W W.heap.size B1 os) => dbMissing_spec A1 zs c1 B1 os cb W (by omega) hze (by omega) hoe h1 h2
    have CV1 := fun W (h : Slz W W.heap.size A1 zs) => dbValid_spec A1 zs c1 W (by omega) hze h
    have CV2 := fun W (h : Slz W W.heap.size B1 os) => dbValid_spec B1 os cb W (by omega) hoe h
    have hxl := missD_short (datL zs) (datL os)
    obtain ⟨xs, hxs⟩ : ∃ xs, missD (datL zs) (datL os) = xs := ⟨_, rfl⟩
    rw [hxs] at CI CS hxl
    have HXS := Lib.hid hxs
    clear hxs
    go_wp2_with fail
    refine (CI _ L1.out.sl L1.out.so).mono ?_
    clear CI
    rintro e w2 ⟨A2, g2, c2, rfl, -, ho2, hb2⟩
    have L2 := Lib.hid (L1.out.call hb2)
    have X2 := Lib.hid ho2
    clear hb2 ho2 L1
    go_wp2_with fail
    refine (CS _ L2.out.sl L2.out.so).mono ?_
    clear CS
    rintro e w3 ⟨A3, g3, c3, rfl, -, ho3, hb3⟩
    have L3 := Lib.hid (L2.out.call hb3)
    have X3 := Lib.hid (X2.out.below hb3)
    have V3 := Lib.hid ho3
    clear hb3 ho3 L2 X2
    have CM := fun W (h1 : Own1i W A2 g2 xs) (h2 : Own1i W A3 g3 xs) => sameInts_same A2 A3 xs c2 c3 W (by omega) h1.sli h2.sli
    go_wp2_with fail
    refine (CM _ X3.out V3.out).mono ?_
    rintro e w4 ⟨rfl, hb4⟩
    have L4 := Lib.hid (L3.out.call hb4)
    have X4 := Lib.hid (X3.out.below hb4)
    have V4 := Lib.hid (V3.out.below hb4)
    clear hb4 L3 X3 V3
    cases h1 : dbB (datL zs) with
    | false =>
      rw [h1] at CV1
      go_wp2_with fail
      refine (CV1 _ L4.out.sl).mono ?_
      rintro e w5 ⟨rfl, hb5⟩
      have L5 := Lib.hid (L4.out.call hb5)
      have X5 := Lib.hid (X4.out.below hb5)
      have V5 := Lib.hid (V4.out.below hb5)
      clear hb5 L4 X4 V4
      go_wp2_with fail
      refine (CM _ X5.out V5.out).mono ?_
      rintro e w6 ⟨rfl, hb6⟩
      have L6 := Lib.hid (L5.out.call hb6)
      clear hb6
      go_wp2_with fail
      go_ret
      exact ⟨rfl, L6.out.bel⟩

    | true =>
      rw [h1] at CV1
      cases h2 : dbB (datL os) with
      | false =>
        rw [h2] at CV2
        go_wp2_with fail
        refine (CV1 _ L4.out.sl).mono ?_
        rintro e w5 ⟨rfl, hb5⟩
        have L5 := Lib.hid (L4.out.call hb5)
        have X5 := Lib.hid (X4.out.below hb5)
        have V5 := Lib.hid (V4.out.below hb5)
        clear hb5 L4 X4 V4
        go_wp2_with fail
        refine (CV2 _ L5.out.so).mono ?_
        rintro e w6 ⟨rfl, hb6⟩
        have L6 := Lib.hid (L5.out.call hb6)
        have X6 := Lib.hid (X5.out.below hb6)
        have V6 := Lib.hid (V5.out.below hb6)
        clear hb6 L5 X5 V5
        go_wp2_with fail
        refine (CM _ X6.out V6.out).mono ?_
        rintro e w7 ⟨rfl, hb7⟩
        have L7 := Lib.hid (L6.out.call hb7)
        clear hb7
        go_wp2_with fail
        go_ret
        exact ⟨rfl, L7.out.bel⟩

      | true =>
        rw [h2] at CV2
        have hxm : xs = missL (datL zs) (datL os) := by rw [← HXS.out, missD_valid h1 h2]
        have HMEM : Hid (∀ o, decide (o ∈ xs) = decide (seqL (datL zs) o < seqL (datL os) o)) := Lib.hid (fun o => by
          rw [hxm]
          exact decide_eq_decide.2 (missL_mem (dbB_inv h2).2 (dbB_inv h1).1 (dbB_inv h2).1 o))
        have HASC : Hid (xs.Pairwise (· < ·)) := Lib.hid (by rw [hxm]; exact missL_asc (dbB_inv h2).2)
        clear hxm
        go_wp2_with fail
        refine (CV1 _ L4.out.sl).mono ?_
        rintro e w5 ⟨rfl, hb5⟩
        have L5 := Lib.hid (L4.out.call hb5)
        have X5 := Lib.hid (X4.out.below hb5)
        have V5 := Lib.hid (V4.out.below hb5)
        clear hb5 L4 X4 V4
        go_wp2_with fail
        refine (CV2 _ L5.out.so).mono ?_
        rintro e w6 ⟨rfl, hb6⟩
        have L6 := Lib.hid (L5.out.call hb6)
        have X6 := Lib.hid (X5.out.below hb6)
        have V6 := Lib.hid (V5.out.below hb6)
        clear hb6 L5 X5 V5
        have CH := fun (o : Int) W (h : Own1i W A2 g2 xs) => hasInt_any A2 xs c2 o W (by omega) h.sli
        simp only [HMEM.out] at CH
        have CA := fun (o : Int) W (h : Slz W W.heap.size A1 zs) => seqOf_any A1 zs c1 o W (by omega) h
        have CB := fun (o : Int) W (h : Slz W W.heap.size B1 os) => seqOf_any B1 os cb o W (by omega) h
        have CZ := fun W (h : Own1i W A2 g2 xs) => ascending_any A2 xs c2 W (by omega) h.sli HASC.out
        clear CV1 CV2 CM V6
        go_wp2_with fail
        go_loopw [7] (fun i wr => ∃ k : Nat, k ≤ 8 ∧ i = .int .i64 (k : Int) ∧ Hid (LM w A1 zs B1 os wr) ∧ Hid (Own1i wr A2 g2 xs)) (fun i _ => 8 - (intOf i).toNat)
        case atStart => exact ⟨0, Nat.zero_le _, rfl, L6, X6⟩
        case round =>
          obtain ⟨k, hk, rfl, L7, X7⟩ := hrel
          clear L6 X6
          by_cases hkt : k < 8
          · have hkti : (k : Int) < 8 := by omega
            have CH2 := CH (k : Int)
            have CA2 := CA (k : Int)
            have CB2 := CB (k : Int)
            generalize seqL (datL zs) (k : Int) = p at *
            generalize seqL (datL os) (k : Int) = q at *
            go_wp2_with fail
            refine (CH2 _ X7.out).mono ?_
            rintro e w8 ⟨rfl, hb8⟩
            have L8 := Lib.hid (L7.out.call hb8)
            have X8 := Lib.hid (X7.out.below hb8)
            clear hb8 L7 X7 CH2
            go_wp2_with fail
            refine (CB2 _ L8.out.so).mono ?_
            rintro e w9 ⟨rfl, hb9⟩
            have L9 := Lib.hid (L8.out.call hb9)
            have X9 := Lib.hid (X8.out.below hb9)
            clear hb9 L8 X8 CB2
            go_wp2_with fail
            refine (CA2 _ L9.out.sl).mono ?_
            rintro e wa ⟨rfl, hba⟩
            have La := Lib.hid (L9.out.call hba)
            have Xa := Lib.hid (X9.out.below hba)
            clear hba L9 X9 CA2
            by_cases hpq : p < q
            · go_wp2_with fail
              go_roundw
              case rel => exact ⟨k + 1, hkt, by go_num, La, Xa⟩
              case measure => simp [intOf]; omega
            · go_wp2_with fail
              go_roundw
              case rel => exact ⟨k + 1, hkt, by go_num, La, Xa⟩
              case measure => simp [intOf]; omega
          · have hkti : ¬ (k : Int) < 8 := by omega
            go_wp2_with fail
            refine (CZ _ X7.out).mono ?_
            rintro e w8 ⟨rfl, hb8⟩
            have L8 := Lib.hid (L7.out.call hb8)
            clear hb8
            go_wp2_with fail
            go_ret
            exact ⟨rfl, L8.out.bel⟩

  · go_enter Try.func8, Try.ntmps8
    go_wp2
    go_ret
    exact ⟨rfl, by (repeat (first | exact Below.refl _ _ | (refine Below.alloc ?_ (by first | exact Nat.le_refl _ | omega | (simp; done) | (simp; omega)) _) | (refine Below.setCell ?_ (by first | exact Nat.le_refl _ | omega | (simp; done) | (simp; omega)) _) | exact Below.drew ‹_›))⟩

end Go.Proofs.Ytimebipgiicmiab
