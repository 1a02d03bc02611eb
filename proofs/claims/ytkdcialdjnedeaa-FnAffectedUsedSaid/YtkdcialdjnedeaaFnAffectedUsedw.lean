/-
  The walk of FnAffectedUsed over this seat.
-/
import Derived.Test.YtkdcialdjnedeaaAe
import Derived.Test.YtkdcialdjnedeaaTak
import Derived.Test.YtkdcialdjnedeaaHc
namespace Go.Proofs.Ytkdcialdjnedeaa
open Go.RowKit

set_option maxRecDepth 100000 in
set_option maxHeartbeats 1600000 in
theorem affectedUsed_walk (A : Option Addr) (len c : Nat) (f : Nat → Int) (w : World) (hlc : len ≤ c) (hc : c ≤ maxLen) (hB : Byt w w.heap.size A len f) :
   Calls Try.prog 9 #[.slice A len c] w fun e w' => e = .returned (.bool true) ∧ Below w.heap.size w w' := by
  have HB := Lib.hid hB
  clear hB
  by_cases hl : len ≤ 1048576
  · go_enter Try.func9, Try.ntmps9
    go_wp2_with fail
    refine (drawAff_any A len c f w hlc hc HB.out).mono ?_
    rintro e w1 ⟨n, ls, A1, g1, c1, x, y, z, rfl, ⟨hn0, hn1, hls, hg1, ho1, hb1⟩, hx0, hx1, hy0, hy1, hz0, hz1⟩
    have L1 := Lib.hid (show LB w w1.heap.size n ls A1 g1 c1 (w1.alloc (.cells #[.int .i64 n, .slice A1 ls.length c1] 30)) from ⟨Box.new w1 _ _, ho1.alloc _, hb1.alloc hb1.size _⟩)
    clear ho1 hb1 HB
    generalize hG : w1.heap.size = G at *
    go_wp2_with fail
    refine (aff_impl n A1 ls c1 x y z _ (by omega) L1.out.2.1.isA L1.out.2.1.sl).mono ?_
    rintro e w2 ⟨A2, g2, c2, rfl, hg2, ho2, hb2⟩
    have L2 := Lib.hid (L1.out.call hb2)
    have P2 := Lib.hid ho2
    clear hb2 L1 hG ho2
    obtain ⟨z2, c20, c21, -, -⟩ := L2.out.1.two
    go_wp2_with fail
    refine (aff_spec n A1 ls c1 x y z w2 (by omega) L2.out.2.1.isA (by omega) L2.out.2.1.sl).mono ?_
    rintro e w3 ⟨A3, g3, c3, rfl, hg3, ho3, hb3⟩
    have L3 := Lib.hid (L2.out.call hb3)
    have P3 := Lib.hid (P2.out.below hb3)
    have Q3 := Lib.hid ho3
    clear hb3 L2 z2 c20 c21 P2 ho3
    obtain ⟨z3, c30, c31, -, -⟩ := L3.out.1.two
    have hrs : (affL n ls x y z).length ≤ 8 := affL_len8 n ls x y z
    have HF : Hid (∀ (m k xn : Nat) (l : Lk), n = (m : Int) → y = (k : Int) → x = (xn : Int) → gvB n ls = true → ls[k]? = some l → xn < m → l.c < z → z ≤ 20 → ∀ t : Nat, t < m →
        (((t : Int) ∈ affL n ls x y z → usedL n ls x t l = true) ∧ (usedL n ls x t l = true → countI n ls x t = 1 → (t : Int) ∈ affL n ls x y z))) := Lib.hid (fun m k xn l en ek ex hv hl hx hc hc2 t ht => by
      subst en; subst ek; subst ex
      refine ⟨fun h => aff_used hv hl hc hc2 ⟨by omega, by omega⟩ h, fun hu h1 => used_aff hv hl hc hc2 ⟨by omega, by omega⟩ ⟨by omega, by omega⟩ hu ?_⟩
      unfold countI at h1
      rw [vwB_of hv ⟨by omega, by omega⟩ ⟨by omega, by omega⟩, if_pos rfl, Int.toNat_natCast] at h1
      omega)
    generalize affL n ls x y z = xs at *
    go_wp2_with fail
    refine (sameInts_same A2 A3 xs c2 c3 w3 (by omega) P3.out.sli Q3.out.sli).mono ?_
    rintro e w4 ⟨rfl, hb4⟩
    have L4 := Lib.hid (L3.out.call hb4)
    have P4 := Lib.hid (P3.out.below hb4)
    have Q4 := Lib.hid (Q3.out.below hb4)
    clear hb4 L3 P3 Q3 z3 c30 c31 hg2 hg3
    obtain ⟨z4, c40, c41, -, -⟩ := L4.out.1.two
    by_cases h1 : y < 0
    · clear HF
      go_wp2_with fail
      refine (sameInts_same A2 A3 xs c2 c3 w4 (by omega) P4.out.sli Q4.out.sli).mono ?_
      rintro e wz ⟨rfl, hbz⟩
      have Lz := Lib.hid (L4.out.call hbz)
      go_wp2_with fail
      go_ret
      exact ⟨rfl, Lz.out.2.2⟩
    have h1' : decide (y < 0) = false := by simpa using h1
    by_cases h2 : (ls.length : Int) ≤ y
    · clear HF
      go_wp2_with fail
      refine (sameInts_same A2 A3 xs c2 c3 w4 (by omega) P4.out.sli Q4.out.sli).mono ?_
      rintro e wz ⟨rfl, hbz⟩
      have Lz := Lib.hid (L4.out.call hbz)
      go_wp2_with fail
      go_ret
      exact ⟨rfl, Lz.out.2.2⟩
    have h2' : decide ((ls.length : Int) ≤ y) = false := by simpa using h2
    go_wp2_with fail
    refine (valid_spec_any n A1 ls c1 w4 (by omega) (by omega) L4.out.2.1.sl).mono ?_
    rintro e w5 ⟨rfl, hb5⟩
    have L5 := Lib.hid (L4.out.call hb5)
    have P5 := Lib.hid (P4.out.below hb5)
    have Q5 := Lib.hid (Q4.out.below hb5)
    clear hb5 L4 P4 Q4 z4 c40 c41
    obtain ⟨z5, c50, c51, -, -⟩ := L5.out.1.two
    cases hv : gvB n ls with
    | false =>
      clear HF
      go_wp2_with fail
      refine (sameInts_same A2 A3 xs c2 c3 w5 (by omega) P5.out.sli Q5.out.sli).mono ?_
      rintro e wz ⟨rfl, hbz⟩
      have Lz := Lib.hid (L5.out.call hbz)
      go_wp2_with fail
      go_ret
      exact ⟨rfl, Lz.out.2.2⟩
    | true =>
      by_cases h3 : x < 0
      · clear HF
        go_wp2_with fail
        refine (sameInts_same A2 A3 xs c2 c3 w5 (by omega) P5.out.sli Q5.out.sli).mono ?_
        rintro e wz ⟨rfl, hbz⟩
        have Lz := Lib.hid (L5.out.call hbz)
        go_wp2_with fail
        go_ret
        exact ⟨rfl, Lz.out.2.2⟩
      have h3' : decide (x < 0) = false := by simpa using h3
      by_cases h4 : n ≤ x
      · clear HF
        go_wp2_with fail
        refine (sameInts_same A2 A3 xs c2 c3 w5 (by omega) P5.out.sli Q5.out.sli).mono ?_
        rintro e wz ⟨rfl, hbz⟩
        have Lz := Lib.hid (L5.out.call hbz)
        go_wp2_with fail
        go_ret
        exact ⟨rfl, Lz.out.2.2⟩
      have h4' : decide (n ≤ x) = false := by simpa using h4
      obtain ⟨yn, rfl⟩ : ∃ q : Nat, y = (q : Int) := ⟨y.toNat, by omega⟩
      have hyl : yn < ls.length := by omega
      obtain ⟨l, hl⟩ : ∃ l, ls[yn]? = some l := ⟨_, List.getElem?_eq_getElem hyl⟩
      obtain ⟨rfl, p0, p1, p2⟩ := L5.out.link hl
      have zl := (L5.out.2.1 (by omega)).2.lt
      by_cases h5 : z ≤ l.c
      · clear HF hl p0 p1
        go_wp2_with fail
        refine (sameInts_same A2 A3 xs c2 c3 w5 (by omega) P5.out.sli Q5.out.sli).mono ?_
        rintro e wz ⟨rfl, hbz⟩
        have Lz := Lib.hid (L5.out.call hbz)
        go_wp2_with fail
        go_ret
        exact ⟨rfl, Lz.out.2.2⟩
      have h5' : decide (z ≤ l.c) = false := by simpa using h5
      by_cases h6 : 20 < z
      · clear HF hl p0 p1
        go_wp2_with fail
        refine (sameInts_same A2 A3 xs c2 c3 w5 (by omega) P5.out.sli Q5.out.sli).mono ?_
        rintro e wz ⟨rfl, hbz⟩
        have Lz := Lib.hid (L5.out.call hbz)
        go_wp2_with fail
        go_ret
        exact ⟨rfl, Lz.out.2.2⟩
      have h6' : decide (20 < z) = false := by simpa using h6
      have HV := Lib.hid hv
      have HL := Lib.hid hl
      clear hv p0 p1 hl
      go_wp2_with fail
      obtain ⟨m, rfl⟩ : ∃ q : Nat, n = (q : Int) := ⟨n.toNat, by omega⟩
      obtain ⟨xn, rfl⟩ : ∃ q : Nat, x = (q : Int) := ⟨x.toNat, by omega⟩
      have HALL := Lib.hid (HF.out m yn xn l rfl rfl rfl HV.out HL.out (by omega) (by omega) (by omega))
      have HUL : Hid (∀ t : Nat, t < m → usedB (m : Int) ls (xn : Int) (t : Int) (yn : Int) = usedL (m : Int) ls (xn : Int) (t : Int) l) := Lib.hid (fun t ht => used_at (vwB_of HV.out ⟨by omega, by omega⟩ ⟨by omega, by omega⟩) HL.out)
      clear HF HV HL h1' h2' h3' h4' h5' h6'
      clear p2 zl
      go_loopw [9, 10] (fun i _ wr => ∃ k : Nat, k ≤ m ∧ i = .int .i64 k ∧ LB w G (m : Int) ls (some ⟨g1, 0, none⟩) g1 c1 wr ∧ Own1i wr A2 g2 xs) (fun i _ _ => m - (intOf i).toNat)
      case atStart => exact ⟨0, Nat.zero_le _, rfl, L5.out, P5.out⟩
      case round =>
        obtain ⟨k, hk, rfl, hL, hP⟩ := hrel
        have L6 := Lib.hid hL
        have P6 := Lib.hid hP
        clear hL hP L5 P5 Q5 z5 c50 c51
        obtain ⟨z6, c60, c61, -, -⟩ := L6.out.1.two
        by_cases hlt : k < m
        · obtain ⟨f1, f2⟩ := HALL.out k hlt
          have CU := used_impl (m : Int) (some ⟨g1, 0, none⟩) ls c1 (xn : Int) (k : Int) (yn : Int) wr (by omega) L6.out.2.1.sl
          rw [HUL.out k hlt] at CU
          have CH := fun W (h : Own1i W A2 g2 xs) => hasInt_any A2 xs c2 (k : Int) W (by omega) h.sli
          have CC := fun W (h : Sl W W.heap.size (some ⟨g1, 0, none⟩) ls) => count_impl (m : Int) (some ⟨g1, 0, none⟩) ls c1 (xn : Int) (k : Int) W (by omega) h
          generalize usedL (m : Int) ls (xn : Int) (k : Int) l = u at *
          generalize countI (m : Int) ls (xn : Int) (k : Int) = cn at *
          have F1 := Lib.hid f1
          have F2 := Lib.hid f2
          clear f1 f2
          go_wp2_with fail
          refine CU.mono ?_
          clear CU
          rintro e w7 ⟨rfl, hb7⟩
          have L7 := Lib.hid (L6.out.call hb7)
          have P7 := Lib.hid (P6.out.below hb7)
          clear hb7 L6 P6 z6 c60 c61
          obtain ⟨z7, c70, c71, -, -⟩ := L7.out.1.two
          have CH1 := CH w7 P7.out
          by_cases hin : (k : Int) ∈ xs
          · obtain rfl : u = true := F1.out hin
            rw [decide_eq_true hin] at CH1
            have HIN := Lib.hid hin
            clear hin
            go_wp2_with fail
            refine CH1.mono ?_
            clear CH1
            rintro e w8 ⟨rfl, hb8⟩
            have L8 := Lib.hid (L7.out.call hb8)
            have P8 := Lib.hid (P7.out.below hb8)
            clear hb8 L7 P7 z7 c70 c71
            obtain ⟨z8, c80, c81, -, -⟩ := L8.out.1.two
            have CC1 := CC w8 L8.out.2.1.sl
            clear CC
            go_wp2_with fail
            refine CC1.mono ?_
            clear CC1
            rintro e w9 ⟨rfl, hb9⟩
            have L9 := Lib.hid (L8.out.call hb9)
            have P9 := Lib.hid (P8.out.below hb9)
            clear hb9 L8 P8 z8 c80 c81
            have CH2 := CH w9 P9.out
            rw [decide_eq_true HIN.out] at CH2
            clear CH
            by_cases h1 : cn = 1
            · subst h1
              go_wp2_with fail
              refine CH2.mono ?_
              clear CH2
              rintro e w10 ⟨rfl, hb10⟩
              have L10 := Lib.hid (L9.out.call hb10)
              have P10 := Lib.hid (P9.out.below hb10)
              go_wp2_with fail
              go_roundw
              case rel => exact ⟨k + 1, hlt, by go_num, L10.out, P10.out⟩
              case measure => simp [intOf]; omega
            · have h1' : (cn == 1) = false := by simpa using h1
              clear CH2
              go_wp2_with fail
              go_roundw
              case rel => exact ⟨k + 1, hlt, by go_num, L9.out, P9.out⟩
              case measure => simp [intOf]; omega
          · rw [decide_eq_false hin] at CH1
            have HIN := Lib.hid hin
            clear hin CH
            go_wp2_with fail
            refine CH1.mono ?_
            clear CH1
            rintro e w8 ⟨rfl, hb8⟩
            have L8 := Lib.hid (L7.out.call hb8)
            have P8 := Lib.hid (P7.out.below hb8)
            clear hb8 L7 P7 z7 c70 c71
            obtain ⟨z8, c80, c81, -, -⟩ := L8.out.1.two
            cases u with
            | false =>
              clear CC
              go_wp2_with fail
              go_roundw
              case rel => exact ⟨k + 1, hlt, by go_num, L8.out, P8.out⟩
              case measure => simp [intOf]; omega
            | true =>
              have CC1 := CC w8 L8.out.2.1.sl
              clear CC
              have h1 : cn ≠ 1 := fun e => HIN.out (F2.out (by first | rfl | trivial) e)
              have h1' : (cn == 1) = false := by simpa using h1
              clear h1
              go_wp2_with fail
              refine CC1.mono ?_
              clear CC1
              rintro e w9 ⟨rfl, hb9⟩
              have L9 := Lib.hid (L8.out.call hb9)
              have P9 := Lib.hid (P8.out.below hb9)
              clear hb9 L8 P8 z8 c80 c81
              go_wp2_with fail
              go_roundw
              case rel => exact ⟨k + 1, hlt, by go_num, L9.out, P9.out⟩
              case measure => simp [intOf]; omega
        · have hge : m ≤ k := by omega
          go_wp2_with fail
          go_ret
          exact ⟨rfl, L6.out.2.2⟩
  · go_enter Try.func9, Try.ntmps9
    go_wp2
    go_ret
    exact ⟨rfl, by (repeat (first | exact Below.refl _ _ | (refine Below.alloc ?_ (by first | exact Nat.le_refl _ | omega | (simp; done) | (simp; omega)) _) | (refine Below.setCell ?_ (by first | exact Nat.le_refl _ | omega | (simp; done) | (simp; omega)) _) | exact Below.drew ‹_›))⟩
end Go.Proofs.Ytkdcialdjnedeaa
