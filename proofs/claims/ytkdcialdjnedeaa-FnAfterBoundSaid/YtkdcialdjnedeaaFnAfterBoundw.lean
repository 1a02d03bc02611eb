/-
  The walk of FnAfterBound over this seat.
-/
import Derived.Test.YtkdcialdjnedeaaAe
namespace Go.Proofs.Ytkdcialdjnedeaa
open Go.RowKit

set_option maxRecDepth 100000 in
set_option maxHeartbeats 1600000 in
theorem afterBound_walk (A : Option Addr) (len c : Nat) (f : Nat → Int) (w : World) (hlc : len ≤ c) (hc : c ≤ maxLen) (hB : Byt w w.heap.size A len f) :
   Calls Try.prog 7 #[.slice A len c] w fun e w' => e = .returned (.bool true) ∧ Below w.heap.size w w' := by
  have HB := Lib.hid hB
  clear hB
  by_cases hl : len ≤ 1048576
  · go_enter Try.func7, Try.ntmps7
    go_wp2_with fail
    refine (drawAft_any A len c f w hlc hc HB.out).mono ?_
    rintro e w1 ⟨n, ls, A1, g1, c1, x, y, z, rfl, ⟨hn0, hn1, hls, hg1, ho1, hb1⟩, hx0, hx1, hy0, hy1, hz0, hz1⟩
    have L1 := Lib.hid (show LB w w1.heap.size n ls A1 g1 c1 (w1.alloc (.cells #[.int .i64 n, .slice A1 ls.length c1] 30)) from ⟨Box.new w1 _ _, ho1.alloc _, hb1.alloc hb1.size _⟩)
    clear ho1 hb1 HB
    generalize hG : w1.heap.size = G at *
    go_wp2_with fail
    refine (aft_impl n A1 ls c1 x y z _ (by omega) L1.out.2.1.isA L1.out.2.1.sl).mono ?_
    rintro e w2 ⟨A2, g2, c2, rfl, hg2, ho2, hb2⟩
    have L2 := Lib.hid (L1.out.call hb2)
    have P2 := Lib.hid ho2
    clear hb2 L1 hG ho2
    obtain ⟨z2, c20, c21, -, -⟩ := L2.out.1.two
    go_wp2_with fail
    refine (aft_spec n A1 ls c1 x y z w2 (by omega) L2.out.2.1.isA (by omega) L2.out.2.1.sl).mono ?_
    rintro e w3 ⟨A3, g3, c3, rfl, hg3, ho3, hb3⟩
    have L3 := Lib.hid (L2.out.call hb3)
    have P3 := Lib.hid (P2.out.below hb3)
    have Q3 := Lib.hid ho3
    clear hb3 L2 z2 c20 c21 P2 ho3
    obtain ⟨z3, c30, c31, -, -⟩ := L3.out.1.two
    have hrs : (aftL n ls x y z).length ≤ 8 := aftL_len8 n ls x y z
    have HF : Hid (aftL n ls x y z ≠ [] → (∃ (m k : Nat) (l : Lk), n = (m : Int) ∧ y = (k : Int) ∧ k < ls.length ∧ ls[k]? = some l ∧ 1 ≤ l.c ∧ l.c ≤ 20 ∧ 1 ≤ z ∧ z ≤ 20 ∧ 0 ≤ x ∧ x < n ∧ m ≤ 8 ∧
        (∀ i : Nat, i < m → ∃ d e : Int, (distL n ls x)[i]? = some d ∧ (aftL n ls x y z)[i]? = some e ∧ -1 ≤ d ∧ d ≤ 140 ∧ -1 ≤ e ∧ e ≤ 140 ∧ (l.c ≤ z → d ≤ e ∧ e - d ≤ z - l.c) ∧ (z ≤ l.c → e ≤ d ∧ d - e ≤ l.c - z)))) := Lib.hid (fun h => by
      have hv : vwB n ls [x] = true := by
        unfold aftL at h
        by_cases hc : costOk n ls y z = true
        · rw [if_pos hc] at h
          have := vwB_inv (distL_some h)
          unfold vwB inB
          simp [(costOk_inv hc).1]
          omega
        · rw [if_neg hc] at h
          exact absurd rfl h
      obtain ⟨-, hx0, hx1⟩ := vwB_inv hv
      obtain ⟨m, rfl⟩ : ∃ m : Nat, n = (m : Int) := ⟨n.toNat, by omega⟩
      obtain ⟨hc, -⟩ := aftL_some h
      obtain ⟨hg, hy, hz⟩ := costOk_inv hc
      obtain ⟨k, rfl⟩ : ∃ k : Nat, y = (k : Int) := ⟨y.toNat, by omega⟩
      have hkl : k < ls.length := by omega
      have hl : ls[k]? = some ls[k] := List.getElem?_eq_getElem hkl
      have hlr := gvB_at hg hl
      obtain ⟨hf, _, h8, _⟩ := gvB_fit hg
      obtain ⟨hf', _, _, _⟩ := gvB_fit (costOk_gv hc)
      refine ⟨m, k, ls[k], rfl, rfl, hkl, hl, by omega, by omega, by omega, by omega, hx0, hx1, by omega, fun i hi => ?_⟩
      refine ⟨bf (m : Int) ls x i, bf (m : Int) (costLs ls k z) x i, distL_at hg ⟨hx0, hx1⟩ hi, ?_, ?_⟩
      · rw [aftL_fl hc ⟨hx0, hx1⟩, fl_at hi, Int.toNat_natCast]
      · rw [Int.toNat_natCast] at hf'
        have b1 := bf_bound hf ⟨hx0, hx1⟩ h8 (i : Int)
        have b2 := bf_bound hf' ⟨hx0, hx1⟩ h8 (i : Int)
        exact ⟨b1.1, b1.2, b2.1, b2.2, (cost_dist hg hl hz ⟨hx0, hx1⟩ (i : Int)).1, (cost_dist hg hl hz ⟨hx0, hx1⟩ (i : Int)).2⟩)
    have CDD : ∀ W : World, Sl W W.heap.size A1 ls → Calls Try.prog 26 #[gval n A1 ls.length c1, .int .i64 x] W (NewI (distL n ls x) W) := fun W h => dist_impl n A1 ls c1 x W (by omega) h
    generalize distL n ls x = ds at *
    generalize aftL n ls x y z = xs at *
    go_wp2_with fail
    refine (sameInts_same A2 A3 xs c2 c3 w3 (by omega) P3.out.sli Q3.out.sli).mono ?_
    rintro e w4 ⟨rfl, hb4⟩
    have L4 := Lib.hid (L3.out.call hb4)
    have P4 := Lib.hid (P3.out.below hb4)
    have Q4 := Lib.hid (Q3.out.below hb4)
    clear hb4 L3 P3 Q3 z3 c30 c31 hg2 hg3
    obtain ⟨z4, c40, c41, -, -⟩ := L4.out.1.two
    by_cases hz : xs.length = 0
    · have hz' : ((xs.length : Int) == 0) = true := by simp [hz]
      clear HF hz
      go_wp2_with fail
      refine (sameInts_same A2 A3 xs c2 c3 w4 (by omega) P4.out.sli Q4.out.sli).mono ?_
      rintro e w5 ⟨rfl, hb5⟩
      have L5 := Lib.hid (L4.out.call hb5)
      go_wp2_with fail
      go_ret
      exact ⟨rfl, L5.out.2.2⟩
    · have hz' : ((xs.length : Int) == 0) = false := by simpa using hz
      have hxs : 0 < xs.length := by omega
      have HF := Lib.hid (HF.out (by intro e; rw [e] at hz; exact hz rfl))
      clear hz Q4
      obtain ⟨m, yk, l, rfl, rfl, hyk, hyl, hl1, hl2, hz1', hz2', hx0', hx1', hm8, hall⟩ := HF.out
      have HALL := Lib.hid hall
      have HYL := Lib.hid hyl
      clear hall hyl HF
      have CD := CDD _ L4.out.2.1.sl
      clear CDD
      go_wp2_with fail
      refine CD.mono ?_
      clear CD
      rintro e w5 ⟨A5, g5, c5, rfl, hg5, ho5, hb5⟩
      have L5 := Lib.hid (L4.out.call hb5)
      have P5 := Lib.hid (P4.out.below hb5)
      have R5 := Lib.hid ho5
      clear hb5 ho5 hg5 L4 P4 z4 c40 c41
      obtain ⟨la, lb, lc⟩ := l
      obtain ⟨rfl, p0, p1, p2⟩ := L5.out.link HYL.out
      obtain ⟨z5, c50, c51, -, -⟩ := L5.out.1.two
      clear p0 p1
      dsimp only at *
      go_wp2_with fail
      refine wp_region_quiet_lit (by kernel_rfl) (by kernel_rfl) ?_
      repeat (go_big_quiet_step (fail))
      refine wpQuiet_nil ?_
      intro _ hw'
      obtain ⟨q, hw''⟩ := hw'
      subst hw''
      have L8 := Lib.hid (L5.out.drewN2 q)
      have P8 := Lib.hid (P5.out.drewN2 q)
      have R8 := Lib.hid (R5.out.drewN2 q)
      clear L5 P5 R5 z5 c50 c51 p2
      go_wp2_with fail
      all_goals
        go_loopw [11] (fun i wr => ∃ k : Nat, k ≤ m ∧ i = .int .i64 k ∧ LB w G (m : Int) ls (some ⟨g1, 0, none⟩) g1 c1 wr ∧ Own1i wr A2 g2 xs ∧ Own1i wr A5 g5 ds) (fun i _ => m - (intOf i).toNat)
        case atStart => exact ⟨0, Nat.zero_le _, rfl, L8.out, P8.out, R8.out⟩
        case round =>
          obtain ⟨k, hk, rfl, hL, hP, hR⟩ := hrel
          have L6 := Lib.hid hL
          have P6 := Lib.hid hP
          have R6 := Lib.hid hR
          clear hL hP hR L8 P8 R8
          obtain ⟨z6, c60, c61, -, -⟩ := L6.out.1.two
          by_cases hlt : k < m
          · obtain ⟨d, e, hd, he, hd0, hd1, he0, he1, hup, hdn⟩ := HALL.out k hlt
            obtain ⟨rfl, zg, hc2⟩ := P6.out.at he
            obtain ⟨rfl, zg5, hc5⟩ := R6.out.at hd
            have hdl := (List.getElem?_eq_some_iff.1 hd).1
            have hel := (List.getElem?_eq_some_iff.1 he).1
            clear hd he
            have HUD := Lib.hid (And.intro hup hdn)
            clear hup hdn
            go_wp2_with fail
            refine wp_region_quiet_lit (by kernel_rfl) (by kernel_rfl) ?_
            repeat (go_big_quiet_step (fail))
            refine wpQuiet_nil ?_
            intro _ hw'
            obtain ⟨q, hw''⟩ := hw'
            subst hw''
            have L7 := Lib.hid (L6.out.drewN2 q)
            have P7 := Lib.hid (P6.out.drewN2 q)
            have R7 := Lib.hid (R6.out.drewN2 q)
            go_wp2_with fail
            all_goals first
              | (exfalso; obtain ⟨h1, h2⟩ := HUD.out; omega)
              | (go_roundw
                 case rel => exact ⟨k + 1, hlt, by go_num, L7.out, P7.out, R7.out⟩
                 case measure => simp [intOf]; omega)
          · have hge : m ≤ k := by omega
            go_wp2_with fail
            go_ret
            exact ⟨rfl, L6.out.2.2⟩
  · go_enter Try.func7, Try.ntmps7
    go_wp2
    go_ret
    exact ⟨rfl, by (repeat (first | exact Below.refl _ _ | (refine Below.alloc ?_ (by first | exact Nat.le_refl _ | omega | (simp; done) | (simp; omega)) _) | (refine Below.setCell ?_ (by first | exact Nat.le_refl _ | omega | (simp; done) | (simp; omega)) _) | exact Below.drew ‹_›))⟩
end Go.Proofs.Ytkdcialdjnedeaa
