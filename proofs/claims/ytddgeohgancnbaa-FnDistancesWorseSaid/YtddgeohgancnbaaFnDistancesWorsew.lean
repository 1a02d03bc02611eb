/-
  The walk of FnDistancesWorse over this seat.
-/
import Derived.Test.YtddgeohgancnbaaDw
import Derived.Test.YtddgeohgancnbaaWs
import Derived.Test.YtddgeohgancnbaaA5
import Derived.Test.YtddgeohgancnbaaA8
namespace Go.Proofs.Ytddgeohgancnbaa
open Go.RowKit

set_option maxRecDepth 100000 in
set_option maxHeartbeats 1600000 in
theorem distWorse_walk (A : Option Addr) (len c : Nat) (Am : Option Addr) (len' c' : Nat) (f f' : Nat → Int) (w : World) (hlc : len ≤ c) (hc : c ≤ maxLen) (hB : Byt w w.heap.size A len f) (_hlc' : len' ≤ c') (_hc' : c' ≤ maxLen) (_hB' : Byt w w.heap.size Am len' f') :
   Calls Try.prog 4 #[.slice A len c, .slice Am len' c'] w fun e w' => e = .returned (.bool true) ∧ Below w.heap.size w w' := by
  have HB := Lib.hid hB
  clear hB _hB'
  by_cases hl : len ≤ 1048576 ∧ len' ≤ 1048576
  · obtain ⟨hl, hl'⟩ := hl
    go_enter Try.func4, Try.ntmps4
    go_wp2_with fail
    refine (drawDist_any A len c f w hlc hc HB.out).mono ?_
    rintro e w1 ⟨n, ls, A1, g1, c1, x, rfl, ⟨hn0, hn1, hls, hg1, ho1, hb1⟩, hx0, hx1⟩
    have L1 := Lib.hid (show LB w w1.heap.size n ls A1 g1 c1 (w1.alloc (.cells #[.int .i64 n, .slice A1 ls.length c1] 25)) from ⟨Box.new w1 _ _, ho1.alloc _, hb1.alloc hb1.size _⟩)
    clear ho1 hb1 HB
    generalize hG : w1.heap.size = G at *
    go_wp2_with fail
    refine (dist_impl n A1 ls c1 x _ (by omega) L1.out.2.1.sl).mono ?_
    rintro e w2 ⟨A2, g2, c2, rfl, hg2, ho2, hb2⟩
    have L2 := Lib.hid (L1.out.call hb2)
    have P2 := Lib.hid ho2
    clear hb2 L1 hG ho2
    obtain ⟨z2, c20, c21, -, -⟩ := L2.out.1.two
    go_wp2_with fail
    refine (dist_spec n A1 ls c1 x w2 (by omega) (by omega) L2.out.2.1.sl).mono ?_
    rintro e w3 ⟨A3, g3, c3, rfl, hg3, ho3, hb3⟩
    have L3 := Lib.hid (L2.out.call hb3)
    have P3 := Lib.hid (P2.out.below hb3)
    have Q3 := Lib.hid ho3
    clear hb3 L2 z2 c20 c21 P2 ho3
    obtain ⟨z3, c30, c31, -, -⟩ := L3.out.1.two
    have hrs : (distL n ls x).length ≤ 8 := distL_len n ls x
    have HF : Hid (distL n ls x ≠ [] → gvB n ls = true ∧ (0 ≤ x ∧ x < n) ∧ ∀ rs : List Lk, gvB n rs = true → (∀ l ∈ rs, l ∈ ls) → (∀ k : Nat, (k : Int) < n → ∃ d d', (distL n rs x)[k]? = some d ∧ (distL n ls x)[k]? = some d' ∧ (0 ≤ d → 0 ≤ d' ∧ d' ≤ d) ∧ d ≤ 140) ∧ 0 < 1) := Lib.hid (fun h => by
      obtain ⟨hv, h0, h1⟩ := vwB_inv (distL_some h)
      obtain ⟨m, rfl⟩ : ∃ m : Nat, n = (m : Int) := ⟨n.toNat, by omega⟩
      exact ⟨hv, ⟨h0, h1⟩, fun rs hr hs => ⟨fun k hk => ⟨_, _, distL_at hr ⟨h0, h1⟩ (by omega), distL_at hv ⟨h0, h1⟩ (by omega), bf_sub (gvB_fit hr).1 (gvB_fit hv).1 hs ⟨h0, h1⟩ _, (bf_bound (gvB_fit hr).1 ⟨h0, h1⟩ (gvB_fit hr).2.2.1 _).2⟩, by omega⟩⟩)
    generalize distL n ls x = xs at *
    go_wp2_with fail
    refine (sameInts_same A2 A3 xs c2 c3 w3 (by omega) P3.out.sli Q3.out.sli).mono ?_
    rintro e w4 ⟨rfl, hb4⟩
    have L4 := Lib.hid (L3.out.call hb4)
    have P4 := Lib.hid (P3.out.below hb4)
    have Q4 := Lib.hid (Q3.out.below hb4)
    clear hb4 L3 P3 Q3 z3 c30 c31 hg2 hg3
    obtain ⟨z4, c40, c41, -, -⟩ := L4.out.1.two
    by_cases hz : xs.length = 0
    · have hz' : ((xs.length : Int) == 0) = true := by simp [hz]
      clear HF hz
      go_wp2_with fail
      refine (sameInts_same A2 A3 xs c2 c3 w4 (by omega) P4.out.sli Q4.out.sli).mono ?_
      rintro e w5 ⟨rfl, hb5⟩
      have L5 := Lib.hid (L4.out.call hb5)
      go_wp2_with fail
      go_ret
      exact ⟨rfl, L5.out.2.2⟩
    · have hz' : ((xs.length : Int) == 0) = false := by simpa using hz
      have hxs : 0 < xs.length := by omega
      have HF := Lib.hid (HF.out (by intro e; rw [e] at hz; exact hz rfl))
      clear hz
      by_cases hlz : ls.length = 0
      · have hlz' : ((ls.length : Int) == 0) = true := by simp [hlz]
        clear hlz HF
        go_wp2_with fail
        refine (sameInts_same A2 A3 xs c2 c3 w4 (by omega) P4.out.sli Q4.out.sli).mono ?_
        rintro e w5 ⟨rfl, hb5⟩
        have L5 := Lib.hid (L4.out.call hb5)
        go_wp2_with fail
        go_ret
        exact ⟨rfl, L5.out.2.2⟩
      · have hlz' : ((ls.length : Int) == 0) = false := by simpa using hlz
        have hq : Int.tmod (len' : Int) (ls.length : Int) = ((len' % ls.length : Nat) : Int) := by rw [Int.tmod_eq_emod_of_nonneg (by omega)]; omega
        have hql : len' % ls.length < ls.length := Nat.mod_lt _ (by omega)
        have hne : ls ≠ [] := by intro e; rw [e] at hlz; simp at hlz
        generalize len' % ls.length = q at *
        obtain ⟨hg, hx, hrest⟩ := HF.out
        obtain ⟨m, rfl⟩ : ∃ k : Nat, n = (k : Int) := ⟨n.toNat, by omega⟩
        have HG := Lib.hid hg
        have HR := Lib.hid hrest
        obtain ⟨rfl, -⟩ := L4.out.2.1 (by omega)
        have CW := wo_res (m : Int) g1 ls c1 q w4.drew (by omega) hg hql L4.out.drew.2.1.sl
        have CWa := wo_res (m : Int) g1 ls c1 q (w4.alloc (.cells #[.int .i64 0, .slice none 0 0] 25)).drew (by omega) hg hql (L4.out.alloc _).drew.2.1.sl
        obtain ⟨hxr0, hmore0⟩ := hrest (ls.eraseIdx q) (er_gv' hg q) (fun l hl => List.mem_of_mem_eraseIdx hl)
        have HX0 := Lib.hid hxr0
        have hel : (ls.eraseIdx q).length ≤ 16 := Nat.le_trans (List.length_eraseIdx_le _ _) hls
        have HE : Hid (gvB (m : Int) (ls.eraseIdx q) = true ∧ ∀ l ∈ ls.eraseIdx q, l ∈ ls) := Lib.hid ⟨er_gv' hg q, fun l hl => List.mem_of_mem_eraseIdx hl⟩
        clear hg hrest hlz HF Q4 hxr0 HR
        generalize ls.eraseIdx q = rs at *
        go_wp2_with fail
        go_region_law (first | (go_simp; go_at_call 10; refine CWa.mono ?_; rintro e w5 ⟨A5, g5, c5, rfl, hg5, ho5, hb5⟩; have L6 := Lib.hid (L4.out.call (wo_below _ hb5 (.int .i64 (m : Int)) (.slice A5 rs.length c5))); have P6 := Lib.hid (P4.out.below (wo_below _ hb5 (.int .i64 (m : Int)) (.slice A5 rs.length c5))); have X6 := Lib.hid (wo_store (m := (m : Int)) (c5 := c5) L4.out.2.2 _ _ hb5 hg5 ho5); obtain ⟨zb, zb0, zb1, zf0, zf1⟩ := (wo_box _ hb5).two; clear hb5 ho5 hg5) | (go_simp; go_at_call 10; refine CW.mono ?_; rintro e w5 ⟨A5, g5, c5, rfl, hg5, ho5, hb5⟩; have L5 := Lib.hid (L4.out.drew.call hb5); have L6 := Lib.hid (L5.out.alloc (.cells #[.int .i64 (m : Int), .slice A5 rs.length c5] 25)); have P6 := Lib.hid ((P4.out.drew.below hb5).alloc (.cells #[.int .i64 (m : Int), .slice A5 rs.length c5] 25)); have X6 := Lib.hid (show LB w w5.heap.size (m : Int) rs A5 g5 c5 (w5.alloc (.cells #[.int .i64 (m : Int), .slice A5 rs.length c5] 25)) from ⟨Box.new w5 _ _, ho5.alloc _, L6.out.2.2⟩); clear hb5 ho5 hg5))
        all_goals
          clear CW CWa z4 c40 c41
          have CR := dist_impl (m : Int) A5 rs c5 x _ (by omega) X6.out.2.1.sl
          have hzl := distL_len (m : Int) rs x
          have HXR := Lib.hid HX0.out
          generalize distL (m : Int) rs x = zs at *
          go_wp2_with fail
          refine CR.mono ?_
          clear CR
          rintro e w7 ⟨A7, g7, c7, rfl, hg7, ho7, hb7⟩
          have L7 := Lib.hid (L6.out.call hb7)
          have P7 := Lib.hid (P6.out.below hb7)
          have R7 := Lib.hid ho7
          clear hb7 ho7 hg7 L6 P6 X6
          obtain ⟨z7, c70, c71, -, -⟩ := L7.out.1.two
          go_wp2_with fail
          go_loopw [12] (fun i wr => ∃ k : Nat, k ≤ m ∧ i = .int .i64 k ∧ LB w G (m : Int) ls (some ⟨g1, 0, none⟩) g1 c1 wr ∧ Own1i wr A2 g2 xs ∧ Own1i wr A7 g7 zs) (fun i _ => m - (intOf i).toNat)
          case atStart => exact ⟨0, Nat.zero_le _, rfl, L7.out, P7.out, R7.out⟩
          case round =>
            obtain ⟨k, hk, rfl, hL, hP, hR⟩ := hrel
            have L8 := Lib.hid hL
            have P8 := Lib.hid hP
            have R8 := Lib.hid hR
            clear hL hP hR L7 P7 R7 z7 c70 c71
            obtain ⟨z8, c80, c81, -, -⟩ := L8.out.1.two
            by_cases hlt : k < m
            · obtain ⟨d, d', hd, hd', h1, h2⟩ := HXR.out k (by omega)
              have hkx := (List.getElem?_eq_some_iff.1 hd').1
              have hkz := (List.getElem?_eq_some_iff.1 hd).1
              obtain ⟨rfl, zg, hc⟩ := R8.out.at hd
              obtain ⟨rfl, zg2, hc2⟩ := P8.out.at hd'
              clear hd hd'
              by_cases h0 : 0 ≤ d
              · have h3 := h1 h0
                have h4 : decide (d < d') = false := by simp; omega
                have h5 : decide (d' < 0) = false := by simp; omega
                clear h1
                go_wp2_with fail
                go_quiet (fail)
                go_wp2_with fail
                go_roundw
                case rel => exact ⟨k + 1, hlt, by go_num, LB.drewN2 L8.out _, P8.out.drewN2 _, R8.out.drewN2 _⟩
                case measure => simp [intOf]; omega
              · have h3 : decide (0 ≤ d) = false := by simpa using h0
                clear h1
                go_wp2_with fail
                go_quiet (fail)
                go_wp2_with fail
                go_roundw
                case rel => exact ⟨k + 1, hlt, by go_num, LB.drewN2 L8.out _, P8.out.drewN2 _, R8.out.drewN2 _⟩
                case measure => simp [intOf]; omega
            · have hge : m ≤ k := by omega
              go_wp2_with fail
              go_ret
              exact ⟨rfl, L8.out.2.2⟩
  · by_cases hl1 : len ≤ 1048576
    · have hl2 : 1048576 < len' := by omega
      clear hl
      go_enter Try.func4, Try.ntmps4
      go_wp2
      go_ret
      exact ⟨rfl, by (repeat (first | exact Below.refl _ _ | (refine Below.alloc ?_ (by first | exact Nat.le_refl _ | omega | (simp; done) | (simp; omega)) _) | (refine Below.setCell ?_ (by first | exact Nat.le_refl _ | omega | (simp; done) | (simp; omega)) _) | exact Below.drew ‹_›))⟩
    · clear hl
      go_enter Try.func4, Try.ntmps4
      go_wp2
      go_ret
      exact ⟨rfl, by (repeat (first | exact Below.refl _ _ | (refine Below.alloc ?_ (by first | exact Nat.le_refl _ | omega | (simp; done) | (simp; omega)) _) | (refine Below.setCell ?_ (by first | exact Nat.le_refl _ | omega | (simp; done) | (simp; omega)) _) | exact Below.drew ‹_›))⟩
end Go.Proofs.Ytddgeohgancnbaa
