/-
  The walk of FnDistances over this seat.
-/
import Derived.Test.YtigamnnboojiiaaDistL
import Derived.Test.YtigamnnboojiiaaDrawV
namespace Go.Proofs.Ytigamnnboojiiaa
open Go.RowKit

set_option maxRecDepth 100000 in
set_option maxHeartbeats 1600000 in
theorem distEq_walk (A : Option Addr) (len c : Nat) (f : Nat → Int) (w : World) (hlc : len ≤ c) (hc : c ≤ maxLen) (hB : Byt w w.heap.size A len f) :
   Calls Try.prog 8 #[.slice A len c] w fun e w' => e = .returned (.bool true) ∧ Below w.heap.size w w' := by
  have HB := Lib.hid hB
  clear hB
  by_cases hl : len ≤ 1048576
  · go_enter Try.func8, Try.ntmps8
    go_wp2_with fail
    refine (drawDist_any A len c f w hlc hc HB.out).mono ?_
    rintro e w1 ⟨n, ls, A1, g1, c1, x, rfl, ⟨hn0, hn1, hls, hg1, ho1, hb1⟩, hx0, hx1⟩
    have L1 := Lib.hid (show LB w w1.heap.size n ls A1 g1 c1 (w1.alloc (.cells #[.int .i64 n, .slice A1 ls.length c1] 30)) from ⟨Box.new w1 _ _, ho1.alloc _, hb1.alloc hb1.size _⟩)
    clear ho1 hb1 HB
    generalize hG : w1.heap.size = G at *
    go_wp2_with fail
    refine (dist_impl n A1 ls c1 x _ (by omega) L1.out.2.1.sl).mono ?_
    rintro e w2 ⟨A2, g2, c2, rfl, hg2, ho2, hb2⟩
    have L2 := Lib.hid (L1.out.call hb2)
    have P2 := Lib.hid ho2
    clear hb2 L1 hG ho2
    obtain ⟨z2, c20, c21, -, -⟩ := L2.out.1.two
    go_wp2_with fail
    refine (dist_spec n A1 ls c1 x w2 (by omega) (by omega) L2.out.2.1.sl).mono ?_
    rintro e w3 ⟨A3, g3, c3, rfl, hg3, ho3, hb3⟩
    have L3 := Lib.hid (L2.out.call hb3)
    have P3 := Lib.hid (P2.out.below hb3)
    have Q3 := Lib.hid ho3
    clear hb3 L2 z2 c20 c21 P2 ho3
    obtain ⟨z3, c30, c31, -, -⟩ := L3.out.1.two
    have hrs : (distL n ls x).length ≤ 8 := distL_len n ls x
    have HF : Hid (distL n ls x ≠ [] → gvB n ls = true ∧ (0 ≤ x ∧ x < n) ∧ ((distL n ls x).length : Int) = n ∧ (∀ v : Int, -1 ≤ bf n ls x v ∧ bf n ls x v ≤ 140) ∧ ∀ k : Nat, (k : Int) < n → (distL n ls x)[k]? = some (bf n ls x k)) := Lib.hid (fun h => by
      obtain ⟨hv, h0, h1⟩ := vwB_inv (distL_some h)
      obtain ⟨m, rfl⟩ : ∃ m : Nat, n = (m : Int) := ⟨n.toNat, by omega⟩
      obtain ⟨hf, _, h8, _⟩ := gvB_fit hv
      exact ⟨hv, ⟨h0, h1⟩, by rw [distL_length hv ⟨h0, h1⟩], fun v => bf_bound hf ⟨h0, h1⟩ h8 v, fun k hk => distL_at hv ⟨h0, h1⟩ (by omega)⟩)
    generalize distL n ls x = xs at *
    go_wp2_with fail
    refine (sameInts_same A2 A3 xs c2 c3 w3 (by omega) P3.out.sli Q3.out.sli).mono ?_
    rintro e w4 ⟨rfl, hb4⟩
    have L4 := Lib.hid (L3.out.call hb4)
    have P4 := Lib.hid (P3.out.below hb4)
    have Q4 := Lib.hid (Q3.out.below hb4)
    clear hb4 L3 P3 Q3 z3 c30 c31 hg2 hg3
    obtain ⟨z4, c40, c41, -, -⟩ := L4.out.1.two
    by_cases hz : xs.length = 0
    · have hz' : ((xs.length : Int) == 0) = true := by simp [hz]
      clear HF hz
      go_wp2_with fail
      refine (sameInts_same A2 A3 xs c2 c3 w4 (by omega) P4.out.sli Q4.out.sli).mono ?_
      rintro e w5 ⟨rfl, hb5⟩
      have L5 := Lib.hid (L4.out.call hb5)
      go_wp2_with fail
      go_ret
      exact ⟨rfl, L5.out.2.2⟩
    · have hz' : ((xs.length : Int) == 0) = false := by simpa using hz
      have hxs : 0 < xs.length := by omega
      have HF := Lib.hid (HF.out (by intro e; rw [e] at hz; exact hz rfl))
      clear hz Q4
      obtain ⟨hv, hx, hlen, hbd, hat⟩ := HF.out
      have HV := Lib.hid hv
      have HAT := Lib.hid hat
      have HBD := Lib.hid hbd
      have HLEN := Lib.hid hlen
      clear hv hat hbd hlen
      obtain ⟨m, rfl⟩ : ∃ m : Nat, n = (m : Int) := ⟨n.toNat, by omega⟩
      go_wp2_with fail
      go_loopw [7] (fun i wr => ∃ k : Nat, k ≤ m ∧ i = .int .i64 k ∧ LB w G m ls A1 g1 c1 wr ∧ Own1i wr A2 g2 xs) (fun i _ => m - (intOf i).toNat)
      case atStart => exact ⟨0, Nat.zero_le _, rfl, L4.out, P4.out⟩
      case round =>
        obtain ⟨k, hk, rfl, hL, hP⟩ := hrel
        have L6 := Lib.hid hL
        have P6 := Lib.hid hP
        clear hL hP L4 P4 z4 c40 c41
        obtain ⟨z6, c60, c61, -, -⟩ := L6.out.1.two
        by_cases hlt : k < m
        · by_cases hkx : (k : Int) = x
          · have hkx' : ((k : Int) == x) = true := by simp [hkx]
            have HB0 := Lib.hid (BestI.start0 (n := (m : Int)) (ls := ls) (s := x) (y := (k : Int)) (zs := nbI (m : Int) ls (k : Int)) hkx)
            clear hkx
            go_wp2_with fail
            refine (nb_impl m A1 ls c1 k _ (by omega) L6.out.2.1.sl).mono ?_
            rintro e w7 ⟨A5, g5, c5, rfl, hg5, ho5, hb5⟩
            have L7 := Lib.hid (L6.out.call hb5)
            have P7 := Lib.hid (P6.out.below hb5)
            have R7 := Lib.hid ho5
            clear hb5 ho5 hg5 z6 c60 c61 L6 P6
            have hn := nbI_len m ls k
            obtain ⟨zs, hzs⟩ : ∃ zs, nbI (m : Int) ls (k : Int) = zs := ⟨_, rfl⟩
            rw [hzs] at R7 HB0 hn
            rw [hzs]
            have HZS := Lib.hid hzs
            clear hzs
            go_wp2_with fail
            go_loopw [8, 10] (fun b i wr => ∃ (j : Nat) (bb : Int), j ≤ zs.length ∧ i = .int .i64 j ∧ b = .int .i64 bb ∧ BestI (m : Int) ls x (k : Int) zs j bb ∧ LB w G m ls A1 g1 c1 wr ∧ Own1i wr A2 g2 xs ∧ Own1i wr A5 g5 zs) (fun _ i _ => zs.length - (intOf i).toNat)
            case atStart => exact ⟨0, _, Nat.zero_le _, rfl, rfl, HB0.out, L7.out, P7.out, R7.out⟩
            case round =>
              obtain ⟨j, bb, hj, rfl, rfl, hB, hL, hP, hR⟩ := hrel
              have L8 := Lib.hid hL
              have P8 := Lib.hid hP
              have R8 := Lib.hid hR
              have HB8 := Lib.hid hB
              have hbb := hB.bound HV.out hx
              clear hL hP hR hB L7 P7 R7 HB0
              obtain ⟨z8, c80, c81, -, -⟩ := L8.out.1.two
              by_cases hlt2 : j < zs.length
              · obtain ⟨z, hz⟩ : ∃ z, zs[j]? = some z := ⟨_, List.getElem?_eq_getElem hlt2⟩
                obtain ⟨q, l, hlk, hql, hadj, -, -⟩ := nbI_link HV.out (show z ∈ nbI (m : Int) ls (k : Int) by rw [HZS.out]; exact List.mem_of_getElem? hz)
                have hfa := (gvB_fit HV.out).1.adj hadj
                have hnx := HB8.out.next HV.out hz hadj
                obtain ⟨zn, rfl⟩ : ∃ zn : Nat, z = (zn : Int) := ⟨z.toNat, by omega⟩
                have hbz := HBD.out (zn : Int)
                have hzz := HAT.out zn (by omega)
                generalize bf (m : Int) ls x (zn : Int) = d at *
                have HNX := Lib.hid hnx
                have HZZ := Lib.hid hzz
                have HQL := Lib.hid hql
                have HZ := Lib.hid hz
                have CI := link_impl m A1 ls c1 k zn _ (by omega) L8.out.drew.2.1.sl
                rw [hlk] at CI
                have hqlt := (List.getElem?_eq_some_iff.1 hql).1
                have hznl := (List.getElem?_eq_some_iff.1 hzz).1
                obtain ⟨rfl, p0, p1, p2⟩ := L8.out.link hql
                obtain ⟨rfl, zg5, hc5⟩ := R8.out.at hz
                obtain ⟨rfl, zg2, hc2⟩ := P8.out.at hzz
                obtain ⟨la, lb, lc⟩ := l
                dsimp only at *
                clear hnx hzz hql hz hlk hadj p0 p1
                go_wp2_with fail
                go_region_law (go_simp; go_at_call 34; refine CI.mono ?_; rintro e w9 ⟨rfl, hb9⟩; have L9 := Lib.hid (L8.out.drew.call hb9); have P9 := Lib.hid (P8.out.drew.below hb9); have R9 := Lib.hid (R8.out.drew.below hb9); obtain ⟨z9, c90, c91, -, -⟩ := L9.out.1.two; obtain ⟨-, -, -, p92⟩ := L9.out.link HQL.out; obtain ⟨-, zg59, hc59⟩ := R9.out.at HZ.out; obtain ⟨-, zg29, hc29⟩ := P9.out.at HZZ.out; clear hb9)
                all_goals
                  clear CI c80 c81 z8 p2 hc5 hc2 zg5 zg2
                  by_cases hA : 0 ≤ d
                  · by_cases hC : bb < 0
                    · go_wp2_with fail
                      go_roundw
                      case rel =>
                        have h := HNX.out
                        rw [if_pos ⟨hA, .inl hC⟩] at h
                        exact ⟨j + 1, _, hlt2, by go_num, rfl, h, L9.out, P9.out, R9.out⟩
                      case measure => simp [intOf]; omega
                    · have hC' : decide (bb < 0) = false := by simpa using hC
                      by_cases hE : d + lc < bb
                      · go_wp2_with fail
                        go_roundw
                        case rel =>
                          have h := HNX.out
                          rw [if_pos ⟨hA, .inr hE⟩] at h
                          exact ⟨j + 1, _, hlt2, by go_num, rfl, h, L9.out, P9.out, R9.out⟩
                        case measure => simp [intOf]; omega
                      · have hE' : decide (d + lc < bb) = false := by simpa using hE
                        go_wp2_with fail
                        go_roundw
                        case rel =>
                          have h := HNX.out
                          rw [if_neg (by omega)] at h
                          exact ⟨j + 1, _, hlt2, by go_num, rfl, h, L9.out, P9.out, R9.out⟩
                        case measure => simp [intOf]; omega
                  · have hA' : decide (0 ≤ d) = false := by simpa using hA
                    go_wp2_with fail
                    go_roundw
                    case rel =>
                      have h := HNX.out
                      rw [if_neg (by omega)] at h
                      exact ⟨j + 1, _, hlt2, by go_num, rfl, h, L9.out, P9.out, R9.out⟩
                    case measure => simp [intOf]; omega
              · obtain rfl : j = zs.length := by omega
                have hdn : bb = bf (m : Int) ls x (k : Int) := by
                  have h := HB8.out
                  rw [← HZS.out] at h
                  exact h.done HV.out hx
                have hkk := HAT.out k (by omega)
                rw [← hdn] at hkk
                have hkl := (List.getElem?_eq_some_iff.1 hkk).1
                obtain ⟨rfl, zg2, hc2⟩ := P8.out.at hkk
                clear hkk hdn
                go_wp2_with fail
                go_roundw
                case rel => exact ⟨k + 1, hlt, by go_num, L8.out, P8.out⟩
                case measure => simp [intOf]; omega
          · have hkx' : ((k : Int) == x) = false := by simpa using hkx
            have HB0 := Lib.hid (BestI.start1 (n := (m : Int)) (ls := ls) (s := x) (y := (k : Int)) (zs := nbI (m : Int) ls (k : Int)) hkx)
            clear hkx
            go_wp2_with fail
            refine (nb_impl m A1 ls c1 k _ (by omega) L6.out.2.1.sl).mono ?_
            rintro e w7 ⟨A5, g5, c5, rfl, hg5, ho5, hb5⟩
            have L7 := Lib.hid (L6.out.call hb5)
            have P7 := Lib.hid (P6.out.below hb5)
            have R7 := Lib.hid ho5
            clear hb5 ho5 hg5 z6 c60 c61 L6 P6
            have hn := nbI_len m ls k
            obtain ⟨zs, hzs⟩ : ∃ zs, nbI (m : Int) ls (k : Int) = zs := ⟨_, rfl⟩
            rw [hzs] at R7 HB0 hn
            rw [hzs]
            have HZS := Lib.hid hzs
            clear hzs
            go_wp2_with fail
            go_loopw [8, 10] (fun b i wr => ∃ (j : Nat) (bb : Int), j ≤ zs.length ∧ i = .int .i64 j ∧ b = .int .i64 bb ∧ BestI (m : Int) ls x (k : Int) zs j bb ∧ LB w G m ls A1 g1 c1 wr ∧ Own1i wr A2 g2 xs ∧ Own1i wr A5 g5 zs) (fun _ i _ => zs.length - (intOf i).toNat)
            case atStart => exact ⟨0, _, Nat.zero_le _, rfl, rfl, HB0.out, L7.out, P7.out, R7.out⟩
            case round =>
              obtain ⟨j, bb, hj, rfl, rfl, hB, hL, hP, hR⟩ := hrel
              have L8 := Lib.hid hL
              have P8 := Lib.hid hP
              have R8 := Lib.hid hR
              have HB8 := Lib.hid hB
              have hbb := hB.bound HV.out hx
              clear hL hP hR hB L7 P7 R7 HB0
              obtain ⟨z8, c80, c81, -, -⟩ := L8.out.1.two
              by_cases hlt2 : j < zs.length
              · obtain ⟨z, hz⟩ : ∃ z, zs[j]? = some z := ⟨_, List.getElem?_eq_getElem hlt2⟩
                obtain ⟨q, l, hlk, hql, hadj, -, -⟩ := nbI_link HV.out (show z ∈ nbI (m : Int) ls (k : Int) by rw [HZS.out]; exact List.mem_of_getElem? hz)
                have hfa := (gvB_fit HV.out).1.adj hadj
                have hnx := HB8.out.next HV.out hz hadj
                obtain ⟨zn, rfl⟩ : ∃ zn : Nat, z = (zn : Int) := ⟨z.toNat, by omega⟩
                have hbz := HBD.out (zn : Int)
                have hzz := HAT.out zn (by omega)
                generalize bf (m : Int) ls x (zn : Int) = d at *
                have HNX := Lib.hid hnx
                have HZZ := Lib.hid hzz
                have HQL := Lib.hid hql
                have HZ := Lib.hid hz
                have CI := link_impl m A1 ls c1 k zn _ (by omega) L8.out.drew.2.1.sl
                rw [hlk] at CI
                have hqlt := (List.getElem?_eq_some_iff.1 hql).1
                have hznl := (List.getElem?_eq_some_iff.1 hzz).1
                obtain ⟨rfl, p0, p1, p2⟩ := L8.out.link hql
                obtain ⟨rfl, zg5, hc5⟩ := R8.out.at hz
                obtain ⟨rfl, zg2, hc2⟩ := P8.out.at hzz
                obtain ⟨la, lb, lc⟩ := l
                dsimp only at *
                clear hnx hzz hql hz hlk hadj p0 p1
                go_wp2_with fail
                go_region_law (go_simp; go_at_call 34; refine CI.mono ?_; rintro e w9 ⟨rfl, hb9⟩; have L9 := Lib.hid (L8.out.drew.call hb9); have P9 := Lib.hid (P8.out.drew.below hb9); have R9 := Lib.hid (R8.out.drew.below hb9); obtain ⟨z9, c90, c91, -, -⟩ := L9.out.1.two; obtain ⟨-, -, -, p92⟩ := L9.out.link HQL.out; obtain ⟨-, zg59, hc59⟩ := R9.out.at HZ.out; obtain ⟨-, zg29, hc29⟩ := P9.out.at HZZ.out; clear hb9)
                all_goals
                  clear CI c80 c81 z8 p2 hc5 hc2 zg5 zg2
                  by_cases hA : 0 ≤ d
                  · by_cases hC : bb < 0
                    · go_wp2_with fail
                      go_roundw
                      case rel =>
                        have h := HNX.out
                        rw [if_pos ⟨hA, .inl hC⟩] at h
                        exact ⟨j + 1, _, hlt2, by go_num, rfl, h, L9.out, P9.out, R9.out⟩
                      case measure => simp [intOf]; omega
                    · have hC' : decide (bb < 0) = false := by simpa using hC
                      by_cases hE : d + lc < bb
                      · go_wp2_with fail
                        go_roundw
                        case rel =>
                          have h := HNX.out
                          rw [if_pos ⟨hA, .inr hE⟩] at h
                          exact ⟨j + 1, _, hlt2, by go_num, rfl, h, L9.out, P9.out, R9.out⟩
                        case measure => simp [intOf]; omega
                      · have hE' : decide (d + lc < bb) = false := by simpa using hE
                        go_wp2_with fail
                        go_roundw
                        case rel =>
                          have h := HNX.out
                          rw [if_neg (by omega)] at h
                          exact ⟨j + 1, _, hlt2, by go_num, rfl, h, L9.out, P9.out, R9.out⟩
                        case measure => simp [intOf]; omega
                  · have hA' : decide (0 ≤ d) = false := by simpa using hA
                    go_wp2_with fail
                    go_roundw
                    case rel =>
                      have h := HNX.out
                      rw [if_neg (by omega)] at h
                      exact ⟨j + 1, _, hlt2, by go_num, rfl, h, L9.out, P9.out, R9.out⟩
                    case measure => simp [intOf]; omega
              · obtain rfl : j = zs.length := by omega
                have hdn : bb = bf (m : Int) ls x (k : Int) := by
                  have h := HB8.out
                  rw [← HZS.out] at h
                  exact h.done HV.out hx
                have hkk := HAT.out k (by omega)
                rw [← hdn] at hkk
                have hkl := (List.getElem?_eq_some_iff.1 hkk).1
                obtain ⟨rfl, zg2, hc2⟩ := P8.out.at hkk
                clear hkk hdn
                go_wp2_with fail
                go_roundw
                case rel => exact ⟨k + 1, hlt, by go_num, L8.out, P8.out⟩
                case measure => simp [intOf]; omega
        · have hge : m ≤ k := by omega
          have hl := HLEN.out
          have hl' : ((xs.length : Int) == (m : Int)) = true := by simpa using hl
          clear hl
          go_wp2_with fail
          go_ret
          exact ⟨rfl, L6.out.2.2⟩
  · go_enter Try.func8, Try.ntmps8
    go_wp2
    go_ret
    exact ⟨rfl, by (repeat (first | exact Below.refl _ _ | (refine Below.alloc ?_ (by first | exact Nat.le_refl _ | omega | (simp; done) | (simp; omega)) _) | (refine Below.setCell ?_ (by first | exact Nat.le_refl _ | omega | (simp; done) | (simp; omega)) _) | exact Below.drew ‹_›))⟩
end Go.Proofs.Ytigamnnboojiiaa
