/-
  The walk of FnNeeded over this seat.
-/
import Derived.Test.YtenlofomkchlaaaVm
import Derived.Test.YtenlofomkchlaaaA8
namespace Go.Proofs.Ytenlofomkchlaaa
open Go.RowKit Go.Maps

set_option maxRecDepth 100000 in
set_option maxHeartbeats 1600000 in
theorem fnNeeded_walk (A : Option Addr) (len c : Nat) (f : Nat → Int) (w : World) (hlc : len ≤ c) (hc : c ≤ maxLen) (hB : Byt w w.heap.size A len f) :
   Calls Try.prog 8 #[.slice A len c] w fun e w' => e = .returned (.bool true) ∧ Below w.heap.size w w' := by
  have HB := Lib.hid hB
  clear hB
  by_cases hl : len ≤ 1048576
  · go_enter Try.func8, Try.ntmps8
    go_wp2_with fail
    refine (drawRepN_any A len c f w hlc hc HB.out).mono ?_
    rintro e w1 ⟨n, ls, A1, g1, c1, x, y, rfl, ⟨hn0, hn1, hls, hg1, ho1, hb1⟩, hx0, hx1, hy0, hy1, hcap⟩
    have L1 := Lib.hid (show LB w w1.heap.size n ls A1 g1 c1 (w1.alloc (.cells #[.int .i64 n, .slice A1 ls.length c1] 30)) from ⟨Box.new w1 _ _, ho1.alloc _, hb1.alloc hb1.size _⟩)
    clear ho1 hb1 HB
    generalize hG : w1.heap.size = G at *
    go_wp2_with fail
    refine (repNeed_impl n A1 ls c1 x y _ (by omega) L1.out.2.1.sl).mono ?_
    rintro e w2 ⟨A2, g2, c2, rfl, hg2, ho2, hb2⟩
    have L2 := Lib.hid (L1.out.call hb2)
    have P2 := Lib.hid ho2
    clear hb2 L1 hG ho2
    obtain ⟨z2, c20, c21, -, -⟩ := L2.out.1.two
    go_wp2_with fail
    refine (repNeed_spec n A1 ls c1 x y w2 (by omega) (by omega) L2.out.2.1.sl).mono ?_
    rintro e w3 ⟨A3, g3, c3, rfl, hg3, ho3, hb3⟩
    have L3 := Lib.hid (L2.out.call hb3)
    have P3 := Lib.hid (P2.out.below hb3)
    have Q3 := Lib.hid ho3
    clear hb3 L2 z2 c20 c21 P2 ho3
    obtain ⟨z3, c30, c31, -, -⟩ := L3.out.1.two
    have hrs : (needA n ls x y).length ≤ 8 := needA_len8 n ls x y
    have HF := Lib.hid (fun h => need_law (n := n) (ls := ls) (s := x) (x := y) hn0 h)
    have hrl := reachL_len8 n ls x
    have hsl := safeA_len8 n ls x y
    have CR := fun W (h : Sl W W.heap.size A1 ls) => reach_impl n A1 ls c1 x W (by omega) h
    have CF := fun W (h : Sl W W.heap.size A1 ls) => repSafe_impl n A1 ls c1 x y W (by omega) h
    generalize reachL n ls x = rs at *
    generalize safeA n ls x y = fs at *
    generalize needA n ls x y = xs at *
    go_wp2_with fail
    refine (sameInts_same A2 A3 xs c2 c3 w3 (by omega) P3.out.sli Q3.out.sli).mono ?_
    rintro e w4 ⟨rfl, hb4⟩
    have L4 := Lib.hid (L3.out.call hb4)
    have P4 := Lib.hid (P3.out.below hb4)
    have Q4 := Lib.hid (Q3.out.below hb4)
    clear hb4 L3 P3 Q3 z3 c30 c31 hg2 hg3
    obtain ⟨z4, c40, c41, -, -⟩ := L4.out.1.two
    have CV := valid_spec_any n A1 ls c1 w4 (by omega) (by omega) L4.out.2.1.sl
    have CE := fun W (h1 : Sli W W.heap.size A2 xs) (h2 : Sli W W.heap.size A3 xs) => sameInts_same A2 A3 xs c2 c3 W (by omega) h1 h2
    have HROK := Lib.hid (show rokB n ls x y = (gvB n ls && inB x 0 (n - 1) && idxB ls y) by unfold rokB vwB; simp)
    go_wp2_with fail
    refine (CV).mono ?_
    rintro e w5 ⟨rfl, hb⟩
    have L5 := Lib.hid (L4.out.call hb)
    have P5 := Lib.hid (P4.out.below hb)
    have Q5 := Lib.hid (Q4.out.below hb)
    clear hb L4 P4 Q4 z4 c40 c41
    obtain ⟨z5, c50, c51, -, -⟩ := L5.out.1.two
    cases hr : rokB n ls x y with
    | false =>
      have hno : gvB n ls = false ∨ y < 0 ∨ (ls.length : Int) ≤ y ∨ x < 0 ∨ n ≤ x := by
        rw [HROK.out] at hr
        unfold inB idxB at hr
        cases hg : gvB n ls with
        | false => exact .inl rfl
        | true =>
          rw [hg] at hr
          simp at hr
          omega
      clear hr HF
      rcases hno with h | h | h | h | h
      · rw [h]
        go_wp2_with fail
        refine (CE _ P5.out.sli Q5.out.sli).mono ?_
        rintro e w6 ⟨rfl, hb⟩
        have L6 := Lib.hid (L5.out.call hb)
        go_wp2_with fail
        go_ret
        exact ⟨rfl, L6.out.2.2⟩
      · cases gvB n ls
        · go_wp2_with fail
          refine (CE _ P5.out.sli Q5.out.sli).mono ?_
          rintro e w6 ⟨rfl, hb⟩
          have L6 := Lib.hid (L5.out.call hb)
          go_wp2_with fail
          go_ret
          exact ⟨rfl, L6.out.2.2⟩
        · go_wp2_with fail
          refine (CE _ P5.out.sli Q5.out.sli).mono ?_
          rintro e w6 ⟨rfl, hb⟩
          have L6 := Lib.hid (L5.out.call hb)
          go_wp2_with fail
          go_ret
          exact ⟨rfl, L6.out.2.2⟩
      · cases gvB n ls
        · go_wp2_with fail
          refine (CE _ P5.out.sli Q5.out.sli).mono ?_
          rintro e w6 ⟨rfl, hb⟩
          have L6 := Lib.hid (L5.out.call hb)
          go_wp2_with fail
          go_ret
          exact ⟨rfl, L6.out.2.2⟩
        · by_cases h0 : y < 0
          · go_wp2_with fail
            refine (CE _ P5.out.sli Q5.out.sli).mono ?_
            rintro e w6 ⟨rfl, hb⟩
            have L6 := Lib.hid (L5.out.call hb)
            go_wp2_with fail
            go_ret
            exact ⟨rfl, L6.out.2.2⟩
          · go_wp2_with fail
            refine (CE _ P5.out.sli Q5.out.sli).mono ?_
            rintro e w6 ⟨rfl, hb⟩
            have L6 := Lib.hid (L5.out.call hb)
            go_wp2_with fail
            go_ret
            exact ⟨rfl, L6.out.2.2⟩
      · cases gvB n ls
        · go_wp2_with fail
          refine (CE _ P5.out.sli Q5.out.sli).mono ?_
          rintro e w6 ⟨rfl, hb⟩
          have L6 := Lib.hid (L5.out.call hb)
          go_wp2_with fail
          go_ret
          exact ⟨rfl, L6.out.2.2⟩
        · by_cases h0 : y < 0
          · go_wp2_with fail
            refine (CE _ P5.out.sli Q5.out.sli).mono ?_
            rintro e w6 ⟨rfl, hb⟩
            have L6 := Lib.hid (L5.out.call hb)
            go_wp2_with fail
            go_ret
            exact ⟨rfl, L6.out.2.2⟩
          · by_cases h1 : (ls.length : Int) ≤ y
            · go_wp2_with fail
              refine (CE _ P5.out.sli Q5.out.sli).mono ?_
              rintro e w6 ⟨rfl, hb⟩
              have L6 := Lib.hid (L5.out.call hb)
              go_wp2_with fail
              go_ret
              exact ⟨rfl, L6.out.2.2⟩
            · go_wp2_with fail
              refine (CE _ P5.out.sli Q5.out.sli).mono ?_
              rintro e w6 ⟨rfl, hb⟩
              have L6 := Lib.hid (L5.out.call hb)
              go_wp2_with fail
              go_ret
              exact ⟨rfl, L6.out.2.2⟩
      · cases gvB n ls
        · go_wp2_with fail
          refine (CE _ P5.out.sli Q5.out.sli).mono ?_
          rintro e w6 ⟨rfl, hb⟩
          have L6 := Lib.hid (L5.out.call hb)
          go_wp2_with fail
          go_ret
          exact ⟨rfl, L6.out.2.2⟩
        · by_cases h0 : y < 0
          · go_wp2_with fail
            refine (CE _ P5.out.sli Q5.out.sli).mono ?_
            rintro e w6 ⟨rfl, hb⟩
            have L6 := Lib.hid (L5.out.call hb)
            go_wp2_with fail
            go_ret
            exact ⟨rfl, L6.out.2.2⟩
          · by_cases h1 : (ls.length : Int) ≤ y
            · go_wp2_with fail
              refine (CE _ P5.out.sli Q5.out.sli).mono ?_
              rintro e w6 ⟨rfl, hb⟩
              have L6 := Lib.hid (L5.out.call hb)
              go_wp2_with fail
              go_ret
              exact ⟨rfl, L6.out.2.2⟩
            · by_cases h2 : x < 0
              · go_wp2_with fail
                refine (CE _ P5.out.sli Q5.out.sli).mono ?_
                rintro e w6 ⟨rfl, hb⟩
                have L6 := Lib.hid (L5.out.call hb)
                go_wp2_with fail
                go_ret
                exact ⟨rfl, L6.out.2.2⟩
              · go_wp2_with fail
                refine (CE _ P5.out.sli Q5.out.sli).mono ?_
                rintro e w6 ⟨rfl, hb⟩
                have L6 := Lib.hid (L5.out.call hb)
                go_wp2_with fail
                go_ret
                exact ⟨rfl, L6.out.2.2⟩
    | true =>
      have hgd : gvB n ls = true ∧ (0 ≤ x ∧ x < n) ∧ 0 ≤ y ∧ y < (ls.length : Int) := rok_parts hr
      obtain ⟨hall, hsum⟩ := HF.out hr
      obtain ⟨hg, ⟨hx0', hx1'⟩, hy0', hy1'⟩ := hgd
      have HALL := Lib.hid hall
      have HSUM := Lib.hid hsum
      rw [hg]
      have n1 : ¬ y < 0 := by omega
      have n2 : ¬ (ls.length : Int) ≤ y := by omega
      have n3 : ¬ x < 0 := by omega
      have n4 : ¬ n ≤ x := by omega
      clear hall hsum HF hr hg HROK
      go_wp2_with fail
      refine (CF _ L5.out.2.1.sl).mono ?_
      clear CF
      rintro e w6 ⟨A6, g6, c6, rfl, -, ho6, hb⟩
      have L6 := Lib.hid (L5.out.call hb)
      have P6 := Lib.hid (P5.out.below hb)
      have F6 := Lib.hid ho6
      clear hb ho6 L5 P5 Q5 z5 c50 c51
      obtain ⟨z6, c60, c61, -, -⟩ := L6.out.1.two
      go_wp2_with fail
      refine (CR _ L6.out.2.1.sl).mono ?_
      clear CR
      rintro e w7 ⟨A7, g7, c7, rfl, -, ho7, hb⟩
      have L7 := Lib.hid (L6.out.call hb)
      have P7 := Lib.hid (P6.out.below hb)
      have F7 := Lib.hid (F6.out.below hb)
      have R7 := Lib.hid ho7
      clear hb ho7 L6 P6 F6 z6 c60 c61
      go_wp2_with fail
      go_loopw [10] (fun i wr => ∃ k : Nat, (k : Int) ≤ n ∧ i = .int .i64 (k : Int) ∧ Hid (LB w G n ls A1 g1 c1 wr) ∧ Hid (Own1i wr A2 g2 xs) ∧ Hid (Own1i wr A6 g6 fs) ∧ Hid (Own1i wr A7 g7 rs)) (fun i _ => n.toNat - (intOf i).toNat)
      case atStart => exact ⟨0, hn0, rfl, L7, P7, F7, R7⟩
      case round =>
        obtain ⟨k, hk, rfl, L8, P8, F8, R8⟩ := hrel
        clear L7 P7 F7 R7
        obtain ⟨zg, d0, d1, -, -⟩ := L8.out.1.two
        by_cases hlt : (k : Int) < n
        · have C1 := hasInt_any A7 rs c7 (k : Int) wr (by omega) R8.out.sli
          have C2 := fun W (h : Sli W W.heap.size A2 xs) => hasInt_any A2 xs c2 (k : Int) W (by omega) h
          have C3 := fun W (h : Sli W W.heap.size A6 fs) => hasInt_any A6 fs c6 (k : Int) W (by omega) h
          rw [HALL.out (k : Int) (by omega) hlt] at C1
          generalize decide ((k : Int) ∈ xs) = p at *
          generalize decide ((k : Int) ∈ fs) = q at *
          cases p <;> cases q
          all_goals
            go_wp2_with fail
            refine (C1).mono ?_
            rintro e w9 ⟨rfl, hb⟩
            have L9 := Lib.hid (L8.out.call hb)
            have P9 := Lib.hid (P8.out.below hb)
            have F9 := Lib.hid (F8.out.below hb)
            have R9 := Lib.hid (R8.out.below hb)
            clear hb L8 P8 F8 R8 zg d0 d1
            go_wp2_with fail
            refine (C2 _ P9.out.sli).mono ?_
            rintro e w10 ⟨rfl, hb⟩
            have L10 := Lib.hid (L9.out.call hb)
            have P10 := Lib.hid (P9.out.below hb)
            have F10 := Lib.hid (F9.out.below hb)
            have R10 := Lib.hid (R9.out.below hb)
            clear hb L9 P9 F9 R9 
            go_wp2_with fail
            refine (C3 _ F10.out.sli).mono ?_
            rintro e w11 ⟨rfl, hb⟩
            have L11 := Lib.hid (L10.out.call hb)
            have P11 := Lib.hid (P10.out.below hb)
            have F11 := Lib.hid (F10.out.below hb)
            have R11 := Lib.hid (R10.out.below hb)
            clear hb L10 P10 F10 R10 
            go_wp2_with fail
            go_roundw
            case rel => exact ⟨k + 1, by omega, by go_num, L11, P11, F11, R11⟩
            case measure => simp [intOf]; omega
        · have hsm : ((xs.length : Int) + (fs.length : Int) == (rs.length : Int)) = true := by have := HSUM.out; simp; omega
          have hw : IntKind.i64.wrap ((xs.length : Int) + (fs.length : Int)) = (xs.length : Int) + (fs.length : Int) := IntWalk.i64_in _ (by omega)
          go_wp2_with fail
          go_ret
          exact ⟨ret_bool (by first | exact hsm.symm | exact hsm | rfl), L8.out.2.2⟩
  · go_enter Try.func8, Try.ntmps8
    go_wp2
    go_ret
    exact ⟨rfl, by (repeat (first | exact Below.refl _ _ | (refine Below.alloc ?_ (by first | exact Nat.le_refl _ | omega | (simp; done) | (simp; omega)) _) | (refine Below.setCell ?_ (by first | exact Nat.le_refl _ | omega | (simp; done) | (simp; omega)) _) | exact Below.drew ‹_›))⟩
end Go.Proofs.Ytenlofomkchlaaa
