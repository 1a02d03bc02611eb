/-
  The walk of FnNextHops over this seat.
-/
import Derived.Test.YtmkjcdfoiabecaaHb
import Derived.Test.YtmkjcdfoiabecaaUs
import Derived.Test.YtmkjcdfoiabecaaA8
namespace Go.Proofs.Ytmkjcdfoiabecaa
open Go.RowKit

theorem LB.drewN {w w1 : World} {G : Nat} {n : Int} {ls : List Lk} {A' : Option Addr} {g' c' : Nat} (h : LB w G n ls A' g' c' w1) (q : Nat) : LB w G n ls A' g' c' (w1.drewN q) := ⟨h.1, h.2.1, below_drewN h.2.2 q⟩

set_option maxRecDepth 100000 in
set_option maxHeartbeats 1600000 in
theorem nextHops_walk (A : Option Addr) (len c : Nat) (f : Nat → Int) (w : World) (hlc : len ≤ c) (hc : c ≤ maxLen) (hB : Byt w w.heap.size A len f) :
   Calls Try.prog 7 #[.slice A len c] w fun e w' => e = .returned (.bool true) ∧ Below w.heap.size w w' := by
  have HB := Lib.hid hB
  clear hB
  by_cases hl : len ≤ 1048576
  · go_enter Try.func7, Try.ntmps7
    go_wp2_with fail
    refine (drawHops_any A len c f w hlc hc HB.out).mono ?_
    rintro e w1 ⟨n, ls, A1, g1, c1, x, y, rfl, ⟨hn0, hn1, hls, hg1, ho1, hb1⟩, hx0, hx1, hy0, hy1⟩
    have L1 := Lib.hid (show LB w w1.heap.size n ls A1 g1 c1 (w1.alloc (.cells #[.int .i64 n, .slice A1 ls.length c1] 30)) from ⟨Box.new w1 _ _, ho1.alloc _, hb1.alloc hb1.size _⟩)
    clear ho1 hb1 HB
    generalize hG : w1.heap.size = G at *
    go_wp2_with fail
    refine (hops_impl n A1 ls c1 x y _ (by omega) L1.out.2.1.sl).mono ?_
    rintro e w2 ⟨A2, g2, c2, rfl, hg2, ho2, hb2⟩
    have L2 := Lib.hid (L1.out.call hb2)
    have P2 := Lib.hid ho2
    clear hb2 L1 hG ho2
    obtain ⟨z2, c20, c21, -, -⟩ := L2.out.1.two
    go_wp2_with fail
    refine (hops_spec n A1 ls c1 x y w2 (by omega) (by omega) L2.out.2.1.sl).mono ?_
    rintro e w3 ⟨A3, g3, c3, rfl, hg3, ho3, hb3⟩
    have L3 := Lib.hid (L2.out.call hb3)
    have P3 := Lib.hid (P2.out.below hb3)
    have Q3 := Lib.hid ho3
    clear hb3 L2 z2 c20 c21 P2 ho3
    obtain ⟨z3, c30, c31, -, -⟩ := L3.out.1.two
    have hrs : (hopsL n ls x y).length ≤ 8 := hops_len n ls x y
    have HF : Hid (vwB n ls [x, y] = true → hopsL n ls x y = (nbI n ls x).filter (hopB n ls x y)) := Lib.hid hops_eq
    have HP := Lib.hid (hops_asc n ls x y)
    generalize hopsL n ls x y = xs at *
    go_wp2_with fail
    refine (sameInts_same A2 A3 xs c2 c3 w3 (by omega) P3.out.sli Q3.out.sli).mono ?_
    rintro e w4 ⟨rfl, hb4⟩
    have L4 := Lib.hid (L3.out.call hb4)
    have P4 := Lib.hid (P3.out.below hb4)
    have Q4 := Lib.hid (Q3.out.below hb4)
    clear hb4 L3 P3 Q3 z3 c30 c31 hg2 hg3
    obtain ⟨z4, c40, c41, -, -⟩ := L4.out.1.two
    go_wp2_with fail
    refine (valid_spec_any n A1 ls c1 w4 (by omega) (by omega) L4.out.2.1.sl).mono ?_
    rintro e w5 ⟨rfl, hb5⟩
    have L5 := Lib.hid (L4.out.call hb5)
    have P5 := Lib.hid (P4.out.below hb5)
    have Q5 := Lib.hid (Q4.out.below hb5)
    clear hb5 L4 P4 Q4 z4 c40 c41
    obtain ⟨z5, c50, c51, -, -⟩ := L5.out.1.two
    cases hv : gvB n ls with
    | false =>
      go_wp2_with fail
      refine (sameInts_same A2 A3 xs c2 c3 w5 (by omega) P5.out.sli Q5.out.sli).mono ?_
      rintro e w9 ⟨rfl, hb9⟩
      have L9 := Lib.hid (L5.out.call hb9)
      go_wp2_with fail
      go_ret
      exact ⟨rfl, L9.out.2.2⟩
    | true =>
      by_cases h1 : x < 0
      · go_wp2_with fail
        refine (sameInts_same A2 A3 xs c2 c3 w5 (by omega) P5.out.sli Q5.out.sli).mono ?_
        rintro e w9 ⟨rfl, hb9⟩
        have L9 := Lib.hid (L5.out.call hb9)
        go_wp2_with fail
        go_ret
        exact ⟨rfl, L9.out.2.2⟩
      have h1' : decide (x < 0) = false := by simpa using h1
      by_cases h2 : n ≤ x
      · go_wp2_with fail
        refine (sameInts_same A2 A3 xs c2 c3 w5 (by omega) P5.out.sli Q5.out.sli).mono ?_
        rintro e w9 ⟨rfl, hb9⟩
        have L9 := Lib.hid (L5.out.call hb9)
        go_wp2_with fail
        go_ret
        exact ⟨rfl, L9.out.2.2⟩
      have h2' : decide (n ≤ x) = false := by simpa using h2
      by_cases h3 : y < 0
      · go_wp2_with fail
        refine (sameInts_same A2 A3 xs c2 c3 w5 (by omega) P5.out.sli Q5.out.sli).mono ?_
        rintro e w9 ⟨rfl, hb9⟩
        have L9 := Lib.hid (L5.out.call hb9)
        go_wp2_with fail
        go_ret
        exact ⟨rfl, L9.out.2.2⟩
      have h3' : decide (y < 0) = false := by simpa using h3
      by_cases h4 : n ≤ y
      · go_wp2_with fail
        refine (sameInts_same A2 A3 xs c2 c3 w5 (by omega) P5.out.sli Q5.out.sli).mono ?_
        rintro e w9 ⟨rfl, hb9⟩
        have L9 := Lib.hid (L5.out.call hb9)
        go_wp2_with fail
        go_ret
        exact ⟨rfl, L9.out.2.2⟩
      have h4' : decide (n ≤ y) = false := by simpa using h4
      have hvw : vwB n ls [x, y] = true := vwB_of hv ⟨by omega, by omega⟩ ⟨by omega, by omega⟩
      obtain ⟨m, rfl⟩ : ∃ q : Nat, n = (q : Int) := ⟨n.toNat, by omega⟩
      obtain ⟨xn, rfl⟩ : ∃ q : Nat, x = (q : Int) := ⟨x.toNat, by omega⟩
      obtain ⟨yn, rfl⟩ : ∃ q : Nat, y = (q : Int) := ⟨y.toNat, by omega⟩
      have hxm : xn < m := by omega
      have hym : yn < m := by omega
      have hfil := HF.out hvw
      have HG := Lib.hid hv
      have HFIL := Lib.hid hfil
      obtain ⟨hf, hn1', hn8', hl14⟩ := gvB_fit hv
      have HFIT := Lib.hid hf
      have HVW := Lib.hid hvw
      clear hv hvw hfil HF Q5 hf
      have CD := dist_impl (m : Int) A1 ls c1 (yn : Int) w5 (by omega) L5.out.2.1.sl
      have hdl := distL_length (ls := ls) HG.out (s := (yn : Int)) ⟨by omega, by omega⟩
      have HAT : Hid (∀ k : Nat, k < m → (distL (m : Int) ls (yn : Int))[k]? = some (bf (m : Int) ls (yn : Int) (k : Int))) := Lib.hid (fun k hk => distL_at HG.out ⟨by omega, by omega⟩ hk)
      have HBD : Hid (∀ v : Int, -1 ≤ bf (m : Int) ls (yn : Int) v ∧ bf (m : Int) ls (yn : Int) v ≤ 140) := Lib.hid (fun v => bf_bound HFIT.out ⟨by omega, by omega⟩ hn8' v)
      generalize distL (m : Int) ls (yn : Int) = ds at *
      have HDL := Lib.hid hdl
      clear hdl
      go_wp2_with fail
      refine CD.mono ?_
      clear CD
      rintro e w6 ⟨A4, g4, c4, rfl, hg4, ho4, hb6⟩
      have L6 := Lib.hid (L5.out.call hb6)
      have P6 := Lib.hid (P5.out.below hb6)
      have D6 := Lib.hid ho4
      clear hb6 ho4 hg4 L5 P5 z5 c50 c51
      obtain ⟨z6, c60, c61, -, -⟩ := L6.out.1.two
      have CN := nb_impl (m : Int) A1 ls c1 (xn : Int) w6 (by omega) L6.out.2.1.sl
      have hnl := nbI_len (m : Int) ls (xn : Int)
      have HNB : Hid (∀ z ∈ nbI (m : Int) ls (xn : Int), ∃ (k : Nat) (l : Lk), linkI (m : Int) ls (xn : Int) z = k ∧ ls[k]? = some l ∧ (∃ zn : Nat, z = (zn : Int) ∧ zn < m) ∧ 1 ≤ l.c ∧ l.c ≤ 20 ∧ hopB (m : Int) ls (xn : Int) (yn : Int) z = (decide (0 ≤ bf (m : Int) ls (yn : Int) z) && decide (bf (m : Int) ls (yn : Int) z + l.c = bf (m : Int) ls (yn : Int) (xn : Int)))) := Lib.hid (fun z hz => by
        obtain ⟨k, l, e1, e2, ha, _, _⟩ := nbI_link HG.out hz
        have hr := HFIT.out.adj ha
        exact ⟨k, l, e1, e2, ⟨z.toNat, by omega, by omega⟩, by omega, by omega, hopB_adj HG.out ha⟩)
      generalize nbI (m : Int) ls (xn : Int) = zs at *
      go_wp2_with fail
      refine CN.mono ?_
      clear CN
      rintro e w7 ⟨A5, g5, c5, rfl, hg5, ho5, hb7⟩
      have L7 := Lib.hid (L6.out.call hb7)
      have P7 := Lib.hid (P6.out.below hb7)
      have D7 := Lib.hid (D6.out.below hb7)
      have N7 := Lib.hid ho5
      clear hb7 ho5 hg5 L6 P6 D6 z6 c60 c61
      go_wp2_with fail
      go_loopw [10, 11] (fun q i wr => ∃ k : Nat, k ≤ zs.length ∧ q = .int .i64 (((zs.take k).filter (hopB (m : Int) ls (xn : Int) (yn : Int))).length : Nat) ∧ i = .int .i64 k ∧ LB w G (m : Int) ls A1 g1 c1 wr ∧ Own1i wr A2 g2 xs ∧ Own1i wr A4 g4 ds ∧ Own1i wr A5 g5 zs) (fun _ i _ => zs.length - (intOf i).toNat)
      case atStart => exact ⟨0, Nat.zero_le _, by simp, rfl, L7.out, P7.out, D7.out, N7.out⟩
      case round =>
        obtain ⟨k, hk, rfl, rfl, hL, hP, hD, hN⟩ := hrel
        have L8 := Lib.hid hL
        have P8 := Lib.hid hP
        have D8 := Lib.hid hD
        have N8 := Lib.hid hN
        clear hL hP hD hN L7 P7 D7 N7
        obtain ⟨z8, c80, c81, -, -⟩ := L8.out.1.two
        by_cases hlt : k < zs.length
        · obtain ⟨z, hz⟩ : ∃ z, zs[k]? = some z := ⟨_, List.getElem?_eq_getElem hlt⟩
          have hzm := List.mem_of_getElem? hz
          obtain ⟨q, l, hlk, hql, ⟨zn, rfl, hzn⟩, hc1, hc20, hhop⟩ := HNB.out z hzm
          have hmem : decide ((zn : Int) ∈ xs) = hopB (m : Int) ls (xn : Int) (yn : Int) (zn : Int) := by
            rw [HFIL.out, Bool.eq_iff_iff]
            simp [List.mem_filter, hzm]
          have HTK : Hid ((zs.take (k + 1)).filter (hopB (m : Int) ls (xn : Int) (yn : Int)) = (zs.take k).filter (hopB (m : Int) ls (xn : Int) (yn : Int)) ++ (if hopB (m : Int) ls (xn : Int) (yn : Int) (zn : Int) = true then [(zn : Int)] else [])) := Lib.hid (by
            rw [List.take_add_one, List.filter_append, hz]
            congr 1
            cases hh : hopB (m : Int) ls (xn : Int) (yn : Int) (zn : Int) <;> simp [hh])
          have hfl : ((zs.take k).filter (hopB (m : Int) ls (xn : Int) (yn : Int))).length ≤ 8 := Nat.le_trans (List.length_filter_le _ _) (by simp; omega)
          have CL : ∀ X : Ext wr, Calls Try.prog 35 #[gval (m : Int) A1 ls.length c1, .int .i64 (xn : Int), .int .i64 (zn : Int)] X.w fun e w' => e = .returned (.int .i64 (q : Int)) ∧ Below X.w.heap.size X.w w' := fun X => by
            have := link_impl (m : Int) A1 ls c1 (xn : Int) (zn : Int) X.w (by omega) ((L8.out.2.1.sl.below X.below).more X.below.size)
            rwa [hlk] at this
          have hdz := HAT.out zn hzn
          have hdx := HAT.out xn hxm
          have b1 := HBD.out (zn : Int)
          have b2 := HBD.out (xn : Int)
          have hqlt := (List.getElem?_eq_some_iff.1 hql).1
          have hznl := (List.getElem?_eq_some_iff.1 hdz).1
          have hxnl := (List.getElem?_eq_some_iff.1 hdx).1
          have HDZ := Lib.hid hdz
          have HDX := Lib.hid hdx
          have HQL := Lib.hid hql
          have HZ := Lib.hid hz
          have HHOP := Lib.hid hhop
          generalize hbb : hopB (m : Int) ls (xn : Int) (yn : Int) (zn : Int) = bb at *
          clear hbb
          generalize bf (m : Int) ls (yn : Int) (zn : Int) = dz at *
          generalize bf (m : Int) ls (yn : Int) (xn : Int) = dx at *
          generalize hfq : ((zs.take k).filter (hopB (m : Int) ls (xn : Int) (yn : Int))).length = a at *
          have HFQ := Lib.hid hfq
          clear hfq
          have zg1 := (L8.out.2.1 (by omega)).2.lt
          obtain ⟨rfl, p0, p1, p2⟩ := L8.out.link hql
          obtain ⟨rfl, zg5, hc5⟩ := N8.out.at hz
          obtain ⟨rfl, zg4, hc4z⟩ := D8.out.at hdz
          obtain ⟨la, lb, lc⟩ := l
          dsimp only at *
          have HMEM := Lib.hid hmem
          clear hdz hdx hql hz hlk hzm hhop hmem p0 p1
          have hX := fun (x : Ext wr) (bb o : Nat) (h : bb < wr.heap.size) => x.cell bb o h
          go_wp2_with fail
          refine wp_region_ext (by kernel_rfl) (by kernel_rfl) ?_
          repeat (go_big_quiet_step (first | (go_at_call 35; exact Calls.ext_of (CL _))))
          (refine wpQuiet_nil ?_); (rintro _ ⟨X, rfl⟩); (have hw1 := X.below); (generalize X.w = w1 at *); (clear X)
          clear hX
          have L9 := Lib.hid (L8.out.call hw1)
          have P9 := Lib.hid (P8.out.below hw1)
          have D9 := Lib.hid (D8.out.below hw1)
          have N9 := Lib.hid (N8.out.below hw1)
          clear CL c80 c81 z8 p2 hc5 hc4z zg5 zg4 hw1
          obtain ⟨z9, c90, c91, -, -⟩ := L9.out.1.two
          obtain ⟨-, -, -, p92⟩ := L9.out.link HQL.out
          obtain ⟨-, zg59, hc59⟩ := N9.out.at HZ.out
          obtain ⟨-, zg49, hc49⟩ := D9.out.at HDZ.out
          obtain ⟨-, -, hc49x⟩ := D9.out.at HDX.out
          have HCH : Hid (∀ (W : World), Own1i W A2 g2 xs → Calls Try.prog 36 #[.slice A2 xs.length c2, .int .i64 (zn : Int)] W fun e w' => e = .returned (.bool bb) ∧ Below W.heap.size W w') := Lib.hid (fun W hW => by
            have := hasInt_any A2 xs c2 (zn : Int) W (by omega) hW.sli
            rwa [HMEM.out] at this)
          cases bb with
          | true =>
            have hh := HHOP.out
            simp only [Bool.true_eq, Bool.and_eq_true, decide_eq_true_eq] at hh
            obtain ⟨hA, hE⟩ := hh
            have hE' : (dz + lc == dx) = true := by simp [hE]
            have hlt2 : decide (dx ≤ dz) = false := by simp; omega
            clear hE
            go_wp2_with fail
            go_quiet (fail)
            have L10 := Lib.hid (LB.drewN L9.out nq)
            have P10 := Lib.hid (show Own1i (w1.drewN nq) A2 g2 xs from P9.out)
            have D10 := Lib.hid (show Own1i (w1.drewN nq) (some ⟨g4, 0, none⟩) g4 ds from D9.out)
            have N10 := Lib.hid (show Own1i (w1.drewN nq) (some ⟨g5, 0, none⟩) g5 zs from N9.out)
            clear c90 c91 z9 p92 hc59 zg59 hc49 zg49 hc49x L9 P9 D9 N9
            generalize w1.drewN nq = w2 at *
            obtain ⟨z10, c100, c101, -, -⟩ := L10.out.1.two
            obtain ⟨-, zg5, hc5⟩ := N10.out.at HZ.out
            obtain ⟨-, zg4, hc4z⟩ := D10.out.at HDZ.out
            obtain ⟨-, -, hc4x⟩ := D10.out.at HDX.out
            have CH : ∀ X : Ext w2, Calls Try.prog 36 _ X.w _ := fun X => HCH.out X.w (P10.out.below X.below)
            clear HCH
            have hX := fun (x : Ext w2) (bb o : Nat) (h : bb < w2.heap.size) => x.cell bb o h
            go_wp2_with fail
            refine wp_region_ext (by kernel_rfl) (by kernel_rfl) ?_
            repeat (go_big_quiet_step (first | (go_at_call 36; exact Calls.ext_of (CH _))))
            (refine wpQuiet_nil ?_); (rintro _ ⟨X, rfl⟩); (have hw1 := X.below); (generalize X.w = w1 at *); (clear X)
            clear hX
            have L11 := Lib.hid (L10.out.call hw1)
            have P11 := Lib.hid (P10.out.below hw1)
            have D11 := Lib.hid (D10.out.below hw1)
            have N11 := Lib.hid (N10.out.below hw1)
            go_wp2_with fail
            go_roundw
            case rel => exact ⟨k + 1, hlt, by rw [HTK.out, List.length_append, HFQ.out]; simp, by go_num, L11.out, P11.out, D11.out, N11.out⟩
            case measure => simp [intOf]; omega
          | false =>
            by_cases hA : 0 ≤ dz
            · have hE' : (dz + lc == dx) = false := by
                have hh := HHOP.out
                rw [decide_eq_true hA, Bool.true_and] at hh
                simpa using hh.symm
              go_wp2_with fail
              go_quiet (fail)
              have L10 := Lib.hid (LB.drewN L9.out nq)
              have P10 := Lib.hid (show Own1i (w1.drewN nq) A2 g2 xs from P9.out)
              have D10 := Lib.hid (show Own1i (w1.drewN nq) (some ⟨g4, 0, none⟩) g4 ds from D9.out)
              have N10 := Lib.hid (show Own1i (w1.drewN nq) (some ⟨g5, 0, none⟩) g5 zs from N9.out)
              clear c90 c91 z9 p92 hc59 zg59 hc49 zg49 hc49x L9 P9 D9 N9
              generalize w1.drewN nq = w2 at *
              obtain ⟨z10, c100, c101, -, -⟩ := L10.out.1.two
              obtain ⟨-, zg5, hc5⟩ := N10.out.at HZ.out
              obtain ⟨-, zg4, hc4z⟩ := D10.out.at HDZ.out
              obtain ⟨-, -, hc4x⟩ := D10.out.at HDX.out
              have CH : ∀ X : Ext w2, Calls Try.prog 36 _ X.w _ := fun X => HCH.out X.w (P10.out.below X.below)
              clear HCH
              have hX := fun (x : Ext w2) (bb o : Nat) (h : bb < w2.heap.size) => x.cell bb o h
              go_wp2_with fail
              refine wp_region_ext (by kernel_rfl) (by kernel_rfl) ?_
              repeat (go_big_quiet_step (first | (go_at_call 36; exact Calls.ext_of (CH _))))
              (refine wpQuiet_nil ?_); (rintro _ ⟨X, rfl⟩); (have hw1 := X.below); (generalize X.w = w1 at *); (clear X)
              clear hX
              have L11 := Lib.hid (L10.out.call hw1)
              have P11 := Lib.hid (P10.out.below hw1)
              have D11 := Lib.hid (D10.out.below hw1)
              have N11 := Lib.hid (N10.out.below hw1)
              go_wp2_with fail
              go_roundw
              case rel => exact ⟨k + 1, hlt, by rw [HTK.out, List.length_append, HFQ.out]; simp, by go_num, L11.out, P11.out, D11.out, N11.out⟩
              case measure => simp [intOf]; omega
            · have hA' : decide (0 ≤ dz) = false := by simpa using hA
              go_wp2_with fail
              go_quiet (fail)
              have L10 := Lib.hid (LB.drewN L9.out nq)
              have P10 := Lib.hid (show Own1i (w1.drewN nq) A2 g2 xs from P9.out)
              have D10 := Lib.hid (show Own1i (w1.drewN nq) (some ⟨g4, 0, none⟩) g4 ds from D9.out)
              have N10 := Lib.hid (show Own1i (w1.drewN nq) (some ⟨g5, 0, none⟩) g5 zs from N9.out)
              clear c90 c91 z9 p92 hc59 zg59 hc49 zg49 hc49x L9 P9 D9 N9
              generalize w1.drewN nq = w2 at *
              obtain ⟨z10, c100, c101, -, -⟩ := L10.out.1.two
              obtain ⟨-, zg5, hc5⟩ := N10.out.at HZ.out
              obtain ⟨-, zg4, hc4z⟩ := D10.out.at HDZ.out
              obtain ⟨-, -, hc4x⟩ := D10.out.at HDX.out
              have CH : ∀ X : Ext w2, Calls Try.prog 36 _ X.w _ := fun X => HCH.out X.w (P10.out.below X.below)
              clear HCH
              have hX := fun (x : Ext w2) (bb o : Nat) (h : bb < w2.heap.size) => x.cell bb o h
              go_wp2_with fail
              refine wp_region_ext (by kernel_rfl) (by kernel_rfl) ?_
              repeat (go_big_quiet_step (first | (go_at_call 36; exact Calls.ext_of (CH _))))
              (refine wpQuiet_nil ?_); (rintro _ ⟨X, rfl⟩); (have hw1 := X.below); (generalize X.w = w1 at *); (clear X)
              clear hX
              have L11 := Lib.hid (L10.out.call hw1)
              have P11 := Lib.hid (P10.out.below hw1)
              have D11 := Lib.hid (D10.out.below hw1)
              have N11 := Lib.hid (N10.out.below hw1)
              go_wp2_with fail
              go_roundw
              case rel => exact ⟨k + 1, hlt, by rw [HTK.out, List.length_append, HFQ.out]; simp, by go_num, L11.out, P11.out, D11.out, N11.out⟩
              case measure => simp [intOf]; omega
        · obtain rfl : k = zs.length := by omega
          have hcount : ((zs.take zs.length).filter (hopB (m : Int) ls (xn : Int) (yn : Int))).length = xs.length := by rw [List.take_length, ← HFIL.out]
          rw [hcount]
          go_wp2_with fail
          refine (ascending_any A2 xs c2 _ (by omega) P8.out.sli HP.out).mono ?_
          rintro e w10 ⟨rfl, hb10⟩
          have L10 := Lib.hid (L8.out.call hb10)
          go_wp2_with fail
          go_ret
          exact ⟨rfl, L10.out.2.2⟩
  · go_enter Try.func7, Try.ntmps7
    go_wp2
    go_ret
    exact ⟨rfl, by (repeat (first | exact Below.refl _ _ | (refine Below.alloc ?_ (by first | exact Nat.le_refl _ | omega | (simp; done) | (simp; omega)) _) | (refine Below.setCell ?_ (by first | exact Nat.le_refl _ | omega | (simp; done) | (simp; omega)) _) | exact Below.drew ‹_›))⟩
end Go.Proofs.Ytmkjcdfoiabecaa
