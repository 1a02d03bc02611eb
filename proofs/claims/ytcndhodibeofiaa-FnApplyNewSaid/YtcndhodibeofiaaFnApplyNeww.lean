/-
  The walk of FnApplyNew over this seat.
-/
import Derived.Test.YtcndhodibeofiaaKv
namespace Go.Proofs.Ytcndhodibeofiaa
open Go.RowKit Go.Maps

set_option maxRecDepth 100000 in
set_option maxHeartbeats 3200000 in
theorem fnApplyNew_walk (A : Option Addr) (len c : Nat) (Am : Option Addr) (len' c' : Nat) (f f' : Nat → Int) (w : World) (hlc : len ≤ c) (hc : c ≤ maxLen) (hB : Byt w w.heap.size A len f) (_hlc' : len' ≤ c') (_hc' : c' ≤ maxLen) (_hB' : Byt w w.heap.size Am len' f') :
   Calls Try.prog 11 #[.slice A len c, .slice Am len' c'] w fun e w' => e = .returned (.bool true) ∧ Below w.heap.size w w' := by
  have HB := Lib.hid hB
  clear hB _hB'
  by_cases hl : len ≤ 1048576 ∧ len' ≤ 1048576
  · obtain ⟨hl, hl'⟩ := hl
    obtain ⟨nn, hnn, hn0, hn7⟩ : ∃ n : Int, Int.tmod (len' : Int) 8 = n ∧ 0 ≤ n ∧ n ≤ 7 := ⟨_, rfl, by rw [Int.tmod_eq_emod_of_nonneg (by omega)]; omega, by rw [Int.tmod_eq_emod_of_nonneg (by omega)]; omega⟩
    have hnw : IntKind.i64.wrap nn = nn := IntWalk.i64_in _ (by omega)
    go_enter Try.func11, Try.ntmps11
    go_wp2_with fail
    refine (drawSpeakerApply_any A len c f w hlc hc HB.out).mono ?_
    rintro e w1 ⟨xs, B, cb, rfl, hxl, hsl, hb1⟩
    have L1 := Lib.hid (show KL w B xs w1 from ⟨hsl, hb1⟩)
    have hal := apA_le xs
    have CI := fun W (h : Sl W W.heap.size B xs) => apply_impl B xs cb W (by omega) h
    have CS := fun W (h : Sl W W.heap.size B xs) => apply_spec B xs cb W (by omega) h
    have CV := fun W (h : Sl W W.heap.size B xs) => candValid_spec B xs cb W (by omega) h
    have CE := fun W (h : Sl W W.heap.size B xs) => elect_impl B xs cb W (by omega) h
    have CQ := fun A1 A2 c1 c2 W (h1 : Sl W W.heap.size A1 (apA xs)) (h2 : Sl W W.heap.size A2 (apA xs)) => sameCand_same A1 A2 (apA xs) c1 c2 W (by omega) h1 h2
    have CP := fun A1 c1 W (h1 : Sl W W.heap.size A1 (apA xs)) => apply_impl A1 (apA xs) c1 W (by omega) h1
    have CF := fun A1 c1 W (h1 : Sl W W.heap.size A1 (apA xs)) => elect_impl A1 (apA xs) c1 W (by omega) h1
    have CN := fun A1 c1 n W (h1 : Sl W W.heap.size A1 (apA xs)) => candidate_any A1 (apA xs) c1 n W (by omega) h1
    have FB : ∀ (u v z : Int) (W : World), Sem.run Try.prog (Instr.field 36 (.agg #[.int .i64 u, .int .i64 v, .int .i64 z]) 1) W = .ok (.int .i64 v) W := fun u v z W => by unfold Instr.field; simp [go_sem, asAgg, Result.andThen]
    have FA : ∀ (u v z : Int) (W : World), Sem.run Try.prog (Instr.field 36 (.agg #[.int .i64 u, .int .i64 v, .int .i64 z]) 0) W = .ok (.int .i64 u) W := fun u v z W => by unfold Instr.field; simp [go_sem, asAgg, Result.andThen]
    obtain ⟨ys, hys⟩ : ∃ ys, apA xs = ys := ⟨_, rfl⟩
    rw [hys] at CI CS CQ CP CF CN hal
    have HY := Lib.hid hys
    clear hsl hb1 HB hys
    go_wp2_with fail
    refine (CI _ L1.out.sl).mono ?_
    rintro e w2 ⟨A2, g2, c2, rfl, -, ho2, hb2⟩
    have L2 := Lib.hid (show KA w B xs A2 ys w2 from ⟨L1.out.call hb2, ho2.sl⟩)
    clear ho2 hb2 L1 CI
    go_wp2_with fail
    refine (CS _ L2.out.kl.sl).mono ?_
    rintro e w3 ⟨A3, g3, c3, rfl, -, ho3, hb3⟩
    have L3 := Lib.hid (L2.out.call hb3)
    have S3 := Lib.hid ho3.sl
    clear ho3 hb3 L2 CS
    go_wp2_with fail
    refine (CQ _ _ _ _ _ L3.out.so S3.out).mono ?_
    rintro e w4 ⟨rfl, hb4⟩
    have L4 := Lib.hid (L3.out.call hb4)
    have S4 := Lib.hid ((S3.out.below hb4).more hb4.size)
    clear hb4 L3 S3
    go_wp2_with fail
    refine (CV _ L4.out.kl.sl).mono ?_
    rintro e w5 ⟨rfl, hb5⟩
    have L5 := Lib.hid (L4.out.call hb5)
    have S5 := Lib.hid ((S4.out.below hb5).more hb5.size)
    clear hb5 L4 S4 CV
    cases hv : cdB xs with
    | false =>
      go_wp2_with fail
      refine (CQ _ _ _ _ _ L5.out.so S5.out).mono ?_
      rintro e w6 ⟨rfl, hb6⟩
      have L6 := Lib.hid (L5.out.call hb6)
      clear hb6
      go_wp2_with fail
      go_ret
      exact ⟨rfl, L6.out.kl.bel⟩
    | true =>
      obtain ⟨s, b, he, hok, h1, h2⟩ := elect_facts hv
      have hyl : ys = apL xs s b := by rw [← HY.out]; unfold apA; rw [hv, he]; rfl
      obtain ⟨hyok, hye, hyy⟩ := ap_stable hok
      rw [HY.out, he] at hye
      rw [HY.out] at hyy hyok
      rw [he] at CE
      rw [hye] at CF
      rw [hyy] at CP
      clear hv he hye hyy HY S5
      obtain ⟨i0, hi, hz0, hz10, hz20⟩ := info_parts infoCand
      have HNW := Lib.hid (fun (h0 : 0 ≤ s) (hn : ∀ x ∈ ys, x.a ≠ nn) => (show (elA (nxU ys nn 8)).1 = s ∧ (0 ≤ b → (elA (nxU ys nn 8)).2 = b) by rw [hyl] at hn ⊢; exact apply_new hok h1 h2 h0 hn0 hn7 hn))
      have HCA := Lib.hid (cdI_node (xs := ys) nn hn0)
      clear CP CQ CE hyl hok h1 h2 hyok
      go_wp2_with fail
      refine (CF _ _ _ L5.out.so).mono ?_
      rintro e w6 ⟨rfl, hb6⟩
      have L6 := Lib.hid (L5.out.call hb6)
      clear hb6 L5 CF
      have CA := CN A2 c2 nn
      have HNO : Hid ((cdI ys nn).a ≠ nn → ∀ x ∈ ys, x.a ≠ nn) := Lib.hid (fun h x hx e => h (HCA.out.2 ⟨x, hx, e⟩))
      obtain ⟨⟨ca, cbb, cc⟩, hcd⟩ : ∃ x, cdI ys nn = x := ⟨_, rfl⟩
      rw [hcd] at CA
      have HCD := Lib.hid hcd
      clear hcd HCA
      go_wp2_with fail
      refine (CA _ L6.out.so).mono ?_
      rintro e w7 ⟨rfl, hb7⟩
      have L7 := Lib.hid (L6.out.call hb7)
      clear hb7 L6 CA
      by_cases hcn : ca = nn
      · have q1 : (ca == nn) = true := by simp [hcn]
        clear hcn
        go_wp2_with fail
        go_ret
        exact ⟨rfl, L7.out.kl.bel⟩
      have q1 : (ca == nn) = false := by simpa using hcn
      by_cases hs0 : s < 0
      · clear hcn
        go_wp2_with fail
        go_ret
        exact ⟨rfl, L7.out.kl.bel⟩
      have HNX := Lib.hid (HNW.out (by omega) (HNO.out (by rw [HCD.out]; exact hcn)))
      have HNN := Lib.hid (show (cdI ys nn).a ≠ nn by rw [HCD.out]; exact hcn)
      clear hcn HNW HNO HCD
      have Q0 := Lib.hid (QK.start w7)
      go_wp2_with fail
      go_loopw [12, 11] (fun i v wr => ∃ (k : Nat) (out : List Lk), k ≤ 8 ∧ i = .int .i64 (k : Int) ∧ Hid (out = nxU ys nn k) ∧ out.length ≤ 2 * k ∧ Hid (QK w7 v out wr)) (fun i _ _ => 8 - (intOf i).toNat)
      case atStart => exact ⟨0, [], by omega, rfl, Lib.hid rfl, Nat.le_refl _, Q0⟩
      case round =>
        obtain ⟨k, out, hk, rfl, HDk, hok, Q⟩ := hrel
        clear Q0
        have hbs := Q.out.bel.size
        obtain ⟨A9, g9, c9, rfl, -, -, ho9, -⟩ := own_slicek Q.out.row hbs
        have HO := Lib.hid ho9.sl
        clear ho9
        by_cases hlt : k < 8
        · have HSU := Lib.hid (show nxU ys nn (k + 1) = nxU ys nn k ++ (if (k : Int) = nn then [⟨nn, 9, 0⟩] else []) ++ (if (cdI ys (k : Int)).a = (k : Int) then [cdI ys (k : Int)] else []) from rfl)
          have CK := CN A2 c2 (k : Int)
          clear HO
          by_cases e1 : (k : Int) = nn
          · have HE := Lib.hid e1
            have q2 : ((k : Int) == nn) = true := by simp [e1]
            have hno : (cdI ys (k : Int)).a ≠ (k : Int) := by rw [e1]; exact HNN.out
            have HNK := Lib.hid hno
            clear e1
            obtain ⟨y, hy⟩ : ∃ y, cdI ys (k : Int) = y := ⟨_, rfl⟩
            rw [hy] at CK hno
            clear hy
            obtain ⟨ya, yb, yc⟩ := y
            dsimp only at hno
            have q3 : (ya == (k : Int)) = false := by simpa using hno
            clear hno
            go_wp2_with (at_builtin; refine wpList_append_own _ rfl _ _ 25 rfl w7.heap.size 36 i0 _ 3 24 Try.underlying25 hi hz0 hz10 hz20 rfl (by decide) _ out.length (flat out) rfl (Q.out.row.alloc _) ⟨wr.heap.size, 0, none⟩ 1 1 [.int .i64 nn, .int .i64 9, .int .i64 0] rfl rfl (new3 _ _ _ _ _) (one3 _ _ _) (by unfold maxLen; omega) (by omega) (by simp; omega) ?_; intro v' w9 hown hgrow _; have Q9 := Lib.hid (Q.out.append (x := ⟨nn, 9, 0⟩) hown hgrow); clear hown hgrow)
            refine (CK _ (L7.out.call Q9.out.bel).so).mono ?_
            rintro e wa ⟨rfl, hba⟩
            have Qa := Lib.hid (Q9.out.call hba)
            clear hba Q9
            go_wp2_with fail
            go_roundw
            case rel => exact ⟨k + 1, out ++ [⟨nn, 9, 0⟩], by omega, by go_num, Lib.hid (by rw [HSU.out, ← HDk.out, if_pos HE.out, if_neg HNK.out, List.append_nil]), by simp; omega, Qa⟩
            case measure => simp [intOf]; omega
          · have HE := Lib.hid e1
            have q2 : ((k : Int) == nn) = false := by simpa using e1
            clear e1
            have HY := Lib.hid (show nxU ys nn (k + 1) = nxU ys nn k ++ (if (cdI ys (k : Int)).a = (k : Int) then [cdI ys (k : Int)] else []) by rw [HSU.out, if_neg HE.out, List.append_nil])
            clear HSU HE
            generalize cdI ys (k : Int) = y at *
            obtain ⟨ya, yb, yc⟩ := y
            dsimp only at HY
            go_wp2_with fail
            refine (CK _ (L7.out.call Q.out.bel).so).mono ?_
            rintro e wa ⟨rfl, hba⟩
            have Qa := Lib.hid (Q.out.call hba)
            clear hba Q
            by_cases e2 : ya = (k : Int)
            · have q3 : (ya == (k : Int)) = true := by simp [e2]
              have HE := Lib.hid e2
              clear e2
              go_wp2_with fail
              refine (CK _ (L7.out.call Qa.out.bel).so).mono ?_
              rintro e wb ⟨rfl, hbb⟩
              have Qb := Lib.hid (Qa.out.call hbb)
              have hbs2 := Qb.out.bel.size
              clear hbb Qa
              go_wp2_with (at_builtin; refine wpList_append_own _ rfl _ _ 25 rfl w7.heap.size 36 i0 _ 3 24 Try.underlying25 hi hz0 hz10 hz20 rfl (by decide) _ out.length (flat out) rfl (Qb.out.row.alloc _) ⟨wb.heap.size, 0, none⟩ 1 1 [.int .i64 ya, .int .i64 yb, .int .i64 yc] rfl rfl (new3 _ _ _ _ _) (one3 _ _ _) (by unfold maxLen; omega) (by omega) (by simp; omega) ?_; intro v' w9 hown hgrow _; have Q9 := Lib.hid (Qb.out.append (x := ⟨ya, yb, yc⟩) hown hgrow); clear hown hgrow)
              go_roundw
              case rel => exact ⟨k + 1, out ++ [⟨ya, yb, yc⟩], by omega, by go_num, Lib.hid (by rw [HY.out, ← HDk.out, if_pos HE.out]), by simp; omega, Q9⟩
              case measure => simp [intOf]; omega
            · have q3 : (ya == (k : Int)) = false := by simpa using e2
              have HE := Lib.hid e2
              clear e2
              go_wp2_with fail
              go_roundw
              case rel => exact ⟨k + 1, out, by omega, by go_num, Lib.hid (by rw [HY.out, ← HDk.out, if_neg HE.out, List.append_nil]), by omega, Qa⟩
              case measure => simp [intOf]; omega
        · obtain rfl : k = 8 := by omega
          have CR := fun W (h : Sl W W.heap.size A9 out) => elect_impl A9 out c9 W (by omega) h
          have hx := HNX.out
          rw [← HDk.out] at hx
          obtain ⟨⟨u, v⟩, hel⟩ : ∃ r, elA out = r := ⟨_, rfl⟩
          rw [hel] at CR hx
          clear hel
          dsimp only at hx
          obtain ⟨rfl, hx2⟩ := hx
          have HX2 := Lib.hid hx2
          clear hx2
          go_wp2_with fail
          refine (CR _ HO.out).mono ?_
          rintro e wz ⟨rfl, hbz⟩
          have Lz := Lib.hid ((L7.out.call Q.out.bel).call hbz)
          clear hbz CR
          by_cases hb0 : b < 0
          · go_wp2_with fail
            go_ret
            exact ⟨rfl, Lz.out.kl.bel⟩
          · have e := HX2.out (by omega)
            subst e
            go_wp2_with fail
            go_ret
            exact ⟨rfl, Lz.out.kl.bel⟩
  · by_cases hl : len ≤ 1048576
    · have hli : ¬ (1048576 : Int) < (len : Int) := by omega
      have hlj : (1048576 : Int) < (len' : Int) := by omega
      go_enter Try.func11, Try.ntmps11
      go_wp2_with fail
      go_ret
      exact ⟨rfl, Below.refl _ _⟩
    · have hli : (1048576 : Int) < (len : Int) := by omega
      go_enter Try.func11, Try.ntmps11
      go_wp2_with fail
      go_ret
      exact ⟨rfl, Below.refl _ _⟩
end Go.Proofs.Ytcndhodibeofiaa
