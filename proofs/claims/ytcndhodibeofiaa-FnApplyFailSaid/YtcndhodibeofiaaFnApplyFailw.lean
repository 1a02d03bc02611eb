/-
  The walk of FnApplyFail over this seat.
-/
import Derived.Test.YtcndhodibeofiaaKv
namespace Go.Proofs.Ytcndhodibeofiaa
open Go.RowKit Go.Maps

set_option maxRecDepth 100000 in
set_option maxHeartbeats 3200000 in
theorem fnApplyFail_walk (A : Option Addr) (len c : Nat) (f : Nat → Int) (w : World) (hlc : len ≤ c) (hc : c ≤ maxLen) (hB : Byt w w.heap.size A len f) :
   Calls Try.prog 12 #[.slice A len c] w fun e w' => e = .returned (.bool true) ∧ Below w.heap.size w w' := by
  have HB := Lib.hid hB
  clear hB
  by_cases hl : len ≤ 1048576
  · go_enter Try.func12, Try.ntmps12
    go_wp2_with fail
    refine (drawSpeakerApply_any A len c f w hlc hc HB.out).mono ?_
    rintro e w1 ⟨xs, B, cb, rfl, hxl, hsl, hb1⟩
    have L1 := Lib.hid (show KL w B xs w1 from ⟨hsl, hb1⟩)
    have hal := apA_le xs
    have CI := fun W (h : Sl W W.heap.size B xs) => apply_impl B xs cb W (by omega) h
    have CS := fun W (h : Sl W W.heap.size B xs) => apply_spec B xs cb W (by omega) h
    have CV := fun W (h : Sl W W.heap.size B xs) => candValid_spec B xs cb W (by omega) h
    have CE := fun W (h : Sl W W.heap.size B xs) => elect_impl B xs cb W (by omega) h
    have CQ := fun A1 A2 c1 c2 W (h1 : Sl W W.heap.size A1 (apA xs)) (h2 : Sl W W.heap.size A2 (apA xs)) => sameCand_same A1 A2 (apA xs) c1 c2 W (by omega) h1 h2
    have CP := fun A1 c1 W (h1 : Sl W W.heap.size A1 (apA xs)) => apply_impl A1 (apA xs) c1 W (by omega) h1
    have CF := fun A1 c1 W (h1 : Sl W W.heap.size A1 (apA xs)) => elect_impl A1 (apA xs) c1 W (by omega) h1
    have CN := fun A1 c1 n W (h1 : Sl W W.heap.size A1 (apA xs)) => candidate_any A1 (apA xs) c1 n W (by omega) h1
    have FB : ∀ (u v z : Int) (W : World), Sem.run Try.prog (Instr.field 36 (.agg #[.int .i64 u, .int .i64 v, .int .i64 z]) 1) W = .ok (.int .i64 v) W := fun u v z W => by unfold Instr.field; simp [go_sem, asAgg, Result.andThen]
    have FA : ∀ (u v z : Int) (W : World), Sem.run Try.prog (Instr.field 36 (.agg #[.int .i64 u, .int .i64 v, .int .i64 z]) 0) W = .ok (.int .i64 u) W := fun u v z W => by unfold Instr.field; simp [go_sem, asAgg, Result.andThen]
    obtain ⟨ys, hys⟩ : ∃ ys, apA xs = ys := ⟨_, rfl⟩
    rw [hys] at CI CS CQ CP CF CN hal
    have HY := Lib.hid hys
    clear hsl hb1 HB hys
    go_wp2_with fail
    refine (CI _ L1.out.sl).mono ?_
    rintro e w2 ⟨A2, g2, c2, rfl, -, ho2, hb2⟩
    have L2 := Lib.hid (show KA w B xs A2 ys w2 from ⟨L1.out.call hb2, ho2.sl⟩)
    clear ho2 hb2 L1 CI
    go_wp2_with fail
    refine (CS _ L2.out.kl.sl).mono ?_
    rintro e w3 ⟨A3, g3, c3, rfl, -, ho3, hb3⟩
    have L3 := Lib.hid (L2.out.call hb3)
    have S3 := Lib.hid ho3.sl
    clear ho3 hb3 L2 CS
    go_wp2_with fail
    refine (CQ _ _ _ _ _ L3.out.so S3.out).mono ?_
    rintro e w4 ⟨rfl, hb4⟩
    have L4 := Lib.hid (L3.out.call hb4)
    have S4 := Lib.hid ((S3.out.below hb4).more hb4.size)
    clear hb4 L3 S3
    go_wp2_with fail
    refine (CV _ L4.out.kl.sl).mono ?_
    rintro e w5 ⟨rfl, hb5⟩
    have L5 := Lib.hid (L4.out.call hb5)
    have S5 := Lib.hid ((S4.out.below hb5).more hb5.size)
    clear hb5 L4 S4 CV
    cases hv : cdB xs with
    | false =>
      go_wp2_with fail
      refine (CQ _ _ _ _ _ L5.out.so S5.out).mono ?_
      rintro e w6 ⟨rfl, hb6⟩
      have L6 := Lib.hid (L5.out.call hb6)
      clear hb6
      go_wp2_with fail
      go_ret
      exact ⟨rfl, L6.out.kl.bel⟩
    | true =>
      obtain ⟨s, b, he, hok, h1, h2⟩ := elect_facts hv
      have hyl : ys = apL xs s b := by rw [← HY.out]; unfold apA; rw [hv, he]; rfl
      obtain ⟨hyok, hye, hyy⟩ := ap_stable hok
      rw [HY.out, he] at hye
      rw [HY.out] at hyy hyok
      rw [he] at CE
      rw [hye] at CF
      rw [hyy] at CP
      clear hv he hye hyy HY S5
      obtain ⟨i0, hi, hz0, hz10, hz20⟩ := info_parts infoCand
      have HAF := Lib.hid (show elA (ys.filter (fun x => decide (x.a ≠ s))) = (b, bkS (ys.filter (fun x => decide (x.a ≠ s))) b) by rw [hyl]; exact apply_fail hok h2)
      have HFN := Lib.hid (fun (k : Nat) (x : Lk) (hx : ys[k]? = some x) => filt_next (s := s) hx)
      clear hok h1 h2 hyok hyl CN CP CQ CE
      go_wp2_with fail
      refine (CF _ _ _ L5.out.so).mono ?_
      rintro e w6 ⟨rfl, hb6⟩
      have L6 := Lib.hid (L5.out.call hb6)
      have Q0 := Lib.hid (QK.start w6)
      clear hb6 L5 CF
      go_wp2_with fail
      go_loopw [9, 8] (fun i v wr => ∃ (k : Nat) (out : List Lk), k ≤ ys.length ∧ i = .int .i64 (k : Int) ∧ Hid (out = (ys.take k).filter (fun x => decide (x.a ≠ s))) ∧ out.length ≤ k ∧ Hid (QK w6 v out wr)) (fun i _ _ => ys.length - (intOf i).toNat)
      case atStart => exact ⟨0, [], Nat.zero_le _, rfl, Lib.hid rfl, Nat.le_refl _, Q0⟩
      case round =>
        obtain ⟨k, out, hk, rfl, HDk, hok, Q⟩ := hrel
        clear Q0
        have hbs := Q.out.bel.size
        obtain ⟨A9, g9, c9, rfl, -, -, ho9, -⟩ := own_slicek Q.out.row hbs
        have HO := Lib.hid ho9.sl
        clear ho9
        by_cases hlt : k < ys.length
        · obtain ⟨x, hx⟩ : ∃ x, ys[k]? = some x := ⟨_, List.getElem?_eq_getElem hlt⟩
          obtain ⟨b', off, rfl, hbb, hc0, hc1, hc2⟩ := (L6.out.call Q.out.bel).so k x hx
          have HX := Lib.hid (HFN.out k x hx)
          clear hx HO
          obtain ⟨xa, xb, xc⟩ := x
          dsimp only at hc0 hc1 hc2
          by_cases e1 : xa = s
          · have q1 : (xa != s) = false := by simp [e1]
            have HE := Lib.hid (show ¬ xa ≠ s from fun h => h e1)
            clear e1
            go_wp2_with fail
            go_roundw
            case rel => exact ⟨k + 1, out, hlt, by go_num, Lib.hid (by rw [HX.out, ← HDk.out, if_neg HE.out, List.append_nil]), by omega, Q⟩
            case measure => simp [intOf]; omega
          · have q1 : (xa != s) = true := by simpa using e1
            have HE := Lib.hid (show xa ≠ s from e1)
            clear e1
            go_wp2_with (at_builtin; refine wpList_append_own _ rfl _ _ 25 rfl w6.heap.size 36 i0 _ 3 24 Try.underlying25 hi hz0 hz10 hz20 rfl (by decide) _ out.length (flat out) rfl (Q.out.row.alloc _) ⟨wr.heap.size, 0, none⟩ 1 1 [.int .i64 xa, .int .i64 xb, .int .i64 xc] rfl rfl (new3 _ _ _ _ _) (one3 _ _ _) (by unfold maxLen; omega) (by omega) (by simp; omega) ?_; intro v' w9 hown hgrow _; have Q9 := Lib.hid (Q.out.append (x := ⟨xa, xb, xc⟩) hown hgrow); clear hown hgrow)
            go_roundw
            case rel => exact ⟨k + 1, out ++ [⟨xa, xb, xc⟩], hlt, by go_num, Lib.hid (by rw [HX.out, ← HDk.out, if_pos HE.out]), by simp; omega, Q9⟩
            case measure => simp [intOf]; omega
        · obtain rfl : k = ys.length := by omega
          have hge : ¬ ((ys.length : Int) < (ys.length : Int)) := by omega
          have hel : elA out = (b, bkS out b) := by
            have h := HAF.out
            have e : out = ys.filter (fun x => decide (x.a ≠ s)) := by rw [HDk.out, List.take_length]
            rw [← e] at h
            exact h
          have CR := fun W (h : Sl W W.heap.size A9 out) => elect_impl A9 out c9 W (by omega) h
          rw [hel] at CR
          clear hel
          go_wp2_with fail
          refine (CR _ HO.out).mono ?_
          rintro e w7 ⟨rfl, hb7⟩
          have L7 := Lib.hid ((L6.out.call Q.out.bel).call hb7)
          clear hb7 CR
          go_wp2_with fail
          go_ret
          exact ⟨rfl, L7.out.kl.bel⟩
  · have hli : (1048576 : Int) < (len : Int) := by omega
    go_enter Try.func12, Try.ntmps12
    go_wp2_with fail
    go_ret
    exact ⟨rfl, Below.refl _ _⟩
end Go.Proofs.Ytcndhodibeofiaa
