/-
  Contracts over this seat: the program's SpeakerElect and SpeakerApply.
-/
import Derived.Test.YtcndhodibeofiaaKl
namespace Go.Proofs.Ytcndhodibeofiaa
open Go.RowKit Go.Maps

theorem elA_wins {xs : List Lk} {s b : Int} (hv : cdB xs = true) (h1 : Wins 2 (-1) xs s) (h2 : Wins 1 s xs b) : elA xs = (s, b) :=
  elA_by ((cdB_iff xs).1 hv) (wins_sp ((cdB_iff xs).1 hv) h1) (wins_bk h2)
theorem elect_impl (A : Option Addr) (xs : List Lk) (c : Nat) (w : World) (hm : xs.length ≤ 1048576) (hS : Sl w w.heap.size A xs) :
   Calls Try.prog 19 #[.slice A xs.length c] w fun e w' => e = .returned (.tuple #[.int .i64 (elA xs).1, .int .i64 (elA xs).2]) ∧ Below w.heap.size w w' := by
  have HS := Lib.hid hS
  have CV := fun W (h : Sl W W.heap.size A xs) => candValid_impl A xs c W (by omega) h
  have CW := fun (o el : Int) W (h : Sl W W.heap.size A xs) => winner_any o el A xs c W hm h
  clear hS
  cases hv : cdB xs with
  | false =>
    have he : elA xs = (-1, -1) := by unfold elA; rw [hv]; rfl
    rw [hv] at CV
    rw [he]
    clear hv he
    go_enter Try.func19, Try.ntmps19
    go_wp2_with fail
    refine (CV _ HS.out).mono ?_
    rintro e w1 ⟨rfl, hb1⟩
    have B1 := Lib.hid hb1
    clear hb1
    go_wp2_with fail
    go_returns
    exact ⟨rfl, B1.out⟩
  | true =>
    have HE := Lib.hid (fun (s b : Int) (h1 : Wins 2 (-1) xs s) (h2 : Wins 1 s xs b) => elA_wins hv h1 h2)
    rw [hv] at CV
    clear hv
    go_enter Try.func19, Try.ntmps19
    go_wp2_with fail
    refine (CV _ HS.out).mono ?_
    rintro e w1 ⟨rfl, hb1⟩
    have B1 := Lib.hid hb1
    clear hb1 CV
    go_wp2_with fail
    refine (CW 2 (-1) _ ((HS.out.below B1.out).more B1.out.size)).mono ?_
    rintro e w2 ⟨⟨s, rfl, hs⟩, hb2⟩
    have B2 := Lib.hid (B1.out.trans (hb2.mono B1.out.size))
    have H1 := Lib.hid hs
    clear hb2 B1 hs
    go_wp2_with fail
    refine (CW 1 s _ ((HS.out.below B2.out).more B2.out.size)).mono ?_
    rintro e w3 ⟨⟨t, rfl, ht⟩, hb3⟩
    have B3 := Lib.hid (B2.out.trans (hb3.mono B2.out.size))
    have HF := Lib.hid (HE.out s t H1.out ht)
    clear hb3 B2 ht HE
    go_wp2_with fail
    go_returns
    exact ⟨(show Ending.returned (.tuple #[.int .i64 s, .int .i64 t]) = _ by rw [HF.out]), B3.out⟩

set_option maxRecDepth 100000 in
set_option maxHeartbeats 4000000 in
theorem apply_impl (A : Option Addr) (xs : List Lk) (c : Nat) (w : World) (hm : xs.length ≤ 1048576) (hS : Sl w w.heap.size A xs) :
   Calls Try.prog 21 #[.slice A xs.length c] w (NewK (apA xs) w) := by
  obtain ⟨i0, hi, hz0, hz10, hz20⟩ := info_parts infoCand
  have HS := Lib.hid hS
  have CV := fun W (h : Sl W W.heap.size A xs) => candValid_impl A xs c W (by omega) h
  have CE := fun W (h : Sl W W.heap.size A xs) => elect_impl A xs c W (by omega) h
  have Q0 := Lib.hid (QK.start w)
  clear hS
  cases hv : cdB xs with
  | false =>
    have he : apA xs = [] := by unfold apA; rw [hv]; rfl
    rw [hv] at CV
    rw [he]
    clear hv he
    go_enter Try.func21, Try.ntmps21
    go_wp2_with fail
    refine (CV _ ((HS.out.below Q0.out.bel).more Q0.out.bel.size)).mono ?_
    rintro e w1 ⟨rfl, hb1⟩
    have Q1 := Lib.hid (Q0.out.call hb1)
    clear hb1
    go_wp2_with fail
    have hfin := Q1.out.done
    go_ret
    exact hfin
  | true =>
    have HA : Hid (apA xs = apL xs (elA xs).1 (elA xs).2) := Lib.hid (by unfold apA; rw [hv]; rfl)
    rw [hv] at CV
    obtain ⟨s, hs⟩ : ∃ s, (elA xs).1 = s := ⟨_, rfl⟩
    obtain ⟨bk, hbk⟩ : ∃ bk, (elA xs).2 = bk := ⟨_, rfl⟩
    rw [hs, hbk] at CE HA
    clear hv hs hbk
    go_enter Try.func21, Try.ntmps21
    go_wp2_with fail
    refine (CV _ ((HS.out.below Q0.out.bel).more Q0.out.bel.size)).mono ?_
    rintro e w1 ⟨rfl, hb1⟩
    have Q1 := Lib.hid (Q0.out.call hb1)
    clear hb1 Q0 CV
    go_wp2_with fail
    refine (CE _ ((HS.out.below Q1.out.bel).more Q1.out.bel.size)).mono ?_
    rintro e w2 ⟨rfl, hb2⟩
    have Q2 := Lib.hid (Q1.out.call hb2)
    clear hb2 Q1 CE
    go_wp2_with fail
    go_loopw [20, 3] (fun i v wr => ∃ (k : Nat) (out : List Lk), k ≤ xs.length ∧ i = .int .i64 (k : Int) ∧ Hid (out = apL (xs.take k) s bk) ∧ out.length ≤ k ∧ Hid (QK w v out wr)) (fun i _ _ => xs.length - (intOf i).toNat)
    case atStart => exact ⟨0, [], Nat.zero_le _, rfl, Lib.hid rfl, Nat.le_refl _, Q2⟩
    case round =>
      obtain ⟨k, out, hk, rfl, HDk, hok, Q⟩ := hrel
      clear Q2
      have hbs := Q.out.bel.size
      obtain ⟨A9, g9, c9, rfl, -, -, -, -⟩ := own_slicek Q.out.row hbs
      by_cases hlt : k < xs.length
      · obtain ⟨x, hx⟩ : ∃ x, xs[k]? = some x := ⟨_, List.getElem?_eq_getElem hlt⟩
        obtain ⟨b, off, rfl, hbb, hc0, hc1, hc2⟩ := (HS.out.below Q.out.bel) k x hx
        have hbb1 : b < wr.heap.size := by omega
        have HX := Lib.hid (apL_next hx s bk)
        have HCC := Lib.hid (show apC s bk x = ⟨x.a, x.b, if x.a = s then 2 else if x.a = bk then 1 else 0⟩ from rfl)
        clear hx
        obtain ⟨xa, xb, xc⟩ := x
        dsimp only at hc0 hc1 hc2
        have Q2 := fun cl : Int => Q.out.call ((Below.refl _ _).alloc (Nat.le_refl _) (.cells #[.int .i64 xa, .int .i64 xb, .int .i64 cl] 36))
        have hN := fun cl : Int => new3 (wr.alloc (.cells #[.int .i64 xa, .int .i64 xb, .int .i64 cl] 36)) (.int .i64 xa) (.int .i64 xb) (.int .i64 cl) 36
        simp only [World.size_alloc] at hN
        by_cases h1 : xa = bk
        · have h1' : (xa == bk) = true := by simp [h1]
          by_cases h2 : xa = s
          · have h2' : (xa == s) = true := by simp [h2]
            have HC : Hid (apC s bk ⟨xa, xb, xc⟩ = ⟨xa, xb, 2⟩) := Lib.hid (by rw [HCC.out]; simp [h2])
            clear h1 h2
            go_wp2_with (at_builtin; refine wpList_append_own _ rfl _ _ 25 rfl w.heap.size 36 i0 _ 3 24 Try.underlying25 hi hz0 hz10 hz20 rfl (by decide) _ out.length (flat out) rfl ((Q2 2).row.alloc _) ⟨wr.heap.size + 1, 0, none⟩ 1 1 [.int .i64 xa, .int .i64 xb, .int .i64 2] rfl rfl (hN 2) (one3 _ _ _) (by unfold maxLen; omega) (by omega) (by simp; omega) ?_; intro v' w9 hown hgrow _; have Q9 := Lib.hid ((Q2 2).append (x := ⟨xa, xb, 2⟩) hown hgrow); clear hown hgrow)
            go_roundw
            case rel => exact ⟨k + 1, out ++ [⟨xa, xb, 2⟩], hlt, by go_num, Lib.hid (by rw [HX.out, HDk.out]; congr 1; rw [HC.out]), by simp; omega, Q9⟩
            case measure => simp [intOf]; omega
          · have h2' : (xa == s) = false := by simpa using h2
            have HC : Hid (apC s bk ⟨xa, xb, xc⟩ = ⟨xa, xb, 1⟩) := Lib.hid (by rw [HCC.out]; dsimp only; rw [if_neg h2, if_pos h1])
            clear h1 h2
            go_wp2_with (at_builtin; refine wpList_append_own _ rfl _ _ 25 rfl w.heap.size 36 i0 _ 3 24 Try.underlying25 hi hz0 hz10 hz20 rfl (by decide) _ out.length (flat out) rfl ((Q2 1).row.alloc _) ⟨wr.heap.size + 1, 0, none⟩ 1 1 [.int .i64 xa, .int .i64 xb, .int .i64 1] rfl rfl (hN 1) (one3 _ _ _) (by unfold maxLen; omega) (by omega) (by simp; omega) ?_; intro v' w9 hown hgrow _; have Q9 := Lib.hid ((Q2 1).append (x := ⟨xa, xb, 1⟩) hown hgrow); clear hown hgrow)
            go_roundw
            case rel => exact ⟨k + 1, out ++ [⟨xa, xb, 1⟩], hlt, by go_num, Lib.hid (by rw [HX.out, HDk.out]; congr 1; rw [HC.out]), by simp; omega, Q9⟩
            case measure => simp [intOf]; omega
        · have h1' : (xa == bk) = false := by simpa using h1
          by_cases h2 : xa = s
          · have h2' : (xa == s) = true := by simp [h2]
            have HC : Hid (apC s bk ⟨xa, xb, xc⟩ = ⟨xa, xb, 2⟩) := Lib.hid (by rw [HCC.out]; simp [h2])
            clear h1 h2
            go_wp2_with (at_builtin; refine wpList_append_own _ rfl _ _ 25 rfl w.heap.size 36 i0 _ 3 24 Try.underlying25 hi hz0 hz10 hz20 rfl (by decide) _ out.length (flat out) rfl ((Q2 2).row.alloc _) ⟨wr.heap.size + 1, 0, none⟩ 1 1 [.int .i64 xa, .int .i64 xb, .int .i64 2] rfl rfl (hN 2) (one3 _ _ _) (by unfold maxLen; omega) (by omega) (by simp; omega) ?_; intro v' w9 hown hgrow _; have Q9 := Lib.hid ((Q2 2).append (x := ⟨xa, xb, 2⟩) hown hgrow); clear hown hgrow)
            go_roundw
            case rel => exact ⟨k + 1, out ++ [⟨xa, xb, 2⟩], hlt, by go_num, Lib.hid (by rw [HX.out, HDk.out]; congr 1; rw [HC.out]), by simp; omega, Q9⟩
            case measure => simp [intOf]; omega
          · have h2' : (xa == s) = false := by simpa using h2
            have HC : Hid (apC s bk ⟨xa, xb, xc⟩ = ⟨xa, xb, 0⟩) := Lib.hid (by rw [HCC.out]; dsimp only; rw [if_neg h2, if_neg h1])
            clear h1 h2
            go_wp2_with (at_builtin; refine wpList_append_own _ rfl _ _ 25 rfl w.heap.size 36 i0 _ 3 24 Try.underlying25 hi hz0 hz10 hz20 rfl (by decide) _ out.length (flat out) rfl ((Q2 0).row.alloc _) ⟨wr.heap.size + 1, 0, none⟩ 1 1 [.int .i64 xa, .int .i64 xb, .int .i64 0] rfl rfl (hN 0) (one3 _ _ _) (by unfold maxLen; omega) (by omega) (by simp; omega) ?_; intro v' w9 hown hgrow _; have Q9 := Lib.hid ((Q2 0).append (x := ⟨xa, xb, 0⟩) hown hgrow); clear hown hgrow)
            go_roundw
            case rel => exact ⟨k + 1, out ++ [⟨xa, xb, 0⟩], hlt, by go_num, Lib.hid (by rw [HX.out, HDk.out]; congr 1; rw [HC.out]), by simp; omega, Q9⟩
            case measure => simp [intOf]; omega
      · obtain rfl : k = xs.length := by omega
        have hge : ¬ ((xs.length : Int) < (xs.length : Int)) := by omega
        go_wp2_with fail
        have hfin := Q.out.done
        have he : out = apA xs := by rw [HDk.out, HA.out, List.take_length]
        go_ret
        rw [← he]
        exact hfin

end Go.Proofs.Ytcndhodibeofiaa
