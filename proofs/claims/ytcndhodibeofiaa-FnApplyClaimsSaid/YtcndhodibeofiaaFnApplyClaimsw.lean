/-
  The walk of FnApplyClaims over this seat.
-/
import Derived.Test.YtcndhodibeofiaaKv
namespace Go.Proofs.Ytcndhodibeofiaa
open Go.RowKit Go.Maps

set_option maxRecDepth 100000 in
set_option maxHeartbeats 3200000 in
theorem fnApplyClaims_walk (A : Option Addr) (len c : Nat) (f : Nat → Int) (w : World) (hlc : len ≤ c) (hc : c ≤ maxLen) (hB : Byt w w.heap.size A len f) :
   Calls Try.prog 10 #[.slice A len c] w fun e w' => e = .returned (.bool true) ∧ Below w.heap.size w w' := by
  have HB := Lib.hid hB
  clear hB
  by_cases hl : len ≤ 1048576
  · go_enter Try.func10, Try.ntmps10
    go_wp2_with fail
    refine (drawSpeakerApply_any A len c f w hlc hc HB.out).mono ?_
    rintro e w1 ⟨xs, B, cb, rfl, hxl, hsl, hb1⟩
    have L1 := Lib.hid (show KL w B xs w1 from ⟨hsl, hb1⟩)
    have hal := apA_le xs
    have CI := fun W (h : Sl W W.heap.size B xs) => apply_impl B xs cb W (by omega) h
    have CS := fun W (h : Sl W W.heap.size B xs) => apply_spec B xs cb W (by omega) h
    have CV := fun W (h : Sl W W.heap.size B xs) => candValid_spec B xs cb W (by omega) h
    have CE := fun W (h : Sl W W.heap.size B xs) => elect_impl B xs cb W (by omega) h
    have CQ := fun A1 A2 c1 c2 W (h1 : Sl W W.heap.size A1 (apA xs)) (h2 : Sl W W.heap.size A2 (apA xs)) => sameCand_same A1 A2 (apA xs) c1 c2 W (by omega) h1 h2
    have CP := fun A1 c1 W (h1 : Sl W W.heap.size A1 (apA xs)) => apply_impl A1 (apA xs) c1 W (by omega) h1
    have CF := fun A1 c1 W (h1 : Sl W W.heap.size A1 (apA xs)) => elect_impl A1 (apA xs) c1 W (by omega) h1
    have CN := fun A1 c1 n W (h1 : Sl W W.heap.size A1 (apA xs)) => candidate_any A1 (apA xs) c1 n W (by omega) h1
    have FB : ∀ (u v z : Int) (W : World), Sem.run Try.prog (Instr.field 36 (.agg #[.int .i64 u, .int .i64 v, .int .i64 z]) 1) W = .ok (.int .i64 v) W := fun u v z W => by unfold Instr.field; simp [go_sem, asAgg, Result.andThen]
    have FA : ∀ (u v z : Int) (W : World), Sem.run Try.prog (Instr.field 36 (.agg #[.int .i64 u, .int .i64 v, .int .i64 z]) 0) W = .ok (.int .i64 u) W := fun u v z W => by unfold Instr.field; simp [go_sem, asAgg, Result.andThen]
    obtain ⟨ys, hys⟩ : ∃ ys, apA xs = ys := ⟨_, rfl⟩
    rw [hys] at CI CS CQ CP CF CN hal
    have HY := Lib.hid hys
    clear hsl hb1 HB hys
    go_wp2_with fail
    refine (CI _ L1.out.sl).mono ?_
    rintro e w2 ⟨A2, g2, c2, rfl, -, ho2, hb2⟩
    have L2 := Lib.hid (show KA w B xs A2 ys w2 from ⟨L1.out.call hb2, ho2.sl⟩)
    clear ho2 hb2 L1 CI
    go_wp2_with fail
    refine (CS _ L2.out.kl.sl).mono ?_
    rintro e w3 ⟨A3, g3, c3, rfl, -, ho3, hb3⟩
    have L3 := Lib.hid (L2.out.call hb3)
    have S3 := Lib.hid ho3.sl
    clear ho3 hb3 L2 CS
    go_wp2_with fail
    refine (CQ _ _ _ _ _ L3.out.so S3.out).mono ?_
    rintro e w4 ⟨rfl, hb4⟩
    have L4 := Lib.hid (L3.out.call hb4)
    have S4 := Lib.hid ((S3.out.below hb4).more hb4.size)
    clear hb4 L3 S3
    go_wp2_with fail
    refine (CV _ L4.out.kl.sl).mono ?_
    rintro e w5 ⟨rfl, hb5⟩
    have L5 := Lib.hid (L4.out.call hb5)
    have S5 := Lib.hid ((S4.out.below hb5).more hb5.size)
    clear hb5 L4 S4 CV
    cases hv : cdB xs with
    | false =>
      go_wp2_with fail
      refine (CQ _ _ _ _ _ L5.out.so S5.out).mono ?_
      rintro e w6 ⟨rfl, hb6⟩
      have L6 := Lib.hid (L5.out.call hb6)
      clear hb6
      go_wp2_with fail
      go_ret
      exact ⟨rfl, L6.out.kl.bel⟩
    | true =>
      obtain ⟨s, b, he, hok, h1, h2⟩ := elect_facts hv
      have hyl : ys = apL xs s b := by rw [← HY.out]; unfold apA; rw [hv, he]; rfl
      obtain ⟨hyok, hye, hyy⟩ := ap_stable hok
      rw [HY.out, he] at hye
      rw [HY.out] at hyy hyok
      rw [he] at CE
      rw [hye] at CF
      rw [hyy] at CP
      clear hv he hye hyy HY S5
      clear hok h1 h2 hyok CN CF CP CQ
      have hylen : ys.length = xs.length := by rw [hyl]; unfold apL; rw [List.length_map]
      have hyle : ((ys.length : Int) == (xs.length : Int)) = true := by rw [hylen]; simp
      have HYL := Lib.hid (fun (k : Nat) (x : Lk) (hx : xs[k]? = some x) => (show ys[k]? = some (apC s b x) by rw [hyl]; unfold apL; rw [List.getElem?_map, hx]; rfl))
      clear hyl hylen
      go_wp2_with fail
      refine (CE _ L5.out.kl.sl).mono ?_
      rintro e w6 ⟨rfl, hb6⟩
      have L6 := Lib.hid (L5.out.call hb6)
      clear hb6 L5 CE
      go_wp2_with fail
      go_loopw [8] (fun i wr => ∃ k : Nat, k ≤ xs.length ∧ i = .int .i64 (k : Int) ∧ Hid (KA w B xs A2 ys wr)) (fun i _ => xs.length - (intOf i).toNat)
      case atStart => exact ⟨0, Nat.zero_le _, rfl, L6⟩
      case round =>
        obtain ⟨k, hk, rfl, L⟩ := hrel
        clear L6
        by_cases hlt : k < xs.length
        · obtain ⟨x, hx⟩ : ∃ x, xs[k]? = some x := ⟨_, List.getElem?_eq_getElem hlt⟩
          obtain ⟨b', off, rfl, hbb, hc0, hc1, hc2⟩ := L.out.kl.sl k x hx
          have HYK := Lib.hid (HYL.out k x hx)
          have hkly : k < ys.length := (List.getElem?_eq_some_iff.1 HYK.out).1
          have HCC := Lib.hid (show apC s b x = ⟨x.a, x.b, if x.a = s then 2 else if x.a = b then 1 else 0⟩ from rfl)
          clear hx
          obtain ⟨xa, xb, xc⟩ := x
          dsimp only at hc0 hc1 hc2
          have hb1 : b' < wr.heap.size + 1 := by omega
          by_cases e1 : xa = s
          · have q1 : (xa == s) = true := by simp [e1]
            by_cases e2 : xa = b
            · have q2 : (xa == b) = true := by simp [e2]
              have q3 : (b != s) = false := by rw [← e1, ← e2]; simp
              have HC : Hid (apC s b ⟨xa, xb, xc⟩ = ⟨xa, xb, 2⟩) := Lib.hid (by rw [HCC.out]; dsimp only; rw [if_pos e1])
              obtain ⟨b2, of2, rfl, hbb2, hd0, hd1, hd2⟩ := L.out.so k _ HYK.out
              rw [HC.out] at hd0 hd1 hd2
              dsimp only at hd0 hd1 hd2
              have hb2 : b2 < wr.heap.size + 1 := by omega
              have K2 := Lib.hid (L.out.alloc (.cells #[.int .i64 xa, .int .i64 xb, .int .i64 2] 36))
              clear e1 e2
              go_wp2_with fail
              try go_quiet (fail)
              try go_wp2_with fail
              go_roundw
              case rel => exact ⟨k + 1, hlt, by go_num, by first | exact K2 | exact Lib.hid (K2.out.drewN _)⟩
              case measure => simp [intOf]; omega
            · have q2 : (xa == b) = false := by simpa using e2
              have HC : Hid (apC s b ⟨xa, xb, xc⟩ = ⟨xa, xb, 2⟩) := Lib.hid (by rw [HCC.out]; dsimp only; rw [if_pos e1])
              obtain ⟨b2, of2, rfl, hbb2, hd0, hd1, hd2⟩ := L.out.so k _ HYK.out
              rw [HC.out] at hd0 hd1 hd2
              dsimp only at hd0 hd1 hd2
              have hb2 : b2 < wr.heap.size + 1 := by omega
              have K2 := Lib.hid (L.out.alloc (.cells #[.int .i64 xa, .int .i64 xb, .int .i64 2] 36))
              clear e1 e2
              go_wp2_with fail
              try go_quiet (fail)
              try go_wp2_with fail
              go_roundw
              case rel => exact ⟨k + 1, hlt, by go_num, by first | exact K2 | exact Lib.hid (K2.out.drewN _)⟩
              case measure => simp [intOf]; omega
          · have q1 : (xa == s) = false := by simpa using e1
            by_cases e2 : xa = b
            · have q2 : (xa == b) = true := by simp [e2]
              have q3 : (b != s) = true := by rw [bne_iff_ne]; omega
              have HC : Hid (apC s b ⟨xa, xb, xc⟩ = ⟨xa, xb, 1⟩) := Lib.hid (by rw [HCC.out]; dsimp only; rw [if_neg e1, if_pos e2])
              obtain ⟨b2, of2, rfl, hbb2, hd0, hd1, hd2⟩ := L.out.so k _ HYK.out
              rw [HC.out] at hd0 hd1 hd2
              dsimp only at hd0 hd1 hd2
              have hb2 : b2 < wr.heap.size + 1 := by omega
              have K2 := Lib.hid (L.out.alloc (.cells #[.int .i64 xa, .int .i64 xb, .int .i64 1] 36))
              clear e1 e2
              go_wp2_with fail
              try go_quiet (fail)
              try go_wp2_with fail
              go_roundw
              case rel => exact ⟨k + 1, hlt, by go_num, by first | exact K2 | exact Lib.hid (K2.out.drewN _)⟩
              case measure => simp [intOf]; omega
            · have q2 : (xa == b) = false := by simpa using e2
              have HC : Hid (apC s b ⟨xa, xb, xc⟩ = ⟨xa, xb, 0⟩) := Lib.hid (by rw [HCC.out]; dsimp only; rw [if_neg e1, if_neg e2])
              obtain ⟨b2, of2, rfl, hbb2, hd0, hd1, hd2⟩ := L.out.so k _ HYK.out
              rw [HC.out] at hd0 hd1 hd2
              dsimp only at hd0 hd1 hd2
              have hb2 : b2 < wr.heap.size + 1 := by omega
              have K2 := Lib.hid (L.out.alloc (.cells #[.int .i64 xa, .int .i64 xb, .int .i64 0] 36))
              clear e1 e2
              go_wp2_with fail
              try go_quiet (fail)
              try go_wp2_with fail
              go_roundw
              case rel => exact ⟨k + 1, hlt, by go_num, by first | exact K2 | exact Lib.hid (K2.out.drewN _)⟩
              case measure => simp [intOf]; omega
        · have hge : xs.length ≤ k := by omega
          go_wp2_with fail
          go_ret
          exact ⟨rfl, L.out.kl.bel⟩
  · have hli : (1048576 : Int) < (len : Int) := by omega
    go_enter Try.func10, Try.ntmps10
    go_wp2_with fail
    go_ret
    exact ⟨rfl, Below.refl _ _⟩
end Go.Proofs.Ytcndhodibeofiaa
