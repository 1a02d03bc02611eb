/-
  The walk of FnElectSome over this seat.
-/
import Derived.Test.YtcndhodibeofiaaKv
namespace Go.Proofs.Ytcndhodibeofiaa
open Go.RowKit Go.Maps

set_option maxRecDepth 100000 in
set_option maxHeartbeats 1600000 in
theorem fnElectSome_walk (A : Option Addr) (len c : Nat) (f : Nat → Int) (w : World) (hlc : len ≤ c) (hc : c ≤ maxLen) (hB : Byt w w.heap.size A len f) :
   Calls Try.prog 7 #[.slice A len c] w fun e w' => e = .returned (.bool true) ∧ Below w.heap.size w w' := by
  have HB := Lib.hid hB
  clear hB
  by_cases hl : len ≤ 1048576
  · go_enter Try.func7, Try.ntmps7
    go_wp2_with fail
    refine (drawSpeakerElect_any A len c f w hlc hc HB.out).mono ?_
    rintro e w1 ⟨xs, B, cb, rfl, hxl, hsl, hb1⟩
    have L1 := Lib.hid (show KL w B xs w1 from ⟨hsl, hb1⟩)
    have CI := fun W (h : Sl W W.heap.size B xs) => elect_impl B xs cb W (by omega) h
    have CS := fun W (h : Sl W W.heap.size B xs) => elect_spec B xs cb W (by omega) h
    have CV := fun W (h : Sl W W.heap.size B xs) => candValid_spec B xs cb W (by omega) h
    have CN := fun n W (h : Sl W W.heap.size B xs) => candidate_any B xs cb n W (by omega) h
    have FB : ∀ (u v z : Int) (W : World), Sem.run Try.prog (Instr.field 36 (.agg #[.int .i64 u, .int .i64 v, .int .i64 z]) 1) W = .ok (.int .i64 v) W := fun u v z W => by unfold Instr.field; simp [go_sem, asAgg, Result.andThen]
    have FA : ∀ (u v z : Int) (W : World), Sem.run Try.prog (Instr.field 36 (.agg #[.int .i64 u, .int .i64 v, .int .i64 z]) 0) W = .ok (.int .i64 u) W := fun u v z W => by unfold Instr.field; simp [go_sem, asAgg, Result.andThen]
    clear hsl hb1 HB
    go_wp2_with fail
    refine (CI _ L1.out.sl).mono ?_
    rintro e w2 ⟨rfl, hb2⟩
    have L2 := Lib.hid (L1.out.call hb2)
    clear hb2 L1 CI
    go_wp2_with fail
    refine (CS _ L2.out.sl).mono ?_
    rintro e w3 ⟨rfl, hb3⟩
    have L3 := Lib.hid (L2.out.call hb3)
    clear hb3 L2 CS
    go_wp2_with fail
    refine (CV _ L3.out.sl).mono ?_
    rintro e w4 ⟨rfl, hb4⟩
    have L4 := Lib.hid (L3.out.call hb4)
    clear hb4 L3 CV
    cases hv : cdB xs with
    | false =>
      go_wp2_with fail
      go_ret
      exact ⟨rfl, L4.out.bel⟩
    | true =>
      obtain ⟨s, b, he, hok, h1, h2⟩ := elect_facts hv
      rw [he]
      clear hv he
      obtain ⟨d1, d2⟩ := elect_some hok h1 h2
      clear hok h1 h2 CN
      have hcl := cnP_all xs
      have hcn := cnP_le xs
      have HCN := Lib.hid (fun (k : Nat) (x : Lk) (hx : xs[k]? = some x) => cnP_next hx)
      rw [← hcl] at d1 d2
      clear hcl
      have HCL := Lib.hid hcn
      have D1 := Lib.hid d1
      have D2 := Lib.hid d2
      clear d1 d2 hcn
      go_wp2_with fail
      go_loop [8, 9] (fun n i => ∃ k : Nat, k ≤ xs.length ∧ i = .int .i64 (k : Int) ∧ n = .int .i64 (cnP xs k : Int)) (fun _ i => xs.length - (intOf i).toNat)
      case atStart => exact ⟨0, Nat.zero_le _, rfl, rfl⟩
      case round =>
        obtain ⟨k, hk, rfl, rfl⟩ := hrel
        by_cases hlt : k < xs.length
        · obtain ⟨x, hx⟩ : ∃ x, xs[k]? = some x := ⟨_, List.getElem?_eq_getElem hlt⟩
          obtain ⟨b', off, rfl, hbb, -, hc1, -⟩ := L4.out.sl k x hx
          have hn := HCN.out k x hx
          have hle := HCL.out k
          clear hx
          generalize cnP xs k = m at *
          obtain ⟨xa, xb, xc⟩ := x
          dsimp only at hc1 hn
          by_cases hp : 0 < xb
          · rw [if_pos hp] at hn
            have HN := Lib.hid hn
            clear hn
            go_wp2_with fail
            go_round
            case rel => exact ⟨k + 1, hlt, by go_num, by rw [HN.out]; go_num⟩
            case measure => simp [intOf]; omega
          · rw [if_neg hp] at hn
            have HN := Lib.hid hn
            clear hn
            go_wp2_with fail
            go_round
            case rel => exact ⟨k + 1, hlt, by go_num, by rw [HN.out]; go_num⟩
            case measure => simp [intOf]; omega
        · obtain rfl : k = xs.length := by omega
          have d1 := D1.out
          have d2 := D2.out
          clear D1 D2
          generalize cnP xs xs.length = m at *
          have hz : (0 ≤ s ∧ 0 ≤ b ∧ 2 ≤ m) ∨ (0 ≤ s ∧ ¬ 0 ≤ b ∧ m = 1) ∨ (¬ 0 ≤ s ∧ ¬ 0 ≤ b ∧ m = 0) := by omega
          clear d1 d2
          rcases hz with ⟨h1, h2, h3⟩ | ⟨h1, h2, rfl⟩ | ⟨h1, h2, rfl⟩
          · have h4 : (1 : Int) ≤ (m : Int) := by omega
            have h5 : (2 : Int) ≤ (m : Int) := by omega
            go_wp2_with fail
            go_ret
            exact ⟨rfl, L4.out.bel⟩
          · go_wp2_with fail
            go_ret
            exact ⟨rfl, L4.out.bel⟩
          · go_wp2_with fail
            go_ret
            exact ⟨rfl, L4.out.bel⟩
  · have hli : (1048576 : Int) < (len : Int) := by omega
    go_enter Try.func7, Try.ntmps7
    go_wp2_with fail
    go_ret
    exact ⟨rfl, Below.refl _ _⟩
end Go.Proofs.Ytcndhodibeofiaa
