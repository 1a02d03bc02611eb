/-
  The walk of FnElectClaim over this seat.
-/
import Derived.Test.YtcndhodibeofiaaKv
namespace Go.Proofs.Ytcndhodibeofiaa
open Go.RowKit Go.Maps

set_option maxRecDepth 100000 in
set_option maxHeartbeats 1600000 in
theorem fnElectClaim_walk (A : Option Addr) (len c : Nat) (f : Nat → Int) (w : World) (hlc : len ≤ c) (hc : c ≤ maxLen) (hB : Byt w w.heap.size A len f) :
   Calls Try.prog 8 #[.slice A len c] w fun e w' => e = .returned (.bool true) ∧ Below w.heap.size w w' := by
  have HB := Lib.hid hB
  clear hB
  by_cases hl : len ≤ 1048576
  · go_enter Try.func8, Try.ntmps8
    go_wp2_with fail
    refine (drawSpeakerElect_any A len c f w hlc hc HB.out).mono ?_
    rintro e w1 ⟨xs, B, cb, rfl, hxl, hsl, hb1⟩
    have L1 := Lib.hid (show KL w B xs w1 from ⟨hsl, hb1⟩)
    have CI := fun W (h : Sl W W.heap.size B xs) => elect_impl B xs cb W (by omega) h
    have CS := fun W (h : Sl W W.heap.size B xs) => elect_spec B xs cb W (by omega) h
    have CV := fun W (h : Sl W W.heap.size B xs) => candValid_spec B xs cb W (by omega) h
    have CN := fun n W (h : Sl W W.heap.size B xs) => candidate_any B xs cb n W (by omega) h
    have FB : ∀ (u v z : Int) (W : World), Sem.run Try.prog (Instr.field 36 (.agg #[.int .i64 u, .int .i64 v, .int .i64 z]) 1) W = .ok (.int .i64 v) W := fun u v z W => by unfold Instr.field; simp [go_sem, asAgg, Result.andThen]
    have FA : ∀ (u v z : Int) (W : World), Sem.run Try.prog (Instr.field 36 (.agg #[.int .i64 u, .int .i64 v, .int .i64 z]) 0) W = .ok (.int .i64 u) W := fun u v z W => by unfold Instr.field; simp [go_sem, asAgg, Result.andThen]
    clear hsl hb1 HB
    go_wp2_with fail
    refine (CI _ L1.out.sl).mono ?_
    rintro e w2 ⟨rfl, hb2⟩
    have L2 := Lib.hid (L1.out.call hb2)
    clear hb2 L1 CI
    go_wp2_with fail
    refine (CS _ L2.out.sl).mono ?_
    rintro e w3 ⟨rfl, hb3⟩
    have L3 := Lib.hid (L2.out.call hb3)
    clear hb3 L2 CS
    go_wp2_with fail
    refine (CV _ L3.out.sl).mono ?_
    rintro e w4 ⟨rfl, hb4⟩
    have L4 := Lib.hid (L3.out.call hb4)
    clear hb4 L3 CV
    cases hv : cdB xs with
    | false =>
      go_wp2_with fail
      go_ret
      exact ⟨rfl, L4.out.bel⟩
    | true =>
      obtain ⟨s, b, he, hok, h1, h2⟩ := elect_facts hv
      rw [he]
      clear hv he
      by_cases hs0 : 0 ≤ s
      · have hsn : ¬ s < 0 := by omega
        have HCL := Lib.hid (elect_claim hok h1 hs0)
        have CS := CN s
        clear hok h1 h2 CN
        generalize cdI xs s = x at *
        obtain ⟨sa, sb, sc⟩ := x
        go_wp2_with fail
        refine (CS _ L4.out.sl).mono ?_
        rintro e w5 ⟨rfl, hb5⟩
        have L5 := Lib.hid ((L4.out.call hb5).alloc (.cells #[.int .i64 sa, .int .i64 sb, .int .i64 sc] 36))
        have X5 := Lib.hid (Box.new w5 36 #[.int .i64 sa, .int .i64 sb, .int .i64 sc])
        clear hb5 L4 CS
        go_wp2_with fail
        generalize w5.heap.size = G at *
        generalize w5.alloc (.cells #[.int .i64 sa, .int .i64 sb, .int .i64 sc] 36) = V5 at *
        go_loopw [9] (fun i wr => ∃ k : Nat, k ≤ xs.length ∧ i = .int .i64 (k : Int) ∧ Hid (KL w B xs wr) ∧ Hid (Box wr G 36 #[.int .i64 sa, .int .i64 sb, .int .i64 sc])) (fun i _ => xs.length - (intOf i).toNat)
        case atStart => exact ⟨0, Nat.zero_le _, rfl, L5, X5⟩
        case round =>
          obtain ⟨k, hk, rfl, L, X⟩ := hrel
          clear L5 X5
          by_cases hlt : k < xs.length
          · obtain ⟨x, hx⟩ : ∃ x, xs[k]? = some x := ⟨_, List.getElem?_eq_getElem hlt⟩
            obtain ⟨b', off, rfl, hbb, hc0, hc1, hc2⟩ := L.out.sl k x hx
            have hno := HCL.out x (List.mem_of_getElem? hx)
            clear hx
            obtain ⟨xa, xb, xc⟩ := x
            dsimp only at hc0 hc1 hc2 hno
            obtain ⟨zx, x0, x1, x2, -, -, -⟩ := X.out.tri
            have L2 := Lib.hid (L.out.alloc (.cells #[.int .i64 xa, .int .i64 xb, .int .i64 xc] 36))
            have X2 := Lib.hid (X.out.alloc (.cells #[.int .i64 xa, .int .i64 xb, .int .i64 xc] 36))
            have hz : ¬ 0 < xb ∨ (0 < xb ∧ ¬ sc < xc ∧ (xc == sc) = false) ∨ (0 < xb ∧ ¬ sc < xc ∧ (xc == sc) = true ∧ ¬ sb < xb ∧ (xb == sb) = false) ∨ (0 < xb ∧ ¬ sc < xc ∧ (xc == sc) = true ∧ ¬ sb < xb ∧ (xb == sb) = true ∧ ¬ sa < xa) := by
              simp only [beq_iff_eq, beq_eq_false_iff_ne, ne_eq]
              omega
            clear hno
            rcases hz with h1 | ⟨h1, h2, h3⟩ | ⟨h1, h2, h3, h4, h5⟩ | ⟨h1, h2, h3, h4, h5, h6⟩
            all_goals
              go_wp2_with fail
              go_roundw
              case rel => exact ⟨k + 1, hlt, by go_num, L2, X2⟩
              case measure => simp [intOf]; omega
          · have hge : xs.length ≤ k := by omega
            go_wp2_with fail
            go_ret
            exact ⟨rfl, L.out.bel⟩
      · have hsn : s < 0 := by omega
        go_wp2_with fail
        go_ret
        exact ⟨rfl, L4.out.bel⟩
  · have hli : (1048576 : Int) < (len : Int) := by omega
    go_enter Try.func8, Try.ntmps8
    go_wp2_with fail
    go_ret
    exact ⟨rfl, Below.refl _ _⟩
end Go.Proofs.Ytcndhodibeofiaa
