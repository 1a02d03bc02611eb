/-
  The walk of FnElect over this seat.
-/
import Derived.Test.YtcndhodibeofiaaKv
namespace Go.Proofs.Ytcndhodibeofiaa
open Go.RowKit Go.Maps

set_option maxRecDepth 100000 in
set_option maxHeartbeats 1600000 in
theorem fnElect_walk (A : Option Addr) (len c : Nat) (f : Nat → Int) (w : World) (hlc : len ≤ c) (hc : c ≤ maxLen) (hB : Byt w w.heap.size A len f) :
   Calls Try.prog 6 #[.slice A len c] w fun e w' => e = .returned (.bool true) ∧ Below w.heap.size w w' := by
  have HB := Lib.hid hB
  clear hB
  by_cases hl : len ≤ 1048576
  · go_enter Try.func6, Try.ntmps6
    go_wp2_with fail
    refine (drawSpeakerElect_any A len c f w hlc hc HB.out).mono ?_
    rintro e w1 ⟨xs, B, cb, rfl, hxl, hsl, hb1⟩
    have L1 := Lib.hid (show KL w B xs w1 from ⟨hsl, hb1⟩)
    have CI := fun W (h : Sl W W.heap.size B xs) => elect_impl B xs cb W (by omega) h
    have CS := fun W (h : Sl W W.heap.size B xs) => elect_spec B xs cb W (by omega) h
    have CV := fun W (h : Sl W W.heap.size B xs) => candValid_spec B xs cb W (by omega) h
    have CN := fun n W (h : Sl W W.heap.size B xs) => candidate_any B xs cb n W (by omega) h
    have FB : ∀ (u v z : Int) (W : World), Sem.run Try.prog (Instr.field 36 (.agg #[.int .i64 u, .int .i64 v, .int .i64 z]) 1) W = .ok (.int .i64 v) W := fun u v z W => by unfold Instr.field; simp [go_sem, asAgg, Result.andThen]
    clear hsl hb1 HB
    go_wp2_with fail
    refine (CI _ L1.out.sl).mono ?_
    rintro e w2 ⟨rfl, hb2⟩
    have L2 := Lib.hid (L1.out.call hb2)
    clear hb2 L1 CI
    go_wp2_with fail
    refine (CS _ L2.out.sl).mono ?_
    rintro e w3 ⟨rfl, hb3⟩
    have L3 := Lib.hid (L2.out.call hb3)
    clear hb3 L2 CS
    go_wp2_with fail
    refine (CV _ L3.out.sl).mono ?_
    rintro e w4 ⟨rfl, hb4⟩
    have L4 := Lib.hid (L3.out.call hb4)
    clear hb4 L3 CV
    cases hv : cdB xs with
    | false =>
      go_wp2_with fail
      go_ret
      exact ⟨rfl, L4.out.bel⟩
    | true =>
      obtain ⟨s, b, he, hok, h1, h2⟩ := elect_facts hv
      obtain ⟨d1, d2, d3⟩ := elect_diff hok h1 h2
      rw [he]
      clear hv he hok h1 h2
      have D1 := Lib.hid d1
      have D2 := Lib.hid d2
      have D3 := Lib.hid d3
      clear d1 d2 d3
      have CS := Lib.hid (CN s)
      have CB := Lib.hid (CN b)
      clear CN
      generalize cdI xs s = x at *
      generalize cdI xs b = y at *
      obtain ⟨xa, xb, xc⟩ := x
      obtain ⟨ya, yb, yc⟩ := y
      have hxb : 0 ≤ s → (xb == 0) = false := fun h => by have := D1.out h; simpa using this
      have hyb : 0 ≤ b → (yb == 0) = false := fun h => by have := D2.out h; simpa using this
      by_cases hs0 : 0 ≤ s
      · have hx := hxb hs0
        have hne : (s != b) = true := by
          have := D3.out
          simp only [bne_iff_ne, ne_eq]
          omega
        have hsn : ¬ s < 0 := by omega
        clear hxb D1 D3
        go_wp2_with fail
        refine (CS.out _ L4.out.sl).mono ?_
        rintro e w5 ⟨rfl, hb5⟩
        have L5 := Lib.hid (L4.out.call hb5)
        clear hb5 L4 CS
        by_cases hb0 : 0 ≤ b
        · have hy := hyb hb0
          clear hyb D2
          go_wp2_with fail
          refine (CB.out _ L5.out.sl).mono ?_
          rintro e w6 ⟨rfl, hb6⟩
          have L6 := Lib.hid (L5.out.call hb6)
          clear hb6 L5 CB
          go_wp2_with fail
          go_ret
          exact ⟨rfl, L6.out.bel⟩
        · go_wp2_with fail
          go_ret
          exact ⟨rfl, L5.out.bel⟩
      · have hsn : s < 0 := by omega
        by_cases hb0 : 0 ≤ b
        · have hne : (s != b) = true := by simp only [bne_iff_ne, ne_eq]; omega
          have hy := hyb hb0
          clear hxb hyb D1 D2 D3
          go_wp2_with fail
          refine (CB.out _ L4.out.sl).mono ?_
          rintro e w6 ⟨rfl, hb6⟩
          have L6 := Lib.hid (L4.out.call hb6)
          clear hb6 L4 CB
          go_wp2_with fail
          go_ret
          exact ⟨rfl, L6.out.bel⟩
        · clear hxb hyb D1 D2 D3
          go_wp2_with fail
          go_ret
          exact ⟨rfl, L4.out.bel⟩
  · have hli : (1048576 : Int) < (len : Int) := by omega
    go_enter Try.func6, Try.ntmps6
    go_wp2_with fail
    go_ret
    exact ⟨rfl, Below.refl _ _⟩
end Go.Proofs.Ytcndhodibeofiaa
