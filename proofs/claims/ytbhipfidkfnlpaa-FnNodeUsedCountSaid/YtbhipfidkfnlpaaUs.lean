/-
  Contracts over this seat: the specification's LinkUsed and NodeUsed; both, of one graph.
-/
import Derived.Test.YtbhipfidkfnlpaaTak
namespace Go.Proofs.Ytbhipfidkfnlpaa
open Go.RowKit Go.Maps



set_option maxRecDepth 100000 in
set_option maxHeartbeats 1600000 in
theorem node_spec (nn : Int) (A : Option Addr) (ls : List Lk) (c : Nat) (s t x : Int) (w : World) (hm : ls.length ≤ 2000000) (hnu : nn ≤ 9223372036854775807) (hS : Sl w w.heap.size A ls) :
   Calls Try.prog 33 #[gval nn A ls.length c, .int .i64 s, .int .i64 t, .int .i64 x] w fun e w' => e = .returned (.bool (nodeB nn ls s t x)) ∧ Below w.heap.size w w' := by
  have HS := Lib.hid hS
  have HK := Lib.hid (Box.new w 30 #[.int .i64 nn, .slice A ls.length c])
  have B0 : Below w.heap.size w (w.alloc (.cells #[.int .i64 nn, .slice A ls.length c] 30)) := by (repeat (first | exact Below.refl _ _ | (refine Below.alloc ?_ (by first | exact Nat.le_refl _ | omega | (simp; done) | (simp; omega)) _) | (refine Below.setCell ?_ (by first | exact Nat.le_refl _ | omega | (simp; done) | (simp; omega)) _) | exact Below.drew ‹_›))
  have C1 := l2two_any nn A ls c s t _ hm hnu ((hS.below B0).more (by simp))
  have BB := Lib.hid B0
  clear hS B0
  cases hv : vwB nn ls [s, t] with
  | false =>
    rw [hv] at C1
    have e : nodeB nn ls s t x = false := by
      unfold nodeB
      cases hq : vwB nn ls [s, t, x] with
      | false => rfl
      | true => rw [(vwB_three.1 hq).1] at hv; cases hv
    rw [e]
    clear hv e
    go_enter Try.func33, Try.ntmps33
    go_wp2_with (go_at_call 37; refine C1.mono ?_; clear C1; rintro e w1 ⟨rfl, hb1⟩; have B1 := Lib.hid (BB.out.trans (hb1.mono BB.out.size)); clear hb1)
    go_ret
    exact ⟨rfl, B1.out⟩
  | true =>
    rw [hv] at C1
    obtain ⟨hg, hs, ht⟩ := vwB_two hv
    obtain ⟨hf, hn1, hn8, hl14⟩ := gvB_fit hg
    have C2 : ∀ V : World, Calls Try.prog 55 #[gval nn A ls.length c, .int .i64 x] V fun e w' => e = .returned (.bool (inB x 0 (nn - 1))) ∧ Below V.heap.size V w' := fun V => l1Node_vis nn A ls.length c x V hn1 hn8
    cases hx : inB x 0 (nn - 1) with
    | false =>
      have e : nodeB nn ls s t x = false := by
        unfold nodeB
        cases hq : vwB nn ls [s, t, x] with
        | false => rfl
        | true =>
          have := (vwB_three.1 hq).2
          unfold inB at hx
          simp at hx
          omega
      rw [e]
      rw [hx] at C2
      clear hx hv hg hf e
      go_enter Try.func33, Try.ntmps33
      go_wp2_with (first
        | (go_at_call 37; refine C1.mono ?_; clear C1; rintro e w1 ⟨rfl, hb1⟩; have K1 := Lib.hid (HK.out.below hb1 (by simp)); obtain ⟨z1, e10, e11, -, -⟩ := K1.out.two; have B1 := Lib.hid (BB.out.trans (hb1.mono BB.out.size)); clear hb1)
        | (go_at_call 55; refine (C2 _).mono ?_; clear C2; rintro e w2 ⟨rfl, hb2⟩; have B2 := Lib.hid (B1.out.trans (hb2.mono B1.out.size)); clear hb2))
      go_ret
      exact ⟨rfl, B2.out⟩
    | true =>
      rw [hx] at C2
      unfold inB at hx
      simp at hx
      obtain ⟨n, rfl⟩ : ∃ q : Nat, nn = (q : Int) := ⟨nn.toNat, by omega⟩
      obtain ⟨xn, rfl⟩ : ∃ q : Nat, x = (q : Int) := ⟨x.toNat, by omega⟩
      obtain ⟨tn, rfl⟩ : ∃ q : Nat, t = (q : Int) := ⟨t.toNat, by omega⟩
      have hxn : xn < n := by omega
      have htn : tn < n := by omega
      have hres : nodeB (n : Int) ls s (tn : Int) (xn : Int) = nodeL (n : Int) ls s (tn : Int) (xn : Int) := by
        unfold nodeB
        rw [vwB_three.2 ⟨hv, by omega, by omega⟩, Bool.true_and]
      rw [hres]
      unfold nodeL
      have X1 := Lib.hid (fl_at (f := bf (n : Int) ls s) htn)
      have X2 := Lib.hid (fl_at (f := bf (n : Int) ls s) hxn)
      have Y2 := Lib.hid (fl_at (f := bf (n : Int) ls (tn : Int)) hxn)
      have b1 := bf_bound hf hs hn8 (tn : Int)
      have b2 := bf_bound hf hs hn8 (xn : Int)
      have b5 := bf_bound hf ht hn8 (xn : Int)
      have hxl := fl_len n (bf (n : Int) ls s)
      have hyl := fl_len n (bf (n : Int) ls (tn : Int))
      have C3 : ∀ V : World, Sl V V.heap.size A ls → Calls Try.prog 56 #[gval (n : Int) A ls.length c, .int .i64 s] V (NewI (fl n (bf (n : Int) ls s)) V) := fun V hV => l2d_any n A ls c s V (by omega) (by omega) hl14 hf hs hV
      have C4 : ∀ V : World, Sl V V.heap.size A ls → Calls Try.prog 56 #[gval (n : Int) A ls.length c, .int .i64 (tn : Int)] V (NewI (fl n (bf (n : Int) ls (tn : Int))) V) := fun V hV => l2d_any n A ls c (tn : Int) V (by omega) (by omega) hl14 hf ht hV
      clear hv hg hs ht hf hx hres
      generalize fl n (bf (n : Int) ls s) = xs at *
      generalize fl n (bf (n : Int) ls (tn : Int)) = ys at *
      generalize bf (n : Int) ls s (tn : Int) = d1 at *
      generalize bf (n : Int) ls s (xn : Int) = d2 at *
      generalize bf (n : Int) ls (tn : Int) (xn : Int) = d5 at *
      go_enter Try.func33, Try.ntmps33
      go_wp2_with (first
        | (go_at_call 37; refine C1.mono ?_; clear C1; rintro e w1 ⟨rfl, hb1⟩; have K1 := Lib.hid (HK.out.below hb1 (by simp)); obtain ⟨z1, e10, e11, -, -⟩ := K1.out.two; have B1 := Lib.hid (BB.out.trans (hb1.mono BB.out.size)); clear hb1)
        | (go_at_call 55; refine (C2 _).mono ?_; clear C2; rintro e w2 ⟨rfl, hb2⟩; have K2 := Lib.hid (K1.out.below hb2 z1); have B2 := Lib.hid (B1.out.trans (hb2.mono B1.out.size)); clear hb2 e10 e11; obtain ⟨z2, e20, e21, -, -⟩ := K2.out.two)
        | fail)
      refine (C3 _ ((HS.out.below B2.out).more B2.out.size)).mono ?_
      clear C3
      rintro e w3 ⟨A3, g3, c3, rfl, hg3, ho3, hb3⟩
      have K3 := Lib.hid (K2.out.below hb3 z2)
      have B3 := Lib.hid (B2.out.trans (hb3.mono B2.out.size))
      have O3 := Lib.hid ho3
      clear hb3 ho3 hg3 e20 e21
      obtain ⟨z3, e30, e31, -, -⟩ := K3.out.two
      go_wp2_with fail
      refine (C4 _ ((HS.out.below B3.out).more B3.out.size)).mono ?_
      clear C4
      rintro e w4 ⟨A4, g4, c4, rfl, hg4, ho4, hb4⟩
      have B4 := Lib.hid (B3.out.trans (hb4.mono B3.out.size))
      have O4 := Lib.hid (O3.out.below hb4)
      have P4 := Lib.hid ho4
      clear hb4 ho4 hg4 e30 e31
      obtain ⟨rfl, zx, x1⟩ := O4.out.at X1.out
      obtain ⟨-, -, x2⟩ := O4.out.at X2.out
      obtain ⟨rfl, zy, y2⟩ := P4.out.at Y2.out
      by_cases h1 : 0 ≤ d2
      · by_cases h2 : 0 ≤ d5
        · go_wp2_with fail
          go_quiet (fail)
          go_wp2_with fail
          go_ret
          exact ⟨ret_bool (by rw [Bool.eq_iff_iff]; simp; try omega), below_drewN B4.out _⟩
        · have h2' : decide (0 ≤ d5) = false := by simpa using h2
          go_wp2_with fail
          go_quiet (fail)
          go_wp2_with fail
          go_ret
          exact ⟨ret_bool (by simp; try omega), below_drewN B4.out _⟩
      · have h1' : decide (0 ≤ d2) = false := by simpa using h1
        go_wp2_with fail
        go_quiet (fail)
        go_wp2_with fail
        go_ret
        exact ⟨ret_bool (by simp; try omega), below_drewN B4.out _⟩


theorem node_both (n : Int) (ls : List Lk) (x y z : Int) (hm : ls.length ≤ 2000000) (hnu : n ≤ 9223372036854775807) :
    ∃ r : Bool,
      (∀ (g c : Nat) (w : World), Sl w w.heap.size (some ⟨g, 0, none⟩) ls → Calls Try.prog 29 #[gval n (some ⟨g, 0, none⟩) ls.length c, .int .i64 x, .int .i64 y, .int .i64 z] w fun e w' => e = .returned (.bool r) ∧ Below w.heap.size w w') ∧
      (∀ (g c : Nat) (w : World), Sl w w.heap.size (some ⟨g, 0, none⟩) ls → Calls Try.prog 33 #[gval n (some ⟨g, 0, none⟩) ls.length c, .int .i64 x, .int .i64 y, .int .i64 z] w fun e w' => e = .returned (.bool r) ∧ Below w.heap.size w w') :=
  ⟨nodeB n ls x y z, fun _ c w hs => node_impl n _ ls c x y z w hm hs, fun _ c w hs => node_spec n _ ls c x y z w hm hnu hs⟩
end Go.Proofs.Ytbhipfidkfnlpaa
