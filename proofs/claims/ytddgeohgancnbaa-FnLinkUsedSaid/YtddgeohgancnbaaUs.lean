/-
  Contracts over this seat: the specification's LinkUsed and NodeUsed; both, of one graph.
-/
import Derived.Test.YtddgeohgancnbaaTak
namespace Go.Proofs.Ytddgeohgancnbaa
open Go.RowKit Go.Maps

set_option maxRecDepth 100000 in
set_option maxHeartbeats 1600000 in
theorem l2used_any (n : Nat) (A : Option Addr) (ls : List Lk) (c : Nat) (s t : Int) (k : Nat) (l : Lk) (w : World) (hl : ls[k]? = some l) (hv : gvB (n : Int) ls = true) (hs : 0 ≤ s ∧ s < (n : Int)) (ht : 0 ≤ t ∧ t < (n : Int)) (hS : Sl w w.heap.size A ls) :
   Calls Try.prog 40 #[gval (n : Int) A ls.length c, .int .i64 s, .int .i64 t, .int .i64 (k : Int)] w fun e w' => e = .returned (.bool (usedL (n : Int) ls s t l)) ∧ Below w.heap.size w w' := by
  obtain ⟨hf, hn1, hn8, hl14⟩ := gvB_fit hv
  have hat := gvB_at hv hl
  have HL := Lib.hid hl
  have hkl := (List.getElem?_eq_some_iff.1 hl).1
  clear hl
  obtain ⟨la, lb, lc⟩ := l
  unfold usedL
  dsimp only at *
  obtain ⟨tn, rfl⟩ : ∃ q : Nat, t = (q : Int) := ⟨t.toNat, by omega⟩
  obtain ⟨a, rfl⟩ : ∃ q : Nat, la = (q : Int) := ⟨la.toNat, by omega⟩
  obtain ⟨b, rfl⟩ : ∃ q : Nat, lb = (q : Int) := ⟨lb.toNat, by omega⟩
  have htn : tn < n := by omega
  have han : a < n := by omega
  have hbn : b < n := by omega
  have hc20 : 1 ≤ lc ∧ lc ≤ 20 := by omega
  have X1 := Lib.hid (fl_at (f := bf (n : Int) ls s) htn)
  have X2 := Lib.hid (fl_at (f := bf (n : Int) ls s) han)
  have X3 := Lib.hid (fl_at (f := bf (n : Int) ls s) hbn)
  have Y1 := Lib.hid (fl_at (f := bf (n : Int) ls (tn : Int)) hbn)
  have Y2 := Lib.hid (fl_at (f := bf (n : Int) ls (tn : Int)) han)
  have b1 := bf_bound hf hs hn8 (tn : Int)
  have b2 := bf_bound hf hs hn8 (a : Int)
  have b3 := bf_bound hf hs hn8 (b : Int)
  have b4 := bf_bound hf ht hn8 (b : Int)
  have b5 := bf_bound hf ht hn8 (a : Int)
  have hxl := fl_len n (bf (n : Int) ls s)
  have hyl := fl_len n (bf (n : Int) ls (tn : Int))
  have C1 : ∀ V : World, Sl V V.heap.size A ls → Calls Try.prog 23 #[gval (n : Int) A ls.length c, .int .i64 s] V (NewI (fl n (bf (n : Int) ls s)) V) := fun V hV => l2d_any n A ls c s V (by omega) (by omega) hl14 hf hs hV
  have C2 : ∀ V : World, Sl V V.heap.size A ls → Calls Try.prog 23 #[gval (n : Int) A ls.length c, .int .i64 (tn : Int)] V (NewI (fl n (bf (n : Int) ls (tn : Int))) V) := fun V hV => l2d_any n A ls c (tn : Int) V (by omega) (by omega) hl14 hf ht hV
  clear hv hs ht hf hat
  generalize fl n (bf (n : Int) ls s) = xs at *
  generalize fl n (bf (n : Int) ls (tn : Int)) = ys at *
  generalize bf (n : Int) ls s (tn : Int) = d1 at *
  generalize bf (n : Int) ls s (a : Int) = d2 at *
  generalize bf (n : Int) ls s (b : Int) = d3 at *
  generalize bf (n : Int) ls (tn : Int) (b : Int) = d4 at *
  generalize bf (n : Int) ls (tn : Int) (a : Int) = d5 at *
  have B0 : Below w.heap.size w (w.alloc (.cells #[.int .i64 (n : Int), .slice A ls.length c] 25)) := by (repeat (first | exact Below.refl _ _ | (refine Below.alloc ?_ (by first | exact Nat.le_refl _ | omega | (simp; done) | (simp; omega)) _) | (refine Below.setCell ?_ (by first | exact Nat.le_refl _ | omega | (simp; done) | (simp; omega)) _) | exact Below.drew ‹_›))
  have G0 := Lib.hid (Box.new w 25 #[.int .i64 (n : Int), .slice A ls.length c])
  have SS := Lib.hid ((hS.below B0).more B0.size)
  have BB := Lib.hid B0
  clear hS B0
  go_enter Try.func40, Try.ntmps40
  go_wp2_with fail
  refine (C1 _ SS.out).mono ?_
  clear C1
  rintro e w3 ⟨A3, g3, c3, rfl, hg3, ho3, hb3⟩
  have G3 := Lib.hid (G0.out.below hb3 G0.out.lt)
  have S3 := Lib.hid ((SS.out.below hb3).more hb3.size)
  have B3 := Lib.hid (BB.out.trans (hb3.mono BB.out.size))
  have O3 := Lib.hid ho3
  obtain ⟨z3, e30, e31, -, -⟩ := G3.out.two
  clear hb3 ho3 hg3 G0 SS BB
  go_wp2_with fail
  refine (C2 _ S3.out).mono ?_
  clear C2
  rintro e w4 ⟨A4, g4, c4, rfl, hg4, ho4, hb4⟩
  have G4 := Lib.hid (G3.out.below hb4 G3.out.lt)
  have S4 := Lib.hid ((S3.out.below hb4).more hb4.size)
  have B4 := Lib.hid (B3.out.trans (hb4.mono B3.out.size))
  have O4 := Lib.hid (O3.out.below hb4)
  have P4 := Lib.hid ho4
  clear hb4 ho4 hg4 G3 S3 B3 O3 e30 e31 z3
  obtain ⟨z4, e40, e41, -, -⟩ := G4.out.two
  obtain ⟨bb, off, rfl, hbb, hc1, hc2, hc3⟩ := S4.out k _ HL.out
  dsimp only at hc1 hc2 hc3
  have L5 := Lib.hid (Box.new w4 45 #[.int .i64 (a : Int), .int .i64 (b : Int), .int .i64 lc])
  have O5 := Lib.hid (O4.out.alloc (.cells #[.int .i64 (a : Int), .int .i64 (b : Int), .int .i64 lc] 45))
  have P5 := Lib.hid (P4.out.alloc (.cells #[.int .i64 (a : Int), .int .i64 (b : Int), .int .i64 lc] 45))
  have B5 := Lib.hid (B4.out.alloc B4.out.size (.cells #[.int .i64 (a : Int), .int .i64 (b : Int), .int .i64 lc] 45))
  go_upto_region 4 with fail
  clear hc1 hc2 hc3 e40 e41 hbb O4 P4 B4 S4 G4
  have zw5 : w.heap.size < (w4.alloc (.cells #[.int .i64 (a : Int), .int .i64 (b : Int), .int .i64 lc] 45)).heap.size := by simp; omega
  generalize w4.alloc (.cells #[.int .i64 (a : Int), .int .i64 (b : Int), .int .i64 lc] 45) = W5 at *
  generalize w4.heap.size = bx at *
  obtain ⟨rfl, zx, x1⟩ := O5.out.at X1.out
  obtain ⟨-, -, x2⟩ := O5.out.at X2.out
  obtain ⟨-, -, x3⟩ := O5.out.at X3.out
  obtain ⟨rfl, zy, y1⟩ := P5.out.at Y1.out
  obtain ⟨-, -, y2⟩ := P5.out.at Y2.out
  obtain ⟨zl, f0, f1, f2⟩ := L5.out.three
  by_cases h1 : d1 < 0
  · have H1 := Lib.hid h1
    go_wp2_with fail
    go_ret
    exact ⟨ret_bool (by have := H1.out; simp; omega), B5.out⟩
  · have h1' : decide (d1 < 0) = false := by simpa using h1
    have H1 := Lib.hid h1
    clear h1
    by_cases h2 : d2 < 0
    · have H2 := Lib.hid h2
      go_wp2_with fail
      go_ret
      exact ⟨ret_bool (by have := H2.out; simp; omega), B5.out⟩
    · have h2' : decide (d2 < 0) = false := by simpa using h2
      have H2 := Lib.hid h2
      clear h2
      by_cases h3 : d2 + lc + d4 = d1
      · have h3' : (d2 + lc + d4 == d1) = true := by simp [h3]
        have H3 := Lib.hid h3
        clear h3
        go_wp2_with fail
        go_quiet (fail)
        go_wp2_with fail
        go_ret
        exact ⟨ret_bool (by have := H1.out; have := H2.out; rw [decide_eq_true H3.out]; simp; omega), below_drewN B5.out _⟩
      · have h3' : (d2 + lc + d4 == d1) = false := by simpa using h3
        have H3 := Lib.hid h3
        clear h3
        go_wp2_with fail
        go_quiet (fail)
        go_wp2_with fail
        go_ret
        exact ⟨ret_bool (by have := H1.out; have := H2.out; rw [decide_eq_false H3.out, Bool.eq_iff_iff]; simp; omega), below_drewN B5.out _⟩

set_option maxHeartbeats 800000 in
theorem used_spec (nn : Int) (A : Option Addr) (ls : List Lk) (c : Nat) (s t x : Int) (w : World) (hm : ls.length ≤ 2000000) (hnu : nn ≤ 9223372036854775807) (hS : Sl w w.heap.size A ls) :
   Calls Try.prog 17 #[gval nn A ls.length c, .int .i64 s, .int .i64 t, .int .i64 x] w fun e w' => e = .returned (.bool (usedB nn ls s t x)) ∧ Below w.heap.size w w' := by
  have HS := Lib.hid hS
  have HK := Lib.hid (Box.new w 25 #[.int .i64 nn, .slice A ls.length c])
  have B0 : Below w.heap.size w (w.alloc (.cells #[.int .i64 nn, .slice A ls.length c] 25)) := by (repeat (first | exact Below.refl _ _ | (refine Below.alloc ?_ (by first | exact Nat.le_refl _ | omega | (simp; done) | (simp; omega)) _) | (refine Below.setCell ?_ (by first | exact Nat.le_refl _ | omega | (simp; done) | (simp; omega)) _) | exact Below.drew ‹_›))
  have C1 := l2two_any nn A ls c s t _ hm hnu ((hS.below B0).more (by simp))
  have C2 : ∀ V : World, Sl V V.heap.size A ls → Calls Try.prog 39 #[gval nn A ls.length c, .int .i64 x] V fun e w' => e = .returned (.bool (gvB nn ls && inB x 0 ((ls.length : Int) - 1))) ∧ Below V.heap.size V w' := fun V hV => l1Index_any nn A ls c x V hm hnu hV
  have BB := Lib.hid B0
  clear hS B0
  cases hv : vwB nn ls [s, t] with
  | false =>
    rw [hv] at C1
    have e : usedB nn ls s t x = false := by unfold usedB; rw [hv]; rfl
    rw [e]
    clear hv e C2
    go_enter Try.func17, Try.ntmps17
    go_wp2_with (go_at_call 38; refine C1.mono ?_; clear C1; rintro e w1 ⟨rfl, hb1⟩; have B1 := Lib.hid (BB.out.trans (hb1.mono BB.out.size)); clear hb1)
    go_ret
    exact ⟨rfl, B1.out⟩
  | true =>
    rw [hv] at C1
    obtain ⟨hg, hs, ht⟩ := vwB_two hv
    rw [hg, Bool.true_and] at C2
    cases hx : inB x 0 ((ls.length : Int) - 1) with
    | false =>
      rw [used_out hx]
      rw [hx] at C2
      clear hx hv hg
      go_enter Try.func17, Try.ntmps17
      go_wp2_with (first
        | (go_at_call 38; refine C1.mono ?_; clear C1; rintro e w1 ⟨rfl, hb1⟩; have K1 := Lib.hid (HK.out.below hb1 (by simp)); obtain ⟨z1, e10, e11, -, -⟩ := K1.out.two; have B1 := Lib.hid (BB.out.trans (hb1.mono BB.out.size)); clear hb1)
        | (go_at_call 39; refine (C2 _ ((HS.out.below B1.out).more B1.out.size)).mono ?_; clear C2; rintro e w2 ⟨rfl, hb2⟩; have B2 := Lib.hid (B1.out.trans (hb2.mono B1.out.size)); clear hb2))
      go_ret
      exact ⟨rfl, B2.out⟩
    | true =>
      rw [hx] at C2
      obtain ⟨n, rfl⟩ : ∃ q : Nat, nn = (q : Int) := ⟨nn.toNat, by omega⟩
      unfold inB at hx
      simp at hx
      obtain ⟨k, rfl⟩ : ∃ q : Nat, x = (q : Int) := ⟨x.toNat, by omega⟩
      have hkl : k < ls.length := by omega
      obtain ⟨l, hl⟩ : ∃ l, ls[k]? = some l := ⟨_, List.getElem?_eq_getElem hkl⟩
      have C3 : ∀ V : World, Sl V V.heap.size A ls → Calls Try.prog 40 #[gval (n : Int) A ls.length c, .int .i64 s, .int .i64 t, .int .i64 (k : Int)] V fun e w' => e = .returned (.bool (usedB (n : Int) ls s t (k : Int))) ∧ Below V.heap.size V w' := fun V hV => by
        rw [used_at hv hl]
        exact l2used_any n A ls c s t k l V hl hg hs ht hV
      clear hx hv hg hs ht hl
      generalize usedB (n : Int) ls s t (k : Int) = r at *
      go_enter Try.func17, Try.ntmps17
      go_wp2_with (first
        | (go_at_call 38; refine C1.mono ?_; clear C1; rintro e w1 ⟨rfl, hb1⟩; have K1 := Lib.hid (HK.out.below hb1 (by simp)); obtain ⟨z1, e10, e11, -, -⟩ := K1.out.two; have B1 := Lib.hid (BB.out.trans (hb1.mono BB.out.size)); clear hb1)
        | (go_at_call 39; refine (C2 _ ((HS.out.below B1.out).more B1.out.size)).mono ?_; clear C2; rintro e w2 ⟨rfl, hb2⟩; have K2 := Lib.hid (K1.out.below hb2 z1); have B2 := Lib.hid (B1.out.trans (hb2.mono B1.out.size)); clear hb2 e10 e11; obtain ⟨z2, e20, e21, -, -⟩ := K2.out.two)
        | (go_at_call 40; refine (C3 _ ((HS.out.below B2.out).more B2.out.size)).mono ?_; clear C3; rintro e w3 ⟨rfl, hb3⟩; have B3 := Lib.hid (B2.out.trans (hb3.mono B2.out.size)); clear hb3))
      go_ret
      exact ⟨rfl, B3.out⟩


theorem used_both (n : Int) (ls : List Lk) (x y z : Int) (hm : ls.length ≤ 2000000) (hnu : n ≤ 9223372036854775807) :
    ∃ r : Bool,
      (∀ (g c : Nat) (w : World), Sl w w.heap.size (some ⟨g, 0, none⟩) ls → Calls Try.prog 16 #[gval n (some ⟨g, 0, none⟩) ls.length c, .int .i64 x, .int .i64 y, .int .i64 z] w fun e w' => e = .returned (.bool r) ∧ Below w.heap.size w w') ∧
      (∀ (g c : Nat) (w : World), Sl w w.heap.size (some ⟨g, 0, none⟩) ls → Calls Try.prog 17 #[gval n (some ⟨g, 0, none⟩) ls.length c, .int .i64 x, .int .i64 y, .int .i64 z] w fun e w' => e = .returned (.bool r) ∧ Below w.heap.size w w') :=
  ⟨usedB n ls x y z, fun _ c w hs => used_impl n _ ls c x y z w hm hs, fun _ c w hs => used_spec n _ ls c x y z w hm hnu hs⟩

end Go.Proofs.Ytddgeohgancnbaa
