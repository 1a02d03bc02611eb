/-
  Contracts over this seat: the specification's LinkUsed and NodeUsed; both, of one graph.
-/
import Derived.Test.YtblmmmeeljidiabTak
namespace Go.Proofs.Ytblmmmeeljidiab
open Go.RowKit Go.Maps

set_option maxRecDepth 100000 in
set_option maxHeartbeats 1600000 in
theorem l2used_any (n : Nat) (A : Option Addr) (ls : List Lk) (c : Nat) (s t : Int) (k : Nat) (l : Lk) (w : World) (hl : ls[k]? = some l) (hv : gvB (n : Int) ls = true) (hs : 0 ≤ s ∧ s < (n : Int)) (ht : 0 ≤ t ∧ t < (n : Int)) (hS : Sl w w.heap.size A ls) :
   Calls Try.prog 49 #[gval (n : Int) A ls.length c, .int .i64 s, .int .i64 t, .int .i64 (k : Int)] w fun e w' => e = .returned (.bool (usedL (n : Int) ls s t l)) ∧ Below w.heap.size w w' := by
  obtain ⟨hf, hn1, hn8, hl14⟩ := gvB_fit hv
  have hat := gvB_at hv hl
  have HL := Lib.hid hl
  have hkl := (List.getElem?_eq_some_iff.1 hl).1
  clear hl
  obtain ⟨la, lb, lc⟩ := l
  unfold usedL
  dsimp only at *
  obtain ⟨tn, rfl⟩ : ∃ q : Nat, t = (q : Int) := ⟨t.toNat, by omega⟩
  obtain ⟨a, rfl⟩ : ∃ q : Nat, la = (q : Int) := ⟨la.toNat, by omega⟩
  obtain ⟨b, rfl⟩ : ∃ q : Nat, lb = (q : Int) := ⟨lb.toNat, by omega⟩
  have htn : tn < n := by omega
  have han : a < n := by omega
  have hbn : b < n := by omega
  have hc20 : 1 ≤ lc ∧ lc ≤ 20 := by omega
  have X1 := Lib.hid (fl_at (f := bf (n : Int) ls s) htn)
  have X2 := Lib.hid (fl_at (f := bf (n : Int) ls s) han)
  have X3 := Lib.hid (fl_at (f := bf (n : Int) ls s) hbn)
  have Y1 := Lib.hid (fl_at (f := bf (n : Int) ls (tn : Int)) hbn)
  have Y2 := Lib.hid (fl_at (f := bf (n : Int) ls (tn : Int)) han)
  have b1 := bf_bound hf hs hn8 (tn : Int)
  have b2 := bf_bound hf hs hn8 (a : Int)
  have b3 := bf_bound hf hs hn8 (b : Int)
  have b4 := bf_bound hf ht hn8 (b : Int)
  have b5 := bf_bound hf ht hn8 (a : Int)
  have hxl := fl_len n (bf (n : Int) ls s)
  have hyl := fl_len n (bf (n : Int) ls (tn : Int))
  have C1 : ∀ V : World, Sl V V.heap.size A ls → Calls Try.prog 38 #[gval (n : Int) A ls.length c, .int .i64 s] V (NewI (fl n (bf (n : Int) ls s)) V) := fun V hV => l2d_any n A ls c s V (by omega) (by omega) hl14 hf hs hV
  have C2 : ∀ V : World, Sl V V.heap.size A ls → Calls Try.prog 38 #[gval (n : Int) A ls.length c, .int .i64 (tn : Int)] V (NewI (fl n (bf (n : Int) ls (tn : Int))) V) := fun V hV => l2d_any n A ls c (tn : Int) V (by omega) (by omega) hl14 hf ht hV
  clear hv hs ht hf hat
  generalize fl n (bf (n : Int) ls s) = xs at *
  generalize fl n (bf (n : Int) ls (tn : Int)) = ys at *
  generalize bf (n : Int) ls s (tn : Int) = d1 at *
  generalize bf (n : Int) ls s (a : Int) = d2 at *
  generalize bf (n : Int) ls s (b : Int) = d3 at *
  generalize bf (n : Int) ls (tn : Int) (b : Int) = d4 at *
  generalize bf (n : Int) ls (tn : Int) (a : Int) = d5 at *
  have B0 : Below w.heap.size w (w.alloc (.cells #[.int .i64 (n : Int), .slice A ls.length c] 25)) := by (repeat (first | exact Below.refl _ _ | (refine Below.alloc ?_ (by first | exact Nat.le_refl _ | omega | (simp; done) | (simp; omega)) _) | (refine Below.setCell ?_ (by first | exact Nat.le_refl _ | omega | (simp; done) | (simp; omega)) _) | exact Below.drew ‹_›))
  have G0 := Lib.hid (Box.new w 25 #[.int .i64 (n : Int), .slice A ls.length c])
  have SS := Lib.hid ((hS.below B0).more B0.size)
  have BB := Lib.hid B0
  clear hS B0
  go_enter Try.func49, Try.ntmps49
  go_wp2_with fail
  refine (C1 _ SS.out).mono ?_
  clear C1
  rintro e w3 ⟨A3, g3, c3, rfl, hg3, ho3, hb3⟩
  have G3 := Lib.hid (G0.out.below hb3 G0.out.lt)
  have S3 := Lib.hid ((SS.out.below hb3).more hb3.size)
  have B3 := Lib.hid (BB.out.trans (hb3.mono BB.out.size))
  have O3 := Lib.hid ho3
  obtain ⟨z3, e30, e31, -, -⟩ := G3.out.two
  clear hb3 ho3 hg3 G0 SS BB
  go_wp2_with fail
  refine (C2 _ S3.out).mono ?_
  clear C2
  rintro e w4 ⟨A4, g4, c4, rfl, hg4, ho4, hb4⟩
  have G4 := Lib.hid (G3.out.below hb4 G3.out.lt)
  have S4 := Lib.hid ((S3.out.below hb4).more hb4.size)
  have B4 := Lib.hid (B3.out.trans (hb4.mono B3.out.size))
  have O4 := Lib.hid (O3.out.below hb4)
  have P4 := Lib.hid ho4
  clear hb4 ho4 hg4 G3 S3 B3 O3 e30 e31 z3
  obtain ⟨z4, e40, e41, -, -⟩ := G4.out.two
  obtain ⟨bb, off, rfl, hbb, hc1, hc2, hc3⟩ := S4.out k _ HL.out
  dsimp only at hc1 hc2 hc3
  have L5 := Lib.hid (Box.new w4 36 #[.int .i64 (a : Int), .int .i64 (b : Int), .int .i64 lc])
  have O5 := Lib.hid (O4.out.alloc (.cells #[.int .i64 (a : Int), .int .i64 (b : Int), .int .i64 lc] 36))
  have P5 := Lib.hid (P4.out.alloc (.cells #[.int .i64 (a : Int), .int .i64 (b : Int), .int .i64 lc] 36))
  have B5 := Lib.hid (B4.out.alloc B4.out.size (.cells #[.int .i64 (a : Int), .int .i64 (b : Int), .int .i64 lc] 36))
  go_upto_region 4 with fail
  clear hc1 hc2 hc3 e40 e41 hbb O4 P4 B4 S4 G4
  have zw5 : w.heap.size < (w4.alloc (.cells #[.int .i64 (a : Int), .int .i64 (b : Int), .int .i64 lc] 36)).heap.size := by simp; omega
  generalize w4.alloc (.cells #[.int .i64 (a : Int), .int .i64 (b : Int), .int .i64 lc] 36) = W5 at *
  generalize w4.heap.size = bx at *
  obtain ⟨rfl, zx, x1⟩ := O5.out.at X1.out
  obtain ⟨-, -, x2⟩ := O5.out.at X2.out
  obtain ⟨-, -, x3⟩ := O5.out.at X3.out
  obtain ⟨rfl, zy, y1⟩ := P5.out.at Y1.out
  obtain ⟨-, -, y2⟩ := P5.out.at Y2.out
  obtain ⟨zl, f0, f1, f2⟩ := L5.out.three
  by_cases h1 : d1 < 0
  · have H1 := Lib.hid h1
    go_wp2_with fail
    go_ret
    exact ⟨ret_bool (by have := H1.out; simp; omega), B5.out⟩
  · have h1' : decide (d1 < 0) = false := by simpa using h1
    have H1 := Lib.hid h1
    clear h1
    by_cases h2 : d2 < 0
    · have H2 := Lib.hid h2
      go_wp2_with fail
      go_ret
      exact ⟨ret_bool (by have := H2.out; simp; omega), B5.out⟩
    · have h2' : decide (d2 < 0) = false := by simpa using h2
      have H2 := Lib.hid h2
      clear h2
      by_cases h3 : d2 + lc + d4 = d1
      · have h3' : (d2 + lc + d4 == d1) = true := by simp [h3]
        have H3 := Lib.hid h3
        clear h3
        go_wp2_with fail
        go_quiet (fail)
        go_wp2_with fail
        go_ret
        exact ⟨ret_bool (by have := H1.out; have := H2.out; rw [decide_eq_true H3.out]; simp; omega), below_drewN B5.out _⟩
      · have h3' : (d2 + lc + d4 == d1) = false := by simpa using h3
        have H3 := Lib.hid h3
        clear h3
        go_wp2_with fail
        go_quiet (fail)
        go_wp2_with fail
        go_ret
        exact ⟨ret_bool (by have := H1.out; have := H2.out; rw [decide_eq_false H3.out, Bool.eq_iff_iff]; simp; omega), below_drewN B5.out _⟩





end Go.Proofs.Ytblmmmeeljidiab
