/-
  Contracts over this seat: LinkUsed and NodeUsed, of the program and of the specification.
-/
import Derived.Test.YtblmmmeeljidiabHos
namespace Go.Proofs.Ytblmmmeeljidiab
open Go.RowKit Go.Maps

theorem Box.three {w : World} {b : Nat} {t : TypeId} {v0 v1 v2 : Value} (h : Box w b t #[v0, v1, v2]) : b < w.heap.size ∧ w.cell? ⟨b, 0, none⟩ = some v0 ∧ w.cell? ⟨b, 1, none⟩ = some v1 ∧ w.cell? ⟨b, 2, none⟩ = some v2 :=
  ⟨h.lt, h.cell 0, h.cell 1, h.cell 2⟩

theorem below_drewN {B : Nat} {a b : World} (h : Below B a b) (q : Nat) : Below B a (b.drewN q) := ⟨h.os, h.tape, h.output, h.size, h.block⟩

set_option maxRecDepth 100000 in
set_option maxHeartbeats 1600000 in
theorem takes_any (n : Nat) (A : Option Addr) (ls : List Lk) (c : Nat) (s t : Int) (l : Lk) (w : World) (hm : ls.length ≤ 2000000) (hv : gvB (n : Int) ls = true) (hs : 0 ≤ s ∧ s < (n : Int)) (ht : 0 ≤ t ∧ t < (n : Int))
    (ha : 0 ≤ l.a ∧ l.a < (n : Int)) (hb : 0 ≤ l.b ∧ l.b < (n : Int)) (hc : 0 ≤ l.c ∧ l.c ≤ 20) (hS : Sl w w.heap.size A ls) :
   Calls Try.prog 85 #[gval (n : Int) A ls.length c, .int .i64 s, .int .i64 t, l.v] w fun e w' => e = .returned (.bool (takesB (n : Int) ls s t l)) ∧ Below w.heap.size w w' := by
  obtain ⟨hf, hn1, hn8, hl14⟩ := gvB_fit hv
  obtain ⟨la, lb, lc⟩ := l
  unfold takesB
  dsimp only [Lk.v] at *
  obtain ⟨tn, rfl⟩ : ∃ q : Nat, t = (q : Int) := ⟨t.toNat, by omega⟩
  obtain ⟨a, rfl⟩ : ∃ q : Nat, la = (q : Int) := ⟨la.toNat, by omega⟩
  obtain ⟨b, rfl⟩ : ∃ q : Nat, lb = (q : Int) := ⟨lb.toNat, by omega⟩
  have X1 := Lib.hid (distL_at hv hs (i := tn) (by omega))
  have X2 := Lib.hid (distL_at hv hs (i := a) (by omega))
  have X3 := Lib.hid (distL_at hv hs (i := b) (by omega))
  have Y1 := Lib.hid (distL_at hv ht (i := b) (by omega))
  have Y2 := Lib.hid (distL_at hv ht (i := a) (by omega))
  have b1 := bf_bound hf hs hn8 (tn : Int)
  have b2 := bf_bound hf hs hn8 (a : Int)
  have b3 := bf_bound hf hs hn8 (b : Int)
  have b4 := bf_bound hf ht hn8 (b : Int)
  have b5 := bf_bound hf ht hn8 (a : Int)
  have hxl := distL_length (ls := ls) hv hs
  have hyl := distL_length (ls := ls) hv ht
  have C1 : ∀ V : World, Sl V V.heap.size A ls → Calls Try.prog 42 #[gval (n : Int) A ls.length c, .int .i64 s] V (NewI (distL (n : Int) ls s) V) := fun V hV => dist_impl (n : Int) A ls c s V hm hV
  have C2 : ∀ V : World, Sl V V.heap.size A ls → Calls Try.prog 42 #[gval (n : Int) A ls.length c, .int .i64 (tn : Int)] V (NewI (distL (n : Int) ls (tn : Int)) V) := fun V hV => dist_impl (n : Int) A ls c (tn : Int) V hm hV
  have htn : tn < n := by omega
  have han : a < n := by omega
  have hbn : b < n := by omega
  clear hv hs ht hf ha hb
  generalize distL (n : Int) ls s = xs at *
  generalize distL (n : Int) ls (tn : Int) = ys at *
  generalize bf (n : Int) ls s (tn : Int) = d1 at *
  generalize bf (n : Int) ls s (a : Int) = d2 at *
  generalize bf (n : Int) ls s (b : Int) = d3 at *
  generalize bf (n : Int) ls (tn : Int) (b : Int) = d4 at *
  generalize bf (n : Int) ls (tn : Int) (a : Int) = d5 at *
  have B0 : Below w.heap.size w ((w.alloc (.cells #[.int .i64 (n : Int), .slice A ls.length c] 25)).alloc (.cells #[.int .i64 (a : Int), .int .i64 (b : Int), .int .i64 lc] 36)) := by (repeat (first | exact Below.refl _ _ | (refine Below.alloc ?_ (by first | exact Nat.le_refl _ | omega | (simp; done) | (simp; omega)) _) | (refine Below.setCell ?_ (by first | exact Nat.le_refl _ | omega | (simp; done) | (simp; omega)) _) | exact Below.drew ‹_›))
  have G0 := Lib.hid ((Box.new w 25 #[.int .i64 (n : Int), .slice A ls.length c]).alloc (.cells #[.int .i64 (a : Int), .int .i64 (b : Int), .int .i64 lc] 36))
  have L0 := Box.new (w.alloc (.cells #[.int .i64 (n : Int), .slice A ls.length c] 25)) 36 #[.int .i64 (a : Int), .int .i64 (b : Int), .int .i64 lc]
  rw [World.size_alloc] at L0
  have LL := Lib.hid L0
  have SS := Lib.hid ((hS.below B0).more B0.size)
  have BB := Lib.hid B0
  clear hS B0 L0
  go_enter Try.func85, Try.ntmps85
  go_wp2_with fail
  generalize (w.alloc (.cells #[.int .i64 (n : Int), .slice A ls.length c] 25)).alloc (.cells #[.int .i64 (a : Int), .int .i64 (b : Int), .int .i64 lc] 36) = W0 at *
  obtain ⟨z0, e0, e1, -, -⟩ := G0.out.two
  go_region_law (first
    | (go_simp; go_at_call 42; refine (C2 _ S3.out).mono ?_; rintro e w4 ⟨A4, g4, c4, rfl, hg4, ho4, hb4⟩; have L4 := Lib.hid (L3.out.below hb4 L3.out.lt); have B4 := Lib.hid (B3.out.trans (hb4.mono B3.out.size)); have O4 := Lib.hid (O3.out.below hb4); have P4 := Lib.hid ho4; clear hb4 ho4 hg4)
    | (go_simp; go_at_call 42; refine (C1 W0.drew SS.out).mono ?_; rintro e w3 ⟨A3, g3, c3, rfl, hg3, ho3, hb3⟩; have G3 := Lib.hid (Box.below (w := W0.drew) G0.out hb3 z0); have L3 := Lib.hid (Box.below (w := W0.drew) LL.out hb3 LL.out.lt); have S3 := Lib.hid ((Sl.below (w := W0.drew) SS.out hb3).more hb3.size); have B3 := Lib.hid (BB.out.drew.trans (hb3.mono BB.out.size)); have O3 := Lib.hid ho3; obtain ⟨z3, e30, e31, -, -⟩ := G3.out.two; clear hb3 ho3 hg3))
  all_goals
    clear C1 C2 e30 e31 z3 e0 e1 z0
    obtain ⟨rfl, zx, x1⟩ := O4.out.at X1.out
    obtain ⟨-, -, x2⟩ := O4.out.at X2.out
    obtain ⟨-, -, x3⟩ := O4.out.at X3.out
    obtain ⟨rfl, zy, y1⟩ := P4.out.at Y1.out
    obtain ⟨-, -, y2⟩ := P4.out.at Y2.out
    obtain ⟨zl, f0, f1, f2⟩ := L4.out.three
    by_cases h1 : d1 = -1
    · have h1' : (d1 == -1) = true := by simp [h1]
      have H1 := Lib.hid h1
      clear h1
      go_wp2_with fail
      go_ret
      exact ⟨ret_bool (by simp [H1.out]), B4.out⟩
    · have h1' : (d1 == -1) = false := by simpa using h1
      have H1 := Lib.hid h1
      clear h1
      by_cases h2 : d2 = -1
      · have h2' : (d2 == -1) = true := by simp [h2]
        have H2 := Lib.hid h2
        clear h2
        go_wp2_with fail
        go_ret
        exact ⟨ret_bool (by simp [H2.out]), B4.out⟩
      · have h2' : (d2 == -1) = false := by simpa using h2
        have H2 := Lib.hid h2
        clear h2
        have hmin : -2 ≤ min (d2 + d4) (d3 + d5) ∧ min (d2 + d4) (d3 + d5) ≤ 280 := by omega
        go_wp2_with fail
        go_quiet (fail)
        have HM : Hid ((if d3 + d5 < d2 + d4 then d3 + d5 else d2 + d4) = min (d2 + d4) (d3 + d5)) := Lib.hid (by split <;> omega)
        have hmb : -2 ≤ (if d3 + d5 < d2 + d4 then d3 + d5 else d2 + d4) ∧ (if d3 + d5 < d2 + d4 then d3 + d5 else d2 + d4) ≤ 280 := by split <;> omega
        generalize (if d3 + d5 < d2 + d4 then d3 + d5 else d2 + d4) = m at *
        clear hmin
        go_wp2_with fail
        go_quiet (fail)
        go_wp2_with fail
        go_ret
        exact ⟨ret_bool (by rw [Bool.eq_iff_iff]; simp [H1.out, H2.out]; rw [HM.out]), below_drewN (below_drewN B4.out _) _⟩

theorem own_list {w : World} {b : Nat} {xs : List Int} (h : Box w b 3 (xs.map (Value.int .i64)).toArray) : Own1i w (some ⟨b, 0, none⟩) b xs := fun _ =>
  ⟨rfl, _, h, fun k x hk => by simp [hk]⟩
theorem used_out {nn : Int} {ls : List Lk} {s t x : Int} (h : inB x 0 ((ls.length : Int) - 1) = false) : usedB nn ls s t x = false := by
  unfold usedB
  unfold inB at h
  simp at h
  cases vwB nn ls [s, t] with
  | false => rfl
  | true =>
    rw [Bool.true_and]
    split
    · rw [List.getElem?_eq_none (by omega)]
    · rfl

set_option maxRecDepth 100000 in
set_option maxHeartbeats 1600000 in
theorem used_impl (nn : Int) (A : Option Addr) (ls : List Lk) (c : Nat) (s t x : Int) (w : World) (hm : ls.length ≤ 2000000) (hS : Sl w w.heap.size A ls) :
   Calls Try.prog 76 #[gval nn A ls.length c, .int .i64 s, .int .i64 t, .int .i64 x] w fun e w' => e = .returned (.bool (usedB nn ls s t x)) ∧ Below w.heap.size w w' := by
  have B0 : Below w.heap.size w ((w.alloc (.cells #[.int .i64 nn, .slice A ls.length c] 25)).alloc (.cells #[.int .i64 s, .int .i64 t] 3)) := by (repeat (first | exact Below.refl _ _ | (refine Below.alloc ?_ (by first | exact Nat.le_refl _ | omega | (simp; done) | (simp; omega)) _) | (refine Below.setCell ?_ (by first | exact Nat.le_refl _ | omega | (simp; done) | (simp; omega)) _) | exact Below.drew ‹_›))
  have G0 := Lib.hid ((Box.new w 25 #[.int .i64 nn, .slice A ls.length c]).alloc (.cells #[.int .i64 s, .int .i64 t] 3))
  have L0 := Box.new (w.alloc (.cells #[.int .i64 nn, .slice A ls.length c] 25)) 3 #[.int .i64 s, .int .i64 t]
  rw [World.size_alloc] at L0
  have X0 : Own1i ((w.alloc (.cells #[.int .i64 nn, .slice A ls.length c] 25)).alloc (.cells #[.int .i64 s, .int .i64 t] 3)) (some ⟨w.heap.size + 1, 0, none⟩) (w.heap.size + 1) [s, t] := own_list (by simpa using L0)
  have S0 := (hS.below B0).more B0.size
  have C1 := vw_any nn A ls c (some ⟨w.heap.size + 1, 0, none⟩) [s, t] 2 _ hm (by simp) S0 X0.sli
  have SS := Lib.hid S0
  have BB := Lib.hid B0
  have C2 : ∀ V : World, Calls Try.prog 50 #[gval nn A ls.length c, .int .i64 x] V fun e w' => e = .returned (.bool (inB x 0 ((ls.length : Int) - 1))) ∧ Below V.heap.size V w' := fun V => hasLink_any nn A ls.length c x V hm
  clear hS B0 L0 X0 S0
  cases hv : vwB nn ls [s, t] with
  | false =>
    have e : usedB nn ls s t x = false := by unfold usedB; rw [hv]; rfl
    rw [e]
    rw [hv] at C1
    clear hv e C2
    go_enter Try.func76, Try.ntmps76
    go_wp2_with (go_at_call 56; refine C1.mono ?_; clear C1; rintro e w1 ⟨rfl, hb1⟩; have B1 := Lib.hid (BB.out.trans (hb1.mono BB.out.size)); clear hb1)
    go_ret
    exact ⟨rfl, B1.out⟩
  | true =>
    rw [hv] at C1
    cases hx : inB x 0 ((ls.length : Int) - 1) with
    | false =>
      rw [used_out hx]
      rw [hx] at C2
      clear hx hv
      go_enter Try.func76, Try.ntmps76
      go_wp2_with (first
        | (go_at_call 56; refine C1.mono ?_; clear C1; rintro e w1 ⟨rfl, hb1⟩; have G1 := Lib.hid (G0.out.below hb1 G0.out.lt); obtain ⟨z1, e10, e11, -, -⟩ := G1.out.two; have B1 := Lib.hid (BB.out.trans (hb1.mono BB.out.size)); clear hb1)
        | (go_at_call 50; refine (C2 _).mono ?_; clear C2; rintro e w2 ⟨rfl, hb2⟩; have B2 := Lib.hid (B1.out.trans (hb2.mono B1.out.size)); clear hb2))
      go_ret
      exact ⟨rfl, B2.out⟩
    | true =>
      rw [hx] at C2
      obtain ⟨hg, hs, ht⟩ := vwB_two hv
      obtain ⟨n, rfl⟩ : ∃ q : Nat, nn = (q : Int) := ⟨nn.toNat, by omega⟩
      unfold inB at hx
      simp at hx
      obtain ⟨k, rfl⟩ : ∃ q : Nat, x = (q : Int) := ⟨x.toNat, by omega⟩
      have hkl : k < ls.length := by omega
      obtain ⟨l, hl⟩ : ∃ l, ls[k]? = some l := ⟨_, List.getElem?_eq_getElem hkl⟩
      have hat := gvB_at hg hl
      have C3 : ∀ V : World, Sl V V.heap.size A ls → Calls Try.prog 85 #[gval (n : Int) A ls.length c, .int .i64 s, .int .i64 t, l.v] V fun e w' => e = .returned (.bool (usedB (n : Int) ls s t (k : Int))) ∧ Below V.heap.size V w' := fun V hV => by
        rw [used_at hv hl, ← takes_used (gvB_fit hg).1 hs ht (List.mem_of_getElem? hl)]
        exact takes_any n A ls c s t l V hm hg hs ht (by omega) (by omega) (by omega) hV
      have HL := Lib.hid hl
      clear hx hv hg hs ht hl hat
      generalize usedB (n : Int) ls s t (k : Int) = r at *
      go_enter Try.func76, Try.ntmps76
      go_wp2_with fail
      refine C1.mono ?_
      clear C1
      rintro e w1 ⟨rfl, hb1⟩
      have G1 := Lib.hid (G0.out.below hb1 G0.out.lt)
      obtain ⟨z1, e10, e11, -, -⟩ := G1.out.two
      have B1 := Lib.hid (BB.out.trans (hb1.mono BB.out.size))
      have S1 := Lib.hid ((SS.out.below hb1).more hb1.size)
      clear hb1
      go_wp2_with fail
      refine (C2 _).mono ?_
      clear C2
      rintro e w2 ⟨rfl, hb2⟩
      have G2 := Lib.hid (G1.out.below hb2 G1.out.lt)
      have B2 := Lib.hid (B1.out.trans (hb2.mono B1.out.size))
      have S2 := Lib.hid ((S1.out.below hb2).more hb2.size)
      clear hb2 e10 e11 z1
      obtain ⟨z2, e20, e21, -, -⟩ := G2.out.two
      obtain ⟨bb, off, rfl, hbb, hc1, hc2, hc3⟩ := S2.out k l HL.out
      go_wp2_with fail
      go_region_law (go_simp; go_at_call 85; refine (C3 w2.drew S2.out).mono ?_; rintro e w3 ⟨rfl, hb3⟩; have B3 := Lib.hid (B2.out.drew.trans (hb3.mono B2.out.size)))
      all_goals
        go_wp2_with fail
        go_ret
        exact ⟨rfl, B3.out⟩


end Go.Proofs.Ytblmmmeeljidiab
