/-
  Contracts over this seat: the specification's stacks: the step of a label, the nodes of a stack.
-/
import Derived.Test.YtblmmmeeljidiabLb
import Derived.Test.YtblmmmeeljidiabPth
import Derived.Test.YtblmmmeeljidiabRg
import Derived.Handy
namespace Go.Proofs.Ytblmmmeeljidiab
open Go.RowKit Go.Maps

def stepV (o : Option Int) : Value := match o with
  | some z => .tuple #[.int .i64 z, .bool true]
  | none => .tuple #[.int .i64 0, .bool false]
theorem stepO_node1 {n : Nat} {ls : List Lk} {s : Int} (hg : gvB (n : Int) ls = true) (hs : 0 ≤ s ∧ s < (n : Int)) {a : Int} : stepO (n : Int) ls s ⟨1, a⟩ = if (0 ≤ a ∧ a < (n : Int)) ∧ 0 ≤ bf (n : Int) ls s a then some a else none := by
  obtain ⟨hf, _⟩ := gvB_fit hg
  have e : legP (n : Int) ls s ⟨1, a⟩ = pathI (n : Int) ls s a := by unfold legP; rw [if_pos rfl]
  split
  · rename_i h
    obtain ⟨ha, h0⟩ := h
    have hne : legP (n : Int) ls s ⟨1, a⟩ ≠ [] := by
      rw [e]
      have hp := path_isP (vwB_of hg hs ha) (by rw [bf_symm hf ha hs]; exact h0)
      unfold pathI
      rw [Int.toNat_natCast]
      intro he
      have := hp.head.2
      rw [he] at this
      simp at this
    obtain ⟨z, h1, _, _, _, _, _, h2⟩ := leg_fact hg hs hne
    rw [h1, (h2 rfl).1]
  · rename_i h
    rw [stepO_none, e]
    apply Classical.byContradiction
    intro hne
    obtain ⟨m, hm, hv, h0, _⟩ := pathI_some hne
    obtain rfl : n = m := by omega
    obtain ⟨_, _, ht⟩ := vwB_two hv
    exact h ⟨ht, by rw [bf_symm hf hs ht]; exact h0⟩
theorem stepO_link2 {nn : Int} {ls : List Lk} {s : Int} {j : Nat} {x : Lk} (hx : ls[j]? = some x) : stepO nn ls s ⟨2, (j : Int)⟩ = if x.a = s then some x.b else if x.b = s then some x.a else none := by
  unfold stepO legP
  dsimp only
  rw [if_neg (by decide), if_pos rfl, if_pos (by omega), Int.toNat_natCast, hx]
  dsimp only
  unfold touchB acrossI
  by_cases h1 : x.a = s
  · simp [h1]
  · by_cases h2 : x.b = s
    · simp [h1, h2]
    · simp [h1, h2]
theorem stepO_out {nn : Int} {ls : List Lk} {s a : Int} (h : inB a 0 ((ls.length : Int) - 1) = false) : stepO nn ls s ⟨2, a⟩ = none := by
  rw [stepO_none]
  unfold legP
  dsimp only
  rw [if_neg (by decide), if_pos rfl]
  split
  · unfold inB at h
    simp at h
    rw [List.getElem?_eq_none (by omega)]
  · rfl
theorem stepO_other {nn : Int} {ls : List Lk} {s k a : Int} (h1 : k ≠ 1) (h2 : k ≠ 2) : stepO nn ls s ⟨k, a⟩ = none := by
  rw [stepO_none]
  unfold legP
  rw [if_neg h1, if_neg h2]

set_option maxRecDepth 100000 in
set_option maxHeartbeats 1600000 in
theorem l4step_any (n : Nat) (A : Option Addr) (ls : List Lk) (c : Nat) (s : Int) (l : Lb) (w : World) (hg : gvB (n : Int) ls = true) (hs : 0 ≤ s ∧ s < (n : Int)) (hS : Sl w w.heap.size A ls) :
   Calls Try.prog 64 #[gval (n : Int) A ls.length c, .int .i64 s, l.v] w fun e w' => e = .returned (stepV (stepO (n : Int) ls s l)) ∧ Below w.heap.size w w' := by
  obtain ⟨hf, hn1, hn8, hl14⟩ := gvB_fit hg
  obtain ⟨k, a⟩ := l
  have B0 : Below w.heap.size w ((w.alloc (.cells #[.int .i64 (n : Int), .slice A ls.length c] 25)).alloc (.cells #[.int .i64 k, .int .i64 a] 40)) := by (repeat (first | exact Below.refl _ _ | (refine Below.alloc ?_ (by first | exact Nat.le_refl _ | omega | (simp; done) | (simp; omega)) _) | (refine Below.setCell ?_ (by first | exact Nat.le_refl _ | omega | (simp; done) | (simp; omega)) _) | exact Below.drew ‹_›))
  have G0 := Lib.hid ((Box.new w 25 #[.int .i64 (n : Int), .slice A ls.length c]).alloc (.cells #[.int .i64 k, .int .i64 a] 40))
  have L0 := Box.new (w.alloc (.cells #[.int .i64 (n : Int), .slice A ls.length c] 25)) 40 #[.int .i64 k, .int .i64 a]
  rw [World.size_alloc] at L0
  have HL0 := Lib.hid L0
  have S0 := Lib.hid ((hS.below B0).more B0.size)
  have HB := Lib.hid B0
  have HS := Lib.hid hS
  clear L0 B0 hS
  by_cases hk1 : k = 1
  · subst hk1
    have HO1 : Hid ((0 ≤ a ∧ a < (n : Int)) → 0 ≤ bf (n : Int) ls s a → stepO (n : Int) ls s ⟨1, a⟩ = some a) := Lib.hid (fun h1 h2 => by rw [stepO_node1 hg hs, if_pos ⟨h1, h2⟩])
    have HO2 : Hid (¬ (0 ≤ a ∧ a < (n : Int)) → stepO (n : Int) ls s ⟨1, a⟩ = none) := Lib.hid (fun h => by rw [stepO_node1 hg hs, if_neg (fun h' => h h'.1)])
    have HO3 : Hid (¬ 0 ≤ bf (n : Int) ls s a → stepO (n : Int) ls s ⟨1, a⟩ = none) := Lib.hid (fun h => by rw [stepO_node1 hg hs, if_neg (fun h' => h h'.2)])
    generalize stepO (n : Int) ls s ⟨1, a⟩ = o at *
    go_enter Try.func64, Try.ntmps64
    go_wp2_with fail
    generalize (w.alloc (.cells #[.int .i64 (n : Int), .slice A ls.length c] 25)).alloc (.cells #[.int .i64 1, .int .i64 a] 40) = W0 at *
    obtain ⟨z0, e0, e1, -, -⟩ := G0.out.two
    obtain ⟨z1, d0, d1, -, -⟩ := HL0.out.two
    have C1 := fun W => l1Node_any (n : Int) (.slice A ls.length c) a W (by omega) (by omega)
    have C2 := fun W (h : Sl W W.heap.size A ls) => l2d_any n A ls c s W (by omega) (by omega) hl14 hf hs h
    have hX := fun (x : Ext W0.drew) (bb o : Nat) (h : bb < W0.heap.size) => (show x.w.cell? ⟨bb, o, none⟩ = W0.cell? ⟨bb, o, none⟩ from x.cell bb o h)
    refine wp_region_staged 14 (by kernel_rfl) (by kernel_rfl) ?_
    refine stage_seg _ 11 [0, 1, 2] (by kernel_rfl) (by kernel_rfl) (by kernel_rfl) (by kernel_rfl) ?_
    (simp only [List.map_cons, List.map_nil, List.getElem?_cons_zero, List.getElem?_cons_succ, Option.getD_some]); (repeat (go_big_quiet_step (fail))); (refine wpQuiet_nil ?_)
    refine stage_call _ 10 3 (by kernel_rfl) (by rfl) (by kernel_rfl) (by rfl) ?_
    go_wp2_with fail
    refine (C1 _).mono ?_
    rintro e w1 ⟨rfl, hb1⟩
    refine ⟨hb1, ?_⟩
    have S1 := Lib.hid ((Sl.below (w := W0.drew) S0.out hb1).more hb1.size)
    have G1 := Lib.hid (Box.below (w := W0.drew) G0.out hb1 z0)
    have L1 := Lib.hid (Box.below (w := W0.drew) HL0.out hb1 z1)
    have B1 := Lib.hid (HB.out.drew.trans (hb1.mono HB.out.size))
    clear hX e0 e1 d0 d1 hb1 C1
    obtain ⟨zz0, e10, e11, -, -⟩ := G1.out.two
    obtain ⟨zz1, f10, f11, -, -⟩ := L1.out.two
    have hX1 := fun (x : Ext w1) (bb o : Nat) (h : bb < w1.heap.size) => x.cell bb o h
    by_cases ha : 0 ≤ a ∧ a < (n : Int)
    · have hin : inB a 0 ((n : Int) - 1) = true := by unfold inB; simp; omega
      rw [hin]
      obtain ⟨an, rfl⟩ : ∃ q : Nat, a = (q : Int) := ⟨a.toNat, by omega⟩
      have hd := fl_at (f := bf (n : Int) ls s) (show an < n by omega)
      have hdl := fl_len n (bf (n : Int) ls s)
      have hbd := bf_bound hf hs hn8 (an : Int)
      generalize bf (n : Int) ls s (an : Int) = d at *
      generalize fl n (bf (n : Int) ls s) = ds at *
      have HD := Lib.hid hd
      have hal := (List.getElem?_eq_some_iff.1 hd).1
      clear hin hd hf
      refine stage_seg _ 5 [4, 5, 6, 8, 9] (by kernel_rfl) (by kernel_rfl) (by kernel_rfl) (by kernel_rfl) ?_
      (simp only [List.map_cons, List.map_nil, List.getElem?_cons_zero, List.getElem?_cons_succ, Option.getD_some]); (repeat (go_big_quiet_step (fail))); (refine wpQuiet_nil ?_)
      refine stage_call _ 4 7 (by kernel_rfl) (by rfl) (by kernel_rfl) (by rfl) ?_
      go_wp2_with fail
      refine (C2 _ S1.out).mono ?_
      rintro e w2 ⟨A2, g2, c2, rfl, hg2, ho2, hb2⟩
      refine ⟨hb2, ?_⟩
      have G2 := Lib.hid (G1.out.below hb2 zz0)
      have L2 := Lib.hid (L1.out.below hb2 zz1)
      have B2 := Lib.hid (B1.out.trans (hb2.mono B1.out.size))
      obtain ⟨rfl, zg2, hc2⟩ := ho2.at HD.out
      clear hX1 e10 e11 f10 f11 C2 hb2 ho2 hg2
      obtain ⟨zy1, f20, f21, -, -⟩ := L2.out.two
      have hX2 := fun (x : Ext w2) (bb o : Nat) (h : bb < w2.heap.size) => x.cell bb o h
      refine stage_seg _ 0 [10, 11, 12, 13] (by kernel_rfl) (by kernel_rfl) (by kernel_rfl) (by kernel_rfl) ?_
      (simp only [List.map_cons, List.map_nil, List.getElem?_cons_zero, List.getElem?_cons_succ, Option.getD_some]); (repeat (go_big_quiet_step (fail))); (refine wpQuiet_nil ?_)
      refine stage_end (by kernel_rfl) ?_
      clear hX2
      by_cases h0 : 0 ≤ d
      · have HE := Lib.hid (HO1.out ha h0)
        go_wp2_with fail
        go_returns
        exact ⟨by rw [HE.out]; rfl, B2.out⟩
      · have HE := Lib.hid (HO3.out (by omega))
        go_wp2_with fail
        go_returns
        exact ⟨by rw [HE.out]; rfl, B2.out⟩
    · have hin : inB a 0 ((n : Int) - 1) = false := by unfold inB; simp; omega
      rw [hin]
      have HE := Lib.hid (HO2.out ha)
      clear hin ha hf
      refine stage_seg _ 5 [4, 5, 6, 8, 9] (by kernel_rfl) (by kernel_rfl) (by kernel_rfl) (by kernel_rfl) ?_
      (simp only [List.map_cons, List.map_nil, List.getElem?_cons_zero, List.getElem?_cons_succ, Option.getD_some]); (repeat (go_big_quiet_step (fail))); (refine wpQuiet_nil ?_)
      refine stage_skip _ 4 7 (by kernel_rfl) (by rfl) (by kernel_rfl) (by rfl) ?_
      go_simp
      refine stage_seg _ 0 [10, 11, 12, 13] (by kernel_rfl) (by kernel_rfl) (by kernel_rfl) (by kernel_rfl) ?_
      (simp only [List.map_cons, List.map_nil, List.getElem?_cons_zero, List.getElem?_cons_succ, Option.getD_some]); (repeat (go_big_quiet_step (fail))); (refine wpQuiet_nil ?_)
      refine stage_end (by kernel_rfl) ?_
      clear hX1
      go_wp2_with fail
      go_returns
      exact ⟨by rw [HE.out]; rfl, B1.out⟩
  · have hk1' : (k == 1) = false := by simpa using hk1
    by_cases hk2 : k = 2
    · subst hk2
      cases hx : inB a 0 ((ls.length : Int) - 1) with
      | false =>
        rw [stepO_out hx]
        have C1 : ∀ W, Calls Try.prog 48 #[.int .i64 a, .int .i64 0, .int .i64 ((ls.length : Int) - 1)] W fun e w' => e = .returned (.bool false) ∧ W = w' := fun W => by
          have := l6In_any a 0 ((ls.length : Int) - 1) W
          rwa [hx] at this
        clear hx hk1 hk1'
        go_enter Try.func64, Try.ntmps64
        go_wp2_with (go_at_call 48; refine (C1 _).mono ?_; rintro e w1 ⟨rfl, rfl⟩)
        go_returns
        exact ⟨rfl, by (repeat (first | exact Below.refl _ _ | (refine Below.alloc ?_ (by first | exact Nat.le_refl _ | omega | (simp; done) | (simp; omega)) _) | (refine Below.setCell ?_ (by first | exact Nat.le_refl _ | omega | (simp; done) | (simp; omega)) _) | exact Below.drew ‹_›))⟩
      | true =>
        have C1 : ∀ W, Calls Try.prog 48 #[.int .i64 a, .int .i64 0, .int .i64 ((ls.length : Int) - 1)] W fun e w' => e = .returned (.bool true) ∧ W = w' := fun W => by
          have := l6In_any a 0 ((ls.length : Int) - 1) W
          rwa [hx] at this
        unfold inB at hx
        simp at hx
        obtain ⟨j, rfl⟩ : ∃ j : Nat, a = (j : Int) := ⟨a.toNat, by omega⟩
        have hj : j < ls.length := by omega
        obtain ⟨x, hxj⟩ : ∃ x, ls[j]? = some x := ⟨_, List.getElem?_eq_getElem hj⟩
        rw [stepO_link2 hxj]
        obtain ⟨b, off, rfl, hbb, hc1, hc2, hc3⟩ := HS.out j x hxj
        obtain ⟨xa, xb, xc⟩ := x
        dsimp only at *
        clear hx hxj hk1 hk1'
        by_cases h1 : xa = s
        · rw [if_pos h1]
          have h1' : (xa == s) = true := by simp [h1]
          clear h1
          go_enter Try.func64, Try.ntmps64
          go_wp2_with (go_at_call 48; refine (C1 _).mono ?_; rintro e w1 ⟨rfl, rfl⟩)
          go_returns
          exact ⟨rfl, by (repeat (first | exact Below.refl _ _ | (refine Below.alloc ?_ (by first | exact Nat.le_refl _ | omega | (simp; done) | (simp; omega)) _) | (refine Below.setCell ?_ (by first | exact Nat.le_refl _ | omega | (simp; done) | (simp; omega)) _) | exact Below.drew ‹_›))⟩
        · rw [if_neg h1]
          have h1' : (xa == s) = false := by simpa using h1
          clear h1
          by_cases h2 : xb = s
          · rw [if_pos h2]
            have h2' : (xb == s) = true := by simp [h2]
            clear h2
            go_enter Try.func64, Try.ntmps64
            go_wp2_with (go_at_call 48; refine (C1 _).mono ?_; rintro e w1 ⟨rfl, rfl⟩)
            go_returns
            exact ⟨rfl, by (repeat (first | exact Below.refl _ _ | (refine Below.alloc ?_ (by first | exact Nat.le_refl _ | omega | (simp; done) | (simp; omega)) _) | (refine Below.setCell ?_ (by first | exact Nat.le_refl _ | omega | (simp; done) | (simp; omega)) _) | exact Below.drew ‹_›))⟩
          · rw [if_neg h2]
            have h2' : (xb == s) = false := by simpa using h2
            clear h2
            go_enter Try.func64, Try.ntmps64
            go_wp2_with (go_at_call 48; refine (C1 _).mono ?_; rintro e w1 ⟨rfl, rfl⟩)
            go_returns
            exact ⟨rfl, by (repeat (first | exact Below.refl _ _ | (refine Below.alloc ?_ (by first | exact Nat.le_refl _ | omega | (simp; done) | (simp; omega)) _) | (refine Below.setCell ?_ (by first | exact Nat.le_refl _ | omega | (simp; done) | (simp; omega)) _) | exact Below.drew ‹_›))⟩
    · have hk2' : (k == 2) = false := by simpa using hk2
      rw [stepO_other hk1 hk2]
      clear hk1 hk2
      go_enter Try.func64, Try.ntmps64
      go_wp2_with fail
      go_returns
      exact ⟨rfl, by (repeat (first | exact Below.refl _ _ | (refine Below.alloc ?_ (by first | exact Nat.le_refl _ | omega | (simp; done) | (simp; omega)) _) | (refine Below.setCell ?_ (by first | exact Nat.le_refl _ | omega | (simp; done) | (simp; omega)) _) | exact Below.drew ‹_›))⟩

end Go.Proofs.Ytblmmmeeljidiab
