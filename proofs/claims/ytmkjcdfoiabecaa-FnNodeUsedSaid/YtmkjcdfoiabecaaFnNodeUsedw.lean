/-
  The walk of FnNodeUsed over this seat.
-/
import Derived.Test.YtmkjcdfoiabecaaUs
import Derived.Test.YtmkjcdfoiabecaaDraw3
import Derived.Test.YtmkjcdfoiabecaaA8
namespace Go.Proofs.Ytmkjcdfoiabecaa
open Go.RowKit

set_option maxRecDepth 100000 in
set_option maxHeartbeats 1600000 in
theorem nodeUsed_walk (A : Option Addr) (len c : Nat) (f : Nat → Int) (w : World) (hlc : len ≤ c) (hc : c ≤ maxLen) (hB : Byt w w.heap.size A len f) :
   Calls Try.prog 12 #[.slice A len c] w fun e w' => e = .returned (.bool true) ∧ Below w.heap.size w w' := by
  have HB := Lib.hid hB
  clear hB
  by_cases hl : len ≤ 1048576
  · go_enter Try.func12, Try.ntmps12
    go_wp2_with fail
    refine (drawNode3_any A len c f w hlc hc HB.out).mono ?_
    rintro e w1 ⟨n, ls, A1, g1, c1, x, y, z, rfl, ⟨hn0, hn1, hls, hg1, ho1, hb1⟩, hx0, hx1, hy0, hy1, hz0, hz1⟩
    have L1 := Lib.hid (show LB w w1.heap.size n ls A1 g1 c1 (w1.alloc (.cells #[.int .i64 n, .slice A1 ls.length c1] 30)) from ⟨Box.new w1 _ _, ho1.alloc _, hb1.alloc hb1.size _⟩)
    clear ho1 hb1 HB
    generalize hG : w1.heap.size = G at *
    go_wp2_with fail
    have CI := node_impl n A1 ls c1 x y z _ (by omega) L1.out.2.1.sl
    have CS := fun W (hW : Sl W W.heap.size A1 ls) => node_spec n A1 ls c1 x y z W (by omega) (by omega) hW
    have HF : Hid (nodeB n ls x y z = true → gvB n ls = true ∧ (0 ≤ x ∧ x < n) ∧ (0 ≤ y ∧ y < n) ∧ (0 ≤ z ∧ z < n) ∧ 0 ≤ bf n ls x z ∧ 0 ≤ bf n ls z y ∧ bf n ls x z + bf n ls z y = bf n ls x y ∧ bf n ls x z ≤ 140 ∧ bf n ls z y ≤ 140) := Lib.hid (fun h => by
      unfold nodeB nodeL at h
      simp only [Bool.and_eq_true, decide_eq_true_eq] at h
      obtain ⟨hv3, ⟨h1, h2⟩, h3⟩ := h
      obtain ⟨hv, hz⟩ := vwB_three.1 hv3
      obtain ⟨hg, hx, hy⟩ := vwB_two hv
      obtain ⟨hf, _, h8, _⟩ := gvB_fit hg
      have e : bf n ls z y = bf n ls y z := bf_symm hf hz hy
      have b1 := bf_bound hf hx h8 z
      have b2 := bf_bound hf hz h8 y
      exact ⟨hg, hx, hy, hz, h1, by omega, by omega, by omega, by omega⟩)
    generalize nodeB n ls x y z = o at *
    refine CI.mono ?_
    clear CI
    rintro e w2 ⟨rfl, hb2⟩
    have L2 := Lib.hid (L1.out.call hb2)
    clear hb2 L1 hG
    obtain ⟨z2, c20, c21, -, -⟩ := L2.out.1.two
    go_wp2_with fail
    refine (CS w2 L2.out.2.1.sl).mono ?_
    clear CS
    rintro e w3 ⟨rfl, hb3⟩
    have L3 := Lib.hid (L2.out.call hb3)
    clear hb3 L2 z2 c20 c21
    obtain ⟨z3, c30, c31, -, -⟩ := L3.out.1.two
    cases o with
    | false =>
      go_wp2_with fail
      go_ret
      exact ⟨rfl, L3.out.2.2⟩
    | true =>
      obtain ⟨hg, hx, hy, hz, h1, h2, h3, h4, h5⟩ := HF.out rfl
      obtain ⟨m, rfl⟩ : ∃ q : Nat, n = (q : Int) := ⟨n.toNat, by omega⟩
      obtain ⟨xn, rfl⟩ : ∃ q : Nat, x = (q : Int) := ⟨x.toNat, by omega⟩
      obtain ⟨yn, rfl⟩ : ∃ q : Nat, y = (q : Int) := ⟨y.toNat, by omega⟩
      obtain ⟨zn, rfl⟩ : ∃ q : Nat, z = (q : Int) := ⟨z.toNat, by omega⟩
      have HD : ∀ (a b : Nat) (X : Ext w3), a < m → b < m → Calls Try.prog 38 #[gval (m : Int) A1 ls.length c1, .int .i64 (a : Int), .int .i64 (b : Int)] X.w fun e w' => e = .returned (.int .i64 (bf (m : Int) ls (a : Int) (b : Int))) ∧ Below X.w.heap.size X.w w' := fun a b X ha hb =>
        dist_any m A1 ls c1 (a : Int) b X.w (by omega) hg ⟨by omega, by omega⟩ hb ((L3.out.2.1.sl.below X.below).more X.below.size)
      have h3' : (bf (m : Int) ls (xn : Int) (zn : Int) + bf (m : Int) ls (zn : Int) (yn : Int) == bf (m : Int) ls (xn : Int) (yn : Int)) = true := by simp [h3]
      have hxm : xn < m := by omega
      have hym : yn < m := by omega
      have hzm : zn < m := by omega
      have h6 : bf (m : Int) ls (xn : Int) (yn : Int) ≤ 280 := by omega
      clear hg h3 hx hy hz
      have hX := fun (x : Ext w3) (bb o : Nat) (h : bb < w3.heap.size) => x.cell bb o h
      go_wp2_with fail
      refine wp_region_ext (by kernel_rfl) (by kernel_rfl) ?_
      repeat (go_big_quiet_step (first | (go_at_call 38; exact Calls.ext_of (HD _ _ _ (by assumption) (by assumption)))))
      (refine wpQuiet_nil ?_); (rintro _ ⟨X, rfl⟩); (have hw1 := X.below); (generalize X.w = w1 at *); (clear X)
      clear hX
      have L4 := Lib.hid (L3.out.call hw1)
      go_wp2_with fail
      go_ret
      exact ⟨ret_bool (by simp), L4.out.2.2⟩
  · go_enter Try.func12, Try.ntmps12
    go_wp2
    go_ret
    exact ⟨rfl, by (repeat (first | exact Below.refl _ _ | (refine Below.alloc ?_ (by first | exact Nat.le_refl _ | omega | (simp; done) | (simp; omega)) _) | (refine Below.setCell ?_ (by first | exact Nat.le_refl _ | omega | (simp; done) | (simp; omega)) _) | exact Below.drew ‹_›))⟩
end Go.Proofs.Ytmkjcdfoiabecaa
