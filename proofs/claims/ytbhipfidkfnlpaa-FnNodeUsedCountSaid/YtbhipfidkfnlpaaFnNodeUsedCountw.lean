/-
  The walk of FnNodeUsedCount over this seat.
-/
import Derived.Test.YtbhipfidkfnlpaaHc
import Derived.Test.YtbhipfidkfnlpaaUs
import Derived.Test.YtbhipfidkfnlpaaIc
import Derived.Test.YtbhipfidkfnlpaaDraw3
import Derived.Test.YtbhipfidkfnlpaaA7
import Derived.Test.YtbhipfidkfnlpaaA8
namespace Go.Proofs.Ytbhipfidkfnlpaa
open Go.RowKit

theorem iso_res (n : Int) (A : Option Addr) (ls : List Lk) (c : Nat) (z : Int) (w : World) (hm : ls.length ≤ 2000000) (hg : gvB n ls = true) (hz : 0 ≤ z ∧ z < n) (hs : Sl w w.heap.size A ls) :
    Calls Try.prog 35 #[gval n A ls.length c, .int .i64 z] w (GRes n (isoLs ls z) true w) := by
  have h : isolateOk n ls z = true := by unfold isolateOk inB; simp [hg]; omega
  have := isolate_implA n A ls c z w hm hs
  rw [if_pos h, keepTo_all] at this
  exact this

set_option maxRecDepth 100000 in
set_option maxHeartbeats 1600000 in
theorem nodeUsedCount_walk (A : Option Addr) (len c : Nat) (f : Nat → Int) (w : World) (hlc : len ≤ c) (hc : c ≤ maxLen) (hB : Byt w w.heap.size A len f) :
   Calls Try.prog 11 #[.slice A len c] w fun e w' => e = .returned (.bool true) ∧ Below w.heap.size w w' := by
  have HB := Lib.hid hB
  clear hB
  by_cases hl : len ≤ 1048576
  · go_enter Try.func11, Try.ntmps11
    go_wp2_with fail
    refine (drawNode3_any A len c f w hlc hc HB.out).mono ?_
    rintro e w1 ⟨n, ls, A1, g1, c1, x, y, z, rfl, ⟨hn0, hn1, hls, hg1, ho1, hb1⟩, hx0, hx1, hy0, hy1, hz0, hz1⟩
    have L1 := Lib.hid (show LB w w1.heap.size n ls A1 g1 c1 (w1.alloc (.cells #[.int .i64 n, .slice A1 ls.length c1] 30)) from ⟨Box.new w1 _ _, ho1.alloc _, hb1.alloc hb1.size _⟩)
    clear ho1 hb1 HB
    generalize hG : w1.heap.size = G at *
    go_wp2_with fail
    have CI := node_impl n A1 ls c1 x y z _ (by omega) L1.out.2.1.sl
    have CS := fun W (hW : Sl W W.heap.size A1 ls) => node_spec n A1 ls c1 x y z W (by omega) (by omega) hW
    have HF : Hid (nodeB n ls x y z = false → vwB n ls [x, y] = true → 0 ≤ z → z < n → nodeL n ls x y z = false) := Lib.hid (fun h hv h0 h1 => by
      unfold nodeB at h
      rwa [vwB_three.2 ⟨hv, h0, h1⟩, Bool.true_and] at h)
    generalize nodeB n ls x y z = o at *
    refine CI.mono ?_
    clear CI
    rintro e w2 ⟨rfl, hb2⟩
    have L2 := Lib.hid (L1.out.call hb2)
    clear hb2 L1 hG
    obtain ⟨z2, c20, c21, -, -⟩ := L2.out.1.two
    go_wp2_with fail
    refine (CS w2 L2.out.2.1.sl).mono ?_
    clear CS
    rintro e w3 ⟨rfl, hb3⟩
    have L3 := Lib.hid (L2.out.call hb3)
    clear hb3 L2 z2 c20 c21
    obtain ⟨z3, c30, c31, -, -⟩ := L3.out.1.two
    cases o with
    | true =>
      go_wp2_with fail
      go_ret
      exact ⟨rfl, L3.out.2.2⟩
    | false =>
      go_wp2_with fail
      refine (valid_spec_any n A1 ls c1 w3 (by omega) (by omega) L3.out.2.1.sl).mono ?_
      rintro e w4 ⟨rfl, hb4⟩
      have L4 := Lib.hid (L3.out.call hb4)
      clear hb4 L3 z3 c30 c31
      obtain ⟨z4, c40, c41, -, -⟩ := L4.out.1.two
      cases hv : gvB n ls with
      | false =>
        go_wp2_with fail
        go_ret
        exact ⟨ret_bool (by simp), L4.out.2.2⟩
      | true =>
        by_cases h1 : x < 0
        · go_wp2_with fail
          go_ret
          exact ⟨ret_bool (by simp), L4.out.2.2⟩
        have h1' : decide (x < 0) = false := by simpa using h1
        by_cases h2 : n ≤ x
        · go_wp2_with fail
          go_ret
          exact ⟨ret_bool (by simp), L4.out.2.2⟩
        have h2' : decide (n ≤ x) = false := by simpa using h2
        by_cases h3 : y < 0
        · go_wp2_with fail
          go_ret
          exact ⟨ret_bool (by simp), L4.out.2.2⟩
        have h3' : decide (y < 0) = false := by simpa using h3
        by_cases h4 : n ≤ y
        · go_wp2_with fail
          go_ret
          exact ⟨ret_bool (by simp), L4.out.2.2⟩
        have h4' : decide (n ≤ y) = false := by simpa using h4
        by_cases h5 : z < 0
        · go_wp2_with fail
          go_ret
          exact ⟨ret_bool (by simp), L4.out.2.2⟩
        have h5' : decide (z < 0) = false := by simpa using h5
        by_cases h6 : n ≤ z
        · go_wp2_with fail
          go_ret
          exact ⟨ret_bool (by simp), L4.out.2.2⟩
        have h6' : decide (n ≤ z) = false := by simpa using h6
        have hvw : vwB n ls [x, y] = true := vwB_of hv ⟨by omega, by omega⟩ ⟨by omega, by omega⟩
        have hno := HF.out (by first | trivial | rfl) hvw (by omega) (by omega)
        obtain ⟨m, rfl⟩ : ∃ q : Nat, n = (q : Int) := ⟨n.toNat, by omega⟩
        obtain ⟨xn, rfl⟩ : ∃ q : Nat, x = (q : Int) := ⟨x.toNat, by omega⟩
        obtain ⟨yn, rfl⟩ : ∃ q : Nat, y = (q : Int) := ⟨y.toNat, by omega⟩
        obtain ⟨zn, rfl⟩ : ∃ q : Nat, z = (q : Int) := ⟨z.toNat, by omega⟩
        have hxm : xn < m := by omega
        have hym : yn < m := by omega
        have hzm : zn < m := by omega
        have CI := iso_res (m : Int) A1 ls c1 (zn : Int) w4 (by omega) hv ⟨by omega, by omega⟩ L4.out.2.1.sl
        have HG := Lib.hid hv
        have HN := Lib.hid hno
        have hrl : (isoLs ls (zn : Int)).length ≤ 16 := by unfold isoLs; exact Nat.le_trans (List.length_filter_le _ _) hls
        have HG2 : Hid (gvB (m : Int) (isoLs ls (zn : Int)) = true) := Lib.hid (gvB_filter _ hv)
        have HBF : Hid (bf (m : Int) (isoLs ls (zn : Int)) (xn : Int) (yn : Int) = bf (m : Int) ls (xn : Int) (yn : Int)) := Lib.hid (by
          rw [bf_symm (gvB_fit HG2.out).1 ⟨by omega, by omega⟩ ⟨by omega, by omega⟩, bf_symm (gvB_fit HG.out).1 (s := (xn : Int)) ⟨by omega, by omega⟩ ⟨by omega, by omega⟩]
          exact iso_bf HG.out ⟨by omega, by omega⟩ ⟨by omega, by omega⟩ HN.out)
        have HCN : Hid (xn ≠ zn → countI (m : Int) (isoLs ls (zn : Int)) (xn : Int) (yn : Int) = countI (m : Int) ls (xn : Int) (yn : Int)) := Lib.hid (fun hne => by
          unfold countI
          rw [vwB_of HG.out ⟨by omega, by omega⟩ ⟨by omega, by omega⟩, vwB_of HG2.out ⟨by omega, by omega⟩ ⟨by omega, by omega⟩, if_pos rfl, if_pos rfl, Int.toNat_natCast]
          rw [iso_cnt HG.out ⟨by omega, by omega⟩ ⟨by omega, by omega⟩ _ (xn : Int) ⟨by omega, by omega⟩ (Nat.le_refl _) (by omega) HN.out])
        clear hv hvw hno HF
        generalize isoLs ls (zn : Int) = rs at *
        go_wp2_with fail
        refine CI.mono ?_
        clear CI
        rintro e w5 ⟨A5, g5, c5, rfl, hg5, ho5, hb5⟩
        have L5 := Lib.hid (L4.out.call hb5)
        have L6 := Lib.hid (L5.out.alloc (.cells #[.int .i64 (m : Int), .slice A5 rs.length c5] 30))
        have P6 := Lib.hid (show LB w w5.heap.size (m : Int) rs A5 g5 c5 (w5.alloc (.cells #[.int .i64 (m : Int), .slice A5 rs.length c5] 30)) from ⟨Box.new w5 _ _, ho5.alloc _, L6.out.2.2⟩)
        clear hb5 ho5 L4 L5 z4 c40 c41 hg5
        go_upto_region 9 with fail
        generalize w5.alloc (.cells #[.int .i64 (m : Int), .slice A5 rs.length c5] 30) = W6 at *
        generalize w5.heap.size = O at *
        obtain ⟨z6, c60, c61, -, -⟩ := L6.out.1.two
        obtain ⟨y6, d60, d61, -, -⟩ := P6.out.1.two
        by_cases hxz : zn = xn
        · have hxz' : ((zn : Int) == (xn : Int)) = true := by simp [hxz]
          clear hxz
          go_wp2_with fail
          go_quiet (fail)
          go_wp2_with fail
          go_ret
          exact ⟨ret_bool (by simp), below_drewN L6.out.2.2 _⟩
        · have hxz' : ((zn : Int) == (xn : Int)) = false := by simp; omega
          by_cases hyz : zn = yn
          · have hyz' : ((zn : Int) == (yn : Int)) = true := by simp [hyz]
            clear hyz
            go_wp2_with fail
            go_quiet (fail)
            go_wp2_with fail
            go_ret
            exact ⟨ret_bool (by simp), below_drewN L6.out.2.2 _⟩
          · have hyz' : ((zn : Int) == (yn : Int)) = false := by simp; omega
            have hbe : (bf (m : Int) rs (xn : Int) (yn : Int) == bf (m : Int) ls (xn : Int) (yn : Int)) = true := by simp [HBF.out]
            have hce : (countI (m : Int) rs (xn : Int) (yn : Int) == countI (m : Int) ls (xn : Int) (yn : Int)) = true := by simp [HCN.out (fun e => hxz e.symm)]
            have HS1 : Hid (gvB (m : Int) ls = true ∧ ls.length ≤ 16 ∧ Sl W6 W6.heap.size A1 ls) := Lib.hid ⟨HG.out, hls, L6.out.2.1.sl⟩
            have HS2 : Hid (gvB (m : Int) rs = true ∧ rs.length ≤ 16 ∧ Sl W6 W6.heap.size A5 rs) := Lib.hid ⟨HG2.out, hrl, P6.out.2.1.sl⟩
            have CD : ∀ (A' : Option Addr) (ls' : List Lk) (c' : Nat) (X : Ext W6), Hid (gvB (m : Int) ls' = true ∧ ls'.length ≤ 16 ∧ Sl W6 W6.heap.size A' ls') → Calls Try.prog 24 #[gval (m : Int) A' ls'.length c', .int .i64 (xn : Int), .int .i64 (yn : Int)] X.w fun e w' => e = .returned (.int .i64 (bf (m : Int) ls' (xn : Int) (yn : Int))) ∧ Below X.w.heap.size X.w w' := fun A' ls' c' X h =>
              dist_any m A' ls' c' (xn : Int) yn X.w (by have := h.out.2.1; omega) h.out.1 ⟨by omega, by omega⟩ hym ((h.out.2.2.below X.below).more X.below.size)
            have CC : ∀ (A' : Option Addr) (ls' : List Lk) (c' : Nat) (X : Ext W6), Hid (gvB (m : Int) ls' = true ∧ ls'.length ≤ 16 ∧ Sl W6 W6.heap.size A' ls') → Calls Try.prog 27 #[gval (m : Int) A' ls'.length c', .int .i64 (xn : Int), .int .i64 (yn : Int)] X.w fun e w' => e = .returned (.int .i64 (countI (m : Int) ls' (xn : Int) (yn : Int))) ∧ Below X.w.heap.size X.w w' := fun A' ls' c' X h =>
              count_impl (m : Int) A' ls' c' (xn : Int) (yn : Int) X.w (by have := h.out.2.1; omega) ((h.out.2.2.below X.below).more X.below.size)
            clear hxz hyz
            have hX := fun (x : Ext W6) (bb o : Nat) (h : bb < W6.heap.size) => x.cell bb o h
            go_wp2_with fail
            refine wp_region_ext (by kernel_rfl) (by kernel_rfl) ?_
            repeat (go_big_quiet_step (first | (go_at_call 24; exact Calls.ext_of (CD _ _ _ _ (by assumption))) | (go_at_call 27; exact Calls.ext_of (CC _ _ _ _ (by assumption)))))
            (refine wpQuiet_nil ?_); (rintro _ ⟨X, rfl⟩); (have hw1 := X.below); (generalize X.w = w1 at *); (clear X)
            clear hX
            have L7 := Lib.hid (L6.out.call hw1)
            go_wp2_with fail
            go_ret
            exact ⟨ret_bool (by simp), L7.out.2.2⟩
  · go_enter Try.func11, Try.ntmps11
    go_wp2
    go_ret
    exact ⟨rfl, by (repeat (first | exact Below.refl _ _ | (refine Below.alloc ?_ (by first | exact Nat.le_refl _ | omega | (simp; done) | (simp; omega)) _) | (refine Below.setCell ?_ (by first | exact Nat.le_refl _ | omega | (simp; done) | (simp; omega)) _) | exact Below.drew ‹_›))⟩
end Go.Proofs.Ytbhipfidkfnlpaa
