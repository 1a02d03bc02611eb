/-
  The walk of FnLinkUsed over this seat.
-/
import Derived.Test.YtddgeohgancnbaaHc
import Derived.Test.YtddgeohgancnbaaUs
import Derived.Test.YtddgeohgancnbaaWl
import Derived.Test.YtddgeohgancnbaaWr
import Derived.Test.YtddgeohgancnbaaDraw3
import Derived.Test.YtddgeohgancnbaaA8
namespace Go.Proofs.Ytddgeohgancnbaa
open Go.RowKit

set_option maxRecDepth 100000 in
set_option maxHeartbeats 1600000 in
theorem linkUsed_walk (A : Option Addr) (len c : Nat) (f : Nat → Int) (w : World) (hlc : len ≤ c) (hc : c ≤ maxLen) (hB : Byt w w.heap.size A len f) :
   Calls Try.prog 5 #[.slice A len c] w fun e w' => e = .returned (.bool true) ∧ Below w.heap.size w w' := by
  have HB := Lib.hid hB
  clear hB
  by_cases hl : len ≤ 1048576
  · go_enter Try.func5, Try.ntmps5
    go_wp2_with fail
    refine (drawLink3_any A len c f w hlc hc HB.out).mono ?_
    rintro e w1 ⟨n, ls, A1, g1, c1, x, y, z, rfl, ⟨hn0, hn1, hls, hg1, ho1, hb1⟩, hx0, hx1, hy0, hy1, hz0, hz1⟩
    have L1 := Lib.hid (show LB w w1.heap.size n ls A1 g1 c1 (w1.alloc (.cells #[.int .i64 n, .slice A1 ls.length c1] 25)) from ⟨Box.new w1 _ _, ho1.alloc _, hb1.alloc hb1.size _⟩)
    clear ho1 hb1 HB
    generalize hG : w1.heap.size = G at *
    go_wp2_with fail
    have CI := used_impl n A1 ls c1 x y z _ (by omega) L1.out.2.1.sl
    have CS := fun W (hW : Sl W W.heap.size A1 ls) => used_spec n A1 ls c1 x y z W (by omega) (by omega) hW
    have HF : Hid (∀ k : Nat, z = (k : Int) → k < ls.length → vwB n ls [x, y] = true → ∃ l, ls[k]? = some l ∧ usedB n ls x y z = usedL n ls x y l) := Lib.hid (fun k hz hk hv => by
      subst hz
      exact ⟨_, List.getElem?_eq_getElem hk, used_at hv (List.getElem?_eq_getElem hk)⟩)
    generalize usedB n ls x y z = o at *
    refine CI.mono ?_
    clear CI
    rintro e w2 ⟨rfl, hb2⟩
    have L2 := Lib.hid (L1.out.call hb2)
    clear hb2 L1 hG
    obtain ⟨z2, c20, c21, -, -⟩ := L2.out.1.two
    go_wp2_with fail
    refine (CS w2 L2.out.2.1.sl).mono ?_
    clear CS
    rintro e w3 ⟨rfl, hb3⟩
    have L3 := Lib.hid (L2.out.call hb3)
    clear hb3 L2 z2 c20 c21
    obtain ⟨z3, c30, c31, -, -⟩ := L3.out.1.two
    go_wp2_with fail
    refine (valid_spec_any n A1 ls c1 w3 (by omega) (by omega) L3.out.2.1.sl).mono ?_
    rintro e w4 ⟨rfl, hb4⟩
    have L4 := Lib.hid (L3.out.call hb4)
    clear hb4 L3 z3 c30 c31
    obtain ⟨z4, c40, c41, -, -⟩ := L4.out.1.two
    cases hv : gvB n ls with
    | false =>
      go_wp2_with fail
      go_ret
      exact ⟨ret_bool (by simp), L4.out.2.2⟩
    | true =>
      by_cases h1 : x < 0
      · go_wp2_with fail
        go_ret
        exact ⟨ret_bool (by simp), L4.out.2.2⟩
      have h1' : decide (x < 0) = false := by simpa using h1
      by_cases h2 : n ≤ x
      · go_wp2_with fail
        go_ret
        exact ⟨ret_bool (by simp), L4.out.2.2⟩
      have h2' : decide (n ≤ x) = false := by simpa using h2
      by_cases h3 : y < 0
      · go_wp2_with fail
        go_ret
        exact ⟨ret_bool (by simp), L4.out.2.2⟩
      have h3' : decide (y < 0) = false := by simpa using h3
      by_cases h4 : n ≤ y
      · go_wp2_with fail
        go_ret
        exact ⟨ret_bool (by simp), L4.out.2.2⟩
      have h4' : decide (n ≤ y) = false := by simpa using h4
      by_cases h5 : z < 0
      · go_wp2_with fail
        go_ret
        exact ⟨ret_bool (by simp), L4.out.2.2⟩
      have h5' : decide (z < 0) = false := by simpa using h5
      by_cases h6 : (ls.length : Int) ≤ z
      · go_wp2_with fail
        go_ret
        exact ⟨ret_bool (by simp), L4.out.2.2⟩
      have h6' : decide ((ls.length : Int) ≤ z) = false := by simpa using h6
      have hvw : vwB n ls [x, y] = true := vwB_of hv ⟨by omega, by omega⟩ ⟨by omega, by omega⟩
      obtain ⟨m, rfl⟩ : ∃ q : Nat, n = (q : Int) := ⟨n.toNat, by omega⟩
      obtain ⟨xn, rfl⟩ : ∃ q : Nat, x = (q : Int) := ⟨x.toNat, by omega⟩
      obtain ⟨yn, rfl⟩ : ∃ q : Nat, y = (q : Int) := ⟨y.toNat, by omega⟩
      obtain ⟨zn, rfl⟩ : ∃ q : Nat, z = (q : Int) := ⟨z.toNat, by omega⟩
      have hxm : xn < m := by omega
      have hym : yn < m := by omega
      have hzl : zn < ls.length := by omega
      obtain ⟨l, hl, hol⟩ := HF.out zn rfl hzl hvw
      have HO := Lib.hid hol
      have HL := Lib.hid hl
      have HG := Lib.hid hv
      have HG2 : Hid (gvB (m : Int) (ls.eraseIdx zn) = true) := Lib.hid (er_gv hv zn)
      have hel : (ls.eraseIdx zn).length ≤ 16 := Nat.le_trans (List.length_eraseIdx_le _ _) hls
      obtain ⟨rfl, -⟩ := L4.out.2.1 (by omega)
      have CW := wo_res (m : Int) g1 ls c1 zn w4 (by omega) hv hzl L4.out.2.1.sl
      have HNO : Hid (o = false → bf (m : Int) (ls.eraseIdx zn) (xn : Int) (yn : Int) = bf (m : Int) ls (xn : Int) (yn : Int) ∧ countI (m : Int) (ls.eraseIdx zn) (xn : Int) (yn : Int) = countI (m : Int) ls (xn : Int) (yn : Int)) := Lib.hid (fun ho => by
        rw [hol] at ho
        have hb := er_bf HG.out hl (t := (yn : Int)) ⟨by omega, by omega⟩ (s := (xn : Int)) ⟨by omega, by omega⟩ ho
        rw [bf_symm (gvB_fit HG2.out).1 (s := (yn : Int)) ⟨by omega, by omega⟩ ⟨by omega, by omega⟩, bf_symm (gvB_fit HG.out).1 (s := (yn : Int)) ⟨by omega, by omega⟩ ⟨by omega, by omega⟩] at hb
        refine ⟨hb, ?_⟩
        unfold countI
        rw [vwB_of HG.out ⟨by omega, by omega⟩ ⟨by omega, by omega⟩, vwB_of HG2.out ⟨by omega, by omega⟩ ⟨by omega, by omega⟩, if_pos rfl, if_pos rfl, Int.toNat_natCast, er_cnt HG.out hl ⟨by omega, by omega⟩ _ (xn : Int) ⟨by omega, by omega⟩ (Nat.le_refl _) ho])
      have HYES : Hid (o = true → bf (m : Int) (ls.eraseIdx zn) (xn : Int) (yn : Int) = bf (m : Int) ls (xn : Int) (yn : Int) → countI (m : Int) (ls.eraseIdx zn) (xn : Int) (yn : Int) < countI (m : Int) ls (xn : Int) (yn : Int)) := Lib.hid (fun ho hb => by
        rw [hol] at ho
        rw [bf_symm (gvB_fit HG2.out).1 (s := (xn : Int)) ⟨by omega, by omega⟩ ⟨by omega, by omega⟩, bf_symm (gvB_fit HG.out).1 (s := (xn : Int)) ⟨by omega, by omega⟩ ⟨by omega, by omega⟩] at hb
        have := er_fewer HG.out hl (s := (xn : Int)) (t := (yn : Int)) ⟨by omega, by omega⟩ ⟨by omega, by omega⟩ ho hb
        unfold countI
        rw [vwB_of HG.out ⟨by omega, by omega⟩ ⟨by omega, by omega⟩, vwB_of HG2.out ⟨by omega, by omega⟩ ⟨by omega, by omega⟩, if_pos rfl, if_pos rfl, Int.toNat_natCast]
        omega)
      clear hv hvw hol hl HF
      generalize ls.eraseIdx zn = rs at *
      go_wp2_with fail
      refine CW.mono ?_
      clear CW
      rintro e w5 ⟨A5, g5, c5, rfl, hg5, ho5, hb5⟩
      have L5 := Lib.hid (L4.out.call hb5)
      have L6 := Lib.hid (L5.out.alloc (.cells #[.int .i64 (m : Int), .slice A5 rs.length c5] 25))
      have P6 := Lib.hid (show LB w w5.heap.size (m : Int) rs A5 g5 c5 (w5.alloc (.cells #[.int .i64 (m : Int), .slice A5 rs.length c5] 25)) from ⟨Box.new w5 _ _, ho5.alloc _, L6.out.2.2⟩)
      clear hb5 ho5 L4 L5 z4 c40 c41 hg5
      go_upto_region 9 with fail
      generalize w5.alloc (.cells #[.int .i64 (m : Int), .slice A5 rs.length c5] 25) = W6 at *
      generalize w5.heap.size = O at *
      obtain ⟨z6, c60, c61, -, -⟩ := L6.out.1.two
      obtain ⟨y6, d60, d61, -, -⟩ := P6.out.1.two
      have HS1 : Hid (gvB (m : Int) ls = true ∧ ls.length ≤ 16 ∧ Sl W6 W6.heap.size (some ⟨g1, 0, none⟩) ls) := Lib.hid ⟨HG.out, hls, L6.out.2.1.sl⟩
      have HS2 : Hid (gvB (m : Int) rs = true ∧ rs.length ≤ 16 ∧ Sl W6 W6.heap.size A5 rs) := Lib.hid ⟨HG2.out, hel, P6.out.2.1.sl⟩
      have CD : ∀ (A' : Option Addr) (ls' : List Lk) (c' : Nat) (X : Ext W6), Hid (gvB (m : Int) ls' = true ∧ ls'.length ≤ 16 ∧ Sl W6 W6.heap.size A' ls') → Calls Try.prog 19 #[gval (m : Int) A' ls'.length c', .int .i64 (xn : Int), .int .i64 (yn : Int)] X.w fun e w' => e = .returned (.int .i64 (bf (m : Int) ls' (xn : Int) (yn : Int))) ∧ Below X.w.heap.size X.w w' := fun A' ls' c' X h =>
        dist_any m A' ls' c' (xn : Int) yn X.w (by have := h.out.2.1; omega) h.out.1 ⟨by omega, by omega⟩ hym ((h.out.2.2.below X.below).more X.below.size)
      have CC : ∀ (A' : Option Addr) (ls' : List Lk) (c' : Nat) (X : Ext W6), Hid (gvB (m : Int) ls' = true ∧ ls'.length ≤ 16 ∧ Sl W6 W6.heap.size A' ls') → Calls Try.prog 20 #[gval (m : Int) A' ls'.length c', .int .i64 (xn : Int), .int .i64 (yn : Int)] X.w fun e w' => e = .returned (.int .i64 (countI (m : Int) ls' (xn : Int) (yn : Int))) ∧ Below X.w.heap.size X.w w' := fun A' ls' c' X h =>
        count_impl (m : Int) A' ls' c' (xn : Int) (yn : Int) X.w (by have := h.out.2.1; omega) ((h.out.2.2.below X.below).more X.below.size)
      by_cases hd : bf (m : Int) rs (xn : Int) (yn : Int) = bf (m : Int) ls (xn : Int) (yn : Int)
      · have hd' : (bf (m : Int) ls (xn : Int) (yn : Int) != bf (m : Int) rs (xn : Int) (yn : Int)) = false := by simp [hd]
        have HD := Lib.hid hd
        clear hd
        have HCR : Hid (o = decide (countI (m : Int) rs (xn : Int) (yn : Int) < countI (m : Int) ls (xn : Int) (yn : Int))) := Lib.hid (by
          cases o with
          | true => exact (decide_eq_true (HYES.out (by first | trivial | rfl) HD.out)).symm
          | false => exact (decide_eq_false (by have := (HNO.out (by first | trivial | rfl)).2; omega)).symm)
        have hX := fun (x : Ext W6) (bb o : Nat) (h : bb < W6.heap.size) => x.cell bb o h
        go_wp2_with fail
        refine wp_region_ext (by kernel_rfl) (by kernel_rfl) ?_
        repeat (go_big_quiet_step (first | (go_at_call 19; exact Calls.ext_of (CD _ _ _ _ (by assumption))) | (go_at_call 20; exact Calls.ext_of (CC _ _ _ _ (by assumption)))))
        (refine wpQuiet_nil ?_); (rintro _ ⟨X, rfl⟩); (have hw1 := X.below); (generalize X.w = w1 at *); (clear X)
        clear hX
        have L7 := Lib.hid (L6.out.call hw1)
        go_wp2_with fail
        go_ret
        exact ⟨ret_bool (by rw [← HCR.out]; simp), L7.out.2.2⟩
      · have hd' : (bf (m : Int) ls (xn : Int) (yn : Int) != bf (m : Int) rs (xn : Int) (yn : Int)) = true := by simp; exact fun e => hd e.symm
        have HD := Lib.hid hd
        clear hd
        have HO2 : Hid (o = true) := Lib.hid (by
          cases o with
          | true => first | rfl | trivial
          | false => exact absurd (HNO.out (by first | trivial | rfl)).1 HD.out)
        have hX := fun (x : Ext W6) (bb o : Nat) (h : bb < W6.heap.size) => x.cell bb o h
        go_wp2_with fail
        refine wp_region_ext (by kernel_rfl) (by kernel_rfl) ?_
        repeat (go_big_quiet_step (first | (go_at_call 19; exact Calls.ext_of (CD _ _ _ _ (by assumption))) | (go_at_call 20; exact Calls.ext_of (CC _ _ _ _ (by assumption)))))
        (refine wpQuiet_nil ?_); (rintro _ ⟨X, rfl⟩); (have hw1 := X.below); (generalize X.w = w1 at *); (clear X)
        clear hX
        have L7 := Lib.hid (L6.out.call hw1)
        go_wp2_with fail
        go_ret
        exact ⟨ret_bool (by simp [HO2.out]), L7.out.2.2⟩
  · go_enter Try.func5, Try.ntmps5
    go_wp2
    go_ret
    exact ⟨rfl, by (repeat (first | exact Below.refl _ _ | (refine Below.alloc ?_ (by first | exact Nat.le_refl _ | omega | (simp; done) | (simp; omega)) _) | (refine Below.setCell ?_ (by first | exact Nat.le_refl _ | omega | (simp; done) | (simp; omega)) _) | exact Below.drew ‹_›))⟩
end Go.Proofs.Ytddgeohgancnbaa
