/-
  The walk of FnCountBack over this seat.
-/
import Derived.Test.YtbhipfidkfnlpaaHc
import Derived.Test.YtbhipfidkfnlpaaCb
import Derived.Test.YtbhipfidkfnlpaaA8
namespace Go.Proofs.Ytbhipfidkfnlpaa
open Go.RowKit

theorem countI_back (n : Int) (ls : List Lk) (x y : Int) : countI n ls y x = countI n ls x y := by
  unfold countI
  have e : vwB n ls [y, x] = vwB n ls [x, y] := by
    unfold vwB
    simp only [List.all_cons, List.all_nil, Bool.and_true]
    rw [Bool.and_comm (inB y 0 (n - 1))]
  rw [e]
  cases hv : vwB n ls [x, y] with
  | false => rfl
  | true =>
    obtain ⟨hg, hx, hy⟩ := vwB_two hv
    obtain ⟨m, rfl⟩ : ∃ q : Nat, n = (q : Int) := ⟨n.toNat, by omega⟩
    rw [if_pos rfl, if_pos rfl, Int.toNat_natCast, cntL_back hg hy hx]

set_option maxRecDepth 100000 in
set_option maxHeartbeats 1600000 in
theorem countBack_walk (A : Option Addr) (len c : Nat) (f : Nat → Int) (w : World) (hlc : len ≤ c) (hc : c ≤ maxLen) (hB : Byt w w.heap.size A len f) :
   Calls Try.prog 10 #[.slice A len c] w fun e w' => e = .returned (.bool true) ∧ Below w.heap.size w w' := by
  have HB := Lib.hid hB
  clear hB
  by_cases hl : len ≤ 1048576
  · go_enter Try.func10, Try.ntmps10
    go_wp2_with fail
    refine (drawCount_any A len c f w hlc hc HB.out).mono ?_
    rintro e w1 ⟨n, ls, A1, g1, c1, x, y, rfl, ⟨hn0, hn1, hls, hg1, ho1, hb1⟩, hx0, hx1, hy0, hy1⟩
    have L1 := Lib.hid (show LB w w1.heap.size n ls A1 g1 c1 (w1.alloc (.cells #[.int .i64 n, .slice A1 ls.length c1] 30)) from ⟨Box.new w1 _ _, ho1.alloc _, hb1.alloc hb1.size _⟩)
    clear ho1 hb1 HB
    generalize hG : w1.heap.size = G at *
    go_wp2_with fail
    have CI := count_impl n A1 ls c1 x y _ (by omega) L1.out.2.1.sl
    have CS := fun W (hW : Sl W W.heap.size A1 ls) => count_spec n A1 ls c1 x y W (by omega) (by omega) hW
    have CB := fun W (hW : Sl W W.heap.size A1 ls) => count_impl n A1 ls c1 y x W (by omega) hW
    rw [countI_back] at CB
    generalize countI n ls x y = o at *
    refine CI.mono ?_
    clear CI
    rintro e w2 ⟨rfl, hb2⟩
    have L2 := Lib.hid (L1.out.call hb2)
    clear hb2 L1 hG
    obtain ⟨z2, c20, c21, -, -⟩ := L2.out.1.two
    go_wp2_with fail
    refine (CS w2 L2.out.2.1.sl).mono ?_
    clear CS
    rintro e w3 ⟨rfl, hb3⟩
    have L3 := Lib.hid (L2.out.call hb3)
    clear hb3 L2 z2 c20 c21
    obtain ⟨z3, c30, c31, -, -⟩ := L3.out.1.two
    by_cases h0 : o < 0
    · go_wp2_with fail
      go_ret
      exact ⟨ret_bool (by simp), L3.out.2.2⟩
    · have h0' : decide (o < 0) = false := by simpa using h0
      go_wp2_with fail
      refine (CB w3 L3.out.2.1.sl).mono ?_
      rintro e w4 ⟨rfl, hb4⟩
      have L4 := Lib.hid (L3.out.call hb4)
      go_wp2_with fail
      go_ret
      exact ⟨ret_bool (by simp), L4.out.2.2⟩
  · go_enter Try.func10, Try.ntmps10
    go_wp2
    go_ret
    exact ⟨rfl, by (repeat (first | exact Below.refl _ _ | (refine Below.alloc ?_ (by first | exact Nat.le_refl _ | omega | (simp; done) | (simp; omega)) _) | (refine Below.setCell ?_ (by first | exact Nat.le_refl _ | omega | (simp; done) | (simp; omega)) _) | exact Below.drew ‹_›))⟩
end Go.Proofs.Ytbhipfidkfnlpaa
