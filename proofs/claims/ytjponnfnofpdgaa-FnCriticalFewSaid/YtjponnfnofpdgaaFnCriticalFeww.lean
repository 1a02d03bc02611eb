/-
  The walk of FnCriticalFew over this seat.
-/
import Derived.Test.YtjponnfnofpdgaaCq
import Derived.Test.YtjponnfnofpdgaaDrawW
import Derived.Test.YtjponnfnofpdgaaWs
import Derived.Test.YtjponnfnofpdgaaB7
namespace Go.Proofs.Ytjponnfnofpdgaa
open Go.RowKit

set_option maxRecDepth 100000 in
set_option maxHeartbeats 1600000 in
theorem criticalFew_walk (A : Option Addr) (len c : Nat) (f : Nat → Int) (w : World) (hlc : len ≤ c) (hc : c ≤ maxLen) (hB : Byt w w.heap.size A len f) :
   Calls Try.prog 7 #[.slice A len c] w fun e w' => e = .returned (.bool true) ∧ Below w.heap.size w w' := by
  have HB := Lib.hid hB
  clear hB
  by_cases hl : len ≤ 1048576
  · go_enter Try.func7, Try.ntmps7
    go_wp2_with fail
    refine (drawCrit_any A len c f w hlc hc HB.out).mono ?_
    rintro e w1 ⟨n, ls, A1, g1, c1, rfl, ⟨hn0, hn1, hls, hg1, ho1, hb1⟩, hcap⟩
    have L1 := Lib.hid (show LB w w1.heap.size n ls A1 g1 c1 (w1.alloc (.cells #[.int .i64 n, .slice A1 ls.length c1] 30)) from ⟨Box.new w1 _ _, ho1.alloc _, hb1.alloc hb1.size _⟩)
    have HCAP := Lib.hid hcap
    clear ho1 hb1 HB hcap
    generalize hG : w1.heap.size = G at *
    go_wp2_with fail
    refine (crit_impl n A1 ls c1 _ (by omega) L1.out.2.1.isA2 L1.out.2.1.sl).mono ?_
    rintro e w2 ⟨A2, g2, c2, rfl, hg2, ho2, hb2⟩
    have L2 := Lib.hid (L1.out.call hb2)
    have P2 := Lib.hid ho2
    clear hb2 L1 hG ho2
    obtain ⟨z2, c20, c21, -, -⟩ := L2.out.1.two
    go_wp2_with fail
    refine (crit_spec n A1 ls c1 w2 (by omega) L2.out.2.1.isA2 HCAP.out (by omega) L2.out.2.1.sl).mono ?_
    rintro e w3 ⟨A3, g3, c3, rfl, hg3, ho3, hb3⟩
    have L3 := Lib.hid (L2.out.call hb3)
    have P3 := Lib.hid (P2.out.below hb3)
    have Q3 := Lib.hid ho3
    clear hb3 L2 z2 c20 c21 P2 ho3
    obtain ⟨z3, c30, c31, -, -⟩ := L3.out.1.two
    clear HCAP
    have hrs : (critL n ls).length ≤ 14 := critL_len n ls
    have HF : Hid (gvB n ls = true → ((critL n ls).length : Int) < n) := Lib.hid (fun hv => by
      obtain ⟨m, rfl⟩ : ∃ m : Nat, n = (m : Int) := ⟨n.toNat, by omega⟩
      have := crit_less hv
      omega)
    generalize critL n ls = xs at *
    go_wp2_with fail
    refine (sameInts_same A2 A3 xs c2 c3 w3 (by omega) P3.out.sli Q3.out.sli).mono ?_
    rintro e w4 ⟨rfl, hb4⟩
    have L4 := Lib.hid (L3.out.call hb4)
    have P4 := Lib.hid (P3.out.below hb4)
    have Q4 := Lib.hid (Q3.out.below hb4)
    clear hb4 L3 P3 Q3 z3 c30 c31 hg2 hg3
    obtain ⟨z4, c40, c41, -, -⟩ := L4.out.1.two
    go_wp2_with fail
    refine (valid_spec_any n A1 ls c1 w4 (by omega) (by omega) L4.out.2.1.sl).mono ?_
    rintro e w5 ⟨rfl, hb5⟩
    have L5 := Lib.hid (L4.out.call hb5)
    have P5 := Lib.hid (P4.out.below hb5)
    have Q5 := Lib.hid (Q4.out.below hb5)
    clear hb5 L4 P4 Q4 z4 c40 c41
    obtain ⟨z5, c50, c51, -, -⟩ := L5.out.1.two
    cases hv : gvB n ls with
    | false =>
      clear HF
      go_wp2_with fail
      refine (sameInts_same A2 A3 xs c2 c3 w5 (by omega) P5.out.sli Q5.out.sli).mono ?_
      rintro e wz ⟨rfl, hbz⟩
      have Lz := Lib.hid (L5.out.call hbz)
      go_wp2_with fail
      go_ret
      exact ⟨rfl, Lz.out.2.2⟩
    | true =>
      have hlt := HF.out hv
      have hlt' : decide ((xs.length : Int) < n) = true := by simpa using hlt
      clear HF hv hlt
      go_wp2_with fail
      go_ret
      exact ⟨ret_bool (by simp), L5.out.2.2⟩
  · go_enter Try.func7, Try.ntmps7
    go_wp2
    go_ret
    exact ⟨rfl, by (repeat (first | exact Below.refl _ _ | (refine Below.alloc ?_ (by first | exact Nat.le_refl _ | omega | (simp; done) | (simp; omega)) _) | (refine Below.setCell ?_ (by first | exact Nat.le_refl _ | omega | (simp; done) | (simp; omega)) _) | exact Below.drew ‹_›))⟩
end Go.Proofs.Ytjponnfnofpdgaa
