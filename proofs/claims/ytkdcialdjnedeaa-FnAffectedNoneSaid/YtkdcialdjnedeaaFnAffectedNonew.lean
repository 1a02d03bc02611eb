/-
  The walk of FnAffectedNone over this seat.
-/
import Derived.Test.YtkdcialdjnedeaaAe
namespace Go.Proofs.Ytkdcialdjnedeaa
open Go.RowKit

set_option maxRecDepth 100000 in
set_option maxHeartbeats 1600000 in
theorem affectedNone_walk (A : Option Addr) (len c : Nat) (f : Nat → Int) (w : World) (hlc : len ≤ c) (hc : c ≤ maxLen) (hB : Byt w w.heap.size A len f) :
   Calls Try.prog 10 #[.slice A len c] w fun e w' => e = .returned (.bool true) ∧ Below w.heap.size w w' := by
  have HB := Lib.hid hB
  clear hB
  by_cases hl : len ≤ 1048576
  · go_enter Try.func10, Try.ntmps10
    go_wp2_with fail
    refine (drawAff_any A len c f w hlc hc HB.out).mono ?_
    rintro e w1 ⟨n, ls, A1, g1, c1, x, y, z, rfl, ⟨hn0, hn1, hls, hg1, ho1, hb1⟩, hx0, hx1, hy0, hy1, hz0, hz1⟩
    have L1 := Lib.hid (show LB w w1.heap.size n ls A1 g1 c1 (w1.alloc (.cells #[.int .i64 n, .slice A1 ls.length c1] 30)) from ⟨Box.new w1 _ _, ho1.alloc _, hb1.alloc hb1.size _⟩)
    clear ho1 hb1 HB
    generalize hG : w1.heap.size = G at *
    go_wp2_with fail
    refine (aff_impl n A1 ls c1 x y z _ (by omega) L1.out.2.1.isA L1.out.2.1.sl).mono ?_
    rintro e w2 ⟨A2, g2, c2, rfl, hg2, ho2, hb2⟩
    have L2 := Lib.hid (L1.out.call hb2)
    have P2 := Lib.hid ho2
    clear hb2 L1 hG ho2
    obtain ⟨z2, c20, c21, -, -⟩ := L2.out.1.two
    go_wp2_with fail
    refine (aff_spec n A1 ls c1 x y z w2 (by omega) L2.out.2.1.isA (by omega) L2.out.2.1.sl).mono ?_
    rintro e w3 ⟨A3, g3, c3, rfl, hg3, ho3, hb3⟩
    have L3 := Lib.hid (L2.out.call hb3)
    have P3 := Lib.hid (P2.out.below hb3)
    have Q3 := Lib.hid ho3
    clear hb3 L2 z2 c20 c21 P2 ho3
    obtain ⟨z3, c30, c31, -, -⟩ := L3.out.1.two
    have hrs : (affL n ls x y z).length ≤ 8 := affL_len8 n ls x y z
    have HF : Hid (decide (x ∈ affL n ls x y z) = false ∧ ∀ (k : Nat) (l : Lk), y = (k : Int) → ls[k]? = some l → affL n ls x y l.c = []) := Lib.hid (by
      have key : ∀ (c : Int), n < 0 → affL n ls x y c = [] := fun c h => by omega
      obtain ⟨m, rfl⟩ : ∃ m : Nat, n = (m : Int) := ⟨n.toNat, by omega⟩
      exact ⟨decide_eq_false affL_self, fun k l hk hl => by subst hk; exact affL_same hl⟩)
    generalize affL n ls x y z = xs at *
    go_wp2_with fail
    refine (sameInts_same A2 A3 xs c2 c3 w3 (by omega) P3.out.sli Q3.out.sli).mono ?_
    rintro e w4 ⟨rfl, hb4⟩
    have L4 := Lib.hid (L3.out.call hb4)
    have P4 := Lib.hid (P3.out.below hb4)
    have Q4 := Lib.hid (Q3.out.below hb4)
    clear hb4 L3 P3 Q3 z3 c30 c31 hg2 hg3
    obtain ⟨z4, c40, c41, -, -⟩ := L4.out.1.two
    by_cases h1 : y < 0
    · clear HF
      go_wp2_with fail
      refine (sameInts_same A2 A3 xs c2 c3 w4 (by omega) P4.out.sli Q4.out.sli).mono ?_
      rintro e wz ⟨rfl, hbz⟩
      have Lz := Lib.hid (L4.out.call hbz)
      go_wp2_with fail
      go_ret
      exact ⟨rfl, Lz.out.2.2⟩
    have h1' : decide (y < 0) = false := by simpa using h1
    by_cases h2 : (ls.length : Int) ≤ y
    · clear HF
      go_wp2_with fail
      refine (sameInts_same A2 A3 xs c2 c3 w4 (by omega) P4.out.sli Q4.out.sli).mono ?_
      rintro e wz ⟨rfl, hbz⟩
      have Lz := Lib.hid (L4.out.call hbz)
      go_wp2_with fail
      go_ret
      exact ⟨rfl, Lz.out.2.2⟩
    have h2' : decide ((ls.length : Int) ≤ y) = false := by simpa using h2
    obtain ⟨yn, rfl⟩ : ∃ q : Nat, y = (q : Int) := ⟨y.toNat, by omega⟩
    have hyl : yn < ls.length := by omega
    obtain ⟨l, hl⟩ : ∃ l, ls[yn]? = some l := ⟨_, List.getElem?_eq_getElem hyl⟩
    obtain ⟨hx, hsame⟩ := HF.out
    have hs0 := hsame yn l rfl hl
    obtain ⟨rfl, p0, p1, p2⟩ := L4.out.link hl
    have zl := (L4.out.2.1 (by omega)).2.lt
    have CA := aff_impl n (some ⟨g1, 0, none⟩) ls c1 x (yn : Int) l.c w4.drew (by omega) L4.out.drew.2.1.isA L4.out.drew.2.1.sl
    rw [hs0] at CA
    have CH := fun W (h : Own1i W A2 g2 xs) => hasInt_any A2 xs c2 x W (by omega) h.sli
    rw [hx] at CH
    obtain ⟨la, lb, lc⟩ := l
    dsimp only at *
    clear hl hsame hs0 p0 p1 Q4 HF hx
    go_wp2_with fail
    go_region_law (first
      | (go_simp; go_at_call 28; refine (CH _ P7.out).mono ?_; rintro e w8 ⟨rfl, hb8⟩; have L8 := Lib.hid (L7.out.call hb8))
      | (go_simp; go_at_call 22; refine CA.mono ?_; rintro e w7 ⟨A5, g5, c5, rfl, hg5, ho5, hb5⟩; have L7 := Lib.hid (L4.out.drew.call hb5); have P7 := Lib.hid (P4.out.drew.below hb5); clear hb5 ho5 hg5))
    all_goals
      go_wp2_with fail
      go_ret
      exact ⟨rfl, L8.out.2.2⟩
  · go_enter Try.func10, Try.ntmps10
    go_wp2
    go_ret
    exact ⟨rfl, by (repeat (first | exact Below.refl _ _ | (refine Below.alloc ?_ (by first | exact Nat.le_refl _ | omega | (simp; done) | (simp; omega)) _) | (refine Below.setCell ?_ (by first | exact Nat.le_refl _ | omega | (simp; done) | (simp; omega)) _) | exact Below.drew ‹_›))⟩
end Go.Proofs.Ytkdcialdjnedeaa
