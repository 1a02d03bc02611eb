/-
  The walk of FnDistancesLink over this seat.
-/
import Derived.Test.YtigamnnboojiiaaDistL
import Derived.Test.YtigamnnboojiiaaDrawV
namespace Go.Proofs.Ytigamnnboojiiaa
open Go.RowKit

set_option maxRecDepth 100000 in
set_option maxHeartbeats 1600000 in
theorem distLink_walk (A : Option Addr) (len c : Nat) (f : Nat → Int) (w : World) (hlc : len ≤ c) (hc : c ≤ maxLen) (hB : Byt w w.heap.size A len f) :
   Calls Try.prog 12 #[.slice A len c] w fun e w' => e = .returned (.bool true) ∧ Below w.heap.size w w' := by
  have HB := Lib.hid hB
  clear hB
  by_cases hl : len ≤ 1048576
  · go_enter Try.func12, Try.ntmps12
    go_wp2_with fail
    refine (drawDist_any A len c f w hlc hc HB.out).mono ?_
    rintro e w1 ⟨n, ls, A1, g1, c1, x, rfl, ⟨hn0, hn1, hls, hg1, ho1, hb1⟩, hx0, hx1⟩
    have L1 := Lib.hid (show LB w w1.heap.size n ls A1 g1 c1 (w1.alloc (.cells #[.int .i64 n, .slice A1 ls.length c1] 30)) from ⟨Box.new w1 _ _, ho1.alloc _, hb1.alloc hb1.size _⟩)
    clear ho1 hb1 HB
    generalize hG : w1.heap.size = G at *
    go_wp2_with fail
    refine (dist_impl n A1 ls c1 x _ (by omega) L1.out.2.1.sl).mono ?_
    rintro e w2 ⟨A2, g2, c2, rfl, hg2, ho2, hb2⟩
    have L2 := Lib.hid (L1.out.call hb2)
    have P2 := Lib.hid ho2
    clear hb2 L1 hG ho2
    obtain ⟨z2, c20, c21, -, -⟩ := L2.out.1.two
    go_wp2_with fail
    refine (dist_spec n A1 ls c1 x w2 (by omega) (by omega) L2.out.2.1.sl).mono ?_
    rintro e w3 ⟨A3, g3, c3, rfl, hg3, ho3, hb3⟩
    have L3 := Lib.hid (L2.out.call hb3)
    have P3 := Lib.hid (P2.out.below hb3)
    have Q3 := Lib.hid ho3
    clear hb3 L2 z2 c20 c21 P2 ho3
    obtain ⟨z3, c30, c31, -, -⟩ := L3.out.1.two
    have hrs : (distL n ls x).length ≤ 8 := distL_len n ls x
    have HF : Hid (distL n ls x ≠ [] → ∀ (k : Nat) (l : Lk), ls[k]? = some l → ∃ (i j : Nat) (p q : Int), l.a = i ∧ l.b = j ∧ (distL n ls x)[i]? = some p ∧ (distL n ls x)[j]? = some q ∧ (p < 0 ↔ q < 0) ∧ p - q ≤ l.c ∧ q - p ≤ l.c ∧ (-1 ≤ p ∧ p ≤ 140) ∧ (-1 ≤ q ∧ q ≤ 140)) := Lib.hid (fun h => by
      obtain ⟨hv, h0, h1⟩ := vwB_inv (distL_some h)
      obtain ⟨m, rfl⟩ : ∃ m : Nat, n = (m : Int) := ⟨n.toNat, by omega⟩
      obtain ⟨hf, _, h8, _⟩ := gvB_fit hv
      intro k l hl
      have hb := gvB_at hv hl
      have hq := bf_link hf ⟨h0, h1⟩ (List.mem_of_getElem? hl)
      have e1 : ((l.a.toNat : Nat) : Int) = l.a := by omega
      have e2 : ((l.b.toNat : Nat) : Int) = l.b := by omega
      refine ⟨l.a.toNat, l.b.toNat, _, _, by omega, by omega, distL_at hv ⟨h0, h1⟩ (by omega), distL_at hv ⟨h0, h1⟩ (by omega), ?_⟩
      rw [e1, e2]
      exact ⟨hq.1, hq.2.1, hq.2.2, bf_bound hf ⟨h0, h1⟩ h8 _, bf_bound hf ⟨h0, h1⟩ h8 _⟩)
    generalize distL n ls x = xs at *
    go_wp2_with fail
    refine (sameInts_same A2 A3 xs c2 c3 w3 (by omega) P3.out.sli Q3.out.sli).mono ?_
    rintro e w4 ⟨rfl, hb4⟩
    have L4 := Lib.hid (L3.out.call hb4)
    have P4 := Lib.hid (P3.out.below hb4)
    have Q4 := Lib.hid (Q3.out.below hb4)
    clear hb4 L3 P3 Q3 z3 c30 c31 hg2 hg3
    obtain ⟨z4, c40, c41, -, -⟩ := L4.out.1.two
    by_cases hz : xs.length = 0
    · have hz' : ((xs.length : Int) == 0) = true := by simp [hz]
      clear HF hz
      go_wp2_with fail
      refine (sameInts_same A2 A3 xs c2 c3 w4 (by omega) P4.out.sli Q4.out.sli).mono ?_
      rintro e w5 ⟨rfl, hb5⟩
      have L5 := Lib.hid (L4.out.call hb5)
      go_wp2_with fail
      go_ret
      exact ⟨rfl, L5.out.2.2⟩
    · have hz' : ((xs.length : Int) == 0) = false := by simpa using hz
      have hxs : 0 < xs.length := by omega
      have HF := Lib.hid (HF.out (by intro e; rw [e] at hz; exact hz rfl))
      clear hz Q4
      go_wp2_with fail
      go_loopw [7] (fun i wr => ∃ k : Nat, k ≤ ls.length ∧ i = .int .i64 k ∧ LB w G n ls A1 g1 c1 wr ∧ Own1i wr A2 g2 xs) (fun i _ => ls.length - (intOf i).toNat)
      case atStart => exact ⟨0, Nat.zero_le _, rfl, L4.out, P4.out⟩
      case round =>
        obtain ⟨k, hk, rfl, hL, hP⟩ := hrel
        have L6 := Lib.hid hL
        have P6 := Lib.hid hP
        clear hL hP L4 P4 z4 c40 c41
        obtain ⟨z6, c60, c61, -, -⟩ := L6.out.1.two
        by_cases hlt : k < ls.length
        · obtain ⟨l, hl⟩ : ∃ l, ls[k]? = some l := ⟨_, List.getElem?_eq_getElem hlt⟩
          obtain ⟨i, j, p, q, ea, eb, hp, hq, hpq, h1, h2, h3, h4⟩ := HF.out k l hl
          obtain ⟨rfl, d0, d1, d2⟩ := L6.out.link hl
          rw [ea] at d0
          rw [eb] at d1
          obtain ⟨rfl, zg, hcp⟩ := P6.out.at hp
          obtain ⟨-, -, hcq⟩ := P6.out.at hq
          have hil := (List.getElem?_eq_some_iff.1 hp).1
          have hjl := (List.getElem?_eq_some_iff.1 hq).1
          have hm1 : max (p - q) (q - p) ≤ l.c := by omega
          clear hl ea eb hp hq
          go_wp2_with fail
          all_goals first
            | (go_roundw
               case rel => exact ⟨k + 1, hlt, by go_num, L6.out, P6.out⟩
               case measure => simp [intOf]; omega)
            | skip
        · have hge : ls.length ≤ k := by omega
          go_wp2_with fail
          go_ret
          exact ⟨rfl, L6.out.2.2⟩
  · go_enter Try.func12, Try.ntmps12
    go_wp2
    go_ret
    exact ⟨rfl, by (repeat (first | exact Below.refl _ _ | (refine Below.alloc ?_ (by first | exact Nat.le_refl _ | omega | (simp; done) | (simp; omega)) _) | (refine Below.setCell ?_ (by first | exact Nat.le_refl _ | omega | (simp; done) | (simp; omega)) _) | exact Below.drew ‹_›))⟩
end Go.Proofs.Ytigamnnboojiiaa
