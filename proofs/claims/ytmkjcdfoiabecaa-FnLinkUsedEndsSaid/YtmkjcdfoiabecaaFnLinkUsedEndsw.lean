/-
  The walk of FnLinkUsedEnds over this seat.
-/
import Derived.Test.YtmkjcdfoiabecaaUs
import Derived.Test.YtmkjcdfoiabecaaA5
import Derived.Test.YtmkjcdfoiabecaaA8
namespace Go.Proofs.Ytmkjcdfoiabecaa
open Go.RowKit

set_option maxRecDepth 100000 in
set_option maxHeartbeats 1600000 in
theorem usedEnds_walk (A : Option Addr) (len c : Nat) (Am : Option Addr) (len' c' : Nat) (f f' : Nat → Int) (w : World) (hlc : len ≤ c) (hc : c ≤ maxLen) (hB : Byt w w.heap.size A len f) (_hlc' : len' ≤ c') (_hc' : c' ≤ maxLen) (_hB' : Byt w w.heap.size Am len' f') :
   Calls Try.prog 11 #[.slice A len c, .slice Am len' c'] w fun e w' => e = .returned (.bool true) ∧ Below w.heap.size w w' := by
  have HB := Lib.hid hB
  clear hB _hB'
  by_cases hl : len ≤ 1048576 ∧ len' ≤ 1048576
  · obtain ⟨hl, hl'⟩ := hl
    go_enter Try.func11, Try.ntmps11
    go_wp2_with fail
    refine (drawDist_any A len c f w hlc hc HB.out).mono ?_
    rintro e w1 ⟨n, ls, A1, g1, c1, x, rfl, ⟨hn0, hn1, hls, hg1, ho1, hb1⟩, hx0, hx1⟩
    have L1 := Lib.hid (show LB w w1.heap.size n ls A1 g1 c1 (w1.alloc (.cells #[.int .i64 n, .slice A1 ls.length c1] 30)) from ⟨Box.new w1 _ _, ho1.alloc _, hb1.alloc hb1.size _⟩)
    clear ho1 hb1 HB
    generalize hG : w1.heap.size = G at *
    go_wp2_with fail
    refine (dist_impl n A1 ls c1 x _ (by omega) L1.out.2.1.sl).mono ?_
    rintro e w2 ⟨A2, g2, c2, rfl, hg2, ho2, hb2⟩
    have L2 := Lib.hid (L1.out.call hb2)
    have P2 := Lib.hid ho2
    clear hb2 L1 hG ho2
    obtain ⟨z2, c20, c21, -, -⟩ := L2.out.1.two
    go_wp2_with fail
    refine (dist_spec n A1 ls c1 x w2 (by omega) (by omega) L2.out.2.1.sl).mono ?_
    rintro e w3 ⟨A3, g3, c3, rfl, hg3, ho3, hb3⟩
    have L3 := Lib.hid (L2.out.call hb3)
    have P3 := Lib.hid (P2.out.below hb3)
    have Q3 := Lib.hid ho3
    clear hb3 L2 z2 c20 c21 P2 ho3
    obtain ⟨z3, c30, c31, -, -⟩ := L3.out.1.two
    have hrs : (distL n ls x).length ≤ 8 := distL_len n ls x
    have HF : Hid (distL n ls x ≠ [] → gvB n ls = true) := Lib.hid (fun h => (vwB_inv (distL_some h)).1)
    generalize distL n ls x = xs at *
    go_wp2_with fail
    refine (sameInts_same A2 A3 xs c2 c3 w3 (by omega) P3.out.sli Q3.out.sli).mono ?_
    rintro e w4 ⟨rfl, hb4⟩
    have L4 := Lib.hid (L3.out.call hb4)
    have P4 := Lib.hid (P3.out.below hb4)
    have Q4 := Lib.hid (Q3.out.below hb4)
    clear hb4 L3 P3 Q3 z3 c30 c31 hg2 hg3
    obtain ⟨z4, c40, c41, -, -⟩ := L4.out.1.two
    by_cases hz : xs.length = 0
    · have hz' : ((xs.length : Int) == 0) = true := by simp [hz]
      clear HF hz
      go_wp2_with fail
      refine (sameInts_same A2 A3 xs c2 c3 w4 (by omega) P4.out.sli Q4.out.sli).mono ?_
      rintro e w5 ⟨rfl, hb5⟩
      have L5 := Lib.hid (L4.out.call hb5)
      go_wp2_with fail
      go_ret
      exact ⟨rfl, L5.out.2.2⟩
    · have hz' : ((xs.length : Int) == 0) = false := by simpa using hz
      have HG := Lib.hid (HF.out (by intro e; rw [e] at hz; exact hz rfl))
      clear hz HF
      by_cases hlz : ls.length = 0
      · have hlz' : ((ls.length : Int) == 0) = true := by simp [hlz]
        clear hlz
        go_wp2_with fail
        refine (sameInts_same A2 A3 xs c2 c3 w4 (by omega) P4.out.sli Q4.out.sli).mono ?_
        rintro e w5 ⟨rfl, hb5⟩
        have L5 := Lib.hid (L4.out.call hb5)
        go_wp2_with fail
        go_ret
        exact ⟨rfl, L5.out.2.2⟩
      · have hlz' : ((ls.length : Int) == 0) = false := by simpa using hlz
        have hq : Int.tmod (len' : Int) (ls.length : Int) = ((len' % ls.length : Nat) : Int) := by rw [Int.tmod_eq_emod_of_nonneg (by omega)]; omega
        have hql : len' % ls.length < ls.length := Nat.mod_lt _ (by omega)
        have hne : ls ≠ [] := by intro e; rw [e] at hlz; simp at hlz
        generalize len' % ls.length = q at *
        obtain ⟨l, hl⟩ : ∃ l, ls[q]? = some l := ⟨_, List.getElem?_eq_getElem hql⟩
        have hat := gvB_at HG.out hl
        have hends := usedB_ends HG.out hl
        obtain ⟨rfl, d0, d1, d2⟩ := L4.out.link hl
        obtain ⟨la, lb, lc⟩ := l
        dsimp only at *
        obtain ⟨m, rfl⟩ : ∃ k : Nat, n = (k : Int) := ⟨n.toNat, by omega⟩
        obtain ⟨a, rfl⟩ : ∃ k : Nat, la = (k : Int) := ⟨la.toNat, by omega⟩
        obtain ⟨b, rfl⟩ : ∃ k : Nat, lb = (k : Int) := ⟨lb.toNat, by omega⟩
        have L5 := Lib.hid (L4.out.alloc (.cells #[.int .i64 (a : Int), .int .i64 (b : Int), .int .i64 lc] 46))
        have K5 := Lib.hid (Box.new w4 46 #[.int .i64 (a : Int), .int .i64 (b : Int), .int .i64 lc])
        go_upto_region 10 with fail
        clear d0 d1 d2 z4 c40 c41 L4 P4 Q4 hl
        generalize w4.alloc (.cells #[.int .i64 (a : Int), .int .i64 (b : Int), .int .i64 lc] 46) = W5 at *
        generalize w4.heap.size = bx at *
        obtain ⟨z5, c50, c51, -, -⟩ := L5.out.1.two
        have k50 := K5.out.cell 0
        have k51 := K5.out.cell 1
        have k52 := K5.out.cell 2
        have zk5 := K5.out.lt
        have HS : ∀ X : Ext W5, Sl X.w X.w.heap.size (some ⟨g1, 0, none⟩) ls := fun X => (L5.out.2.1.sl.below X.below).more X.below.size
        have CU : ∀ X : Ext W5, Calls Try.prog 25 #[gval (m : Int) (some ⟨g1, 0, none⟩) ls.length c1, .int .i64 (a : Int), .int .i64 (b : Int), .int .i64 (q : Int)] X.w fun e w' => e = .returned (.bool (decide (bf (m : Int) ls (a : Int) (b : Int) = lc))) ∧ Below X.w.heap.size X.w w' := fun X => by
          have := used_impl (m : Int) (some ⟨g1, 0, none⟩) ls c1 (a : Int) (b : Int) (q : Int) X.w (by omega) (HS X)
          rwa [hends] at this
        have CD : ∀ X : Ext W5, Calls Try.prog 38 #[gval (m : Int) (some ⟨g1, 0, none⟩) ls.length c1, .int .i64 (a : Int), .int .i64 (b : Int)] X.w fun e w' => e = .returned (.int .i64 (bf (m : Int) ls (a : Int) (b : Int))) ∧ Below X.w.heap.size X.w w' := fun X =>
          dist_any m (some ⟨g1, 0, none⟩) ls c1 (a : Int) b X.w (by omega) HG.out ⟨by omega, by omega⟩ (by omega) (HS X)
        clear hends HS hat
        generalize bf (m : Int) ls (a : Int) (b : Int) = d at *
        have hX := fun (x : Ext W5) (bb o : Nat) (h : bb < W5.heap.size) => x.cell bb o h
        go_wp2_with fail
        refine wp_region_ext (by kernel_rfl) (by kernel_rfl) ?_
        repeat (go_big_quiet_step (first | (go_at_call 25; exact Calls.ext_of (CU _)) | (go_at_call 38; exact Calls.ext_of (CD _))))
        (refine wpQuiet_nil ?_); (rintro _ ⟨X, rfl⟩); (have hw1 := X.below); (generalize X.w = w1 at *); (clear X)
        clear hX
        have L6 := Lib.hid (L5.out.call hw1)
        go_wp2_with fail
        go_ret
        exact ⟨ret_bool (by simp only [beq_iff_eq]; rw [Bool.eq_iff_iff]; simp only [beq_iff_eq, decide_eq_true_eq]), L6.out.2.2⟩
  · by_cases hl1 : len ≤ 1048576
    · have hl2 : 1048576 < len' := by omega
      clear hl
      go_enter Try.func11, Try.ntmps11
      go_wp2
      go_ret
      exact ⟨rfl, by (repeat (first | exact Below.refl _ _ | (refine Below.alloc ?_ (by first | exact Nat.le_refl _ | omega | (simp; done) | (simp; omega)) _) | (refine Below.setCell ?_ (by first | exact Nat.le_refl _ | omega | (simp; done) | (simp; omega)) _) | exact Below.drew ‹_›))⟩
    · clear hl
      go_enter Try.func11, Try.ntmps11
      go_wp2
      go_ret
      exact ⟨rfl, by (repeat (first | exact Below.refl _ _ | (refine Below.alloc ?_ (by first | exact Nat.le_refl _ | omega | (simp; done) | (simp; omega)) _) | (refine Below.setCell ?_ (by first | exact Nat.le_refl _ | omega | (simp; done) | (simp; omega)) _) | exact Below.drew ‹_›))⟩
end Go.Proofs.Ytmkjcdfoiabecaa
