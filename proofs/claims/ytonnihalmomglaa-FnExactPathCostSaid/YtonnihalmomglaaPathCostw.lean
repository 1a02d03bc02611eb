/-
  The walk of FnExactPathCost over this seat: whatever graph and nodes come in, the law returns true and changes nothing that was there.
-/
import Derived.Test.YtonnihalmomglaaEi
import Derived.Test.YtonnihalmomglaaC9
import Derived.Test.YtonnihalmomglaaD1
namespace Go.Proofs.Ytonnihalmomglaa
open Go.RowKit Go.Maps

set_option maxRecDepth 100000 in
set_option maxHeartbeats 1600000 in
theorem exactPathCost_walk (n : Int) (A : Option Addr) (ls : List Lk) (c : Nat) (B : Option Addr) (st : List Int) (cb : Nat) (w : World) (hnu : n ≤ 9223372036854775807) (hmax : ls.length ≤ maxLen) (hmaxb : st.length ≤ maxLen)
    (h1 : Sl w w.heap.size A ls) (h2 : Sli w w.heap.size B st) :
   Calls Try.prog 4 #[gval n A ls.length c, .slice B st.length cb] w fun e w' => e = .returned (.bool true) ∧ Below w.heap.size w w' := by
  unfold maxLen at hmax hmaxb
  have H1 := Lib.hid h1
  have H2 := Lib.hid h2
  clear h1 h2
  by_cases hlb : st.length ≤ 1048576
  · by_cases hl : ls.length ≤ 1048576
    · have hm : ls.length ≤ 2000000 := by omega
      have hmb : st.length ≤ 2000000 := by omega
      have CI := fun (A' : Option Addr) (c' : Nat) (B' : Option Addr) (cb' : Nat) (W : World) (h : Sl W W.heap.size A' ls) (h' : Sli W W.heap.size B' st) => pathCost_impl n A' ls c' B' st cb' W hm hmb h h'
      have CS := fun (A' : Option Addr) (c' : Nat) (B' : Option Addr) (cb' : Nat) (W : World) (h : Sl W W.heap.size A' ls) (h' : Sli W W.heap.size B' st) => pathCost_spec n A' ls c' B' st cb' W hm hnu hmb h h'
      generalize costP n ls st = r at *
      go_enter Try.func4, Try.ntmps4
      go_wp2_with (first
        | (go_at_call 9; go_in)
        | (go_at_call 35; go_in))
      refine (toGraph_any n A ls c _ hm ((H1.out.below (by (repeat (first | exact Below.refl _ _ | (refine Below.alloc ?_ (by first | exact Nat.le_refl _ | omega | (simp; done) | (simp; omega)) _) | (refine Below.setCell ?_ (by first | exact Nat.le_refl _ | omega | (simp; done) | (simp; omega)) _) | exact Below.drew ‹_›)))).more (by simp; omega))).mono ?_
      rintro e w1 ⟨g1, rfl, hg1, harr1, hb1⟩
      have K1 := Lib.hid (At2.below (At2.alloc (At2.new w (.int .i64 n) (.slice A ls.length c) 24) _) hb1)
      have B1 := Lib.hid (Below.trans (B := w.heap.size) (a := w) (by (repeat (first | exact Below.refl _ _ | (refine Below.alloc ?_ (by first | exact Nat.le_refl _ | omega | (simp; done) | (simp; omega)) _) | (refine Below.setCell ?_ (by first | exact Nat.le_refl _ | omega | (simp; done) | (simp; omega)) _) | exact Below.drew ‹_›))) (hb1.mono (by simp; omega)))
      have R1 := Lib.hid harr1
      clear hb1 harr1
      go_wp2_with fail
      refine (toIntS_any B st cb w1 hmb ((H2.out.below B1.out).more B1.out.size)).mono ?_
      rintro e w2 ⟨g2, rfl, hg2, harr2, hb2⟩
      have K2 := Lib.hid (K1.out.below hb2)
      have B2 := Lib.hid (B1.out.trans (hb2.mono B1.out.size))
      have R2 := Lib.hid (R1.out.below hb2 R1.out.lt)
      have S2 := Lib.hid harr2
      clear hb2 harr2 K1 B1 R1
      go_wp2_with fail
      refine (CS _ _ _ _ _ (R2.out.sl R2.out.lt) (S2.out.sli S2.out.lt)).mono ?_
      rintro e w3 ⟨rfl, hb3⟩
      have K3 := Lib.hid (K2.out.below hb3)
      have B3 := Lib.hid (B2.out.trans (hb3.mono B2.out.size))
      obtain ⟨z3, e30, e31⟩ := K3.out
      clear hb3 K2 B2 R2 S2 hg1 hg2
      go_wp2_with fail
      -- the program's copy
      refine (toGraph_any n A ls c _ hm ((H1.out.below B3.out).more B3.out.size)).mono ?_
      rintro e w4 ⟨g4, rfl, hg4, harr4, hb4⟩
      have K4 := Lib.hid (At2.alloc (K3.out.below hb4) (.cells #[.int .i64 n, .slice (some ⟨g4, 0, none⟩) ls.length ls.length] 30))
      have L4 := Lib.hid (At2.new w4 (.int .i64 n) (.slice (some ⟨g4, 0, none⟩) ls.length ls.length) 30)
      have B4 := Lib.hid ((B3.out.trans (hb4.mono B3.out.size)).alloc (Nat.le_trans B3.out.size hb4.size) (.cells #[.int .i64 n, .slice (some ⟨g4, 0, none⟩) ls.length ls.length] 30))
      have R4 := Lib.hid (harr4.below ((Below.refl w4.heap.size w4).alloc (Nat.le_refl _) (.cells #[.int .i64 n, .slice (some ⟨g4, 0, none⟩) ls.length ls.length] 30)) harr4.lt)
      clear hb4 harr4 K3 B3 z3 e30 e31 hg4
      go_wp2_with fail
      refine (toIntS_any B st cb _ hmb ((H2.out.below B4.out).more B4.out.size)).mono ?_
      rintro e w5 ⟨g5, rfl, hg5, harr5, hb5⟩
      have K5 := Lib.hid (K4.out.below hb5)
      have L5 := Lib.hid (L4.out.below hb5)
      have B5 := Lib.hid (B4.out.trans (hb5.mono B4.out.size))
      have R5 := Lib.hid (R4.out.below hb5 R4.out.lt)
      have S5 := Lib.hid harr5
      obtain ⟨z5, f50, f51⟩ := L5.out
      clear hb5 harr5 K4 L4 B4 R4
      go_wp2_with fail
      refine (CI _ _ _ _ _ (R5.out.sl R5.out.lt) (S5.out.sli S5.out.lt)).mono ?_
      rintro e w6 ⟨rfl, hb6⟩
      have K6 := Lib.hid (K5.out.below hb6)
      have L6 := Lib.hid (L5.out.below hb6)
      have B6 := Lib.hid (B5.out.trans (hb6.mono B5.out.size))
      have R6 := Lib.hid (R5.out.below hb6 R5.out.lt)
      have S6 := Lib.hid (S5.out.below hb6 S5.out.lt)
      obtain ⟨z60, e60, e61⟩ := K6.out
      obtain ⟨z61, f60, f61⟩ := L6.out
      clear hb6 K5 L5 B5 R5 S5 z5 f50 f51 hg5
      go_wp2_with fail
      go_region_with (first
        | (go_at_call 11; refine (toGraph_any n A ls c _ hm ((H1.out.below B6.out.drew).more B6.out.size)).mono ?_; rintro e w7 ⟨g7, rfl, hg7, harr7, hb7⟩; have K7 := Lib.hid (At2.below (w := w6.drew) K6.out hb7); have L7 := Lib.hid (At2.below (w := w6.drew) L6.out hb7); obtain ⟨z71, f70, f71⟩ := L7.out; have A7 := Lib.hid (harr7.sl harr7.lt); have R7 := Lib.hid (R6.out.below (w := w6.drew) hb7 R6.out.lt); have S7 := Lib.hid (S6.out.below (w := w6.drew) hb7 S6.out.lt); have B7 := Lib.hid (B6.out.drew.trans (hb7.mono B6.out.size)); clear harr7 hb7 hg7)
        | (go_at_call 14; refine (eqGraph_same n _ _ ls _ _ _ hm (R7.out.sl R7.out.lt) A7.out).mono ?_; rintro e w8 ⟨rfl, hb8⟩; have S8 := Lib.hid (S7.out.below hb8 S7.out.lt); have B8 := Lib.hid (B7.out.trans (hb8.mono B7.out.size)); clear hb8))
      all_goals
        clear K6 L6 B6 R6 S6 e60 e61 f60 f61 z60 z61 K7 L7 R7 S7 B7 A7 f70 f71 z71
        go_wp2_with fail
        refine (toIntS_any B st cb _ hmb ((H2.out.below B8.out).more B8.out.size)).mono ?_
        rintro e w9 ⟨g9, rfl, hg9, harr9, hb9⟩
        have B9 := Lib.hid (B8.out.trans (hb9.mono B8.out.size))
        have S9 := Lib.hid (S8.out.below hb9 S8.out.lt)
        have T9 := Lib.hid harr9
        clear hb9 harr9 B8 S8
        go_wp2_with fail
        refine (eqIntS_same _ _ st _ _ _ hmb (S9.out.sli S9.out.lt) (T9.out.sli T9.out.lt)).mono ?_
        rintro e w10 ⟨rfl, hb10⟩
        have B10 := Lib.hid (B9.out.trans (hb10.mono B9.out.size))
        clear hb10
        go_wp2_with fail
        go_ret
        exact ⟨rfl, B10.out⟩
    · go_enter Try.func4, Try.ntmps4
      go_wp2
      go_ret
      exact ⟨rfl, by (repeat (first | exact Below.refl _ _ | (refine Below.alloc ?_ (by first | exact Nat.le_refl _ | omega | (simp; done) | (simp; omega)) _) | (refine Below.setCell ?_ (by first | exact Nat.le_refl _ | omega | (simp; done) | (simp; omega)) _) | exact Below.drew ‹_›))⟩
  · go_enter Try.func4, Try.ntmps4
    go_wp2
    go_ret
    exact ⟨rfl, by (repeat (first | exact Below.refl _ _ | (refine Below.alloc ?_ (by first | exact Nat.le_refl _ | omega | (simp; done) | (simp; omega)) _) | (refine Below.setCell ?_ (by first | exact Nat.le_refl _ | omega | (simp; done) | (simp; omega)) _) | exact Below.drew ‹_›))⟩

end Go.Proofs.Ytonnihalmomglaa
