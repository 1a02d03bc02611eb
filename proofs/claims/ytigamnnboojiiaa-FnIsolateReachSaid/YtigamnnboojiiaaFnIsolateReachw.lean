/-
  The walk of FnIsolateReach over this seat.
-/
import Derived.Test.YtigamnnboojiiaaDistL
import Derived.Test.YtigamnnboojiiaaDrawV
import Derived.Test.YtigamnnboojiiaaIsoLaww
namespace Go.Proofs.Ytigamnnboojiiaa
open Go.RowKit

theorem wk_stay {ls : List Lk} {s : Int} (h : ∀ l ∈ ls, touchB l s = false) {v c : Int} {k : Nat} (hw : Wk ls s v c k) : v = s := by
  induction hw with
  | nil => rfl
  | snoc _ ha ih =>
    exfalso
    obtain ⟨l, hl, hh, _⟩ := ha
    have := h l hl
    unfold touchB at this
    simp at this
    omega
theorem asc_one {xs : List Int} {x : Int} (ha : xs.Pairwise (· < ·)) (h : ∀ y, y ∈ xs ↔ y = x) : xs = [x] := by
  cases xs with
  | nil => have := (h x).2 rfl; simp at this
  | cons a t =>
    have e := (h a).1 (by simp)
    subst e
    cases t with
    | nil => rfl
    | cons b t =>
      have := (h b).1 (by simp)
      have h2 := (List.pairwise_cons.1 ha).1 b (by simp)
      omega
theorem reach_iso {n : Nat} {ls : List Lk} {s : Int} (hg : gvB (n : Int) ls = true) (hs : 0 ≤ s ∧ s < (n : Int)) (h : ∀ l ∈ ls, touchB l s = false) : reachL (n : Int) ls s = [s] := by
  obtain ⟨hf, _⟩ := gvB_fit hg
  refine asc_one (reachL_asc _ _ _) fun y => ?_
  rw [reach_mem (vwB_one hg hs) hf hs]
  constructor
  · rintro ⟨hy, h0⟩
    obtain ⟨k, hk⟩ := bf_walk hf hs h0
    exact wk_stay h hk
  · rintro rfl
    exact ⟨hs, by rw [bf_self hf hs]; omega⟩
theorem iso_both2 (n : Int) (ls : List Lk) (x : Int) (hm : ls.length ≤ 2000000) (hnu : n ≤ 9223372036854775807) :
    ∃ (m : Int) (rs : List Lk) (ok : Bool), rs.length ≤ ls.length ∧
      (ok = true → m = n ∧ gvB n rs = true ∧ (0 ≤ x ∧ x < n) ∧ ∀ l ∈ rs, touchB l x = false) ∧
      (∀ (A : Option Addr) (c : Nat) (w : World), Sl w w.heap.size A ls → Calls Try.prog 30 #[gval n A ls.length c, .int .i64 x] w (GRes m rs ok w)) ∧
      (∀ (A : Option Addr) (c : Nat) (w : World), Sl w w.heap.size A ls → Calls Try.prog 31 #[gval n A ls.length c, .int .i64 x] w (GRes m rs ok w)) := by
  by_cases h : isolateOk n ls x = true
  · refine ⟨n, keepTo (fun _ l => !decide (l.a = x) && !decide (l.b = x)) ls ls.length, true, keepTo_len _ _ _, fun _ => ?_, fun A c w hs => ?_, fun A c w hs => ?_⟩
    · unfold isolateOk inB at h
      simp only [Bool.and_eq_true, decide_eq_true_eq] at h
      rw [keepTo_all]
      refine ⟨rfl, gvB_filter _ h.1, by omega, fun l hl => ?_⟩
      have := (List.mem_filter.1 hl).2
      unfold touchB
      simpa using this
    · have := isolate_implA n A ls c x w hm hs
      rwa [if_pos h] at this
    · have := isolate_specA n A ls c x w hm hnu hs
      rwa [if_pos h] at this
  · refine ⟨0, [], false, Nat.zero_le _, (fun h => by cases h), fun A c w hs => ?_, fun A c w hs => ?_⟩
    · have := isolate_implA n A ls c x w hm hs
      rwa [if_neg h] at this
    · have := isolate_specA n A ls c x w hm hnu hs
      rwa [if_neg h] at this
theorem Own1i.one (w : World) (x : Int) : Own1i (w.alloc (.cells #[.int .i64 x] 3)) (some ⟨w.heap.size, 0, none⟩) w.heap.size [x] := fun _ =>
  ⟨rfl, _, Box.new w 3 #[.int .i64 x], fun k y hk => by
    have hl := (List.getElem?_eq_some_iff.1 hk).1
    obtain rfl : k = 0 := by simpa using hl
    simpa using hk⟩

set_option maxRecDepth 100000 in
set_option maxHeartbeats 1600000 in
theorem isoReach_walk (A : Option Addr) (len c : Nat) (f : Nat → Int) (w : World) (hlc : len ≤ c) (hc : c ≤ maxLen) (hB : Byt w w.heap.size A len f) :
   Calls Try.prog 7 #[.slice A len c] w fun e w' => e = .returned (.bool true) ∧ Below w.heap.size w w' := by
  have HB := Lib.hid hB
  clear hB
  by_cases hl : len ≤ 1048576
  · go_enter Try.func7, Try.ntmps7
    go_wp2_with fail
    refine (drawIso_any A len c f w hlc hc HB.out).mono ?_
    rintro e w1 ⟨n, ls, A1, g1, c1, x, rfl, ⟨hn0, hn1, hls, hg1, ho1, hb1⟩, hx0, hx1⟩
    have L1 := Lib.hid (show LB w w1.heap.size n ls A1 g1 c1 (w1.alloc (.cells #[.int .i64 n, .slice A1 ls.length c1] 30)) from ⟨Box.new w1 _ _, ho1.alloc _, hb1.alloc hb1.size _⟩)
    clear ho1 hb1 HB
    obtain ⟨m, rs, ok, hrs, hok, ci, cs⟩ := iso_both2 n ls x (by omega) (by omega)
    have CI := Lib.hid ci
    have CS := Lib.hid cs
    have OK := Lib.hid hok
    clear ci cs hok
    generalize hG : w1.heap.size = G at *
    go_wp2_with fail
    refine (CI.out A1 c1 _ L1.out.2.1.sl).mono ?_
    rintro e w2 ⟨A2, g2, c2, rfl, hg2, ho2, hb2⟩
    have L2 := Lib.hid (L1.out.call hb2)
    have L2' := Lib.hid (L2.out.alloc (.cells #[.int .i64 m, .slice A2 rs.length c2] 30))
    have P2 := Lib.hid (show LB w w2.heap.size m rs A2 g2 c2 (w2.alloc (.cells #[.int .i64 m, .slice A2 rs.length c2] 30)) from ⟨Box.new w2 _ _, ho2.alloc _, L2'.out.2.2⟩)
    obtain ⟨z2, c20, c21, -, -⟩ := L2.out.1.two
    clear hb2 ho2 L1 hG L2
    generalize hO : w2.heap.size = O at *
    go_wp2_with fail
    refine (CS.out A1 c1 _ L2'.out.2.1.sl).mono ?_
    rintro e w3 ⟨A3, g3, c3, rfl, hg3, ho3, hb3⟩
    have L3 := Lib.hid (L2'.out.call hb3)
    have P3 := Lib.hid (P2.out.call hb3)
    obtain ⟨z3, c30, c31, -, -⟩ := L3.out.1.two
    obtain ⟨y3, d30, d31, -, -⟩ := P3.out.1.two
    have L3' := Lib.hid (L3.out.alloc (.cells #[.int .i64 m, .slice A3 rs.length c3] 30))
    have P3' := Lib.hid (P3.out.alloc (.cells #[.int .i64 m, .slice A3 rs.length c3] 30))
    have Q3 := Lib.hid (show LB w w3.heap.size m rs A3 g3 c3 (w3.alloc (.cells #[.int .i64 m, .slice A3 rs.length c3] 30)) from ⟨Box.new w3 _ _, ho3.alloc _, L3'.out.2.2⟩)
    clear hb3 ho3 L2' P2 hO CI CS z2 c20 c21 L3 P3
    generalize hQ : w3.heap.size = Wt at *
    go_wp2_with fail
    refine (sameGraph_same m A2 A3 rs c2 c3 _ (by omega) P3'.out.2.1.sl Q3.out.2.1.sl).mono ?_
    rintro e w4 ⟨rfl, hb4⟩
    have L4 := Lib.hid (L3'.out.call hb4)
    have P4 := Lib.hid (P3'.out.call hb4)
    have Q4 := Lib.hid (Q3.out.call hb4)
    clear hb4 L3' P3' Q3 hQ z3 c30 c31 y3 d30 d31
    obtain ⟨z4, c40, c41, -, -⟩ := L4.out.1.two
    obtain ⟨y4, d40, d41, -, -⟩ := P4.out.1.two
    obtain ⟨x4, e40, e41, -, -⟩ := Q4.out.1.two
    cases ok with
    | false =>
      go_wp2_with fail
      refine (sameGraph_same m A2 A3 rs c2 c3 _ (by omega) P4.out.2.1.sl Q4.out.2.1.sl).mono ?_
      rintro e w5 ⟨rfl, hb5⟩
      have L5 := Lib.hid (L4.out.call hb5)
      go_wp2_with fail
      go_ret
      exact ⟨rfl, L5.out.2.2⟩
    | true =>
      obtain ⟨rfl, hgv, hxr, hno⟩ := OK.out rfl
      obtain ⟨m, rfl⟩ : ∃ q : Nat, m = (q : Int) := ⟨m.toNat, by omega⟩
      have CR := reach_impl m A2 rs c2 x _ (by omega) P4.out.2.1.sl
      rw [reach_iso hgv hxr hno] at CR
      clear OK hgv hno
      go_wp2_with fail
      refine CR.mono ?_
      rintro e w5 ⟨A5, g5, c5, rfl, hg5, ho5, hb5⟩
      have L5 := Lib.hid (L4.out.call hb5)
      have L5' := Lib.hid (L5.out.alloc (.cells #[.int .i64 x] 3))
      have R5 := Lib.hid (ho5.alloc (.cells #[.int .i64 x] 3))
      have Q5 := Lib.hid (Own1i.one w5 x)
      clear hb5 ho5 hg5 CR
      go_wp2_with fail
      refine (sameInts_same A5 (some ⟨w5.heap.size, 0, none⟩) [x] c5 1 _ (by simp) R5.out.sli Q5.out.sli).mono ?_
      rintro e w6 ⟨rfl, hb6⟩
      have L6 := Lib.hid (L5'.out.call hb6)
      go_wp2_with fail
      go_ret
      exact ⟨rfl, L6.out.2.2⟩
  · go_enter Try.func7, Try.ntmps7
    go_wp2
    go_ret
    exact ⟨rfl, by (repeat (first | exact Below.refl _ _ | (refine Below.alloc ?_ (by first | exact Nat.le_refl _ | omega | (simp; done) | (simp; omega)) _) | (refine Below.setCell ?_ (by first | exact Nat.le_refl _ | omega | (simp; done) | (simp; omega)) _) | exact Below.drew ‹_›))⟩
end Go.Proofs.Ytigamnnboojiiaa
