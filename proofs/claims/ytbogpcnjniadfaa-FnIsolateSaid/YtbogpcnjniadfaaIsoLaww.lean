/-
  The walk of FnIsolate over this seat.
-/
import Derived.Test.YtbogpcnjniadfaaIsoM
import Derived.Test.YtbogpcnjniadfaaSameG
namespace Go.Proofs.Ytbogpcnjniadfaa
open Go.RowKit

theorem iso_both (n : Int) (ls : List Lk) (x : Int) (hm : ls.length ≤ 2000000) (hnu : n ≤ 9223372036854775807) :
    ∃ (m : Int) (rs : List Lk) (ok : Bool), rs.length ≤ ls.length ∧
      (ok = true → gvB n ls = true ∧ m = n ∧ rs = ls.filter (fun l => !decide (l.a = x) && !decide (l.b = x))) ∧
      (∀ (A : Option Addr) (c : Nat) (w : World), Sl w w.heap.size A ls → Calls Try.prog 32 #[gval n A ls.length c, .int .i64 x] w (GRes m rs ok w)) ∧
      (∀ (A : Option Addr) (c : Nat) (w : World), Sl w w.heap.size A ls → Calls Try.prog 31 #[gval n A ls.length c, .int .i64 x] w (GRes m rs ok w)) := by
  by_cases h : isolateOk n ls x = true
  · refine ⟨n, keepTo (fun _ l => !decide (l.a = x) && !decide (l.b = x)) ls ls.length, true, keepTo_len _ _ _, fun _ => ⟨?_, rfl, keepTo_all _ _⟩, fun A c w hs => ?_, fun A c w hs => ?_⟩
    · unfold isolateOk at h
      simp only [Bool.and_eq_true] at h
      exact h.1
    · have := isolate_implA n A ls c x w hm hs
      rwa [if_pos h] at this
    · have := isolate_specA n A ls c x w hm hnu hs
      rwa [if_pos h] at this
  · refine ⟨0, [], false, Nat.zero_le _, (fun h => by cases h), fun A c w hs => ?_, fun A c w hs => ?_⟩
    · have := isolate_implA n A ls c x w hm hs
      rwa [if_neg h] at this
    · have := isolate_specA n A ls c x w hm hnu hs
      rwa [if_neg h] at this

theorem keep_next {T : Lk → Bool} {ls : List Lk} {k : Nat} {l : Lk} (h : ls[k]? = some l) : ((ls.take (k + 1)).filter T).length = ((ls.take k).filter T).length + (if T l = true then 1 else 0) := by
  rw [List.take_add_one, List.filter_append, h]
  cases ht : T l <;> simp [ht]

set_option maxRecDepth 100000 in
set_option maxHeartbeats 1600000 in
theorem iso_walk (A : Option Addr) (len c : Nat) (f : Nat → Int) (w : World) (hlc : len ≤ c) (hc : c ≤ maxLen) (hB : Byt w w.heap.size A len f) :
   Calls Try.prog 13 #[.slice A len c] w fun e w' => e = .returned (.bool true) ∧ Below w.heap.size w w' := by
  have HB := Lib.hid hB
  clear hB
  by_cases hl : len ≤ 1048576
  · go_enter Try.func13, Try.ntmps13
    go_wp2_with fail
    refine (drawIso_any A len c f w hlc hc HB.out).mono ?_
    rintro e w1 ⟨n, ls, A1, g1, c1, x, rfl, ⟨hn0, hn1, hls, hg1, ho1, hb1⟩, hx0, hx1⟩
    have L1 := Lib.hid (show LB w w1.heap.size n ls A1 g1 c1 (w1.alloc (.cells #[.int .i64 n, .slice A1 ls.length c1] 29)) from ⟨Box.new w1 _ _, ho1.alloc _, hb1.alloc hb1.size _⟩)
    clear ho1 hb1 HB
    obtain ⟨m, rs, ok, hrs, hok, ci, cs⟩ := iso_both n ls x (by omega) (by omega)
    have CI := Lib.hid ci
    have CS := Lib.hid cs
    have OK := Lib.hid hok
    clear ci cs hok
    generalize hG : w1.heap.size = G at *
    go_wp2_with fail
    refine (CI.out A1 c1 _ L1.out.2.1.sl).mono ?_
    rintro e w2 ⟨A2, g2, c2, rfl, hg2, ho2, hb2⟩
    have L2 := Lib.hid (L1.out.call hb2)
    have L2' := Lib.hid (L2.out.alloc (.cells #[.int .i64 m, .slice A2 rs.length c2] 29))
    have P2 := Lib.hid (show LB w w2.heap.size m rs A2 g2 c2 (w2.alloc (.cells #[.int .i64 m, .slice A2 rs.length c2] 29)) from ⟨Box.new w2 _ _, ho2.alloc _, L2'.out.2.2⟩)
    obtain ⟨z2, c20, c21, -, -⟩ := L2.out.1.two
    clear hb2 ho2 L1 hG L2
    generalize hO : w2.heap.size = O at *
    go_wp2_with fail
    refine (CS.out A1 c1 _ L2'.out.2.1.sl).mono ?_
    rintro e w3 ⟨A3, g3, c3, rfl, hg3, ho3, hb3⟩
    have L3 := Lib.hid (L2'.out.call hb3)
    have P3 := Lib.hid (P2.out.call hb3)
    obtain ⟨z3, c30, c31, -, -⟩ := L3.out.1.two
    obtain ⟨y3, d30, d31, -, -⟩ := P3.out.1.two
    have L3' := Lib.hid (L3.out.alloc (.cells #[.int .i64 m, .slice A3 rs.length c3] 29))
    have P3' := Lib.hid (P3.out.alloc (.cells #[.int .i64 m, .slice A3 rs.length c3] 29))
    have Q3 := Lib.hid (show LB w w3.heap.size m rs A3 g3 c3 (w3.alloc (.cells #[.int .i64 m, .slice A3 rs.length c3] 29)) from ⟨Box.new w3 _ _, ho3.alloc _, L3'.out.2.2⟩)
    clear hb3 ho3 L2' P2 hO CI CS z2 c20 c21 L3 P3
    generalize hQ : w3.heap.size = Wt at *
    go_wp2_with fail
    refine (sameGraph_same m A2 A3 rs c2 c3 _ (by omega) P3'.out.2.1.sl Q3.out.2.1.sl).mono ?_
    rintro e w4 ⟨rfl, hb4⟩
    have L4 := Lib.hid (L3'.out.call hb4)
    have P4 := Lib.hid (P3'.out.call hb4)
    have Q4 := Lib.hid (Q3.out.call hb4)
    clear hb4 L3' P3' Q3 hQ z3 c30 c31 y3 d30 d31
    obtain ⟨z4, c40, c41, -, -⟩ := L4.out.1.two
    obtain ⟨y4, d40, d41, -, -⟩ := P4.out.1.two
    obtain ⟨x4, e40, e41, -, -⟩ := Q4.out.1.two
    cases ok with
    | false =>
      go_wp2_with fail
      refine (sameGraph_same m A2 A3 rs c2 c3 _ (by omega) P4.out.2.1.sl Q4.out.2.1.sl).mono ?_
      rintro e w5 ⟨rfl, hb5⟩
      have L5 := Lib.hid (L4.out.call hb5)
      go_wp2_with fail
      go_ret
      exact ⟨rfl, L5.out.2.2⟩
    | true =>
      obtain ⟨hv, rfl, hrsf⟩ := OK.out rfl
      have HV := Lib.hid hv
      have HF := Lib.hid hrsf
      clear OK hv hrsf
      go_wp2_with fail
      go_loopw [9, 10] (fun q i wr => ∃ k : Nat, k ≤ ls.length ∧ q = .int .i64 (((ls.take k).filter (fun l => !decide (l.a = x) && !decide (l.b = x))).length : Nat) ∧ i = .int .i64 k ∧ LB w G m ls A1 g1 c1 wr ∧ LB w O m rs A2 g2 c2 wr) (fun _ i _ => ls.length - (intOf i).toNat)
      case atStart => exact ⟨0, Nat.zero_le _, by simp, rfl, L4.out, P4.out⟩
      case round =>
        clear z4 c40 c41 y4 d40 d41 x4 e40 e41 Q4
        obtain ⟨k, hk, rfl, rfl, hL, hP⟩ := hrel
        have L6 := Lib.hid hL
        have P6 := Lib.hid hP
        clear hL hP L4 P4
        obtain ⟨z6, c60, c61, -, -⟩ := L6.out.1.two
        obtain ⟨y6, d60, d61, -, -⟩ := P6.out.1.two
        by_cases hlt : k < ls.length
        · obtain ⟨l, hl⟩ : ∃ l, ls[k]? = some l := ⟨_, List.getElem?_eq_getElem hlt⟩
          obtain ⟨eA, p0, p1, p2⟩ := L6.out.link hl
          subst eA
          have HN := Lib.hid (keep_next (T := fun l => !decide (l.a = x) && !decide (l.b = x)) hl)
          have HM := Lib.hid (List.mem_of_getElem? hl)
          have hb : ((ls.take k).filter (fun l => !decide (l.a = x) && !decide (l.b = x))).length ≤ 16 := Nat.le_trans (List.length_filter_le _ _) (by simp; omega)
          clear hl
          generalize hq : ((ls.take k).filter (fun l => !decide (l.a = x) && !decide (l.b = x))).length = q at *
          have HQ := Lib.hid hq
          clear hq
          by_cases h1 : l.a = x
          · have h1' : (l.a != x) = false := by simp [h1]
            go_wp2_with fail
            go_roundw
            case rel => exact ⟨k + 1, hlt, by rw [HN.out]; simp [h1], by go_num, L6.out, P6.out⟩
            case measure => simp [intOf]; omega
          · have h1' : (l.a != x) = true := by simp [h1]
            by_cases h2 : l.b = x
            · have h2' : (l.b != x) = false := by simp [h2]
              go_wp2_with fail
              go_roundw
              case rel => exact ⟨k + 1, hlt, by rw [HN.out]; simp [h2], by go_num, L6.out, P6.out⟩
              case measure => simp [intOf]; omega
            · have h2' : (l.b != x) = true := by simp [h2]
              have hpos : 0 ≤ linkI m rs l.a l.b := by
                rw [HF.out]
                exact linkI_mem (gvB_filter _ HV.out) (List.mem_filter.2 ⟨HM.out, by simp [h1, h2]⟩)
              have L7 := Lib.hid L6.out.drew
              have P7 := Lib.hid P6.out.drew
              have lm := link_impl m A2 rs c2 l.a l.b wr.drew (by omega) P7.out.2.1.sl
              generalize linkI m rs l.a l.b = o at lm hpos
              have LM := Lib.hid lm
              clear lm
              go_wp2_with fail
              go_region_law (go_simp; go_at_call 21; refine LM.out.mono ?_; rintro e w8 ⟨rfl, hb8⟩; have L8 := Lib.hid (L7.out.call hb8); have P8 := Lib.hid (P7.out.call hb8); clear hb8)
              all_goals
                go_wp2_with fail
                go_roundw
                case rel => exact ⟨k + 1, hlt, by rw [HN.out]; simp [h1, h2], by go_num, L8.out, P8.out⟩
                case measure => simp [intOf]; omega
        · obtain rfl : k = ls.length := by omega
          have hcount : ((ls.take ls.length).filter (fun l => !decide (l.a = x) && !decide (l.b = x))).length = rs.length := by rw [List.take_length, HF.out]
          rw [hcount]
          have hnone : nbI m rs x = [] := nbI_none (fun l hl => by
            rw [HF.out] at hl
            have := (List.mem_filter.1 hl).2
            unfold touchB
            simpa using this)
          go_wp2_with fail
          have cv := valid_impl m A2 rs c2 wr (by omega) P6.out.2.1.sl
          rw [show gvB m rs = true by rw [HF.out]; exact gvB_filter _ HV.out] at cv
          refine cv.mono ?_
          rintro e w8 ⟨rfl, hb8⟩
          have L8 := Lib.hid (L6.out.call hb8)
          have P8 := Lib.hid (P6.out.call hb8)
          clear cv hb8 hcount
          obtain ⟨z8, c80, c81, -, -⟩ := L8.out.1.two
          obtain ⟨y8, d80, d81, -, -⟩ := P8.out.1.two
          go_wp2_with fail
          have cn := nb_impl m A2 rs c2 x w8 (by omega) P8.out.2.1.sl
          rw [hnone] at cn
          refine cn.mono ?_
          rintro e w9 ⟨A9, g9, c9, rfl, hg9, ho9, hb9⟩
          have L9 := Lib.hid (L8.out.call hb9)
          have P9 := Lib.hid (P8.out.call hb9)
          clear cn hb9 ho9 hg9
          obtain ⟨z9, c90, c91, -, -⟩ := L9.out.1.two
          obtain ⟨y9, d90, d91, -, -⟩ := P9.out.1.two
          go_wp2_with fail
          go_ret
          exact ⟨ret_bool (by simp), L9.out.2.2⟩
  · go_enter Try.func13, Try.ntmps13
    go_wp2
    go_ret
    exact ⟨rfl, by (repeat (first | exact Below.refl _ _ | (refine Below.alloc ?_ (by first | exact Nat.le_refl _ | omega | (simp; done) | (simp; omega)) _) | (refine Below.setCell ?_ (by first | exact Nat.le_refl _ | omega | (simp; done) | (simp; omega)) _) | exact Below.drew ‹_›))⟩
end Go.Proofs.Ytbogpcnjniadfaa
