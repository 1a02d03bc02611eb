/-
  The walk of FnStackPath over this seat.
-/
import Derived.Test.YtblmmmeeljidiaaLc
namespace Go.Proofs.Ytblmmmeeljidiaa
open Go.RowKit Go.Maps

set_option maxRecDepth 100000 in
set_option maxHeartbeats 1600000 in
theorem fnStackPath_walk (A : Option Addr) (len c : Nat) (f : Nat → Int) (w : World) (hlc : len ≤ c) (hc : c ≤ maxLen) (hB : Byt w w.heap.size A len f) :
   Calls Try.prog 9 #[.slice A len c] w fun e w' => e = .returned (.bool true) ∧ Below w.heap.size w w' := by
  have HB := Lib.hid hB
  clear hB
  by_cases hl : len ≤ 1048576
  · go_enter Try.func9, Try.ntmps9
    go_wp2_with fail
    refine (drawStackPath_any A len c f w hlc hc HB.out).mono ?_
    rintro e w1 ⟨n, ls, A1, g1, c1, x, st, Ax, gx, cx, rfl, ⟨hn0, hn1, hls, hg1, ho1, hb1⟩, hx0, hx1, hs9, hok, hox, hgx, hcx⟩
    have L1 := Lib.hid (show LC w w1.heap.size n ls A1 g1 c1 Ax gx st (w1.alloc (.cells #[.int .i64 n, .slice A1 ls.length c1] 32)) from ⟨⟨Box.new w1 _ _, ho1.alloc _, hb1.alloc hb1.size _⟩, hox.alloc _⟩)
    clear ho1 hb1 HB hox hok
    generalize hG : w1.heap.size = G at *
    have CI := fun W (h1 : Sl W W.heap.size A1 ls) (h2 : Slb W W.heap.size Ax st) => stackPath_impl n A1 ls c1 x Ax st cx W (by omega) (by omega) h1 h2
    have CS := fun W (h1 : Sl W W.heap.size A1 ls) (h2 : Slb W W.heap.size Ax st) => stackPath_spec n A1 ls c1 x Ax st cx W (by omega) (by omega) (by omega) h1 h2
    have hpl : (pathS n ls x st).length ≤ 57 := pathS_len n ls x st
    have HF : Hid (0 < (pathS n ls x st).length → ∃ (m : Nat) (z : Int), n = (m : Int) ∧ gvB (m : Int) ls = true ∧ endI (m : Int) ls x st = some z ∧ (pathS n ls x st)[0]? = some x ∧ (pathS n ls x st)[(pathS n ls x st).length - 1]? = some z ∧ Way ls (pathS n ls x st)) := Lib.hid pathS_facts
    generalize pathS n ls x st = xs at *
    go_wp2_with fail
    refine (CI _ L1.out.sl L1.out.slb).mono ?_
    rintro e w2 ⟨A2, g2, c2, rfl, hg2, ho2, hb2, -⟩
    have L2 := Lib.hid (L1.out.call hb2)
    have P2 := Lib.hid ho2
    clear hb2 L1 hG ho2 CI
    obtain ⟨z2, c20, c21, -, -⟩ := L2.out.1.1.two
    go_wp2_with fail
    refine (CS _ L2.out.sl L2.out.slb).mono ?_
    rintro e w3 ⟨A3, g3, c3, rfl, hg3, ho3, hb3, -⟩
    have L3 := Lib.hid (L2.out.call hb3)
    have P3 := Lib.hid (P2.out.below hb3)
    have Q3 := Lib.hid ho3
    clear hb3 L2 z2 c20 c21 P2 ho3 CS
    obtain ⟨z3, c30, c31, -, -⟩ := L3.out.1.1.two
    go_wp2_with fail
    refine (sameInts_same A2 A3 xs c2 c3 w3 (by omega) P3.out.sli Q3.out.sli).mono ?_
    rintro e w4 ⟨rfl, hb4⟩
    have L4 := Lib.hid (L3.out.call hb4)
    have P4 := Lib.hid (P3.out.below hb4)
    have Q4 := Lib.hid (Q3.out.below hb4)
    clear hb4 L3 P3 Q3 z3 c30 c31 hg2 hg3
    obtain ⟨z4, c40, c41, -, -⟩ := L4.out.1.1.two
    by_cases hz : xs.length = 0
    · have hz' : ((xs.length : Int) == 0) = true := by simp [hz]
      clear HF hz
      go_wp2_with fail
      refine (sameInts_same A2 A3 xs c2 c3 w4 (by omega) P4.out.sli Q4.out.sli).mono ?_
      rintro e w5 ⟨rfl, hb5⟩
      have L5 := Lib.hid (L4.out.call hb5)
      go_wp2_with fail
      go_ret
      exact ⟨rfl, L5.out.1.2.2⟩
    · have hz' : ((xs.length : Int) == 0) = false := by rw [beq_eq_false_iff_ne]; omega
      obtain ⟨m, z, rfl, hg, ho, h0, hz9, hway⟩ := HF.out (by omega)
      have CE := fun W (h1 : Sl W W.heap.size A1 ls) (h2 : Slb W W.heap.size Ax st) => stackEnd_impl (m : Int) A1 ls c1 x Ax st cx W (by omega) (by omega) h1 h2
      simp only [ho, stepV] at CE
      have HLK : Hid (∀ (k : Nat) (a b : Int), xs[k]? = some a → xs[k + 1]? = some b → ∃ (j : Nat) (l : Lk), linkI (m : Int) ls a b = (j : Int) ∧ ls[j]? = some l ∧ lcost (m : Int) ls a b = l.c ∧ 1 ≤ l.c ∧ l.c ≤ 20) := Lib.hid (fun k a b ha hb => way_link hg (hway k a b ha hb))
      have HH := Lib.hid h0
      have HZ := Lib.hid hz9
      have hxs : 0 < xs.length := by omega
      clear hz ho hg hway h0 hz9 HF Q4
      go_wp2_with fail
      refine (CE _ L4.out.sl L4.out.slb).mono ?_
      rintro e w5 ⟨rfl, hb5⟩
      have L5 := Lib.hid (L4.out.call hb5)
      have P5 := Lib.hid (P4.out.below hb5)
      clear hb5 L4 P4 z4 c40 c41 CE
      go_wp2_with fail
      go_loopw [10] (fun i wr => ∃ k : Nat, 1 ≤ k ∧ k ≤ xs.length ∧ i = .int .i64 (k : Int) ∧ LC w G (m : Int) ls A1 g1 c1 Ax gx st wr ∧ Own1i wr A2 g2 xs) (fun i _ => xs.length - (intOf i).toNat)
      case atStart => exact ⟨1, Nat.le_refl _, hxs, rfl, L5.out, P5.out⟩
      case round =>
        obtain ⟨k, hk1, hk, rfl, hL, hP⟩ := hrel
        have L6 := Lib.hid hL
        have P6 := Lib.hid hP
        clear hL hP L5 P5
        obtain ⟨z6, c60, c61, -, -⟩ := L6.out.1.1.two
        by_cases hlt : k < xs.length
        · obtain ⟨p, hp1⟩ : ∃ p : Nat, k = p + 1 := ⟨k - 1, by omega⟩
          have hsub : (k : Int) - 1 = (p : Int) := by omega
          have hwp : IntKind.i64.wrap (p : Int) = (p : Int) := IntWalk.i64_in _ (by omega)
          have hpl : p < xs.length := by omega
          obtain ⟨a, ha⟩ : ∃ a, xs[p]? = some a := ⟨_, List.getElem?_eq_getElem hpl⟩
          obtain ⟨b, hb⟩ : ∃ b, xs[k]? = some b := ⟨_, List.getElem?_eq_getElem hlt⟩
          obtain ⟨j, l, e1, -, -, -, -⟩ := HLK.out p a b ha (by rw [← hp1]; exact hb)
          have CL : ∀ X : Ext wr.drew, Calls Try.prog 36 #[gval (m : Int) A1 ls.length c1, .int .i64 a, .int .i64 b] X.w fun e w' => e = .returned (.int .i64 (j : Int)) ∧ Below X.w.heap.size X.w w' := fun X => by
            have := link_impl (m : Int) A1 ls c1 a b X.w (by omega) ((L6.out.drew.sl.below X.below).more X.below.size)
            rwa [e1] at this
          obtain ⟨rfl, zg, hca⟩ := P6.out.at ha
          obtain ⟨-, -, hcb⟩ := P6.out.at hb
          have HP1 := Lib.hid hp1
          clear ha hb e1 hp1
          go_wp2_with fail
          have hX6 := fun (x : Ext wr.drew) (bb o : Nat) (h : bb < wr.heap.size) => (show x.w.cell? ⟨bb, o, none⟩ = wr.cell? ⟨bb, o, none⟩ from x.cell bb o h)
          refine wp_region_staged 12 (by kernel_rfl) (by kernel_rfl) ?_
          refine stage_seg _ 2 [0, 1, 2, 3, 4, 5, 6, 7, 8, 9] (by kernel_rfl) (by kernel_rfl) (by kernel_rfl) (by kernel_rfl) ?_
          (simp only [List.map_cons, List.map_nil, List.getElem?_cons_zero, List.getElem?_cons_succ, Option.getD_some]); (repeat (go_big_quiet_step (fail))); (refine wpQuiet_nil ?_)
          refine stage_call _ 1 10 (by kernel_rfl) (by rfl) (by kernel_rfl) (by rfl) ?_
          go_wp2_with fail
          refine (CL ⟨wr.drew, Below.refl _ _⟩).mono ?_
          rintro e w7 ⟨rfl, hb7⟩
          refine ⟨hb7, ?_⟩
          have L7 := Lib.hid (L6.out.drew.call hb7)
          have P7 := Lib.hid (P6.out.drew.below hb7)
          clear hb7 hX6 CL c60 c61 z6 hca hcb zg
          have hX7 := fun (x : Ext w7) (bb o : Nat) (h : bb < w7.heap.size) => x.cell bb o h
          refine stage_seg _ 0 [11] (by kernel_rfl) (by kernel_rfl) (by kernel_rfl) (by kernel_rfl) ?_
          (simp only [List.map_cons, List.map_nil, List.getElem?_cons_zero, List.getElem?_cons_succ, Option.getD_some]); (repeat (go_big_quiet_step (fail))); (refine wpQuiet_nil ?_)
          refine stage_end (by kernel_rfl) ?_
          clear hX7
          go_wp2_with fail
          go_roundw
          case rel => exact ⟨k + 1, by omega, hlt, by go_num, L7.out, P7.out⟩
          case measure => simp [intOf]; omega
        · obtain ⟨q, hq⟩ : ∃ q, xs.length = q + 1 := ⟨xs.length - 1, by omega⟩
          have hsub : (xs.length : Int) - 1 = (q : Int) := by omega
          have hwp : IntKind.i64.wrap (q : Int) = (q : Int) := IntWalk.i64_in _ (by omega)
          have hql : q < xs.length := by omega
          have hz2 : xs[q]? = some z := by have := HZ.out; rwa [hq, Nat.add_sub_cancel] at this
          obtain ⟨rfl, zg, hca⟩ := P6.out.at HH.out
          obtain ⟨-, -, hcb⟩ := P6.out.at hz2
          have HQ := Lib.hid hq
          obtain rfl : k = xs.length := by omega
          clear hq hz2
          go_wp2_with fail
          go_ret
          exact ⟨ret_bool (by simp), L6.out.1.2.2⟩
  · go_enter Try.func9, Try.ntmps9
    go_wp2
    go_ret
    exact ⟨rfl, by (repeat (first | exact Below.refl _ _ | (refine Below.alloc ?_ (by first | exact Nat.le_refl _ | omega | (simp; done) | (simp; omega)) _) | (refine Below.setCell ?_ (by first | exact Nat.le_refl _ | omega | (simp; done) | (simp; omega)) _) | exact Below.drew ‹_›))⟩

end Go.Proofs.Ytblmmmeeljidiaa
