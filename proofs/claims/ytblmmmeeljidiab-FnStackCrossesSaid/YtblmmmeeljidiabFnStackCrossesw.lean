/-
  The walk of FnStackCrosses over this seat.
-/
import Derived.Test.YtblmmmeeljidiabLd
namespace Go.Proofs.Ytblmmmeeljidiab
open Go.RowKit Go.Maps

set_option maxRecDepth 100000 in
set_option maxHeartbeats 1600000 in
theorem fnStackCrosses_walk (A : Option Addr) (len c : Nat) (f : Nat → Int) (w : World) (hlc : len ≤ c) (hc : c ≤ maxLen) (hB : Byt w w.heap.size A len f) :
   Calls Try.prog 6 #[.slice A len c] w fun e w' => e = .returned (.bool true) ∧ Below w.heap.size w w' := by
  have HB := Lib.hid hB
  clear hB
  by_cases hl : len ≤ 1048576
  · go_enter Try.func6, Try.ntmps6
    go_wp2_with fail
    refine (drawStackPath_any A len c f w hlc hc HB.out).mono ?_
    rintro e w1 ⟨n, ls, A1, g1, c1, x, st, _, gx, cx, rfl, ⟨hn0, hn1, hls, hg1, ho1, hb1⟩, hx0, hx1, hs9, hok, hox, hgx, hcx, rfl, hgl⟩
    have L1 := Lib.hid (show LC w w1.heap.size n ls A1 g1 c1 (some ⟨gx, 0, none⟩) gx st (w1.alloc (.cells #[.int .i64 n, .slice A1 ls.length c1] 25)) from ⟨⟨Box.new w1 _ _, ho1.alloc _, hb1.alloc hb1.size _⟩, hox.alloc _⟩)
    clear ho1 hb1 HB hox hok
    generalize hG : w1.heap.size = G at *
    have CI := fun W (h1 : Sl W W.heap.size A1 ls) (h2 : Slb W W.heap.size (some ⟨gx, 0, none⟩) st) => stackPath_impl n A1 ls c1 x (some ⟨gx, 0, none⟩) st cx W (by omega) (by omega) h1 h2
    have CS := fun W (h1 : Sl W W.heap.size A1 ls) (h2 : Slb W W.heap.size (some ⟨gx, 0, none⟩) st) => stackPath_spec n A1 ls c1 x (some ⟨gx, 0, none⟩) st cx W (by omega) (by omega) (by omega) h1 h2
    have hpl : (pathS n ls x st).length ≤ 57 := pathS_len n ls x st
    have HF : Hid (0 < (pathS n ls x st).length → ∃ (m : Nat) (z : Int), n = (m : Int) ∧ gvB (m : Int) ls = true ∧ endI (m : Int) ls x st = some z ∧ (pathS n ls x st)[0]? = some x ∧ (pathS n ls x st)[(pathS n ls x st).length - 1]? = some z ∧ Way ls (pathS n ls x st)) := Lib.hid pathS_facts
    have HX : Hid (∀ (k : Nat) (a b : Int), (pathS n ls x st)[k]? = some a → (pathS n ls x st)[k + 1]? = some b → crossS n ls x st (linkI n ls a b) = true) := Lib.hid (fun k a b ha hb => path_crosses ha hb)
    generalize pathS n ls x st = xs at *
    go_wp2_with fail
    refine (CI _ L1.out.sl L1.out.slb).mono ?_
    rintro e w2 ⟨A2, g2, c2, rfl, hg2, ho2, hb2, -⟩
    have L2 := Lib.hid (L1.out.call hb2)
    have P2 := Lib.hid ho2
    clear hb2 L1 hG ho2 CI
    obtain ⟨z2, c20, c21, -, -⟩ := L2.out.1.1.two
    go_wp2_with fail
    refine (CS _ L2.out.sl L2.out.slb).mono ?_
    rintro e w3 ⟨A3, g3, c3, rfl, hg3, ho3, hb3, -⟩
    have L3 := Lib.hid (L2.out.call hb3)
    have P3 := Lib.hid (P2.out.below hb3)
    have Q3 := Lib.hid ho3
    clear hb3 L2 z2 c20 c21 P2 ho3 CS
    obtain ⟨z3, c30, c31, -, -⟩ := L3.out.1.1.two
    go_wp2_with fail
    refine (sameInts_same A2 A3 xs c2 c3 w3 (by omega) P3.out.sli Q3.out.sli).mono ?_
    rintro e w4 ⟨rfl, hb4⟩
    have L4 := Lib.hid (L3.out.call hb4)
    have P4 := Lib.hid (P3.out.below hb4)
    have Q4 := Lib.hid (Q3.out.below hb4)
    clear hb4 L3 P3 Q3 z3 c30 c31 hg2 hg3
    obtain ⟨z4, c40, c41, -, -⟩ := L4.out.1.1.two
    go_wp2_with fail
    go_loopw [8] (fun i wr => ∃ k : Nat, 1 ≤ k ∧ (k ≤ xs.length ∨ k = 1) ∧ i = .int .i64 (k : Int) ∧ LC w G n ls A1 g1 c1 (some ⟨gx, 0, none⟩) gx st wr ∧ Own1i wr A2 g2 xs) (fun i _ => xs.length - (intOf i).toNat)
    case atStart => exact ⟨1, Nat.le_refl _, .inr rfl, rfl, L4.out, P4.out⟩
    case round =>
      obtain ⟨k, hk1, hk, rfl, hL, hP⟩ := hrel
      have L6 := Lib.hid hL
      have P6 := Lib.hid hP
      clear hL hP L4 P4 z4 c40 c41
      obtain ⟨z6, c60, c61, -, -⟩ := L6.out.1.1.two
      by_cases hlt : k < xs.length
      · obtain ⟨p, hp1⟩ : ∃ p : Nat, k = p + 1 := ⟨k - 1, by omega⟩
        have hsub : (k : Int) - 1 = (p : Int) := by omega
        have hwp : IntKind.i64.wrap (p : Int) = (p : Int) := IntWalk.i64_in _ (by omega)
        have hplt : p < xs.length := by omega
        obtain ⟨a, ha⟩ : ∃ a, xs[p]? = some a := ⟨_, List.getElem?_eq_getElem hplt⟩
        obtain ⟨b, hb⟩ : ∃ b, xs[k]? = some b := ⟨_, List.getElem?_eq_getElem hlt⟩
        have hb2 : xs[p + 1]? = some b := by rw [← hp1]; exact hb
        have hcr := HX.out p a b ha hb2
        have CL := fun W (h : Sl W W.heap.size A1 ls) => link_impl n A1 ls c1 a b W (by omega) h
        have CX := fun (t : Int) W (h1 : Sl W W.heap.size A1 ls) (h2 : Slb W W.heap.size (some ⟨gx, 0, none⟩) st) => stackCrosses_impl n A1 ls c1 x (some ⟨gx, 0, none⟩) st cx t W (by omega) (by omega) h1 h2
        have CX2 := CX (linkI n ls a b)
        rw [hcr] at CX2
        generalize linkI n ls a b = j at *
        obtain ⟨rfl, zg, hca⟩ := P6.out.at ha
        obtain ⟨-, -, hcb⟩ := P6.out.at hb
        have HP1 := Lib.hid hp1
        clear ha hb hb2 hcr hp1 CX
        go_wp2_with fail
        have hX6 := fun (x : Ext wr.drew) (bb o : Nat) (h : bb < wr.heap.size) => (show x.w.cell? ⟨bb, o, none⟩ = wr.cell? ⟨bb, o, none⟩ from x.cell bb o h)
        refine wp_region_staged 16 (by kernel_rfl) (by kernel_rfl) ?_
        refine stage_seg _ 3 [0, 1, 2, 3, 4, 5, 6, 7, 8, 9, 10, 11, 12] (by kernel_rfl) (by kernel_rfl) (by kernel_rfl) (by kernel_rfl) ?_
        (simp only [List.map_cons, List.map_nil, List.getElem?_cons_zero, List.getElem?_cons_succ, Option.getD_some]); (repeat (go_big_quiet_step (fail))); (refine wpQuiet_nil ?_)
        refine stage_call _ 2 13 (by kernel_rfl) (by rfl) (by kernel_rfl) (by rfl) ?_
        go_wp2_with fail
        refine (CL wr.drew L6.out.drew.sl).mono ?_
        rintro e w7 ⟨rfl, hb7⟩
        refine ⟨hb7, ?_⟩
        have L7 := Lib.hid (L6.out.drew.call hb7)
        have P7 := Lib.hid (P6.out.drew.below hb7)
        clear hb7 hX6 CL c60 c61 z6 hca hcb zg L6 P6
        refine stage_call _ 1 14 (by kernel_rfl) (by rfl) (by kernel_rfl) (by rfl) ?_
        go_wp2_with fail
        refine (CX2 w7 L7.out.sl L7.out.slb).mono ?_
        rintro e w8 ⟨rfl, hb8⟩
        refine ⟨hb8, ?_⟩
        have L8 := Lib.hid (L7.out.call hb8)
        have P8 := Lib.hid (P7.out.below hb8)
        clear hb8 CX2 L7 P7
        have hX8 := fun (x : Ext w8) (bb o : Nat) (h : bb < w8.heap.size) => x.cell bb o h
        refine stage_seg _ 0 [15] (by kernel_rfl) (by kernel_rfl) (by kernel_rfl) (by kernel_rfl) ?_
        (simp only [List.map_cons, List.map_nil, List.getElem?_cons_zero, List.getElem?_cons_succ, Option.getD_some]); (repeat (go_big_quiet_step (fail))); (refine wpQuiet_nil ?_)
        refine stage_end (by kernel_rfl) ?_
        clear hX8
        go_wp2_with fail
        go_roundw
        case rel => exact ⟨k + 1, by omega, .inl hlt, by go_num, L8.out, P8.out⟩
        case measure => simp [intOf]; omega
      · go_wp2_with fail
        go_ret
        exact ⟨rfl, L6.out.1.2.2⟩
  · go_enter Try.func6, Try.ntmps6
    go_wp2
    go_ret
    exact ⟨rfl, by (repeat (first | exact Below.refl _ _ | (refine Below.alloc ?_ (by first | exact Nat.le_refl _ | omega | (simp; done) | (simp; omega)) _) | (refine Below.setCell ?_ (by first | exact Nat.le_refl _ | omega | (simp; done) | (simp; omega)) _) | exact Below.drew ‹_›))⟩

end Go.Proofs.Ytblmmmeeljidiab
