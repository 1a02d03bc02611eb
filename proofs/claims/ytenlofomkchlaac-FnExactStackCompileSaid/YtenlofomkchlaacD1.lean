/-
  Contracts over this seat: the specification's PathValid and PathCost.
-/
import Derived.Test.YtenlofomkchlaacC7
import Derived.Test.YtenlofomkchlaacC9
namespace Go.Proofs.Ytenlofomkchlaac
open Go.RowKit Go.Maps

theorem l1I_linkI {nn : Int} {ls : List Lk} (hv : gvB nn ls = true) (a b : Int) : l1I (min a b) (max a b) ls = linkI nn ls a b := by
  rw [← linkI_eq, if_pos hv]

set_option maxRecDepth 100000 in
set_option maxHeartbeats 1600000 in
theorem pathValid_spec (nn : Int) (A : Option Addr) (ls : List Lk) (c : Nat) (X : Option Addr) (xs : List Int) (cx : Nat) (w : World) (hm : ls.length ≤ 2000000) (hnu : nn ≤ 9223372036854775807) (hmx : xs.length ≤ 2000000) (hS : Sl w w.heap.size A ls) (hX : Sli w w.heap.size X xs) :
   Calls Try.prog 38 #[gval nn A ls.length c, .slice X xs.length cx] w fun e w' => e = .returned (.bool (pvB nn ls xs)) ∧ Below w.heap.size w w' := by
  have B0 : Below w.heap.size w (w.alloc (.cells #[.int .i64 nn, .slice A ls.length c] 32)) := by (repeat (first | exact Below.refl _ _ | (refine Below.alloc ?_ (by first | exact Nat.le_refl _ | omega | (simp; done) | (simp; omega)) _) | (refine Below.setCell ?_ (by first | exact Nat.le_refl _ | omega | (simp; done) | (simp; omega)) _) | exact Below.drew ‹_›))
  have HB := Lib.hid B0
  have HG := Lib.hid (Box.new w 32 #[.int .i64 nn, .slice A ls.length c])
  have C1 := valid_spec_any nn A ls c (w.alloc (.cells #[.int .i64 nn, .slice A ls.length c] 32)) hm hnu ((hS.below B0).more B0.size)
  have C2 := fun W => l6In_any (xs.length : Int) 1 9 W
  have HS := Lib.hid hS
  have HX := Lib.hid hX
  clear hS hX B0
  cases hv : gvB nn ls with
  | false =>
    rw [hv] at C1
    have HE := Lib.hid (pvB_gv (xs := xs) hv)
    clear hv C2
    go_enter Try.func38, Try.ntmps38
    go_wp2_with (go_at_call 66; refine C1.mono ?_; clear C1; rintro e w1 ⟨rfl, hb1⟩; have B1 := Lib.hid (HB.out.trans (hb1.mono HB.out.size)); clear hb1)
    go_ret
    exact ⟨ret_bool HE.out.symm, B1.out⟩
  | true =>
    rw [hv] at C1
    obtain ⟨-, hn1, hn8, hl14⟩ := gvB_fit hv
    by_cases h19 : 1 ≤ xs.length ∧ xs.length ≤ 9
    · have hin : inB (xs.length : Int) 1 9 = true := by unfold inB; simp; omega
      rw [hin] at C2
      obtain ⟨h1, h9⟩ := h19
      have HY : Hid ((∀ x ∈ xs, 0 ≤ x ∧ x < nn) → (∀ k, k < xs.length → lkB nn ls xs k = true) → pvB nn ls xs = true) := Lib.hid (fun hr h => pvB_yes h1 h9 (vwB_join hv hr) h)
      have HGV : Hid (∀ a b, l1I (min a b) (max a b) ls = linkI nn ls a b) := Lib.hid (fun a b => l1I_linkI hv a b)
      clear hv hin
      go_enter Try.func38, Try.ntmps38
      go_wp2_with (first
        | (go_at_call 66; refine C1.mono ?_; clear C1; rintro e w1 ⟨rfl, hb1⟩; have B1 := Lib.hid (HB.out.trans (hb1.mono HB.out.size)); have G1 := Lib.hid (HG.out.below hb1 (by simp)); clear hb1)
        | (go_at_call 67; refine (C2 _).mono ?_; clear C2; rintro e w2 ⟨rfl, rfl⟩))
      go_loopw [5] (fun i wr => ∃ k : Nat, k ≤ xs.length ∧ i = .int .i64 (k : Int) ∧ Hid (∀ (j : Nat) (x : Int), j < k → xs[j]? = some x → 0 ≤ x ∧ x < nn) ∧ Hid (∀ j, j < k → lkB nn ls xs j = true) ∧ Below w.heap.size w wr ∧ Box wr w.heap.size 32 #[.int .i64 nn, .slice A ls.length c]) (fun i _ => xs.length - (intOf i).toNat)
      case atStart => exact ⟨0, Nat.zero_le _, rfl, Lib.hid (fun j x h => by omega), Lib.hid (fun j h => by omega), B1.out, G1.out⟩
      case round =>
        obtain ⟨k, hk, rfl, HR, HJ, hb, hg⟩ := hrel
        have B2 := Lib.hid hb
        have G2 := Lib.hid hg
        obtain ⟨z1, e10, e11, -, -⟩ := hg.two
        clear hg B1 G1
        by_cases hlt : k < xs.length
        · obtain ⟨x, hx⟩ : ∃ x, xs[k]? = some x := ⟨_, List.getElem?_eq_getElem hlt⟩
          have HXK := Lib.hid hx
          obtain ⟨xb, xo, rfl, hxb, hxk⟩ := (HX.out.below hb) k x hx
          have hz := hb.size
          have z3 : xb < wr.heap.size := by omega
          have CN := l1Node_any nn (.slice A ls.length c) x wr.drew hn1 hn8
          have hX := fun (x : Ext wr.drew) (bb o : Nat) (h : bb < wr.heap.size) => (show x.w.cell? ⟨bb, o, none⟩ = wr.cell? ⟨bb, o, none⟩ from x.cell bb o h)
          clear hx hb
          by_cases hr : 0 ≤ x ∧ x < nn
          · have hin : inB x 0 (nn - 1) = true := by unfold inB; simp; omega
            rw [hin] at CN
            have HRX := Lib.hid hr
            clear hin hr
            by_cases hk0 : 0 < k
            · obtain ⟨p, hp1⟩ : ∃ p : Nat, k = p + 1 := ⟨k - 1, by omega⟩
              have hsub : (k : Int) - 1 = (p : Int) := by omega
              have hwp : IntKind.i64.wrap (p : Int) = (p : Int) := IntWalk.i64_in _ (by omega)
              have hpl : p < xs.length := by omega
              have HP1 := Lib.hid hp1
              clear hp1
              obtain ⟨y, hy⟩ : ∃ y, xs[p]? = some y := ⟨_, List.getElem?_eq_getElem hpl⟩
              have HL := Lib.hid (lkB_at (nn := nn) (ls := ls) hy (by rw [← HP1.out]; exact HXK.out))
              have HYP := Lib.hid hy
              clear hy
              go_wp2_with fail
              refine wp_region_staged 25 (by kernel_rfl) (by kernel_rfl) ?_
              refine stage_seg _ 20 [0, 1, 2, 3, 4] (by kernel_rfl) (by kernel_rfl) (by kernel_rfl) (by kernel_rfl) ?_
              (simp only [List.map_cons, List.map_nil, List.getElem?_cons_zero, List.getElem?_cons_succ, Option.getD_some]); (repeat (go_big_quiet_step (fail))); (refine wpQuiet_nil ?_)
              refine stage_call _ 19 5 (by kernel_rfl) (by rfl) (by kernel_rfl) (by rfl) ?_
              go_wp2_with fail
              refine CN.mono ?_
              clear CN
              rintro e w4 ⟨rfl, hb4⟩
              refine ⟨hb4, ?_⟩
              have B4 := Lib.hid (B2.out.drew.trans (hb4.mono hz))
              have G4 := Lib.hid (Box.below (w := wr.drew) G2.out hb4 z1)
              clear hb4 hX e10 e11 z1 hxk z3
              obtain ⟨z4, e40, e41, -, -⟩ := G4.out.two
              have hz4 := B4.out.size
              obtain ⟨xb1, xo1, e1, _, hx4⟩ := (HX.out.below B4.out) k x HXK.out
              cases e1
              obtain ⟨xb2, xo2, e2, _, hy4⟩ := (HX.out.below B4.out) p y HYP.out
              cases e2
              have z5 : xb < w4.heap.size := by omega
              have CL := l1Link_any nn A ls c y x w4 hm ((HS.out.below B4.out).more hz4)
              rw [HGV.out y x] at CL
              have hlk := linkI_neg nn ls y x
              generalize linkI nn ls y x = lk at *
              have hX4 := fun (x : Ext w4) (bb o : Nat) (h : bb < w4.heap.size) => x.cell bb o h
              refine stage_seg _ 4 [6, 7, 8, 9, 10, 11, 12, 13, 14, 15, 16, 17, 18, 19, 20] (by kernel_rfl) (by kernel_rfl) (by kernel_rfl) (by kernel_rfl) ?_
              (simp only [List.map_cons, List.map_nil, List.getElem?_cons_zero, List.getElem?_cons_succ, Option.getD_some]); (repeat (go_big_quiet_step (fail))); (refine wpQuiet_nil ?_)
              refine stage_call _ 3 21 (by kernel_rfl) (by rfl) (by kernel_rfl) (by rfl) ?_
              go_wp2_with fail
              refine CL.mono ?_
              clear CL
              rintro e w5 ⟨rfl, hb5⟩
              refine ⟨hb5, ?_⟩
              have B5 := Lib.hid (B4.out.trans (hb5.mono hz4))
              have G5 := Lib.hid (G4.out.below hb5 z4)
              clear hb5 hX4 e40 e41 z4 hx4 hy4 z5
              by_cases h0 : 0 ≤ lk
              · have h0' : ¬ lk < 0 := by omega
                have HNX : Hid (lkB nn ls xs k = true) := Lib.hid (by rw [HP1.out, HL.out, decide_eq_true_eq]; exact h0)
                clear hlk
                refine stage_seg _ 0 [22, 23, 24] (by kernel_rfl) (by kernel_rfl) (by kernel_rfl) (by kernel_rfl) ?_
                (simp only [List.map_cons, List.map_nil, List.getElem?_cons_zero, List.getElem?_cons_succ, Option.getD_some]); (repeat (go_big_quiet_step (fail))); (refine wpQuiet_nil ?_)
                refine stage_end (by kernel_rfl) ?_
                go_wp2_with fail
                go_roundw
                case rel => exact ⟨k + 1, hlt, by go_num, Lib.hid (fun j z hj hz => by
                  by_cases hjk : j < k
                  · exact HR.out j z hjk hz
                  · obtain rfl : j = k := by omega
                    rw [HXK.out] at hz
                    cases hz
                    exact HRX.out), Lib.hid (fun j hj => by
                  by_cases hjk : j < k
                  · exact HJ.out j hjk
                  · obtain rfl : j = k := by omega
                    exact HNX.out), B5.out, G5.out⟩
                case measure => simp [intOf]; omega
              · have h0' : lk < 0 := by omega
                have HNO : Hid (lkB nn ls xs k = false) := Lib.hid (by rw [HP1.out, HL.out, decide_eq_false_iff_not]; exact h0)
                clear hlk h0
                refine stage_seg _ 0 [22, 23, 24] (by kernel_rfl) (by kernel_rfl) (by kernel_rfl) (by kernel_rfl) ?_
                (simp only [List.map_cons, List.map_nil, List.getElem?_cons_zero, List.getElem?_cons_succ, Option.getD_some]); (repeat (go_big_quiet_step (fail))); (refine wpQuiet_nil ?_)
                refine stage_end (by kernel_rfl) ?_
                go_wp2_with fail
                go_ret
                exact ⟨ret_bool (pvB_no hlt HNO.out).symm, B5.out⟩
            · obtain rfl : k = 0 := by omega
              rw [Nat.add_zero] at hxk
              go_wp2_with fail
              refine wp_region_staged 25 (by kernel_rfl) (by kernel_rfl) ?_
              refine stage_seg _ 20 [0, 1, 2, 3, 4] (by kernel_rfl) (by kernel_rfl) (by kernel_rfl) (by kernel_rfl) ?_
              (simp only [List.map_cons, List.map_nil, List.getElem?_cons_zero, List.getElem?_cons_succ, Option.getD_some]); (repeat (go_big_quiet_step (fail))); (refine wpQuiet_nil ?_)
              refine stage_call _ 19 5 (by kernel_rfl) (by rfl) (by kernel_rfl) (by rfl) ?_
              go_wp2_with fail
              refine CN.mono ?_
              clear CN
              rintro e w4 ⟨rfl, hb4⟩
              refine ⟨hb4, ?_⟩
              have B4 := Lib.hid (B2.out.drew.trans (hb4.mono hz))
              have G4 := Lib.hid (Box.below (w := wr.drew) G2.out hb4 z1)
              clear hb4 hX e10 e11 z1 hxk z3
              refine stage_seg _ 4 [6, 7, 8, 9, 10, 11, 12, 13, 14, 15, 16, 17, 18, 19, 20] (by kernel_rfl) (by kernel_rfl) (by kernel_rfl) (by kernel_rfl) ?_
              (simp only [List.map_cons, List.map_nil, List.getElem?_cons_zero, List.getElem?_cons_succ, Option.getD_some]); (repeat (go_big_quiet_step (fail))); (refine wpQuiet_nil ?_)
              refine stage_skip _ 3 21 (by kernel_rfl) (by rfl) (by kernel_rfl) (by rfl) ?_
              go_simp
              refine stage_seg _ 0 [22, 23, 24] (by kernel_rfl) (by kernel_rfl) (by kernel_rfl) (by kernel_rfl) ?_
              (simp only [List.map_cons, List.map_nil, List.getElem?_cons_zero, List.getElem?_cons_succ, Option.getD_some]); (repeat (go_big_quiet_step (fail))); (refine wpQuiet_nil ?_)
              refine stage_end (by kernel_rfl) ?_
              go_wp2_with fail
              go_roundw
              case rel => exact ⟨1, hlt, by go_num, Lib.hid (fun j z hj hz => by
                obtain rfl : j = 0 := by omega
                rw [HXK.out] at hz
                cases hz
                exact HRX.out), Lib.hid (fun j hj => by
                obtain rfl : j = 0 := by omega
                exact lkB_zero), B4.out, G4.out⟩
              case measure => simp [intOf]; omega
          · have hin : inB x 0 (nn - 1) = false := by unfold inB; simp; omega
            rw [hin] at CN
            have HE := Lib.hid (pvB_node (ls := ls) HXK.out hr)
            clear hin hr
            go_wp2_with fail
            refine wp_region_staged 25 (by kernel_rfl) (by kernel_rfl) ?_
            refine stage_seg _ 20 [0, 1, 2, 3, 4] (by kernel_rfl) (by kernel_rfl) (by kernel_rfl) (by kernel_rfl) ?_
            (simp only [List.map_cons, List.map_nil, List.getElem?_cons_zero, List.getElem?_cons_succ, Option.getD_some]); (repeat (go_big_quiet_step (fail))); (refine wpQuiet_nil ?_)
            refine stage_call _ 19 5 (by kernel_rfl) (by rfl) (by kernel_rfl) (by rfl) ?_
            go_wp2_with fail
            refine CN.mono ?_
            clear CN
            rintro e w4 ⟨rfl, hb4⟩
            refine ⟨hb4, ?_⟩
            have B4 := Lib.hid (B2.out.drew.trans (hb4.mono hz))
            clear hb4 hX e10 e11 z1 hxk z3
            refine stage_seg _ 4 [6, 7, 8, 9, 10, 11, 12, 13, 14, 15, 16, 17, 18, 19, 20] (by kernel_rfl) (by kernel_rfl) (by kernel_rfl) (by kernel_rfl) ?_
            (simp only [List.map_cons, List.map_nil, List.getElem?_cons_zero, List.getElem?_cons_succ, Option.getD_some]); (repeat (go_big_quiet_step (fail))); (refine wpQuiet_nil ?_)
            refine stage_skip _ 3 21 (by kernel_rfl) (by rfl) (by kernel_rfl) (by rfl) ?_
            go_simp
            refine stage_seg _ 0 [22, 23, 24] (by kernel_rfl) (by kernel_rfl) (by kernel_rfl) (by kernel_rfl) ?_
            (simp only [List.map_cons, List.map_nil, List.getElem?_cons_zero, List.getElem?_cons_succ, Option.getD_some]); (repeat (go_big_quiet_step (fail))); (refine wpQuiet_nil ?_)
            refine stage_end (by kernel_rfl) ?_
            go_wp2_with fail
            go_ret
            exact ⟨ret_bool HE.out.symm, B4.out⟩
        · obtain rfl : k = xs.length := by omega
          clear hb
          go_wp2_with fail
          go_ret
          exact ⟨ret_bool (HY.out (fun x hx => by
            obtain ⟨j, hj⟩ := List.getElem?_of_mem hx
            exact HR.out j x (List.getElem?_eq_some_iff.1 hj).1 hj) HJ.out).symm, B2.out⟩
    · have hin : inB (xs.length : Int) 1 9 = false := by unfold inB; simp; omega
      rw [hin] at C2
      have HE := Lib.hid (pvB_bad (nn := nn) (ls := ls) h19)
      clear hv hin h19
      go_enter Try.func38, Try.ntmps38
      go_wp2_with (first
        | (go_at_call 66; refine C1.mono ?_; clear C1; rintro e w1 ⟨rfl, hb1⟩; have B1 := Lib.hid (HB.out.trans (hb1.mono HB.out.size)); clear hb1)
        | (go_at_call 67; refine (C2 _).mono ?_; clear C2; rintro e w2 ⟨rfl, rfl⟩))
      go_ret
      exact ⟨ret_bool HE.out.symm, B1.out⟩

set_option maxRecDepth 100000 in
set_option maxHeartbeats 1600000 in
theorem l5cost_any (n : Nat) (A : Option Addr) (ls : List Lk) (c : Nat) (X : Option Addr) (xs : List Int) (cx : Nat) (w : World) (hm : ls.length ≤ 2000000) (hv : gvB (n : Int) ls = true) (hw : Way ls xs) (hx0 : 0 < xs.length) (hx : xs.length ≤ 57) (hS : Sl w w.heap.size A ls) (hX : Sli w w.heap.size X xs) :
   Calls Try.prog 69 #[gval (n : Int) A ls.length c, .slice X xs.length cx] w fun e w' => e = .returned (.int .i64 (along (n : Int) ls xs)) ∧ Below w.heap.size w w' := by
  have HS := Lib.hid hS
  have HX := Lib.hid hX
  have HB := Lib.hid (show Below w.heap.size w (w.alloc (.cells #[.int .i64 (n : Int), .slice A ls.length c] 32)) by (repeat (first | exact Below.refl _ _ | (refine Below.alloc ?_ (by first | exact Nat.le_refl _ | omega | (simp; done) | (simp; omega)) _) | (refine Below.setCell ?_ (by first | exact Nat.le_refl _ | omega | (simp; done) | (simp; omega)) _) | exact Below.drew ‹_›)))
  have HG := Lib.hid (Box.new w 32 #[.int .i64 (n : Int), .slice A ls.length c])
  have HLK : Hid (∀ (k : Nat) (a b : Int), xs[k]? = some a → xs[k + 1]? = some b → ∃ (j : Nat) (l : Lk), linkI (n : Int) ls a b = (j : Int) ∧ ls[j]? = some l ∧ lcost (n : Int) ls a b = l.c ∧ 1 ≤ l.c ∧ l.c ≤ 20) := Lib.hid (fun k a b ha hb => way_link hv (hw k a b ha hb))
  have HBD : Hid (∀ k, 0 ≤ along (n : Int) ls (xs.take k) ∧ along (n : Int) ls (xs.take k) ≤ 1140) := Lib.hid (fun k => by
    have := along_bound hv (hw.take k)
    have : (xs.take k).length ≤ 57 := by simp; omega
    omega)
  have HA1 : Hid (along (n : Int) ls (xs.take 1) = 0) := Lib.hid (along_one _ _ _)
  have HAE : Hid (along (n : Int) ls (xs.take xs.length) = along (n : Int) ls xs) := Lib.hid (by rw [List.take_length])
  have HGV : Hid (∀ a b, l1I (min a b) (max a b) ls = linkI (n : Int) ls a b) := Lib.hid (fun a b => l1I_linkI hv a b)
  clear hS hX hw hv
  go_enter Try.func69, Try.ntmps69
  go_wp2_with fail
  go_loopw [5, 6] (fun q i wr => ∃ k : Nat, 1 ≤ k ∧ k ≤ xs.length ∧ i = .int .i64 (k : Int) ∧ q = .int .i64 (along (n : Int) ls (xs.take k)) ∧ Below w.heap.size w wr ∧ Box wr w.heap.size 32 #[.int .i64 (n : Int), .slice A ls.length c]) (fun _ i _ => xs.length - (intOf i).toNat)
  case atStart => exact ⟨1, Nat.le_refl _, hx0, rfl, by rw [HA1.out], HB.out, HG.out⟩
  case round =>
    obtain ⟨k, hk1, hk, rfl, rfl, hb, hg⟩ := hrel
    have B1 := Lib.hid hb
    have G1 := Lib.hid hg
    obtain ⟨z1, e10, e11, -, -⟩ := hg.two
    clear hg
    obtain ⟨p, hp1⟩ : ∃ p : Nat, k = p + 1 := ⟨k - 1, by omega⟩
    have hsub : (k : Int) - 1 = (p : Int) := by omega
    have hwp : IntKind.i64.wrap (p : Int) = (p : Int) := IntWalk.i64_in _ (by omega)
    have hpl : p < xs.length := by omega
    have HP1 := Lib.hid hp1
    clear hp1
    by_cases hlt : k < xs.length
    · obtain ⟨a, ha⟩ : ∃ a, xs[p]? = some a := ⟨_, List.getElem?_eq_getElem hpl⟩
      obtain ⟨b, hb'⟩ : ∃ b, xs[k]? = some b := ⟨_, List.getElem?_eq_getElem hlt⟩
      have hb2 : xs[p + 1]? = some b := by rw [← HP1.out]; exact hb'
      obtain ⟨j, l, e1, e2, e3, e4, e5⟩ := HLK.out p a b ha hb2
      have HAN : Hid (along (n : Int) ls (xs.take (k + 1)) = along (n : Int) ls (xs.take k) + l.c) := Lib.hid (by rw [HP1.out, along_next _ _ ha hb2, e3])
      have hbd := HBD.out k
      have hjl := (List.getElem?_eq_some_iff.1 e2).1
      obtain ⟨bb, off, rfl, hbb, hc1, hc2, hc3⟩ := (HS.out.below hb) j l e2
      obtain ⟨xb, xo, rfl, hxb, hxa⟩ := (HX.out.below hb) p a ha
      obtain ⟨xb', xo', e', _, hxk⟩ := (HX.out.below hb) k b hb'
      cases e'
      have hz := hb.size
      have z2 : bb < wr.heap.size := by omega
      have z3 : xb < wr.heap.size := by omega
      have CL : ∀ Y : Ext wr, Calls Try.prog 40 #[gval (n : Int) (some ⟨bb, off, none⟩) ls.length c, .int .i64 a, .int .i64 b] Y.w fun e w' => e = .returned (.int .i64 (j : Int)) ∧ Below Y.w.heap.size Y.w w' := fun Y => by
        have := l1Link_any (n : Int) (some ⟨bb, off, none⟩) ls c a b Y.w hm (((HS.out.below B1.out).below (Y.below.mono hz)).more (Nat.le_trans hz Y.below.size))
        rw [HGV.out a b] at this
        rwa [e1] at this
      generalize along (n : Int) ls (xs.take k) = q at *
      clear ha hb' hb2 e1 e2 e3 hb
      have hY := fun (x : Ext wr) (b o : Nat) (h : b < wr.heap.size) => x.cell b o h
      go_wp2_with fail
      refine wp_region_ext (by kernel_rfl) (by kernel_rfl) ?_
      repeat (go_big_quiet_step (first | (go_at_call 40; exact Calls.ext_of (CL _))))
      (refine wpQuiet_nil ?_); (rintro _ ⟨X, rfl⟩); (have hw1 := X.below); (generalize X.w = w1 at *); (clear X)
      clear hY
      have B2 := Lib.hid (B1.out.trans (hw1.mono hz))
      have G2 := Lib.hid (G1.out.below hw1 z1)
      clear hw1
      go_wp2_with fail
      go_roundw
      case rel => exact ⟨k + 1, by omega, hlt, by go_num, by rw [HAN.out], B2.out, G2.out⟩
      case measure => simp [intOf]; omega
    · obtain rfl : k = xs.length := by omega
      clear hb
      go_wp2_with fail
      go_ret
      exact ⟨ret_int HAE.out, B1.out⟩


end Go.Proofs.Ytenlofomkchlaac

/-
  Contracts over this seat: the specification's StackCompile.
-/
namespace Go.Proofs.Ytenlofomkchlaac
open Go.RowKit Go.Maps

/-- Is this way the only shortest one between its ends, as the specification asks? -/
def okI (nn : Int) (ls : List Lk) (a b : Int) (p : List Int) : Bool := decide (along nn ls p = bf nn ls a b) && decide (cntL nn.toNat ls a b = 1)
theorem okI_okP {n : Nat} {ls : List Lk} {xs : List Int} (h : PV n ls xs) {i j : Nat} {a b : Int} (ha : xs[i]? = some a) (hb : xs[j]? = some b) : okI (n : Int) ls a b (subP xs i j) = okP (n : Int) ls xs i j := by
  unfold okI okP
  rw [getD_at ha, getD_at hb, bf_symm (gvB_fit h.gv).1 (h.rng a (List.mem_of_getElem? ha)) (h.rng b (List.mem_of_getElem? hb))]

set_option maxRecDepth 100000 in
set_option maxHeartbeats 1600000 in
theorem l5only_any (n : Nat) (A : Option Addr) (ls : List Lk) (c : Nat) (b o : Nat) (p : List Int) (cx : Nat) (s t : Int) (q : Nat) (w : World) (hm : ls.length ≤ 2000000) (hv : gvB (n : Int) ls = true) (hw : Way ls p) (hp9 : p.length ≤ 9) (hq : p.length = q + 1) (hs : p[0]? = some s) (ht : p[q]? = some t)
    (hsr : 0 ≤ s ∧ s < (n : Int)) (htr : 0 ≤ t ∧ t < (n : Int)) (hS : Sl w w.heap.size A ls) (hX : Sli w w.heap.size (some ⟨b, o, none⟩) p) :
   Calls Try.prog 39 #[gval (n : Int) A ls.length c, .slice (some ⟨b, o, none⟩) p.length cx] w fun e w' => e = .returned (.bool (okI (n : Int) ls s t p)) ∧ Below w.heap.size w w' := by
  obtain ⟨hf, hn1, hn8, hl14⟩ := gvB_fit hv
  have B0 : Below w.heap.size w (w.alloc (.cells #[.int .i64 (n : Int), .slice A ls.length c] 32)) := by (repeat (first | exact Below.refl _ _ | (refine Below.alloc ?_ (by first | exact Nat.le_refl _ | omega | (simp; done) | (simp; omega)) _) | (refine Below.setCell ?_ (by first | exact Nat.le_refl _ | omega | (simp; done) | (simp; omega)) _) | exact Below.drew ‹_›))
  have HB := Lib.hid B0
  have HG := Lib.hid (Box.new w 32 #[.int .i64 (n : Int), .slice A ls.length c])
  have HE : Hid (okI (n : Int) ls s t p = (decide (along (n : Int) ls p = bf (n : Int) ls s t) && decide (((cntL n ls s t : Nat) : Int) = 1))) := Lib.hid (by
    unfold okI
    rw [Int.toNat_natCast]
    congr 1
    rw [decide_eq_decide]
    omega)
  obtain ⟨b1, o1, e1, hb1, c1⟩ := hX 0 s hs
  obtain ⟨b2, o2, e2, hb2, c2⟩ := hX q t ht
  cases e1
  cases e2
  have hsub : (p.length : Int) - 1 = (q : Int) := by omega
  have hwp : IntKind.i64.wrap (q : Int) = (q : Int) := IntWalk.i64_in _ (by omega)
  have hql : q < p.length := by omega
  have hp0 : 0 < p.length := by omega
  have x1 : (w.alloc (.cells #[.int .i64 (n : Int), .slice A ls.length c] 32)).cell? ⟨b, o, none⟩ = some (.int .i64 s) := by
    rw [← Nat.add_zero o]
    exact (B0.cell (p := ⟨b, o + 0, none⟩) hb1).trans c1
  have x2 : (w.alloc (.cells #[.int .i64 (n : Int), .slice A ls.length c] 32)).cell? ⟨b, o + q, none⟩ = some (.int .i64 t) := (B0.cell (p := ⟨b, o + q, none⟩) hb2).trans c2
  have zb : b < (w.alloc (.cells #[.int .i64 (n : Int), .slice A ls.length c] 32)).heap.size := by simp; omega
  have CA := fun W (h1 : Sl W W.heap.size A ls) (h2 : Sli W W.heap.size (some ⟨b, o, none⟩) p) => l5cost_any n A ls c (some ⟨b, o, none⟩) p cx W hm hv hw hp0 (by omega) h1 h2
  have CD := fun W (h : Sl W W.heap.size A ls) => l2d_any n A ls c s W (by omega) (by omega) hl14 hf hsr h
  have CC := fun W (h : Sl W W.heap.size A ls) => l2count_any n A ls c t hv htr _ s W hsr (Nat.le_refl _) h
  obtain ⟨tn, rfl⟩ : ∃ q : Nat, t = (q : Int) := ⟨t.toNat, by omega⟩
  have hd := fl_at (f := bf (n : Int) ls s) (show tn < n by omega)
  have hdl := fl_len n (bf (n : Int) ls s)
  have HD := Lib.hid hd
  have htn : tn < n := by omega
  have HS := Lib.hid hS
  have HX := Lib.hid hX
  have HH := Lib.hid (Below.refl w.heap.size w)
  generalize hgd : bf (n : Int) ls s (tn : Int) = dd at *
  generalize fl n (bf (n : Int) ls s) = ds at *
  generalize along (n : Int) ls p = al at *
  generalize cntL n ls s (tn : Int) = ct at *
  have hal := (List.getElem?_eq_some_iff.1 hd).1
  clear hS hX c1 c2 hb1 hb2 hs ht hq hgd hd hf hv hw HH
  go_enter Try.func39, Try.ntmps39
  go_wp2_with fail
  generalize w.alloc (.cells #[.int .i64 (n : Int), .slice A ls.length c] 32) = W0 at *
  obtain ⟨z0, e0, e1, -, -⟩ := HG.out.two
  have hz := HB.out.size
  have hX0 := fun (x : Ext W0.drew) (bb o : Nat) (h : bb < W0.heap.size) => (show x.w.cell? ⟨bb, o, none⟩ = W0.cell? ⟨bb, o, none⟩ from x.cell bb o h)
  clear x1 x2
  refine wp_region_staged 18 (by kernel_rfl) (by kernel_rfl) ?_
  refine stage_seg _ 13 [0, 1, 3, 4, 6] (by kernel_rfl) (by kernel_rfl) (by kernel_rfl) (by kernel_rfl) ?_
  (simp only [List.map_cons, List.map_nil, List.getElem?_cons_zero, List.getElem?_cons_succ, Option.getD_some]); (repeat (go_big_quiet_step (fail))); (refine wpQuiet_nil ?_)
  refine stage_call _ 12 2 (by kernel_rfl) (by rfl) (by kernel_rfl) (by rfl) ?_
  go_wp2_with fail
  refine (CA W0.drew ((Sl.below (w' := W0.drew) HS.out HB.out.drew).more hz) ((Sli.below (w' := W0.drew) HX.out HB.out.drew).more hz)).mono ?_
  clear CA
  rintro e w1 ⟨rfl, hb1⟩
  refine ⟨hb1, ?_⟩
  have B1 := Lib.hid (HB.out.drew.trans (hb1.mono hz))
  have G1 := Lib.hid (Box.below (w := W0.drew) HG.out hb1 z0)
  clear hb1 hX0 e0 e1 z0 zb
  refine stage_call _ 11 5 (by kernel_rfl) (by rfl) (by kernel_rfl) (by rfl) ?_
  go_wp2_with fail
  refine (CD w1 ((HS.out.below B1.out).more B1.out.size)).mono ?_
  clear CD
  rintro e w2 ⟨A2, g2, c2, rfl, hg2, ho2, hb2⟩
  refine ⟨hb2, ?_⟩
  have B2 := Lib.hid (B1.out.trans (hb2.mono B1.out.size))
  have G2 := Lib.hid (G1.out.below hb2 G1.out.lt)
  obtain ⟨rfl, zg, hcd⟩ := ho2.at HD.out
  clear hb2 ho2 hg2
  obtain ⟨z2, e20, e21, -, -⟩ := G2.out.two
  have hX2 := fun (x : Ext w2) (bb o : Nat) (h : bb < w2.heap.size) => x.cell bb o h
  by_cases hal : al = dd
  · have hal' : (al == dd) = true := by simp [hal]
    have HA := Lib.hid hal
    clear hal
    refine stage_seg _ 4 [7, 8, 9, 10, 11, 12, 13] (by kernel_rfl) (by kernel_rfl) (by kernel_rfl) (by kernel_rfl) ?_
    (simp only [List.map_cons, List.map_nil, List.getElem?_cons_zero, List.getElem?_cons_succ, Option.getD_some]); (repeat (go_big_quiet_step (fail))); (refine wpQuiet_nil ?_)
    refine stage_call _ 3 14 (by kernel_rfl) (by rfl) (by kernel_rfl) (by rfl) ?_
    go_wp2_with fail
    refine (CC w2 ((HS.out.below B2.out).more B2.out.size)).mono ?_
    clear CC
    rintro e w3 ⟨rfl, hb3⟩
    refine ⟨hb3, ?_⟩
    have B3 := Lib.hid (B2.out.trans (hb3.mono B2.out.size))
    clear hb3 hX2 e20 e21 z2 zg hcd
    refine stage_seg _ 0 [15, 16, 17] (by kernel_rfl) (by kernel_rfl) (by kernel_rfl) (by kernel_rfl) ?_
    (simp only [List.map_cons, List.map_nil, List.getElem?_cons_zero, List.getElem?_cons_succ, Option.getD_some]); (repeat (go_big_quiet_step (fail))); (refine wpQuiet_nil ?_)
    refine stage_end (by kernel_rfl) ?_
    go_wp2_with fail
    go_ret
    exact ⟨ret_bool (by rw [HE.out, decide_eq_true HA.out, Bool.true_and]; first | rfl | simp), B3.out⟩
  · have hal' : (al == dd) = false := by simpa using hal
    have HA := Lib.hid hal
    clear hal
    refine stage_seg _ 4 [7, 8, 9, 10, 11, 12, 13] (by kernel_rfl) (by kernel_rfl) (by kernel_rfl) (by kernel_rfl) ?_
    (simp only [List.map_cons, List.map_nil, List.getElem?_cons_zero, List.getElem?_cons_succ, Option.getD_some]); (repeat (go_big_quiet_step (fail))); (refine wpQuiet_nil ?_)
    refine stage_skip _ 3 14 (by kernel_rfl) (by rfl) (by kernel_rfl) (by rfl) ?_
    go_simp
    refine stage_seg _ 0 [15, 16, 17] (by kernel_rfl) (by kernel_rfl) (by kernel_rfl) (by kernel_rfl) ?_
    (simp only [List.map_cons, List.map_nil, List.getElem?_cons_zero, List.getElem?_cons_succ, Option.getD_some]); (repeat (go_big_quiet_step (fail))); (refine wpQuiet_nil ?_)
    refine stage_end (by kernel_rfl) ?_
    clear hX2 e20 e21 z2 zg hcd
    go_wp2_with fail
    go_ret
    exact ⟨ret_bool (by rw [HE.out, decide_eq_false HA.out]; rfl), B2.out⟩

theorem subP_way {ls : List Lk} {xs : List Int} (h : Way ls xs) {i j : Nat} : Way ls (subP xs i j) := fun k a b ha hb => by
  rw [subP_at] at ha hb
  split at ha
  · split at hb
    · exact h (i + k) a b ha (by rw [show i + k + 1 = i + (k + 1) by omega]; exact hb)
    · cases hb
  · cases ha

/-- The state of the specification's StackCompile: its labels, the graph's box. -/
structure QS (w : World) (gv : Array Value) (v : Value) (out : List Lb) (W : World) : Prop where
  row : W.ownsRow (w.heap.size + 1) 53 2 v out.length (flatB out)
  bel : Below w.heap.size w W
  box : Box W w.heap.size 32 gv
theorem QS.call {w : World} {gv : Array Value} {v : Value} {out : List Lb} {W W' : World} (h : QS w gv v out W) (hb : Below W.heap.size W W') : QS w gv v out W' :=
  ⟨owns_kept h.row hb, h.bel.trans (hb.mono h.bel.size), h.box.below hb h.box.lt⟩
theorem QS.drew {w : World} {gv : Array Value} {v : Value} {out : List Lb} {W : World} (h : QS w gv v out W) : QS w gv v out W.drew := ⟨h.row, h.bel.drew, h.box⟩
theorem QS.append {w W W' : World} {gv : Array Value} {v v' : Value} {out : List Lb} (h : QS w gv v out W) {l : Lb} {o : Obj} (hown : W'.ownsRow (w.heap.size + 1) 53 2 v' (out.length + 1) (flatB out ++ [.int .i64 l.k, .int .i64 l.a])) (hg : (W.alloc o).grownBy W' v.ownBlock) : QS w gv v' (out ++ [l]) W' := by
  have hl := h.row.lt
  have hz := h.bel.size
  have zb := h.box.lt
  refine ⟨by rw [List.length_append, flatB_append]; exact hown, ?_, ?_⟩
  · exact (h.bel.alloc hz _).grown hg (by simp; omega) (fun j e => by have := (hl j e).1; omega)
  · exact (hg.block _ (by simp; omega) (fun e => by have := (hl _ e.symm).1; omega)).trans (h.box.alloc _)

set_option maxRecDepth 100000 in
set_option maxHeartbeats 4000000 in
theorem stackCompile_spec (nn : Int) (A : Option Addr) (ls : List Lk) (c : Nat) (X : Option Addr) (xs : List Int) (cx : Nat) (w : World) (hm : ls.length ≤ 2000000) (hnu : nn ≤ 9223372036854775807) (hmx : xs.length ≤ 2000000) (hcx : xs.length ≤ cx) (hS : Sl w w.heap.size A ls) (hX : Sli w w.heap.size X xs) :
   Calls Try.prog 12 #[gval nn A ls.length c, .slice X xs.length cx] w (CmpR nn ls xs w) := by
  obtain ⟨i0, hi, hz0, hz10, hz20⟩ := info_parts infoLabel
  have B0 : Below w.heap.size w ((w.alloc (.cells #[.int .i64 nn, .slice A ls.length c] 32)).alloc (.cells #[] 53)) := by (repeat (first | exact Below.refl _ _ | (refine Below.alloc ?_ (by first | exact Nat.le_refl _ | omega | (simp; done) | (simp; omega)) _) | (refine Below.setCell ?_ (by first | exact Nat.le_refl _ | omega | (simp; done) | (simp; omega)) _) | exact Below.drew ‹_›))
  have G0 := (Box.new w 32 #[.int .i64 nn, .slice A ls.length c]).alloc (.cells #[] 53)
  have E0 := Box.new (w.alloc (.cells #[.int .i64 nn, .slice A ls.length c] 32)) 53 #[]
  rw [World.size_alloc] at E0
  have Q0 : Hid (QS w #[.int .i64 nn, .slice A ls.length c] (.slice (some ⟨w.heap.size + 1, 0, none⟩) 0 0) [] ((w.alloc (.cells #[.int .i64 nn, .slice A ls.length c] 32)).alloc (.cells #[] 53))) :=
    Lib.hid ⟨⟨by simp [flatB], .inr ⟨w.heap.size + 1, 0, #[], rfl, Nat.le_refl _, E0, Nat.le_refl _, by omega, rfl, by simp [flatB]⟩⟩, B0, G0⟩
  have C1 := pathValid_spec nn A ls c X xs cx _ hm hnu hmx ((hS.below B0).more B0.size) ((hX.below B0).more B0.size)
  have HS := Lib.hid hS
  have HX := Lib.hid hX
  clear hS hX B0 G0 E0
  cases hv : pvB nn ls xs with
  | false =>
    rw [hv] at C1
    have HE := Lib.hid (cmpI_no hv)
    have HV := Lib.hid hv
    clear hv
    go_enter Try.func12, Try.ntmps12
    go_wp2_with (go_at_call 38; refine C1.mono ?_; clear C1; rintro e w1 ⟨rfl, hb1⟩; have Q1 := Lib.hid (Q0.out.call hb1); clear hb1)
    go_returns
    unfold CmpR
    rw [HE.out, HV.out]
    exact ⟨_, w.heap.size, 0, rfl, Nat.le_refl _, fun h => by simp at h, Q1.out.bel, Nat.le_refl _⟩
  | true =>
    rw [hv] at C1
    obtain ⟨n, rfl, hp⟩ := pvB_PV hv
    have hpos := hp.pos
    have hl9 := hp.len
    obtain ⟨b, o, rfl, hbw, -⟩ := HX.out 0 _ (List.getElem?_eq_getElem hpos)
    have HE := Lib.hid (cmpI_PV hp)
    have HV := Lib.hid hv
    have hc8 : (cmpA (n : Int) ls xs).length ≤ xs.length - 1 := hp.few xs.length
    have HC8 := Lib.hid hc8
    obtain ⟨m, hm1⟩ : ∃ m, xs.length = m + 1 := ⟨xs.length - 1, by omega⟩
    have HM : Hid (xs.length - 1 = m) := Lib.hid (by omega)
    have hm8 : m ≤ 8 := by omega
    have hml : m + 1 ≤ xs.length := by omega
    have hml2 : xs.length ≤ m + 1 := by omega
    clear hm1
    have HGV : Hid (∀ a b, l1I (min a b) (max a b) ls = linkI (n : Int) ls a b) := Lib.hid (fun a b => l1I_linkI hp.gv a b)
    have HCO : Hid (∀ (i k : Nat) (s t : Int) (V : World), i ≤ k → k < xs.length → xs[i]? = some s → xs[k]? = some t → Sl V V.heap.size A ls → Sli V V.heap.size (some ⟨b, o, none⟩) xs → Calls Try.prog 39 #[gval (n : Int) A ls.length c, .slice (some ⟨b, o + i, none⟩) (k + 1 - i) (cx - i)] V fun e w' => e = .returned (.bool (okP (n : Int) ls xs i k)) ∧ Below V.heap.size V w') := Lib.hid (fun i k s t V hik hk hs ht g1 g2 => by
      have hl := subP_len (i := i) hk
      have hat := fun d => subP_at xs (i := i) (j := k) d
      have := l5only_any n A ls c b (o + i) (subP xs i k) (cx - i) s t (k - i) V hm hp.gv (subP_way hp.way) (by omega) (by omega) (by rw [hat, if_pos (by omega)]; exact hs) (by rw [hat, if_pos (by omega), show i + (k - i) = k by omega]; exact ht)
        (hp.rng s (List.mem_of_getElem? hs)) (hp.rng t (List.mem_of_getElem? ht)) g1 (g2.piece i (k + 1 - i))
      rwa [hl, okI_okP hp hs ht] at this)
    clear hv hp
    go_enter Try.func12, Try.ntmps12
    go_wp2_with (go_at_call 38; refine C1.mono ?_; clear C1; rintro e w1 ⟨rfl, hb1⟩; have Q1 := Lib.hid (Q0.out.call hb1); clear hb1)
    go_loopw [6, 7] (fun v i wr => ∃ (k : Nat) (out : List Lb), k ≤ m ∧ i = .int .i64 (k : Int) ∧ Hid (out.length ≤ k) ∧ Hid (out ++ cmpL (n : Int) ls xs xs.length k = cmpA (n : Int) ls xs) ∧ QS w #[.int .i64 (n : Int), .slice A ls.length c] v out wr) (fun _ i _ => m - (intOf i).toNat)
    case atStart => exact ⟨0, [], Nat.zero_le _, rfl, Lib.hid (by simp), Lib.hid rfl, Q1.out⟩
    case round =>
      obtain ⟨i, out, him, rfl, HLN, HO, hq⟩ := hrel
      have Q2 := Lib.hid hq
      obtain ⟨A9, g9, c9, rfl, hg9, -, ho9, hc9⟩ := own_sliceb hq.row (by have := hq.box.lt; omega)
      have hol := HLN.out
      clear hq Q0 Q1 ho9
      by_cases hi1 : i + 1 < xs.length
      · have him1 : i + 1 ≤ m := by omega
        go_wp2_with fail
        go_loopw [8] (fun e wr => ∃ k : Nat, i + 1 ≤ k ∧ k ≤ m ∧ e = .int .i64 (k : Int) ∧ Hid (growN (okP (n : Int) ls xs) m i m k = nxtN (okP (n : Int) ls xs) (xs.length - 1) i) ∧ QS w #[.int .i64 (n : Int), .slice A ls.length c] (.slice A9 out.length c9) out wr) (fun e _ => m - (intOf e).toNat)
        case atStart => exact ⟨i + 1, Nat.le_refl _, him1, by go_num, Lib.hid (by rw [HM.out]; rfl), Q2.out⟩
        case round =>
          obtain ⟨k, hik, hkm, rfl, HGR, hq⟩ := hrel
          have Q3 := Lib.hid hq
          clear hq Q2
          by_cases hk1 : k + 1 < xs.length
          · obtain ⟨s, hs⟩ : ∃ s, xs[i]? = some s := ⟨_, List.getElem?_eq_getElem (by omega)⟩
            obtain ⟨t, ht⟩ : ∃ t, xs[k + 1]? = some t := ⟨_, List.getElem?_eq_getElem hk1⟩
            have CO : ∀ V, Sl V V.heap.size A ls → Sli V V.heap.size (some ⟨b, o, none⟩) xs → Calls Try.prog 39 #[gval (n : Int) A ls.length c, .slice (some ⟨b, o + i, none⟩) (k + 2 - i) (cx - i)] V fun e w' => e = .returned (.bool (okP (n : Int) ls xs i (k + 1))) ∧ Below V.heap.size V w' := fun V g1 g2 => HCO.out i (k + 1) s t V (by omega) hk1 hs ht g1 g2
            have hkc : k + 2 ≤ cx := by omega
            have hk1i : (k : Int) + 1 < (xs.length : Int) := by omega
            have hik2 : i ≤ k + 2 := by omega
            have hicx : i < cx := by omega
            clear hs ht
            obtain ⟨zq, f0, f1, -, -⟩ := Q3.out.box.two
            have hzq := Q3.out.bel.size
            have hX := fun (x : Ext wr.drew) (bb oo : Nat) (h : bb < wr.heap.size) => (show x.w.cell? ⟨bb, oo, none⟩ = wr.cell? ⟨bb, oo, none⟩ from x.cell bb oo h)
            go_wp2_with fail
            refine wp_region_staged 14 (by kernel_rfl) (by kernel_rfl) ?_
            refine stage_seg _ 2 [0, 1, 2, 3, 4, 5, 6, 7, 8, 9, 10, 11] (by kernel_rfl) (by kernel_rfl) (by kernel_rfl) (by kernel_rfl) ?_
            (simp only [List.map_cons, List.map_nil, List.getElem?_cons_zero, List.getElem?_cons_succ, Option.getD_some]); (repeat (go_big_quiet_step (fail))); (refine wpQuiet_nil ?_)
            refine stage_call _ 1 12 (by kernel_rfl) (by rfl) (by kernel_rfl) (by rfl) ?_
            go_wp2_with fail
            refine (CO wr.drew ((Sl.below (w' := wr.drew) HS.out Q3.out.bel.drew).more hzq) ((Sli.below (w' := wr.drew) HX.out Q3.out.bel.drew).more hzq)).mono ?_
            clear CO
            rintro e w5 ⟨rfl, hb5⟩
            refine ⟨hb5, ?_⟩
            have Q := Lib.hid (Q3.out.drew.call hb5)
            clear hb5 hX f0 f1 zq hzq Q3
            cases hok : okP (n : Int) ls xs i (k + 1) with
            | true =>
              have HGN : Hid (growN (okP (n : Int) ls xs) m i m (k + 1) = nxtN (okP (n : Int) ls xs) (xs.length - 1) i) := Lib.hid ((growN_go (by omega) ⟨by omega, hok⟩).trans HGR.out)
              clear hok
              refine stage_seg _ 0 [13] (by kernel_rfl) (by kernel_rfl) (by kernel_rfl) (by kernel_rfl) ?_
              (simp only [List.map_cons, List.map_nil, List.getElem?_cons_zero, List.getElem?_cons_succ, Option.getD_some]); (repeat (go_big_quiet_step (fail))); (refine wpQuiet_nil ?_)
              refine stage_end (by kernel_rfl) ?_
              go_wp2_with fail
              go_roundw
              case rel => exact ⟨k + 1, by omega, by omega, by go_num, HGN, Q.out⟩
              case measure => simp [intOf]; omega
            | false =>
              have HN : Hid (nxtN (okP (n : Int) ls xs) (xs.length - 1) i = k) := Lib.hid (HGR.out.symm.trans (growN_stop (fun h => by rw [hok] at h; cases h.2)))
              clear hok HGR
              refine stage_seg _ 0 [13] (by kernel_rfl) (by kernel_rfl) (by kernel_rfl) (by kernel_rfl) ?_
              (simp only [List.map_cons, List.map_nil, List.getElem?_cons_zero, List.getElem?_cons_succ, Option.getD_some]); (repeat (go_big_quiet_step (fail))); (refine wpQuiet_nil ?_)
              refine stage_end (by kernel_rfl) ?_
              obtain ⟨s, hs⟩ : ∃ s, xs[i]? = some s := ⟨_, List.getElem?_eq_getElem (by omega)⟩
              obtain ⟨t, ht⟩ : ∃ t, xs[k]? = some t := ⟨_, List.getElem?_eq_getElem (by omega)⟩
              have HSI := Lib.hid hs
              have HTK := Lib.hid ht
              have hkc : k + 1 ≤ cx := by omega
              have hik1 : i ≤ k + 1 := by omega
              have hicx : i < cx := by omega
              have hslen : k + 1 - i = (subP xs i k).length := (subP_len (by omega)).symm
              have CO : ∀ V, Sl V V.heap.size A ls → Sli V V.heap.size (some ⟨b, o, none⟩) xs → Calls Try.prog 39 #[gval (n : Int) A ls.length c, .slice (some ⟨b, o + i, none⟩) (k + 1 - i) (cx - i)] V fun e w' => e = .returned (.bool (okP (n : Int) ls xs i k)) ∧ Below V.heap.size V w' := fun V g1 g2 => HCO.out i k s t V (by omega) (by omega) HSI.out HTK.out g1 g2
              clear hs ht hslen
              obtain ⟨zq, f0, f1, -, -⟩ := Q.out.box.two
              have hzq := Q.out.bel.size
              have hX := fun (x : Ext w5.drew) (bb oo : Nat) (h : bb < w5.heap.size) => (show x.w.cell? ⟨bb, oo, none⟩ = w5.cell? ⟨bb, oo, none⟩ from x.cell bb oo h)
              go_wp2_with fail
              refine wp_region_staged 7 (by kernel_rfl) (by kernel_rfl) ?_
              refine stage_seg _ 1 [0, 1, 2, 3, 4, 5] (by kernel_rfl) (by kernel_rfl) (by kernel_rfl) (by kernel_rfl) ?_
              (simp only [List.map_cons, List.map_nil, List.getElem?_cons_zero, List.getElem?_cons_succ, Option.getD_some]); (repeat (go_big_quiet_step (fail))); (refine wpQuiet_nil ?_)
              refine stage_call _ 0 6 (by kernel_rfl) (by rfl) (by kernel_rfl) (by rfl) ?_
              go_wp2_with fail
              refine (CO w5.drew ((Sl.below (w' := w5.drew) HS.out Q.out.bel.drew).more hzq) ((Sli.below (w' := w5.drew) HX.out Q.out.bel.drew).more hzq)).mono ?_
              clear CO
              rintro e w7 ⟨rfl, hb7⟩
              refine ⟨hb7, ?_⟩
              have Q7 := Lib.hid (Q.out.drew.call hb7)
              clear hb7 hX f0 f1 zq hzq
              refine stage_end (by kernel_rfl) ?_
              have hkl : k < xs.length := by omega
              have hil : i < xs.length := by omega
              have hz7 := Q7.out.bel.size
              have zq7 := Q7.out.box.lt
              cases hok : okP (n : Int) ls xs i k with
              | true =>
                obtain ⟨b3, o3, e3, hb3, c3⟩ := (HX.out.below Q7.out.bel) k t HTK.out
                cases e3
                have zb7 : b < w7.heap.size := by omega
                have HMK : Hid (mkL (n : Int) ls xs i k = ⟨1, t⟩) := Lib.hid (by unfold mkL; rw [if_pos hok, getD_at HTK.out])
                have HNX : Hid ((out ++ [⟨1, t⟩]) ++ cmpL (n : Int) ls xs xs.length k = cmpA (n : Int) ls xs) := Lib.hid (by
                  have h1 := HO.out
                  rw [cmpA_next (by omega), HN.out, HMK.out] at h1
                  rw [← h1]
                  simp)
                clear hok
                go_wp2_with (at_builtin; refine wpList_append_own_at _ rfl _ _ 27 rfl (w.heap.size + 1) 53 i0 _ 2 16 Try.underlying27 hi hz0 hz10 hz20 rfl (by decide) _ out.length _ rfl (Q7.out.row.alloc _) ⟨w7.heap.size, 0, none⟩ 1 1 [.int .i64 1, .int .i64 t] rfl rfl (new2 _ _ _ _) (one2 _ _) (by unfold maxLen; omega) (by omega) (by simp; omega) ?_; intro v' w8 hown' hgrow hnil hat; have Q8 := Lib.hid (Q7.out.append (l := ⟨1, t⟩) hown' hgrow); clear hown' hgrow hnil hat)
                go_roundw
                case rel => exact ⟨k, out ++ [⟨1, t⟩], by omega, rfl, Lib.hid (by simp; omega), HNX, Q8.out⟩
                case measure => simp [intOf]; omega
              | false =>
                obtain rfl : k = i + 1 := by
                  rcases nxtN_ok (okP (n : Int) ls xs) m i with h | h
                  · rw [← HN.out, HM.out]; exact h
                  · have h1 := HN.out
                    rw [HM.out] at h1
                    rw [h1, hok] at h
                    cases h
                obtain ⟨b3, o3, e3, hb3, c3⟩ := (HX.out.below Q7.out.bel) (i + 1) t HTK.out
                cases e3
                obtain ⟨b4, o4, e4, _, c4⟩ := (HX.out.below Q7.out.bel) i s HSI.out
                cases e4
                have zb7 : b < w.heap.size + 1 := by omega
                have zw7 : w.heap.size < w.heap.size + 1 := by omega
                have HMK : Hid (mkL (n : Int) ls xs i (i + 1) = ⟨2, linkI (n : Int) ls s t⟩) := Lib.hid (by unfold mkL; rw [hok, if_neg Bool.false_ne_true, getD_at HSI.out, getD_at HTK.out])
                have HNX : Hid ((out ++ [⟨2, linkI (n : Int) ls s t⟩]) ++ cmpL (n : Int) ls xs xs.length (i + 1) = cmpA (n : Int) ls xs) := Lib.hid (by
                  have h1 := HO.out
                  rw [cmpA_next (by omega), HN.out, HMK.out] at h1
                  rw [← h1]
                  simp)
                have CL := l1Link_any (n : Int) A ls c s t w7.drew hm ((Sl.below (w' := w7.drew) HS.out Q7.out.bel.drew).more hz7)
                rw [HGV.out s t] at CL
                have f70 := Q7.out.box.cell 0
                have f71 := Q7.out.box.cell 1
                generalize linkI (n : Int) ls s t = lk at *
                clear hok HMK
                go_wp2_with fail
                have hX7 := fun (x : ExtB (w.heap.size + 1) w7.drew) (bb oo : Nat) (h : bb < w.heap.size + 1) => (show x.w.cell? ⟨bb, oo, none⟩ = w7.cell? ⟨bb, oo, none⟩ from x.cell bb oo h)
                refine wp_region_stg 15 (w.heap.size + 1) (by kernel_rfl) (by kernel_rfl) ?_
                refine stg_seg _ 5 [0, 1, 2, 3, 4, 5, 6, 7, 8, 9] (by kernel_rfl) (by kernel_rfl) (by kernel_rfl) (by kernel_rfl) ?_
                (simp only [List.map_cons, List.map_nil, List.getElem?_cons_zero, List.getElem?_cons_succ, Option.getD_some]); (repeat (go_big_quiet_step (fail))); (refine wpQuiet_nil ?_)
                refine stg_one _ 4 10 (by kernel_rfl) (by rfl) (by kernel_rfl) (by rfl) ?_
                go_wp2_with fail
                refine CL.mono ?_
                clear CL
                rintro e w9 ⟨rfl, hb9⟩
                refine ⟨hb9.mono zq7, w.heap.size + 1, Nat.le_refl _, ?_⟩
                have Q9 := Lib.hid (Q7.out.drew.call hb9)
                have hz9 := Q9.out.bel.size
                have zq9 := Q9.out.box.lt
                clear hb9 hX7 c3 c4 zb7 zw7 f70 f71
                refine stg_one _ 3 11 (by kernel_rfl) (by rfl) (by kernel_rfl) (by rfl) ?_
                go_wp2_with fail
                refine ⟨Below.refl _ _, w.heap.size + 1, Nat.le_refl _, ?_⟩
                refine stg_one _ 2 12 (by kernel_rfl) (by rfl) (by kernel_rfl) (by rfl) ?_
                go_wp2_with fail
                refine ⟨(Below.refl _ _).alloc zq9 _, w.heap.size + 1, Nat.le_refl _, ?_⟩
                refine stg_one _ 1 13 (by kernel_rfl) (by rfl) (by kernel_rfl) (by rfl) ?_
                refine wp_append_own _ _ _ 27 rfl (w.heap.size + 1) 53 i0 _ 2 16 Try.underlying27 hi hz0 hz10 hz20 rfl (by decide) _ out.length _ rfl (Q9.out.row.alloc _) ⟨w9.heap.size, 0, none⟩ 1 1 [.int .i64 2, .int .i64 lk] rfl rfl (new2 _ _ _ _) (one2 _ _) (by unfold maxLen; omega) (by omega) (by simp; omega) ?_
                intro v' w10 hown' hgrow _
                refine ⟨(Below.refl _ _).grown hgrow (by simp; omega) (fun j e => (Q9.out.row.lt j e).1), w.heap.size + 1, Nat.le_refl _, ?_⟩
                have Q10 := Lib.hid (Q9.out.append (l := ⟨2, lk⟩) hown' hgrow)
                clear hown' hgrow
                go_simp
                refine stg_seg _ 0 [14] (by kernel_rfl) (by kernel_rfl) (by kernel_rfl) (by kernel_rfl) ?_
                (simp only [List.map_cons, List.map_nil, List.getElem?_cons_zero, List.getElem?_cons_succ, Option.getD_some]); (repeat (go_big_quiet_step (fail))); (refine wpQuiet_nil ?_)
                refine stg_end (by kernel_rfl) ?_
                go_wp2_with fail
                go_roundw
                case rel => exact ⟨i + 1, out ++ [⟨2, lk⟩], by omega, by go_num, Lib.hid (by simp; omega), HNX, Q10.out⟩
                case measure => simp [intOf]; omega
          · have HN : Hid (nxtN (okP (n : Int) ls xs) (xs.length - 1) i = k) := Lib.hid (HGR.out.symm.trans (growN_stop (fun h => by omega)))
            clear HGR
            have hk1i : decide ((k : Int) + 1 < (xs.length : Int)) = false := by rw [decide_eq_false_iff_not]; omega
            go_wp2_with fail
            have hX := fun (x : Ext wr.drew) (bb oo : Nat) (h : bb < wr.heap.size) => (show x.w.cell? ⟨bb, oo, none⟩ = wr.cell? ⟨bb, oo, none⟩ from x.cell bb oo h)
            refine wp_region_staged 14 (by kernel_rfl) (by kernel_rfl) ?_
            refine stage_seg _ 2 [0, 1, 2, 3, 4, 5, 6, 7, 8, 9, 10, 11] (by kernel_rfl) (by kernel_rfl) (by kernel_rfl) (by kernel_rfl) ?_
            (simp only [List.map_cons, List.map_nil, List.getElem?_cons_zero, List.getElem?_cons_succ, Option.getD_some]); (repeat (go_big_quiet_step (fail))); (refine wpQuiet_nil ?_)
            refine stage_skip _ 1 12 (by kernel_rfl) (by rfl) (by kernel_rfl) (by rfl) ?_
            go_simp
            refine stage_seg _ 0 [13] (by kernel_rfl) (by kernel_rfl) (by kernel_rfl) (by kernel_rfl) ?_
            (simp only [List.map_cons, List.map_nil, List.getElem?_cons_zero, List.getElem?_cons_succ, Option.getD_some]); (repeat (go_big_quiet_step (fail))); (refine wpQuiet_nil ?_)
            refine stage_end (by kernel_rfl) ?_
            clear hX
            have Q := Lib.hid Q3.out.drew
            generalize wr.drew = w5 at *
            clear Q3
            obtain ⟨s, hs⟩ : ∃ s, xs[i]? = some s := ⟨_, List.getElem?_eq_getElem (by omega)⟩
            obtain ⟨t, ht⟩ : ∃ t, xs[k]? = some t := ⟨_, List.getElem?_eq_getElem (by omega)⟩
            have HSI := Lib.hid hs
            have HTK := Lib.hid ht
            have hkc : k + 1 ≤ cx := by omega
            have hik1 : i ≤ k + 1 := by omega
            have hicx : i < cx := by omega
            have hslen : k + 1 - i = (subP xs i k).length := (subP_len (by omega)).symm
            have CO : ∀ V, Sl V V.heap.size A ls → Sli V V.heap.size (some ⟨b, o, none⟩) xs → Calls Try.prog 39 #[gval (n : Int) A ls.length c, .slice (some ⟨b, o + i, none⟩) (k + 1 - i) (cx - i)] V fun e w' => e = .returned (.bool (okP (n : Int) ls xs i k)) ∧ Below V.heap.size V w' := fun V g1 g2 => HCO.out i k s t V (by omega) (by omega) HSI.out HTK.out g1 g2
            clear hs ht hslen
            obtain ⟨zq, f0, f1, -, -⟩ := Q.out.box.two
            have hzq := Q.out.bel.size
            have hX := fun (x : Ext w5.drew) (bb oo : Nat) (h : bb < w5.heap.size) => (show x.w.cell? ⟨bb, oo, none⟩ = w5.cell? ⟨bb, oo, none⟩ from x.cell bb oo h)
            go_wp2_with fail
            refine wp_region_staged 7 (by kernel_rfl) (by kernel_rfl) ?_
            refine stage_seg _ 1 [0, 1, 2, 3, 4, 5] (by kernel_rfl) (by kernel_rfl) (by kernel_rfl) (by kernel_rfl) ?_
            (simp only [List.map_cons, List.map_nil, List.getElem?_cons_zero, List.getElem?_cons_succ, Option.getD_some]); (repeat (go_big_quiet_step (fail))); (refine wpQuiet_nil ?_)
            refine stage_call _ 0 6 (by kernel_rfl) (by rfl) (by kernel_rfl) (by rfl) ?_
            go_wp2_with fail
            refine (CO w5.drew ((Sl.below (w' := w5.drew) HS.out Q.out.bel.drew).more hzq) ((Sli.below (w' := w5.drew) HX.out Q.out.bel.drew).more hzq)).mono ?_
            clear CO
            rintro e w7 ⟨rfl, hb7⟩
            refine ⟨hb7, ?_⟩
            have Q7 := Lib.hid (Q.out.drew.call hb7)
            clear hb7 hX f0 f1 zq hzq
            refine stage_end (by kernel_rfl) ?_
            have hkl : k < xs.length := by omega
            have hil : i < xs.length := by omega
            have hz7 := Q7.out.bel.size
            have zq7 := Q7.out.box.lt
            cases hok : okP (n : Int) ls xs i k with
            | true =>
              obtain ⟨b3, o3, e3, hb3, c3⟩ := (HX.out.below Q7.out.bel) k t HTK.out
              cases e3
              have zb7 : b < w7.heap.size := by omega
              have HMK : Hid (mkL (n : Int) ls xs i k = ⟨1, t⟩) := Lib.hid (by unfold mkL; rw [if_pos hok, getD_at HTK.out])
              have HNX : Hid ((out ++ [⟨1, t⟩]) ++ cmpL (n : Int) ls xs xs.length k = cmpA (n : Int) ls xs) := Lib.hid (by
                have h1 := HO.out
                rw [cmpA_next (by omega), HN.out, HMK.out] at h1
                rw [← h1]
                simp)
              clear hok
              go_wp2_with (at_builtin; refine wpList_append_own_at _ rfl _ _ 27 rfl (w.heap.size + 1) 53 i0 _ 2 16 Try.underlying27 hi hz0 hz10 hz20 rfl (by decide) _ out.length _ rfl (Q7.out.row.alloc _) ⟨w7.heap.size, 0, none⟩ 1 1 [.int .i64 1, .int .i64 t] rfl rfl (new2 _ _ _ _) (one2 _ _) (by unfold maxLen; omega) (by omega) (by simp; omega) ?_; intro v' w8 hown' hgrow hnil hat; have Q8 := Lib.hid (Q7.out.append (l := ⟨1, t⟩) hown' hgrow); clear hown' hgrow hnil hat)
              go_roundw
              case rel => exact ⟨k, out ++ [⟨1, t⟩], by omega, rfl, Lib.hid (by simp; omega), HNX, Q8.out⟩
              case measure => simp [intOf]; omega
            | false =>
              obtain rfl : k = i + 1 := by
                rcases nxtN_ok (okP (n : Int) ls xs) m i with h | h
                · rw [← HN.out, HM.out]; exact h
                · have h1 := HN.out
                  rw [HM.out] at h1
                  rw [h1, hok] at h
                  cases h
              obtain ⟨b3, o3, e3, hb3, c3⟩ := (HX.out.below Q7.out.bel) (i + 1) t HTK.out
              cases e3
              obtain ⟨b4, o4, e4, _, c4⟩ := (HX.out.below Q7.out.bel) i s HSI.out
              cases e4
              have zb7 : b < w.heap.size + 1 := by omega
              have zw7 : w.heap.size < w.heap.size + 1 := by omega
              have HMK : Hid (mkL (n : Int) ls xs i (i + 1) = ⟨2, linkI (n : Int) ls s t⟩) := Lib.hid (by unfold mkL; rw [hok, if_neg Bool.false_ne_true, getD_at HSI.out, getD_at HTK.out])
              have HNX : Hid ((out ++ [⟨2, linkI (n : Int) ls s t⟩]) ++ cmpL (n : Int) ls xs xs.length (i + 1) = cmpA (n : Int) ls xs) := Lib.hid (by
                have h1 := HO.out
                rw [cmpA_next (by omega), HN.out, HMK.out] at h1
                rw [← h1]
                simp)
              have CL := l1Link_any (n : Int) A ls c s t w7.drew hm ((Sl.below (w' := w7.drew) HS.out Q7.out.bel.drew).more hz7)
              rw [HGV.out s t] at CL
              have f70 := Q7.out.box.cell 0
              have f71 := Q7.out.box.cell 1
              generalize linkI (n : Int) ls s t = lk at *
              clear hok HMK
              go_wp2_with fail
              have hX7 := fun (x : ExtB (w.heap.size + 1) w7.drew) (bb oo : Nat) (h : bb < w.heap.size + 1) => (show x.w.cell? ⟨bb, oo, none⟩ = w7.cell? ⟨bb, oo, none⟩ from x.cell bb oo h)
              refine wp_region_stg 15 (w.heap.size + 1) (by kernel_rfl) (by kernel_rfl) ?_
              refine stg_seg _ 5 [0, 1, 2, 3, 4, 5, 6, 7, 8, 9] (by kernel_rfl) (by kernel_rfl) (by kernel_rfl) (by kernel_rfl) ?_
              (simp only [List.map_cons, List.map_nil, List.getElem?_cons_zero, List.getElem?_cons_succ, Option.getD_some]); (repeat (go_big_quiet_step (fail))); (refine wpQuiet_nil ?_)
              refine stg_one _ 4 10 (by kernel_rfl) (by rfl) (by kernel_rfl) (by rfl) ?_
              go_wp2_with fail
              refine CL.mono ?_
              clear CL
              rintro e w9 ⟨rfl, hb9⟩
              refine ⟨hb9.mono zq7, w.heap.size + 1, Nat.le_refl _, ?_⟩
              have Q9 := Lib.hid (Q7.out.drew.call hb9)
              have hz9 := Q9.out.bel.size
              have zq9 := Q9.out.box.lt
              clear hb9 hX7 c3 c4 zb7 zw7 f70 f71
              refine stg_one _ 3 11 (by kernel_rfl) (by rfl) (by kernel_rfl) (by rfl) ?_
              go_wp2_with fail
              refine ⟨Below.refl _ _, w.heap.size + 1, Nat.le_refl _, ?_⟩
              refine stg_one _ 2 12 (by kernel_rfl) (by rfl) (by kernel_rfl) (by rfl) ?_
              go_wp2_with fail
              refine ⟨(Below.refl _ _).alloc zq9 _, w.heap.size + 1, Nat.le_refl _, ?_⟩
              refine stg_one _ 1 13 (by kernel_rfl) (by rfl) (by kernel_rfl) (by rfl) ?_
              refine wp_append_own _ _ _ 27 rfl (w.heap.size + 1) 53 i0 _ 2 16 Try.underlying27 hi hz0 hz10 hz20 rfl (by decide) _ out.length _ rfl (Q9.out.row.alloc _) ⟨w9.heap.size, 0, none⟩ 1 1 [.int .i64 2, .int .i64 lk] rfl rfl (new2 _ _ _ _) (one2 _ _) (by unfold maxLen; omega) (by omega) (by simp; omega) ?_
              intro v' w10 hown' hgrow _
              refine ⟨(Below.refl _ _).grown hgrow (by simp; omega) (fun j e => (Q9.out.row.lt j e).1), w.heap.size + 1, Nat.le_refl _, ?_⟩
              have Q10 := Lib.hid (Q9.out.append (l := ⟨2, lk⟩) hown' hgrow)
              clear hown' hgrow
              go_simp
              refine stg_seg _ 0 [14] (by kernel_rfl) (by kernel_rfl) (by kernel_rfl) (by kernel_rfl) ?_
              (simp only [List.map_cons, List.map_nil, List.getElem?_cons_zero, List.getElem?_cons_succ, Option.getD_some]); (repeat (go_big_quiet_step (fail))); (refine wpQuiet_nil ?_)
              refine stg_end (by kernel_rfl) ?_
              go_wp2_with fail
              go_roundw
              case rel => exact ⟨i + 1, out ++ [⟨2, lk⟩], by omega, by go_num, Lib.hid (by simp; omega), HNX, Q10.out⟩
              case measure => simp [intOf]; omega
      · have HNE : Hid (cmpL (n : Int) ls xs xs.length i = []) := Lib.hid (cmpA_end (by omega))
        have HOE : Hid (cmpI (n : Int) ls xs = out) := Lib.hid (by
          have h1 := HO.out
          rw [HNE.out, List.append_nil] at h1
          rw [HE.out, h1])
        obtain ⟨A8, g8, c8, e8, hg8, -, ho8, hc8'⟩ := own_sliceb Q2.out.row (by have := Q2.out.box.lt; omega)
        cases e8
        have O8 := Lib.hid ho8
        clear ho8
        go_wp2_with fail
        go_returns
        unfold CmpR
        rw [HOE.out, HV.out]
        exact ⟨A9, g8, c9, rfl, by omega, O8.out, Q2.out.bel, hc8'⟩

end Go.Proofs.Ytenlofomkchlaac
