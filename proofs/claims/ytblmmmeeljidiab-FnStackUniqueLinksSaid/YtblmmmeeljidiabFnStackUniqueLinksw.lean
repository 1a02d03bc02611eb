/-
  The walk of FnStackUniqueLinks over this seat.
-/
import Derived.Test.YtblmmmeeljidiabLd
namespace Go.Proofs.Ytblmmmeeljidiab
open Go.RowKit Go.Maps

set_option maxRecDepth 100000 in
set_option maxHeartbeats 1600000 in
theorem fnStackUniqueLinks_walk (A : Option Addr) (len c : Nat) (f : Nat → Int) (w : World) (hlc : len ≤ c) (hc : c ≤ maxLen) (hB : Byt w w.heap.size A len f) :
   Calls Try.prog 9 #[.slice A len c] w fun e w' => e = .returned (.bool true) ∧ Below w.heap.size w w' := by
  have HB := Lib.hid hB
  clear hB
  by_cases hl : len ≤ 1048576
  · go_enter Try.func9, Try.ntmps9
    go_wp2_with fail
    refine (drawStackEnd_any A len c f w hlc hc HB.out).mono ?_
    rintro e w1 ⟨n, ls, A1, g1, c1, x, st, _, gx, cx, rfl, ⟨hn0, hn1, hls, hg1, ho1, hb1⟩, hx0, hx1, hs9, hok, hox, hgx, hcx, rfl, hgl⟩
    have L1 := Lib.hid (show LC w w1.heap.size n ls A1 g1 c1 (some ⟨gx, 0, none⟩) gx st (w1.alloc (.cells #[.int .i64 n, .slice A1 ls.length c1] 25)) from ⟨⟨Box.new w1 _ _, ho1.alloc _, hb1.alloc hb1.size _⟩, hox.alloc _⟩)
    clear ho1 hb1 HB hox hok
    generalize hG : w1.heap.size = G at *
    have CI := fun W (h1 : Sl W W.heap.size A1 ls) (h2 : Slb W W.heap.size (some ⟨gx, 0, none⟩) st) => stackEnd_impl n A1 ls c1 x (some ⟨gx, 0, none⟩) st cx W (by omega) (by omega) h1 h2
    have CS := fun W (h1 : Sl W W.heap.size A1 ls) (h2 : Slb W W.heap.size (some ⟨gx, 0, none⟩) st) => stackEnd_spec n A1 ls c1 x (some ⟨gx, 0, none⟩) st cx W (by omega) (by omega) (by omega) h1 h2
    cases ho : endI n ls x st with
    | none =>
      simp only [ho, stepV] at CI CS
      clear ho
      go_wp2_with fail
      refine (CI _ L1.out.sl L1.out.slb).mono ?_
      rintro e w2 ⟨rfl, hb2⟩
      have L2 := Lib.hid (L1.out.call hb2)
      clear hb2 L1
      clear hG
      obtain ⟨z2, c20, c21, -, -⟩ := L2.out.1.1.two
      go_wp2_with fail
      refine (CS _ L2.out.sl L2.out.slb).mono ?_
      rintro e w3 ⟨rfl, hb3⟩
      have L3 := Lib.hid (L2.out.call hb3)
      clear hb3 L2
      go_wp2_with fail
      go_ret
      exact ⟨rfl, L3.out.1.2.2⟩
    | some z =>
      simp only [ho, stepV] at CI CS
      have HO := Lib.hid ho
      clear ho
      go_wp2_with fail
      refine (CI _ L1.out.sl L1.out.slb).mono ?_
      rintro e w2 ⟨rfl, hb2⟩
      have L2 := Lib.hid (L1.out.call hb2)
      clear hb2 L1
      clear hG
      obtain ⟨z2, c20, c21, -, -⟩ := L2.out.1.1.two
      go_wp2_with fail
      refine (CS _ L2.out.sl L2.out.slb).mono ?_
      rintro e w3 ⟨rfl, hb3⟩
      have L3 := Lib.hid (L2.out.call hb3)
      clear hb3 L2
      clear z2 c20 c21
      obtain ⟨z3, c30, c31, -, -⟩ := L3.out.1.1.two
      have hss : (endI n ls x st).isSome = true := by rw [HO.out]; rfl
      have hpos : 0 < (pathS n ls x st).length := by rw [pathS_some hss]; simp
      obtain ⟨m, z', rfl, hg, -, h0, -, hway⟩ := pathS_facts hpos
      obtain ⟨_, _, e, -, hx, -, -, -⟩ := endI_inv hss
      obtain rfl := Int.ofNat_inj.1 e
      have CP := fun W (h1 : Sl W W.heap.size A1 ls) (h2 : Slb W W.heap.size (some ⟨gx, 0, none⟩) st) => stackPath_impl (m : Int) A1 ls c1 x (some ⟨gx, 0, none⟩) st cx W (by omega) (by omega) h1 h2
      have hpl : (pathS (m : Int) ls x st).length ≤ 57 := pathS_len _ _ _ _
      generalize pathS (m : Int) ls x st = xs at *
      have HLK : Hid (∀ (k : Nat) (a b : Int), xs[k]? = some a → xs[k + 1]? = some b → labs (m : Int) ls xs (k + 1) = labs (m : Int) ls xs k ++ [⟨2, linkI (m : Int) ls a b⟩]) := Lib.hid (fun k a b ha hb => labs_succ ha hb)
      have HUN : Hid (∀ k, k < xs.length → k ≤ 8 → uniqS (m : Int) ls x (labs (m : Int) ls xs k) = true) := Lib.hid (fun k h1 h2 => labs_unique hg hway hx h0 h1 h2)
      have HLN : Hid (∀ k, (labs (m : Int) ls xs k).length = k) := Lib.hid (fun k => labs_len _ _ _ k)
      have HL0 : Hid (labs (m : Int) ls xs 0 = []) := Lib.hid rfl
      obtain ⟨i0, hi, hz0, hz10, hz20⟩ := info_parts infoLabel
      clear hss e hg hway h0 HO
      go_wp2_with fail
      refine (CP _ L3.out.sl L3.out.slb).mono ?_
      rintro e w4 ⟨A4, g4, c4, rfl, hg4, ho4, hb4, -⟩
      have L4 := Lib.hid (L3.out.call hb4)
      have P4 := Lib.hid ho4
      clear hb4 ho4 L3 z3 c30 c31 CP hg4
      have N4 := Box.new w4 40 #[]
      have R4 : World.ownsRow (w4.alloc (.cells #[] 40)) w4.heap.size 40 2 (.slice (some ⟨w4.heap.size, 0, none⟩) 0 0) (labs (m : Int) ls xs 0).length (flatB (labs (m : Int) ls xs 0)) := ⟨by simp [labs, flatB], .inr ⟨w4.heap.size, 0, #[], rfl, Nat.le_refl _, N4, Nat.le_refl _, by omega, rfl, by simp [labs, flatB]⟩⟩
      have RR := Lib.hid R4
      have B4 := Lib.hid ((Below.refl w4.heap.size w4).alloc (Nat.le_refl _) (.cells #[] 40))
      clear N4 R4
      go_wp2_with fail
      go_loopw [11, 12] (fun v i wr => ∃ k : Nat, k < xs.length ∧ k ≤ 8 ∧ i = .int .i64 ((k : Int) + 1) ∧ wr.ownsRow w4.heap.size 40 2 v (labs (m : Int) ls xs k).length (flatB (labs (m : Int) ls xs k)) ∧ Below w4.heap.size w4 wr) (fun _ i _ => 10 - (intOf i).toNat)
      case atStart => exact ⟨0, hpos, by omega, rfl, RR.out, B4.out⟩
      case round =>
        obtain ⟨k, hk, hk8, rfl, hrow, hb⟩ := hrel
        have HR := Lib.hid hrow
        have HBW := Lib.hid hb
        have L6 := Lib.hid (L4.out.call hb)
        have P6 := Lib.hid (P4.out.below hb)
        have hln := HLN.out k
        have hwz := hb.size
        clear hrow hb RR B4
        obtain ⟨z6, c60, c61, -, -⟩ := L6.out.1.1.two
        by_cases hlt : k + 1 < xs.length ∧ k + 1 ≤ 8
        · obtain ⟨hlt, hlt8⟩ := hlt
          have hsub : (k : Int) + 1 - 1 = (k : Int) := by omega
          have hwp : IntKind.i64.wrap (k : Int) = (k : Int) := IntWalk.i64_in _ (by omega)
          obtain ⟨a, ha⟩ : ∃ a, xs[k]? = some a := ⟨_, List.getElem?_eq_getElem hk⟩
          obtain ⟨b, hb⟩ : ∃ b, xs[k + 1]? = some b := ⟨_, List.getElem?_eq_getElem hlt⟩
          have hnx := HLK.out k a b ha hb
          have CL := fun W (h : Sl W W.heap.size A1 ls) => link_impl (m : Int) A1 ls c1 a b W (by omega) h
          generalize linkI (m : Int) ls a b = j at *
          have HNX := Lib.hid hnx
          obtain ⟨rfl, zg, hca⟩ := P4.out.at ha
          obtain ⟨-, -, hcb⟩ := P4.out.at hb
          have zw4 := L4.out.1.1.lt
          have hGX0 := L4.out.1.1.cell 0
          have hGX1 := L4.out.1.1.cell 1
          have PD := Lib.hid L6.out.drew
          have RD := Lib.hid (show wr.drew.ownsRow w4.heap.size 40 2 _ (labs (m : Int) ls xs k).length (flatB (labs (m : Int) ls xs k)) from HR.out)
          have BD := Lib.hid HBW.out.drew
          have e60 : wr.cell? ⟨G, 0, none⟩ = some (.int .i64 (m : Int)) := c60
          have hxa : wr.cell? ⟨g4, k, none⟩ = some (.int .i64 a) := (HBW.out.cell (p := ⟨g4, k, none⟩) zg).trans hca
          have hxb : wr.cell? ⟨g4, k + 1, none⟩ = some (.int .i64 b) := (HBW.out.cell (p := ⟨g4, k + 1, none⟩) zg).trans hcb
          have zgr : g4 < wr.heap.size := Nat.lt_of_lt_of_le zg hwz
          clear ha hb hnx hca hcb hGX0 hGX1
          go_wp2_with fail
          have hX := fun (x : ExtB w4.heap.size wr.drew) (bb o : Nat) (h : bb < w4.heap.size) => (show x.w.cell? ⟨bb, o, none⟩ = wr.cell? ⟨bb, o, none⟩ from x.cell bb o h)
          refine wp_region_stg 16 w4.heap.size (by kernel_rfl) (by kernel_rfl) ?_
          refine stg_seg _ 5 [0, 1, 2, 3, 4, 5, 6, 7, 8, 9, 10] (by kernel_rfl) (by kernel_rfl) (by kernel_rfl) (by kernel_rfl) ?_
          (simp only [List.map_cons, List.map_nil, List.getElem?_cons_zero, List.getElem?_cons_succ, Option.getD_some]); (repeat (go_big_quiet_step (fail))); (refine wpQuiet_nil ?_)
          refine stg_one _ 4 11 (by kernel_rfl) (by rfl) (by kernel_rfl) (by rfl) ?_
          go_wp2_with fail
          refine (CL wr.drew PD.out.sl).mono ?_
          rintro e w7 ⟨rfl, hb7⟩
          refine ⟨hb7.mono hwz, w4.heap.size, Nat.le_refl _, ?_⟩
          have R7 := Lib.hid (owns_kept RD.out hb7)
          have B7 := Lib.hid (BD.out.trans (hb7.mono hwz))
          have hz7 := B7.out.size
          clear hb7 hX CL
          refine stg_one _ 3 12 (by kernel_rfl) (by rfl) (by kernel_rfl) (by rfl) ?_
          go_wp2_with fail
          refine ⟨Below.refl _ _, w4.heap.size, Nat.le_refl _, ?_⟩
          refine stg_one _ 2 13 (by kernel_rfl) (by rfl) (by kernel_rfl) (by rfl) ?_
          go_wp2_with fail
          refine ⟨(Below.refl _ _).alloc hz7 _, w4.heap.size, Nat.le_refl _, ?_⟩
          refine stg_one _ 1 14 (by kernel_rfl) (by rfl) (by kernel_rfl) (by rfl) ?_
          refine wp_append_own _ _ _ 26 rfl w4.heap.size 40 i0 _ 2 16 Try.underlying26 hi hz0 hz10 hz20 rfl (by decide) _ (labs (m : Int) ls xs k).length _ rfl (R7.out.alloc _) ⟨w7.heap.size, 0, none⟩ 1 1 [.int .i64 2, .int .i64 j] rfl rfl (new2 _ _ _ _) (one2 _ _) (by unfold maxLen; omega) (by omega) (by simp; omega) ?_
          intro v' w8 hown' hgrow _
          refine ⟨(Below.refl _ _).grown hgrow (by simp; omega) (fun j e => (R7.out.lt j e).1), w4.heap.size, Nat.le_refl _, ?_⟩
          have B8 := Lib.hid ((B7.out.alloc hz7 _).grown hgrow (by simp; omega) (fun j e => (R7.out.lt j e).1))
          have R8 := Lib.hid hown'
          clear hown' hgrow
          go_simp
          refine stg_seg _ 0 [15] (by kernel_rfl) (by kernel_rfl) (by kernel_rfl) (by kernel_rfl) ?_
          (simp only [List.map_cons, List.map_nil, List.getElem?_cons_zero, List.getElem?_cons_succ, Option.getD_some]); (repeat (go_big_quiet_step (fail))); (refine wpQuiet_nil ?_)
          refine stg_end (by kernel_rfl) ?_
          go_wp2_with fail
          go_roundw
          case rel =>
            refine ⟨k + 1, hlt, hlt8, by go_num, ?_, B8.out⟩
            rw [HNX.out, List.length_append, flatB_append]
            exact R8.out
          case measure => simp [intOf]; omega
        · have hun := HUN.out k hk hk8
          obtain ⟨A8, g8, c8, rfl, -, -, ho8, -⟩ := own_sliceb HR.out hwz
          have HLK8 := Lib.hid (show (labs (m : Int) ls xs k).length ≤ 2000000 by omega)
          clear hln HUN HLK HLN HL0
          have CU := fun W (h1 : Sl W W.heap.size A1 ls) (h2 : Slb W W.heap.size A8 (labs (m : Int) ls xs k)) => stackUnique_impl (m : Int) A1 ls c1 x A8 (labs (m : Int) ls xs k) c8 W (by omega) HLK8.out h1 h2
          rw [hun] at CU
          have O8 := Lib.hid ho8
          generalize labs (m : Int) ls xs k = lb at *
          have hor : xs.length ≤ k + 1 ∨ (k + 1 < xs.length ∧ 8 < k + 1) := by omega
          clear hun ho8 hlt HR
          rcases hor with h | ⟨h, h'⟩
          · go_wp2_with (go_at_call 29; refine (CU _ L6.out.sl O8.out.slb).mono ?_; rintro e w9 ⟨rfl, hb9⟩; have L9 := Lib.hid (L6.out.call hb9); clear hb9)
            go_ret
            exact ⟨rfl, L9.out.1.2.2⟩
          · go_wp2_with (go_at_call 29; refine (CU _ L6.out.sl O8.out.slb).mono ?_; rintro e w9 ⟨rfl, hb9⟩; have L9 := Lib.hid (L6.out.call hb9); clear hb9)
            go_ret
            exact ⟨rfl, L9.out.1.2.2⟩
  · go_enter Try.func9, Try.ntmps9
    go_wp2
    go_ret
    exact ⟨rfl, by (repeat (first | exact Below.refl _ _ | (refine Below.alloc ?_ (by first | exact Nat.le_refl _ | omega | (simp; done) | (simp; omega)) _) | (refine Below.setCell ?_ (by first | exact Nat.le_refl _ | omega | (simp; done) | (simp; omega)) _) | exact Below.drew ‹_›))⟩

end Go.Proofs.Ytblmmmeeljidiab
