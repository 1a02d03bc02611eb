/-
  Contracts over this seat: the program's DbValid.
-/
import Derived.Test.YtnkohgdfipgdoabIv
namespace Go.Proofs.Ytnkohgdfipgdoab
open Go.RowKit Go.Maps

set_option maxRecDepth 100000 in
set_option maxHeartbeats 1600000 in
theorem dbValid_impl (A : Option Addr) (zs : List Lz) (c : Nat) (w : World) (hm : zs.length ≤ 2000000) (hes : ∀ z ∈ zs, z.es.length ≤ 2000000) (hS : Slz w w.heap.size A zs) :
   Calls Try.prog 32 #[.slice A zs.length c] w fun e w' => e = .returned (.bool (dbB (datL zs))) ∧ Below w.heap.size w w' := by
  have HS := Lib.hid hS
  have HES := Lib.hid hes
  have HNO : Hid (∀ {k : Nat}, k < zs.length → dbAt (datL zs) k = false → dbB (datL zs) = false) := Lib.hid (fun hk h => dbB_no (by simpa [datL] using hk) h)
  have HAL : Hid ((∀ k, k < zs.length → dbAt (datL zs) k = true) → dbB (datL zs) = true) := Lib.hid (fun h => dbB_all (fun k hk => h k (by simpa [datL] using hk)))
  have HAT : Hid (∀ (k : Nat) (z : Lz), zs[k]? = some z → (dbAt (datL zs) k = true ↔ laB z.d = true ∧ ∀ d, 0 < k → zs[k - 1]? = some d → d.o < z.o)) := Lib.hid (fun k z h => dbAt_iff h)
  clear hS hes
  go_enter Try.func32, Try.ntmps32
  go_wp2_with fail
  go_loopw [7] (fun i wr => ∃ k : Nat, k ≤ zs.length ∧ i = .int .i64 (k : Int) ∧ Hid (∀ j, j < k → dbAt (datL zs) j = true) ∧ Below w.heap.size w wr) (fun i _ => zs.length - (intOf i).toNat)
  case atStart => exact ⟨0, Nat.zero_le _, rfl, Lib.hid (fun j h => by omega), Below.refl _ _⟩
  case round =>
    obtain ⟨k, hk, rfl, HJ, hb⟩ := hrel
    have B1 := Lib.hid hb
    by_cases hlt : k < zs.length
    · obtain ⟨x, hx⟩ : ∃ x, zs[k]? = some x := ⟨_, List.getElem?_eq_getElem hlt⟩
      obtain ⟨b, off, rfl, hbb, hc1, hc2, hc3, hin⟩ := (HS.out.below hb) k x hx
      have HI := Lib.hid hin
      have hxl := HES.out x (List.mem_of_getElem? hx)
      have HA := Lib.hid (HAT.out k x hx)
      have hz := hb.size
      have z1 : b < wr.heap.size := by omega
      have CV := fun W (h : Slb W W.heap.size x.A x.es) => lsaValid_impl x W hxl h
      obtain ⟨zo, zq, zes, zA, zc, zg⟩ := x
      dsimp only at *
      have HZ := Lib.hid hx
      clear hx hb hin
      cases hv : laB ⟨zo, zq, zes⟩ with
      | false =>
        rw [hv] at CV
        have HEF : Hid (dbAt (datL zs) k = false) := Lib.hid (Bool.eq_false_iff.2 (fun h => by have := (HA.out.1 h).1; rw [hv] at this; cases this))
        clear hv
        go_wp2_with fail
        have X2 := Lib.hid (Box.new wr 54 #[.int .i64 zo, .int .i64 zq, .slice zA zes.length zc])
        have B2 := Lib.hid (B1.out.alloc B1.out.size (.cells #[.int .i64 zo, .int .i64 zq, .slice zA zes.length zc] 54))
        have I2 := Lib.hid (HI.out.below ((Below.refl w.heap.size wr).alloc hz (.cells #[.int .i64 zo, .int .i64 zq, .slice zA zes.length zc] 54)))
        have hz2 : wr.heap.size < (wr.alloc (.cells #[.int .i64 zo, .int .i64 zq, .slice zA zes.length zc] 54)).heap.size := by simp
        generalize wr.alloc (.cells #[.int .i64 zo, .int .i64 zq, .slice zA zes.length zc] 54) = W2 at *
        generalize wr.heap.size = eb at *
        obtain ⟨ze, e0, e1, e2, -, -, -⟩ := X2.out.three
        have hX := fun (x : Ext W2.drew) (bb oo : Nat) (h : bb < W2.heap.size) => (show x.w.cell? ⟨bb, oo, none⟩ = W2.cell? ⟨bb, oo, none⟩ from x.cell bb oo h)
        refine wp_region_staged 18 (by kernel_rfl) (by kernel_rfl) ?_
        refine stage_seg _ 17 [0] (by kernel_rfl) (by kernel_rfl) (by kernel_rfl) (by kernel_rfl) ?_
        (simp only [List.map_cons, List.map_nil, List.getElem?_cons_zero, Option.getD_some]); (repeat (go_big_quiet_step (fail))); (refine wpQuiet_nil ?_)
        refine stage_call _ 16 1 (by kernel_rfl) (by rfl) (by kernel_rfl) (by rfl) ?_
        go_wp2_with fail
        refine (CV W2.drew (Slb.more (w := W2.drew) I2.out (Nat.le_of_lt (Nat.lt_of_le_of_lt hz hz2)))).mono ?_
        clear CV
        rintro e w4 ⟨rfl, hb4⟩
        refine ⟨hb4, ?_⟩
        have B4 := Lib.hid (B2.out.drew.trans (hb4.mono B2.out.size))
        have X4 := Lib.hid (Box.below (w := W2.drew) X2.out hb4 X2.out.lt)
        clear hb4 hX ze e0 e1 e2 X2 I2
        obtain ⟨ze, e0, e1, e2, -, -, -⟩ := X4.out.three
        have hX4 := fun (x : Ext w4) (bb o : Nat) (h : bb < w4.heap.size) => x.cell bb o h
        clear hc1 hc2 hc3
        refine stage_seg _ 0 [2, 3, 4, 5, 6, 7, 8, 9, 10, 11, 12, 13, 14, 15, 16, 17] (by kernel_rfl) (by kernel_rfl) (by kernel_rfl) (by kernel_rfl) ?_
        (simp only [List.map_cons, List.map_nil, List.getElem?_cons_zero, List.getElem?_cons_succ, Option.getD_some]); (repeat (go_big_quiet_step (fail))); (refine wpQuiet_nil ?_)
        refine stage_end (by kernel_rfl) ?_
        clear hX4
        go_wp2_with fail
        go_ret
        exact ⟨ret_bool (HNO.out hlt HEF.out).symm, B4.out⟩

      | true =>
        rw [hv] at CV
        have HV := Lib.hid hv
        clear hv
        by_cases hk0 : k = 0
        · subst hk0
          have HET : Hid (dbAt (datL zs) 0 = true) := Lib.hid (HA.out.2 ⟨HV.out, fun d h => absurd h (by omega)⟩)
          simp only [Nat.zero_mul, Nat.add_zero] at hc1 hc2 hc3
          go_wp2_with fail
          have X2 := Lib.hid (Box.new wr 54 #[.int .i64 zo, .int .i64 zq, .slice zA zes.length zc])
          have B2 := Lib.hid (B1.out.alloc B1.out.size (.cells #[.int .i64 zo, .int .i64 zq, .slice zA zes.length zc] 54))
          have I2 := Lib.hid (HI.out.below ((Below.refl w.heap.size wr).alloc hz (.cells #[.int .i64 zo, .int .i64 zq, .slice zA zes.length zc] 54)))
          have hz2 : wr.heap.size < (wr.alloc (.cells #[.int .i64 zo, .int .i64 zq, .slice zA zes.length zc] 54)).heap.size := by simp
          generalize wr.alloc (.cells #[.int .i64 zo, .int .i64 zq, .slice zA zes.length zc] 54) = W2 at *
          generalize wr.heap.size = eb at *
          obtain ⟨ze, e0, e1, e2, -, -, -⟩ := X2.out.three
          have hX := fun (x : Ext W2.drew) (bb oo : Nat) (h : bb < W2.heap.size) => (show x.w.cell? ⟨bb, oo, none⟩ = W2.cell? ⟨bb, oo, none⟩ from x.cell bb oo h)
          refine wp_region_staged 18 (by kernel_rfl) (by kernel_rfl) ?_
          refine stage_seg _ 17 [0] (by kernel_rfl) (by kernel_rfl) (by kernel_rfl) (by kernel_rfl) ?_
          (simp only [List.map_cons, List.map_nil, List.getElem?_cons_zero, Option.getD_some]); (repeat (go_big_quiet_step (fail))); (refine wpQuiet_nil ?_)
          refine stage_call _ 16 1 (by kernel_rfl) (by rfl) (by kernel_rfl) (by rfl) ?_
          go_wp2_with fail
          refine (CV W2.drew (Slb.more (w := W2.drew) I2.out (Nat.le_of_lt (Nat.lt_of_le_of_lt hz hz2)))).mono ?_
          clear CV
          rintro e w4 ⟨rfl, hb4⟩
          refine ⟨hb4, ?_⟩
          have B4 := Lib.hid (B2.out.drew.trans (hb4.mono B2.out.size))
          have X4 := Lib.hid (Box.below (w := W2.drew) X2.out hb4 X2.out.lt)
          clear hb4 hX ze e0 e1 e2 X2 I2
          obtain ⟨ze, e0, e1, e2, -, -, -⟩ := X4.out.three
          have hX4 := fun (x : Ext w4) (bb o : Nat) (h : bb < w4.heap.size) => x.cell bb o h
          clear hc1 hc2 hc3
          refine stage_seg _ 0 [2, 3, 4, 5, 6, 7, 8, 9, 10, 11, 12, 13, 14, 15, 16, 17] (by kernel_rfl) (by kernel_rfl) (by kernel_rfl) (by kernel_rfl) ?_
          (simp only [List.map_cons, List.map_nil, List.getElem?_cons_zero, List.getElem?_cons_succ, Option.getD_some]); (repeat (go_big_quiet_step (fail))); (refine wpQuiet_nil ?_)
          refine stage_end (by kernel_rfl) ?_
          clear hX4
          go_wp2_with fail
          go_roundw
          case rel => exact ⟨1, hlt, by go_num, Lib.hid (fun j hj => by
            obtain rfl : j = 0 := by omega
            exact HET.out), B4.out⟩
          case measure => simp [intOf]; omega

        · obtain ⟨p, hp1⟩ : ∃ p : Nat, k = p + 1 := ⟨k - 1, by omega⟩
          have hsub : (k : Int) - 1 = (p : Int) := by omega
          have hwp : IntKind.i64.wrap (p : Int) = (p : Int) := IntWalk.i64_in _ (by omega)
          have hpl : p < zs.length := by omega
          have hk0' : 0 < k := by omega
          have hpk : k - 1 = p := by omega
          obtain ⟨d, hd⟩ : ∃ d, zs[p]? = some d := ⟨_, List.getElem?_eq_getElem hpl⟩
          have HD := Lib.hid hd
          have HPK := Lib.hid hpk
          clear hp1 hk0 hd hpk
          by_cases h4 : d.o < zo
          · have h4' : ¬ zo ≤ d.o := by omega
            have HET : Hid (dbAt (datL zs) k = true) := Lib.hid (HA.out.2 ⟨HV.out, fun d' h0 hd' => by rw [HPK.out, HD.out] at hd'; cases hd'; exact h4⟩)
            go_wp2_with fail
            have X2 := Lib.hid (Box.new wr 54 #[.int .i64 zo, .int .i64 zq, .slice zA zes.length zc])
            have B2 := Lib.hid (B1.out.alloc B1.out.size (.cells #[.int .i64 zo, .int .i64 zq, .slice zA zes.length zc] 54))
            have I2 := Lib.hid (HI.out.below ((Below.refl w.heap.size wr).alloc hz (.cells #[.int .i64 zo, .int .i64 zq, .slice zA zes.length zc] 54)))
            have hz2 : wr.heap.size < (wr.alloc (.cells #[.int .i64 zo, .int .i64 zq, .slice zA zes.length zc] 54)).heap.size := by simp
            generalize wr.alloc (.cells #[.int .i64 zo, .int .i64 zq, .slice zA zes.length zc] 54) = W2 at *
            generalize wr.heap.size = eb at *
            obtain ⟨ze, e0, e1, e2, -, -, -⟩ := X2.out.three
            have hX := fun (x : Ext W2.drew) (bb oo : Nat) (h : bb < W2.heap.size) => (show x.w.cell? ⟨bb, oo, none⟩ = W2.cell? ⟨bb, oo, none⟩ from x.cell bb oo h)
            refine wp_region_staged 18 (by kernel_rfl) (by kernel_rfl) ?_
            refine stage_seg _ 17 [0] (by kernel_rfl) (by kernel_rfl) (by kernel_rfl) (by kernel_rfl) ?_
            (simp only [List.map_cons, List.map_nil, List.getElem?_cons_zero, Option.getD_some]); (repeat (go_big_quiet_step (fail))); (refine wpQuiet_nil ?_)
            refine stage_call _ 16 1 (by kernel_rfl) (by rfl) (by kernel_rfl) (by rfl) ?_
            go_wp2_with fail
            refine (CV W2.drew (Slb.more (w := W2.drew) I2.out (Nat.le_of_lt (Nat.lt_of_le_of_lt hz hz2)))).mono ?_
            clear CV
            rintro e w4 ⟨rfl, hb4⟩
            refine ⟨hb4, ?_⟩
            have B4 := Lib.hid (B2.out.drew.trans (hb4.mono B2.out.size))
            have X4 := Lib.hid (Box.below (w := W2.drew) X2.out hb4 X2.out.lt)
            clear hb4 hX ze e0 e1 e2 X2 I2
            obtain ⟨ze, e0, e1, e2, -, -, -⟩ := X4.out.three
            have hX4 := fun (x : Ext w4) (bb o : Nat) (h : bb < w4.heap.size) => x.cell bb o h
            clear hc1 hc2 hc3
            have hz4 := B4.out.size
            obtain ⟨b3, off3, e3, hb3, hd1, -, -, -⟩ := (HS.out.below B4.out) p d HD.out
            cases e3
            have zb4 : b < w4.heap.size := by omega
            try dsimp only at hd1
            refine stage_seg _ 0 [2, 3, 4, 5, 6, 7, 8, 9, 10, 11, 12, 13, 14, 15, 16, 17] (by kernel_rfl) (by kernel_rfl) (by kernel_rfl) (by kernel_rfl) ?_
            (simp only [List.map_cons, List.map_nil, List.getElem?_cons_zero, List.getElem?_cons_succ, Option.getD_some]); (repeat (go_big_quiet_step (fail))); (refine wpQuiet_nil ?_)
            refine stage_end (by kernel_rfl) ?_
            clear hX4
            go_wp2_with fail
            go_roundw
            case rel => exact ⟨k + 1, hlt, by go_num, Lib.hid (fun j hj => by
              by_cases hjk : j < k
              · exact HJ.out j hjk
              · obtain rfl : j = k := by omega
                exact HET.out), B4.out⟩
            case measure => simp [intOf]; omega

          · have h4' : zo ≤ d.o := by omega
            have HEF : Hid (dbAt (datL zs) k = false) := Lib.hid (Bool.eq_false_iff.2 (fun h => h4 ((HA.out.1 h).2 d hk0' (by rw [HPK.out]; exact HD.out))))
            clear h4
            go_wp2_with fail
            have X2 := Lib.hid (Box.new wr 54 #[.int .i64 zo, .int .i64 zq, .slice zA zes.length zc])
            have B2 := Lib.hid (B1.out.alloc B1.out.size (.cells #[.int .i64 zo, .int .i64 zq, .slice zA zes.length zc] 54))
            have I2 := Lib.hid (HI.out.below ((Below.refl w.heap.size wr).alloc hz (.cells #[.int .i64 zo, .int .i64 zq, .slice zA zes.length zc] 54)))
            have hz2 : wr.heap.size < (wr.alloc (.cells #[.int .i64 zo, .int .i64 zq, .slice zA zes.length zc] 54)).heap.size := by simp
            generalize wr.alloc (.cells #[.int .i64 zo, .int .i64 zq, .slice zA zes.length zc] 54) = W2 at *
            generalize wr.heap.size = eb at *
            obtain ⟨ze, e0, e1, e2, -, -, -⟩ := X2.out.three
            have hX := fun (x : Ext W2.drew) (bb oo : Nat) (h : bb < W2.heap.size) => (show x.w.cell? ⟨bb, oo, none⟩ = W2.cell? ⟨bb, oo, none⟩ from x.cell bb oo h)
            refine wp_region_staged 18 (by kernel_rfl) (by kernel_rfl) ?_
            refine stage_seg _ 17 [0] (by kernel_rfl) (by kernel_rfl) (by kernel_rfl) (by kernel_rfl) ?_
            (simp only [List.map_cons, List.map_nil, List.getElem?_cons_zero, Option.getD_some]); (repeat (go_big_quiet_step (fail))); (refine wpQuiet_nil ?_)
            refine stage_call _ 16 1 (by kernel_rfl) (by rfl) (by kernel_rfl) (by rfl) ?_
            go_wp2_with fail
            refine (CV W2.drew (Slb.more (w := W2.drew) I2.out (Nat.le_of_lt (Nat.lt_of_le_of_lt hz hz2)))).mono ?_
            clear CV
            rintro e w4 ⟨rfl, hb4⟩
            refine ⟨hb4, ?_⟩
            have B4 := Lib.hid (B2.out.drew.trans (hb4.mono B2.out.size))
            have X4 := Lib.hid (Box.below (w := W2.drew) X2.out hb4 X2.out.lt)
            clear hb4 hX ze e0 e1 e2 X2 I2
            obtain ⟨ze, e0, e1, e2, -, -, -⟩ := X4.out.three
            have hX4 := fun (x : Ext w4) (bb o : Nat) (h : bb < w4.heap.size) => x.cell bb o h
            clear hc1 hc2 hc3
            have hz4 := B4.out.size
            obtain ⟨b3, off3, e3, hb3, hd1, -, -, -⟩ := (HS.out.below B4.out) p d HD.out
            cases e3
            have zb4 : b < w4.heap.size := by omega
            try dsimp only at hd1
            refine stage_seg _ 0 [2, 3, 4, 5, 6, 7, 8, 9, 10, 11, 12, 13, 14, 15, 16, 17] (by kernel_rfl) (by kernel_rfl) (by kernel_rfl) (by kernel_rfl) ?_
            (simp only [List.map_cons, List.map_nil, List.getElem?_cons_zero, List.getElem?_cons_succ, Option.getD_some]); (repeat (go_big_quiet_step (fail))); (refine wpQuiet_nil ?_)
            refine stage_end (by kernel_rfl) ?_
            clear hX4
            go_wp2_with fail
            go_ret
            exact ⟨ret_bool (HNO.out hlt HEF.out).symm, B4.out⟩

    · go_wp2_with fail
      go_ret
      exact ⟨ret_bool (HAL.out (fun j hj => HJ.out j (by omega))).symm, hb⟩

end Go.Proofs.Ytnkohgdfipgdoab
