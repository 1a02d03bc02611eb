/-
  The walk of FnPathOnce over this seat.
-/
import Derived.Test.YtoojoeffmodhoaaPth
import Derived.Test.YtoojoeffmodhoaaRg
import Derived.Test.YtoojoeffmodhoaaA8
namespace Go.Proofs.Ytoojoeffmodhoaa
open Go.RowKit

theorem Own1i.take {w : World} {A : Option Addr} {g : Nat} {xs : List Int} (h : Own1i w A g xs) (k : Nat) : Own1i w A g (xs.take k) := fun hp => by
  obtain ⟨e, cs, hh, hc⟩ := h (by simp at hp; omega)
  exact ⟨e, cs, hh, fun j x hx => hc j x (by rw [List.getElem?_take] at hx; split at hx; exact hx; cases hx)⟩

set_option maxRecDepth 100000 in
set_option maxHeartbeats 1600000 in
theorem pathOnce_walk (A : Option Addr) (len c : Nat) (f : Nat → Int) (w : World) (hlc : len ≤ c) (hc : c ≤ maxLen) (hB : Byt w w.heap.size A len f) :
   Calls Try.prog 3 #[.slice A len c] w fun e w' => e = .returned (.bool true) ∧ Below w.heap.size w w' := by
  have HB := Lib.hid hB
  clear hB
  by_cases hl : len ≤ 1048576
  · go_enter Try.func3, Try.ntmps3
    go_wp2_with fail
    refine (drawPath_any A len c f w hlc hc HB.out).mono ?_
    rintro e w1 ⟨n, ls, A1, g1, c1, x, y, rfl, ⟨hn0, hn1, hls, hg1, ho1, hb1⟩, hx0, hx1, hy0, hy1⟩
    have L1 := Lib.hid (show LB w w1.heap.size n ls A1 g1 c1 (w1.alloc (.cells #[.int .i64 n, .slice A1 ls.length c1] 25)) from ⟨Box.new w1 _ _, ho1.alloc _, hb1.alloc hb1.size _⟩)
    clear ho1 hb1 HB
    generalize hG : w1.heap.size = G at *
    go_wp2_with fail
    refine (path_implC n A1 ls c1 x y _ (by omega) L1.out.2.1.sl).mono ?_
    rintro e w2 ⟨A2, g2, c2, rfl, hg2, ho2, hb2, hcap⟩
    have L2 := Lib.hid (L1.out.call hb2)
    have P2 := Lib.hid ho2
    clear hb2 L1 hG ho2
    obtain ⟨z2, c20, c21, -, -⟩ := L2.out.1.two
    go_wp2_with fail
    refine (path_spec n A1 ls c1 x y w2 (by omega) (by omega) L2.out.2.1.sl).mono ?_
    rintro e w3 ⟨A3, g3, c3, rfl, hg3, ho3, hb3⟩
    have L3 := Lib.hid (L2.out.call hb3)
    have P3 := Lib.hid (P2.out.below hb3)
    have Q3 := Lib.hid ho3
    clear hb3 L2 z2 c20 c21 P2 ho3
    obtain ⟨z3, c30, c31, -, -⟩ := L3.out.1.two
    have hrs : (pathI n ls x y).length ≤ 8 := pathI_len n ls x y
    have HF : Hid (pathI n ls x y ≠ [] → ∃ m : Nat, n = (m : Int) ∧ vwB (m : Int) ls [x, y] = true ∧ 0 ≤ bf (m : Int) ls y x ∧ IsP m ls y x (pathI n ls x y)) := Lib.hid pathI_some
    generalize pathI n ls x y = xs at *
    go_wp2_with fail
    refine (sameInts_same A2 A3 xs c2 c3 w3 (by omega) P3.out.sli Q3.out.sli).mono ?_
    rintro e w4 ⟨rfl, hb4⟩
    have L4 := Lib.hid (L3.out.call hb4)
    have P4 := Lib.hid (P3.out.below hb4)
    have Q4 := Lib.hid (Q3.out.below hb4)
    clear hb4 L3 P3 Q3 z3 c30 c31 hg2 hg3
    obtain ⟨z4, c40, c41, -, -⟩ := L4.out.1.two
    by_cases hz : xs.length = 0
    · have hz' : ((xs.length : Int) == 0) = true := by simp [hz]
      clear HF hz
      go_wp2_with fail
      refine (sameInts_same A2 A3 xs c2 c3 w4 (by omega) P4.out.sli Q4.out.sli).mono ?_
      rintro e w5 ⟨rfl, hb5⟩
      have L5 := Lib.hid (L4.out.call hb5)
      go_wp2_with fail
      go_ret
      exact ⟨rfl, L5.out.2.2⟩
    · have hz' : ((xs.length : Int) == 0) = false := by simpa using hz
      have hxs : 0 < xs.length := by omega
      have HF := Lib.hid (HF.out (by intro e; rw [e] at hz; exact hz rfl))
      clear hz Q4
      obtain ⟨m, rfl, hvw, h0, hp⟩ := HF.out
      obtain ⟨hg, hx, hy⟩ := vwB_two hvw
      have HG := Lib.hid hg
      have HIP := Lib.hid hp
      have HVW := Lib.hid hvw
      clear hg hp hvw
      have HDN : Hid (∀ (p : Nat) (b : Int), xs[p + 1]? = some b → decide (b ∈ xs.take (p + 1)) = false) := Lib.hid (fun p b hb => by
        simp only [decide_eq_false_iff_not]
        intro hm
        obtain ⟨i, hi⟩ := List.getElem?_of_mem hm
        rw [List.getElem?_take] at hi
        split at hi
        · rename_i hlt
          have := HIP.out.down HG.out hy hi hlt hb
          omega
        · cases hi)
      have HNX : Hid (∀ (p : Nat) (a b : Int), xs[p]? = some a → xs[p + 1]? = some b → ∃ zs, hopsL (m : Int) ls a y = b :: zs) := Lib.hid (fun p a b ha hb => (HIP.out.two ha hb).2.1)
      go_wp2_with fail
      go_loopw [8] (fun i wr => ∃ k : Nat, 1 ≤ k ∧ k ≤ xs.length ∧ i = .int .i64 (k : Int) ∧ LB w G (m : Int) ls A1 g1 c1 wr ∧ Own1i wr A2 g2 xs) (fun i _ => xs.length - (intOf i).toNat)
      case atStart => exact ⟨1, Nat.le_refl _, hxs, rfl, L4.out, P4.out⟩
      case round =>
        obtain ⟨k, hk1, hk, rfl, hL, hP⟩ := hrel
        have L6 := Lib.hid hL
        have P6 := Lib.hid hP
        clear hL hP L4 P4 z4 c40 c41
        obtain ⟨z6, c60, c61, -, -⟩ := L6.out.1.two
        obtain ⟨p, hp1⟩ : ∃ p : Nat, k = p + 1 := ⟨k - 1, by omega⟩
        have hsub : (k : Int) - 1 = (p : Int) := by omega
        have hpl : p < xs.length := by omega
        have hwp : IntKind.i64.wrap (p : Int) = (p : Int) := IntWalk.i64_in _ (by omega)
        obtain ⟨a, ha⟩ : ∃ a, xs[p]? = some a := ⟨_, List.getElem?_eq_getElem hpl⟩
        have HP1 := Lib.hid hp1
        clear hp1
        by_cases hlt : k < xs.length
        · obtain ⟨b, hb⟩ : ∃ b, xs[k]? = some b := ⟨_, List.getElem?_eq_getElem hlt⟩
          have hb' : xs[p + 1]? = some b := by rw [← HP1.out]; exact hb
          obtain ⟨zs, hh⟩ := HNX.out p a b ha hb'
          have hno := HDN.out p b hb'
          rw [← HP1.out] at hno
          have hkl : (xs.take k).length = k := by simp; omega
          have hkc : k ≤ c2 := by omega
          have CH : ∀ W : World, Own1i W A2 g2 xs → Calls Try.prog 8 #[.slice A2 k c2, .int .i64 b] W fun e w' => e = .returned (.bool false) ∧ Below W.heap.size W w' := fun W hW => by
            have := hasInt_any A2 (xs.take k) c2 b W (by omega) (hW.take k).sli
            rwa [hno, hkl] at this
          have CN : ∀ W : World, Sl W W.heap.size A1 ls → Calls Try.prog 9 #[gval (m : Int) A1 ls.length c1, .int .i64 a, .int .i64 y] W (NewI (b :: zs) W) := fun W hW => by
            have := hops_impl (m : Int) A1 ls c1 a y W (by omega) hW
            rwa [hh] at this
          have HA := Lib.hid ha
          have HB := Lib.hid hb
          obtain ⟨rfl, zg, hca⟩ := P6.out.at ha
          obtain ⟨-, -, hcb⟩ := P6.out.at hb
          generalize hbz : b :: zs = bz at *
          have HB0 : Hid (bz[0]? = some b) := Lib.hid (by rw [← hbz]; rfl)
          have hbzl : 0 < bz.length := by rw [← hbz]; simp
          clear ha hb hb' hh hno hkl hbz
          go_wp2_with fail
          have hX6 := fun (x : Ext wr.drew) (bb o : Nat) (h : bb < wr.heap.size) => (show x.w.cell? ⟨bb, o, none⟩ = wr.cell? ⟨bb, o, none⟩ from x.cell bb o h)
          refine wp_region_staged 25 (by kernel_rfl) (by kernel_rfl) ?_
          refine stage_seg _ 18 [0, 1, 2, 3, 4, 5, 6] (by kernel_rfl) (by kernel_rfl) (by kernel_rfl) (by kernel_rfl) ?_
          (simp only [List.map_cons, List.map_nil, List.getElem?_cons_zero, List.getElem?_cons_succ, Option.getD_some]); (repeat (go_big_quiet_step (fail))); (refine wpQuiet_nil ?_)
          clear hX6 c60 c61 z6 hca hcb zg
          refine stage_call _ 17 7 (by kernel_rfl) (by rfl) (by kernel_rfl) (by rfl) ?_
          go_wp2_with fail
          refine (CH wr.drew P6.out).mono ?_
          clear CH
          rintro e w7 ⟨rfl, hb7⟩
          refine ⟨hb7, ?_⟩
          have L7 := Lib.hid (L6.out.drew.call hb7)
          have P7 := Lib.hid (P6.out.drew.below hb7)
          obtain ⟨z7, c70, c71, -, -⟩ := L7.out.1.two
          obtain ⟨-, zg7, hca7⟩ := P7.out.at HA.out
          obtain ⟨-, -, hcb7⟩ := P7.out.at HB.out
          clear hb7 L6 P6
          have hX7 := fun (x : Ext w7) (bb o : Nat) (h : bb < w7.heap.size) => x.cell bb o h
          refine stage_seg _ 5 [8, 9, 10, 11, 12, 13, 14, 15, 19, 20, 21, 22] (by kernel_rfl) (by kernel_rfl) (by kernel_rfl) (by kernel_rfl) ?_
          (simp only [List.map_cons, List.map_nil, List.getElem?_cons_zero, List.getElem?_cons_succ, Option.getD_some]); (repeat (go_big_quiet_step (fail))); (refine wpQuiet_nil ?_)
          clear hX7 c70 c71 z7 hca7 hcb7 zg7
          refine stage_call _ 4 16 (by kernel_rfl) (by rfl) (by kernel_rfl) (by rfl) ?_
          go_wp2_with fail
          refine (CN _ L7.out.2.1.sl).mono ?_
          clear CN
          rintro e w8 ⟨A8, g8, c8, rfl, hg8, ho8, hb8⟩
          refine ⟨hb8, ?_⟩
          have L8 := Lib.hid (L7.out.call hb8)
          have P8 := Lib.hid (P7.out.below hb8)
          obtain ⟨rfl, zh8, hch8⟩ := ho8.at HB0.out
          clear hb8 ho8 hg8 L7 P7
          have hX8 := fun (x : Ext w8) (bb o : Nat) (h : bb < w8.heap.size) => x.cell bb o h
          refine stage_seg _ 0 [17, 18, 23, 24] (by kernel_rfl) (by kernel_rfl) (by kernel_rfl) (by kernel_rfl) ?_
          (simp only [List.map_cons, List.map_nil, List.getElem?_cons_zero, List.getElem?_cons_succ, Option.getD_some]); (repeat (go_big_quiet_step (fail))); (refine wpQuiet_nil ?_)
          clear hX8 hch8 zh8
          refine stage_end (by kernel_rfl) ?_
          go_wp2_with fail
          go_roundw
          case rel => exact ⟨k + 1, by omega, hlt, by go_num, L8.out, P8.out⟩
          case measure => simp [intOf]; omega
        · have hge : xs.length ≤ k := by omega
          clear ha
          go_wp2_with fail
          go_ret
          exact ⟨rfl, L6.out.2.2⟩
  · go_enter Try.func3, Try.ntmps3
    go_wp2
    go_ret
    exact ⟨rfl, by (repeat (first | exact Below.refl _ _ | (refine Below.alloc ?_ (by first | exact Nat.le_refl _ | omega | (simp; done) | (simp; omega)) _) | (refine Below.setCell ?_ (by first | exact Nat.le_refl _ | omega | (simp; done) | (simp; omega)) _) | exact Below.drew ‹_›))⟩
end Go.Proofs.Ytoojoeffmodhoaa
