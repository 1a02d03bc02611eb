/-
  Contracts over this seat: how the program's UpdateOrder compares; its list is sorted by insertion.
-/
import Derived.Test.YtkcnbgimdiggoabG5
import Derived.Test.YtkcnbgimdiggoabVs
namespace Go.Proofs.Ytkcnbgimdiggoab
open Go.RowKit Go.Maps

def cpN (x y : Int) : Int := if x < y then -1 else if y < x then 1 else 0
theorem cpN_neg {x y : Int} : cpN x y < 0 ↔ x < y := by
  unfold cpN
  split
  · simp [*]
  · split <;> simp [*]
theorem nanN_any (x : Int) (w : World) :
   Calls Try.prog 77 #[.int .i64 x] w fun e w' => e = .returned (.bool false) ∧ w = w' := by
  go_enter Try.func77, Try.ntmps77
  go_wp2
  all_goals
    go_ret
    exact ⟨ret_bool (by simp), rfl⟩
theorem cmpN_any (x y : Int) (w : World) :
   Calls Try.prog 44 #[.int .i64 x, .int .i64 y] w fun e w' => e = .returned (.int .i64 (cpN x y)) ∧ w = w' := by
  have C := fun (x : Int) (W : World) => nanN_any x W
  by_cases h1 : x < y
  · have HR : Hid (cpN x y = -1) := Lib.hid (by unfold cpN; rw [if_pos h1])
    go_enter Try.func44, Try.ntmps44
    go_wp2_with (go_at_call 77; refine (C _ _).mono ?_; rintro e w1 ⟨rfl, rfl⟩)
    go_ret
    exact ⟨ret_int HR.out.symm, rfl⟩
  · by_cases h2 : y < x
    · have HR : Hid (cpN x y = 1) := Lib.hid (by unfold cpN; rw [if_neg h1, if_pos h2])
      go_enter Try.func44, Try.ntmps44
      go_wp2_with (go_at_call 77; refine (C _ _).mono ?_; rintro e w1 ⟨rfl, rfl⟩)
      go_ret
      exact ⟨ret_int HR.out.symm, rfl⟩
    · have HR : Hid (cpN x y = 0) := Lib.hid (by unfold cpN; rw [if_neg h1, if_neg h2])
      go_enter Try.func44, Try.ntmps44
      go_wp2_with (go_at_call 77; refine (C _ _).mono ?_; rintro e w1 ⟨rfl, rfl⟩)
      go_ret
      exact ⟨ret_int HR.out.symm, rfl⟩
set_option maxRecDepth 100000 in
/-- The closure compares distances. -/
theorem updc_any (D : Nat) (A2 : Option Addr) (ds : List Int) (c2 : Nat) (a b : Nat) (x y : Int) (w : World) (hD : Box w D 28 #[.slice A2 ds.length c2]) (h2 : Sli w w.heap.size A2 ds) (hx : ds[a]? = some x) (hy : ds[b]? = some y) :
   Calls Try.prog 43 #[.int .i64 (a : Int), .int .i64 (b : Int), .pointer (some ⟨D, 0, none⟩)] w fun e w' => e = .returned (.int .i64 (cpN y x)) ∧ Below w.heap.size w w' := by
  have CC := fun W => cmpN_any y x W
  obtain ⟨b1, o1, rfl, hb1, c1⟩ := h2 a x hx
  obtain ⟨b2, o2, e2, hb2, c3⟩ := h2 b y hy
  cases e2
  have hal := (List.getElem?_eq_some_iff.1 hx).1
  have hbl := (List.getElem?_eq_some_iff.1 hy).1
  have hai : (a : Int) < (ds.length : Int) := by omega
  have hbi : (b : Int) < (ds.length : Int) := by omega
  have z1 := hD.lt
  have e10 : w.cell? ⟨D, 0, none⟩ = some (.slice (some ⟨b1, o1, none⟩) ds.length c2) := hD.cell 0
  have hX := fun (y : Ext w.drew) (bb o : Nat) (h : bb < w.heap.size) => (show y.w.cell? ⟨bb, o, none⟩ = w.cell? ⟨bb, o, none⟩ from y.cell bb o h)
  clear hD h2 hx hy
  go_enter Try.func43, Try.ntmps43
  go_wp2_with fail
  refine wp_region_staged 10 (by kernel_rfl) (by kernel_rfl) ?_
  refine stage_seg _ 2 [0, 1, 2, 3, 4, 5, 6, 7] (by kernel_rfl) (by kernel_rfl) (by kernel_rfl) (by kernel_rfl) ?_
  (simp only [List.map_cons, List.map_nil, List.getElem?_cons_zero, List.getElem?_cons_succ, Option.getD_some]); (repeat (go_big_quiet_step (fail))); (refine wpQuiet_nil ?_)
  clear hX z1 e10 c1 c3
  refine stage_call _ 1 8 (by kernel_rfl) (by rfl) (by kernel_rfl) (by rfl) ?_
  go_wp2_with fail
  refine (CC _).mono ?_
  rintro e w2 ⟨rfl, rfl⟩
  refine ⟨Below.refl _ _, ?_⟩
  refine stage_seg _ 0 [9] (by kernel_rfl) (by kernel_rfl) (by kernel_rfl) (by kernel_rfl) ?_
  (simp only [List.map_cons, List.map_nil, List.getElem?_cons_zero, List.getElem?_cons_succ, Option.getD_some]); (repeat (go_big_quiet_step (fail))); (refine wpQuiet_nil ?_)
  refine stage_end (by kernel_rfl) ?_
  go_wp2_with fail
  go_ret
  exact ⟨rfl, (Below.refl _ _).drew⟩

set_option maxRecDepth 100000 in
set_option maxHeartbeats 1600000 in
theorem isort_any (n : Nat) (ls : List Lk) (t : Int) (g D c : Nat) (xs : List Int) (w : World) (h8 : xs.length ≤ 8) (h0 : 0 < xs.length) (hasc : xs.Pairwise (· < ·)) (ho : Own1i w (some ⟨g, 0, none⟩) g xs)
   (HC : ∀ (u v : Int) (W : World), u ∈ xs → v ∈ xs → Kx (fun b => b = g) w W → Calls Try.prog 43 #[.int .i64 u, .int .i64 v, .pointer (some ⟨D, 0, none⟩)] W fun e w' => e = .returned (.int .i64 (cpN (bf (n : Int) ls t v) (bf (n : Int) ls t u))) ∧ Below W.heap.size W w') :
   Calls Try.prog 104 #[.slice (some ⟨g, 0, none⟩) xs.length c, .int .i64 0, .int .i64 (xs.length : Int), .func (.func 43) #[] #[.pointer (some ⟨D, 0, none⟩)]] w fun e w' => e = .returned (.tuple #[]) ∧ ∃ cur, Own1i w' (some ⟨g, 0, none⟩) g cur ∧ Kx (fun b => b = g) w w' ∧ Srtd n ls t xs xs.length cur := by
  have HO := Lib.hid ho
  have HH := Lib.hid HC
  have HAS := Lib.hid hasc
  clear ho HC hasc
  go_enter Try.func104, Try.ntmps104
  go_wp2_with fail
  go_loopw [8] (fun i wr => ∃ (k : Nat) (cur : List Int), 1 ≤ k ∧ k ≤ xs.length ∧ i = .int .i64 (k : Int) ∧ Hid (Srtd n ls t xs k cur) ∧ Hid (Own1i wr (some ⟨g, 0, none⟩) g cur) ∧ Hid (Kx (fun b => b = g) w wr)) (fun i _ => xs.length - (intOf i).toNat)
  case atStart => exact ⟨1, xs, Nat.le_refl _, h0, rfl, Lib.hid (Srtd.start xs h0), HO, Lib.hid (Kx.refl _ _)⟩
  case round =>
    obtain ⟨i, cur, hi1, hi, rfl, HS, HO1, HK⟩ := hrel
    clear HO
    by_cases hlt : i < xs.length
    · have hlti : (i : Int) < (xs.length : Int) := by omega
      go_wp2_with fail
      go_loopw [9] (fun jv wr => ∃ (j : Nat) (cur : List Int), j ≤ i ∧ jv = .int .i64 (j : Int) ∧ Hid (Insd n ls t xs i j cur) ∧ Hid (Own1i wr (some ⟨g, 0, none⟩) g cur) ∧ Hid (Kx (fun b => b = g) w wr)) (fun jv _ => (intOf jv).toNat)
      case atStart => exact ⟨i, cur, Nat.le_refl _, rfl, Lib.hid (HS.out.insd hlt), HO1, HK⟩
      case round =>
        obtain ⟨j, cur2, hji, rfl, HI, HO2, HK2⟩ := hrel
        clear HS HO1 HK
        by_cases hj : 0 < j
        · obtain ⟨v, hv, hvx⟩ := HI.out.here
          obtain ⟨u, hu, hux⟩ := HI.out.before hj
          obtain ⟨m, hsub⟩ : ∃ m : Nat, (j : Int) - 1 = (m : Int) := ⟨j - 1, by omega⟩
          have hmj : j - 1 = m := by omega
          rw [hmj] at hu
          obtain ⟨-, zg, cv⟩ := HO2.out.at hv
          obtain ⟨-, -, cu⟩ := HO2.out.at hu
          have HMJ := Lib.hid hmj
          have HV := Lib.hid hv
          have HU := Lib.hid hu
          have hwp : IntKind.i64.wrap (m : Int) = (m : Int) := IntWalk.i64_in _ (by omega)
          have hji' : (0 : Int) < (j : Int) := by omega
          have hjl : (j : Int) < (xs.length : Int) := by omega
          have hml : (m : Int) < (xs.length : Int) := by omega
          have CC := HH.out v u wr.drew hvx hux HK2.out.drew
          have hX := fun (x : Ext wr.drew) (bb o : Nat) (h : bb < wr.heap.size) => (show x.w.cell? ⟨bb, o, none⟩ = wr.cell? ⟨bb, o, none⟩ from x.cell bb o h)
          clear hv hu hvx hux hmj
          go_wp2_with fail
          refine wp_region_staged 17 (by kernel_rfl) (by kernel_rfl) ?_
          refine stage_seg _ 3 [0, 1, 2, 3, 4, 5, 6, 7, 8, 9, 10, 11, 12, 13] (by kernel_rfl) (by kernel_rfl) (by kernel_rfl) (by kernel_rfl) ?_
          (simp only [List.map_cons, List.map_nil, List.getElem?_cons_zero, List.getElem?_cons_succ, Option.getD_some]); (repeat (go_big_quiet_step (fail))); (refine wpQuiet_nil ?_)
          clear hX zg cv cu
          refine stage_call _ 2 14 (by kernel_rfl) (by rfl) (by kernel_rfl) (by rfl) ?_
          go_wp2_with fail
          refine CC.mono ?_
          clear CC
          rintro e w3 ⟨rfl, hb3⟩
          refine ⟨hb3, ?_⟩
          have O3 := Lib.hid ((show Own1i wr.drew _ _ _ from HO2.out).below hb3)
          have K3 := Lib.hid (HK2.out.drew.trans (Kx.of_below hb3))
          clear hb3 HO2 HK2
          by_cases hlt2 : bf (n : Int) ls t u < bf (n : Int) ls t v
          · have HLT := Lib.hid hlt2
            have hq : cpN (bf (n : Int) ls t u) (bf (n : Int) ls t v) < 0 := cpN_neg.2 hlt2
            generalize cpN (bf (n : Int) ls t u) (bf (n : Int) ls t v) = q at *
            clear hlt2
            refine stage_seg _ 0 [15, 16] (by kernel_rfl) (by kernel_rfl) (by kernel_rfl) (by kernel_rfl) ?_
            (simp only [List.map_cons, List.map_nil, List.getElem?_cons_zero, List.getElem?_cons_succ, Option.getD_some]); (repeat (go_big_quiet_step (fail))); (refine wpQuiet_nil ?_)
            refine stage_end (by kernel_rfl) ?_
            obtain ⟨-, zg3, cv3⟩ := O3.out.at HV.out
            obtain ⟨-, -, cu3⟩ := O3.out.at HU.out
            have fv := O3.out.frozen HV.out
            have fu := O3.out.frozen HU.out
            go_wp2_with fail
            go_region
            all_goals go_wp2_with fail
            all_goals
              go_roundw
              case rel => exact ⟨m, (cur2.set j u).set m v, by omega, by go_num, Lib.hid (by have := HI.out.swap hj HV.out (by rw [HMJ.out]; exact HU.out) HLT.out; rwa [HMJ.out] at this), Lib.hid (((show Own1i w3.drew _ _ _ from O3.out).setAt j u).setAt m v), Lib.hid ((K3.out.drew.setCell (p := ⟨g, j, none⟩) rfl _).setCell (p := ⟨g, m, none⟩) rfl _)⟩
              case measure => simp [intOf]; omega
          · have HLT := Lib.hid hlt2
            have hq : ¬ cpN (bf (n : Int) ls t u) (bf (n : Int) ls t v) < 0 := fun h => hlt2 (cpN_neg.1 h)
            generalize cpN (bf (n : Int) ls t u) (bf (n : Int) ls t v) = q at *
            clear hlt2
            refine stage_seg _ 0 [15, 16] (by kernel_rfl) (by kernel_rfl) (by kernel_rfl) (by kernel_rfl) ?_
            (simp only [List.map_cons, List.map_nil, List.getElem?_cons_zero, List.getElem?_cons_succ, Option.getD_some]); (repeat (go_big_quiet_step (fail))); (refine wpQuiet_nil ?_)
            refine stage_end (by kernel_rfl) ?_
            go_wp2_with fail
            go_roundw
            case rel => exact ⟨i + 1, cur2, by omega, hlt, by go_num, Lib.hid (HI.out.done HAS.out (.inr ⟨u, v, HV.out, by rw [HMJ.out]; exact HU.out, HLT.out⟩)), O3, K3⟩
            case measure => simp [intOf]; omega
        · have hj0 : ¬ (0 : Int) < (j : Int) := by omega
          have HJ0 := Lib.hid (show j = 0 by omega)
          go_wp2_with fail
          go_quiet (fail)
          go_wp2_with fail
          go_roundw
          case rel => exact ⟨i + 1, cur2, by omega, hlt, by go_num, Lib.hid (HI.out.done HAS.out (.inl HJ0.out)), HO2, Lib.hid ⟨HK2.out.os, HK2.out.tape, HK2.out.output, HK2.out.size, HK2.out.block⟩⟩
          case measure => simp [intOf]; omega
    · obtain rfl : i = xs.length := by omega
      go_wp2_with fail
      go_end0
      exact ⟨rfl, cur, HO1.out, HK.out, HS.out⟩
theorem needA_few (n : Int) (ls : List Lk) (s x : Int) : (needA n ls s x).length ≤ 8 := by
  rw [← rwA_need]
  unfold rwA
  split
  · exact Nat.le_trans (List.length_filter_le _ _) (reach_len8 n ls s)
  · exact Nat.zero_le _
theorem isort_nil (A : Option Addr) (c : Nat) (fv : Value) (w : World) :
   Calls Try.prog 104 #[.slice A 0 c, .int .i64 0, .int .i64 0, fv] w fun e w' => e = .returned (.tuple #[]) ∧ w' = w := by
  go_enter Try.func104, Try.ntmps104
  go_wp2_with fail
  go_loopw [8] (fun i wr => i = .int .i64 1 ∧ wr = w) (fun _ _ => 0)
  case atStart => exact ⟨rfl, rfl⟩
  case round =>
    obtain ⟨rfl, rfl⟩ := hrel
    go_wp2_with fail
    go_end0
    exact ⟨rfl, rfl⟩
set_option maxRecDepth 100000 in
set_option maxHeartbeats 800000 in
theorem stable_gen (A : Option Addr) (len c : Nat) (fv : Value) (w : World) (R : World → Prop) (h8 : len ≤ 8) (C : Calls Try.prog 104 #[.slice A len c, .int .i64 0, .int .i64 (len : Int), fv] w fun e w' => e = .returned (.tuple #[]) ∧ R w') :
   Calls Try.prog 76 #[.slice A len c, .int .i64 (len : Int), fv] w fun e w' => e = .returned (.tuple #[]) ∧ R w' := by
  have h20 : ¬ (20 : Int) ≤ (len : Int) := by omega
  have h21 : ¬ (20 : Int) < (len : Int) := by omega
  go_enter Try.func76, Try.ntmps76
  go_wp2_with fail
  go_loopw [7, 8] (fun a b wr => a = .int .i64 0 ∧ b = .int .i64 20 ∧ wr = w) (fun _ _ _ => 0)
  case atStart => exact ⟨rfl, rfl, rfl⟩
  case round =>
    obtain ⟨rfl, rfl, rfl⟩ := hrel
    go_wp2_with fail
    refine C.mono ?_
    clear C
    rintro e w1 ⟨rfl, hr⟩
    have HR := Lib.hid hr
    clear hr
    go_wp2_with fail
    go_loopw [6] (fun a w2 => a = .int .i64 20 ∧ Hid (R w2)) (fun _ _ => 0)
    case atStart => exact ⟨rfl, HR⟩
    case round =>
      obtain ⟨rfl, HR2⟩ := hrel
      go_wp2_with fail
      go_end0
      exact ⟨rfl, HR2.out⟩
theorem sort_gen (A : Option Addr) (len c : Nat) (fv : Value) (w : World) (R : World → Prop) (h8 : len ≤ 8) (C : Calls Try.prog 104 #[.slice A len c, .int .i64 0, .int .i64 (len : Int), fv] w fun e w' => e = .returned (.tuple #[]) ∧ R w') :
   Calls Try.prog 42 #[.slice A len c, fv] w fun e w' => e = .returned (.tuple #[]) ∧ R w' := by
  have C1 := stable_gen A len c fv w R h8 C
  clear C
  go_enter Try.func42, Try.ntmps42
  go_wp2_with fail
  refine C1.mono ?_
  clear C1
  rintro e w1 ⟨rfl, hr⟩
  go_wp2_with fail
  go_end0
  exact ⟨rfl, hr⟩

set_option maxRecDepth 100000 in
set_option maxHeartbeats 800000 in
theorem updOrder_impl (nn : Int) (A : Option Addr) (ls : List Lk) (c : Nat) (x t : Int) (w : World) (hm : ls.length ≤ 2000000) (hS : Sl w w.heap.size A ls) :
   Calls Try.prog 12 #[gval nn A ls.length c, .int .i64 x, .int .i64 t] w (NewC (ordA nn ls x t) w) := by
  have B0 : Below w.heap.size w (w.alloc (.cells #[.int .i64 nn, .slice A ls.length c] 25)) := by (repeat (first | exact Below.refl _ _ | (refine Below.alloc ?_ (by first | exact Nat.le_refl _ | omega | (simp; done) | (simp; omega)) _) | (refine Below.setCell ?_ (by first | exact Nat.le_refl _ | omega | (simp; done) | (simp; omega)) _) | exact Below.drew ‹_›))
  have HB := Lib.hid B0
  have HG := Lib.hid (Box.new w 25 #[.int .i64 nn, .slice A ls.length c])
  have C1 := repNeed_implC nn A ls c t x _ hm ((hS.below B0).more B0.size)
  have CD := fun W (h : Sl W W.heap.size A ls) => dist_impl nn A ls c t W hm h
  have HS := Lib.hid hS
  have HD := Lib.hid (ordA_need nn ls x t)
  have hx8 := needA_few nn ls t x
  have HDL : Hid (∀ n : Nat, nn = (n : Int) → gvB nn ls = true → (0 ≤ t ∧ t < nn) → ∀ y : Int, 0 ≤ y → y < nn → (distL nn ls t)[y.toNat]? = some (bf nn ls t y)) := Lib.hid (fun n hn hg ht y h0 h1 => by
    subst hn
    rw [distL_at hg ht (show y.toNat < n by omega), show ((y.toNat : Nat) : Int) = y by omega])
  clear hS B0
  generalize needA nn ls t x = xs at *
  generalize distL nn ls t = ds at *
  go_enter Try.func12, Try.ntmps12
  go_wp2_with fail
  refine C1.mono ?_
  clear C1
  rintro e w1 ⟨A1, g1, c1, rfl, hg1, ho1, hb1, hc1⟩
  have B1 := Lib.hid (HB.out.trans (hb1.mono HB.out.size))
  obtain ⟨zg, g0, g1', -, -⟩ := (HG.out.below hb1 HG.out.lt).two
  have O1 := Lib.hid ho1
  have HG1 := Lib.hid hg1
  clear hb1 ho1 hg1 HG
  go_wp2_with fail
  refine (CD w1 ((HS.out.below B1.out).more B1.out.size)).mono ?_
  clear CD
  rintro e w2 ⟨A2, g2, c2, rfl, hg2, ho2, hb2⟩
  have B2 := Lib.hid (B1.out.trans (hb2.mono B1.out.size))
  have hb3 : Below w2.heap.size w2 (w2.alloc (.cells #[.slice A2 ds.length c2] 28)) := by (repeat (first | exact Below.refl _ _ | (refine Below.alloc ?_ (by first | exact Nat.le_refl _ | omega | (simp; done) | (simp; omega)) _) | (refine Below.setCell ?_ (by first | exact Nat.le_refl _ | omega | (simp; done) | (simp; omega)) _) | exact Below.drew ‹_›))
  have O3 := Lib.hid ((O1.out.below hb2).below hb3)
  have D3 := Lib.hid (ho2.below hb3)
  have K3 := Lib.hid (Box.new w2 28 #[.slice A2 ds.length c2])
  have B3 := Lib.hid (B2.out.trans (hb3.mono B2.out.size))
  have hl1 : 0 < xs.length → g1 < w1.heap.size := fun hp => (O1.out hp).2.lt
  have hz2 := hb2.size
  clear hb2 hb3 ho2 g0 g1' zg B1 B2 O1
  have CS : Calls Try.prog 42 #[.slice A1 xs.length c1, .func (.func 43) #[] #[.pointer (some ⟨w2.heap.size, 0, none⟩)]] (w2.alloc (.cells #[.slice A2 ds.length c2] 28)) fun e w' => e = .returned (.tuple #[]) ∧ (Own1i w' A1 g1 (ordA nn ls x t) ∧ (ordA nn ls x t).length = xs.length ∧ Kx (fun b => b = g1) (w2.alloc (.cells #[.slice A2 ds.length c2] 28)) w') := by
    refine sort_gen A1 xs.length c1 _ _ (fun w' => Own1i w' A1 g1 (ordA nn ls x t) ∧ (ordA nn ls x t).length = xs.length ∧ Kx (fun b => b = g1) (w2.alloc (.cells #[.slice A2 ds.length c2] 28)) w') hx8 ?_
    rcases HD.out with ⟨-, h1, h2⟩ | ⟨n, rfl, hg, ht, hx, hord, hmem, hasc, hran⟩
    · subst h1
      rw [h2]
      exact (isort_nil A1 c1 _ _).mono fun e w' ⟨he, hw⟩ => ⟨he, by rw [hw]; exact ⟨fun h => absurd h (by simp), rfl, Kx.refl _ _⟩⟩
    · rcases Nat.eq_zero_or_pos xs.length with h0 | h0
      · obtain rfl := List.eq_nil_of_length_eq_zero h0
        have h2 : ordA (n : Int) ls x t = [] := by
          rw [hord]
          exact List.eq_nil_iff_forall_not_mem.2 fun y hy => by have := (hmem y).1 hy; simp at this
        rw [h2]
        exact (isort_nil A1 c1 _ _).mono fun e w' ⟨he, hw⟩ => ⟨he, by rw [hw]; exact ⟨fun h => absurd h (by simp), rfl, Kx.refl _ _⟩⟩
      · have hl := hl1 h0
        obtain ⟨rfl, -⟩ := O3.out h0
        refine (isort_any n ls t g1 w2.heap.size c1 xs _ hx8 h0 hasc O3.out fun u v W hu hv hk => ?_).mono ?_
        · obtain ⟨hu0, hu1⟩ := hran u hu
          obtain ⟨hv0, hv1⟩ := hran v hv
          have := updc_any w2.heap.size A2 ds c2 u.toNat v.toNat (bf (n : Int) ls t u) (bf (n : Int) ls t v) W (hk.box K3.out (by intro e; omega)) ((D3.out.kx hk (by intro e; omega)).sli) (HDL.out n rfl hg ht u hu0 hu1) (HDL.out n rfl hg ht v hv0 hv1)
          rwa [show ((u.toNat : Nat) : Int) = u by omega, show ((v.toNat : Nat) : Int) = v by omega] at this
        · rintro e w' ⟨he, cur, hc, hk, hs⟩
          have hcl := hs.len (Nat.le_refl _)
          have hco := hs.ord (x := x) hmem
          rw [hord, ← hco]
          exact ⟨he, hc, hcl, hk⟩
  clear HDL HD hl1
  generalize ordA nn ls x t = os at *
  go_wp2_with fail
  refine CS.mono ?_
  clear CS
  rintro e w4 ⟨rfl, ho, hl, hk⟩
  have O4 := Lib.hid ho
  have K4 := Lib.hid hk
  have HL := Lib.hid hl
  clear ho hk hl
  go_wp2_with fail
  go_ret
  have hg1 := HG1.out
  have hl := HL.out
  rw [← hl]
  have hs := HB.out.size
  exact ⟨A1, g1, c1, rfl, by omega, O4.out, B3.out.trans ((K4.out.below (B := w.heap.size) B3.out.size (fun k e => by subst e; omega))), by omega⟩
end Go.Proofs.Ytkcnbgimdiggoab
