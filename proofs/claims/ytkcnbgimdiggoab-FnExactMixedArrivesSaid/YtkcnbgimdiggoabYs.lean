/-
  Contracts over this seat: the program's MixedHops (the hop over the failed link is deleted).
-/
import Derived.Test.YtkcnbgimdiggoabG5
import Derived.Test.YtkcnbgimdiggoabYw
import Derived.Test.YtkcnbgimdiggoabG2
import Derived.Test.YtkcnbgimdiggoabVs
import Derived.Test.YtkcnbgimdiggoabWr
namespace Go.Proofs.Ytkcnbgimdiggoab
open Go.RowKit Go.Maps

theorem wok_inv {n : Int} {ls : List Lk} {x : Int} (h : withoutOk n ls x = true) : gvB n ls = true ∧ 0 ≤ x ∧ x < (ls.length : Int) := by
  unfold withoutOk inB at h
  simp only [Bool.and_eq_true, decide_eq_true_eq] at h
  exact ⟨h.1, by omega⟩
set_option maxHeartbeats 800000 in
theorem wo_no (n : Int) (A : Option Addr) (ls : List Lk) (c : Nat) (x : Int) (w : World) (hm : ls.length ≤ 2000000) (hno : withoutOk n ls x = false) (h : Sl w w.heap.size A ls) :
   Calls Try.prog 21 #[gval n A ls.length c, .int .i64 x] w (GRes 0 [] false w) := by
  have H := Lib.hid h
  have hK := ((Box.new w 25 #[.int .i64 n, .slice A ls.length c]).alloc (.cells #[.int .i64 x] 3)).alloc (.cells #[.int .i64 0, .slice none 0 0] 25)
  have hX := (Box.new (w.alloc (.cells #[.int .i64 n, .slice A ls.length c] 25)) 3 #[.int .i64 x]).alloc (.cells #[.int .i64 0, .slice none 0 0] 25)
  have hL := Box.new ((w.alloc (.cells #[.int .i64 n, .slice A ls.length c] 25)).alloc (.cells #[.int .i64 x] 3)) 25 #[.int .i64 0, .slice none 0 0]
  simp only [World.size_alloc] at hX hL
  have HK := Lib.hid hK
  have HX := Lib.hid hX
  have HL := Lib.hid hL
  clear h hK hX hL
  cases hv : gvB n ls with
  | false =>
    clear hno
    have C1 : ∀ W : World, Sl W W.heap.size A ls → Calls Try.prog 58 #[gval n A ls.length c] W fun e w' => e = .returned (.bool false) ∧ Below W.heap.size W w' := fun W hW => by
      have := valid_impl n _ ls c W hm hW
      rwa [hv] at this
    clear hv
    go_enter Try.func21, Try.ntmps21
    go_wp2_with (go_at_call 58; refine (C1 _ ((H.out.below (by (repeat (first | exact Below.refl _ _ | (refine Below.alloc ?_ (by first | exact Nat.le_refl _ | omega | (simp; done) | (simp; omega)) _) | (refine Below.setCell ?_ (by first | exact Nat.le_refl _ | omega | (simp; done) | (simp; omega)) _) | exact Below.drew ‹_›)))).more (by simp; omega))).mono ?_; rintro e w1 ⟨rfl, hb1⟩; have L1 := HL.out.below hb1 (by simp); have B1 := Lib.hid (Below.trans (B := w.heap.size) (a := w) (by (repeat (first | exact Below.refl _ _ | (refine Below.alloc ?_ (by first | exact Nat.le_refl _ | omega | (simp; done) | (simp; omega)) _) | (refine Below.setCell ?_ (by first | exact Nat.le_refl _ | omega | (simp; done) | (simp; omega)) _) | exact Below.drew ‹_›))) (hb1.mono (by simp; omega))); clear hb1; obtain ⟨z11, f10, f11, q10, q11⟩ := L1.two)
    refine bodyPost_ret (v := .tuple #[gval 0 none 0 0, .bool false]) (by simp [results, Try.results21, go_sem, f10, f11]) rfl ⟨none, w.heap.size, 0, rfl, Nat.le_refl _, fun h => absurd h (by simp), ?_⟩
    exact (B1.out.setCell (by simp; omega) _).setCell (by simp; omega) _
  | true =>
    have C1 : ∀ W : World, Sl W W.heap.size A ls → Calls Try.prog 58 #[gval n A ls.length c] W fun e w' => e = .returned (.bool true) ∧ Below W.heap.size W w' := fun W hW => by
      have := valid_impl n _ ls c W hm hW
      rwa [hv] at this
    cases hx : inB x 0 ((ls.length : Int) - 1) with
    | false =>
      clear hno
      have C2 : ∀ W : World, Calls Try.prog 59 #[gval n A ls.length c, .int .i64 x] W fun e w' => e = .returned (.bool false) ∧ Below W.heap.size W w' := fun W => by
        have := hasLink_any n A ls.length c x W hm
        rwa [hx] at this
      clear hv hx
      go_enter Try.func21, Try.ntmps21
      go_wp2_with (first
        | (go_at_call 58; refine (C1 _ ((H.out.below (by (repeat (first | exact Below.refl _ _ | (refine Below.alloc ?_ (by first | exact Nat.le_refl _ | omega | (simp; done) | (simp; omega)) _) | (refine Below.setCell ?_ (by first | exact Nat.le_refl _ | omega | (simp; done) | (simp; omega)) _) | exact Below.drew ‹_›)))).more (by simp; omega))).mono ?_; rintro e w1 ⟨rfl, hb1⟩; have L1 := Lib.hid (HL.out.below hb1 (by simp)); have K1 := HK.out.below hb1 (by simp; omega); have X1 := HX.out.below hb1 (by simp); have B1 := Lib.hid (Below.trans (B := w.heap.size) (a := w) (by (repeat (first | exact Below.refl _ _ | (refine Below.alloc ?_ (by first | exact Nat.le_refl _ | omega | (simp; done) | (simp; omega)) _) | (refine Below.setCell ?_ (by first | exact Nat.le_refl _ | omega | (simp; done) | (simp; omega)) _) | exact Below.drew ‹_›))) (hb1.mono (by simp; omega))); clear hb1; have z10 := K1.lt; have e10 := K1.cell 0; have e11 := K1.cell 1; have x10 := X1.cell 0)
        | (go_at_call 59; refine (C2 _).mono ?_; rintro e w2 ⟨rfl, hb2⟩; have L2 := L1.out.below hb2 L1.out.lt; have B2 := Lib.hid (B1.out.trans (hb2.mono (Nat.le_of_lt z10))); clear hb2 e10 e11 x10; obtain ⟨z21, f20, f21, q20, q21⟩ := L2.two))
      refine bodyPost_ret (v := .tuple #[gval 0 none 0 0, .bool false]) (by simp [results, Try.results21, go_sem, f20, f21]) rfl ⟨none, w.heap.size, 0, rfl, Nat.le_refl _, fun h => absurd h (by simp), ?_⟩
      exact (B2.out.setCell (by simp; omega) _).setCell (by simp; omega) _
    | true =>
      unfold withoutOk at hno
      rw [hv, hx] at hno
      cases hno

theorem wo_any (nn : Int) (A : Option Addr) (ls : List Lk) (c : Nat) (x : Int) (W : World) (hm : ls.length ≤ 2000000) (hA : 0 < ls.length → ∃ g, A = some ⟨g, 0, none⟩) (hW : Sl W W.heap.size A ls) :
   Calls Try.prog 21 #[gval nn A ls.length c, .int .i64 x] W (if withoutOk nn ls x = true then GRes nn (ls.eraseIdx x.toNat) true W else GRes 0 [] false W) := by
  cases h : withoutOk nn ls x with
  | false =>
    rw [if_neg Bool.false_ne_true]
    exact wo_no nn A ls c x W hm h hW
  | true =>
    obtain ⟨hg, h0, h1⟩ := wok_inv h
    obtain ⟨g, rfl⟩ := hA (by omega)
    have := without_impl nn g ls c x W hm hW
    rw [if_pos h] at this
    have e : keepTo (fun k _ => !decide ((k : Int) = x)) ls ls.length = ls.eraseIdx x.toNat := by
      have := keep_erase ls x.toNat
      rwa [show ((x.toNat : Nat) : Int) = x by omega] at this
    rw [e] at this
    rw [if_pos rfl]
    exact this
section
variable {nn : Int} {ls : List Lk} {x t : Int} {ch : List Int} {y : Int}
theorem mixA_hops (h : withoutOk nn ls x = true) : mixA nn ls x t ch y = if y ∈ ch then hopsL nn (ls.eraseIdx x.toNat) y t else (hopsL nn ls y t).filter (fun z => !decide (linkI nn ls y z = x)) := by
  obtain ⟨hg, h0, h1⟩ := wok_inv h
  have hn1 := (gvB_fit hg).2.1
  obtain ⟨n, rfl⟩ : ∃ n : Nat, nn = (n : Int) := ⟨nn.toNat, by omega⟩
  have hi : idxB ls x = true := by
    unfold idxB
    simp
    omega
  unfold mixA mixH
  rw [hi, Bool.and_true, show ((x.toNat : Nat) : Int) = x by omega]
  cases hv : vwB (n : Int) ls [y, t] with
  | true => rw [if_pos rfl]
  | false =>
    have h2 : hopsL (n : Int) ls y t = [] := by
      unfold hopsL
      rw [hv]
      rfl
    have h3 : hopsL (n : Int) (ls.eraseIdx x.toNat) y t = [] := by
      unfold hopsL
      rw [if_neg]
      intro he
      obtain ⟨-, hy, ht⟩ := vwB_two he
      rw [vwB_of hg hy ht] at hv
      cases hv
    rw [if_neg (by simp), h2, h3]
    simp
theorem mixA_few (nn : Int) (ls : List Lk) (x t : Int) (ch : List Int) (y : Int) : (mixA nn ls x t ch y).length ≤ 8 := by
  unfold mixA
  split
  · unfold mixH
    split
    · exact hops_len _ _ _ _
    · exact Nat.le_trans (List.length_filter_le _ _) (hops_len _ _ _ _)
  · exact Nat.zero_le _
theorem mixA_no (h : withoutOk nn ls x = false) : mixA nn ls x t ch y = [] := by
  unfold mixA
  rw [if_neg]
  intro hc
  rw [Bool.and_eq_true] at hc
  unfold withoutOk at h
  rw [idx_in, hc.2, (vwB_two hc.1).1] at h
  cases h
end

set_option maxRecDepth 100000 in
/-- The closure asks whether the way to a node is the failed link. -/
theorem mixc_any (nn : Int) (A : Option Addr) (ls : List Lk) (c : Nat) (G K L : Nat) (x y z : Int) (w : World) (hm : ls.length ≤ 2000000) (hS : Sl w w.heap.size A ls) (hG : Box w G 25 #[.int .i64 nn, .slice A ls.length c]) (hK : Box w K 3 #[.int .i64 y]) (hL : Box w L 3 #[.int .i64 x]) :
   Calls Try.prog 56 #[.int .i64 z, .pointer (some ⟨G, 0, none⟩), .pointer (some ⟨K, 0, none⟩), .pointer (some ⟨L, 0, none⟩)] w fun e w' => e = .returned (.bool (decide (linkI nn ls y z = x))) ∧ Below w.heap.size w w' := by
  have CL := link_impl nn A ls c y z w.drew hm hS
  obtain ⟨z1, e10, e11, -, -⟩ := hG.two
  have z2 := hK.lt
  have z3 := hL.lt
  have e20 : w.cell? ⟨K, 0, none⟩ = some (.int .i64 y) := hK.cell 0
  have e30 : w.cell? ⟨L, 0, none⟩ = some (.int .i64 x) := hL.cell 0
  have hX := fun (y : Ext w.drew) (bb o : Nat) (h : bb < w.heap.size) => (show y.w.cell? ⟨bb, o, none⟩ = w.cell? ⟨bb, o, none⟩ from y.cell bb o h)
  clear hG hK hL hS
  go_enter Try.func56, Try.ntmps56
  go_wp2_with fail
  refine wp_region_staged 7 (by kernel_rfl) (by kernel_rfl) ?_
  refine stage_seg _ 3 [0, 1, 2, 4] (by kernel_rfl) (by kernel_rfl) (by kernel_rfl) (by kernel_rfl) ?_
  (simp only [List.map_cons, List.map_nil, List.getElem?_cons_zero, List.getElem?_cons_succ, Option.getD_some]); (repeat (go_big_quiet_step (fail))); (refine wpQuiet_nil ?_)
  clear hX z1 z2 z3 e10 e11 e20 e30
  refine stage_call _ 2 3 (by kernel_rfl) (by rfl) (by kernel_rfl) (by rfl) ?_
  go_wp2_with fail
  refine CL.mono ?_
  clear CL
  rintro e w2 ⟨rfl, hb⟩
  refine ⟨hb, ?_⟩
  have B2 := Lib.hid (show Below w.heap.size w w2 from (Below.refl _ _).drew.trans hb)
  clear hb
  refine stage_seg _ 0 [5, 6] (by kernel_rfl) (by kernel_rfl) (by kernel_rfl) (by kernel_rfl) ?_
  (simp only [List.map_cons, List.map_nil, List.getElem?_cons_zero, List.getElem?_cons_succ, Option.getD_some]); (repeat (go_big_quiet_step (fail))); (refine wpQuiet_nil ?_)
  refine stage_end (by kernel_rfl) ?_
  go_wp2_with fail
  go_ret
  exact ⟨ret_bool (by by_cases h : linkI nn ls y z = x <;> simp [h]), B2.out⟩

set_option maxRecDepth 100000 in
theorem ixh_any (p : Int → Bool) (A : Option Addr) (g c G K L : Nat) (xs : List Int) (w : World) (hm : xs.length ≤ 8) (ho : Own1i w A g xs)
   (HC : ∀ (x : Int) (W : World), x ∈ xs → Kx (fun b => b = g) w W → Calls Try.prog 56 #[.int .i64 x, .pointer (some ⟨G, 0, none⟩), .pointer (some ⟨K, 0, none⟩), .pointer (some ⟨L, 0, none⟩)] W fun e w' => e = .returned (.bool (p x)) ∧ Below W.heap.size W w') :
   Calls Try.prog 84 #[.slice A xs.length c, .func (.func 56) #[] #[.pointer (some ⟨G, 0, none⟩), .pointer (some ⟨K, 0, none⟩), .pointer (some ⟨L, 0, none⟩)]] w fun e w' => Below w.heap.size w w' ∧ ((e = .returned (.int .i64 (-1)) ∧ ∀ (m : Nat) (y : Int), m < xs.length → xs[m]? = some y → p y = false) ∨ ∃ (k : Nat) (x : Int), e = .returned (.int .i64 (k : Int)) ∧ xs[k]? = some x ∧ p x = true ∧ ∀ (m : Nat) (y : Int), m < k → xs[m]? = some y → p y = false) := by
  have HX := Lib.hid ho
  have HH := Lib.hid HC
  clear ho HC
  go_enter Try.func84, Try.ntmps84
  go_wp2
  go_loopw [8] (fun v wr => ∃ k : Nat, k ≤ xs.length ∧ v = .int .i64 k ∧ Below w.heap.size w wr ∧ Hid (∀ (m : Nat) (y : Int), m < k → xs[m]? = some y → p y = false)) (fun v _ => xs.length - (intOf v).toNat)
  case atStart => exact ⟨0, Nat.zero_le _, rfl, Below.refl _ _, Lib.hid fun m _ h => by omega⟩
  case round =>
    obtain ⟨k, hk, rfl, hb, HA⟩ := hrel
    have HW := Lib.hid hb
    by_cases hlt : k < xs.length
    · obtain ⟨x, hxk⟩ : ∃ x, xs[k]? = some x := ⟨_, List.getElem?_eq_getElem hlt⟩
      have C1 := HH.out x wr (List.mem_of_getElem? hxk) (Kx.of_below hb)
      obtain ⟨rfl, zg, hc⟩ := (HX.out.below hb).at hxk
      have HK := Lib.hid hxk
      clear hxk hb
      cases hpr : p x with
      | true =>
        rw [hpr] at C1
        have HPR := Lib.hid hpr
        clear hpr
        go_wp2_with (go_at_call 56; refine C1.mono ?_; clear C1; rintro e w1 ⟨rfl, hb1⟩; have HW1 := Lib.hid (HW.out.trans (hb1.mono HW.out.size)); clear hb1)
        go_ret
        exact ⟨HW1.out, .inr ⟨k, x, rfl, HK.out, HPR.out, HA.out⟩⟩
      | false =>
        rw [hpr] at C1
        have HPR := Lib.hid hpr
        clear hpr
        go_wp2_with (go_at_call 56; refine C1.mono ?_; clear C1; rintro e w1 ⟨rfl, hb1⟩; have HW1 := Lib.hid (HW.out.trans (hb1.mono HW.out.size)); clear hb1)
        go_roundw
        case rel =>
          refine ⟨k + 1, hlt, by go_num, HW1.out, Lib.hid fun m y hj hy => ?_⟩
          by_cases hjk : m < k
          · exact HA.out m y hjk hy
          · obtain rfl : m = k := by omega
            rw [HK.out] at hy
            cases hy
            exact HPR.out
        case measure => simp [intOf]; omega
    · clear hb
      obtain rfl : k = xs.length := by omega
      go_wp2
      go_ret
      exact ⟨HW.out, .inl ⟨rfl, HA.out⟩⟩

set_option maxRecDepth 100000 in
theorem zero_int (w : World) : (zeroValue 3).run Try.prog w = .ok (.int .i64 0) w := by
  kernel_rfl

set_option maxRecDepth 100000 in
set_option maxHeartbeats 1600000 in
theorem delF_any (p : Int → Bool) (A : Option Addr) (g c G K L : Nat) (xs : List Int) (w : World) (hm : xs.length ≤ 8) (hlc : xs.length ≤ c) (ho : Own1i w A g xs)
   (HC : ∀ (x : Int) (W : World), x ∈ xs → Kx (fun b => b = g) w W → Calls Try.prog 56 #[.int .i64 x, .pointer (some ⟨G, 0, none⟩), .pointer (some ⟨K, 0, none⟩), .pointer (some ⟨L, 0, none⟩)] W fun e w' => e = .returned (.bool (p x)) ∧ Below W.heap.size W w') :
   Calls Try.prog 55 #[.slice A xs.length c, .func (.func 56) #[] #[.pointer (some ⟨G, 0, none⟩), .pointer (some ⟨K, 0, none⟩), .pointer (some ⟨L, 0, none⟩)]] w fun e w' => ∃ ys, ys = xs.filter (fun x => !p x) ∧ e = .returned (.slice A ys.length c) ∧ Own1i w' A g ys ∧ Kx (fun b => b = g) w w' := by
  have C1 := ixh_any p A g c G K L xs w hm ho HC
  have HX := Lib.hid ho
  have HH := Lib.hid HC
  clear ho HC
  go_enter Try.func55, Try.ntmps55
  go_wp2_with fail
  refine C1.mono ?_
  clear C1
  rintro e w1 ⟨hb, ⟨rfl, hall⟩ | ⟨k, x, rfl, hx, hp, hall⟩⟩
  · have HA := Lib.hid hall
    have HB := Lib.hid hb
    clear hall hb
    go_wp2_with fail
    go_ret
    exact ⟨xs, (filter_none HA.out).symm, rfl, HX.out.below HB.out, Kx.of_below HB.out⟩
  · obtain ⟨rfl, -, -⟩ := HX.out.at hx
    have hkl := (List.getElem?_eq_some_iff.1 hx).1
    have D1 := Lib.hid (DelI.start hall hx hp)
    have O1 := Lib.hid (HX.out.below hb)
    have K1 := Lib.hid (Kx.of_below (X := fun b => b = g) hb)
    have hne : ((k : Int) == -1) = false := beq_eq_false_iff_ne.2 (by omega)
    clear hx hp hall hb
    go_wp2_with fail
    go_loopw [5, 6] (fun vi vj wr => ∃ (i j : Nat) (cur : List Int), vi = .int .i64 (i : Int) ∧ vj = .int .i64 (j : Int) ∧ j ≤ xs.length ∧ Hid (DelI p xs i j cur) ∧ Hid (Own1i wr (some ⟨g, 0, none⟩) g cur) ∧ Hid (Kx (fun b => b = g) w wr)) (fun _ vj _ => xs.length - (intOf vj).toNat)
    case atStart => exact ⟨k, k + 1, xs, rfl, by go_num, by omega, D1, O1, K1⟩
    case round =>
      obtain ⟨i, j, cur, rfl, rfl, hj, D2, O2, K2⟩ := hrel
      clear D1 O1 K1 hne
      have hcl := D2.out.1
      have hij := D2.out.2.1
      by_cases hlt : j < xs.length
      · obtain ⟨x, hx⟩ : ∃ x, xs[j]? = some x := ⟨_, List.getElem?_eq_getElem hlt⟩
        have hc := D2.out.at hx
        obtain ⟨-, zg, cj⟩ := O2.out.at hc
        have C1 := HH.out x wr (List.mem_of_getElem? hx) K2.out
        have HXJ := Lib.hid hx
        clear hx hc
        cases hpr : p x with
        | true =>
          rw [hpr] at C1
          have HPR := Lib.hid hpr
          clear hpr
          go_wp2_with (go_at_call 56; refine C1.mono ?_; clear C1; rintro e w1 ⟨rfl, hb1⟩; have O3 := Lib.hid (O2.out.below hb1); have K3 := Lib.hid (K2.out.trans (Kx.of_below hb1)); clear hb1)
          go_roundw
          case rel => exact ⟨i, j + 1, cur, rfl, by go_num, hlt, Lib.hid (D2.out.skip HXJ.out HPR.out), O3, K3⟩
          case measure => simp [intOf]; omega
        | false =>
          rw [hpr] at C1
          have HPR := Lib.hid hpr
          clear hpr
          obtain ⟨u, hu⟩ : ∃ u, cur[i]? = some u := ⟨_, List.getElem?_eq_getElem (by omega)⟩
          have HU := Lib.hid hu
          have hil : (i : Int) < (xs.length : Int) := by omega
          clear hu
          go_wp2_with (go_at_call 56; refine C1.mono ?_; clear C1; rintro e w1 ⟨rfl, hb1⟩; have O3 := Lib.hid (O2.out.below hb1); have K3 := Lib.hid (K2.out.trans (Kx.of_below hb1)); clear hb1; obtain ⟨-, zg1, ci⟩ := O3.out.at HU.out; have fi := O3.out.frozen HU.out)
          go_roundw
          case rel => exact ⟨i + 1, j + 1, cur.set i x, by go_num, by go_num, hlt, Lib.hid (D2.out.keep HXJ.out HPR.out), Lib.hid (O3.out.setAt i x), Lib.hid (K3.out.setCell (p := ⟨g, i, none⟩) rfl _)⟩
          case measure => simp [intOf]; omega
      · obtain rfl : j = xs.length := by omega
        have hzg : g < wr.heap.size := by
          obtain ⟨-, cs, hh, -⟩ := O2.out (by omega)
          exact heap_lt hh
        have hil : (i : Int) ≤ (xs.length : Int) := by omega
        have hic : (i : Int) ≤ (c : Int) := by omega
        have hclr : ∀ ty, (Builtin.clear_ #[28] ty #[.slice (some ⟨g, i, none⟩) (xs.length - i) (c - i)]).run Try.prog wr = .ok (.tuple #[]) (wr.setCells g i (List.replicate (xs.length - i) (.int .i64 0))) :=
          fun ty => Lib.run_clear_slice wr _ _ ty _ Try.underlying28 zero_int rfl rfl g i _ _ (by omega) (fun m hm => by
            obtain ⟨-, -, hc⟩ := O2.out.at (List.getElem?_eq_getElem (show i + m < cur.length by omega))
            rw [hc]
            rfl) (fun m hm => O2.out.frozen (List.getElem?_eq_getElem (show i + m < cur.length by omega)))
        go_wp2_with fail
        go_ret
        obtain ⟨e1, e2⟩ := D2.out.done
        refine ⟨cur.take i, e1, ?_, O2.out.zeros (xs.length - i) i, Kx.setCells (X := fun b => b = g) rfl _ _ K2.out⟩
        rw [e1, e2]
        rfl
set_option maxRecDepth 100000 in
set_option maxHeartbeats 1600000 in
theorem mixHops_impl (nn : Int) (A : Option Addr) (ls : List Lk) (c : Nat) (x t : Int) (B : Option Addr) (ch : List Int) (cb : Nat) (y : Int) (w : World) (hm : ls.length ≤ 2000000) (hA : 0 < ls.length → ∃ g, A = some ⟨g, 0, none⟩) (hmb : ch.length ≤ 2000000) (hS : Sl w w.heap.size A ls) (hB : Sli w w.heap.size B ch) :
   Calls Try.prog 19 #[gval nn A ls.length c, .int .i64 x, .int .i64 t, .slice B ch.length cb, .int .i64 y] w (NewI (mixA nn ls x t ch y) w) := by
  have B0 : Below w.heap.size w (((w.alloc (.cells #[.int .i64 nn, .slice A ls.length c] 25)).alloc (.cells #[.int .i64 x] 3)).alloc (.cells #[.int .i64 y] 3)) := by (repeat (first | exact Below.refl _ _ | (refine Below.alloc ?_ (by first | exact Nat.le_refl _ | omega | (simp; done) | (simp; omega)) _) | (refine Below.setCell ?_ (by first | exact Nat.le_refl _ | omega | (simp; done) | (simp; omega)) _) | exact Below.drew ‹_›))
  have G0 := ((Box.new w 25 #[.int .i64 nn, .slice A ls.length c]).alloc (.cells #[.int .i64 x] 3)).alloc (.cells #[.int .i64 y] 3)
  have X0 := (Box.new (w.alloc (.cells #[.int .i64 nn, .slice A ls.length c] 25)) 3 #[.int .i64 x]).alloc (.cells #[.int .i64 y] 3)
  have Y0 := Box.new ((w.alloc (.cells #[.int .i64 nn, .slice A ls.length c] 25)).alloc (.cells #[.int .i64 x] 3)) 3 #[.int .i64 y]
  simp only [World.size_alloc] at X0 Y0
  have C1 := wo_any nn A ls c x _ hm hA ((hS.below B0).more B0.size)
  have HS := Lib.hid hS
  have HBB := Lib.hid hB
  have HB0 := Lib.hid B0
  have HG0 := Lib.hid G0
  have HX0 := Lib.hid X0
  have HY0 := Lib.hid Y0
  clear hS hB B0 G0 X0 Y0 hA
  by_cases hw : withoutOk nn ls x = true
  · rw [if_pos hw] at C1
    have HE := Lib.hid (mixA_hops (t := t) (ch := ch) (y := y) hw)
    have hel : (ls.eraseIdx x.toNat).length ≤ 2000000 := Nat.le_trans (List.length_eraseIdx_le _ _) hm
    generalize ls.eraseIdx x.toNat = rs at *
    clear hw
    have CC := fun W (h : Sli W W.heap.size B ch) => contains_any B ch cb y W hmb h
    by_cases hyc : y ∈ ch
    · have HE2 := HE.out
      rw [if_pos hyc] at HE2
      have HE3 := Lib.hid HE2
      rw [decide_eq_true hyc] at CC
      clear HE HE2 hyc
      go_enter Try.func19, Try.ntmps19
      go_wp2_with fail
      refine C1.mono ?_
      clear C1
      rintro e w1 ⟨A1, g1, c1, rfl, hg1, ho1, hb1⟩
      have b1 : Below (((w.alloc (.cells #[.int .i64 nn, .slice A ls.length c] 25)).alloc (.cells #[.int .i64 x] 3)).alloc (.cells #[.int .i64 y] 3)).heap.size (((w.alloc (.cells #[.int .i64 nn, .slice A ls.length c] 25)).alloc (.cells #[.int .i64 x] 3)).alloc (.cells #[.int .i64 y] 3)) (w1.alloc (.cells #[.int .i64 nn, .slice A1 rs.length c1] 25)) := hb1.alloc hb1.size _
      have B1 := Lib.hid (HB0.out.trans (b1.mono HB0.out.size))
      have Y1 := HY0.out.below hb1 HY0.out.lt
      have zy := Y1.lt
      have cy : w1.cell? ⟨w.heap.size + 1 + 1, 0, none⟩ = some (.int .i64 y) := Y1.cell 0
      have L1 := Lib.hid (Box.new w1 25 #[.int .i64 nn, .slice A1 rs.length c1])
      have R1 := Lib.hid ((ho1.alloc (.cells #[.int .i64 nn, .slice A1 rs.length c1] 25)).sl)
      have YB := Lib.hid (Y1.alloc (.cells #[.int .i64 nn, .slice A1 rs.length c1] 25))
      clear ho1 hb1 b1 Y1 HG0 HX0 HY0 hg1
      go_wp2_with fail
      refine (CC _ ((HBB.out.below B1.out).more B1.out.size)).mono ?_
      clear CC
      rintro e w2 ⟨rfl, rfl⟩
      clear cy zy
      generalize w1.heap.size = z1 at *
      generalize w1.alloc (.cells #[.int .i64 nn, .slice A1 rs.length c1] 25) = W1 at *
      obtain ⟨zl, l0, l1, -, -⟩ := L1.out.two
      have cy : W1.cell? ⟨w.heap.size + 1 + 1, 0, none⟩ = some (.int .i64 y) := YB.out.cell 0
      have zy := YB.out.lt
      go_wp2_with fail
      refine (hops_impl nn A1 rs c1 y t W1 hel R1.out).mono ?_
      rintro e w3 ⟨A3, g3, c3, rfl, hg3, ho3, hb3⟩
      have B3 := Lib.hid (B1.out.trans (hb3.mono B1.out.size))
      have hz := B1.out.size
      have O3 := Lib.hid ho3
      clear hb3 ho3 l0 l1 cy
      go_wp2_with fail
      go_ret
      rw [HE3.out]
      exact ⟨A3, g3, c3, rfl, by omega, O3.out, B3.out⟩
    · have HE2 := HE.out
      rw [if_neg hyc] at HE2
      have HE3 := Lib.hid HE2
      rw [decide_eq_false hyc] at CC
      clear HE HE2 hyc
      go_enter Try.func19, Try.ntmps19
      go_wp2_with fail
      refine C1.mono ?_
      clear C1
      rintro e w1 ⟨A1, g1, c1, rfl, hg1, ho1, hb1⟩
      have b1 : Below (((w.alloc (.cells #[.int .i64 nn, .slice A ls.length c] 25)).alloc (.cells #[.int .i64 x] 3)).alloc (.cells #[.int .i64 y] 3)).heap.size (((w.alloc (.cells #[.int .i64 nn, .slice A ls.length c] 25)).alloc (.cells #[.int .i64 x] 3)).alloc (.cells #[.int .i64 y] 3)) (w1.alloc (.cells #[.int .i64 nn, .slice A1 rs.length c1] 25)) := hb1.alloc hb1.size _
      have B1 := Lib.hid (HB0.out.trans (b1.mono HB0.out.size))
      have Y1 := HY0.out.below hb1 HY0.out.lt
      have zy := Y1.lt
      have cy : w1.cell? ⟨w.heap.size + 1 + 1, 0, none⟩ = some (.int .i64 y) := Y1.cell 0
      have YB := Lib.hid (Y1.alloc (.cells #[.int .i64 nn, .slice A1 rs.length c1] 25))
      have XB := Lib.hid ((HX0.out.below hb1 HX0.out.lt).alloc (.cells #[.int .i64 nn, .slice A1 rs.length c1] 25))
      have GB := Lib.hid ((HG0.out.below hb1 HG0.out.lt).alloc (.cells #[.int .i64 nn, .slice A1 rs.length c1] 25))
      clear ho1 hb1 b1 Y1 HG0 HX0 HY0 hg1
      go_wp2_with fail
      refine (CC _ ((HBB.out.below B1.out).more B1.out.size)).mono ?_
      clear CC
      rintro e w2 ⟨rfl, rfl⟩
      clear cy zy
      generalize w1.heap.size = z1 at *
      generalize w1.alloc (.cells #[.int .i64 nn, .slice A1 rs.length c1] 25) = W1 at *
      obtain ⟨zg, g0, g1', -, -⟩ := GB.out.two
      have cy : W1.cell? ⟨w.heap.size + 1 + 1, 0, none⟩ = some (.int .i64 y) := YB.out.cell 0
      have zy := YB.out.lt
      go_wp2_with fail
      refine (hops_implC nn A ls c y t W1 hm ((HS.out.below B1.out).more B1.out.size)).mono ?_
      rintro e w3 ⟨A3, g3, c3, rfl, hg3, ho3, hb3, hc3⟩
      have CD := delF_any (fun z => decide (linkI nn ls y z = x)) A3 g3 c3 w.heap.size (w.heap.size + 1 + 1) (w.heap.size + 1) (hopsL nn ls y t) w3 (hops_len _ _ _ _) hc3 ho3 (fun z W _ hk => by
        have hbb : Below W1.heap.size w3 W := hk.below hb3.size (fun k e => by subst e; exact hg3)
        have hBW := hb3.trans hbb
        have hBW2 := B1.out.trans (hBW.mono B1.out.size)
        exact mixc_any nn A ls c w.heap.size (w.heap.size + 1 + 1) (w.heap.size + 1) x y z W hm ((HS.out.below hBW2).more hBW2.size) (GB.out.below hBW GB.out.lt) (YB.out.below hBW YB.out.lt) (XB.out.below hBW XB.out.lt))
      have B3 := Lib.hid (B1.out.trans (hb3.mono B1.out.size))
      have HG3 := Lib.hid hg3
      clear hb3 ho3 g0 g1' cy hc3 hg3
      generalize hopsL nn ls y t = hs at *
      go_wp2_with fail
      refine CD.mono ?_
      clear CD
      rintro e w4 ⟨ys, hys, rfl, ho4, hk4⟩
      have hzz := B1.out.size
      have hg3 := HG3.out
      have B4 := Lib.hid (B3.out.trans (hk4.below B3.out.size (fun k e => by subst e; omega)))
      have O4 := Lib.hid ho4
      have HY := Lib.hid hys
      clear hk4 ho4 hys
      go_wp2_with fail
      go_ret
      rw [HE3.out, ← HY.out]
      exact ⟨A3, g3, c3, rfl, by omega, O4.out, B4.out⟩
  · rw [if_neg hw] at C1
    have HE := Lib.hid (mixA_no (t := t) (ch := ch) (y := y) (by simpa using hw))
    clear hw
    go_enter Try.func19, Try.ntmps19
    go_wp2_with fail
    refine C1.mono ?_
    clear C1
    rintro e w1 ⟨A1, g1, c1, rfl, hg1, ho1, hb1⟩
    have B1 := Lib.hid (HB0.out.trans (hb1.mono HB0.out.size))
    clear ho1 hb1 HG0 HX0 HY0
    go_wp2_with fail
    go_ret
    rw [HE.out]
    exact ⟨some ⟨w1.heap.size + 1, 0, none⟩, w1.heap.size + 1, 0, by simp, by have := B1.out.size; omega, fun h => by simp at h, (B1.out.alloc B1.out.size _).alloc (by have := B1.out.size; simp; omega) _⟩
end Go.Proofs.Ytkcnbgimdiggoab
