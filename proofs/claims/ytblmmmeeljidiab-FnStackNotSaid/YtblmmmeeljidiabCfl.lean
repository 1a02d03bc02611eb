/-
  Contracts over this seat: legs asked one after the other, whether a function holds of one.
-/
import Derived.Test.YtblmmmeeljidiabSi
namespace Go.Proofs.Ytblmmmeeljidiab
open Go.RowKit Go.Maps

set_option maxRecDepth 100000 in
/-- The first leg that the function holds of. -/
theorem ifl_cr (gs : List Lg) (pr : Lg → Bool) (X : Option Addr) (cx : Nat) (G K : Nat) (w : World) (hm : gs.length ≤ 8) (hx : Slg w w.heap.size X gs)
    (HC : ∀ (k : Nat) (x : Lg) (W : World), gs[k]? = some x → Below w.heap.size w W → Slg W W.heap.size X gs → Calls Try.prog 45 #[.agg #[byV x.l, .slice x.A x.p.length x.c], .pointer (some ⟨G, 0, none⟩), .pointer (some ⟨K, 0, none⟩)] W fun e w' => e = .returned (.bool (pr x)) ∧ Below W.heap.size W w') :
   Calls Try.prog 75 #[.slice X gs.length cx, .func (.func 45) #[] #[.pointer (some ⟨G, 0, none⟩), .pointer (some ⟨K, 0, none⟩)]] w fun e w' => (∃ r : Int, e = .returned (.int .i64 r) ∧ decide (0 ≤ r) = gs.any pr) ∧ Below w.heap.size w w' := by
  have HX := Lib.hid hx
  have HH := Lib.hid HC
  clear hx HC
  go_enter Try.func75, Try.ntmps75
  go_wp2
  go_loopw [8] (fun v wr => ∃ k : Nat, k ≤ gs.length ∧ v = .int .i64 k ∧ Below w.heap.size w wr ∧ ∀ (j : Nat) (x : Lg), j < k → gs[j]? = some x → pr x = false) (fun v _ => gs.length - (intOf v).toNat)
  case atStart => exact ⟨0, Nat.zero_le _, rfl, Below.refl _ _, fun j _ h => by omega⟩
  case round =>
    obtain ⟨k, hk, rfl, hb, hall⟩ := hrel
    have HA := Lib.hid hall
    have HW := Lib.hid hb
    clear hall
    by_cases hlt : k < gs.length
    · obtain ⟨x, hxk⟩ : ∃ x, gs[k]? = some x := ⟨_, List.getElem?_eq_getElem hlt⟩
      have C1 := HH.out k x wr hxk hb (HX.out.grow hb)
      obtain ⟨b, off, rfl, hbb, hc1, hc2, -, -⟩ := (HX.out.below hb) k x hxk
      have HK := Lib.hid hxk
      have hbv := byV_iface x.l

      clear hxk hb
      generalize byV x.l = bv at *
      obtain ⟨T, v0, rfl⟩ := hbv
      generalize x.A = XA at *
      generalize x.p.length = XP at *
      generalize x.c = XC at *
      cases hpr : pr x with
      | true =>
        rw [hpr] at C1
        have HPR := Lib.hid hpr
        clear hpr
        go_wp2_with (go_at_call 45; refine C1.mono ?_; clear C1; rintro e w1 ⟨rfl, hb1⟩; have HW1 := Lib.hid (HW.out.trans (hb1.mono HW.out.size)); clear hb1)
        go_ret
        refine ⟨⟨_, rfl, ?_⟩, HW1.out⟩
        have : gs.any pr = true := List.any_eq_true.2 ⟨x, List.mem_of_getElem? HK.out, HPR.out⟩
        rw [this]
        simp
      | false =>
        rw [hpr] at C1
        have HPR := Lib.hid hpr
        clear hpr
        go_wp2_with (go_at_call 45; refine C1.mono ?_; clear C1; rintro e w1 ⟨rfl, hb1⟩; have HW1 := Lib.hid (HW.out.trans (hb1.mono HW.out.size)); clear hb1)
        go_roundw
        case rel =>
          refine ⟨k + 1, hlt, by go_num, HW1.out, fun j y hj hy => ?_⟩
          by_cases hjk : j < k
          · exact HA.out j y hjk hy
          · obtain rfl : j = k := by omega
            rw [HK.out] at hy
            cases hy
            exact HPR.out
        case measure => simp [intOf]; omega
    · clear hb
      go_wp2
      go_ret
      refine ⟨⟨_, rfl, ?_⟩, HW.out⟩
      have : gs.any pr = false := by
        rw [List.any_eq_false]
        intro y hy
        obtain ⟨j, hj⟩ := List.getElem?_of_mem hy
        rw [HA.out j y (by have := (List.getElem?_eq_some_iff.1 hj).1; omega) hj]
        simp
      rw [this]
      simp
theorem cfl_cr (gs : List Lg) (pr : Lg → Bool) (X : Option Addr) (cx : Nat) (G K : Nat) (w : World) (hm : gs.length ≤ 8) (hx : Slg w w.heap.size X gs)
    (HC : ∀ (k : Nat) (x : Lg) (W : World), gs[k]? = some x → Below w.heap.size w W → Slg W W.heap.size X gs → Calls Try.prog 45 #[.agg #[byV x.l, .slice x.A x.p.length x.c], .pointer (some ⟨G, 0, none⟩), .pointer (some ⟨K, 0, none⟩)] W fun e w' => e = .returned (.bool (pr x)) ∧ Below W.heap.size W w') :
   Calls Try.prog 44 #[.slice X gs.length cx, .func (.func 45) #[] #[.pointer (some ⟨G, 0, none⟩), .pointer (some ⟨K, 0, none⟩)]] w fun e w' => e = .returned (.bool (gs.any pr)) ∧ Below w.heap.size w w' := by
  have C1 := ifl_cr gs pr X cx G K w hm hx HC
  clear hx HC
  go_enter Try.func44, Try.ntmps44
  go_wp2_with (go_at_call 75; refine C1.mono ?_; clear C1; rintro e w1 ⟨⟨r, rfl, hr⟩, hb⟩; have HR := Lib.hid hr; clear hr)
  go_ret
  exact ⟨ret_bool (by rw [← HR.out]), hb⟩

set_option maxRecDepth 100000 in
/-- The first leg that the function holds of. -/
theorem ifl_un (gs : List Lg) (pr : Lg → Bool) (X : Option Addr) (cx : Nat) (G : Nat) (w : World) (hm : gs.length ≤ 8) (hx : Slg w w.heap.size X gs)
    (HC : ∀ (k : Nat) (x : Lg) (W : World), gs[k]? = some x → Below w.heap.size w W → Slg W W.heap.size X gs → Calls Try.prog 53 #[.agg #[byV x.l, .slice x.A x.p.length x.c], .pointer (some ⟨G, 0, none⟩)] W fun e w' => e = .returned (.bool (pr x)) ∧ Below W.heap.size W w') :
   Calls Try.prog 75 #[.slice X gs.length cx, .func (.func 53) #[] #[.pointer (some ⟨G, 0, none⟩)]] w fun e w' => (∃ r : Int, e = .returned (.int .i64 r) ∧ decide (0 ≤ r) = gs.any pr) ∧ Below w.heap.size w w' := by
  have HX := Lib.hid hx
  have HH := Lib.hid HC
  clear hx HC
  go_enter Try.func75, Try.ntmps75
  go_wp2
  go_loopw [8] (fun v wr => ∃ k : Nat, k ≤ gs.length ∧ v = .int .i64 k ∧ Below w.heap.size w wr ∧ ∀ (j : Nat) (x : Lg), j < k → gs[j]? = some x → pr x = false) (fun v _ => gs.length - (intOf v).toNat)
  case atStart => exact ⟨0, Nat.zero_le _, rfl, Below.refl _ _, fun j _ h => by omega⟩
  case round =>
    obtain ⟨k, hk, rfl, hb, hall⟩ := hrel
    have HA := Lib.hid hall
    have HW := Lib.hid hb
    clear hall
    by_cases hlt : k < gs.length
    · obtain ⟨x, hxk⟩ : ∃ x, gs[k]? = some x := ⟨_, List.getElem?_eq_getElem hlt⟩
      have C1 := HH.out k x wr hxk hb (HX.out.grow hb)
      obtain ⟨b, off, rfl, hbb, hc1, hc2, -, -⟩ := (HX.out.below hb) k x hxk
      have HK := Lib.hid hxk
      have hbv := byV_iface x.l

      clear hxk hb
      generalize byV x.l = bv at *
      obtain ⟨T, v0, rfl⟩ := hbv
      generalize x.A = XA at *
      generalize x.p.length = XP at *
      generalize x.c = XC at *
      cases hpr : pr x with
      | true =>
        rw [hpr] at C1
        have HPR := Lib.hid hpr
        clear hpr
        go_wp2_with (go_at_call 53; refine C1.mono ?_; clear C1; rintro e w1 ⟨rfl, hb1⟩; have HW1 := Lib.hid (HW.out.trans (hb1.mono HW.out.size)); clear hb1)
        go_ret
        refine ⟨⟨_, rfl, ?_⟩, HW1.out⟩
        have : gs.any pr = true := List.any_eq_true.2 ⟨x, List.mem_of_getElem? HK.out, HPR.out⟩
        rw [this]
        simp
      | false =>
        rw [hpr] at C1
        have HPR := Lib.hid hpr
        clear hpr
        go_wp2_with (go_at_call 53; refine C1.mono ?_; clear C1; rintro e w1 ⟨rfl, hb1⟩; have HW1 := Lib.hid (HW.out.trans (hb1.mono HW.out.size)); clear hb1)
        go_roundw
        case rel =>
          refine ⟨k + 1, hlt, by go_num, HW1.out, fun j y hj hy => ?_⟩
          by_cases hjk : j < k
          · exact HA.out j y hjk hy
          · obtain rfl : j = k := by omega
            rw [HK.out] at hy
            cases hy
            exact HPR.out
        case measure => simp [intOf]; omega
    · clear hb
      go_wp2
      go_ret
      refine ⟨⟨_, rfl, ?_⟩, HW.out⟩
      have : gs.any pr = false := by
        rw [List.any_eq_false]
        intro y hy
        obtain ⟨j, hj⟩ := List.getElem?_of_mem hy
        rw [HA.out j y (by have := (List.getElem?_eq_some_iff.1 hj).1; omega) hj]
        simp
      rw [this]
      simp
theorem cfl_un (gs : List Lg) (pr : Lg → Bool) (X : Option Addr) (cx : Nat) (G : Nat) (w : World) (hm : gs.length ≤ 8) (hx : Slg w w.heap.size X gs)
    (HC : ∀ (k : Nat) (x : Lg) (W : World), gs[k]? = some x → Below w.heap.size w W → Slg W W.heap.size X gs → Calls Try.prog 53 #[.agg #[byV x.l, .slice x.A x.p.length x.c], .pointer (some ⟨G, 0, none⟩)] W fun e w' => e = .returned (.bool (pr x)) ∧ Below W.heap.size W w') :
   Calls Try.prog 44 #[.slice X gs.length cx, .func (.func 53) #[] #[.pointer (some ⟨G, 0, none⟩)]] w fun e w' => e = .returned (.bool (gs.any pr)) ∧ Below w.heap.size w w' := by
  have C1 := ifl_un gs pr X cx G w hm hx HC
  clear hx HC
  go_enter Try.func44, Try.ntmps44
  go_wp2_with (go_at_call 75; refine C1.mono ?_; clear C1; rintro e w1 ⟨⟨r, rfl, hr⟩, hb⟩; have HR := Lib.hid hr; clear hr)
  go_ret
  exact ⟨ret_bool (by rw [← HR.out]), hb⟩

end Go.Proofs.Ytblmmmeeljidiab
