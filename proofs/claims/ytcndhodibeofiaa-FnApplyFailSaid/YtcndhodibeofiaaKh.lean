/-
  Contracts over this seat: the program's own functions of candidates (chapter 13 as landed).
-/
import Derived.Test.YtcndhodibeofiaaKe
import Derived.Test.YtcndhodibeofiaaC1
import Derived.Handy
namespace Go.Proofs.Ytcndhodibeofiaa
open Go.RowKit Go.Maps

theorem numk_any (n : Int) (w : World) :
   Calls Try.prog 36 #[.int .i64 n] w fun e w' => e = .returned (.bool (inB n 0 7)) ∧ w = w' := by
  go_enter Try.func36, Try.ntmps36
  go_wp2
  all_goals
    go_ret
    exact ⟨ret_bool (by unfold inB; rw [Bool.eq_iff_iff]; simp; omega), rfl⟩
theorem candv_any (x : Lk) (w : World) :
   Calls Try.prog 30 #[cdV x] w fun e w' => e = .returned (.bool (cdP x)) ∧ Below w.heap.size w w' := by
  obtain ⟨xa, xb, xc⟩ := x
  have C := fun W => numk_any xa W
  have HP : Hid (cdP ⟨xa, xb, xc⟩ = (inB xa 0 7 && (decide (0 ≤ xb) && decide (xb ≤ 9)) && (decide (0 ≤ xc) && decide (xc ≤ 2)))) := Lib.hid rfl
  generalize inB xa 0 7 = pa at *
  go_enter Try.func30, Try.ntmps30
  cases pa with
  | false =>
    go_wp2_with (go_at_call 36; refine (C _).mono ?_; rintro e w1 ⟨rfl, rfl⟩)
    all_goals
      go_ret
      exact ⟨ret_bool (by rw [HP.out]; rfl), by (repeat (first | exact Below.refl _ _ | (refine Below.alloc ?_ (by first | exact Nat.le_refl _ | omega | (simp; done) | (simp; omega)) _) | (refine Below.setCell ?_ (by first | exact Nat.le_refl _ | omega | (simp; done) | (simp; omega)) _) | exact Below.drew ‹_›))⟩
  | true =>
    go_wp2_with (go_at_call 36; refine (C _).mono ?_; rintro e w1 ⟨rfl, rfl⟩)
    all_goals
      go_ret
      exact ⟨ret_bool (by rw [HP.out]; rw [Bool.eq_iff_iff]; simp; try omega), by (repeat (first | exact Below.refl _ _ | (refine Below.alloc ?_ (by first | exact Nat.le_refl _ | omega | (simp; done) | (simp; omega)) _) | (refine Below.setCell ?_ (by first | exact Nat.le_refl _ | omega | (simp; done) | (simp; omega)) _) | exact Below.drew ‹_›))⟩

set_option maxRecDepth 100000 in
set_option maxHeartbeats 4000000 in
theorem candValid_impl (A : Option Addr) (xs : List Lk) (c : Nat) (w : World) (hm : xs.length ≤ 2000000) (hS : Sl w w.heap.size A xs) :
   Calls Try.prog 16 #[.slice A xs.length c] w fun e w' => e = .returned (.bool (cdB xs)) ∧ Below w.heap.size w w' := by
  have HS := Lib.hid hS
  have HN : Hid (∀ {k : Nat}, k < xs.length → cdAt xs k = false → cdB xs = false) := Lib.hid (fun h1 h2 => cdAt_no h1 h2)
  have HY : Hid ((∀ k, k < xs.length → cdAt xs k = true) → cdB xs = true) := Lib.hid cdAt_all
  clear hS
  go_enter Try.func16, Try.ntmps16
  go_wp2_with fail
  go_loopw [7] (fun i wr => ∃ k : Nat, k ≤ xs.length ∧ i = .int .i64 (k : Int) ∧ Hid (∀ j, j < k → cdAt xs j = true) ∧ Below w.heap.size w wr) (fun i _ => xs.length - (intOf i).toNat)
  case atStart => exact ⟨0, Nat.zero_le _, rfl, Lib.hid (fun j h => by omega), Below.refl _ _⟩
  case round =>
    obtain ⟨k, hk, rfl, HA, hb⟩ := hrel
    by_cases hlt : k < xs.length
    · obtain ⟨x, hx⟩ : ∃ x, xs[k]? = some x := ⟨_, List.getElem?_eq_getElem hlt⟩
      obtain ⟨b, off, rfl, hbb, hc0, hc1, hc2⟩ := (HS.out.below hb) k x hx
      have HX := Lib.hid hx
      have hbs := hb.size
      have hbb1 : b < wr.heap.size := by omega
      clear hx
      have CA := fun W => candv_any x W
      have HPE : Hid (cdP x = cdP x) := Lib.hid rfl
      obtain ⟨xa, xb, xc⟩ := x
      dsimp only [cdV] at hc0 hc1 hc2 CA
      have hXo := fun (x : Ext (wr.alloc (.cells #[.int .i64 xa, .int .i64 xb, .int .i64 xc] 36))) (bb o : Nat) (h : bb < wr.heap.size) => x.old bb o h
      have hXn := fun (x : Ext (wr.alloc (.cells #[.int .i64 xa, .int .i64 xb, .int .i64 xc] 36))) (o : Nat) => x.new o
      obtain ⟨pa, hpa⟩ : ∃ pa, cdP ⟨xa, xb, xc⟩ = pa := ⟨_, rfl⟩
      rw [hpa] at CA
      have HP := Lib.hid hpa
      clear hpa HPE
      cases pa with
      | false =>
        go_wp2_with fail
        refine wp_region_ext (by kernel_rfl) (by kernel_rfl) ?_
        repeat (go_big_quiet_step (first | (go_at_call 30; with_reducible exact Calls.ext_of (CA _))))
        (refine wpQuiet_nil ?_); (rintro _ ⟨X, rfl⟩); (have hw1 := X.below); (generalize X.w = w1 at *); (clear X)
        clear hXo hXn
        go_wp2_with fail
        go_ret
        exact ⟨ret_bool (HN.out hlt (cdAt_bad HX.out HP.out)).symm, hb.trans (Below.trans (by (repeat (first | exact Below.refl _ _ | (refine Below.alloc ?_ (by first | exact Nat.le_refl _ | omega | (simp; done) | (simp; omega)) _) | (refine Below.setCell ?_ (by first | exact Nat.le_refl _ | omega | (simp; done) | (simp; omega)) _) | exact Below.drew ‹_›))) (hw1.mono (by simp; omega)))⟩
      | true =>
        by_cases hk0 : k = 0
        · subst hk0
          simp only [Nat.zero_mul, Nat.add_zero] at hc0 hc1 hc2
          go_wp2_with fail
          refine wp_region_ext (by kernel_rfl) (by kernel_rfl) ?_
          repeat (go_big_quiet_step (first | (go_at_call 30; with_reducible exact Calls.ext_of (CA _))))
          (refine wpQuiet_nil ?_); (rintro _ ⟨X, rfl⟩); (have hw1 := X.below); (generalize X.w = w1 at *); (clear X)
          clear hXo hXn
          go_wp2_with fail
          go_roundw
          case rel => exact ⟨1, hlt, rfl, Lib.hid (fun j hj => by obtain rfl : j = 0 := by omega
                                                                  exact cdAt_first HX.out HP.out), hb.trans (Below.trans (by (repeat (first | exact Below.refl _ _ | (refine Below.alloc ?_ (by first | exact Nat.le_refl _ | omega | (simp; done) | (simp; omega)) _) | (refine Below.setCell ?_ (by first | exact Nat.le_refl _ | omega | (simp; done) | (simp; omega)) _) | exact Below.drew ‹_›))) (hw1.mono (by simp; omega)))⟩
          case measure => simp [intOf]; omega
        · obtain ⟨y, hy⟩ : ∃ y, xs[k - 1]? = some y := ⟨_, List.getElem?_eq_getElem (by omega)⟩
          have hkn : 0 < k := by omega
          have HYK := Lib.hid hy
          obtain ⟨b', off', he', hbb', hd0, -, -⟩ := (HS.out.below hb) (k - 1) y hy
          cases he'
          clear hy
          obtain ⟨ya, yb, yc⟩ := y
          dsimp only at hd0
          have hkm : IntKind.i64.wrap ((k : Int) - 1) = ((k - 1 : Nat) : Int) := by rw [IntWalk.i64_in _ (by omega)]; omega
          by_cases hyx : ya < xa
          · have hge : ¬ xa ≤ ya := by omega
            have HYX := Lib.hid hyx
            go_wp2_with fail
            refine wp_region_ext (by kernel_rfl) (by kernel_rfl) ?_
            repeat (go_big_quiet_step (first | (go_at_call 30; with_reducible exact Calls.ext_of (CA _))))
            (refine wpQuiet_nil ?_); (rintro _ ⟨X, rfl⟩); (have hw1 := X.below); (generalize X.w = w1 at *); (clear X)
            clear hXo hXn
            go_wp2_with fail
            go_roundw
            case rel => exact ⟨k + 1, hlt, by go_num, Lib.hid (fun j hj => by
              by_cases e : j = k
              · subst e
                rw [cdAt_next HX.out HYK.out hkn HP.out]
                exact decide_eq_true HYX.out
              · exact HA.out j (by omega)), hb.trans (Below.trans (by (repeat (first | exact Below.refl _ _ | (refine Below.alloc ?_ (by first | exact Nat.le_refl _ | omega | (simp; done) | (simp; omega)) _) | (refine Below.setCell ?_ (by first | exact Nat.le_refl _ | omega | (simp; done) | (simp; omega)) _) | exact Below.drew ‹_›))) (hw1.mono (by simp; omega)))⟩
            case measure => simp [intOf]; omega
          · have hge : xa ≤ ya := by omega
            have HYX := Lib.hid hge
            clear hyx
            go_wp2_with fail
            refine wp_region_ext (by kernel_rfl) (by kernel_rfl) ?_
            repeat (go_big_quiet_step (first | (go_at_call 30; with_reducible exact Calls.ext_of (CA _))))
            (refine wpQuiet_nil ?_); (rintro _ ⟨X, rfl⟩); (have hw1 := X.below); (generalize X.w = w1 at *); (clear X)
            clear hXo hXn
            go_wp2_with fail
            go_ret
            exact ⟨ret_bool (HN.out hlt (by rw [cdAt_next HX.out HYK.out hkn HP.out]; exact decide_eq_false (by have := HYX.out; dsimp only; omega))).symm, hb.trans (Below.trans (by (repeat (first | exact Below.refl _ _ | (refine Below.alloc ?_ (by first | exact Nat.le_refl _ | omega | (simp; done) | (simp; omega)) _) | (refine Below.setCell ?_ (by first | exact Nat.le_refl _ | omega | (simp; done) | (simp; omega)) _) | exact Below.drew ‹_›))) (hw1.mono (by simp; omega)))⟩
    · have hge : xs.length ≤ k := by omega
      go_wp2_with fail
      go_ret
      exact ⟨ret_bool (HY.out (fun j hj => HA.out j (by omega))).symm, hb⟩

end Go.Proofs.Ytcndhodibeofiaa
