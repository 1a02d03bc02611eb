/-
  Contracts over this seat: candidates: valid, the best, the election, of the specification.
-/
import Derived.Test.YtcndhodibeofiaaKb
import Derived.Test.YtcndhodibeofiaaA2
namespace Go.Proofs.Ytcndhodibeofiaa
open Go.RowKit

abbrev cdV (x : Lk) : Value := .agg #[.int .i64 x.a, .int .i64 x.b, .int .i64 x.c]
theorem cdAt_all {xs : List Lk} (h : ∀ k, k < xs.length → cdAt xs k = true) : cdB xs = true := by
  unfold cdB
  rw [List.all_eq_true]
  exact fun k hk => h k (List.mem_range.1 hk)
theorem cdAt_no {xs : List Lk} {k : Nat} (hk : k < xs.length) (h : cdAt xs k = false) : cdB xs = false := by
  unfold cdB
  rw [List.all_eq_false]
  exact ⟨k, List.mem_range.2 hk, by simp [h]⟩
def cdP (x : Lk) : Bool := inB x.a 0 7 && inB x.b 0 9 && inB x.c 0 2
theorem cdAt_bad {xs : List Lk} {k : Nat} {x : Lk} (hx : xs[k]? = some x) (h : cdP x = false) : cdAt xs k = false := by
  unfold cdAt
  unfold cdP at h
  rw [hx]
  dsimp only
  rw [h]
  rfl
theorem cdAt_first {xs : List Lk} {x : Lk} (hx : xs[0]? = some x) (h : cdP x = true) : cdAt xs 0 = true := by
  unfold cdAt
  unfold cdP at h
  rw [hx]
  dsimp only
  rw [h]
  simp
theorem cdAt_next {xs : List Lk} {k : Nat} {x y : Lk} (hx : xs[k]? = some x) (hy : xs[k - 1]? = some y) (hk : 0 < k) (h : cdP x = true) : cdAt xs k = decide (y.a < x.a) := by
  unfold cdAt
  unfold cdP at h
  rw [hx]
  dsimp only
  rw [h, hy]
  simp
  omega

set_option maxRecDepth 100000 in
set_option maxHeartbeats 4000000 in
theorem candValid_spec (A : Option Addr) (xs : List Lk) (c : Nat) (w : World) (hm : xs.length ≤ 2000000) (hS : Sl w w.heap.size A xs) :
   Calls Try.prog 14 #[.slice A xs.length c] w fun e w' => e = .returned (.bool (cdB xs)) ∧ Below w.heap.size w w' := by
  have HS := Lib.hid hS
  have HN : Hid (∀ {k : Nat}, k < xs.length → cdAt xs k = false → cdB xs = false) := Lib.hid (fun h1 h2 => cdAt_no h1 h2)
  have HY : Hid ((∀ k, k < xs.length → cdAt xs k = true) → cdB xs = true) := Lib.hid cdAt_all
  clear hS
  go_enter Try.func14, Try.ntmps14
  go_wp2_with fail
  go_loopw [3] (fun i wr => ∃ k : Nat, k ≤ xs.length ∧ i = .int .i64 (k : Int) ∧ Hid (∀ j, j < k → cdAt xs j = true) ∧ Below w.heap.size w wr) (fun i _ => xs.length - (intOf i).toNat)
  case atStart => exact ⟨0, Nat.zero_le _, rfl, Lib.hid (fun j h => by omega), Below.refl _ _⟩
  case round =>
    obtain ⟨k, hk, rfl, HA, hb⟩ := hrel
    by_cases hlt : k < xs.length
    · obtain ⟨x, hx⟩ : ∃ x, xs[k]? = some x := ⟨_, List.getElem?_eq_getElem hlt⟩
      obtain ⟨b, off, rfl, hbb, hc0, hc1, hc2⟩ := (HS.out.below hb) k x hx
      have HX := Lib.hid hx
      have hbs := hb.size
      have hbb1 : b < wr.heap.size := by omega
      clear hx
      obtain ⟨xa, xb, xc⟩ := x
      dsimp only at hc0 hc1 hc2
      have hXo := fun (x : Ext (wr.alloc (.cells #[.int .i64 xa, .int .i64 xb, .int .i64 xc] 36))) (bb o : Nat) (h : bb < wr.heap.size) => x.old bb o h
      have hXn := fun (x : Ext (wr.alloc (.cells #[.int .i64 xa, .int .i64 xb, .int .i64 xc] 36))) (o : Nat) => x.new o
      have CA := fun W => l6In_any xa 0 7 W
      have CB := fun W => l6In_any xb 0 9 W
      have CC := fun W => l6In_any xc 0 2 W
      have HPE : Hid (cdP ⟨xa, xb, xc⟩ = (inB xa 0 7 && inB xb 0 9 && inB xc 0 2)) := Lib.hid rfl
      generalize inB xa 0 7 = pa at *
      generalize inB xb 0 9 = pb at *
      generalize inB xc 0 2 = pc at *
      cases pa with
      | false =>
        have HP : Hid (cdP ⟨xa, xb, xc⟩ = false) := Lib.hid (by rw [HPE.out]; rfl)
        go_wp2_with fail
        refine wp_region_ext (by kernel_rfl) (by kernel_rfl) ?_
        repeat (go_big_quiet_step (first | (go_at_call 28; with_reducible exact Calls.ext_same (CA _)) | (go_at_call 28; with_reducible exact Calls.ext_same (CB _)) | (go_at_call 28; with_reducible exact Calls.ext_same (CC _))))
        (refine wpQuiet_nil ?_); (rintro _ ⟨X, rfl⟩); (have hw1 := X.below); (generalize X.w = w1 at *); (clear X)
        clear hXo hXn
        go_wp2_with fail
        go_ret
        exact ⟨ret_bool (HN.out hlt (cdAt_bad HX.out HP.out)).symm, hb.trans (Below.trans (by (repeat (first | exact Below.refl _ _ | (refine Below.alloc ?_ (by first | exact Nat.le_refl _ | omega | (simp; done) | (simp; omega)) _) | (refine Below.setCell ?_ (by first | exact Nat.le_refl _ | omega | (simp; done) | (simp; omega)) _) | exact Below.drew ‹_›))) (hw1.mono (by simp; omega)))⟩
      | true =>
        cases pb with
        | false =>
          have HP : Hid (cdP ⟨xa, xb, xc⟩ = false) := Lib.hid (by rw [HPE.out]; rfl)
          go_wp2_with fail
          refine wp_region_ext (by kernel_rfl) (by kernel_rfl) ?_
          repeat (go_big_quiet_step (first | (go_at_call 28; with_reducible exact Calls.ext_same (CA _)) | (go_at_call 28; with_reducible exact Calls.ext_same (CB _)) | (go_at_call 28; with_reducible exact Calls.ext_same (CC _))))
          (refine wpQuiet_nil ?_); (rintro _ ⟨X, rfl⟩); (have hw1 := X.below); (generalize X.w = w1 at *); (clear X)
          clear hXo hXn
          go_wp2_with fail
          go_ret
          exact ⟨ret_bool (HN.out hlt (cdAt_bad HX.out HP.out)).symm, hb.trans (Below.trans (by (repeat (first | exact Below.refl _ _ | (refine Below.alloc ?_ (by first | exact Nat.le_refl _ | omega | (simp; done) | (simp; omega)) _) | (refine Below.setCell ?_ (by first | exact Nat.le_refl _ | omega | (simp; done) | (simp; omega)) _) | exact Below.drew ‹_›))) (hw1.mono (by simp; omega)))⟩
        | true =>
          cases pc with
          | false =>
            have HP : Hid (cdP ⟨xa, xb, xc⟩ = false) := Lib.hid (by rw [HPE.out]; rfl)
            go_wp2_with fail
            refine wp_region_ext (by kernel_rfl) (by kernel_rfl) ?_
            repeat (go_big_quiet_step (first | (go_at_call 28; with_reducible exact Calls.ext_same (CA _)) | (go_at_call 28; with_reducible exact Calls.ext_same (CB _)) | (go_at_call 28; with_reducible exact Calls.ext_same (CC _))))
            (refine wpQuiet_nil ?_); (rintro _ ⟨X, rfl⟩); (have hw1 := X.below); (generalize X.w = w1 at *); (clear X)
            clear hXo hXn
            go_wp2_with fail
            go_ret
            exact ⟨ret_bool (HN.out hlt (cdAt_bad HX.out HP.out)).symm, hb.trans (Below.trans (by (repeat (first | exact Below.refl _ _ | (refine Below.alloc ?_ (by first | exact Nat.le_refl _ | omega | (simp; done) | (simp; omega)) _) | (refine Below.setCell ?_ (by first | exact Nat.le_refl _ | omega | (simp; done) | (simp; omega)) _) | exact Below.drew ‹_›))) (hw1.mono (by simp; omega)))⟩
          | true =>
            have HP : Hid (cdP ⟨xa, xb, xc⟩ = true) := Lib.hid (by rw [HPE.out]; rfl)
            by_cases hk0 : k = 0
            · subst hk0
              simp only [Nat.zero_mul, Nat.add_zero] at hc0 hc1 hc2
              go_wp2_with fail
              refine wp_region_ext (by kernel_rfl) (by kernel_rfl) ?_
              repeat (go_big_quiet_step (first | (go_at_call 28; with_reducible exact Calls.ext_same (CA _)) | (go_at_call 28; with_reducible exact Calls.ext_same (CB _)) | (go_at_call 28; with_reducible exact Calls.ext_same (CC _))))
              (refine wpQuiet_nil ?_); (rintro _ ⟨X, rfl⟩); (have hw1 := X.below); (generalize X.w = w1 at *); (clear X)
              clear hXo hXn
              go_wp2_with fail
              go_roundw
              case rel => exact ⟨1, hlt, rfl, Lib.hid (fun j hj => by obtain rfl : j = 0 := by omega
                                                                      exact cdAt_first HX.out HP.out), hb.trans (Below.trans (by (repeat (first | exact Below.refl _ _ | (refine Below.alloc ?_ (by first | exact Nat.le_refl _ | omega | (simp; done) | (simp; omega)) _) | (refine Below.setCell ?_ (by first | exact Nat.le_refl _ | omega | (simp; done) | (simp; omega)) _) | exact Below.drew ‹_›))) (hw1.mono (by simp; omega)))⟩
              case measure => simp [intOf]; omega
            · obtain ⟨y, hy⟩ : ∃ y, xs[k - 1]? = some y := ⟨_, List.getElem?_eq_getElem (by omega)⟩
              have hkn : 0 < k := by omega
              have HYK := Lib.hid hy
              obtain ⟨b', off', he', hbb', hd0, -, -⟩ := (HS.out.below hb) (k - 1) y hy
              cases he'
              clear hy
              obtain ⟨ya, yb, yc⟩ := y
              dsimp only at hd0
              have hkm : IntKind.i64.wrap ((k : Int) - 1) = ((k - 1 : Nat) : Int) := by rw [IntWalk.i64_in _ (by omega)]; omega
              by_cases hyx : ya < xa
              · have hge : ¬ xa ≤ ya := by omega
                have HYX := Lib.hid hyx
                go_wp2_with fail
                refine wp_region_ext (by kernel_rfl) (by kernel_rfl) ?_
                repeat (go_big_quiet_step (first | (go_at_call 28; with_reducible exact Calls.ext_same (CA _)) | (go_at_call 28; with_reducible exact Calls.ext_same (CB _)) | (go_at_call 28; with_reducible exact Calls.ext_same (CC _))))
                (refine wpQuiet_nil ?_); (rintro _ ⟨X, rfl⟩); (have hw1 := X.below); (generalize X.w = w1 at *); (clear X)
                clear hXo hXn
                go_wp2_with fail
                go_roundw
                case rel => exact ⟨k + 1, hlt, by go_num, Lib.hid (fun j hj => by
                  by_cases e : j = k
                  · subst e
                    rw [cdAt_next HX.out HYK.out hkn HP.out]
                    exact decide_eq_true HYX.out
                  · exact HA.out j (by omega)), hb.trans (Below.trans (by (repeat (first | exact Below.refl _ _ | (refine Below.alloc ?_ (by first | exact Nat.le_refl _ | omega | (simp; done) | (simp; omega)) _) | (refine Below.setCell ?_ (by first | exact Nat.le_refl _ | omega | (simp; done) | (simp; omega)) _) | exact Below.drew ‹_›))) (hw1.mono (by simp; omega)))⟩
                case measure => simp [intOf]; omega
              · have hge : xa ≤ ya := by omega
                have HYX := Lib.hid hge
                clear hyx
                go_wp2_with fail
                refine wp_region_ext (by kernel_rfl) (by kernel_rfl) ?_
                repeat (go_big_quiet_step (first | (go_at_call 28; with_reducible exact Calls.ext_same (CA _)) | (go_at_call 28; with_reducible exact Calls.ext_same (CB _)) | (go_at_call 28; with_reducible exact Calls.ext_same (CC _))))
                (refine wpQuiet_nil ?_); (rintro _ ⟨X, rfl⟩); (have hw1 := X.below); (generalize X.w = w1 at *); (clear X)
                clear hXo hXn
                go_wp2_with fail
                go_ret
                exact ⟨ret_bool (HN.out hlt (by rw [cdAt_next HX.out HYK.out hkn HP.out]; exact decide_eq_false (by have := HYX.out; dsimp only; omega))).symm, hb.trans (Below.trans (by (repeat (first | exact Below.refl _ _ | (refine Below.alloc ?_ (by first | exact Nat.le_refl _ | omega | (simp; done) | (simp; omega)) _) | (refine Below.setCell ?_ (by first | exact Nat.le_refl _ | omega | (simp; done) | (simp; omega)) _) | exact Below.drew ‹_›))) (hw1.mono (by simp; omega)))⟩
    · have hge : xs.length ≤ k := by omega
      go_wp2_with fail
      go_ret
      exact ⟨ret_bool (HY.out (fun j hj => HA.out j (by omega))).symm, hb⟩
end Go.Proofs.Ytcndhodibeofiaa
