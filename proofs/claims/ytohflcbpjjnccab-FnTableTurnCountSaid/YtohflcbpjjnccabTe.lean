/-
  Contracts over this seat: the specification's validity of a route.
-/
import Derived.Test.YtohflcbpjjnccabTd
namespace Go.Proofs.Ytohflcbpjjnccab
open Go.RowKit Go.Maps

set_option maxRecDepth 100000 in
set_option maxHeartbeats 800000 in
theorem l23route_any (x : Lk) (h : Nat) (w : World) (hh : h ≤ 2000000) :
   Calls Try.prog 36 #[rtV x, .int .i64 (h : Int)] w fun e w' => e = .returned (.bool (rtB h x)) ∧ Below w.heap.size w w' := by
  have HE : Hid (rtB h x = (inB x.b 0 8 && inB x.a 0 255 && decide (x.a % lowB x.b = 0) && inB x.c 0 ((h : Int) - 1))) := Lib.hid rfl
  have CB := fun W => l6In_any x.b 0 8 W
  have CA := fun W => l6In_any x.a 0 255 W
  have CC := fun W => l6In_any x.c 0 ((h : Int) - 1) W
  have HL : Hid (inB x.b 0 8 = true → ∀ W : World, Calls Try.prog 69 #[.int .i64 x.b] W fun e w' => e = .returned (.int .i64 (lowB x.b)) ∧ Below W.heap.size W w') := Lib.hid (fun hb W => l23low_any x.b W (by unfold inB at hb; simpa using hb))
  have HR : Hid (inB x.b 0 8 = true → inB x.a 0 255 = true → Int.tmod x.a (lowB x.b) = x.a % lowB x.b ∧ (1 ≤ lowB x.b ∧ lowB x.b ≤ 256) ∧ 0 ≤ x.a % lowB x.b ∧ x.a % lowB x.b < lowB x.b) := Lib.hid (fun hb ha => by
    have h1 := low_pos (b := x.b) (by unfold inB at hb; simpa using hb)
    have h2 : 0 ≤ x.a ∧ x.a ≤ 255 := by unfold inB at ha; simpa using ha
    exact ⟨Int.tmod_eq_emod_of_nonneg h2.1, h1, Int.emod_nonneg _ (by omega), Int.emod_lt_of_pos _ (by omega)⟩)
  have hw : IntKind.i64.wrap ((h : Int) - 1) = (h : Int) - 1 := IntWalk.i64_in _ (by omega)
  obtain ⟨xa, xb, xc⟩ := x
  dsimp only [rtV] at *
  have hXn := fun (y : Ext (w.alloc (.cells #[.int .i64 xa, .int .i64 xb, .int .i64 xc] 38))) (o : Nat) => y.new o
  cases pb : inB xb 0 8 with
  | false =>
    rw [pb] at CB
    have HF : Hid (rtB h ⟨xa, xb, xc⟩ = false) := Lib.hid (by rw [HE.out, pb]; rfl)
    clear HE HL HR pb
    go_enter Try.func36, Try.ntmps36
    go_wp2_with fail
    refine wp_region_ext (by kernel_rfl) (by kernel_rfl) ?_
    repeat (go_big_quiet_step (first | (go_at_call 35; with_reducible exact Calls.ext_same (CB _)) | (go_at_call 35; with_reducible exact Calls.ext_same (CA _)) | (go_at_call 35; with_reducible exact Calls.ext_same (CC _))))
    (refine wpQuiet_nil ?_); (rintro _ ⟨X, rfl⟩); (have hw1 := X.below); (generalize X.w = w1 at *); (clear X)
    clear hXn
    go_wp2_with fail
    go_ret
    exact ⟨ret_bool HF.out.symm, Below.trans (B := w.heap.size) (a := w) (b := w.alloc (.cells #[.int .i64 xa, .int .i64 xb, .int .i64 xc] 38)) (by (repeat (first | exact Below.refl _ _ | (refine Below.alloc ?_ (by first | exact Nat.le_refl _ | omega | (simp; done) | (simp; omega)) _) | (refine Below.setCell ?_ (by first | exact Nat.le_refl _ | omega | (simp; done) | (simp; omega)) _) | exact Below.drew ‹_›))) (hw1.mono (by simp))⟩
  | true =>
    rw [pb] at CB
    have CL0 := HL.out pb
    have CL : ∀ Y : Ext (w.alloc (.cells #[.int .i64 xa, .int .i64 xb, .int .i64 xc] 38)), Calls Try.prog 69 #[.int .i64 xb] Y.w fun e w' => e = .returned (.int .i64 (lowB xb)) ∧ Below Y.w.heap.size Y.w w' := fun Y => CL0 Y.w
    clear CL0
    cases pa : inB xa 0 255 with
    | false =>
      rw [pa] at CA
      have HF : Hid (rtB h ⟨xa, xb, xc⟩ = false) := Lib.hid (by rw [HE.out, pb, pa]; rfl)
      clear HE HL HR pb pa CL
      go_enter Try.func36, Try.ntmps36
      go_wp2_with fail
      refine wp_region_ext (by kernel_rfl) (by kernel_rfl) ?_
      repeat (go_big_quiet_step (first | (go_at_call 35; with_reducible exact Calls.ext_same (CB _)) | (go_at_call 35; with_reducible exact Calls.ext_same (CA _)) | (go_at_call 35; with_reducible exact Calls.ext_same (CC _))))
      (refine wpQuiet_nil ?_); (rintro _ ⟨X, rfl⟩); (have hw1 := X.below); (generalize X.w = w1 at *); (clear X)
      clear hXn
      go_wp2_with fail
      go_ret
      exact ⟨ret_bool HF.out.symm, Below.trans (B := w.heap.size) (a := w) (b := w.alloc (.cells #[.int .i64 xa, .int .i64 xb, .int .i64 xc] 38)) (by (repeat (first | exact Below.refl _ _ | (refine Below.alloc ?_ (by first | exact Nat.le_refl _ | omega | (simp; done) | (simp; omega)) _) | (refine Below.setCell ?_ (by first | exact Nat.le_refl _ | omega | (simp; done) | (simp; omega)) _) | exact Below.drew ‹_›))) (hw1.mono (by simp))⟩
    | true =>
      rw [pa] at CA
      obtain ⟨hr, hl, hr0, hr1⟩ := HR.out pb pa
      have HE2 : Hid (rtB h ⟨xa, xb, xc⟩ = (decide (xa % lowB xb = 0) && inB xc 0 ((h : Int) - 1))) := Lib.hid (by rw [HE.out, pb, pa]; rfl)
      clear HE HL HR pb pa
      generalize lowB xb = L at *
      have hl0 : ¬ L = 0 := by omega
      have hwr : IntKind.i64.wrap (Int.tmod xa L) = Int.tmod xa L := IntWalk.i64_in _ (by rw [hr]; omega)
      rw [hr] at hwr
      by_cases h0 : xa % L = 0
      · have hr00 : Int.tmod xa L = 0 := by rw [hr]; exact h0
        have HF : Hid (rtB h ⟨xa, xb, xc⟩ = inB xc 0 ((h : Int) - 1)) := Lib.hid (by rw [HE2.out, h0]; rfl)
        clear HE2 hr hr0 hr1 hwr h0
        go_enter Try.func36, Try.ntmps36
        go_wp2_with fail
        refine wp_region_ext (by kernel_rfl) (by kernel_rfl) ?_
        repeat (go_big_quiet_step (first | (go_at_call 35; with_reducible exact Calls.ext_same (CB _)) | (go_at_call 35; with_reducible exact Calls.ext_same (CA _)) | (go_at_call 35; with_reducible exact Calls.ext_same (CC _)) | (go_at_call 69; exact Calls.ext_of (CL _))))
        (refine wpQuiet_nil ?_); (rintro _ ⟨X, rfl⟩); (have hw1 := X.below); (generalize X.w = w1 at *); (clear X)
        clear hXn
        go_wp2_with fail
        go_ret
        exact ⟨ret_bool HF.out.symm, Below.trans (B := w.heap.size) (a := w) (b := w.alloc (.cells #[.int .i64 xa, .int .i64 xb, .int .i64 xc] 38)) (by (repeat (first | exact Below.refl _ _ | (refine Below.alloc ?_ (by first | exact Nat.le_refl _ | omega | (simp; done) | (simp; omega)) _) | (refine Below.setCell ?_ (by first | exact Nat.le_refl _ | omega | (simp; done) | (simp; omega)) _) | exact Below.drew ‹_›))) (hw1.mono (by simp))⟩
      · have hr00 : (Int.tmod xa L == 0) = false := by rw [hr]; simpa using h0
        have hwt : IntKind.i64.wrap (Int.tmod xa L) = Int.tmod xa L := by rw [hr]; exact hwr
        have HF : Hid (rtB h ⟨xa, xb, xc⟩ = false) := Lib.hid (by rw [HE2.out, decide_eq_false h0]; rfl)
        clear HE2 hr hr0 hr1 hwr h0
        go_enter Try.func36, Try.ntmps36
        go_wp2_with fail
        refine wp_region_ext (by kernel_rfl) (by kernel_rfl) ?_
        repeat (go_big_quiet_step (first | (go_at_call 35; with_reducible exact Calls.ext_same (CB _)) | (go_at_call 35; with_reducible exact Calls.ext_same (CA _)) | (go_at_call 35; with_reducible exact Calls.ext_same (CC _)) | (go_at_call 69; exact Calls.ext_of (CL _))))
        (refine wpQuiet_nil ?_); (rintro _ ⟨X, rfl⟩); (have hw1 := X.below); (generalize X.w = w1 at *); (clear X)
        clear hXn
        go_wp2_with fail
        go_ret
        exact ⟨ret_bool HF.out.symm, Below.trans (B := w.heap.size) (a := w) (b := w.alloc (.cells #[.int .i64 xa, .int .i64 xb, .int .i64 xc] 38)) (by (repeat (first | exact Below.refl _ _ | (refine Below.alloc ?_ (by first | exact Nat.le_refl _ | omega | (simp; done) | (simp; omega)) _) | (refine Below.setCell ?_ (by first | exact Nat.le_refl _ | omega | (simp; done) | (simp; omega)) _) | exact Below.drew ‹_›))) (hw1.mono (by simp))⟩

end Go.Proofs.Ytohflcbpjjnccab
