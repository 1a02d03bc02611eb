/-
  Contracts over this seat: valid adjacencies, lists of nodes, hellos and ticks, of the program and of the specification.
-/
import Derived.Test.YtnkohgdfipgdoaaJa
import Derived.Test.YtnkohgdfipgdoaaA8
namespace Go.Proofs.Ytnkohgdfipgdoaa
open Go.RowKit

/-! ### What they come to -/
def adjB (s g : Int) : Bool := if s = 0 then decide (g = 0) else inB s 1 3 && inB g 0 3
def okI (xs : List Int) (k : Nat) : Bool := match xs[k]? with
  | none => true
  | some x => inB x 0 7 && (decide (k = 0) || (match xs[k - 1]? with | none => true | some y => decide (y < x)))
def upB (xs : List Int) : Bool := (List.range xs.length).all (okI xs)
theorem upB_no {xs : List Int} {k : Nat} (hk : k < xs.length) (h : okI xs k = false) : upB xs = false := by
  unfold upB
  rw [List.all_eq_false]
  exact ⟨k, List.mem_range.2 hk, by simp [h]⟩
theorem upB_yes {xs : List Int} (h : ∀ k, k < xs.length → okI xs k = true) : upB xs = true := by
  unfold upB
  rw [List.all_eq_true]
  exact fun k hk => h k (List.mem_range.1 hk)
theorem okI_bad {xs : List Int} {k : Nat} {x : Int} (hx : xs[k]? = some x) (h : inB x 0 7 = false) : okI xs k = false := by
  unfold okI
  rw [hx]
  dsimp only
  rw [h]
  rfl
theorem okI_first {xs : List Int} {x : Int} (hx : xs[0]? = some x) (h : inB x 0 7 = true) : okI xs 0 = true := by
  unfold okI
  rw [hx]
  dsimp only
  rw [h]
  simp
theorem okI_next {xs : List Int} {k : Nat} {x y : Int} (hx : xs[k]? = some x) (hy : xs[k - 1]? = some y) (hk : 0 < k) (h : inB x 0 7 = true) : okI xs k = decide (y < x) := by
  unfold okI
  rw [hx]
  dsimp only
  rw [h, hy]
  simp
  omega
theorem adjB_cases {s g : Int} (h : adjB s g = true) : ∃ n : Nat, s = (n : Int) ∧ n < 4 ∧ 0 ≤ g ∧ g ≤ 3 ∧ (n = 0 → g = 0) := by
  unfold adjB inB at h
  by_cases hs : s = 0
  · rw [if_pos hs] at h
    exact ⟨0, by omega, by omega, by simp at h; omega, by simp at h; omega, fun _ => by simpa using h⟩
  · rw [if_neg hs] at h
    simp at h
    exact ⟨s.toNat, by omega, by omega, by omega, by omega, fun h0 => by omega⟩
/-- What AdjacencyHello answers. -/
def helloA (s g me : Int) (xs : List Int) : Int × Int := if adjB s g && inB me 0 7 && upB xs then onA (if me ∈ xs then 1 else 0) s g else (0, 0)
def helloB (s g me : Int) (xs : List Int) : Bool := adjB s g && inB me 0 7 && upB xs
def tickA (s g : Int) : Int × Int := if adjB s g then onA 2 s g else (0, 0)

/-! ### Lists of nodes -/
theorem indexI_any (A : Option Addr) (xs : List Int) (c : Nat) (v : Int) (w : World) (hm : xs.length ≤ 2000000) (h1 : Sli w w.heap.size A xs) :
   Calls Try.prog 41 #[.slice A xs.length c, .int .i64 v] w fun e w' => (∃ r : Int, e = .returned (.int .i64 r) ∧ (0 ≤ r ↔ v ∈ xs)) ∧ w = w' := by
  have H1 := Lib.hid h1
  clear h1
  go_enter Try.func41, Try.ntmps41
  go_wp2_with fail
  go_loop [8] (fun i => ∃ k : Nat, k ≤ xs.length ∧ i = .int .i64 k ∧ ∀ j y, j < k → xs[j]? = some y → y ≠ v) (fun i => xs.length - (intOf i).toNat)
  case atStart => exact ⟨0, Nat.zero_le _, rfl, fun j y h => by omega⟩
  case round =>
    obtain ⟨k, hk, rfl, hall⟩ := hrel
    have HA := Lib.hid hall
    clear hall
    by_cases hlt : k < xs.length
    · obtain ⟨y, hy⟩ : ∃ y, xs[k]? = some y := ⟨_, List.getElem?_eq_getElem hlt⟩
      obtain ⟨b, off, rfl, hbb, hc⟩ := H1.out k y hy
      have HY := Lib.hid hy
      clear hy
      by_cases hvy : v = y
      · have hvy' : (v == y) = true := by simp [hvy]
        have HV := Lib.hid hvy
        clear hvy
        go_wp2_with fail
        go_ret
        refine ⟨⟨_, rfl, ?_⟩, rfl⟩
        have := List.mem_of_getElem? HY.out
        rw [← HV.out] at this
        simp [this]
      · have hvy' : (v == y) = false := by simpa using hvy
        have HV := Lib.hid hvy
        clear hvy
        go_wp2_with fail
        go_round
        case rel =>
          refine ⟨k + 1, hlt, by go_num, fun j z hj hz => ?_⟩
          by_cases hjk : j < k
          · exact HA.out j z hjk hz
          · obtain rfl : j = k := by omega
            rw [HY.out] at hz
            cases hz
            exact fun e => HV.out e.symm
        case measure => simp [intOf]; omega
    · have hge : xs.length ≤ k := by omega
      go_wp2_with fail
      go_ret
      refine ⟨⟨_, rfl, ?_⟩, rfl⟩
      have : v ∉ xs := fun h => by
        obtain ⟨j, hj⟩ := List.getElem?_of_mem h
        exact HA.out j v (by have := (List.getElem?_eq_some_iff.1 hj).1; omega) hj rfl
      simp [this]
theorem containsI_any (A : Option Addr) (xs : List Int) (c : Nat) (v : Int) (w : World) (hm : xs.length ≤ 2000000) (h1 : Sli w w.heap.size A xs) :
   Calls Try.prog 30 #[.slice A xs.length c, .int .i64 v] w fun e w' => e = .returned (.bool (decide (v ∈ xs))) ∧ w = w' := by
  have C1 := indexI_any A xs c v w hm h1
  clear h1
  go_enter Try.func30, Try.ntmps30
  go_wp2_with (go_at_call 41; refine C1.mono ?_; clear C1; rintro e w1 ⟨⟨r, rfl, hr⟩, rfl⟩; have HR := Lib.hid hr; clear hr)
  go_ret
  exact ⟨ret_bool (by rw [decide_eq_decide]; exact HR.out), rfl⟩
theorem l1has_any (A : Option Addr) (xs : List Int) (c : Nat) (n : Int) (w : World) (hm : xs.length ≤ 2000000)
    (h1 : Sli w w.heap.size A xs) :
   Calls Try.prog 27 #[.slice A xs.length c, .int .i64 n] w fun e w' => e = .returned (.bool (decide (n ∈ xs))) ∧ Below w.heap.size w w' := by
  have R1 := Lib.hid h1
  clear h1
  go_enter Try.func27, Try.ntmps27
  go_wp2
  go_loopw [5] (fun i wr => ∃ k : Nat, k ≤ xs.length ∧ (∀ j, j < k → xs[j]? ≠ some n) ∧ i = .int .i64 k ∧ Below w.heap.size w wr) (fun i _ => xs.length - (intOf i).toNat)
  case atStart => exact ⟨0, Nat.zero_le _, fun j h => by omega, rfl, Below.refl _ _⟩
  case round =>
    obtain ⟨k, hk, hj, rfl, hb⟩ := hrel
    by_cases hlt : k < xs.length
    · obtain ⟨x, hx⟩ : ∃ x, xs[k]? = some x := ⟨_, List.getElem?_eq_getElem hlt⟩
      have HX := Lib.hid hx
      obtain ⟨b, off, rfl, hbb, hc1⟩ := (R1.out.below hb) k x hx
      clear hx
      by_cases hxn : x = n
      · subst hxn
        go_wp2
        try go_quiet (fail)
        try go_wp2
        go_ret
        exact ⟨ret_bool (by simpa using (List.mem_of_getElem? HX.out)), by first | exact hb | exact hb.drew | exact ⟨hb.os, hb.tape, hb.output, hb.size, hb.block⟩⟩
      · have hxn' : (x == n) = false := by simpa using hxn
        go_wp2
        try go_quiet (fail)
        try go_wp2
        go_roundw
        case rel =>
          refine ⟨k + 1, hlt, fun j hjk => ?_, by go_num, by first | exact hb | exact hb.drew | exact ⟨hb.os, hb.tape, hb.output, hb.size, hb.block⟩⟩
          by_cases e : j = k
          · subst e
            rw [HX.out]
            exact fun h => hxn (Option.some.inj h)
          · exact hj j (by omega)
        case measure => simp [intOf]; omega
    · have hge : xs.length ≤ k := by omega
      have HJ := Lib.hid hj
      clear hj
      go_wp2
      go_ret
      refine ⟨ret_bool ?_, hb⟩
      have : ¬ n ∈ xs := fun h => by
        obtain ⟨j, hj⟩ := List.getElem?_of_mem h
        exact HJ.out j (by have := (List.getElem?_eq_some_iff.1 hj).1; omega) hj
      simpa using this
theorem numv_any (n : Int) (w : World) :
   Calls Try.prog 28 #[.int .i64 n] w fun e w' => e = .returned (.bool (inB n 0 7)) ∧ Below w.heap.size w w' := by
  go_enter Try.func28, Try.ntmps28
  go_wp2
  all_goals
    go_ret
    exact ⟨ret_bool (by unfold inB; rw [Bool.eq_iff_iff]; simp_all <;> omega), by (repeat (first | exact Below.refl _ _ | (refine Below.alloc ?_ (by first | exact Nat.le_refl _ | omega | (simp; done) | (simp; omega)) _) | (refine Below.setCell ?_ (by first | exact Nat.le_refl _ | omega | (simp; done) | (simp; omega)) _) | exact Below.drew ‹_›))⟩

set_option maxHeartbeats 800000 in
theorem numbers_impl (A : Option Addr) (xs : List Int) (c : Nat) (w : World) (hm : xs.length ≤ 2000000) (h1 : Sli w w.heap.size A xs) :
   Calls Try.prog 29 #[.slice A xs.length c] w fun e w' => e = .returned (.bool (upB xs)) ∧ Below w.heap.size w w' := by
  have R1 := Lib.hid h1
  have CN := fun (x : Int) (b : Bool) (h : inB x 0 7 = b) (W : World) => (show Calls Try.prog 28 #[.int .i64 x] W fun e w' => e = .returned (.bool b) ∧ Below W.heap.size W w' by have := numv_any x W; rwa [h] at this)
  have HN : Hid (∀ {k : Nat}, k < xs.length → okI xs k = false → upB xs = false) := Lib.hid (fun h1 h2 => upB_no h1 h2)
  have HY : Hid ((∀ k, k < xs.length → okI xs k = true) → upB xs = true) := Lib.hid upB_yes
  clear h1
  go_enter Try.func29, Try.ntmps29
  go_wp2_with fail
  go_loopw [3, 4, 7] (fun _ _ i wr => ∃ k : Nat, k ≤ xs.length ∧ i = .int .i64 (k : Int) ∧ Hid (∀ j, j < k → okI xs j = true) ∧ Below w.heap.size w wr) (fun _ _ i _ => xs.length - (intOf i).toNat)
  case atStart => exact ⟨0, Nat.zero_le _, rfl, Lib.hid (fun j h => by omega), Below.refl _ _⟩
  case round =>
    obtain ⟨k, hk, rfl, HA, hb⟩ := hrel
    by_cases hlt : k < xs.length
    · obtain ⟨x, hx⟩ : ∃ x, xs[k]? = some x := ⟨_, List.getElem?_eq_getElem hlt⟩
      obtain ⟨b, off, rfl, hbb, hc1⟩ := (R1.out.below hb) k x hx
      have HX := Lib.hid hx
      clear hx
      cases hv : inB x 0 7 with
      | false =>
        have C1 := CN x _ hv
        have HV := Lib.hid hv
        clear hv CN
        go_wp2_with fail
        refine (C1 _).mono ?_
        rintro e w1 ⟨rfl, hb1⟩
        have B1 := Lib.hid (hb.trans (hb1.mono hb.size))
        clear hb1 C1
        go_wp2_with fail
        go_ret
        exact ⟨ret_bool (HN.out hlt (okI_bad HX.out HV.out)).symm, B1.out⟩
      | true =>
        have C1 := CN x _ hv
        have HV := Lib.hid hv
        clear hv CN
        by_cases hk0 : k = 0
        · subst hk0
          simp only [Nat.add_zero] at hc1
          go_wp2_with fail
          refine (C1 _).mono ?_
          rintro e w1 ⟨rfl, hb1⟩
          have B1 := Lib.hid (hb.trans (hb1.mono hb.size))
          clear hb1 C1
          go_wp2_with fail
          go_roundw
          case rel => exact ⟨1, hlt, rfl, Lib.hid (fun j hj => by obtain rfl : j = 0 := by omega
                                                                  exact okI_first HX.out HV.out), B1.out⟩
          case measure => simp [intOf]; omega
        · obtain ⟨y, hy⟩ : ∃ y, xs[k - 1]? = some y := ⟨_, List.getElem?_eq_getElem (by omega)⟩
          have hkn : 0 < k := by omega
          have HYK := Lib.hid hy
          clear hy
          go_wp2_with fail
          refine (C1 _).mono ?_
          rintro e w1 ⟨rfl, hb1⟩
          have B1 := Lib.hid (hb.trans (hb1.mono hb.size))
          obtain ⟨b', off', he', hbb', hd1⟩ := (R1.out.below B1.out) (k - 1) y HYK.out
          cases he'
          clear hb1 C1
          have hkm : IntKind.i64.wrap ((k : Int) - 1) = ((k - 1 : Nat) : Int) := by rw [IntWalk.i64_in _ (by omega)]; omega
          by_cases hyx : y < x
          · have hge : ¬ x ≤ y := by omega
            have HYX := Lib.hid hyx
            go_wp2_with fail
            go_roundw
            case rel => exact ⟨k + 1, hlt, by go_num, Lib.hid (fun j hj => by
              by_cases e : j = k
              · subst e
                rw [okI_next HX.out HYK.out hkn HV.out]
                exact decide_eq_true HYX.out
              · exact HA.out j (by omega)), B1.out⟩
            case measure => simp [intOf]; omega
          · have hge : x ≤ y := by omega
            have HYX := Lib.hid hyx
            clear hyx
            go_wp2_with fail
            go_ret
            exact ⟨ret_bool (HN.out hlt (by rw [okI_next HX.out HYK.out hkn HV.out]; exact decide_eq_false (by have := HYX.out; omega))).symm, B1.out⟩
    · have hge : xs.length ≤ k := by omega
      go_wp2_with fail
      go_ret
      exact ⟨ret_bool (HY.out (fun j hj => HA.out j (by omega))).symm, hb⟩

set_option maxRecDepth 100000 in
set_option maxHeartbeats 1600000 in
theorem l12nodes_any (A : Option Addr) (xs : List Int) (c : Nat) (w : World) (hm : xs.length ≤ 2000000) (h1 : Sli w w.heap.size A xs) :
   Calls Try.prog 26 #[.slice A xs.length c] w fun e w' => e = .returned (.bool (upB xs)) ∧ Below w.heap.size w w' := by
  have R1 := Lib.hid h1
  have CN := fun (x : Int) (b : Bool) (h : inB x 0 7 = b) (W : World) => (show Calls Try.prog 24 #[.int .i64 x, .int .i64 0, .int .i64 7] W fun e w' => e = .returned (.bool b) ∧ W = w' by have := l6In_any x 0 7 W; rwa [h] at this)
  have HN : Hid (∀ {k : Nat}, k < xs.length → okI xs k = false → upB xs = false) := Lib.hid (fun h1 h2 => upB_no h1 h2)
  have HY : Hid ((∀ k, k < xs.length → okI xs k = true) → upB xs = true) := Lib.hid upB_yes
  clear h1
  go_enter Try.func26, Try.ntmps26
  go_wp2_with fail
  go_loopw [3] (fun i wr => ∃ k : Nat, k ≤ xs.length ∧ i = .int .i64 (k : Int) ∧ Hid (∀ j, j < k → okI xs j = true) ∧ Below w.heap.size w wr) (fun i _ => xs.length - (intOf i).toNat)
  case atStart => exact ⟨0, Nat.zero_le _, rfl, Lib.hid (fun j h => by omega), Below.refl _ _⟩
  case round =>
    obtain ⟨k, hk, rfl, HA, hb⟩ := hrel
    by_cases hlt : k < xs.length
    · obtain ⟨x, hx⟩ : ∃ x, xs[k]? = some x := ⟨_, List.getElem?_eq_getElem hlt⟩
      obtain ⟨b, off, rfl, hbb, hc1⟩ := (R1.out.below hb) k x hx
      have HX := Lib.hid hx
      have zb : b < wr.heap.size := by have := hb.size; omega
      clear hx
      cases hv : inB x 0 7 with
      | false =>
        have C1 := CN x _ hv
        have HV := Lib.hid hv
        clear hv CN
        go_wp2_with fail
        have hX := fun (x : Ext wr) (bb o : Nat) (h : bb < wr.heap.size) => x.cell bb o h
        refine wp_region_ext (by kernel_rfl) (by kernel_rfl) ?_
        repeat (go_big_quiet_step (first | (go_at_call 24; exact Calls.ext_same (C1 _))))
        (refine wpQuiet_nil ?_); (rintro _ ⟨X, rfl⟩); (have hw1 := X.below); (generalize X.w = w1 at *); (clear X)
        clear hX
        go_wp2_with fail
        go_ret
        exact ⟨ret_bool (HN.out hlt (okI_bad HX.out HV.out)).symm, hb.trans (hw1.mono hb.size)⟩
      | true =>
        have C1 := CN x _ hv
        have HV := Lib.hid hv
        clear hv CN
        by_cases hk0 : k = 0
        · subst hk0
          simp only [Nat.add_zero] at hc1
          go_wp2_with fail
          have hX := fun (x : Ext wr) (bb o : Nat) (h : bb < wr.heap.size) => x.cell bb o h
          refine wp_region_ext (by kernel_rfl) (by kernel_rfl) ?_
          repeat (go_big_quiet_step (first | (go_at_call 24; exact Calls.ext_same (C1 _))))
          (refine wpQuiet_nil ?_); (rintro _ ⟨X, rfl⟩); (have hw1 := X.below); (generalize X.w = w1 at *); (clear X)
          clear hX
          go_wp2_with fail
          go_roundw
          case rel => exact ⟨1, hlt, rfl, Lib.hid (fun j hj => by obtain rfl : j = 0 := by omega
                                                                  exact okI_first HX.out HV.out), hb.trans (hw1.mono hb.size)⟩
          case measure => simp [intOf]; omega
        · obtain ⟨y, hy⟩ : ∃ y, xs[k - 1]? = some y := ⟨_, List.getElem?_eq_getElem (by omega)⟩
          have hkn : 0 < k := by omega
          have HYK := Lib.hid hy
          obtain ⟨b', off', he', hbb', hd1⟩ := (R1.out.below hb) (k - 1) y hy
          cases he'
          clear hy
          have hkm : IntKind.i64.wrap ((k : Int) - 1) = ((k - 1 : Nat) : Int) := by rw [IntWalk.i64_in _ (by omega)]; omega
          by_cases hyx : y < x
          · have hge : ¬ x ≤ y := by omega
            have HYX := Lib.hid hyx
            go_wp2_with fail
            have hX := fun (x : Ext wr) (bb o : Nat) (h : bb < wr.heap.size) => x.cell bb o h
            refine wp_region_ext (by kernel_rfl) (by kernel_rfl) ?_
            repeat (go_big_quiet_step (first | (go_at_call 24; exact Calls.ext_same (C1 _))))
            (refine wpQuiet_nil ?_); (rintro _ ⟨X, rfl⟩); (have hw1 := X.below); (generalize X.w = w1 at *); (clear X)
            clear hX
            go_wp2_with fail
            go_roundw
            case rel => exact ⟨k + 1, hlt, by go_num, Lib.hid (fun j hj => by
              by_cases e : j = k
              · subst e
                rw [okI_next HX.out HYK.out hkn HV.out]
                exact decide_eq_true HYX.out
              · exact HA.out j (by omega)), hb.trans (hw1.mono hb.size)⟩
            case measure => simp [intOf]; omega
          · have hge : x ≤ y := by omega
            have HYX := Lib.hid hyx
            clear hyx
            go_wp2_with fail
            have hX := fun (x : Ext wr) (bb o : Nat) (h : bb < wr.heap.size) => x.cell bb o h
            refine wp_region_ext (by kernel_rfl) (by kernel_rfl) ?_
            repeat (go_big_quiet_step (first | (go_at_call 24; exact Calls.ext_same (C1 _))))
            (refine wpQuiet_nil ?_); (rintro _ ⟨X, rfl⟩); (have hw1 := X.below); (generalize X.w = w1 at *); (clear X)
            clear hX
            go_wp2_with fail
            go_ret
            exact ⟨ret_bool (HN.out hlt (by rw [okI_next HX.out HYK.out hkn HV.out]; exact decide_eq_false (by have := HYX.out; omega))).symm, hb.trans (hw1.mono hb.size)⟩
    · have hge : xs.length ≤ k := by omega
      go_wp2_with fail
      go_ret
      exact ⟨ret_bool (HY.out (fun j hj => HA.out j (by omega))).symm, hb⟩

/-! ### Valid adjacencies -/
theorem adjValid_impl (s g : Int) (w : World) :
   Calls Try.prog 13 #[adjV s g] w fun e w' => e = .returned (.bool (adjB s g)) ∧ Below w.heap.size w w' := by
  go_enter Try.func13, Try.ntmps13
  go_wp2
  all_goals
    go_ret
    exact ⟨ret_bool (by unfold adjB inB; rw [Bool.eq_iff_iff]; simp_all <;> omega), by (repeat (first | exact Below.refl _ _ | (refine Below.alloc ?_ (by first | exact Nat.le_refl _ | omega | (simp; done) | (simp; omega)) _) | (refine Below.setCell ?_ (by first | exact Nat.le_refl _ | omega | (simp; done) | (simp; omega)) _) | exact Below.drew ‹_›))⟩
theorem adjValid_spec (s g : Int) (w : World) :
   Calls Try.prog 11 #[adjV s g] w fun e w' => e = .returned (.bool (adjB s g)) ∧ Below w.heap.size w w' := by
  by_cases hs : s = 0
  · subst hs
    go_enter Try.func11, Try.ntmps11
    go_wp2_with fail
    go_ret
    exact ⟨ret_bool (by unfold adjB; rw [Bool.eq_iff_iff]; simp), by (repeat (first | exact Below.refl _ _ | (refine Below.alloc ?_ (by first | exact Nat.le_refl _ | omega | (simp; done) | (simp; omega)) _) | (refine Below.setCell ?_ (by first | exact Nat.le_refl _ | omega | (simp; done) | (simp; omega)) _) | exact Below.drew ‹_›))⟩
  · have hs' : (s == 0) = false := by simpa using hs
    have HV : Hid (adjB s g = (inB s 1 3 && inB g 0 3)) := Lib.hid (by unfold adjB; rw [if_neg hs])
    clear hs
    have C1 := fun W => l6In_any s 1 3 W
    have C2 := fun W => l6In_any g 0 3 W
    generalize inB s 1 3 = p at *
    generalize inB g 0 3 = q at *
    cases p with
    | false =>
      go_enter Try.func11, Try.ntmps11
      go_wp2_with fail
      refine (C1 _).mono ?_
      rintro e w1 ⟨rfl, rfl⟩
      go_wp2_with fail
      go_ret
      exact ⟨ret_bool (by rw [HV.out]; simp), by (repeat (first | exact Below.refl _ _ | (refine Below.alloc ?_ (by first | exact Nat.le_refl _ | omega | (simp; done) | (simp; omega)) _) | (refine Below.setCell ?_ (by first | exact Nat.le_refl _ | omega | (simp; done) | (simp; omega)) _) | exact Below.drew ‹_›))⟩
    | true =>
      go_enter Try.func11, Try.ntmps11
      go_wp2_with fail
      refine (C1 _).mono ?_
      rintro e w1 ⟨rfl, rfl⟩
      go_wp2_with fail
      refine (C2 _).mono ?_
      rintro e w2 ⟨rfl, rfl⟩
      go_wp2_with fail
      go_ret
      exact ⟨ret_bool (by rw [HV.out]; simp), by (repeat (first | exact Below.refl _ _ | (refine Below.alloc ?_ (by first | exact Nat.le_refl _ | omega | (simp; done) | (simp; omega)) _) | (refine Below.setCell ?_ (by first | exact Nat.le_refl _ | omega | (simp; done) | (simp; omega)) _) | exact Below.drew ‹_›))⟩

/-! ### Hellos and ticks -/
/-- What a walk of a call with an adjacency knows: its box, the result's box. -/
structure AB (w : World) (s g u v : Int) (W : World) : Prop where
  box : Box W w.heap.size 25 #[.int .i64 s, .int .i64 g]
  res : Box W (w.heap.size + 1) 25 #[.int .i64 u, .int .i64 v]
  bel : Below w.heap.size w W
theorem AB.start (w : World) (s g : Int) : AB w s g 0 0 ((w.alloc (.cells #[.int .i64 s, .int .i64 g] 25)).alloc (.cells #[.int .i64 0, .int .i64 0] 25)) := by
  refine ⟨(Box.new w _ _).alloc _, ?_, by (repeat (first | exact Below.refl _ _ | (refine Below.alloc ?_ (by first | exact Nat.le_refl _ | omega | (simp; done) | (simp; omega)) _) | (refine Below.setCell ?_ (by first | exact Nat.le_refl _ | omega | (simp; done) | (simp; omega)) _) | exact Below.drew ‹_›))⟩
  have := Box.new (w.alloc (.cells #[.int .i64 s, .int .i64 g] 25)) 25 #[.int .i64 0, .int .i64 0]
  rwa [World.size_alloc] at this
theorem AB.call {w w1 w2 : World} {s g u v : Int} (h : AB w s g u v w1) (hb : Below w1.heap.size w1 w2) : AB w s g u v w2 :=
  ⟨h.box.below hb h.box.lt, h.res.below hb h.res.lt, h.bel.trans (hb.mono h.bel.size)⟩
theorem AB.set {w w1 : World} {s g u v : Int} (h : AB w s g u v w1) (u' v' : Int) : AB w s g u' v' ((w1.setCell ⟨w.heap.size + 1, 0, none⟩ (.int .i64 u')).setCell ⟨w.heap.size + 1, 1, none⟩ (.int .i64 v')) := by
  refine ⟨?_, heap_set (heap_set h.res 0 _) 1 _, (h.bel.setCell (p := ⟨w.heap.size + 1, 0, none⟩) (Nat.le_succ _) _).setCell (p := ⟨w.heap.size + 1, 1, none⟩) (Nat.le_succ _) _⟩
  exact ((Below.heap_setCell _ ⟨w.heap.size + 1, 1, none⟩ _ _ (by show w.heap.size ≠ w.heap.size + 1; omega)).trans (Below.heap_setCell _ ⟨w.heap.size + 1, 0, none⟩ _ _ (by show w.heap.size ≠ w.heap.size + 1; omega))).trans h.box
theorem AB.six {w w1 : World} {s g u v : Int} (h : AB w s g u v w1) : w.heap.size < w1.heap.size ∧ w1.cell? ⟨w.heap.size, 0, none⟩ = some (.int .i64 s) ∧ w1.cell? ⟨w.heap.size, 1, none⟩ = some (.int .i64 g) ∧ w.heap.size + 1 < w1.heap.size ∧ w1.cell? ⟨w.heap.size + 1, 0, none⟩ = some (.int .i64 u) ∧ w1.cell? ⟨w.heap.size + 1, 1, none⟩ = some (.int .i64 v) ∧ w1.frozen? ⟨w.heap.size + 1, 0, none⟩ = false ∧ w1.frozen? ⟨w.heap.size + 1, 1, none⟩ = false := by
  obtain ⟨h1, h2, h3, -, -⟩ := h.box.two
  obtain ⟨h4, h5, h6, h7, h8⟩ := h.res.two
  exact ⟨h1, h2, h3, h4, h5, h6, h7, h8⟩

set_option maxHeartbeats 800000 in
theorem tick_impl (s g : Int) (w : World) :
   Calls Try.prog 15 #[adjV s g] w fun e w' => e = .returned (adjV (tickA s g).1 (tickA s g).2) ∧ Below w.heap.size w w' := by
  have S0 := Lib.hid (AB.start w s g)
  have CV := fun W => adjValid_impl s g W
  cases hv : adjB s g with
  | false =>
    have ht : tickA s g = (0, 0) := by unfold tickA; rw [hv]; rfl
    rw [hv] at CV
    rw [ht]
    clear ht hv
    go_enter Try.func15, Try.ntmps15
    go_wp2_with fail
    refine (CV _).mono ?_
    rintro e w1 ⟨rfl, hb1⟩
    have S1 := Lib.hid (S0.out.call hb1)
    clear hb1 S0
    obtain ⟨z0, a0, a1, z1, r0, r1, q0, q1⟩ := S1.out.six
    have S2 := Lib.hid (S1.out.set 0 0)
    obtain ⟨-, -, -, y1, y2, y3, -, -⟩ := S2.out.six
    go_wp2_with fail
    refine bodyPost_ret (v := adjV 0 0) (by simp [results, Try.results15, go_sem, y2, y3]) rfl ⟨rfl, S2.out.bel⟩
  | true =>
    obtain ⟨n, rfl, hn, hg0, hg3, -⟩ := adjB_cases hv
    have ht : tickA (n : Int) g = onA 2 n g := by unfold tickA; rw [hv]; rfl
    have CO := fun W => on_any 2 n g W (by omega) hn hg0 hg3
    rw [hv] at CV
    rw [ht]
    clear ht hv
    generalize onA 2 n g = r at *
    obtain ⟨u, v⟩ := r
    go_enter Try.func15, Try.ntmps15
    go_wp2_with fail
    refine (CV _).mono ?_
    rintro e w1 ⟨rfl, hb1⟩
    have S1 := Lib.hid (S0.out.call hb1)
    clear hb1 S0
    obtain ⟨z0, a0, a1, z1, r0, r1, q0, q1⟩ := S1.out.six
    go_wp2_with fail
    refine (CO _).mono ?_
    rintro e w2 ⟨rfl, hb2⟩
    have S2 := Lib.hid (S1.out.call hb2)
    clear hb2 S1 z0 a0 a1 z1 r0 r1 q0 q1
    obtain ⟨z0, a0, a1, z1, r0, r1, q0, q1⟩ := S2.out.six
    have S3 := Lib.hid (S2.out.set u v)
    obtain ⟨-, -, -, y1, y2, y3, -, -⟩ := S3.out.six
    go_wp2_with fail
    refine bodyPost_ret (v := adjV u v) (by simp [results, Try.results15, go_sem, y2, y3]) rfl ⟨rfl, S3.out.bel⟩

set_option maxHeartbeats 800000 in
theorem tick_spec (s g : Int) (w : World) :
   Calls Try.prog 14 #[adjV s g] w fun e w' => e = .returned (adjV (tickA s g).1 (tickA s g).2) ∧ Below w.heap.size w w' := by
  have S0 := Lib.hid (AB.start w s g)
  have CV := fun W => adjValid_spec s g W
  cases hv : adjB s g with
  | false =>
    have ht : tickA s g = (0, 0) := by unfold tickA; rw [hv]; rfl
    rw [hv] at CV
    rw [ht]
    clear ht hv
    go_enter Try.func14, Try.ntmps14
    go_wp2_with fail
    refine (CV _).mono ?_
    rintro e w1 ⟨rfl, hb1⟩
    have S1 := Lib.hid (S0.out.call hb1)
    clear hb1 S0
    obtain ⟨z0, a0, a1, z1, r0, r1, q0, q1⟩ := S1.out.six
    have S2 := Lib.hid (S1.out.set 0 0)
    obtain ⟨-, -, -, y1, y2, y3, -, -⟩ := S2.out.six
    go_wp2_with fail
    refine bodyPost_ret (v := adjV 0 0) (by simp [results, Try.results14, go_sem, y2, y3]) rfl ⟨rfl, S2.out.bel⟩
  | true =>
    obtain ⟨n, rfl, hn, hg0, hg3, hz⟩ := adjB_cases hv
    have ht : tickA (n : Int) g = onA 2 n g := by unfold tickA; rw [hv]; rfl
    rw [hv] at CV
    rw [ht]
    clear ht hv
    have hw : IntKind.i64.wrap (g + 1) = g + 1 := IntWalk.i64_in _ (by omega)
    by_cases hn0 : n = 0 ∨ g = 3
    · have ht : onA 2 (n : Int) g = (0, 0) := by
        show (if (n : Int) = 0 then ((n : Int), g) else if g = 3 then (0, 0) else ((n : Int), g + 1)) = (0, 0)
        split
        · rw [hz (by omega)]; simp; omega
        · rw [if_pos (by omega)]
      rw [ht]
      clear ht
      go_enter Try.func14, Try.ntmps14
      go_wp2_with fail
      refine (CV _).mono ?_
      rintro e w1 ⟨rfl, hb1⟩
      have S1 := Lib.hid (S0.out.call hb1)
      clear hb1 S0 CV
      obtain ⟨z0, a0, a1, z1, r0, r1, q0, q1⟩ := S1.out.six
      have S2 := Lib.hid (S1.out.set 0 0)
      obtain ⟨-, -, -, y1, y2, y3, -, -⟩ := S2.out.six
      by_cases hnn : n = 0
      · have hnn' : ((n : Int) == 0) = true := by simp [hnn]
        clear hn0 hz
        go_wp2_with fail
        refine bodyPost_ret (v := adjV 0 0) (by simp [results, Try.results14, go_sem, y2, y3]) rfl ⟨rfl, S2.out.bel⟩
      · have hnn' : ((n : Int) == 0) = false := by simpa using hnn
        have hge : 4 ≤ g + 1 := by omega
        clear hn0 hz
        go_wp2_with fail
        refine bodyPost_ret (v := adjV 0 0) (by simp [results, Try.results14, go_sem, y2, y3]) rfl ⟨rfl, S2.out.bel⟩
    · have ht : onA 2 (n : Int) g = ((n : Int), g + 1) := by
        show (if (n : Int) = 0 then ((n : Int), g) else if g = 3 then (0, 0) else ((n : Int), g + 1)) = _
        rw [if_neg (by omega), if_neg (by omega)]
      rw [ht]
      clear ht
      have hnn : ¬ n = 0 := by omega
      have hnn' : ((n : Int) == 0) = false := by simpa using hnn
      have hge : ¬ 4 ≤ g + 1 := by omega
      clear hn0 hz
      go_enter Try.func14, Try.ntmps14
      go_wp2_with fail
      refine (CV _).mono ?_
      rintro e w1 ⟨rfl, hb1⟩
      have S1 := Lib.hid (S0.out.call hb1)
      clear hb1 S0 CV
      obtain ⟨z0, a0, a1, z1, r0, r1, q0, q1⟩ := S1.out.six
      have S2 := Lib.hid (S1.out.set n (g + 1))
      obtain ⟨-, -, -, y1, y2, y3, -, -⟩ := S2.out.six
      go_wp2_with fail
      refine bodyPost_ret (v := adjV n (g + 1)) (by simp [results, Try.results14, go_sem, y2, y3]) rfl ⟨rfl, S2.out.bel⟩

theorem hello_not {s g me : Int} {xs : List Int} (h : helloB s g me xs = false) : helloA s g me xs = (0, 0) := by
  unfold helloA; unfold helloB at h; rw [h]; rfl
theorem hello_yes {s g me : Int} {xs : List Int} (h : helloB s g me xs = true) : helloA s g me xs = onA (if me ∈ xs then 1 else 0) s g := by
  unfold helloA; unfold helloB at h; rw [h]; rfl

set_option maxHeartbeats 1600000 in
theorem hello_impl (s g me : Int) (A : Option Addr) (xs : List Int) (c : Nat) (w : World) (hm : xs.length ≤ 2000000) (hS : Sli w w.heap.size A xs) :
   Calls Try.prog 19 #[adjV s g, .int .i64 me, .slice A xs.length c] w fun e w' => e = .returned (.tuple #[adjV (helloA s g me xs).1 (helloA s g me xs).2, .bool (helloB s g me xs)]) ∧ Below w.heap.size w w' := by
  have S0 := Lib.hid (AB.start w s g)
  have HS := Lib.hid hS
  have CV := fun W => adjValid_impl s g W
  have CN := fun W => numv_any me W
  have CL := fun W (h : Sli W W.heap.size A xs) => numbers_impl A xs c W hm h
  have CC := fun W (h : Sli W W.heap.size A xs) => containsI_any A xs c me W hm h
  clear hS
  cases h1 : adjB s g with
  | false =>
    have hb : helloB s g me xs = false := by unfold helloB; rw [h1]; rfl
    rw [h1] at CV
    rw [hb, hello_not hb]
    clear hb h1
    go_enter Try.func19, Try.ntmps19
    go_wp2_with fail
    refine (CV _).mono ?_
    rintro e w1 ⟨rfl, hb1⟩
    have S1 := Lib.hid (S0.out.call hb1)
    clear hb1 S0
    obtain ⟨z0, a0, a1, z1, r0, r1, q0, q1⟩ := S1.out.six
    have S2 := Lib.hid (S1.out.set 0 0)
    obtain ⟨-, -, -, y1, y2, y3, -, -⟩ := S2.out.six
    go_wp2_with fail
    refine bodyPost_ret (v := .tuple #[adjV 0 0, .bool false]) (by simp [results, Try.results19, go_sem, y2, y3]) rfl ⟨rfl, S2.out.bel⟩
  | true =>
    rw [h1] at CV
    cases h2 : inB me 0 7 with
    | false =>
      have hb : helloB s g me xs = false := by unfold helloB; rw [h2]; simp
      rw [h2] at CN
      rw [hb, hello_not hb]
      clear hb h1 h2
      go_enter Try.func19, Try.ntmps19
      go_wp2_with fail
      refine (CV _).mono ?_
      rintro e w1 ⟨rfl, hb1⟩
      have S1 := Lib.hid (S0.out.call hb1)
      clear hb1 S0
      go_wp2_with fail
      refine (CN _).mono ?_
      rintro e w2 ⟨rfl, hb2⟩
      have S2 := Lib.hid (S1.out.call hb2)
      clear hb2 S1
      obtain ⟨z0, a0, a1, z1, r0, r1, q0, q1⟩ := S2.out.six
      have S3 := Lib.hid (S2.out.set 0 0)
      obtain ⟨-, -, -, y1, y2, y3, -, -⟩ := S3.out.six
      go_wp2_with fail
      refine bodyPost_ret (v := .tuple #[adjV 0 0, .bool false]) (by simp [results, Try.results19, go_sem, y2, y3]) rfl ⟨rfl, S3.out.bel⟩
    | true =>
      rw [h2] at CN
      cases h3 : upB xs with
      | false =>
        have hb : helloB s g me xs = false := by unfold helloB; rw [h3]; simp
        rw [h3] at CL
        rw [hb, hello_not hb]
        clear hb h1 h2 h3
        go_enter Try.func19, Try.ntmps19
        go_wp2_with fail
        refine (CV _).mono ?_
        rintro e w1 ⟨rfl, hb1⟩
        have S1 := Lib.hid (S0.out.call hb1)
        clear hb1 S0
        go_wp2_with fail
        refine (CN _).mono ?_
        rintro e w2 ⟨rfl, hb2⟩
        have S2 := Lib.hid (S1.out.call hb2)
        clear hb2 S1
        go_wp2_with fail
        refine (CL _ ((HS.out.below S2.out.bel).more S2.out.bel.size)).mono ?_
        rintro e w3 ⟨rfl, hb3⟩
        have S3 := Lib.hid (S2.out.call hb3)
        clear hb3 S2
        obtain ⟨z0, a0, a1, z1, r0, r1, q0, q1⟩ := S3.out.six
        have S4 := Lib.hid (S3.out.set 0 0)
        obtain ⟨-, -, -, y1, y2, y3, -, -⟩ := S4.out.six
        go_wp2_with fail
        refine bodyPost_ret (v := .tuple #[adjV 0 0, .bool false]) (by simp [results, Try.results19, go_sem, y2, y3]) rfl ⟨rfl, S4.out.bel⟩
      | true =>
        have hb : helloB s g me xs = true := by unfold helloB; rw [h1, h2, h3]; rfl
        rw [h3] at CL
        rw [hb, hello_yes hb]
        obtain ⟨n, rfl, hn, hg0, hg3, -⟩ := adjB_cases h1
        have CO := fun (ev : Nat) (h : ev < 5) W => on_any ev n g W h hn hg0 hg3
        clear hb h1 h2 h3
        by_cases hmem : me ∈ xs
        · rw [if_pos hmem]
          have CO := CO 1 (by omega)
          rw [decide_eq_true hmem] at CC
          clear hmem
          generalize onA 1 n g = r at *
          obtain ⟨u, v⟩ := r
          go_enter Try.func19, Try.ntmps19
          go_wp2_with fail
          refine (CV _).mono ?_
          rintro e w1 ⟨rfl, hb1⟩
          have S1 := Lib.hid (S0.out.call hb1)
          clear hb1 S0
          go_wp2_with fail
          refine (CN _).mono ?_
          rintro e w2 ⟨rfl, hb2⟩
          have S2 := Lib.hid (S1.out.call hb2)
          clear hb2 S1
          go_wp2_with fail
          refine (CL _ ((HS.out.below S2.out.bel).more S2.out.bel.size)).mono ?_
          rintro e w3 ⟨rfl, hb3⟩
          have S3 := Lib.hid (S2.out.call hb3)
          clear hb3 S2
          go_wp2_with fail
          refine (CC _ ((HS.out.below S3.out.bel).more S3.out.bel.size)).mono ?_
          rintro e w4 ⟨rfl, rfl⟩
          obtain ⟨z0, a0, a1, z1, r0, r1, q0, q1⟩ := S3.out.six
          go_wp2_with fail
          refine (CO _).mono ?_
          rintro e w5 ⟨rfl, hb5⟩
          have S5 := Lib.hid (S3.out.call hb5)
          clear hb5 S3 z0 a0 a1 z1 r0 r1 q0 q1
          obtain ⟨z0, a0, a1, z1, r0, r1, q0, q1⟩ := S5.out.six
          have S6 := Lib.hid (S5.out.set u v)
          obtain ⟨-, -, -, y1, y2, y3, -, -⟩ := S6.out.six
          go_wp2_with fail
          refine bodyPost_ret (v := .tuple #[adjV u v, .bool true]) (by simp [results, Try.results19, go_sem, y2, y3]) rfl ⟨rfl, S6.out.bel⟩
        · rw [if_neg hmem]
          have CO := CO 0 (by omega)
          rw [decide_eq_false hmem] at CC
          clear hmem
          generalize onA 0 n g = r at *
          obtain ⟨u, v⟩ := r
          go_enter Try.func19, Try.ntmps19
          go_wp2_with fail
          refine (CV _).mono ?_
          rintro e w1 ⟨rfl, hb1⟩
          have S1 := Lib.hid (S0.out.call hb1)
          clear hb1 S0
          go_wp2_with fail
          refine (CN _).mono ?_
          rintro e w2 ⟨rfl, hb2⟩
          have S2 := Lib.hid (S1.out.call hb2)
          clear hb2 S1
          go_wp2_with fail
          refine (CL _ ((HS.out.below S2.out.bel).more S2.out.bel.size)).mono ?_
          rintro e w3 ⟨rfl, hb3⟩
          have S3 := Lib.hid (S2.out.call hb3)
          clear hb3 S2
          go_wp2_with fail
          refine (CC _ ((HS.out.below S3.out.bel).more S3.out.bel.size)).mono ?_
          rintro e w4 ⟨rfl, rfl⟩
          obtain ⟨z0, a0, a1, z1, r0, r1, q0, q1⟩ := S3.out.six
          go_wp2_with fail
          refine (CO _).mono ?_
          rintro e w5 ⟨rfl, hb5⟩
          have S5 := Lib.hid (S3.out.call hb5)
          clear hb5 S3 z0 a0 a1 z1 r0 r1 q0 q1
          obtain ⟨z0, a0, a1, z1, r0, r1, q0, q1⟩ := S5.out.six
          have S6 := Lib.hid (S5.out.set u v)
          obtain ⟨-, -, -, y1, y2, y3, -, -⟩ := S6.out.six
          go_wp2_with fail
          refine bodyPost_ret (v := .tuple #[adjV u v, .bool true]) (by simp [results, Try.results19, go_sem, y2, y3]) rfl ⟨rfl, S6.out.bel⟩
set_option maxHeartbeats 1600000 in
theorem hello_spec (s g me : Int) (A : Option Addr) (xs : List Int) (c : Nat) (w : World) (hm : xs.length ≤ 2000000) (hS : Sli w w.heap.size A xs) :
   Calls Try.prog 17 #[adjV s g, .int .i64 me, .slice A xs.length c] w fun e w' => e = .returned (.tuple #[adjV (helloA s g me xs).1 (helloA s g me xs).2, .bool (helloB s g me xs)]) ∧ Below w.heap.size w w' := by
  have S0 := Lib.hid (AB.start w s g)
  have HS := Lib.hid hS
  have CV := fun W => adjValid_spec s g W
  have CN := fun W => l6In_any me 0 7 W
  have CL := fun W (h : Sli W W.heap.size A xs) => l12nodes_any A xs c W hm h
  have CC := fun W (h : Sli W W.heap.size A xs) => l1has_any A xs c me W hm h
  clear hS
  cases h1 : adjB s g with
  | false =>
    have hb : helloB s g me xs = false := by unfold helloB; rw [h1]; rfl
    rw [h1] at CV
    rw [hb, hello_not hb]
    clear hb h1
    go_enter Try.func17, Try.ntmps17
    go_wp2_with fail
    refine (CV _).mono ?_
    rintro e w1 ⟨rfl, hb1⟩
    have S1 := Lib.hid (S0.out.call hb1)
    clear hb1 S0
    obtain ⟨z0, a0, a1, z1, r0, r1, q0, q1⟩ := S1.out.six
    have S2 := Lib.hid (S1.out.set 0 0)
    obtain ⟨-, -, -, y1, y2, y3, -, -⟩ := S2.out.six
    go_wp2_with fail
    refine bodyPost_ret (v := .tuple #[adjV 0 0, .bool false]) (by simp [results, Try.results17, go_sem, y2, y3]) rfl ⟨rfl, S2.out.bel⟩
  | true =>
    rw [h1] at CV
    cases h2 : inB me 0 7 with
    | false =>
      have hb : helloB s g me xs = false := by unfold helloB; rw [h2]; simp
      rw [h2] at CN
      rw [hb, hello_not hb]
      clear hb h1 h2
      go_enter Try.func17, Try.ntmps17
      go_wp2_with fail
      refine (CV _).mono ?_
      rintro e w1 ⟨rfl, hb1⟩
      have S1 := Lib.hid (S0.out.call hb1)
      clear hb1 S0
      go_wp2_with fail
      refine (CN _).mono ?_
      rintro e w2 ⟨rfl, rfl⟩
      have S2 := S1
      clear S1
      obtain ⟨z0, a0, a1, z1, r0, r1, q0, q1⟩ := S2.out.six
      have S3 := Lib.hid (S2.out.set 0 0)
      obtain ⟨-, -, -, y1, y2, y3, -, -⟩ := S3.out.six
      go_wp2_with fail
      refine bodyPost_ret (v := .tuple #[adjV 0 0, .bool false]) (by simp [results, Try.results17, go_sem, y2, y3]) rfl ⟨rfl, S3.out.bel⟩
    | true =>
      rw [h2] at CN
      cases h3 : upB xs with
      | false =>
        have hb : helloB s g me xs = false := by unfold helloB; rw [h3]; simp
        rw [h3] at CL
        rw [hb, hello_not hb]
        clear hb h1 h2 h3
        go_enter Try.func17, Try.ntmps17
        go_wp2_with fail
        refine (CV _).mono ?_
        rintro e w1 ⟨rfl, hb1⟩
        have S1 := Lib.hid (S0.out.call hb1)
        clear hb1 S0
        go_wp2_with fail
        refine (CN _).mono ?_
        rintro e w2 ⟨rfl, rfl⟩
        have S2 := S1
        clear S1
        go_wp2_with fail
        refine (CL _ ((HS.out.below S2.out.bel).more S2.out.bel.size)).mono ?_
        rintro e w3 ⟨rfl, hb3⟩
        have S3 := Lib.hid (S2.out.call hb3)
        clear hb3 S2
        obtain ⟨z0, a0, a1, z1, r0, r1, q0, q1⟩ := S3.out.six
        have S4 := Lib.hid (S3.out.set 0 0)
        obtain ⟨-, -, -, y1, y2, y3, -, -⟩ := S4.out.six
        go_wp2_with fail
        refine bodyPost_ret (v := .tuple #[adjV 0 0, .bool false]) (by simp [results, Try.results17, go_sem, y2, y3]) rfl ⟨rfl, S4.out.bel⟩
      | true =>
        have hb : helloB s g me xs = true := by unfold helloB; rw [h1, h2, h3]; rfl
        rw [h3] at CL
        rw [hb, hello_yes hb]
        obtain ⟨n, rfl, hn, hg0, hg3, -⟩ := adjB_cases h1
        clear hb h1 h2 h3
        by_cases hmem : me ∈ xs
        · rw [if_pos hmem]
          rw [decide_eq_true hmem] at CC
          clear hmem
          obtain ⟨u, hu, hmx, hlt⟩ : ∃ u : Int, onA 1 (n : Int) g = (u, 0) ∧ max (n : Int) 2 = u ∧ (if (n : Int) < 2 then (2 : Int) else n) = u := by
            show ∃ u : Int, (if (n : Int) = 3 then ((3 : Int), (0 : Int)) else (2, 0)) = (u, 0) ∧ _
            by_cases h : (n : Int) = 3
            · rw [if_pos h]; exact ⟨3, rfl, by omega, by rw [if_neg (by omega)]; exact h⟩
            · rw [if_neg h]; exact ⟨2, rfl, by omega, by split <;> omega⟩
          rw [hu]
          clear hu
          go_enter Try.func17, Try.ntmps17
          go_wp2_with fail
          refine (CV _).mono ?_
          rintro e w1 ⟨rfl, hb1⟩
          have S1 := Lib.hid (S0.out.call hb1)
          clear hb1 S0
          go_wp2_with fail
          refine (CN _).mono ?_
          rintro e w2 ⟨rfl, rfl⟩
          have S2 := S1
          clear S1
          go_wp2_with fail
          refine (CL _ ((HS.out.below S2.out.bel).more S2.out.bel.size)).mono ?_
          rintro e w3 ⟨rfl, hb3⟩
          have S3 := Lib.hid (S2.out.call hb3)
          clear hb3 S2
          go_wp2_with fail
          refine (CC _ ((HS.out.below S3.out.bel).more S3.out.bel.size)).mono ?_
          rintro e w4 ⟨rfl, hb4⟩
          have S4 := Lib.hid (S3.out.call hb4)
          clear hb4 S3
          obtain ⟨z0, a0, a1, z1, r0, r1, q0, q1⟩ := S4.out.six
          have S6 := Lib.hid (S4.out.set u 0)
          obtain ⟨-, -, -, y1, y2, y3, -, -⟩ := S6.out.six
          go_wp2_with fail
          refine bodyPost_ret (v := .tuple #[adjV u 0, .bool true]) (by simp [results, Try.results17, go_sem, y2, y3]) rfl ⟨rfl, S6.out.bel⟩
        · rw [if_neg hmem]
          rw [decide_eq_false hmem] at CC
          clear hmem
          rw [show onA 0 (n : Int) g = (1, 0) from rfl]
          go_enter Try.func17, Try.ntmps17
          go_wp2_with fail
          refine (CV _).mono ?_
          rintro e w1 ⟨rfl, hb1⟩
          have S1 := Lib.hid (S0.out.call hb1)
          clear hb1 S0
          go_wp2_with fail
          refine (CN _).mono ?_
          rintro e w2 ⟨rfl, rfl⟩
          have S2 := S1
          clear S1
          go_wp2_with fail
          refine (CL _ ((HS.out.below S2.out.bel).more S2.out.bel.size)).mono ?_
          rintro e w3 ⟨rfl, hb3⟩
          have S3 := Lib.hid (S2.out.call hb3)
          clear hb3 S2
          go_wp2_with fail
          refine (CC _ ((HS.out.below S3.out.bel).more S3.out.bel.size)).mono ?_
          rintro e w4 ⟨rfl, hb4⟩
          have S4 := Lib.hid (S3.out.call hb4)
          clear hb4 S3
          obtain ⟨z0, a0, a1, z1, r0, r1, q0, q1⟩ := S4.out.six
          have S6 := Lib.hid (S4.out.set 1 0)
          obtain ⟨-, -, -, y1, y2, y3, -, -⟩ := S6.out.six
          go_wp2_with fail
          refine bodyPost_ret (v := .tuple #[adjV 1 0, .bool true]) (by simp [results, Try.results17, go_sem, y2, y3]) rfl ⟨rfl, S6.out.bel⟩
end Go.Proofs.Ytnkohgdfipgdoaa
