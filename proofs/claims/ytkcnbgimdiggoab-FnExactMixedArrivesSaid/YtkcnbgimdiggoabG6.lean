/-
  Contracts over this seat: packets followed along pointers: whether one can go on, whether all arrive.
-/
import Derived.Test.YtkcnbgimdiggoabG5
import Derived.Test.YtkcnbgimdiggoabYs
import Derived.Test.YtkcnbgimdiggoabG3
import Derived.Test.YtkcnbgimdiggoabVd
namespace Go.Proofs.Ytkcnbgimdiggoab
open Go.RowKit Go.Maps

/-- A row of one-cell values, read. -/
def RowP (W : World) (A : Option Addr) (us : List Value) : Prop := ∀ (k : Nat) (u : Value), us[k]? = some u → ∃ g, A = some ⟨g, 0, none⟩ ∧ g < W.heap.size ∧ W.cell? ⟨g, k, none⟩ = some u
theorem RowP.below {W W' : World} {A : Option Addr} {us : List Value} (h : RowP W A us) (hb : Below W.heap.size W W') : RowP W' A us := fun k u hu => by
  obtain ⟨g, e, hg, hc⟩ := h k u hu
  exact ⟨g, e, Nat.lt_of_lt_of_le hg hb.size, (hb.cell (p := ⟨g, k, none⟩) hg).trans hc⟩
theorem RowP.grow {w W : World} {A : Option Addr} {us : List Value} (h : RowP w A us) (hb : Below w.heap.size w W) : RowP W A us := h.below hb
theorem own_rowP {w : World} {base n : Nat} {e : TypeId} {v : Value} {us : List Value} (h : w.ownsRow base e 1 v n us) : ∃ A c, v = .slice A n c ∧ us.length = n ∧ RowP w A us := by
  obtain ⟨A, c, e1, e2, h⟩ := own_row h
  exact ⟨A, c, e1, e2, fun k u hu => by
    obtain ⟨g, e3, -, h1, h2⟩ := h k u hu
    exact ⟨g, e3, h1, h2⟩⟩

set_option maxRecDepth 100000 in
theorem ixr_any (us : List Value) (bs : List Nat) (pr : Nat → Bool) (A : Option Addr) (c K : Nat) (w : World) (hm : us.length ≤ 8) (hu : us = bs.map ptrV) (hx : RowP w A us)
    (HC : ∀ (k b : Nat) (W : World), bs[k]? = some b → Below w.heap.size w W → Calls Try.prog 82 #[.pointer (some ⟨b, 0, none⟩), .pointer (some ⟨K, 0, none⟩)] W fun e w' => e = .returned (.bool (pr k)) ∧ Below W.heap.size W w') :
   Calls Try.prog 106 #[.slice A us.length c, .func (.func 82) #[] #[.pointer (some ⟨K, 0, none⟩)]] w fun e w' => (∃ r : Int, e = .returned (.int .i64 r) ∧ decide (0 ≤ r) = (List.range us.length).any pr) ∧ Below w.heap.size w w' := by
  have HX := Lib.hid hx
  have HH := Lib.hid HC
  have HU := Lib.hid hu
  clear hx HC hu
  go_enter Try.func106, Try.ntmps106
  go_wp2
  go_loopw [8] (fun v wr => ∃ k : Nat, k ≤ us.length ∧ v = .int .i64 k ∧ Below w.heap.size w wr ∧ Hid (∀ j : Nat, j < k → pr j = false)) (fun v _ => us.length - (intOf v).toNat)
  case atStart => exact ⟨0, Nat.zero_le _, rfl, Below.refl _ _, Lib.hid fun j h => by omega⟩
  case round =>
    obtain ⟨k, hk, rfl, hb, HA⟩ := hrel
    have HW := Lib.hid hb
    by_cases hlt : k < us.length
    · obtain ⟨b, hbk⟩ : ∃ b, bs[k]? = some b := ⟨_, List.getElem?_eq_getElem (by have := congrArg List.length HU.out; simp at this; omega)⟩
      have huk : us[k]? = some (ptrV b) := by rw [HU.out, List.getElem?_map, hbk]; rfl
      have C1 := HH.out k b wr hbk hb
      obtain ⟨g, rfl, zg, hc⟩ := HX.out.below hb k _ huk
      clear huk hbk hb
      cases hpr : pr k with
      | true =>
        rw [hpr] at C1
        have HPR := Lib.hid hpr
        clear hpr
        go_wp2_with (go_at_call 82; refine C1.mono ?_; clear C1; rintro e w1 ⟨rfl, hb1⟩; have HW1 := Lib.hid (HW.out.trans (hb1.mono HW.out.size)); clear hb1)
        go_ret
        refine ⟨⟨_, rfl, ?_⟩, HW1.out⟩
        have : (List.range us.length).any pr = true := List.any_eq_true.2 ⟨k, List.mem_range.2 hlt, HPR.out⟩
        rw [this]
        simp
      | false =>
        rw [hpr] at C1
        have HPR := Lib.hid hpr
        clear hpr
        go_wp2_with (go_at_call 82; refine C1.mono ?_; clear C1; rintro e w1 ⟨rfl, hb1⟩; have HW1 := Lib.hid (HW.out.trans (hb1.mono HW.out.size)); clear hb1)
        go_roundw
        case rel =>
          refine ⟨k + 1, hlt, by go_num, HW1.out, Lib.hid fun j hj => ?_⟩
          by_cases hjk : j < k
          · exact HA.out j hjk
          · obtain rfl : j = k := by omega
            exact HPR.out
        case measure => simp [intOf]; omega
    · clear hb
      obtain rfl : k = us.length := by omega
      go_wp2
      go_ret
      refine ⟨⟨_, rfl, ?_⟩, HW.out⟩
      have : (List.range us.length).any pr = false := by
        rw [List.any_eq_false]
        intro j hj
        rw [HA.out j (List.mem_range.1 hj)]
        simp
      rw [this]
      simp
theorem cfr_any (us : List Value) (bs : List Nat) (pr : Nat → Bool) (A : Option Addr) (c K : Nat) (w : World) (hm : us.length ≤ 8) (hu : us = bs.map ptrV) (hx : RowP w A us)
    (HC : ∀ (k b : Nat) (W : World), bs[k]? = some b → Below w.heap.size w W → Calls Try.prog 82 #[.pointer (some ⟨b, 0, none⟩), .pointer (some ⟨K, 0, none⟩)] W fun e w' => e = .returned (.bool (pr k)) ∧ Below W.heap.size W w') :
   Calls Try.prog 81 #[.slice A us.length c, .func (.func 82) #[] #[.pointer (some ⟨K, 0, none⟩)]] w fun e w' => e = .returned (.bool ((List.range us.length).any pr)) ∧ Below w.heap.size w w' := by
  have C1 := ixr_any us bs pr A c K w hm hu hx HC
  clear hx HC hu
  go_enter Try.func81, Try.ntmps81
  go_wp2_with (go_at_call 106; refine C1.mono ?_; clear C1; rintro e w1 ⟨⟨r, rfl, hr⟩, hb⟩; have HR := Lib.hid hr; clear hr)
  go_ret
  exact ⟨ret_bool (by rw [← HR.out]), hb⟩

set_option maxRecDepth 100000 in
theorem ixd_any (us : List Value) (bs : List Nat) (pr : Nat → Bool) (A : Option Addr) (c K : Nat) (w : World) (hm : us.length ≤ 8) (hu : us = bs.map ptrV) (hx : RowP w A us)
    (HC : ∀ (k b : Nat) (W : World), bs[k]? = some b → Below w.heap.size w W → Calls Try.prog 87 #[.pointer (some ⟨b, 0, none⟩), .pointer (some ⟨K, 0, none⟩)] W fun e w' => e = .returned (.bool (pr k)) ∧ Below W.heap.size W w') :
   Calls Try.prog 106 #[.slice A us.length c, .func (.func 87) #[] #[.pointer (some ⟨K, 0, none⟩)]] w fun e w' => (∃ r : Int, e = .returned (.int .i64 r) ∧ decide (0 ≤ r) = (List.range us.length).any pr) ∧ Below w.heap.size w w' := by
  have HX := Lib.hid hx
  have HH := Lib.hid HC
  have HU := Lib.hid hu
  clear hx HC hu
  go_enter Try.func106, Try.ntmps106
  go_wp2
  go_loopw [8] (fun v wr => ∃ k : Nat, k ≤ us.length ∧ v = .int .i64 k ∧ Below w.heap.size w wr ∧ Hid (∀ j : Nat, j < k → pr j = false)) (fun v _ => us.length - (intOf v).toNat)
  case atStart => exact ⟨0, Nat.zero_le _, rfl, Below.refl _ _, Lib.hid fun j h => by omega⟩
  case round =>
    obtain ⟨k, hk, rfl, hb, HA⟩ := hrel
    have HW := Lib.hid hb
    by_cases hlt : k < us.length
    · obtain ⟨b, hbk⟩ : ∃ b, bs[k]? = some b := ⟨_, List.getElem?_eq_getElem (by have := congrArg List.length HU.out; simp at this; omega)⟩
      have huk : us[k]? = some (ptrV b) := by rw [HU.out, List.getElem?_map, hbk]; rfl
      have C1 := HH.out k b wr hbk hb
      obtain ⟨g, rfl, zg, hc⟩ := HX.out.below hb k _ huk
      clear huk hbk hb
      cases hpr : pr k with
      | true =>
        rw [hpr] at C1
        have HPR := Lib.hid hpr
        clear hpr
        go_wp2_with (go_at_call 87; refine C1.mono ?_; clear C1; rintro e w1 ⟨rfl, hb1⟩; have HW1 := Lib.hid (HW.out.trans (hb1.mono HW.out.size)); clear hb1)
        go_ret
        refine ⟨⟨_, rfl, ?_⟩, HW1.out⟩
        have : (List.range us.length).any pr = true := List.any_eq_true.2 ⟨k, List.mem_range.2 hlt, HPR.out⟩
        rw [this]
        simp
      | false =>
        rw [hpr] at C1
        have HPR := Lib.hid hpr
        clear hpr
        go_wp2_with (go_at_call 87; refine C1.mono ?_; clear C1; rintro e w1 ⟨rfl, hb1⟩; have HW1 := Lib.hid (HW.out.trans (hb1.mono HW.out.size)); clear hb1)
        go_roundw
        case rel =>
          refine ⟨k + 1, hlt, by go_num, HW1.out, Lib.hid fun j hj => ?_⟩
          by_cases hjk : j < k
          · exact HA.out j hjk
          · obtain rfl : j = k := by omega
            exact HPR.out
        case measure => simp [intOf]; omega
    · clear hb
      obtain rfl : k = us.length := by omega
      go_wp2
      go_ret
      refine ⟨⟨_, rfl, ?_⟩, HW.out⟩
      have : (List.range us.length).any pr = false := by
        rw [List.any_eq_false]
        intro j hj
        rw [HA.out j (List.mem_range.1 hj)]
        simp
      rw [this]
      simp
theorem cfd_any (us : List Value) (bs : List Nat) (pr : Nat → Bool) (A : Option Addr) (c K : Nat) (w : World) (hm : us.length ≤ 8) (hu : us = bs.map ptrV) (hx : RowP w A us)
    (HC : ∀ (k b : Nat) (W : World), bs[k]? = some b → Below w.heap.size w W → Calls Try.prog 87 #[.pointer (some ⟨b, 0, none⟩), .pointer (some ⟨K, 0, none⟩)] W fun e w' => e = .returned (.bool (pr k)) ∧ Below W.heap.size W w') :
   Calls Try.prog 81 #[.slice A us.length c, .func (.func 87) #[] #[.pointer (some ⟨K, 0, none⟩)]] w fun e w' => e = .returned (.bool ((List.range us.length).any pr)) ∧ Below w.heap.size w w' := by
  have C1 := ixd_any us bs pr A c K w hm hu hx HC
  clear hx HC hu
  go_enter Try.func81, Try.ntmps81
  go_wp2_with (go_at_call 106; refine C1.mono ?_; clear C1; rintro e w1 ⟨⟨r, rfl, hr⟩, hb⟩; have HR := Lib.hid hr; clear hr)
  go_ret
  exact ⟨ret_bool (by rw [← HR.out]), hb⟩

section
variable {fs : List Nat} {t : Int} {H : Int → List Int}
/-- The blocks of the nodes hs. -/
def nxB (fs : List Nat) (hs : List Int) : List Nat := hs.map (fun y => fs.getD y.toNat 0)
theorem nxB_val (fs : List Nat) (hs : List Int) : nxV fs hs = (nxB fs hs).map ptrV := by unfold nxV nxB; simp
theorem nxB_at (hr : InR fs.length H) {i : Nat} (hi : i < fs.length) {k b : Nat} (hb : (nxB fs (H (i : Int)))[k]? = some b) : ∃ j : Nat, (H (i : Int))[k]? = some (j : Int) ∧ fs[j]? = some b := by
  unfold nxB at hb
  rw [List.getElem?_map] at hb
  cases hy : (H (i : Int))[k]? with
  | none => rw [hy] at hb; cases hb
  | some y =>
    rw [hy] at hb
    have := hr (i : Int) y (by omega) (by omega) (List.mem_of_getElem? hy)
    have hlt : y.toNat < fs.length := by omega
    refine ⟨y.toNat, by rw [show ((y.toNat : Nat) : Int) = y by omega], ?_⟩
    have e : fs.getD y.toNat 0 = b := Option.some.inj hb
    rw [← e, List.getD_eq_getElem?_getD, List.getElem?_eq_getElem hlt]
    rfl
theorem all_not_any (l : List Int) (q : Int → Bool) : (!l.any (fun y => !q y)) = l.all q := by
  induction l with
  | nil => rfl
  | cons a r ih => rw [List.any_cons, List.all_cons, ← ih]; cases q a <;> simp
theorem any_range (hs : List Int) (q : Int → Bool) : (List.range hs.length).any (fun k => match hs[k]? with | some y => q y | none => false) = hs.any q := by
  rw [Bool.eq_iff_iff, List.any_eq_true, List.any_eq_true]
  constructor
  · rintro ⟨k, hk, e⟩
    have hlt := List.mem_range.1 hk
    rw [List.getElem?_eq_getElem hlt] at e
    exact ⟨hs[k], List.getElem_mem hlt, e⟩
  · rintro ⟨y, hy, e⟩
    obtain ⟨k, hk, rfl⟩ := List.mem_iff_getElem.1 hy
    exact ⟨k, List.mem_range.2 hk, by rw [List.getElem?_eq_getElem hk]; exact e⟩
end

theorem runs1_any (b K : Nat) (jj : Int) (j : Nat) (v : Bool) (w : World) (hsub : jj - 1 = (j : Int)) (hj : j ≤ 1000) (hK : Box w K 3 #[.int .i64 jj])
    (C : Calls Try.prog 49 #[.pointer (some ⟨b, 0, none⟩), .int .i64 (j : Int)] w fun e w' => e = .returned (.bool v) ∧ Below w.heap.size w w') :
   Calls Try.prog 82 #[.pointer (some ⟨b, 0, none⟩), .pointer (some ⟨K, 0, none⟩)] w fun e w' => e = .returned (.bool v) ∧ Below w.heap.size w w' := by
  have z1 := hK.lt
  have e1 : w.cell? ⟨K, 0, none⟩ = some (.int .i64 jj) := hK.cell 0
  have hwp : IntKind.i64.wrap (j : Int) = (j : Int) := IntWalk.i64_in _ (by omega)
  clear hK
  go_enter Try.func82, Try.ntmps82
  go_wp2_with fail
  refine C.mono ?_
  clear C
  rintro e w1 ⟨rfl, hb⟩
  go_wp2_with fail
  go_ret
  exact ⟨rfl, hb⟩

theorem delivers1_any (b K : Nat) (jj : Int) (j : Nat) (v : Bool) (w : World) (hsub : jj - 1 = (j : Int)) (hj : j ≤ 1000) (hK : Box w K 3 #[.int .i64 jj])
    (C : Calls Try.prog 62 #[.pointer (some ⟨b, 0, none⟩), .int .i64 (j : Int)] w fun e w' => e = .returned (.bool v) ∧ Below w.heap.size w w') :
   Calls Try.prog 87 #[.pointer (some ⟨b, 0, none⟩), .pointer (some ⟨K, 0, none⟩)] w fun e w' => e = .returned (.bool (!v)) ∧ Below w.heap.size w w' := by
  have z1 := hK.lt
  have e1 : w.cell? ⟨K, 0, none⟩ = some (.int .i64 jj) := hK.cell 0
  have hwp : IntKind.i64.wrap (j : Int) = (j : Int) := IntWalk.i64_in _ (by omega)
  clear hK
  go_enter Try.func87, Try.ntmps87
  go_wp2_with fail
  refine C.mono ?_
  clear C
  rintro e w1 ⟨rfl, hb⟩
  go_wp2_with fail
  go_ret
  exact ⟨rfl, hb⟩

set_option maxRecDepth 100000 in
set_option maxHeartbeats 800000 in
theorem runs_zero (b : Nat) (w : World) : Calls Try.prog 49 #[.pointer (some ⟨b, 0, none⟩), .int .i64 0] w fun e w' => e = .returned (.bool true) ∧ Below w.heap.size w w' := by
  go_enter Try.func49, Try.ntmps49
  go_wp2_with fail
  go_ret
  exact ⟨rfl, by (repeat (first | exact Below.refl _ _ | (refine Below.alloc ?_ (by first | exact Nat.le_refl _ | omega | (simp; done) | (simp; omega)) _) | (refine Below.setCell ?_ (by first | exact Nat.le_refl _ | omega | (simp; done) | (simp; omega)) _) | exact Below.drew ‹_›))⟩
set_option maxRecDepth 100000 in
set_option maxHeartbeats 800000 in
theorem runs_step (b base : Nat) (fs : List Nat) (gl : Bool) (hs : List Int) (jj : Int) (j : Nat) (pr : Nat → Bool) (w : World) (hsub : jj - 1 = (j : Int)) (hj : j ≤ 1000) (h8 : hs.length ≤ 8) (hN : FNode w base b fs gl hs)
   (IH : ∀ (k b' : Nat) (W : World), (nxB fs hs)[k]? = some b' → Below w.heap.size w W → Calls Try.prog 49 #[.pointer (some ⟨b', 0, none⟩), .int .i64 (j : Int)] W fun e w' => e = .returned (.bool (pr k)) ∧ Below W.heap.size W w') :
   Calls Try.prog 49 #[.pointer (some ⟨b, 0, none⟩), .int .i64 jj] w fun e w' => e = .returned (.bool ((List.range hs.length).any pr)) ∧ Below w.heap.size w w' := by
  obtain ⟨v, hbx, hrow⟩ := hN
  obtain ⟨A, c, rfl, hlen, hP⟩ := own_rowP hrow
  obtain ⟨z1, e10, e11, -, -⟩ := hbx.two
  have B0 : Below w.heap.size w (w.alloc (.cells #[.int .i64 jj] 3)) := by (repeat (first | exact Below.refl _ _ | (refine Below.alloc ?_ (by first | exact Nat.le_refl _ | omega | (simp; done) | (simp; omega)) _) | (refine Below.setCell ?_ (by first | exact Nat.le_refl _ | omega | (simp; done) | (simp; omega)) _) | exact Below.drew ‹_›))
  have K0 := Box.new w 3 #[.int .i64 jj]
  have hne : (jj == 0) = false := beq_eq_false_iff_ne.2 (by omega)
  have CF := cfr_any (nxV fs hs) (nxB fs hs) pr A c w.heap.size (w.alloc (.cells #[.int .i64 jj] 3)) (by omega) (nxB_val fs hs) (hP.below B0) (fun k b' W hb' hbW => runs1_any b' w.heap.size jj j (pr k) W hsub hj (K0.below hbW K0.lt) (IH k b' W hb' (B0.trans (hbW.mono B0.size))))
  rw [hlen] at CF
  have HB := Lib.hid B0
  clear IH hP hrow hbx K0 B0
  go_enter Try.func49, Try.ntmps49
  go_wp2_with fail
  refine CF.mono ?_
  clear CF
  rintro e w1 ⟨rfl, hb⟩
  have B1 := Lib.hid (HB.out.trans (hb.mono HB.out.size))
  clear hb
  go_wp2_with fail
  go_ret
  exact ⟨rfl, B1.out⟩
theorem runs_any (base : Nat) (fs : List Nat) (t : Int) (H : Int → List Int) (hr : InR fs.length H) (h8 : ∀ y, (H y).length ≤ 8) : ∀ (j i b : Nat) (w : World), j ≤ 1000 → fs[i]? = some b → FNet w base fs t H →
   Calls Try.prog 49 #[.pointer (some ⟨b, 0, none⟩), .int .i64 (j : Int)] w fun e w' => e = .returned (.bool (walkB H j (i : Int))) ∧ Below w.heap.size w w'
  | 0, i, b, w, _, _, _ => runs_zero b w
  | j + 1, i, b, w, hj, hi, hN => by
    have hil := (List.getElem?_eq_some_iff.1 hi).1
    have := runs_step b base fs (decide ((i : Int) = t)) (H (i : Int)) ((j + 1 : Nat) : Int) j (fun k => match (H (i : Int))[k]? with | some y => walkB H j y | none => false) w (by omega) (by omega) (h8 _) (hN i b hi) (fun k b' W hb' hbW => by
      obtain ⟨m, e, hm⟩ := nxB_at hr hil hb'
      rw [e]
      exact runs_any base fs t H hr h8 j m b' W (by omega) hm (hN.below hbW))
    rw [any_range] at this
    exact this

set_option maxRecDepth 100000 in
set_option maxHeartbeats 800000 in
theorem delivers_zero (b base : Nat) (fs : List Nat) (gl : Bool) (hs : List Int) (w : World) (hN : FNode w base b fs gl hs) : Calls Try.prog 62 #[.pointer (some ⟨b, 0, none⟩), .int .i64 0] w fun e w' => e = .returned (.bool gl) ∧ Below w.heap.size w w' := by
  obtain ⟨v, hbx, hrow⟩ := hN
  obtain ⟨z1, e10, e11, -, -⟩ := hbx.two
  clear hbx hrow
  go_enter Try.func62, Try.ntmps62
  go_wp2_with fail
  go_ret
  exact ⟨rfl, by (repeat (first | exact Below.refl _ _ | (refine Below.alloc ?_ (by first | exact Nat.le_refl _ | omega | (simp; done) | (simp; omega)) _) | (refine Below.setCell ?_ (by first | exact Nat.le_refl _ | omega | (simp; done) | (simp; omega)) _) | exact Below.drew ‹_›))⟩
set_option maxRecDepth 100000 in
set_option maxHeartbeats 800000 in
theorem delivers_none (b base : Nat) (fs : List Nat) (gl : Bool) (jj : Int) (w : World) (h1 : 1 ≤ jj) (hN : FNode w base b fs gl []) : Calls Try.prog 62 #[.pointer (some ⟨b, 0, none⟩), .int .i64 jj] w fun e w' => e = .returned (.bool gl) ∧ Below w.heap.size w w' := by
  obtain ⟨v, hbx, hrow⟩ := hN
  obtain ⟨A, c, rfl, -, -⟩ := own_rowP hrow
  obtain ⟨z1, e10, e11, -, -⟩ := hbx.two
  have hne : (jj == 0) = false := beq_eq_false_iff_ne.2 (by omega)
  rw [List.length_nil] at e11
  clear hbx hrow
  go_enter Try.func62, Try.ntmps62
  go_wp2_with fail
  go_ret
  exact ⟨rfl, by (repeat (first | exact Below.refl _ _ | (refine Below.alloc ?_ (by first | exact Nat.le_refl _ | omega | (simp; done) | (simp; omega)) _) | (refine Below.setCell ?_ (by first | exact Nat.le_refl _ | omega | (simp; done) | (simp; omega)) _) | exact Below.drew ‹_›))⟩
set_option maxRecDepth 100000 in
set_option maxHeartbeats 800000 in
theorem delivers_step (b base : Nat) (fs : List Nat) (gl : Bool) (hs : List Int) (jj : Int) (j : Nat) (pr : Nat → Bool) (w : World) (hsub : jj - 1 = (j : Int)) (hj : j ≤ 1000) (h0 : 0 < hs.length) (h8 : hs.length ≤ 8) (hN : FNode w base b fs gl hs)
   (IH : ∀ (k b' : Nat) (W : World), (nxB fs hs)[k]? = some b' → Below w.heap.size w W → Calls Try.prog 62 #[.pointer (some ⟨b', 0, none⟩), .int .i64 (j : Int)] W fun e w' => e = .returned (.bool (pr k)) ∧ Below W.heap.size W w') :
   Calls Try.prog 62 #[.pointer (some ⟨b, 0, none⟩), .int .i64 jj] w fun e w' => e = .returned (.bool (!(List.range hs.length).any (fun k => !pr k))) ∧ Below w.heap.size w w' := by
  obtain ⟨v, hbx, hrow⟩ := hN
  obtain ⟨A, c, rfl, hlen, hP⟩ := own_rowP hrow
  obtain ⟨z1, e10, e11, -, -⟩ := hbx.two
  have B0 : Below w.heap.size w (w.alloc (.cells #[.int .i64 jj] 3)) := by (repeat (first | exact Below.refl _ _ | (refine Below.alloc ?_ (by first | exact Nat.le_refl _ | omega | (simp; done) | (simp; omega)) _) | (refine Below.setCell ?_ (by first | exact Nat.le_refl _ | omega | (simp; done) | (simp; omega)) _) | exact Below.drew ‹_›))
  have K0 := Box.new w 3 #[.int .i64 jj]
  have hne : (jj == 0) = false := beq_eq_false_iff_ne.2 (by omega)
  have hn0 : ((hs.length : Int) == 0) = false := beq_eq_false_iff_ne.2 (by omega)
  have CF := cfd_any (nxV fs hs) (nxB fs hs) (fun k => !pr k) A c w.heap.size (w.alloc (.cells #[.int .i64 jj] 3)) (by omega) (nxB_val fs hs) (hP.below B0) (fun k b' W hb' hbW => delivers1_any b' w.heap.size jj j (pr k) W hsub hj (K0.below hbW K0.lt) (IH k b' W hb' (B0.trans (hbW.mono B0.size))))
  rw [hlen] at CF
  have HB := Lib.hid B0
  clear IH hP hrow hbx K0 B0
  go_enter Try.func62, Try.ntmps62
  go_wp2_with fail
  refine CF.mono ?_
  clear CF
  rintro e w1 ⟨rfl, hb⟩
  have B1 := Lib.hid (HB.out.trans (hb.mono HB.out.size))
  clear hb
  go_wp2_with fail
  go_ret
  exact ⟨rfl, B1.out⟩
theorem delivers_any (base : Nat) (fs : List Nat) (t : Int) (H : Int → List Int) (hr : InR fs.length H) (h8 : ∀ y, (H y).length ≤ 8) : ∀ (j i b : Nat) (w : World), j ≤ 1000 → fs[i]? = some b → FNet w base fs t H →
   Calls Try.prog 62 #[.pointer (some ⟨b, 0, none⟩), .int .i64 (j : Int)] w fun e w' => e = .returned (.bool (dlvB H t j (i : Int))) ∧ Below w.heap.size w w'
  | 0, i, b, w, _, hi, hN => delivers_zero b base fs (decide ((i : Int) = t)) (H (i : Int)) w (hN i b hi)
  | j + 1, i, b, w, hj, hi, hN => by
    have hil := (List.getElem?_eq_some_iff.1 hi).1
    have hd : dlvB H t (j + 1) (i : Int) = if (H (i : Int)).isEmpty then decide ((i : Int) = t) else (H (i : Int)).all (dlvB H t j) := rfl
    cases hH : H (i : Int) with
    | nil =>
      rw [hd, hH, if_pos (show ([] : List Int).isEmpty = true from rfl)]
      have := hN i b hi
      rw [hH] at this
      exact delivers_none b base fs (decide ((i : Int) = t)) ((j + 1 : Nat) : Int) w (by omega) this
    | cons y0 r =>
      have h0 : 0 < (H (i : Int)).length := by rw [hH]; simp
      have := delivers_step b base fs (decide ((i : Int) = t)) (H (i : Int)) ((j + 1 : Nat) : Int) j (fun k => match (H (i : Int))[k]? with | some y => dlvB H t j y | none => true) w (by omega) (by omega) h0 (h8 _) (hN i b hi) (fun k b' W hb' hbW => by
        obtain ⟨m, e, hm⟩ := nxB_at hr hil hb'
        rw [e]
        exact delivers_any base fs t H hr h8 j m b' W (by omega) hm (hN.below hbW))
      have he : (!(List.range (H (i : Int)).length).any (fun k => !(match (H (i : Int))[k]? with | some y => dlvB H t j y | none => true))) = (H (i : Int)).all (dlvB H t j) := by
        rw [← all_not_any, ← any_range]
        congr 2
        funext k
        cases (H (i : Int))[k]? <;> rfl
      rw [he] at this
      rw [hd, if_neg (by rw [hH]; simp)]
      exact this
end Go.Proofs.Ytkcnbgimdiggoab

/-
  Contracts over this seat: the program's nodes with pointers to their next hops are laid.
-/
namespace Go.Proofs.Ytkcnbgimdiggoab
open Go.RowKit Go.Maps

theorem infoFw : (Try.prog.info? 63).map (fun i => (i.zero, i.size, i.bytes)) = some (some (.pointer none), 1, 8) := by kernel_rfl

section
variable {w W : World} {gv : Array Value} {t : Int} {v : Value} {fs : List Nat}
/-- Forwarders without next hops, behind one another. -/
structure FB (w : World) (gv : Array Value) (t : Int) (v : Value) (fs : List Nat) (W : World) : Prop where
  row : W.ownsRow (w.heap.size + 1) 63 1 v fs.length (fs.map ptrV)
  bel : Below w.heap.size w W
  box : Box W w.heap.size 25 gv
  asc : fs.Pairwise (· < ·)
  nds : ∀ (i b : Nat), fs[i]? = some b → w.heap.size < b ∧ Box W b 100 #[.bool (decide ((i : Int) = t)), .slice none 0 0]
theorem FB.push (h : FB w gv t v fs W) {v' : Value} {W' : World} {d : Bool} (hd : d = decide (((fs.length : Nat) : Int) = t))
    (hown : W'.ownsRow (w.heap.size + 1) 63 1 v' (fs.length + 1) (fs.map ptrV ++ [ptrV W.heap.size])) (hg : ((W.alloc (.cells #[.bool d, .slice none 0 0] 100)).alloc (.cells #[ptrV W.heap.size] 63)).grownBy W' v.ownBlock) :
    FB w gv t v' (fs ++ [W.heap.size]) W' := by
  have hl := h.row.lt
  have zb := h.box.lt
  have hN := (Box.new W 100 #[.bool d, .slice none 0 0]).alloc (.cells #[ptrV W.heap.size] 63)
  refine ⟨by rw [List.length_append, List.map_append]; exact hown, ?_, ?_, ?_, fun i b hb => ?_⟩
  · exact ((h.bel.alloc (by omega) _).alloc (by simp; omega) _).grown hg (by simp; omega) (fun j e => by have := (hl j e).1; omega)
  · exact (hg.block _ (by simp; omega) (fun e => by have := (hl _ e.symm).1; omega)).trans ((h.box.alloc _).alloc _)
  · rw [List.pairwise_append]
    refine ⟨h.asc, List.pairwise_singleton _ _, fun a ha b hb => ?_⟩
    rw [List.mem_singleton.1 hb]
    obtain ⟨i, hi⟩ := List.getElem?_of_mem ha
    exact (h.nds i a hi).2.lt
  · rcases Nat.lt_or_ge i fs.length with hlt | hge
    · rw [List.getElem?_append_left hlt] at hb
      obtain ⟨h1, h2⟩ := h.nds i b hb
      refine ⟨h1, (hg.block b (by have := h2.lt; simp; omega) (fun e => ?_)).trans ((h2.alloc _).alloc _)⟩
      exact own_box_ne h.row h2 (by decide) e.symm
    · rw [List.getElem?_append_right hge] at hb
      have hi : i = fs.length := by
        have := (List.getElem?_eq_some_iff.1 hb).1
        simp at this
        omega
      subst hi
      rw [Nat.sub_self] at hb
      cases hb
      refine ⟨zb, (hg.block _ (by simp; omega) (fun e => by have := (hl _ e.symm).2; omega)).trans ?_⟩
      rw [← hd]
      exact hN
/-- The first i have got their next hops. -/
structure FD (w : World) (gv : Array Value) (t : Int) (v : Value) (fs : List Nat) (H : Int → List Int) (i : Nat) (W : World) : Prop where
  row : W.ownsRow (w.heap.size + 1) 63 1 v fs.length (fs.map ptrV)
  bel : Below w.heap.size w W
  box : Box W w.heap.size 25 gv
  asc : fs.Pairwise (· < ·)
  don : ∀ (j b : Nat), fs[j]? = some b → j < i → w.heap.size < b ∧ FNode W (w.heap.size + 1) b fs (decide ((j : Int) = t)) (H (j : Int))
  tod : ∀ (j b : Nat), fs[j]? = some b → i ≤ j → w.heap.size < b ∧ Box W b 100 #[.bool (decide ((j : Int) = t)), .slice none 0 0]
theorem FB.start (h : FB w gv t v fs W) (H : Int → List Int) : FD w gv t v fs H 0 W := ⟨h.row, h.bel, h.box, h.asc, fun _ _ _ h => absurd h (Nat.not_lt_zero _), fun j b hb _ => h.nds j b hb⟩
theorem FD.call {H : Int → List Int} {i : Nat} {W' : World} (h : FD w gv t v fs H i W) (hb : Below W.heap.size W W') : FD w gv t v fs H i W' :=
  ⟨owns_kept h.row hb, h.bel.trans (hb.mono h.bel.size), h.box.below hb h.box.lt, h.asc, fun j b hj hi => ⟨(h.don j b hj hi).1, (h.don j b hj hi).2.below hb⟩, fun j b hj hi => ⟨(h.tod j b hj hi).1, (h.tod j b hj hi).2.below hb (h.tod j b hj hi).2.lt⟩⟩
/-- The forwarder in block b gets its next hops; all that lay ahead of S but that block is as it was. -/
structure FI (W2 : World) (S b : Nat) (fs : List Nat) (d : Bool) (hs : List Int) (W : World) : Prop where
  kx : Kx (fun k => k = b) W2 W
  nd : ∃ u, Box W b 100 #[.bool d, u] ∧ W.ownsRow S 63 1 u hs.length (nxV fs hs)
theorem FI.start {W2 : World} {b : Nat} {d : Bool} (h : Box W2 b 100 #[.bool d, .slice none 0 0]) : FI W2 W2.heap.size b fs d [] W2 :=
  ⟨Kx.refl _ _, _, h, ⟨rfl, .inl ⟨rfl, rfl⟩⟩⟩
theorem FI.push {W2 : World} {S b : Nat} {d : Bool} {hs : List Int} {y : Int} {c : Nat} {u : Value} {g8 c8 k : Nat} {W8 : World} {o : Obj} (hk : hs.length = k) (h : FI W2 S b fs d hs W) (hS : S ≤ W2.heap.size) (hS' : W2.heap.size ≤ S) (hb : b < S) (hfc : fs.getD y.toNat 0 = c) (hu : Box W b 100 #[.bool d, u]) (hr : W.ownsRow S 63 1 u k (nxV fs hs))
    (hown : W8.ownsRow S 63 1 (.slice (some ⟨g8, 0, none⟩) (k + 1) c8) (k + 1) (nxV fs hs ++ [ptrV c])) (hg : (W.alloc o).grownBy W8 u.ownBlock) :
    FI W2 S b fs d (hs ++ [y]) (W8.setCell ⟨b, 1, none⟩ (.slice (some ⟨g8, 0, none⟩) (k + 1) c8)) := by
  subst hk
  have hz := h.kx.size
  have hl := hr.lt
  have hbx8 : Box W8 b 100 #[.bool d, u] := (hg.block b (by simp; omega) (fun e => by have := (hl _ e.symm).1; omega)).trans (hu.alloc _)
  refine ⟨?_, .slice (some ⟨g8, 0, none⟩) (hs.length + 1) c8, ?_, ?_⟩
  · refine Kx.setCell (X := fun k => k = b) (p := ⟨b, 1, none⟩) ⟨hg.os.trans h.kx.os, hg.tape.trans h.kx.tape, hg.output.trans h.kx.output, Nat.le_trans hz (Nat.le_trans (by simp) hg.size), fun j hj hxj => ?_⟩ rfl _
    exact (hg.block j (by simp; omega) (fun e => by have := (hl _ e.symm).1; omega)).trans ((Below.heap_alloc W o j (by omega)).trans (h.kx.block j hj hxj))
  · have := heap_set (show W8.heap[b]? = _ from hbx8) 1 (.slice (some ⟨g8, 0, none⟩) (hs.length + 1) c8)
    unfold Box
    simpa using this
  · rw [List.length_append]
    have he : nxV fs (hs ++ [y]) = nxV fs hs ++ [ptrV c] := by
      unfold nxV
      rw [List.map_append, ← hfc]
      rfl
    rw [he]
    exact ownsRow_setCell_below hown (a := ⟨b, 1, none⟩) hb _
theorem FD.next {H : Int → List Int} {i b : Nat} {W' : World} (h : FD w gv t v fs H i W) (hi : fs[i]? = some b) (hf : FI W W.heap.size b fs (decide ((i : Int) = t)) (H (i : Int)) W') : FD w gv t v fs H (i + 1) W' := by
  obtain ⟨hb, hbx⟩ := h.tod i b hi (Nat.le_refl _)
  have hw := h.bel.size
  have hne : ∀ {j c : Nat}, fs[j]? = some c → j ≠ i → c ≠ b := fun {j c} hj hji e => by
    subst e
    have h1 := (List.getElem?_eq_some_iff.1 hj)
    have h2 := (List.getElem?_eq_some_iff.1 hi)
    obtain ⟨l1, e1⟩ := h1
    obtain ⟨l2, e2⟩ := h2
    have hp := List.pairwise_iff_getElem.1 h.asc
    rcases Nat.lt_or_gt_of_ne hji with hlt | hlt
    · have := hp j i l1 l2 hlt
      omega
    · have := hp i j l2 l1 hlt
      omega
  have hrow : ∀ {n : Nat} {u : Value} {us : List Value}, W.ownsRow (w.heap.size + 1) 63 1 u n us → W'.ownsRow (w.heap.size + 1) 63 1 u n us := fun {n u us} hr => by
    refine hr.kept (w' := W') (row := some b) ⟨hf.kx.os, hf.kx.tape, hf.kx.output, hf.kx.size, fun k hk hkb => hf.kx.block k hk (fun e => hkb (by rw [e]))⟩ ?_
    by_cases h0 : u.ownBlock = none
    · exact .inl h0
    · exact .inr (own_box_ne hr hbx (by decide))
  refine ⟨hrow h.row, h.bel.trans (hf.kx.below hw (fun k e => by subst e; exact Nat.le_of_lt hb)), hf.kx.box h.box (fun e => by have e : w.heap.size = b := e; omega), h.asc, fun j c hj hji => ?_, fun j c hj hji => ?_⟩
  · by_cases e : j = i
    · subst e
      rw [hi] at hj
      cases hj
      obtain ⟨u, h1, h2⟩ := hf.nd
      have := h.box.lt
      exact ⟨hb, u, h1, h2.mono (by omega)⟩
    · obtain ⟨h1, u, h2, h3⟩ := h.don j c hj (by omega)
      exact ⟨h1, u, hf.kx.box h2 (hne hj e), hrow h3⟩
  · obtain ⟨h1, h2⟩ := h.tod j c hj (by omega)
    exact ⟨h1, hf.kx.box h2 (hne hj (by omega))⟩
theorem FD.net {H : Int → List Int} (h : FD w gv t v fs H fs.length W) : FNet W (w.heap.size + 1) fs t H := fun i b hi => (h.don i b hi (List.getElem?_eq_some_iff.1 hi).1).2
end

/-- What forwarders leaves. -/
def FwdR (nn : Int) (ls : List Lk) (x t : Int) (ch : List Int) (w : World) (e : Ending) (w' : World) : Prop :=
  ∃ A c fs, e = .returned (.slice A fs.length c) ∧ w'.ownsRow (w.heap.size + 1) 63 1 (.slice A fs.length c) fs.length (fs.map ptrV) ∧ FNet w' (w.heap.size + 1) fs t (mixA nn ls x t ch) ∧ Below w.heap.size w w' ∧ fs.length = (if vwB nn ls [t] && idxB ls x then nn.toNat else 0)
theorem new1v (w : World) (x : Value) (t : TypeId) : ∀ (j : Nat) (u : Value), [x][j]? = some u → (w.alloc (.cells #[x] t)).cell? ((⟨w.heap.size, 0, none⟩ : Addr).add j) = some u := fun j u h => by
  obtain rfl : j = 0 := (by have := (List.getElem?_eq_some_iff.1 h).1; simpa using this)
  cases h
  exact (Box.new w t #[x]).cell 0
theorem FI.rows {W2 W : World} {S b : Nat} {fs : List Nat} {d : Bool} {hs : List Int} {cs : Array Value} (h : FI W2 S b fs d hs W) (hbx : Box W2 b 100 cs) {base n : Nat} {u : Value} {us : List Value} (hr : W2.ownsRow base 63 1 u n us) : W.ownsRow base 63 1 u n us := by
  refine hr.kept (w' := W) (row := some b) ⟨h.kx.os, h.kx.tape, h.kx.output, h.kx.size, fun k hk hkb => h.kx.block k hk (fun e => hkb (by rw [e]))⟩ ?_
  by_cases h0 : u.ownBlock = none
  · exact .inl h0
  · exact .inr (own_box_ne hr hbx (by decide))

theorem box_push {W W8 : World} {b t2 e base size n : Nat} {u : Value} {cs : Array Value} {us : List Value} {o : Obj} (hb : Box W b t2 cs) (hr : W.ownsRow base e size u n us) (hl : b < base) (hg : (W.alloc o).grownBy W8 u.ownBlock) : Box W8 b t2 cs :=
  (hg.block b (by have := hb.lt; simp; omega) (fun e => by have := (hr.lt _ e.symm).1; omega)).trans (hb.alloc o)
set_option maxRecDepth 100000 in
set_option maxHeartbeats 3200000 in
theorem forwarders_any (nn : Int) (A : Option Addr) (ls : List Lk) (c : Nat) (x t : Int) (B : Option Addr) (ch : List Int) (cb : Nat) (w : World) (hm : ls.length ≤ 2000000) (hA : 0 < ls.length → ∃ g, A = some ⟨g, 0, none⟩) (hmb : ch.length ≤ 2000000) (hS : Sl w w.heap.size A ls) (hB : Sli w w.heap.size B ch) :
   Calls Try.prog 80 #[gval nn A ls.length c, .int .i64 x, .int .i64 t, .slice B ch.length cb] w (FwdR nn ls x t ch w) := by
  obtain ⟨i0, hi, hz0, hz1, hz2⟩ := info_parts infoFw
  have B0 : Below w.heap.size w (((w.alloc (.cells #[.int .i64 nn, .slice A ls.length c] 25)).alloc (.cells #[] 63)).alloc (.cells #[.int .i64 t] 3)) := by (repeat (first | exact Below.refl _ _ | (refine Below.alloc ?_ (by first | exact Nat.le_refl _ | omega | (simp; done) | (simp; omega)) _) | (refine Below.setCell ?_ (by first | exact Nat.le_refl _ | omega | (simp; done) | (simp; omega)) _) | exact Below.drew ‹_›))
  have G0 := ((Box.new w 25 #[.int .i64 nn, .slice A ls.length c]).alloc (.cells #[] 63)).alloc (.cells #[.int .i64 t] 3)
  have E0 := (Box.new (w.alloc (.cells #[.int .i64 nn, .slice A ls.length c] 25)) 63 #[]).alloc (.cells #[.int .i64 t] 3)
  have T0 := Box.new ((w.alloc (.cells #[.int .i64 nn, .slice A ls.length c] 25)).alloc (.cells #[] 63)) 3 #[.int .i64 t]
  simp only [World.size_alloc] at E0 T0
  have C1 := vw_any nn A ls c (some ⟨w.heap.size + 1 + 1, 0, none⟩) [t] 1 _ hm (by simp) ((hS.below B0).more B0.size) (own_list (by simpa using T0)).sli
  have HS := Lib.hid hS
  have HBB := Lib.hid hB
  have HB0 := Lib.hid B0
  have HG0 := Lib.hid G0
  have HE0 := Lib.hid E0
  have C2 := fun W => hasLink_any nn A ls.length c x W hm
  rw [idx_in] at C2
  have z2 : w.heap.size + 1 + 1 < (((w.alloc (.cells #[.int .i64 nn, .slice A ls.length c] 25)).alloc (.cells #[] 63)).alloc (.cells #[.int .i64 t] 3)).heap.size := T0.lt
  clear hS hB B0 G0 E0 T0
  unfold FwdR
  cases hv : vwB nn ls [t] with
  | false =>
    rw [hv] at C1
    clear hv C2 z2
    go_enter Try.func80, Try.ntmps80
    go_wp2_with fail
    refine C1.mono ?_
    clear C1
    rintro e w1 ⟨rfl, hb1⟩
    have B1 := Lib.hid (HB0.out.trans (hb1.mono HB0.out.size))
    have E1 := Lib.hid (HE0.out.below hb1 HE0.out.lt)
    clear hb1
    go_wp2_with fail
    go_ret
    exact ⟨some ⟨w.heap.size + 1, 0, none⟩, 0, [], rfl, ⟨rfl, .inr ⟨w.heap.size + 1, 0, #[], rfl, Nat.le_refl _, E1.out, Nat.le_refl _, by omega, rfl, rfl⟩⟩, fun i b h => by simp at h, B1.out, rfl⟩
  | true =>
    rw [hv] at C1
    obtain ⟨hg, ht⟩ := vwB_single.1 hv
    have hn8 := (gvB_fit hg).2.2.1
    obtain ⟨n, rfl⟩ : ∃ n : Nat, nn = (n : Int) := ⟨nn.toNat, by have := (gvB_fit hg).2.1; omega⟩
    cases hx : idxB ls x with
    | false =>
      rw [hx] at C2
      clear hv hx hg ht
      go_enter Try.func80, Try.ntmps80
      go_wp2_with fail
      refine C1.mono ?_
      clear C1
      rintro e w1 ⟨rfl, hb1⟩
      have B1 := Lib.hid (HB0.out.trans (hb1.mono HB0.out.size))
      obtain ⟨zg, g0, g1, -, -⟩ := (HG0.out.below hb1 HG0.out.lt).two
      have E1 := Lib.hid (HE0.out.below hb1 HE0.out.lt)
      clear hb1
      go_wp2_with fail
      refine (C2 _).mono ?_
      clear C2
      rintro e w2 ⟨rfl, hb2⟩
      have B2 := Lib.hid (B1.out.trans (hb2.mono B1.out.size))
      have E2 := Lib.hid (E1.out.below hb2 E1.out.lt)
      clear hb2 zg g0 g1
      go_wp2_with fail
      go_ret
      exact ⟨some ⟨w.heap.size + 1, 0, none⟩, 0, [], rfl, ⟨rfl, .inr ⟨w.heap.size + 1, 0, #[], rfl, Nat.le_refl _, E2.out, Nat.le_refl _, by omega, rfl, rfl⟩⟩, fun i b h => by simp at h, B2.out, rfl⟩
    | true =>
      rw [hx] at C2
      have HIR := Lib.hid (mix_range (k := x.toNat) (ch := ch) hg ht)
      have HMA : Hid (∀ i : Nat, i < n → ∀ y ∈ mixA (n : Int) ls x t ch (i : Int), 0 ≤ y ∧ y < (n : Int)) := Lib.hid (fun i hi y hy => by
        unfold mixA at hy
        split at hy
        · exact mix_range (k := x.toNat) (ch := ch) hg ht (i : Int) y (by omega) (by omega) hy
        · simp at hy)
      have CM := fun (y : Int) W h h' => mixHops_impl (n : Int) A ls c x t B ch cb y W hm hA hmb h h'
      have H8 := fun y => mixA_few (n : Int) ls x t ch y
      generalize hH : mixA (n : Int) ls x t ch = H at *
      clear hv hx hg ht hH hA
      go_enter Try.func80, Try.ntmps80
      go_wp2_with fail
      refine C1.mono ?_
      clear C1
      rintro e w1 ⟨rfl, hb1⟩
      have B1 := Lib.hid (HB0.out.trans (hb1.mono HB0.out.size))
      have K1 := Lib.hid (HG0.out.below hb1 HG0.out.lt)
      have E1 := Lib.hid (HE0.out.below hb1 HE0.out.lt)
      obtain ⟨zg, g0, g1, -, -⟩ := K1.out.two
      clear hb1 HG0 HE0 HB0
      go_wp2_with fail
      refine (C2 _).mono ?_
      clear C2
      rintro e w2 ⟨rfl, hb2⟩
      have E2 := E1.out.below hb2 E1.out.lt
      have P2 := Lib.hid (show FB w #[.int .i64 (n : Int), .slice A ls.length c] t (.slice (some ⟨w.heap.size + 1, 0, none⟩) 0 0) [] w2 from
        ⟨⟨rfl, .inr ⟨w.heap.size + 1, 0, #[], rfl, Nat.le_refl _, E2, Nat.le_refl _, by omega, rfl, rfl⟩⟩, B1.out.trans (hb2.mono B1.out.size), K1.out.below hb2 K1.out.lt, List.Pairwise.nil, fun i b h => by simp at h⟩)
      clear hb2 zg g0 g1 K1 E1 B1 E2
      obtain ⟨zg, g0, g1, -, -⟩ := P2.out.box.two
      go_wp2_with fail
      go_loopw [9, 30] (fun v i wr => ∃ fs : List Nat, fs.length ≤ n ∧ i = .int .i64 (fs.length : Int) ∧ Hid (FB w #[.int .i64 (n : Int), .slice A ls.length c] t v fs wr)) (fun _ i _ => n - (intOf i).toNat)
      case atStart => exact ⟨[], Nat.zero_le _, rfl, P2⟩
      case round =>
        obtain ⟨fs, hk, rfl, P3⟩ := hrel
        clear P2 zg g0 g1
        obtain ⟨A9, c9, rfl, -, -⟩ := own_rowP P3.out.row
        by_cases hlt : fs.length < n
        · have hlti : (fs.length : Int) < (n : Int) := by omega
          have z3 := P3.out.box.lt
          go_wp2_with (at_builtin; refine wpList_append_own_at _ rfl _ _ 96 rfl (w.heap.size + 1) 63 i0 _ 1 8 Try.underlying96 hi hz0 hz1 hz2 rfl (by decide) _ fs.length (fs.map ptrV) rfl ((P3.out.row.alloc _).alloc _) ⟨wr.heap.size + 1, 0, none⟩ 1 1 [ptrV wr.heap.size] rfl rfl (by have := new1v (wr.alloc (.cells #[.bool ((fs.length : Int) == t), .slice none 0 0] 100)) (ptrV wr.heap.size) 63; rwa [World.size_alloc] at this) (fun u hu => by simp at hu; subst hu; rfl) (by unfold maxLen; omega) (by omega) (by simp; omega) ?_; intro v' w4 hown' hgrow _ hat; have P4 := Lib.hid (P3.out.push (by rfl) hown' hgrow); clear hown' hgrow hat)
          go_roundw
          case rel => exact ⟨fs ++ [wr.heap.size], by simp; omega, by simp, P4⟩
          case measure => simp [intOf]; omega
        · have hfl : fs.length = n := by omega
          have HFL := Lib.hid hfl
          have hf8 : fs.length ≤ 8 := by omega
          have hge : ¬ ((fs.length : Int) < (n : Int)) := by omega
          clear hfl
          have Q3 := Lib.hid (P3.out.start H)
          clear hlt
          go_wp2_with fail
          go_loopw [44] (fun i wr => ∃ k : Nat, k ≤ fs.length ∧ i = .int .i64 (k : Int) ∧ Hid (FD w #[.int .i64 (n : Int), .slice A ls.length c] t (.slice A9 fs.length c9) fs H k wr)) (fun i _ => fs.length - (intOf i).toNat)
          case atStart => exact ⟨0, Nat.zero_le _, rfl, Q3⟩
          case round =>
            obtain ⟨k, hk, rfl, Q4⟩ := hrel
            clear Q3 P3
            by_cases hlt : k < fs.length
            · obtain ⟨b, hb⟩ : ∃ b, fs[k]? = some b := ⟨_, List.getElem?_eq_getElem hlt⟩
              obtain ⟨A4, c4, e4, -, hP⟩ := own_rowP Q4.out.row
              cases e4
              obtain ⟨g4, rfl, zg4, cb4⟩ := hP k (ptrV b) (by rw [List.getElem?_map, hb]; rfl)
              obtain ⟨zg, g0, g1, -, -⟩ := Q4.out.box.two
              have C3 := CM (k : Int) wr ((HS.out.below Q4.out.bel).more Q4.out.bel.size) ((HBB.out.below Q4.out.bel).more Q4.out.bel.size)
              have HBK := Lib.hid hb
              have hh8 := H8 (k : Int)
              have HHR := Lib.hid (HMA.out k (by have := HFL.out; omega))
              clear hP hb
              go_wp2_with fail
              refine C3.mono ?_
              clear C3
              rintro e w5 ⟨A5, g5, c5, rfl, hg5, ho5, hb5⟩
              have Q5 := Lib.hid (Q4.out.call hb5)
              obtain ⟨hbw, hbx⟩ := Q5.out.tod k b HBK.out (Nat.le_refl _)
              have X5 := Lib.hid hbx
              have F5 := Lib.hid (FI.start (fs := fs) hbx)
              have O5 := Lib.hid ho5
              have hbl := hbx.lt
              have hbb5 : b < wr.heap.size := (Q4.out.tod k b HBK.out (Nat.le_refl _)).2.lt
              clear hb5 ho5 hbx Q4 zg g0 g1 zg4 cb4
              generalize hHk : H (k : Int) = hs at *
              have HHK := Lib.hid hHk
              clear hHk
              generalize hS5 : w5.heap.size = S5 at *
              go_wp2_with fail
              go_loopw [56] (fun i wr2 => ∃ m : Nat, m ≤ hs.length ∧ i = .int .i64 (m : Int) ∧ Hid (FI w5 S5 b fs (decide ((k : Int) = t)) (hs.take m) wr2)) (fun i _ => hs.length - (intOf i).toNat)
              case atStart => exact ⟨0, Nat.zero_le _, rfl, F5⟩
              case round =>
                obtain ⟨m, hmm, rfl, F6⟩ := hrel
                clear F5
                have hkx := F6.out.kx
                have hz5 := hkx.size
                rw [hS5] at hz5
                obtain ⟨u, hub, hur⟩ := F6.out.nd
                obtain ⟨A6, c6, rfl, -, -⟩ := own_rowP hur
                by_cases hml : m < hs.length
                · obtain ⟨y, hy⟩ : ∃ y, hs[m]? = some y := ⟨_, List.getElem?_eq_getElem hml⟩
                  have hyr := HHR.out y (List.mem_of_getElem? hy)
                  obtain ⟨yn, rfl⟩ : ∃ q : Nat, y = (q : Int) := ⟨y.toNat, by omega⟩
                  have hyn : yn < fs.length := by have := HFL.out; omega
                  have hyi : (yn : Int) < (fs.length : Int) := by omega
                  obtain ⟨cb', hcb⟩ : ∃ c, fs[yn]? = some c := ⟨_, List.getElem?_eq_getElem hyn⟩
                  have hrows := F6.out.rows X5.out Q5.out.row
                  obtain ⟨A7, c7, e7, -, hP7⟩ := own_rowP hrows
                  cases e7
                  obtain ⟨g7, e8, zg7, cb7⟩ := hP7 yn (ptrV cb') (by rw [List.getElem?_map, hcb]; rfl)
                  cases e8
                  obtain ⟨rfl, zg5, cy5⟩ := (O5.out.kx hkx (fun e => by have e : g5 = b := e; omega)).at hy
                  have hzb := hub.lt
                  obtain ⟨-, u0, u1, q0, q1⟩ := hub.two
                  have hln : (hs.take m).length = m := by rw [List.length_take]; omega
                  rw [hln] at hub hur
                  have HUB := Lib.hid hub
                  have HUR := Lib.hid hur
                  have HY := Lib.hid hy
                  have HFC : Hid (fs.getD ((yn : Int)).toNat 0 = cb') := Lib.hid (by rw [show ((yn : Int)).toNat = yn by omega, List.getD_eq_getElem?_getD, hcb]; rfl)
                  have HLN := Lib.hid hln
                  clear hP7 hrows hcb hkx hub hur hy hyr hln
                  go_wp2_with fail
                  go_region_law (refine step_append_lies _ rfl _ _ 96 rfl S5 63 i0 _ 1 8 Try.underlying96 hi hz0 hz1 hz2 rfl (by decide) _ m (nxV fs (hs.take m)) rfl (HUR.out.alloc _) ⟨wr.heap.size, 0, none⟩ 1 1 [ptrV cb'] rfl rfl (new1v _ _ _) (fun u hu => by simp at hu; subst hu; rfl) (by decide) (by unfold maxLen; omega) (by omega) (by simp; omega) _ rfl ?_; intro g8 c8 w8 hown8 hgrow8 hat8 hlt8; have hgr8 : (wr.alloc (.cells #[ptrV cb'] 63)).grownBy w8 (Value.slice A6 m c6).ownBlock := ⟨hgrow8.os, hgrow8.tape, hgrow8.output, hgrow8.size, hgrow8.block⟩; have F8 := Lib.hid (FI.push (y := (yn : Int)) HLN.out F6.out (by omega) (by omega) (by omega) HFC.out HUB.out HUR.out hown8 hgr8); have bx8 := box_push HUB.out HUR.out (by omega) hgr8; obtain ⟨zb8, -, -, q80, q81⟩ := bx8.two; have u81 := bx8.cell 1; clear hown8 hgrow8 hgr8 hat8 bx8)
                  all_goals go_wp2_with fail
                  all_goals
                    go_roundw
                    case rel => exact ⟨m + 1, hml, by go_num, Lib.hid (by rw [take_next hs HY.out]; exact F8.out)⟩
                    case measure => simp [intOf]; omega
                · obtain rfl : m = hs.length := by omega
                  have F7 := F6.out
                  rw [List.take_length] at F7
                  have F8 := Lib.hid F7
                  clear F7 hub hur
                  go_wp2_with fail
                  go_roundw
                  case rel => exact ⟨k + 1, hlt, by go_num, Lib.hid (Q5.out.next HBK.out (by rw [HHK.out, hS5]; exact F8.out))⟩
                  case measure => simp [intOf]; omega
            · obtain rfl : k = fs.length := by omega
              go_wp2_with fail
              go_ret
              exact ⟨A9, c9, fs, rfl, Q4.out.row, Q4.out.net, Q4.out.bel, by rw [HFL.out]⟩
end Go.Proofs.Ytkcnbgimdiggoab

/-
  Contracts over this seat: the program's MixedLoop and MixedArrives.
-/
namespace Go.Proofs.Ytkcnbgimdiggoab
open Go.RowKit Go.Maps

theorem vw_zero (nn : Int) (ls : List Lk) (t : Int) : vwB nn ls [t] = vwB nn ls [0, t] := by
  rw [Bool.eq_iff_iff]
  constructor
  · intro h
    obtain ⟨hg, ht⟩ := vwB_single.1 h
    exact vwB_of hg ⟨Int.le_refl _, by omega⟩ ht
  · intro h
    obtain ⟨hg, -, ht⟩ := vwB_two h
    exact vwB_single.2 ⟨hg, ht⟩
theorem row_grown {W W' : World} {base e size n base2 e2 size2 n2 : Nat} {u v : Value} {us us2 : List Value} (h : W.ownsRow base e size u n us) (hr : W.ownsRow base2 e2 size2 v n2 us2) (hne : e2 ≠ e) (o : Obj) (hg : (W.alloc o).grownBy W' v.ownBlock) : W'.ownsRow base e size u n us := by
  refine (h.alloc o).kept hg ?_
  rcases h.2 with ⟨rfl, _⟩ | ⟨g, cap, cur, rfl, _, hh, _⟩
  · exact .inl rfl
  · exact .inr (fun e' => own_box_ne hr (show Box W g e cur from hh) hne e'.symm)
theorem box_grown {W W' : World} {b e base2 e2 size2 n2 : Nat} {v : Value} {cs : Array Value} {us2 : List Value} (h : Box W b e cs) (hr : W.ownsRow base2 e2 size2 v n2 us2) (hne : e2 ≠ e) (o : Obj) (hg : (W.alloc o).grownBy W' v.ownBlock) : Box W' b e cs :=
  (hg.block b (by have := h.lt; simp; omega) (fun e' => own_box_ne hr h hne e'.symm)).trans (h.alloc o)
/-- A list that grows beside forwarders. -/
structure FL (w : World) (gv : Array Value) (base : Nat) (r : Value) (fs : List Nat) (t : Int) (H : Int → List Int) (v : Value) (out : List Int) (W : World) : Prop where
  pl : PL w gv v out W
  row : W.ownsRow base 63 1 r fs.length (fs.map ptrV)
  net : FNet W base fs t H
section
variable {w W W' : World} {gv : Array Value} {base : Nat} {r : Value} {fs : List Nat} {t : Int} {H : Int → List Int} {v : Value} {out : List Int}
theorem FL.call (h : FL w gv base r fs t H v out W) (hb : Below W.heap.size W W') : FL w gv base r fs t H v out W' := ⟨h.pl.call hb, owns_kept h.row hb, h.net.below hb⟩
theorem FL.append (h : FL w gv base r fs t H v out W) {x : Int} {v' : Value}
    (hown : W'.ownsRow (w.heap.size + 1) 3 1 v' (out.length + 1) (out.map (Value.int .i64) ++ [.int .i64 x])) (hg : (W.alloc (.cells #[.int .i64 x] 3)).grownBy W' v.ownBlock) : FL w gv base r fs t H v' (out ++ [x]) W' :=
  ⟨h.pl.append hown hg, row_grown h.row h.pl.row (by decide) _ hg, fun i b hi => by
    obtain ⟨u, h1, h2⟩ := h.net i b hi
    exact ⟨u, box_grown h1 h.pl.row (by decide) _ hg, row_grown h2 h.pl.row (by decide) _ hg⟩⟩
end

theorem fol_range {nn : Int} {ls : List Lk} {x t : Int} {ch : List Int} (h : (vwB nn ls [t] && idxB ls x) = true) : InR nn.toNat (mixA nn ls x t ch) := fun u y h0 h1 hy => by
  rw [Bool.and_eq_true] at h
  obtain ⟨hg, ht⟩ := vwB_single.1 h.1
  have hn1 := (gvB_fit hg).2.1
  obtain ⟨n, rfl⟩ : ∃ n : Nat, nn = (n : Int) := ⟨nn.toNat, by omega⟩
  rw [show ((n : Int)).toNat = n by omega] at *
  unfold mixA at hy
  split at hy
  · exact mix_range (k := x.toNat) (ch := ch) hg ht u y h0 h1 hy
  · simp at hy
theorem mixA_own {nn : Int} {ls : List Lk} {x t : Int} {ch : List Int} (h : (vwB nn ls [t] && idxB ls x) = true) : (∀ y : Int, 0 ≤ y → y < nn → mixA nn ls x t ch y = mixH nn ls x.toNat t ch y) ∧ mixA nn ls x t ch t = [] := by
  rw [Bool.and_eq_true] at h
  obtain ⟨hg, ht⟩ := vwB_single.1 h.1
  have hn1 := (gvB_fit hg).2.1
  obtain ⟨n, rfl⟩ : ∃ n : Nat, nn = (n : Int) := ⟨nn.toNat, by omega⟩
  have hk : ∀ y : Int, 0 ≤ y → y < (n : Int) → mixA (n : Int) ls x t ch y = mixH (n : Int) ls x.toNat t ch y := fun y h0 h1 => by
    unfold mixA
    rw [vwB_of hg ⟨h0, h1⟩ ht, h.2]
    rfl
  refine ⟨hk, ?_⟩
  rw [hk t ht.1 ht.2]
  exact mix_own hg ht
/-- Over nodes only the nodes' next hops matter. -/
theorem walk_same_on {n : Nat} {H K : Int → List Int} (hr : InR n H) (hs : ∀ y : Int, 0 ≤ y → y < (n : Int) → H y = K y) : ∀ (j : Nat) (x : Int), 0 ≤ x → x < (n : Int) → walkB H j x = walkB K j x
  | 0, _, _, _ => rfl
  | j + 1, x, h0, h1 => by
    show (H x).any (walkB H j) = (K x).any (walkB K j)
    rw [← hs x h0 h1, Bool.eq_iff_iff, List.any_eq_true, List.any_eq_true]
    constructor
    · rintro ⟨y, hy, e⟩
      have := hr x y h0 h1 hy
      exact ⟨y, hy, by rw [← walk_same_on hr hs j y this.1 this.2]; exact e⟩
    · rintro ⟨y, hy, e⟩
      have := hr x y h0 h1 hy
      exact ⟨y, hy, by rw [walk_same_on hr hs j y this.1 this.2]; exact e⟩
theorem arr_same_on {n : Nat} {H K : Int → List Int} {t : Int} (hr : InR n H) (hs : ∀ y : Int, 0 ≤ y → y < (n : Int) → H y = K y) : ∀ (j : Nat) (x : Int), 0 ≤ x → x < (n : Int) → arrB H t j x = arrB K t j x
  | 0, _, _, _ => rfl
  | j + 1, x, h0, h1 => by
    show (arrB H t j x || (!(H x).isEmpty && (H x).all (arrB H t j))) = (arrB K t j x || (!(K x).isEmpty && (K x).all (arrB K t j)))
    rw [← hs x h0 h1, arr_same_on hr hs j x h0 h1]
    congr 2
    rw [Bool.eq_iff_iff, List.all_eq_true, List.all_eq_true]
    constructor
    · intro g y hy
      have := hr x y h0 h1 hy
      rw [← arr_same_on hr hs j y this.1 this.2]
      exact g y hy
    · intro g y hy
      have := hr x y h0 h1 hy
      rw [arr_same_on hr hs j y this.1 this.2]
      exact g y hy
theorem folr_eq (nn : Int) (ls : List Lk) (x t : Int) (ch : List Int) : loopA nn ls x t ch = if vwB nn ls [t] && idxB ls x then (nodL nn.toNat).filter (walkB (mixA nn ls x t ch) nn.toNat) else [] := by
  unfold loopA
  rw [← vw_zero]
  cases h : (vwB nn ls [t] && idxB ls x) with
  | false => rfl
  | true =>
    have hr := fol_range (ch := ch) h
    have hs := (mixA_own (ch := ch) h).1
    rw [if_pos rfl, if_pos rfl]
    refine List.filter_congr fun y hy => ?_
    have := mem_nodL.1 hy
    exact (walk_same_on hr (fun z h0 h1 => hs z h0 (by omega)) nn.toNat y this.1 this.2).symm
theorem fold_eq (nn : Int) (ls : List Lk) (x t : Int) (ch : List Int) : arrA nn ls x t ch = if vwB nn ls [t] && idxB ls x then (nodL nn.toNat).filter (dlvB (mixA nn ls x t ch) t nn.toNat) else [] := by
  unfold arrA
  rw [← vw_zero]
  cases h : (vwB nn ls [t] && idxB ls x) with
  | false => rfl
  | true =>
    have hr := fol_range (ch := ch) h
    have hs := (mixA_own (ch := ch) h).1
    rw [if_pos rfl, if_pos rfl]
    refine List.filter_congr fun y hy => ?_
    have := mem_nodL.1 hy
    rw [dlv_arr (mixA_own (ch := ch) h).2]
    exact (arr_same_on hr (fun z h0 h1 => hs z h0 (by omega)) nn.toNat y this.1 this.2).symm

set_option maxRecDepth 100000 in
set_option maxHeartbeats 3200000 in
theorem folr_any (nn : Int) (A : Option Addr) (ls : List Lk) (c : Nat) (x t : Int) (B : Option Addr) (ch : List Int) (cb : Nat) (w : World) (hm : ls.length ≤ 2000000) (hA : 0 < ls.length → ∃ g, A = some ⟨g, 0, none⟩) (hmb : ch.length ≤ 2000000) (hS : Sl w w.heap.size A ls) (hB : Sli w w.heap.size B ch) :
   Calls Try.prog 48 #[gval nn A ls.length c, .int .i64 x, .int .i64 t, .slice B ch.length cb, .func (.func 49) #[] #[]] w (NewI (loopA nn ls x t ch) w) := by
  obtain ⟨i0, hi, hz0, hz1, hz2⟩ := info_parts infoInt
  have P0 := Lib.hid (PL_start w #[.int .i64 nn, .slice A ls.length c])
  have C1 := forwarders_any nn A ls c x t B ch cb _ hm hA hmb ((hS.below P0.out.bel).more P0.out.bel.size) ((hB.below P0.out.bel).more P0.out.bel.size)
  have HE : Hid (loopA nn ls x t ch = if vwB nn ls [t] && idxB ls x then (nodL nn.toNat).filter (walkB (mixA nn ls x t ch) nn.toNat) else []) := Lib.hid (folr_eq nn ls x t ch)
  have HR := Lib.hid (fun h => fol_range (nn := nn) (ls := ls) (x := x) (t := t) (ch := ch) h)
  have HN8 := Lib.hid (fun h : (vwB nn ls [t] && idxB ls x) = true => (gvB_fit (vwB_single.1 (Bool.and_eq_true _ _ ▸ h).1).1).2)
  have H8 := fun y => mixA_few nn ls x t ch y
  unfold FwdR at C1
  generalize mixA nn ls x t ch = H at *
  generalize (vwB nn ls [t] && idxB ls x) = ok at *
  clear hS hB hA
  go_enter Try.func48, Try.ntmps48
  go_wp2_with fail
  refine C1.mono ?_
  clear C1
  rintro e w1 ⟨A3, c3, fs, rfl, hr1, hn1, hb1, hl1⟩
  have F1 := Lib.hid (show FL w #[.int .i64 nn, .slice A ls.length c] _ _ fs t H (.slice (some ⟨w.heap.size + 1, 0, none⟩) 0 0) [] w1 from ⟨P0.out.call hb1, hr1, hn1⟩)
  have HL1 := Lib.hid hl1
  clear hr1 hn1 hb1 hl1 P0
  generalize (w.alloc (.cells #[.int .i64 nn, .slice A ls.length c] 25)).alloc (.cells #[] 3) = W0 at *
  have hf8 : fs.length ≤ 8 := by
    have := HL1.out
    cases ok with
    | false => rw [if_neg Bool.false_ne_true] at this; omega
    | true =>
      have h2 := HN8.out rfl
      simp at this
      omega
  go_wp2_with fail
  go_loopw [11, 21] (fun v i wr => ∃ (k : Nat) (out : List Int), k ≤ fs.length ∧ i = .int .i64 (k : Int) ∧ Hid (out = (nodL k).filter (walkB H nn.toNat)) ∧ out.length ≤ k ∧ Hid (FL w #[.int .i64 nn, .slice A ls.length c] (W0.heap.size + 1) (.slice A3 fs.length c3) fs t H v out wr)) (fun _ i _ => fs.length - (intOf i).toNat)
  case atStart => exact ⟨0, [], Nat.zero_le _, rfl, Lib.hid rfl, Nat.le_refl _, F1⟩
  case round =>
    obtain ⟨k, out, hk, rfl, HO, hok, F2⟩ := hrel
    clear F1
    obtain ⟨A9, g9, c9, rfl, -, -⟩ := own_slicei F2.out.pl.row (by have := F2.out.pl.box.lt; omega)
    by_cases hlt : k < fs.length
    · have hok1 : ok = true := by
        have := HL1.out
        cases ok with
        | false => rw [if_neg Bool.false_ne_true] at this; omega
        | true => rfl
      have hl1 := HL1.out
      rw [hok1, if_pos rfl] at hl1
      have hn := HN8.out hok1
      obtain ⟨n, rfl⟩ : ∃ n : Nat, nn = (n : Int) := ⟨nn.toNat, by omega⟩
      have hnn : ((n : Int)).toNat = n := by omega
      rw [hnn] at hl1 HO
      have HIR := HR.out hok1
      rw [hnn, ← hl1] at HIR
      obtain ⟨b, hb⟩ : ∃ b, fs[k]? = some b := ⟨_, List.getElem?_eq_getElem hlt⟩
      have C2 := runs_any (W0.heap.size + 1) fs t H HIR H8 n k b wr (by omega) hb F2.out.net
      obtain ⟨A4, c4, e4, -, hP⟩ := own_rowP F2.out.row
      cases e4
      obtain ⟨g4, rfl, zg4, cb4⟩ := hP k (ptrV b) (by rw [List.getElem?_map, hb]; rfl)
      obtain ⟨zg, g0, g1, -, -⟩ := F2.out.pl.box.two
      have HFN := Lib.hid (nodL_next (walkB H n) k)
      have hz0' := F2.out.pl.box.lt
      clear hP hb HIR hnn hl1
      go_wp2_with fail
      refine C2.mono ?_
      clear C2
      rintro e w3 ⟨rfl, hb3⟩
      have F3 := Lib.hid (F2.out.call hb3)
      have zz := F3.out.pl.box.lt
      clear hb3 F2 zg g0 g1 cb4 zg4
      cases hq : walkB H n (k : Int) with
      | true =>
        rw [hq] at HFN
        go_wp2_with (at_builtin; refine wpList_append_own_at _ rfl _ _ 28 rfl (w.heap.size + 1) 3 i0 _ 1 8 Try.underlying28 hi hz0 hz1 hz2 rfl (by decide) _ out.length (out.map (Value.int .i64)) rfl (F3.out.pl.row.alloc _) ⟨w3.heap.size, 0, none⟩ 1 1 [.int .i64 (k : Int)] rfl rfl (new1v _ _ _) (fun u hu => by simp at hu; subst hu; rfl) (by unfold maxLen; omega) (by omega) (by simp; omega) ?_; intro v' w4 hown' hgrow _ hat; have F4 := Lib.hid (F3.out.append hown' hgrow); clear hown' hgrow hat)
        go_roundw
        case rel => exact ⟨k + 1, out ++ [(k : Int)], hlt, by go_num, Lib.hid (by rw [show ((n : Int)).toNat = n by omega, HFN.out, ← HO.out]; rfl), by simp; omega, F4⟩
        case measure => simp [intOf]; omega
      | false =>
        rw [hq] at HFN
        go_wp2_with fail
        go_roundw
        case rel => exact ⟨k + 1, out, hlt, by go_num, Lib.hid (by rw [show ((n : Int)).toNat = n by omega, HFN.out, ← HO.out]; simp), by omega, F3⟩
        case measure => simp [intOf]; omega
    · obtain rfl : k = fs.length := by omega
      have hfin := F2.out.pl.done
      go_wp2_with fail
      go_ret
      have he : loopA nn ls x t ch = out := by
        rw [HE.out, HO.out]
        have := HL1.out
        cases ok with
        | false =>
          rw [if_neg Bool.false_ne_true] at this
          rw [this]
          rfl
        | true =>
          rw [if_pos rfl] at this
          rw [this, if_pos rfl]
      rw [he]
      exact hfin

set_option maxHeartbeats 400000 in
theorem mixLoop_impl (nn : Int) (A : Option Addr) (ls : List Lk) (c : Nat) (x t : Int) (B : Option Addr) (ch : List Int) (cb : Nat) (w : World) (hm : ls.length ≤ 2000000) (hA : 0 < ls.length → ∃ g, A = some ⟨g, 0, none⟩) (hmb : ch.length ≤ 2000000) (hS : Sl w w.heap.size A ls) (hB : Sli w w.heap.size B ch) :
   Calls Try.prog 15 #[gval nn A ls.length c, .int .i64 x, .int .i64 t, .slice B ch.length cb] w (NewI (loopA nn ls x t ch) w) := by
  have B0 : Below w.heap.size w (w.alloc (.cells #[.int .i64 nn, .slice A ls.length c] 25)) := by (repeat (first | exact Below.refl _ _ | (refine Below.alloc ?_ (by first | exact Nat.le_refl _ | omega | (simp; done) | (simp; omega)) _) | (refine Below.setCell ?_ (by first | exact Nat.le_refl _ | omega | (simp; done) | (simp; omega)) _) | exact Below.drew ‹_›))
  have HB := Lib.hid B0
  have C1 := folr_any nn A ls c x t B ch cb _ hm hA hmb ((hS.below B0).more B0.size) ((hB.below B0).more B0.size)
  clear hS hB B0 hA
  generalize loopA nn ls x t ch = rs at *
  go_enter Try.func15, Try.ntmps15
  go_wp2_with fail
  refine C1.mono ?_
  clear C1
  rintro e w1 ⟨A1, g1, c1, rfl, hg1, ho1, hb1⟩
  have B1 := Lib.hid (HB.out.trans (hb1.mono HB.out.size))
  have hz := HB.out.size
  have O1 := Lib.hid ho1
  clear hb1 ho1
  go_wp2_with fail
  go_ret
  exact ⟨A1, g1, c1, rfl, by omega, O1.out, B1.out⟩

set_option maxRecDepth 100000 in
set_option maxHeartbeats 3200000 in
theorem fold_any (nn : Int) (A : Option Addr) (ls : List Lk) (c : Nat) (x t : Int) (B : Option Addr) (ch : List Int) (cb : Nat) (w : World) (hm : ls.length ≤ 2000000) (hA : 0 < ls.length → ∃ g, A = some ⟨g, 0, none⟩) (hmb : ch.length ≤ 2000000) (hS : Sl w w.heap.size A ls) (hB : Sli w w.heap.size B ch) :
   Calls Try.prog 48 #[gval nn A ls.length c, .int .i64 x, .int .i64 t, .slice B ch.length cb, .func (.func 62) #[] #[]] w (NewI (arrA nn ls x t ch) w) := by
  obtain ⟨i0, hi, hz0, hz1, hz2⟩ := info_parts infoInt
  have P0 := Lib.hid (PL_start w #[.int .i64 nn, .slice A ls.length c])
  have C1 := forwarders_any nn A ls c x t B ch cb _ hm hA hmb ((hS.below P0.out.bel).more P0.out.bel.size) ((hB.below P0.out.bel).more P0.out.bel.size)
  have HE : Hid (arrA nn ls x t ch = if vwB nn ls [t] && idxB ls x then (nodL nn.toNat).filter (dlvB (mixA nn ls x t ch) t nn.toNat) else []) := Lib.hid (fold_eq nn ls x t ch)
  have HR := Lib.hid (fun h => fol_range (nn := nn) (ls := ls) (x := x) (t := t) (ch := ch) h)
  have HN8 := Lib.hid (fun h : (vwB nn ls [t] && idxB ls x) = true => (gvB_fit (vwB_single.1 (Bool.and_eq_true _ _ ▸ h).1).1).2)
  have H8 := fun y => mixA_few nn ls x t ch y
  unfold FwdR at C1
  generalize mixA nn ls x t ch = H at *
  generalize (vwB nn ls [t] && idxB ls x) = ok at *
  clear hS hB hA
  go_enter Try.func48, Try.ntmps48
  go_wp2_with fail
  refine C1.mono ?_
  clear C1
  rintro e w1 ⟨A3, c3, fs, rfl, hr1, hn1, hb1, hl1⟩
  have F1 := Lib.hid (show FL w #[.int .i64 nn, .slice A ls.length c] _ _ fs t H (.slice (some ⟨w.heap.size + 1, 0, none⟩) 0 0) [] w1 from ⟨P0.out.call hb1, hr1, hn1⟩)
  have HL1 := Lib.hid hl1
  clear hr1 hn1 hb1 hl1 P0
  generalize (w.alloc (.cells #[.int .i64 nn, .slice A ls.length c] 25)).alloc (.cells #[] 3) = W0 at *
  have hf8 : fs.length ≤ 8 := by
    have := HL1.out
    cases ok with
    | false => rw [if_neg Bool.false_ne_true] at this; omega
    | true =>
      have h2 := HN8.out rfl
      simp at this
      omega
  go_wp2_with fail
  go_loopw [11, 21] (fun v i wr => ∃ (k : Nat) (out : List Int), k ≤ fs.length ∧ i = .int .i64 (k : Int) ∧ Hid (out = (nodL k).filter (dlvB H t nn.toNat)) ∧ out.length ≤ k ∧ Hid (FL w #[.int .i64 nn, .slice A ls.length c] (W0.heap.size + 1) (.slice A3 fs.length c3) fs t H v out wr)) (fun _ i _ => fs.length - (intOf i).toNat)
  case atStart => exact ⟨0, [], Nat.zero_le _, rfl, Lib.hid rfl, Nat.le_refl _, F1⟩
  case round =>
    obtain ⟨k, out, hk, rfl, HO, hok, F2⟩ := hrel
    clear F1
    obtain ⟨A9, g9, c9, rfl, -, -⟩ := own_slicei F2.out.pl.row (by have := F2.out.pl.box.lt; omega)
    by_cases hlt : k < fs.length
    · have hok1 : ok = true := by
        have := HL1.out
        cases ok with
        | false => rw [if_neg Bool.false_ne_true] at this; omega
        | true => rfl
      have hl1 := HL1.out
      rw [hok1, if_pos rfl] at hl1
      have hn := HN8.out hok1
      obtain ⟨n, rfl⟩ : ∃ n : Nat, nn = (n : Int) := ⟨nn.toNat, by omega⟩
      have hnn : ((n : Int)).toNat = n := by omega
      rw [hnn] at hl1 HO
      have HIR := HR.out hok1
      rw [hnn, ← hl1] at HIR
      obtain ⟨b, hb⟩ : ∃ b, fs[k]? = some b := ⟨_, List.getElem?_eq_getElem hlt⟩
      have C2 := delivers_any (W0.heap.size + 1) fs t H HIR H8 n k b wr (by omega) hb F2.out.net
      obtain ⟨A4, c4, e4, -, hP⟩ := own_rowP F2.out.row
      cases e4
      obtain ⟨g4, rfl, zg4, cb4⟩ := hP k (ptrV b) (by rw [List.getElem?_map, hb]; rfl)
      obtain ⟨zg, g0, g1, -, -⟩ := F2.out.pl.box.two
      have HFN := Lib.hid (nodL_next (dlvB H t n) k)
      have hz0' := F2.out.pl.box.lt
      clear hP hb HIR hnn hl1
      go_wp2_with fail
      refine C2.mono ?_
      clear C2
      rintro e w3 ⟨rfl, hb3⟩
      have F3 := Lib.hid (F2.out.call hb3)
      have zz := F3.out.pl.box.lt
      clear hb3 F2 zg g0 g1 cb4 zg4
      cases hq : dlvB H t n (k : Int) with
      | true =>
        rw [hq] at HFN
        go_wp2_with (at_builtin; refine wpList_append_own_at _ rfl _ _ 28 rfl (w.heap.size + 1) 3 i0 _ 1 8 Try.underlying28 hi hz0 hz1 hz2 rfl (by decide) _ out.length (out.map (Value.int .i64)) rfl (F3.out.pl.row.alloc _) ⟨w3.heap.size, 0, none⟩ 1 1 [.int .i64 (k : Int)] rfl rfl (new1v _ _ _) (fun u hu => by simp at hu; subst hu; rfl) (by unfold maxLen; omega) (by omega) (by simp; omega) ?_; intro v' w4 hown' hgrow _ hat; have F4 := Lib.hid (F3.out.append hown' hgrow); clear hown' hgrow hat)
        go_roundw
        case rel => exact ⟨k + 1, out ++ [(k : Int)], hlt, by go_num, Lib.hid (by rw [show ((n : Int)).toNat = n by omega, HFN.out, ← HO.out]; rfl), by simp; omega, F4⟩
        case measure => simp [intOf]; omega
      | false =>
        rw [hq] at HFN
        go_wp2_with fail
        go_roundw
        case rel => exact ⟨k + 1, out, hlt, by go_num, Lib.hid (by rw [show ((n : Int)).toNat = n by omega, HFN.out, ← HO.out]; simp), by omega, F3⟩
        case measure => simp [intOf]; omega
    · obtain rfl : k = fs.length := by omega
      have hfin := F2.out.pl.done
      go_wp2_with fail
      go_ret
      have he : arrA nn ls x t ch = out := by
        rw [HE.out, HO.out]
        have := HL1.out
        cases ok with
        | false =>
          rw [if_neg Bool.false_ne_true] at this
          rw [this]
          rfl
        | true =>
          rw [if_pos rfl] at this
          rw [this, if_pos rfl]
      rw [he]
      exact hfin

set_option maxHeartbeats 400000 in
theorem mixArr_impl (nn : Int) (A : Option Addr) (ls : List Lk) (c : Nat) (x t : Int) (B : Option Addr) (ch : List Int) (cb : Nat) (w : World) (hm : ls.length ≤ 2000000) (hA : 0 < ls.length → ∃ g, A = some ⟨g, 0, none⟩) (hmb : ch.length ≤ 2000000) (hS : Sl w w.heap.size A ls) (hB : Sli w w.heap.size B ch) :
   Calls Try.prog 22 #[gval nn A ls.length c, .int .i64 x, .int .i64 t, .slice B ch.length cb] w (NewI (arrA nn ls x t ch) w) := by
  have B0 : Below w.heap.size w (w.alloc (.cells #[.int .i64 nn, .slice A ls.length c] 25)) := by (repeat (first | exact Below.refl _ _ | (refine Below.alloc ?_ (by first | exact Nat.le_refl _ | omega | (simp; done) | (simp; omega)) _) | (refine Below.setCell ?_ (by first | exact Nat.le_refl _ | omega | (simp; done) | (simp; omega)) _) | exact Below.drew ‹_›))
  have HB := Lib.hid B0
  have C1 := fold_any nn A ls c x t B ch cb _ hm hA hmb ((hS.below B0).more B0.size) ((hB.below B0).more B0.size)
  clear hS hB B0 hA
  generalize arrA nn ls x t ch = rs at *
  go_enter Try.func22, Try.ntmps22
  go_wp2_with fail
  refine C1.mono ?_
  clear C1
  rintro e w1 ⟨A1, g1, c1, rfl, hg1, ho1, hb1⟩
  have B1 := Lib.hid (HB.out.trans (hb1.mono HB.out.size))
  have hz := HB.out.size
  have O1 := Lib.hid ho1
  clear hb1 ho1
  go_wp2_with fail
  go_ret
  exact ⟨A1, g1, c1, rfl, by omega, O1.out, B1.out⟩
end Go.Proofs.Ytkcnbgimdiggoab
