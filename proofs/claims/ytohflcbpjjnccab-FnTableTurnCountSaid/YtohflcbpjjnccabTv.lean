/-
  Contracts over this seat: the specification's validity of a table.
-/
import Derived.Test.YtohflcbpjjnccabTe
namespace Go.Proofs.Ytohflcbpjjnccab
open Go.RowKit Go.Maps

abbrev tbV (A : Option Addr) (n c : Nat) (B : Option Addr) (m d : Nat) : Value := .agg #[.slice A n c, .slice B m d]
/-- Whether the k-th route is valid and behind the one ahead of it. -/
def rtAt (h : Int) (rs : List Lk) (k : Nat) : Bool := match rs[k]? with
  | none => true
  | some x => rtB h x && (decide (k = 0) || rtLt (rs.getD (k - 1) ⟨0, 0, 0⟩) x)
theorem rt_all {h : Int} {rs : List Lk} (H : ∀ k, k < rs.length → rtAt h rs k = true) : (∀ x ∈ rs, rtB h x = true) ∧ Asc rs := by
  constructor
  · intro x hx
    obtain ⟨k, hk⟩ := List.getElem?_of_mem hx
    have := H k (List.getElem?_eq_some_iff.1 hk).1
    unfold rtAt at this
    rw [hk] at this
    dsimp only at this
    rw [Bool.and_eq_true] at this
    exact this.1
  · rw [← ascR_iff]
    induction rs with
    | nil => rfl
    | cons x r ih =>
      match r, ih, H with
      | [], _, _ => rfl
      | y :: r, ih, H =>
        rw [ascR, Bool.and_eq_true]
        constructor
        · have := H 1 (by simp)
          unfold rtAt at this
          simp only [List.getElem?_cons_succ, List.getElem?_cons_zero, Bool.and_eq_true] at this
          simpa using this.2
        · refine ih fun k hk => ?_
          have := H (k + 1) (by simpa using hk)
          unfold rtAt at this ⊢
          rw [List.getElem?_cons_succ] at this
          cases hg : (y :: r)[k]? with
          | none => rfl
          | some z =>
            rw [hg] at this
            dsimp only at this ⊢
            rw [Bool.and_eq_true] at this ⊢
            refine ⟨this.1, ?_⟩
            by_cases hk0 : k = 0
            · simp [hk0]
            · have h2 := this.2
              rw [decide_eq_false (by omega), Bool.false_or] at h2
              rw [decide_eq_false hk0, Bool.false_or]
              obtain ⟨q, rfl⟩ : ∃ q, k = q + 1 := ⟨k - 1, by omega⟩
              simpa using h2
theorem rt_bad {h : Int} {rs : List Lk} {k : Nat} (hk : k < rs.length) (hb : rtAt h rs k = false) : ¬ ((∀ x ∈ rs, rtB h x = true) ∧ Asc rs) := by
  rintro ⟨h1, h2⟩
  unfold rtAt at hb
  obtain ⟨x, hx⟩ : ∃ x, rs[k]? = some x := ⟨_, List.getElem?_eq_getElem hk⟩
  rw [hx] at hb
  dsimp only at hb
  rw [h1 x (List.mem_of_getElem? hx), Bool.true_and, Bool.or_eq_false_iff, decide_eq_false_iff_not] at hb
  have hp : rs[k - 1]? = some rs[k - 1] := List.getElem?_eq_getElem (by omega)
  rw [rt_at hp] at hb
  have h3 := List.pairwise_iff_getElem.1 h2 (k - 1) k (by omega) hk (by omega)
  rw [(List.getElem?_eq_some_iff.1 hx).2] at h3
  rw [h3] at hb
  cases hb.2
theorem rtAt_at {h : Int} {rs : List Lk} {k : Nat} {x : Lk} (hx : rs[k]? = some x) : rtAt h rs k = (rtB h x && (decide (k = 0) || rtLt (rs.getD (k - 1) ⟨0, 0, 0⟩) x)) := by
  unfold rtAt
  rw [hx]
theorem tb_hop {rs : List Lk} {hs : List Int} {k : Nat} {z : Int} (hz : hs[k]? = some z) (hb : inB z 0 7 = false) : tbB rs hs = false := by
  cases ht : tbB rs hs with
  | false => rfl
  | true =>
    have := (tbB_iff.1 ht).1 z (List.mem_of_getElem? hz)
    unfold inB at hb
    rw [decide_eq_true this.1, decide_eq_true this.2] at hb
    cases hb
theorem tb_rt {rs : List Lk} {hs : List Int} {k : Nat} (hk : k < rs.length) (hb : rtAt hs.length rs k = false) : tbB rs hs = false := by
  cases ht : tbB rs hs with
  | false => rfl
  | true =>
    obtain ⟨_, h2, h3, _⟩ := tbB_iff.1 ht
    exact absurd ⟨h2, h3⟩ (rt_bad hk hb)
theorem tb_fin {rs : List Lk} {hs : List Int} (h1 : ∀ k z, k < hs.length → hs[k]? = some z → inB z 0 7 = true) (h2 : ∀ k, k < rs.length → rtAt hs.length rs k = true) : tbB rs hs = (decide (rs.length ≤ 10) && decide (hs.length ≤ 4)) := by
  obtain ⟨h3, h4⟩ := rt_all h2
  have h5 : hs.all (fun z => inB z 0 7) = true := List.all_eq_true.2 fun z hz => by
    obtain ⟨k, hk⟩ := List.getElem?_of_mem hz
    exact h1 k z (List.getElem?_eq_some_iff.1 hk).1 hk
  unfold tbB
  rw [h5, List.all_eq_true.2 h3, ascR_iff.2 h4]
  rfl

set_option maxRecDepth 100000 in
set_option maxHeartbeats 1600000 in
theorem tableValid_spec (A : Option Addr) (rs : List Lk) (c : Nat) (B : Option Addr) (hs : List Int) (d : Nat) (w : World) (hm : rs.length ≤ 1048576) (hmh : hs.length ≤ 1048576) (hS : Sl w w.heap.size A rs) (hI : Sli w w.heap.size B hs) :
   Calls Try.prog 13 #[tbV A rs.length c B hs.length d] w fun e w' => e = .returned (.bool (tbB rs hs)) ∧ Below w.heap.size w w' := by
  have HS := Lib.hid hS
  have HI := Lib.hid hI
  have HK := Lib.hid (Box.new w 30 #[.slice A rs.length c, .slice B hs.length d])
  have B0 := Lib.hid (show Below w.heap.size w (w.alloc (.cells #[.slice A rs.length c, .slice B hs.length d] 30)) by (repeat (first | exact Below.refl _ _ | (refine Below.alloc ?_ (by first | exact Nat.le_refl _ | omega | (simp; done) | (simp; omega)) _) | (refine Below.setCell ?_ (by first | exact Nat.le_refl _ | omega | (simp; done) | (simp; omega)) _) | exact Below.drew ‹_›)))
  clear hS hI
  go_enter Try.func13, Try.ntmps13
  go_wp2_with fail
  go_loopw [3] (fun i wr => ∃ k : Nat, k ≤ hs.length ∧ i = .int .i64 (k : Int) ∧ Hid (∀ j z, j < k → hs[j]? = some z → inB z 0 7 = true) ∧ Hid (Box wr w.heap.size 30 #[.slice A rs.length c, .slice B hs.length d]) ∧ Hid (Below w.heap.size w wr)) (fun i _ => hs.length - (intOf i).toNat)
  case atStart => exact ⟨0, Nat.zero_le _, rfl, Lib.hid (fun j z h _ => by omega), HK, B0⟩
  case round =>
    obtain ⟨k, hk, rfl, HJ, K1, B1⟩ := hrel
    clear HK B0
    obtain ⟨z1, e10, e11, -, -⟩ := K1.out.two
    by_cases hlt : k < hs.length
    · obtain ⟨z, hz⟩ : ∃ z, hs[k]? = some z := ⟨_, List.getElem?_eq_getElem hlt⟩
      obtain ⟨b, off, rfl, hbb, hc⟩ := (HI.out.below B1.out) k z hz
      have hbs := B1.out.size
      have hb1 : b < wr.heap.size := by omega
      have C1 := fun W => l6In_any z 0 7 W
      have HZ := Lib.hid hz
      clear hz
      cases hp : inB z 0 7 with
      | false =>
        rw [hp] at C1
        have HF := Lib.hid (tb_hop (rs := rs) HZ.out hp)
        clear hp
        go_wp2_with fail
        refine (C1 _).mono ?_
        rintro e w2 ⟨rfl, rfl⟩
        go_wp2_with fail
        go_ret
        exact ⟨ret_bool HF.out.symm, B1.out⟩
      | true =>
        rw [hp] at C1
        have HP := Lib.hid hp
        clear hp
        go_wp2_with fail
        refine (C1 _).mono ?_
        rintro e w2 ⟨rfl, rfl⟩
        go_wp2_with fail
        go_roundw
        case rel => exact ⟨k + 1, hlt, by go_num, Lib.hid (fun j y hj hy => by
          by_cases e : j < k
          · exact HJ.out j y e hy
          · obtain rfl : j = k := by omega
            rw [HZ.out] at hy
            cases hy
            exact HP.out), K1, B1⟩
        case measure => simp [intOf]; omega
    · obtain rfl : k = hs.length := by omega
      have HH : Hid (∀ j z, j < hs.length → hs[j]? = some z → inB z 0 7 = true) := HJ
      have hge : ¬ ((hs.length : Int) < (hs.length : Int)) := by omega
      clear HJ
      go_wp2_with fail
      go_loopw [4] (fun i wr => ∃ k : Nat, k ≤ rs.length ∧ i = .int .i64 (k : Int) ∧ Hid (∀ j, j < k → rtAt hs.length rs j = true) ∧ Hid (Box wr w.heap.size 30 #[.slice A rs.length c, .slice B hs.length d]) ∧ Hid (Below w.heap.size w wr)) (fun i _ => rs.length - (intOf i).toNat)
      case atStart => exact ⟨0, Nat.zero_le _, rfl, Lib.hid (fun j h => by omega), K1, B1⟩
      case round =>
        obtain ⟨k, hk, rfl, HJ, K2, B2⟩ := hrel
        clear K1 B1 z1 e10 e11
        obtain ⟨z2, e20, e21, -, -⟩ := K2.out.two
        by_cases hlt : k < rs.length
        · obtain ⟨x, hx⟩ : ∃ x, rs[k]? = some x := ⟨_, List.getElem?_eq_getElem hlt⟩
          obtain ⟨b, off, rfl, hbb, hc0, hc1, hc2⟩ := (HS.out.below B2.out) k x hx
          have hbs := B2.out.size
          have hb1 : b < wr.heap.size := by omega
          have CR := fun W => l23route_any x hs.length W (by omega)
          have HE := Lib.hid (rtAt_at (h := (hs.length : Int)) hx)
          have HX := Lib.hid hx
          by_cases hk0 : k = 0
          · have HE2 : Hid (rtAt hs.length rs k = rtB hs.length x) := Lib.hid (by rw [HE.out, hk0]; simp)
            have hnk : ¬ (0 : Int) < (k : Int) := by omega
            have hnk2 : ¬ 0 < k := by omega
            have hnk3 : decide ((k : Int) > 0) = false := by simp; omega
            clear hx HE hk0
            cases hp : rtB hs.length x with
            | false =>
              have HF := Lib.hid (tb_rt (hs := hs) hlt (by rw [HE2.out]; exact hp))
              rw [hp] at CR
              clear hp HE2
              obtain ⟨xa, xb, xc⟩ := x
              dsimp only at hc0 hc1 hc2
              have hX := fun (x : Ext wr) (bb o : Nat) (h : bb < wr.heap.size) => x.cell bb o h
              go_wp2_with fail
              refine wp_region_ext (by kernel_rfl) (by kernel_rfl) ?_
              repeat (go_big_quiet_step (first | (go_at_call 36; exact Calls.ext_of (CR _))))
              (refine wpQuiet_nil ?_); (rintro _ ⟨X, rfl⟩); (have hw1 := X.below); (generalize X.w = w1 at *); (clear X)
              clear hX
              have B3 := Lib.hid (B2.out.trans (hw1.mono hbs))
              have K3 := Lib.hid (K2.out.below hw1 z2)
              clear hw1 K2 B2
              go_wp2_with fail
              go_ret
              exact ⟨ret_bool HF.out.symm, B3.out⟩
            | true =>
              have HF : Hid (rtAt hs.length rs k = true) := Lib.hid (by rw [HE2.out]; exact hp)
              rw [hp] at CR
              clear hp HE2
              obtain ⟨xa, xb, xc⟩ := x
              dsimp only at hc0 hc1 hc2
              have hX := fun (x : Ext wr) (bb o : Nat) (h : bb < wr.heap.size) => x.cell bb o h
              go_wp2_with fail
              refine wp_region_ext (by kernel_rfl) (by kernel_rfl) ?_
              repeat (go_big_quiet_step (first | (go_at_call 36; exact Calls.ext_of (CR _))))
              (refine wpQuiet_nil ?_); (rintro _ ⟨X, rfl⟩); (have hw1 := X.below); (generalize X.w = w1 at *); (clear X)
              clear hX
              have B3 := Lib.hid (B2.out.trans (hw1.mono hbs))
              have K3 := Lib.hid (K2.out.below hw1 z2)
              clear hw1 K2 B2
              go_wp2_with fail
              go_roundw
              case rel => exact ⟨k + 1, hlt, by go_num, Lib.hid (fun j hj => by
                by_cases e : j < k
                · exact HJ.out j e
                · obtain rfl : j = k := by omega
                  exact HF.out), K3, B3⟩
              case measure => simp [intOf]; omega
          · obtain ⟨q, rfl⟩ : ∃ q, k = q + 1 := ⟨k - 1, by omega⟩
            obtain ⟨y, hy⟩ : ∃ y, rs[q]? = some y := ⟨_, List.getElem?_eq_getElem (by omega)⟩
            obtain ⟨b', off', e', hbb', hd0, hd1, hd2⟩ := (HS.out.below B2.out) q y hy
            cases e'
            have CL := fun W => l23less_any y x W
            have HE2 : Hid (rtAt hs.length rs (q + 1) = (rtB hs.length x && rtLt y x)) := Lib.hid (by rw [HE.out, Nat.add_sub_cancel, rt_at hy]; simp)
            have hsub : ((q + 1 : Nat) : Int) - 1 = (q : Int) := by omega
            have hw : IntKind.i64.wrap (q : Int) = (q : Int) := IntWalk.i64_in _ (by omega)
            have hpos : (0 : Int) < ((q + 1 : Nat) : Int) := by omega
            have hql : q < rs.length := by omega
            clear hx HE hy hk0
            cases hp : rtB hs.length x with
            | false =>
              have HF := Lib.hid (tb_rt (hs := hs) hlt (by rw [HE2.out, hp]; rfl))
              rw [hp] at CR
              clear hp HE2 CL
              obtain ⟨xa, xb, xc⟩ := x
              obtain ⟨ya, yb, yc⟩ := y
              dsimp only at hc0 hc1 hc2 hd0 hd1 hd2
              have hX := fun (x : Ext wr) (bb o : Nat) (h : bb < wr.heap.size) => x.cell bb o h
              go_wp2_with fail
              refine wp_region_ext (by kernel_rfl) (by kernel_rfl) ?_
              repeat (go_big_quiet_step (first | (go_at_call 36; exact Calls.ext_of (CR _))))
              (refine wpQuiet_nil ?_); (rintro _ ⟨X, rfl⟩); (have hw1 := X.below); (generalize X.w = w1 at *); (clear X)
              clear hX
              have B3 := Lib.hid (B2.out.trans (hw1.mono hbs))
              have K3 := Lib.hid (K2.out.below hw1 z2)
              clear hw1 K2 B2
              go_wp2_with fail
              go_ret
              exact ⟨ret_bool HF.out.symm, B3.out⟩
            | true =>
              rw [hp] at CR
              cases hl : rtLt y x with
              | false =>
                have HF := Lib.hid (tb_rt (hs := hs) hlt (by rw [HE2.out, hl, Bool.and_false]))
                rw [hl] at CL
                clear hp hl HE2
                obtain ⟨xa, xb, xc⟩ := x
                obtain ⟨ya, yb, yc⟩ := y
                dsimp only at hc0 hc1 hc2 hd0 hd1 hd2
                have hX := fun (x : Ext wr) (bb o : Nat) (h : bb < wr.heap.size) => x.cell bb o h
                go_wp2_with fail
                refine wp_region_ext (by kernel_rfl) (by kernel_rfl) ?_
                repeat (go_big_quiet_step (first | (go_at_call 36; exact Calls.ext_of (CR _)) | (go_at_call 37; exact Calls.ext_of (CL _))))
                (refine wpQuiet_nil ?_); (rintro _ ⟨X, rfl⟩); (have hw1 := X.below); (generalize X.w = w1 at *); (clear X)
                clear hX
                have B3 := Lib.hid (B2.out.trans (hw1.mono hbs))
                have K3 := Lib.hid (K2.out.below hw1 z2)
                clear hw1 K2 B2
                go_wp2_with fail
                go_ret
                exact ⟨ret_bool HF.out.symm, B3.out⟩
              | true =>
                have HF : Hid (rtAt hs.length rs (q + 1) = true) := Lib.hid (by rw [HE2.out, hp, hl]; rfl)
                rw [hl] at CL
                clear hp hl HE2
                obtain ⟨xa, xb, xc⟩ := x
                obtain ⟨ya, yb, yc⟩ := y
                dsimp only at hc0 hc1 hc2 hd0 hd1 hd2
                have hX := fun (x : Ext wr) (bb o : Nat) (h : bb < wr.heap.size) => x.cell bb o h
                go_wp2_with fail
                refine wp_region_ext (by kernel_rfl) (by kernel_rfl) ?_
                repeat (go_big_quiet_step (first | (go_at_call 36; exact Calls.ext_of (CR _)) | (go_at_call 37; exact Calls.ext_of (CL _))))
                (refine wpQuiet_nil ?_); (rintro _ ⟨X, rfl⟩); (have hw1 := X.below); (generalize X.w = w1 at *); (clear X)
                clear hX
                have B3 := Lib.hid (B2.out.trans (hw1.mono hbs))
                have K3 := Lib.hid (K2.out.below hw1 z2)
                clear hw1 K2 B2
                go_wp2_with fail
                go_roundw
                case rel => exact ⟨(q + 1) + 1, hlt, by go_num, Lib.hid (fun j hj => by
                  by_cases e : j < (q + 1)
                  · exact HJ.out j e
                  · obtain rfl : j = (q + 1) := by omega
                    exact HF.out), K3, B3⟩
                case measure => simp [intOf]; omega
        · obtain rfl : k = rs.length := by omega
          have hge2 : ¬ ((rs.length : Int) < (rs.length : Int)) := by omega
          have HF := Lib.hid (tb_fin HH.out HJ.out)
          by_cases hr10 : rs.length ≤ 10
          · have hr10' : (rs.length : Int) ≤ 10 := by omega
            have HF2 : Hid (tbB rs hs = decide (hs.length ≤ 4)) := Lib.hid (by rw [HF.out, decide_eq_true hr10, Bool.true_and])
            clear HF hr10
            go_wp2_with fail
            go_ret
            refine ⟨ret_bool ?_, B2.out⟩
            rw [HF2.out, decide_eq_decide]
            omega
          · have hr10' : ¬ (rs.length : Int) ≤ 10 := by omega
            have HF2 : Hid (tbB rs hs = false) := Lib.hid (by rw [HF.out, decide_eq_false hr10, Bool.false_and])
            clear HF hr10
            go_wp2_with fail
            go_ret
            exact ⟨ret_bool HF2.out.symm, B2.out⟩
end Go.Proofs.Ytohflcbpjjnccab
