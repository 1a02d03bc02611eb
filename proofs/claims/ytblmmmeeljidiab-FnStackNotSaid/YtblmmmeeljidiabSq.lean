/-
  Contracts over this seat: the specification's nodes of a stack, and the nodes of one label.
-/
import Derived.Test.YtblmmmeeljidiabSp
namespace Go.Proofs.Ytblmmmeeljidiab
open Go.RowKit Go.Maps

/-- The nodes at the beginning of the first k labels, and the next one. -/
def ndsL (nn : Int) (ls : List Lk) (s : Int) (st : List Lb) (k : Nat) : List Int := (List.range (k + 1)).map fun j => (endO nn ls s (st.take j)).getD 0
theorem ndsL_len (nn : Int) (ls : List Lk) (s : Int) (st : List Lb) (k : Nat) : (ndsL nn ls s st k).length = k + 1 := by simp [ndsL]
theorem ndsL_at {nn : Int} {ls : List Lk} {s x : Int} {st : List Lb} {j k : Nat} (hj : j ≤ k) (h : endO nn ls s (st.take j) = some x) : (ndsL nn ls s st k)[j]? = some x := by
  unfold ndsL
  rw [List.getElem?_map, List.getElem?_range (by omega)]
  simp [h]
theorem ndsL_succ {nn : Int} {ls : List Lk} {s z : Int} {st : List Lb} {k : Nat} (h : endO nn ls s (st.take (k + 1)) = some z) : ndsL nn ls s st (k + 1) = ndsL nn ls s st k ++ [z] := by
  unfold ndsL
  rw [List.range_succ, List.map_append]
  simp [h]
theorem stB_inv' {nn : Int} {ls : List Lk} {s : Int} {st : List Lb} (h : stB nn ls s st = true) : gvB nn ls = true ∧ (0 ≤ s ∧ s < nn) ∧ st.length ≤ 8 := by
  unfold stB at h
  simp only [Bool.and_eq_true, decide_eq_true_eq] at h
  exact ⟨(vwB_inv h.1).1, (vwB_inv h.1).2, h.2⟩

/-- What 'l4Nodes' leaves. -/
def NdsR (nn : Int) (ls : List Lk) (s : Int) (st : List Lb) (w : World) (e : Ending) (w' : World) : Prop :=
  ((endI nn ls s st).isSome = true ∧ ∃ A g c, e = .returned (.tuple #[.slice A (st.length + 1) c, .bool true]) ∧ w.heap.size ≤ g ∧ Own1i w' A g (ndsL nn ls s st st.length) ∧ Below w.heap.size w w') ∨
  ((endI nn ls s st).isSome = false ∧ ∃ v, e = .returned (.tuple #[v, .bool false]) ∧ Below w.heap.size w w')

set_option maxRecDepth 100000 in
set_option maxHeartbeats 1600000 in
theorem l4nodes_any (nn : Int) (A : Option Addr) (ls : List Lk) (c : Nat) (s : Int) (B : Option Addr) (st : List Lb) (cb : Nat) (w : World) (hm : ls.length ≤ 2000000) (hnu : nn ≤ 9223372036854775807) (hmb : st.length ≤ 2000000) (hS : Sl w w.heap.size A ls) (hT : Slb w w.heap.size B st) :
   Calls Try.prog 36 #[gval nn A ls.length c, .int .i64 s, .slice B st.length cb] w (NdsR nn ls s st w) := by
  obtain ⟨i0, hi, hz0, hz10, hz20⟩ := info_parts infoInt
  have B0 : Below w.heap.size w ((w.alloc (.cells #[.int .i64 nn, .slice A ls.length c] 25)).alloc (.cells #[.int .i64 s] 3)) := by (repeat (first | exact Below.refl _ _ | (refine Below.alloc ?_ (by first | exact Nat.le_refl _ | omega | (simp; done) | (simp; omega)) _) | (refine Below.setCell ?_ (by first | exact Nat.le_refl _ | omega | (simp; done) | (simp; omega)) _) | exact Below.drew ‹_›))
  have G0 := (Box.new w 25 #[.int .i64 nn, .slice A ls.length c]).alloc (.cells #[.int .i64 s] 3)
  have L0 := Box.new (w.alloc (.cells #[.int .i64 nn, .slice A ls.length c] 25)) 3 #[.int .i64 s]
  rw [World.size_alloc] at L0
  have P0 : PL w #[.int .i64 nn, .slice A ls.length c] (.slice (some ⟨w.heap.size + 1, 0, none⟩) 1 1) [s] ((w.alloc (.cells #[.int .i64 nn, .slice A ls.length c] 25)).alloc (.cells #[.int .i64 s] 3)) :=
    ⟨⟨by simp, .inr ⟨w.heap.size + 1, 1, #[.int .i64 s], rfl, Nat.le_refl _, L0, Nat.le_refl _, by unfold maxLen; omega, rfl, by simp⟩⟩, B0, G0⟩
  have HP0 := Lib.hid P0
  have C1 := valid_spec_any nn A ls c _ hm hnu ((hS.below B0).more B0.size)
  have HS := Lib.hid hS
  have HT := Lib.hid hT
  clear hS hT B0 L0 G0 P0
  cases hv : gvB nn ls with
  | false =>
    rw [hv] at C1
    have HE : Hid ((endI nn ls s st).isSome = false) := Lib.hid (by unfold endI stB vwB; rw [hv]; simp)
    clear hv
    go_enter Try.func36, Try.ntmps36
    go_wp2_with (go_at_call 62; refine C1.mono ?_; clear C1; rintro e w1 ⟨rfl, hb1⟩; have P1 := Lib.hid (HP0.out.call hb1); clear hb1)
    go_returns
    exact .inr ⟨HE.out, _, rfl, P1.out.bel⟩
  | true =>
    rw [hv] at C1
    obtain ⟨hf, hn1, hn8, hl14⟩ := gvB_fit hv
    obtain ⟨n, rfl⟩ : ∃ q : Nat, nn = (q : Int) := ⟨nn.toNat, by omega⟩
    have HV := Lib.hid hv
    have C2 := fun W => l1Node_any (n : Int) (.slice A ls.length c) s W (by omega) (by omega)
    by_cases hs : 0 ≤ s ∧ s < (n : Int)
    · have hin : inB s 0 ((n : Int) - 1) = true := by unfold inB; simp; omega
      rw [hin] at C2
      by_cases h8 : st.length ≤ 8
      · have HST : Hid (stB (n : Int) ls s st = true) := Lib.hid (by unfold stB vwB; rw [hv]; simp [hin, h8])
        have HLN : Hid (∀ k, (ndsL (n : Int) ls s st k).length = k + 1) := Lib.hid (fun k => ndsL_len _ _ _ _ k)
        have HNA : Hid (∀ (k : Nat) (x : Int), endO (n : Int) ls s (st.take k) = some x → (ndsL (n : Int) ls s st k)[k]? = some x) := Lib.hid (fun k x h => ndsL_at (Nat.le_refl _) h)
        clear hv hf hin
        go_enter Try.func36, Try.ntmps36
        go_wp2_with (first
          | (go_at_call 62; refine C1.mono ?_; clear C1; rintro e w1 ⟨rfl, hb1⟩; have P1 := Lib.hid (HP0.out.call hb1); have e10 : w1.cell? ⟨w.heap.size, 0, none⟩ = some (.int .i64 (n : Int)) := P1.out.box.cell 0; have e11 : w1.cell? ⟨w.heap.size, 1, none⟩ = some (.slice A ls.length c) := P1.out.box.cell 1; have z1 := P1.out.box.lt; clear hb1)
          | (go_at_call 63; refine (C2 _).mono ?_; clear C2; rintro e w2 ⟨rfl, hb2⟩; have P2 := Lib.hid (P1.out.call hb2); clear hb2 e10 e11 z1 P1))
        go_loopw [8, 9] (fun v i wr => ∃ (k : Nat) (x : Int), k ≤ st.length ∧ i = .int .i64 k ∧ endO (n : Int) ls s (st.take k) = some x ∧ (0 ≤ x ∧ x < (n : Int)) ∧ PL w #[.int .i64 (n : Int), .slice A ls.length c] v (ndsL (n : Int) ls s st k) wr) (fun _ i _ => st.length - (intOf i).toNat)
        case atStart => exact ⟨0, s, Nat.zero_le _, rfl, rfl, hs, P2.out⟩
        case round =>
          obtain ⟨k, x, hk, rfl, hend, hx, hP⟩ := hrel
          have HEND := Lib.hid hend
          have HP := Lib.hid hP
          have e20 : wr.cell? ⟨w.heap.size, 0, none⟩ = some (.int .i64 (n : Int)) := hP.box.cell 0
          have e21 : wr.cell? ⟨w.heap.size, 1, none⟩ = some (.slice A ls.length c) := hP.box.cell 1
          have z2 := hP.box.lt
          obtain ⟨A9, g9, c9, rfl, hg9, -, ho9⟩ := own_slicei hP.row (by have := hP.box.lt; omega)
          have hnl := HLN.out k
          clear hP hend P2
          by_cases hlt : k < st.length
          · obtain ⟨l, hl⟩ : ∃ l, st[k]? = some l := ⟨_, List.getElem?_eq_getElem hlt⟩
            obtain ⟨b, off, rfl, hbb, d1, d2⟩ := (HT.out.below HP.out.bel) k l hl
            have hbw : b < wr.heap.size := Nat.lt_of_lt_of_le hbb HP.out.bel.size
            obtain ⟨rfl, zg, hcx⟩ := ho9.at (HNA.out k x HEND.out)
            have C4 := l4step_any n A ls c x l wr.drew HV.out hx ((HS.out.below HP.out.bel).more HP.out.bel.size)
            have HNX := Lib.hid (endO_next HEND.out hl)
            have HND : Hid (∀ z, stepO (n : Int) ls x l = some z → 0 ≤ z ∧ z < (n : Int)) := Lib.hid (fun z h => stepO_node HV.out hx h)
            have HFL : Hid (stepO (n : Int) ls x l = none → endO (n : Int) ls s st = none) := Lib.hid (fun h => endO_fail HEND.out hl h)
            have HSC : Hid (∀ z, stepO (n : Int) ls x l = some z → ndsL (n : Int) ls s st (k + 1) = ndsL (n : Int) ls s st k ++ [z]) := Lib.hid (fun z h => ndsL_succ (by rw [HNX.out]; exact h))
            obtain ⟨lk, la⟩ := l
            dsimp only at d1 d2
            clear hl ho9 hg9
            generalize hq : ndsL (n : Int) ls s st k = q at *
            generalize stepO (n : Int) ls x ⟨lk, la⟩ = o at *
            have hkq : k < q.length := by omega
            have hql : (q.length : Int) = (k : Int) + 1 := by omega
            go_wp2_with fail
            have hX := fun (x : Ext wr.drew) (bb o : Nat) (h : bb < wr.heap.size) => (show x.w.cell? ⟨bb, o, none⟩ = wr.cell? ⟨bb, o, none⟩ from x.cell bb o h)
            refine wp_region_staged 15 (by kernel_rfl) (by kernel_rfl) ?_
            refine stage_seg _ 6 [0, 1, 2, 3, 4, 5, 6, 7, 8] (by kernel_rfl) (by kernel_rfl) (by kernel_rfl) (by kernel_rfl) ?_
            (simp only [List.map_cons, List.map_nil, List.getElem?_cons_zero, List.getElem?_cons_succ, Option.getD_some]); (repeat (go_big_quiet_step (fail))); (refine wpQuiet_nil ?_)
            refine stage_call _ 5 9 (by kernel_rfl) (by rfl) (by kernel_rfl) (by rfl) ?_
            go_wp2_with fail
            refine C4.mono ?_
            clear C4
            rintro e w4 ⟨rfl, hb4⟩
            refine ⟨hb4, ?_⟩
            have P4 := Lib.hid (HP.out.drew.call hb4)
            clear hX hb4 e20 e21 z2 d1 d2 hcx zg
            have hX4 := fun (x : Ext w4) (bb o : Nat) (h : bb < w4.heap.size) => x.cell bb o h
            have z4 := P4.out.box.lt
            cases o with
            | none =>
              have HF := Lib.hid (HFL.out rfl)
              unfold stepV
              refine stage_seg _ 0 [10, 11, 12, 13, 14] (by kernel_rfl) (by kernel_rfl) (by kernel_rfl) (by kernel_rfl) ?_
              (simp only [List.map_cons, List.map_nil, List.getElem?_cons_zero, List.getElem?_cons_succ, Option.getD_some]); (repeat (go_big_quiet_step (fail))); (refine wpQuiet_nil ?_)
              refine stage_end (by kernel_rfl) ?_
              clear hX4
              go_wp2_with fail
              go_returns
              exact .inr ⟨by unfold endI; rw [HF.out]; simp, _, rfl, P4.out.bel⟩
            | some z =>
              have HZN := Lib.hid (HND.out z rfl)
              have HZS := Lib.hid (HSC.out z rfl)
              unfold stepV
              refine stage_seg _ 0 [10, 11, 12, 13, 14] (by kernel_rfl) (by kernel_rfl) (by kernel_rfl) (by kernel_rfl) ?_
              (simp only [List.map_cons, List.map_nil, List.getElem?_cons_zero, List.getElem?_cons_succ, Option.getD_some]); (repeat (go_big_quiet_step (fail))); (refine wpQuiet_nil ?_)
              refine stage_end (by kernel_rfl) ?_
              clear hX4
              go_wp2_with (at_builtin; refine wpList_append_own_at _ rfl _ _ 33 rfl (w.heap.size + 1) 3 i0 _ 1 8 Try.underlying33 hi hz0 hz10 hz20 rfl (by decide) _ q.length _ rfl (P4.out.row.alloc _) ⟨w4.heap.size, 0, none⟩ 1 1 [.int .i64 z] rfl rfl (fun j u h => by obtain rfl : j = 0 := (by have := (List.getElem?_eq_some_iff.1 h).1; simpa using this); cases h; exact (Box.new w4 3 #[.int .i64 z]).cell 0) (fun u hu => by simp at hu; subst hu; rfl) (by unfold maxLen; omega) (by omega) (by simp; omega) ?_; intro v' w5 hown' hgrow _ hat; have HN := Lib.hid (P4.out.append hown' hgrow); clear hown' hgrow hat)
              go_roundw
              case rel => exact ⟨k + 1, z, hlt, by go_num, HNX.out, HZN.out, by rw [HZS.out]; exact HN.out⟩
              case measure => simp [intOf]; omega
          · obtain rfl : k = st.length := by omega
            have ho := Lib.hid ho9
            have hg := Lib.hid hg9
            rw [hnl]
            clear ho9 hg9
            go_wp2_with fail
            go_returns
            refine .inl ⟨?_, A9, g9, c9, rfl, by have := hg.out; omega, ho.out, HP.out.bel⟩
            have := HEND.out
            rw [List.take_length] at this
            unfold endI
            rw [if_pos HST.out, this]; rfl
      · have h8' : 8 < st.length := by omega
        have HE : Hid ((endI (n : Int) ls s st).isSome = false) := Lib.hid (by unfold endI stB; simp [h8])
        clear h8 hin hv hf
        go_enter Try.func36, Try.ntmps36
        go_wp2_with (first
          | (go_at_call 62; refine C1.mono ?_; clear C1; rintro e w1 ⟨rfl, hb1⟩; have P1 := Lib.hid (HP0.out.call hb1); have e10 : w1.cell? ⟨w.heap.size, 0, none⟩ = some (.int .i64 (n : Int)) := P1.out.box.cell 0; have e11 : w1.cell? ⟨w.heap.size, 1, none⟩ = some (.slice A ls.length c) := P1.out.box.cell 1; have z1 := P1.out.box.lt; clear hb1)
          | (go_at_call 63; refine (C2 _).mono ?_; clear C2; rintro e w2 ⟨rfl, hb2⟩; have P2 := Lib.hid (P1.out.call hb2); clear hb2 e10 e11 z1 P1))
        go_returns
        exact .inr ⟨HE.out, _, rfl, P2.out.bel⟩
    · have hin : inB s 0 ((n : Int) - 1) = false := by unfold inB; simp; omega
      rw [hin] at C2
      have HE : Hid ((endI (n : Int) ls s st).isSome = false) := Lib.hid (by unfold endI stB vwB; simp [hin])
      clear hin hv hf hs
      go_enter Try.func36, Try.ntmps36
      go_wp2_with (first
        | (go_at_call 62; refine C1.mono ?_; clear C1; rintro e w1 ⟨rfl, hb1⟩; have P1 := Lib.hid (HP0.out.call hb1); have e10 : w1.cell? ⟨w.heap.size, 0, none⟩ = some (.int .i64 (n : Int)) := P1.out.box.cell 0; have e11 : w1.cell? ⟨w.heap.size, 1, none⟩ = some (.slice A ls.length c) := P1.out.box.cell 1; have z1 := P1.out.box.lt; clear hb1)
        | (go_at_call 63; refine (C2 _).mono ?_; clear C2; rintro e w2 ⟨rfl, hb2⟩; have P2 := Lib.hid (P1.out.call hb2); clear hb2 e10 e11 z1 P1))
      go_returns
      exact .inr ⟨HE.out, _, rfl, P2.out.bel⟩

end Go.Proofs.Ytblmmmeeljidiab
