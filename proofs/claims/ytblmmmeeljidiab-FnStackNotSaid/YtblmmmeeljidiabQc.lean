/-
  Contracts over this seat: the specification's StackCost.
-/
import Derived.Test.YtblmmmeeljidiabSr
namespace Go.Proofs.Ytblmmmeeljidiab
open Go.RowKit Go.Maps

theorem legsC_bound {n : Nat} {ls : List Lk} (hg : gvB (n : Int) ls = true) {st : List Lb} : ∀ {s : Int}, 0 ≤ s ∧ s < (n : Int) → 0 ≤ legsC (n : Int) ls s st ∧ legsC (n : Int) ls s st ≤ 160 * st.length := by
  obtain ⟨hf, hn1, hn8, hl14⟩ := gvB_fit hg
  induction st with
  | nil => intro s _; simp [legsC]
  | cons l st ih =>
    intro s hs
    simp only [legsC]
    cases hz : stepO (n : Int) ls s l with
    | none => simp; omega
    | some u =>
      dsimp only
      have h1 := ih (stepO_node hg hs hz)
      have hne := stepO_leg hz
      obtain ⟨_, _, _, _, hw, h8, _⟩ := leg_fact hg hs hne
      have h2 := along_bound hg hw
      rw [leg_along hg hs hz] at h2
      simp only [List.length_cons]
      omega
/-- The cost of the first k labels. -/
def cstK (nn : Int) (ls : List Lk) (s : Int) (st : List Lb) (k : Nat) : Int := legsC nn ls s (st.take k)
theorem costS_legs {nn : Int} {ls : List Lk} {s : Int} {st : List Lb} (h : (endI nn ls s st).isSome = true) : costS nn ls s st = cstK nn ls s st st.length := by
  obtain ⟨n, z, rfl, hg, hs, h8, he, -⟩ := endI_inv h
  unfold costS cstK
  rw [if_pos h, along_legs hg hs he, List.take_length]

set_option maxRecDepth 100000 in
set_option maxHeartbeats 1600000 in
theorem stackCost_spec (nn : Int) (A : Option Addr) (ls : List Lk) (c : Nat) (s : Int) (B : Option Addr) (st : List Lb) (cb : Nat) (w : World) (hm : ls.length ≤ 2000000) (hnu : nn ≤ 9223372036854775807) (hmb : st.length ≤ 2000000) (hS : Sl w w.heap.size A ls) (hT : Slb w w.heap.size B st) :
   Calls Try.prog 17 #[gval nn A ls.length c, .int .i64 s, .slice B st.length cb] w fun e w' => e = .returned (.int .i64 (costS nn ls s st)) ∧ Below w.heap.size w w' := by
  have B0 : Below w.heap.size w (w.alloc (.cells #[.int .i64 nn, .slice A ls.length c] 25)) := by (repeat (first | exact Below.refl _ _ | (refine Below.alloc ?_ (by first | exact Nat.le_refl _ | omega | (simp; done) | (simp; omega)) _) | (refine Below.setCell ?_ (by first | exact Nat.le_refl _ | omega | (simp; done) | (simp; omega)) _) | exact Below.drew ‹_›))
  have C1 := l4nodes_any nn A ls c s B st cb _ hm hnu hmb ((hS.below B0).more B0.size) (hT.grow B0)
  unfold NdsR at C1
  have HB := Lib.hid B0
  have HG := Lib.hid (Box.new w 25 #[.int .i64 nn, .slice A ls.length c])
  have HS := Lib.hid hS
  have HT := Lib.hid hT
  clear hS hT B0
  go_enter Try.func17, Try.ntmps17
  go_wp2_with fail
  refine C1.mono ?_
  clear C1
  rintro e w1 (⟨hok, A1, g1, c1, rfl, hg1, ho1, hb1⟩ | ⟨hok, v, rfl, hb1⟩)
  · have HPS := Lib.hid (costS_legs hok)
    obtain ⟨n, z, rfl, hg, hs, h8, he, -⟩ := endI_inv hok
    have B1 := Lib.hid (HB.out.trans (hb1.mono HB.out.size))
    have G1 := Lib.hid (HG.out.below hb1 HG.out.lt)
    have O1 := Lib.hid ho1
    have HV := Lib.hid hg
    have HEN : Hid (∀ k, ∃ x, endO (n : Int) ls s (st.take k) = some x) := Lib.hid (fun k => endO_upto he k)
    have HNL : Hid ((ndsL (n : Int) ls s st st.length).length = st.length + 1) := Lib.hid (ndsL_len _ _ _ _ _)
    have HNA : Hid (∀ (k : Nat) (x : Int), k ≤ st.length → endO (n : Int) ls s (st.take k) = some x → (ndsL (n : Int) ls s st st.length)[k]? = some x) := Lib.hid (fun k x hk h => ndsL_at hk h)
    have HBD : Hid (∀ k, 0 ≤ cstK (n : Int) ls s st k ∧ cstK (n : Int) ls s st k ≤ 1280) := Lib.hid (fun k => by
      have := legsC_bound hg (st := st.take k) hs
      have : (st.take k).length ≤ 8 := by simp; omega
      unfold cstK
      omega)
    have HC0 : Hid (cstK (n : Int) ls s st 0 = 0) := Lib.hid rfl
    clear hok ho1 hb1 hg he HB HG
    go_wp2_with fail
    go_loopw [9, 10] (fun v i wr => ∃ k : Nat, k ≤ st.length ∧ i = .int .i64 k ∧ v = .int .i64 (cstK (n : Int) ls s st k) ∧ Below w1.heap.size w1 wr) (fun _ i _ => st.length - (intOf i).toNat)
    case atStart => exact ⟨0, Nat.zero_le _, rfl, by rw [HC0.out], Below.refl _ _⟩
    case round =>
      obtain ⟨k, hk, rfl, rfl, hb⟩ := hrel
      by_cases hlt : k < st.length
      · obtain ⟨l, hl⟩ : ∃ l, st[k]? = some l := ⟨_, List.getElem?_eq_getElem hlt⟩
        obtain ⟨x, hx⟩ := HEN.out k
        obtain ⟨y, hy⟩ := HEN.out (k + 1)
        have hstep : stepO (n : Int) ls x l = some y := by rw [← endO_next hx hl]; exact hy
        have hxn : 0 ≤ x ∧ x < (n : Int) := endO_node HV.out hs hx
        have hyn : 0 ≤ y ∧ y < (n : Int) := endO_node HV.out hs hy
        have HNX : Hid (cstK (n : Int) ls s st (k + 1) = cstK (n : Int) ls s st k + legC (n : Int) ls x y l) := Lib.hid (by unfold cstK; exact legsC_next hx hl hstep)
        have hne := stepO_leg hstep
        have hkk := leg_kind hne
        have hbd := HBD.out k
        have hwz := hb.size
        have hBW := B1.out.trans (hb.mono B1.out.size)
        have hwz0 := hBW.size
        obtain ⟨b, off, rfl, hbb, d1, d2⟩ := (HT.out.below hBW) k l hl
        have zb2 : b < wr.heap.size := Nat.lt_of_lt_of_le hbb hwz0
        obtain ⟨rfl, zg1, hcx⟩ := (O1.out.below hb).at (HNA.out k x hk hx)
        obtain ⟨-, -, hcy⟩ := (O1.out.below hb).at (HNA.out (k + 1) y hlt hy)
        obtain ⟨zw2, e0, e1, -, -⟩ := (G1.out.below hb G1.out.lt).two
        have HBW := Lib.hid hBW
        have hkl : (k : Int) < (st.length : Int) + 1 := by omega
        generalize cstK (n : Int) ls s st k = q at *
        rcases hkk with hk1 | hk2
        · have HLC : Hid (legC (n : Int) ls x y l = bf (n : Int) ls x y) := Lib.hid (by unfold legC; rw [if_neg (by omega)])
          obtain ⟨lk, la⟩ := l
          dsimp only at d1 d2 hk1
          subst hk1
          obtain ⟨hf, hn1, hn8, hl14⟩ := gvB_fit HV.out
          obtain ⟨yn, rfl⟩ : ∃ q : Nat, y = (q : Int) := ⟨y.toNat, by omega⟩
          have C2 := l2d_any n A ls c x wr.drew (by omega) (by omega) hl14 hf hxn ((HS.out.below hBW).more hwz0)
          have hd := fl_at (f := bf (n : Int) ls x) (show yn < n by omega)
          have hdl := fl_len n (bf (n : Int) ls x)
          have hbx := bf_bound hf hxn hn8 (yn : Int)
          generalize bf (n : Int) ls x (yn : Int) = d at *
          generalize fl n (bf (n : Int) ls x) = ds at *
          have HD := Lib.hid hd
          have hal := (List.getElem?_eq_some_iff.1 hd).1
          have HO := Lib.hid (O1.out.below hb)
          have HBB := Lib.hid hb
          clear hl hx hy hstep hne hd hf hb hBW
          go_wp2_with fail
          have hX := fun (x : Ext wr.drew) (bb o : Nat) (h : bb < wr.heap.size) => (show x.w.cell? ⟨bb, o, none⟩ = wr.cell? ⟨bb, o, none⟩ from x.cell bb o h)
          refine wp_region_staged 16 (by kernel_rfl) (by kernel_rfl) ?_
          refine stage_seg _ 5 [0, 1, 2, 3, 4, 5, 7, 8, 9, 10, 11] (by kernel_rfl) (by kernel_rfl) (by kernel_rfl) (by kernel_rfl) ?_
          (simp only [List.map_cons, List.map_nil, List.getElem?_cons_zero, List.getElem?_cons_succ, Option.getD_some]); (repeat (go_big_quiet_step (fail))); (refine wpQuiet_nil ?_)
          refine stage_call _ 4 6 (by kernel_rfl) (by rfl) (by kernel_rfl) (by rfl) ?_
          go_wp2_with fail
          refine C2.mono ?_
          clear C2
          rintro e w4 ⟨A4, g4, c4, rfl, hg4, ho4, hb4⟩
          refine ⟨hb4, ?_⟩
          obtain ⟨rfl, zg4, hc4⟩ := ho4.at HD.out
          have B4 := Lib.hid (HBB.out.drew.trans (hb4.mono hwz))
          clear hX hb4 ho4 hg4 e0 e1 zw2 d1 d2 hcx hcy zg1
          have hX4 := fun (x : Ext w4) (bb o : Nat) (h : bb < w4.heap.size) => x.cell bb o h
          refine stage_seg _ 0 [12, 13, 14, 15] (by kernel_rfl) (by kernel_rfl) (by kernel_rfl) (by kernel_rfl) ?_
          (simp only [List.map_cons, List.map_nil, List.getElem?_cons_zero, List.getElem?_cons_succ, Option.getD_some]); (repeat (go_big_quiet_step (fail))); (refine wpQuiet_nil ?_)
          refine stage_end (by kernel_rfl) ?_
          clear hX4
          go_wp2_with fail
          go_roundw
          case rel => exact ⟨k + 1, hlt, by go_num, by rw [HNX.out, HLC.out], B4.out⟩
          case measure => simp [intOf]; omega
        · obtain ⟨j, lk, ha, hlk, ht, e⟩ := leg_link hk2 hne
          have HLC : Hid (legC (n : Int) ls x y l = lk.c) := Lib.hid (by unfold legC; rw [if_pos hk2, ha, Int.toNat_natCast, costAt_at hlk])
          have hgl := gvB_at HV.out hlk
          have hjl := (List.getElem?_eq_some_iff.1 hlk).1
          obtain ⟨b2, off2, rfl, hbb2, c1, c2, c3⟩ := (HS.out.below hBW) j lk hlk
          have zb3 : b2 < wr.heap.size := Nat.lt_of_lt_of_le hbb2 hwz0
          obtain ⟨kk, la⟩ := l
          dsimp only at d1 d2 hk2 ha
          subst hk2 ha
          have HBB := Lib.hid hb
          clear hl hx hy hstep hne hb hBW hlk e ht
          go_wp2_with fail
          go_quiet (fail)
          go_wp2_with fail
          go_roundw
          case rel => exact ⟨k + 1, hlt, by go_num, by rw [HNX.out, HLC.out], by first | exact HBB.out.drew | exact below_drewN HBB.out _⟩
          case measure => simp [intOf]; omega
      · obtain rfl : k = st.length := by omega
        have HBB := Lib.hid (B1.out.trans (hb.mono B1.out.size))
        clear hb
        go_wp2_with fail
        go_ret
        rw [HPS.out]
        exact ⟨rfl, HBB.out⟩
  · have HPS := Lib.hid (costS_none hok)
    have B1 := Lib.hid (HB.out.trans (hb1.mono HB.out.size))
    clear hok hb1 HB
    go_wp2_with fail
    go_ret
    rw [HPS.out]
    exact ⟨rfl, B1.out⟩

end Go.Proofs.Ytblmmmeeljidiab
