/-
  Contracts over this seat: the specification's StackPath.
-/
import Derived.Test.YtblmmmeeljidiabSr
namespace Go.Proofs.Ytblmmmeeljidiab
open Go.RowKit Go.Maps

/-- The nodes of the first k labels. -/
def pthK (nn : Int) (ls : List Lk) (s : Int) (st : List Lb) (k : Nat) : List Int := s :: pthO nn ls s (st.take k)

set_option maxRecDepth 100000 in
set_option maxHeartbeats 1600000 in
theorem stackPath_spec (nn : Int) (A : Option Addr) (ls : List Lk) (c : Nat) (s : Int) (B : Option Addr) (st : List Lb) (cb : Nat) (w : World) (hm : ls.length ≤ 2000000) (hnu : nn ≤ 9223372036854775807) (hmb : st.length ≤ 2000000) (hS : Sl w w.heap.size A ls) (hT : Slb w w.heap.size B st) :
   Calls Try.prog 22 #[gval nn A ls.length c, .int .i64 s, .slice B st.length cb] w (NewC (pathS nn ls s st) w) := by
  obtain ⟨i0, hi, hz0, hz10, hz20⟩ := info_parts infoInt
  have B0 : Below w.heap.size w (w.alloc (.cells #[.int .i64 nn, .slice A ls.length c] 25)) := by (repeat (first | exact Below.refl _ _ | (refine Below.alloc ?_ (by first | exact Nat.le_refl _ | omega | (simp; done) | (simp; omega)) _) | (refine Below.setCell ?_ (by first | exact Nat.le_refl _ | omega | (simp; done) | (simp; omega)) _) | exact Below.drew ‹_›))
  have C1 := l4nodes_any nn A ls c s B st cb _ hm hnu hmb ((hS.below B0).more B0.size) (hT.grow B0)
  unfold NdsR at C1
  have HB := Lib.hid B0
  have HG := Lib.hid (Box.new w 25 #[.int .i64 nn, .slice A ls.length c])
  have HS := Lib.hid hS
  have HT := Lib.hid hT
  clear hS hT B0
  go_enter Try.func22, Try.ntmps22
  go_wp2_with fail
  refine C1.mono ?_
  clear C1
  rintro e w1 (⟨hok, A1, g1, c1, rfl, hg1, ho1, hb1⟩ | ⟨hok, v, rfl, hb1⟩)
  · have HPS : Hid (pathS nn ls s st = pthK nn ls s st st.length) := Lib.hid (by unfold pathS pthK; rw [if_pos hok, List.take_length])
    obtain ⟨n, z, rfl, hg, hs, h8, he, -⟩ := endI_inv hok
    have B1 := Lib.hid (HB.out.trans (hb1.mono HB.out.size))
    have G1 := Lib.hid (HG.out.below hb1 HG.out.lt)
    have O1 := Lib.hid ho1
    have z1 := G1.out.lt
    have HV := Lib.hid hg
    have HEN : Hid (∀ k, ∃ x, endO (n : Int) ls s (st.take k) = some x) := Lib.hid (fun k => endO_upto he k)
    have HNL : Hid ((ndsL (n : Int) ls s st st.length).length = st.length + 1) := Lib.hid (ndsL_len _ _ _ _ _)
    have HNA : Hid (∀ (k : Nat) (x : Int), k ≤ st.length → endO (n : Int) ls s (st.take k) = some x → (ndsL (n : Int) ls s st st.length)[k]? = some x) := Lib.hid (fun k x hk h => ndsL_at hk h)
    have HPL : Hid (∀ k, (pthK (n : Int) ls s st k).length ≤ 57) := Lib.hid (fun k => by
      obtain ⟨x, hx⟩ := endO_upto he k
      have := (pth_way hg hs hx).2.2
      unfold pthK
      have : (st.take k).length ≤ 8 := by simp; omega
      simp only [List.length_cons]
      omega)
    have P1 : Hid (PS w1 (.slice (some ⟨w1.heap.size, 0, none⟩) 1 1) (pthK (n : Int) ls s st 0) (w1.alloc (.cells #[.int .i64 s] 3))) :=
      Lib.hid ⟨⟨by simp [pthK, pthO], .inr ⟨w1.heap.size, 1, #[.int .i64 s], rfl, Nat.le_refl _, Box.new w1 3 #[.int .i64 s], Nat.le_refl _, by unfold maxLen; omega, rfl, by simp [pthK, pthO]⟩⟩, (Below.refl _ _).alloc (Nat.le_refl _) _⟩
    clear hok ho1 hb1 hg he HB HG
    go_wp2_with fail
    go_loopw [9, 10] (fun v i wr => ∃ k : Nat, k ≤ st.length ∧ i = .int .i64 k ∧ PS w1 v (pthK (n : Int) ls s st k) wr) (fun _ i _ => st.length - (intOf i).toNat)
    case atStart => exact ⟨0, Nat.zero_le _, rfl, P1.out⟩
    case round =>
      obtain ⟨k, hk, rfl, hP⟩ := hrel
      have HP := Lib.hid hP
      clear hP P1
      by_cases hlt : k < st.length
      · obtain ⟨l, hl⟩ : ∃ l, st[k]? = some l := ⟨_, List.getElem?_eq_getElem hlt⟩
        obtain ⟨x, hx⟩ := HEN.out k
        obtain ⟨y, hy⟩ := HEN.out (k + 1)
        have hstep : stepO (n : Int) ls x l = some y := by rw [← endO_next hx hl]; exact hy
        have hxn : 0 ≤ x ∧ x < (n : Int) := endO_node HV.out hs hx
        have HNX : Hid (pthK (n : Int) ls s st (k + 1) = pthK (n : Int) ls s st k ++ (legP (n : Int) ls x l).drop 1) := Lib.hid (by unfold pthK; rw [pthO_next hx hl hstep]; rfl)
        have hl8 : (legP (n : Int) ls x l).length ≤ 8 := by
          obtain ⟨_, _, _, _, _, h, _⟩ := leg_fact HV.out hxn (stepO_leg hstep)
          exact h
        have hdl : ((legP (n : Int) ls x l).drop 1).length ≤ 8 := by simp; omega
        have hbl := HP.out.bel
        have hwz := hbl.size
        obtain ⟨b, off, rfl, hbb, d1, d2⟩ := (HT.out.below B1.out) k l hl
        have d1' : wr.cell? ⟨b, off + k * 2, none⟩ = some (.int .i64 l.k) := (hbl.cell (p := ⟨b, off + k * 2, none⟩) (Nat.lt_of_lt_of_le hbb B1.out.size)).trans d1
        have d2' : wr.cell? ⟨b, off + k * 2 + 1, none⟩ = some (.int .i64 l.a) := (hbl.cell (p := ⟨b, off + k * 2 + 1, none⟩) (Nat.lt_of_lt_of_le hbb B1.out.size)).trans d2
        have zb1 : b < w1.heap.size := Nat.lt_of_lt_of_le hbb B1.out.size
        have zb2 : b < wr.heap.size := Nat.lt_of_lt_of_le zb1 hwz
        obtain ⟨rfl, zg1, hcx⟩ := O1.out.at (HNA.out k x hk hx)
        obtain ⟨-, -, hcy⟩ := O1.out.at (HNA.out (k + 1) y hlt hy)
        have hcx' : wr.cell? ⟨g1, k, none⟩ = some (.int .i64 x) := (hbl.cell (p := ⟨g1, k, none⟩) zg1).trans hcx
        have hcy' : wr.cell? ⟨g1, k + 1, none⟩ = some (.int .i64 y) := (hbl.cell (p := ⟨g1, k + 1, none⟩) zg1).trans hcy
        have zg2 : g1 < wr.heap.size := Nat.lt_of_lt_of_le zg1 hwz
        have e0 : wr.cell? ⟨w.heap.size, 0, none⟩ = some (.int .i64 (n : Int)) := (hbl.cell (p := ⟨w.heap.size, 0, none⟩) z1).trans (G1.out.cell 0)
        have e1 : wr.cell? ⟨w.heap.size, 1, none⟩ = some (.slice A ls.length c) := (hbl.cell (p := ⟨w.heap.size, 1, none⟩) z1).trans (G1.out.cell 1)
        have zw2 : w.heap.size < wr.heap.size := Nat.lt_of_lt_of_le z1 hwz
        have C4 := l4part_any n A ls c x y l wr.drew HV.out hxn hstep (((HS.out.below B1.out).below (hbl.mono B1.out.size)).more (Nat.le_trans B1.out.size hwz))
        have hpk := HPL.out k
        have HPD := Lib.hid (show PS w1 _ (pthK (n : Int) ls s st k) wr.drew from ⟨HP.out.row, HP.out.bel.drew⟩)
        obtain ⟨lk, la⟩ := l
        dsimp only at d1' d2'
        clear d1 d2 hcx hcy hx hy hl hstep hl8 hbl HP
        generalize (legP (n : Int) ls x ⟨lk, la⟩).drop 1 = q at *
        generalize pthK (n : Int) ls s st k = out at *
        go_wp2_with fail
        have hX := fun (x : ExtB w1.heap.size wr.drew) (bb o : Nat) (h : bb < w1.heap.size) => (show x.w.cell? ⟨bb, o, none⟩ = wr.cell? ⟨bb, o, none⟩ from x.cell bb o h)
        refine wp_region_stg 18 w1.heap.size (by kernel_rfl) (by kernel_rfl) ?_
        refine stg_seg _ 3 [0, 1, 2, 3, 4, 5, 6, 7, 8, 9, 10, 11, 12, 13, 14] (by kernel_rfl) (by kernel_rfl) (by kernel_rfl) (by kernel_rfl) ?_
        (simp only [List.map_cons, List.map_nil, List.getElem?_cons_zero, List.getElem?_cons_succ, Option.getD_some]); (repeat (go_big_quiet_step (fail))); (refine wpQuiet_nil ?_)
        refine stg_one _ 2 15 (by kernel_rfl) (by rfl) (by kernel_rfl) (by rfl) ?_
        go_wp2_with fail
        refine C4.mono ?_
        clear C4
        rintro e w4 ⟨g4, o4, c4, rfl, hc4, hb4⟩
        refine ⟨hb4.mono hwz, w1.heap.size, Nat.le_refl _, ?_⟩
        have P4 := Lib.hid (HPD.out.call hb4)
        have HC4 := Lib.hid hc4
        clear hb4 hc4 hX
        refine stg_one _ 1 16 (by kernel_rfl) (by rfl) (by kernel_rfl) (by rfl) ?_
        refine wp_append_own w4 _ _ 33 rfl w1.heap.size 3 i0 _ 1 8 Try.underlying33 hi hz0 hz10 hz20 rfl (by decide) _ out.length _ rfl P4.out.row ⟨g4, o4, none⟩ q.length c4 (q.map (Value.int .i64)) rfl (by simp) (news_at HC4.out) (news_one q) (by unfold maxLen; omega) (by omega) P4.out.bel.size ?_
        intro v' w5 hown' hgrow _
        have P5 := Lib.hid (P4.out.append hown' rfl hgrow)
        refine ⟨(Below.refl _ _).grown hgrow P4.out.bel.size (fun j e => (P4.out.row.lt j e).1), w1.heap.size, Nat.le_refl _, ?_⟩
        clear hown' hgrow
        go_simp
        refine stg_seg _ 0 [17] (by kernel_rfl) (by kernel_rfl) (by kernel_rfl) (by kernel_rfl) ?_
        (simp only [List.map_cons, List.map_nil, List.getElem?_cons_zero, List.getElem?_cons_succ, Option.getD_some]); (repeat (go_big_quiet_step (fail))); (refine wpQuiet_nil ?_)
        refine stg_end (by kernel_rfl) ?_
        go_wp2_with fail
        go_roundw
        case rel => exact ⟨k + 1, hlt, by go_num, by rw [HNX.out]; exact P5.out⟩
        case measure => simp [intOf]; omega
      · obtain rfl : k = st.length := by omega
        have hfin := HP.out.newC B1.out
        go_wp2_with fail
        go_ret
        rw [HPS.out]
        exact hfin
  · have HPS := Lib.hid (pathS_none hok)
    have B1 := Lib.hid (HB.out.trans (hb1.mono HB.out.size))
    clear hok hb1 HB
    go_wp2_with fail
    go_ret
    rw [HPS.out]
    exact ⟨_, w1.heap.size, _, rfl, B1.out.size, fun h => absurd h (by simp), B1.out.alloc B1.out.size _, by simp⟩

end Go.Proofs.Ytblmmmeeljidiab
