/-
  Contracts over this seat: the program's StackPath, StackEnd and StackCost.
-/
import Derived.Test.YtblmmmeeljidiabLe
import Derived.Test.YtblmmmeeljidiabSp
namespace Go.Proofs.Ytblmmmeeljidiab
open Go.RowKit Go.Maps

/-! ### Facts about the legs of a stack -/
def tails (xs : List (Lb × List Int)) : List Int := xs.flatMap fun x => x.2.drop 1
theorem tails_snoc (xs : List (Lb × List Int)) (x : Lb × List Int) : tails (xs ++ [x]) = tails xs ++ x.2.drop 1 := by simp [tails]
theorem pthO_tails {nn : Int} {ls : List Lk} {s z : Int} {st : List Lb} (h : endO nn ls s st = some z) : pthO nn ls s st = tails (legsO nn ls s st) := by
  induction st generalizing s with
  | nil => rfl
  | cons l st ih =>
    simp only [endO] at h
    simp only [pthO, legsO]
    cases hz : stepO nn ls s l with
    | none => rw [hz] at h; cases h
    | some u =>
      rw [hz] at h
      dsimp only at h ⊢
      rw [ih h]
      simp [tails]
theorem legsO_mem {n : Nat} {ls : List Lk} (hg : gvB (n : Int) ls = true) {st : List Lb} : ∀ {s : Int}, 0 ≤ s ∧ s < (n : Int) → ∀ x ∈ legsO (n : Int) ls s st, ∃ u, (0 ≤ u ∧ u < (n : Int)) ∧ x.2 = legP (n : Int) ls u x.1 ∧ x.2 ≠ [] := by
  induction st with
  | nil => intro s _ x hx; simp [legsO] at hx
  | cons l st ih =>
    intro s hs x hx
    simp only [legsO] at hx
    cases hz : stepO (n : Int) ls s l with
    | none => rw [hz] at hx; simp at hx
    | some u =>
      rw [hz] at hx
      dsimp only at hx
      rcases List.mem_cons.1 hx with rfl | hx
      · exact ⟨s, hs, rfl, stepO_leg hz⟩
      · exact ih (stepO_node hg hs hz) x hx
theorem legsO_len (nn : Int) (ls : List Lk) (st : List Lb) : ∀ s : Int, (legsO nn ls s st).length ≤ st.length := by
  induction st with
  | nil => intro s; simp [legsO]
  | cons l st ih =>
    intro s
    simp only [legsO]
    cases stepO nn ls s l with
    | none => simp
    | some u => have := ih u; simp; omega
theorem tails_len {xs : List (Lb × List Int)} (h : ∀ x ∈ xs, x.2.length ≤ 8) : (tails xs).length ≤ 7 * xs.length := by
  induction xs with
  | nil => simp [tails]
  | cons x xs ih =>
    have h1 := ih fun y hy => h y (List.mem_cons_of_mem _ hy)
    have h2 := h x (by simp)
    simp only [tails, List.flatMap_cons, List.length_append, List.length_drop, List.length_cons] at h1 ⊢
    omega
theorem endI_inv {nn : Int} {ls : List Lk} {s : Int} {st : List Lb} (h : (endI nn ls s st).isSome = true) : ∃ (n : Nat) (z : Int), nn = (n : Int) ∧ gvB (n : Int) ls = true ∧ (0 ≤ s ∧ s < (n : Int)) ∧ st.length ≤ 8 ∧ endO (n : Int) ls s st = some z ∧ endI nn ls s st = some z := by
  unfold endI at h ⊢
  by_cases hb : stB nn ls s st = true
  · rw [if_pos hb] at h ⊢
    obtain ⟨hg, hs, h8⟩ := stB_inv hb
    obtain ⟨n, rfl⟩ : ∃ q : Nat, nn = (q : Int) := ⟨nn.toNat, by omega⟩
    cases he : endO (n : Int) ls s st with
    | none => rw [he] at h; cases h
    | some z => exact ⟨n, z, rfl, hg, hs, h8, he, rfl⟩
  · rw [if_neg hb] at h; cases h
theorem pathS_some {nn : Int} {ls : List Lk} {s : Int} {st : List Lb} (h : (endI nn ls s st).isSome = true) : pathS nn ls s st = s :: tails (legsO nn ls s st) := by
  obtain ⟨n, z, rfl, hg, hs, h8, he, hi⟩ := endI_inv h
  unfold pathS
  rw [if_pos h, pthO_tails he]
theorem pathS_none {nn : Int} {ls : List Lk} {s : Int} {st : List Lb} (h : (endI nn ls s st).isSome = false) : pathS nn ls s st = [] := by
  unfold pathS
  rw [h]; rfl
theorem pathS_end {nn : Int} {ls : List Lk} {s z : Int} {st : List Lb} (h : endI nn ls s st = some z) : (pathS nn ls s st)[(pathS nn ls s st).length - 1]? = some z ∧ 0 < (pathS nn ls s st).length := by
  obtain ⟨n, z', rfl, hg, hs, h8, he, hi⟩ := endI_inv (by rw [h]; rfl)
  rw [hi] at h
  cases h
  unfold pathS
  rw [hi, Option.isSome_some, if_pos rfl]
  have := (pth_way hg hs he).2.1
  rw [List.getLast?_eq_getElem?] at this
  exact ⟨this, by simp⟩
theorem pathS_way {nn : Int} {ls : List Lk} {s : Int} {st : List Lb} : Way ls (pathS nn ls s st) := by
  cases h : (endI nn ls s st).isSome with
  | false => rw [pathS_none h]; intro k a b ha; simp at ha
  | true =>
    obtain ⟨n, z', rfl, hg, hs, h8, he, hi⟩ := endI_inv h
    unfold pathS
    rw [if_pos h]
    exact (pth_way hg hs he).1

/-! ### A list of numbers in memory that is newer than a world -/
structure PS (w1 : World) (v : Value) (out : List Int) (W : World) : Prop where
  row : W.ownsRow w1.heap.size 3 1 v out.length (out.map (Value.int .i64))
  bel : Below w1.heap.size w1 W
theorem PS.call {w1 : World} {v : Value} {out : List Int} {W W' : World} (h : PS w1 v out W) (hb : Below W.heap.size W W') : PS w1 v out W' :=
  ⟨owns_kept h.row hb, h.bel.trans (hb.mono h.bel.size)⟩
theorem PS.alloc {w1 : World} {v : Value} {out : List Int} {W : World} (h : PS w1 v out W) (o : Obj) : PS w1 v out (W.alloc o) := h.call ((Below.refl _ _).alloc (Nat.le_refl _) o)
theorem PS.append {w1 : World} {v v' : Value} {out news : List Int} {m : Nat} {W W' : World} (h : PS w1 v out W) (hown : W'.ownsRow w1.heap.size 3 1 v' (out.length + m) (out.map (Value.int .i64) ++ news.map (Value.int .i64))) (hm : m = news.length) (hg : W.grownBy W' v.ownBlock) : PS w1 v' (out ++ news) W' := by
  subst hm
  exact ⟨by rw [List.length_append, List.map_append]; exact hown, h.bel.grown hg h.bel.size (fun j e => (h.row.lt j e).1)⟩
theorem PS.newC {w w1 : World} {v : Value} {out : List Int} {W : World} (h : PS w1 v out W) (hb : Below w.heap.size w w1) : NewC out w (.returned v) W := by
  obtain ⟨A, g, c, e, hg, hc, ho⟩ := own_slicec h.row h.bel.size
  exact ⟨A, g, c, by rw [e], by have := hb.size; omega, ho, hb.trans (h.bel.mono hb.size), hc⟩
theorem Slg.at {w : World} {B : Nat} {A : Option Addr} {gs : List Lg} (h : Slg w B A gs) {k : Nat} {x : Lg} (hk : gs[k]? = some x) (hp : 0 < x.p.length) :
    ∃ b off g o, A = some ⟨b, off, none⟩ ∧ b < B ∧ w.cell? ⟨b, off + k * 2, none⟩ = some (byV x.l) ∧ w.cell? ⟨b, off + k * 2 + 1, none⟩ = some (.slice (some ⟨g, o, none⟩) x.p.length x.c) ∧ g < B ∧ x.p.length ≤ x.c ∧ ∀ i u, x.p[i]? = some u → w.cell? ⟨g, o + i, none⟩ = some (.int .i64 u) := by
  obtain ⟨b, off, e, hb, h1, h2, h3, h4⟩ := h k x hk
  obtain ⟨g, o, eA, hg, hc⟩ := h3 0 _ (List.getElem?_eq_getElem hp)
  rw [eA] at h2
  refine ⟨b, off, g, o, e, hb, h1, h2, hg, h4, fun i u hu => ?_⟩
  obtain ⟨g', o', e', _, hc'⟩ := h3 i u hu
  rw [eA] at e'
  cases e'
  exact hc'

theorem add_at (g o j : Nat) : (⟨g, o, none⟩ : Addr).add j = ⟨g, o + j, none⟩ := by
  unfold Addr.add
  by_cases hj : j = 0 <;> simp [hj]

theorem byV_iface (l : Lb) : ∃ T v, byV l = .iface T v := by unfold byV; split <;> exact ⟨_, _, rfl⟩
theorem news_at {w : World} {g o : Nat} {r : List Int} (h : ∀ (i : Nat) (u : Int), r[i]? = some u → w.cell? ⟨g, o + i, none⟩ = some (.int .i64 u)) : ∀ j u, (r.map (Value.int .i64))[j]? = some u → w.cell? ((⟨g, o, none⟩ : Addr).add j) = some u := by
  intro j u hj
  rw [List.getElem?_map] at hj
  cases hr : r[j]? with
  | none => rw [hr] at hj; cases hj
  | some y =>
    rw [hr] at hj
    cases hj
    rw [add_at]
    exact h j y hr
theorem news_one (r : List Int) : ∀ u ∈ r.map (Value.int .i64), u.oneCell' = true := by
  intro u hu
  obtain ⟨y, _, rfl⟩ := List.mem_map.1 hu
  rfl

set_option maxRecDepth 100000 in
set_option maxHeartbeats 1600000 in
theorem stackPath_impl (nn : Int) (A : Option Addr) (ls : List Lk) (c : Nat) (s : Int) (B : Option Addr) (st : List Lb) (cb : Nat) (w : World) (hm : ls.length ≤ 2000000) (hmb : st.length ≤ 2000000) (hS : Sl w w.heap.size A ls) (hT : Slb w w.heap.size B st) :
   Calls Try.prog 18 #[gval nn A ls.length c, .int .i64 s, .slice B st.length cb] w (NewC (pathS nn ls s st) w) := by
  obtain ⟨i0, hi, hz0, hz10, hz20⟩ := info_parts infoInt
  have B0 : Below w.heap.size w (w.alloc (.cells #[.int .i64 nn, .slice A ls.length c] 25)) := by (repeat (first | exact Below.refl _ _ | (refine Below.alloc ?_ (by first | exact Nat.le_refl _ | omega | (simp; done) | (simp; omega)) _) | (refine Below.setCell ?_ (by first | exact Nat.le_refl _ | omega | (simp; done) | (simp; omega)) _) | exact Below.drew ‹_›))
  have C1 := legs_any nn A ls c s B st cb _ hm hmb ((hS.below B0).more B0.size) (hT.grow B0)
  have HB := Lib.hid B0
  clear hS hT B0
  go_enter Try.func18, Try.ntmps18
  go_wp2_with fail
  refine C1.mono ?_
  clear C1
  rintro e w1 (⟨hok, A1, gs, c1, rfl, hmap, hsl, hb1⟩ | ⟨hok, rfl, hb1⟩)
  · have HPS := Lib.hid (pathS_some hok)
    obtain ⟨n, z, rfl, hg, hs, h8, -, -⟩ := endI_inv hok
    have B1 := Lib.hid (HB.out.trans (hb1.mono HB.out.size))
    have HSL := Lib.hid hsl
    have hgl : gs.length ≤ 8 := by
      have := congrArg List.length hmap
      rw [List.length_map] at this
      have := legsO_len (n : Int) ls st s
      omega
    have HM := Lib.hid hmap
    have HMEM : Hid (∀ x ∈ gs, 0 < x.p.length ∧ x.p.length ≤ 8) := Lib.hid (fun x hx => by
      obtain ⟨u, hu, e1, e2⟩ := legsO_mem hg hs x.lp (by rw [← hmap]; exact List.mem_map_of_mem hx)
      obtain ⟨_, _, _, _, _, h8', _⟩ := leg_fact hg hu (by rw [← e1]; exact e2)
      rw [← e1] at h8'
      exact ⟨List.length_pos_iff.2 e2, h8'⟩)
    clear hok hsl hb1 hmap HB hg
    have P1 : Hid (PS w1 (.slice (some ⟨w1.heap.size, 0, none⟩) 1 1) [s] (w1.alloc (.cells #[.int .i64 s] 3))) :=
      Lib.hid ⟨⟨by simp, .inr ⟨w1.heap.size, 1, #[.int .i64 s], rfl, Nat.le_refl _, Box.new w1 3 #[.int .i64 s], Nat.le_refl _, by unfold maxLen; omega, rfl, by simp⟩⟩, (Below.refl _ _).alloc (Nat.le_refl _) _⟩
    go_wp2_with fail
    go_loopw [9, 26] (fun v i wr => ∃ k : Nat, k ≤ gs.length ∧ i = .int .i64 k ∧ PS w1 v (s :: tails ((gs.take k).map Lg.lp)) wr) (fun _ i _ => gs.length - (intOf i).toNat)
    case atStart => exact ⟨0, Nat.zero_le _, rfl, P1.out⟩
    case round =>
      obtain ⟨k, hk, rfl, hP⟩ := hrel
      have HP := Lib.hid hP
      clear hP P1
      by_cases hlt : k < gs.length
      · obtain ⟨x, hx⟩ : ∃ x, gs[k]? = some x := ⟨_, List.getElem?_eq_getElem hlt⟩
        obtain ⟨hp0, hp8⟩ := HMEM.out x (List.mem_of_getElem? hx)
        obtain ⟨b, off, g, o, rfl, hb, hc1, hc2, hgB, hcp, hcell⟩ := (HSL.out.below HP.out.bel).at hx hp0
        have hbw : b < wr.heap.size := Nat.lt_of_lt_of_le hb HP.out.bel.size
        have htl : (tails ((gs.take k).map Lg.lp)).length ≤ 7 * 8 := by
          refine Nat.le_trans (tails_len fun y hy => ?_) ?_
          · obtain ⟨y', hy', rfl⟩ := List.mem_map.1 hy
            exact (HMEM.out y' (List.mem_of_mem_take hy')).2
          · simp; omega
        have HT : Hid (tails ((gs.take (k + 1)).map Lg.lp) = tails ((gs.take k).map Lg.lp) ++ x.p.drop 1) := Lib.hid (by
          rw [List.take_add_one, hx]
          simp only [Option.toList_some, List.map_append, List.map_cons, List.map_nil]
          rw [tails_snoc])
        have HC := Lib.hid hcell
        have hww := HP.out.bel.size
        have HP0 := Lib.hid (HP.out.alloc (.cells #[byV x.l, .slice (some ⟨g, o, none⟩) x.p.length x.c] 63))
        obtain ⟨l, p, A', g', c'⟩ := x
        dsimp only at *
        clear hx hcell HP
        have hbv := byV_iface l
        generalize byV l = bv at *
        obtain ⟨T, v0, rfl⟩ := hbv
        generalize tails ((gs.take k).map Lg.lp) = ts at *
        obtain ⟨u, r, rfl⟩ : ∃ u r, p = u :: r := by
          cases p with
          | nil => simp at hp0
          | cons u r => exact ⟨u, r, rfl⟩
        simp only [List.length_cons, List.drop_succ_cons, List.drop_zero] at *
        have HN : Hid (∀ (i : Nat) (y : Int), r[i]? = some y → (wr.alloc (.cells #[.iface T v0, .slice (some ⟨g, o, none⟩) (r.length + 1) c'] 63)).cell? ⟨g, o + 1 + i, none⟩ = some (.int .i64 y)) := Lib.hid (fun i y hy => by
          rw [show o + 1 + i = o + (i + 1) by omega]
          exact (World.cell?_alloc_lt wr _ ⟨g, _, none⟩ (Nat.lt_of_lt_of_le hgB hww)).trans (HC.out (i + 1) y (by simpa using hy)))
        by_cases hc1 : c' = 1
        · obtain rfl : r = [] := List.eq_nil_of_length_eq_zero (by omega)
          subst hc1
          simp only [List.length_nil, Nat.zero_add] at *
          go_wp2_with (at_builtin; refine wpList_append_own_at _ rfl _ _ 33 rfl w1.heap.size 3 i0 _ 1 8 Try.underlying33 hi hz0 hz10 hz20 rfl (by decide) _ (s :: ts).length _ rfl HP0.out.row ⟨g, o, none⟩ 0 0 ([].map (Value.int .i64)) rfl rfl (fun j u h => by simp at h) (fun u h => by simp at h) (by unfold maxLen; simp; omega) (by simp; omega) (by have := HP0.out.bel.size; omega) ?_; intro v' w3 hown' hgrow _ hat; have P3 := Lib.hid (HP0.out.append hown' rfl hgrow); clear hown' hgrow hat)
          go_roundw
          case rel => exact ⟨k + 1, hlt, by go_num, by rw [HT.out]; exact P3.out⟩
          case measure => simp [intOf]; omega
        · have hc2 : 1 < c' := by omega
          go_wp2_with (at_builtin; refine wpList_append_own_at _ rfl _ _ 33 rfl w1.heap.size 3 i0 _ 1 8 Try.underlying33 hi hz0 hz10 hz20 rfl (by decide) _ (s :: ts).length _ rfl HP0.out.row ⟨g, o + 1, none⟩ r.length (c' - 1) (r.map (Value.int .i64)) rfl (by simp) (news_at HN.out) (news_one r) (by unfold maxLen; simp; omega) (by simp; omega) (by have := HP0.out.bel.size; omega) ?_; intro v' w3 hown' hgrow _ hat; have P3 := Lib.hid (HP0.out.append hown' rfl hgrow); clear hown' hgrow hat)
          go_roundw
          case rel => exact ⟨k + 1, hlt, by go_num, by rw [HT.out]; exact P3.out⟩
          case measure => simp [intOf]; omega
      · obtain rfl : k = gs.length := by omega
        have hfin := HP.out.newC B1.out
        rw [List.take_length] at hfin
        go_wp2_with fail
        go_ret
        rw [HPS.out, ← HM.out]
        exact hfin
  · have HPS := Lib.hid (pathS_none hok)
    have B1 := Lib.hid (HB.out.trans (hb1.mono HB.out.size))
    clear hok hb1 HB
    go_wp2_with fail
    go_ret
    rw [HPS.out]
    exact ⟨_, w1.heap.size, _, rfl, B1.out.size, fun h => absurd h (by simp), B1.out.alloc B1.out.size _, by simp⟩

set_option maxRecDepth 100000 in
theorem stackEnd_impl (nn : Int) (A : Option Addr) (ls : List Lk) (c : Nat) (s : Int) (B : Option Addr) (st : List Lb) (cb : Nat) (w : World) (hm : ls.length ≤ 2000000) (hmb : st.length ≤ 2000000) (hS : Sl w w.heap.size A ls) (hT : Slb w w.heap.size B st) :
   Calls Try.prog 13 #[gval nn A ls.length c, .int .i64 s, .slice B st.length cb] w fun e w' => e = .returned (stepV (endI nn ls s st)) ∧ Below w.heap.size w w' := by
  have B0 : Below w.heap.size w (w.alloc (.cells #[.int .i64 nn, .slice A ls.length c] 25)) := by (repeat (first | exact Below.refl _ _ | (refine Below.alloc ?_ (by first | exact Nat.le_refl _ | omega | (simp; done) | (simp; omega)) _) | (refine Below.setCell ?_ (by first | exact Nat.le_refl _ | omega | (simp; done) | (simp; omega)) _) | exact Below.drew ‹_›))
  have C1 := stackPath_impl nn A ls c s B st cb _ hm hmb ((hS.below B0).more B0.size) (hT.grow B0)
  have HB := Lib.hid B0
  clear hS hT B0
  have hpl := pathS_len nn ls s st
  cases he : endI nn ls s st with
  | none =>
    rw [pathS_none (by rw [he]; rfl)] at C1
    clear he hpl
    go_enter Try.func13, Try.ntmps13
    go_wp2_with fail
    refine C1.mono ?_
    clear C1
    rintro e w1 ⟨A1, g1, c1, rfl, hg1, ho1, hb1, hcp⟩
    have B1 := Lib.hid (HB.out.trans (hb1.mono HB.out.size))
    clear hb1 ho1
    go_wp2_with fail
    go_returns
    exact ⟨rfl, B1.out⟩
  | some z =>
    obtain ⟨hz, hp0⟩ := pathS_end he
    generalize pathS nn ls s st = p at *
    obtain ⟨q, hq⟩ : ∃ q, p.length = q + 1 := ⟨p.length - 1, by omega⟩
    rw [hq, Nat.add_sub_cancel] at hz
    have hsub : (p.length : Int) - 1 = (q : Int) := by omega
    have hwp : IntKind.i64.wrap (q : Int) = (q : Int) := IntWalk.i64_in _ (by omega)
    have hql : q < p.length := by omega
    have hpe : ((p.length : Int) == 0) = false := by rw [beq_eq_false_iff_ne]; omega
    have HZ := Lib.hid hz
    clear he hz hq
    go_enter Try.func13, Try.ntmps13
    go_wp2_with fail
    refine C1.mono ?_
    clear C1
    rintro e w1 ⟨A1, g1, c1, rfl, hg1, ho1, hb1, hcp⟩
    have B1 := Lib.hid (HB.out.trans (hb1.mono HB.out.size))
    obtain ⟨rfl, zg, hcx⟩ := ho1.at HZ.out
    clear hb1 ho1
    go_wp2_with fail
    go_returns
    exact ⟨rfl, B1.out⟩

end Go.Proofs.Ytblmmmeeljidiab
