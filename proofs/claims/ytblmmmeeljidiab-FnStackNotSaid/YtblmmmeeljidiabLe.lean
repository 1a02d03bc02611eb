/-
  Contracts over this seat: legs: the way of a packet, label by label.
-/
import Derived.Test.YtblmmmeeljidiabLg
namespace Go.Proofs.Ytblmmmeeljidiab
open Go.RowKit Go.Maps

theorem infoLeg : (Try.prog.info? 63).map (fun i => (i.zero, i.size, i.bytes)) = some (some (.agg #[.nilIface, .slice none 0 0]), 2, 40) := by kernel_rfl

/-- The ways of labels, one after the other. -/
def legsO (nn : Int) (ls : List Lk) : Int → List Lb → List (Lb × List Int)
  | _, [] => []
  | s, l :: st => match stepO nn ls s l with
    | some z => (l, legP nn ls s l) :: legsO nn ls z st
    | none => []
theorem legsO_append {nn : Int} {ls : List Lk} {s z : Int} {x : List Lb} (y : List Lb) (h : endO nn ls s x = some z) : legsO nn ls s (x ++ y) = legsO nn ls s x ++ legsO nn ls z y := by
  induction x generalizing s with
  | nil => simp only [endO, Option.some.injEq] at h; subst h; rfl
  | cons l x ih =>
    simp only [endO] at h
    simp only [List.cons_append, legsO]
    cases hs : stepO nn ls s l with
    | none => rw [hs] at h; cases h
    | some u =>
      rw [hs] at h
      dsimp only at h ⊢
      rw [ih h]; rfl
theorem legsO_next {nn : Int} {ls : List Lk} {s x z : Int} {st : List Lb} {k : Nat} {l : Lb} (h : endO nn ls s (st.take k) = some x) (hl : st[k]? = some l) (hz : stepO nn ls x l = some z) :
    legsO nn ls s (st.take (k + 1)) = legsO nn ls s (st.take k) ++ [(l, legP nn ls x l)] := by
  rw [take_succ' hl, legsO_append _ h]
  simp [legsO, hz]

/-- A leg in memory: its label, its nodes and where they lie. -/
structure Lg where
  l : Lb
  p : List Int
  A : Option Addr
  g : Nat
  c : Nat
abbrev Lg.lp (x : Lg) : Lb × List Int := (x.l, x.p)
def flatG : List Lg → List Value
  | [] => []
  | x :: xs => byV x.l :: .slice x.A x.p.length x.c :: flatG xs
theorem flatG_len (gs : List Lg) : (flatG gs).length = gs.length * 2 := by
  induction gs with
  | nil => rfl
  | cons x xs ih => simp [flatG, ih]; omega
theorem flatG_append (xs ys : List Lg) : flatG (xs ++ ys) = flatG xs ++ flatG ys := by
  induction xs with
  | nil => rfl
  | cons l ls ih => simp [flatG, ih]
theorem flatG_at (gs : List Lg) : ∀ (k : Nat) (x : Lg), gs[k]? = some x → (flatG gs)[k * 2]? = some (byV x.l) ∧ (flatG gs)[k * 2 + 1]? = some (.slice x.A x.p.length x.c) := by
  induction gs with
  | nil => intro k l h; simp at h
  | cons x ls ih =>
    intro k l h
    cases k with
    | zero =>
      simp at h
      subst h
      exact ⟨rfl, rfl⟩
    | succ k =>
      obtain ⟨h1, h2⟩ := ih k l (by simpa using h)
      rw [show (k + 1) * 2 = k * 2 + 1 + 1 by omega]
      exact ⟨h1, h2⟩
/-- The slice of address A reads as the legs gs, below block B; the nodes of each lie in memory of the call's own. -/
def Slg (w : World) (B : Nat) (A : Option Addr) (gs : List Lg) : Prop :=
  ∀ k x, gs[k]? = some x → ∃ b off, A = some ⟨b, off, none⟩ ∧ b < B ∧ w.cell? ⟨b, off + k * 2, none⟩ = some (byV x.l) ∧ w.cell? ⟨b, off + k * 2 + 1, none⟩ = some (.slice x.A x.p.length x.c) ∧ Sli w B x.A x.p ∧ x.p.length ≤ x.c
theorem Slg.below {w w' : World} {B : Nat} {A : Option Addr} {gs : List Lg} (h : Slg w B A gs) (hb : Below B w w') : Slg w' B A gs := by
  intro k l hl
  obtain ⟨b, off, e, hb', h1, h2, h3, h4⟩ := h k l hl
  exact ⟨b, off, e, hb', (hb.cell (p := ⟨b, _, none⟩) hb').trans h1, (hb.cell (p := ⟨b, _, none⟩) hb').trans h2, h3.below hb, h4⟩
theorem Slg.more {w : World} {B B' : Nat} {A : Option Addr} {gs : List Lg} (h : Slg w B A gs) (hb : B ≤ B') : Slg w B' A gs := by
  intro k l hl
  obtain ⟨b, off, e, hb', h1, h2, h3, h4⟩ := h k l hl
  exact ⟨b, off, e, by omega, h1, h2, h3.more hb, h4⟩
theorem Slg.grow {w w' : World} {A : Option Addr} {gs : List Lg} (h : Slg w w.heap.size A gs) (hb : Below w.heap.size w w') : Slg w' w'.heap.size A gs := (h.below hb).more hb.size

theorem new2v (w : World) (x y : Value) (t : TypeId) : ∀ j u, [x, y][j]? = some u → (w.alloc (.cells #[x, y] t)).cell? ((⟨w.heap.size, 0, none⟩ : Addr).add j) = some u := by
  intro j u h
  have e : (⟨w.heap.size, 0, none⟩ : Addr).add j = ⟨w.heap.size, j, none⟩ := by
    unfold Addr.add
    by_cases hj : j = 0 <;> simp [hj]
  rw [e, (Box.new w t #[x, y]).cell j]
  simpa using h
theorem one2v (x y : Value) (hx : x.oneCell' = true) (hy : y.oneCell' = true) : ∀ u ∈ [x, y], u.oneCell' = true := by
  intro u hu
  simp at hu
  rcases hu with rfl | rfl
  · exact hx
  · exact hy
/-- Numbers lie where they lay behind an append onto a row of legs. -/
theorem Own1i.row {W W' : World} {base n : Nat} {v : Value} {xs : List Value} {o : Obj} {A : Option Addr} {g : Nat} {p : List Int} (h : Own1i W A g p) (hr : W.ownsRow base 63 2 v n xs) (hg : (W.alloc o).grownBy W' v.ownBlock) : Own1i W' A g p := fun hp => by
  obtain ⟨e, cs, hh, hc⟩ := h hp
  have hne := own_box_ne hr (g := g) (t := 3) hh (by decide)
  exact ⟨e, cs, (hg.block g (by have := heap_lt hh; simp; omega) (fun e => hne e.symm)).trans ((Below.heap_alloc W o g (heap_lt hh)).trans hh), hc⟩
theorem own_keep {W W' : World} {base n : Nat} {v : Value} {xs : List Value} {o : Obj} {A : Option Addr} {g i : Nat} {p : List Int} {u : Value} (hg : (W.alloc o).grownBy W' v.ownBlock) (hr : W.ownsRow base 63 2 v n xs) (h : Own1i W A g p) (hc : W.cell? ⟨g, i, none⟩ = some u) (hp : 0 < p.length := by omega) : W'.cell? ⟨g, i, none⟩ = some u := by
  obtain ⟨e, cs, hh, _⟩ := h hp
  have h2 := Own1i.row h hr hg hp
  obtain ⟨_, cs', hh', _⟩ := h2
  have hne := own_box_ne hr (g := g) (t := 3) hh (by decide)
  have hk : W'.heap[g]? = W.heap[g]? := (hg.block g (by have := heap_lt hh; simp; omega) (fun e => hne e.symm)).trans (Below.heap_alloc W o g (heap_lt hh))
  rw [hh] at hk
  rw [cell_of_row W' g i cs _ _ hk]
  rw [cell_of_row W g i cs _ _ hh] at hc
  exact hc

/-- The state while legs are found: the row of legs, the graph's box. -/
structure LI (w : World) (gv : Array Value) (v : Value) (gs : List Lg) (W : World) : Prop where
  row : W.ownsRow (w.heap.size + 1) 63 2 v gs.length (flatG gs)
  bel : Below w.heap.size w W
  box : Box W w.heap.size 25 gv
  own : ∀ x ∈ gs, w.heap.size < x.g ∧ x.p.length ≤ x.c ∧ Own1i W x.A x.g x.p
theorem LI.call {w : World} {gv : Array Value} {v : Value} {gs : List Lg} {W W' : World} (h : LI w gv v gs W) (hb : Below W.heap.size W W') : LI w gv v gs W' :=
  ⟨owns_kept h.row hb, h.bel.trans (hb.mono h.bel.size), h.box.below hb h.box.lt, fun x hx => ⟨(h.own x hx).1, (h.own x hx).2.1, (h.own x hx).2.2.below hb⟩⟩
theorem LI.alloc {w : World} {gv : Array Value} {v : Value} {gs : List Lg} {W : World} (h : LI w gv v gs W) (o : Obj) : LI w gv v gs (W.alloc o) := h.call ((Below.refl _ _).alloc (Nat.le_refl _) o)
theorem LI.append {w : World} {gv : Array Value} {v : Value} {gs : List Lg} {W : World} (h : LI w gv v gs W) {x : Lg} {v' : Value} {W' : World} {o : Obj}
    (hown : W'.ownsRow (w.heap.size + 1) 63 2 v' (gs.length + 1) (flatG gs ++ [byV x.l, .slice x.A x.p.length x.c])) (hg : (W.alloc o).grownBy W' v.ownBlock) (hx : w.heap.size < x.g) (hc : x.p.length ≤ x.c) (ho : Own1i W x.A x.g x.p) :
    LI w gv v' (gs ++ [x]) W' := by
  have hl := h.row.lt
  have zb := h.box.lt
  refine ⟨by rw [List.length_append, flatG_append]; exact hown, ?_, ?_, ?_⟩
  · exact (h.bel.alloc (by omega) _).grown hg (by simp; omega) (fun j e => by have := (hl j e).1; omega)
  · exact (hg.block _ (by simp; omega) (fun e => by have := (hl _ e.symm).1; omega)).trans (h.box.alloc _)
  · intro y hy
    rcases List.mem_append.1 hy with hy | hy
    · exact ⟨(h.own y hy).1, (h.own y hy).2.1, (h.own y hy).2.2.row h.row hg⟩
    · simp at hy
      subst hy
      exact ⟨hx, hc, ho.row h.row hg⟩
theorem LI.done {w : World} {gv : Array Value} {v : Value} {gs : List Lg} {W : World} (h : LI w gv v gs W) : ∃ A c, v = .slice A gs.length c ∧ Slg W W.heap.size A gs := by
  have hs : ∀ (k : Nat) (x : Lg), gs[k]? = some x → Sli W W.heap.size x.A x.p ∧ x.p.length ≤ x.c := fun k x hx => ⟨((h.own x (List.mem_of_getElem? hx)).2.2).sli, (h.own x (List.mem_of_getElem? hx)).2.1⟩
  rcases h.row.2 with ⟨rfl, h0⟩ | ⟨g, cap, cur, rfl, hbg, hh, hn, _, hsz, ht⟩
  · exact ⟨none, 0, by rw [h0], fun k x hk => by have := (List.getElem?_eq_some_iff.1 hk).1; omega⟩
  · refine ⟨_, cap, rfl, fun k x hk => ?_⟩
    have hkl : k < gs.length := (List.getElem?_eq_some_iff.1 hk).1
    obtain ⟨h1, h2⟩ := flatG_at gs k x hk
    rw [← ht] at h1 h2
    rw [List.getElem?_take_of_lt (by omega), Array.getElem?_toList] at h1 h2
    refine ⟨g, 0, rfl, heap_lt hh, ?_, ?_, hs k x hk⟩
    · rw [cell_of_row W g _ cur _ _ hh]; simpa using h1
    · rw [cell_of_row W g _ cur _ _ hh]; simpa using h2

/-- What 'legs' leaves. -/
def LegsR (nn : Int) (ls : List Lk) (s : Int) (st : List Lb) (w : World) (e : Ending) (w' : World) : Prop :=
  ((endI nn ls s st).isSome = true ∧ ∃ A gs c, e = .returned (.tuple #[.slice A gs.length c, .bool true]) ∧ gs.map Lg.lp = legsO nn ls s st ∧ Slg w' w'.heap.size A gs ∧ Below w.heap.size w w') ∨
  ((endI nn ls s st).isSome = false ∧ e = .returned (.tuple #[.slice none 0 0, .bool false]) ∧ Below w.heap.size w w')

theorem stB_inv {nn : Int} {ls : List Lk} {s : Int} {st : List Lb} (h : stB nn ls s st = true) : gvB nn ls = true ∧ (0 ≤ s ∧ s < nn) ∧ st.length ≤ 8 := by
  unfold stB at h
  simp only [Bool.and_eq_true, decide_eq_true_eq] at h
  exact ⟨(vwB_inv h.1).1, (vwB_inv h.1).2, h.2⟩

set_option maxRecDepth 100000 in
set_option maxHeartbeats 3200000 in
theorem legs_any (nn : Int) (A : Option Addr) (ls : List Lk) (c : Nat) (s : Int) (B : Option Addr) (st : List Lb) (cb : Nat) (w : World) (hm : ls.length ≤ 2000000) (hmb : st.length ≤ 2000000) (hS : Sl w w.heap.size A ls) (hT : Slb w w.heap.size B st) :
   Calls Try.prog 39 #[gval nn A ls.length c, .int .i64 s, .slice B st.length cb] w (LegsR nn ls s st w) := by
  obtain ⟨i0, hi, hz0, hz10, hz20⟩ := info_parts infoLeg
  by_cases h8 : st.length ≤ 8
  · have B0 : Below w.heap.size w ((w.alloc (.cells #[.int .i64 nn, .slice A ls.length c] 25)).alloc (.cells #[.int .i64 s] 3)) := by (repeat (first | exact Below.refl _ _ | (refine Below.alloc ?_ (by first | exact Nat.le_refl _ | omega | (simp; done) | (simp; omega)) _) | (refine Below.setCell ?_ (by first | exact Nat.le_refl _ | omega | (simp; done) | (simp; omega)) _) | exact Below.drew ‹_›))
    have G0 := Lib.hid ((Box.new w 25 #[.int .i64 nn, .slice A ls.length c]).alloc (.cells #[.int .i64 s] 3))
    have L0 := Box.new (w.alloc (.cells #[.int .i64 nn, .slice A ls.length c] 25)) 3 #[.int .i64 s]
    rw [World.size_alloc] at L0
    have S0 := (hS.below B0).more B0.size
    have X0 : Own1i ((w.alloc (.cells #[.int .i64 nn, .slice A ls.length c] 25)).alloc (.cells #[.int .i64 s] 3)) (some ⟨w.heap.size + 1, 0, none⟩) (w.heap.size + 1) [s] := own_listH (by simpa using L0)
    have C1 := vw_any nn A ls c (some ⟨w.heap.size + 1, 0, none⟩) [s] 1 _ hm (by simp) S0 X0.sli
    have HS := Lib.hid hS
    have HT := Lib.hid hT
    have HB := Lib.hid B0
    clear hS hT B0 L0 S0 X0
    cases hv : vwB nn ls [s] with
    | false =>
      rw [hv] at C1
      have HE : Hid ((endI nn ls s st).isSome = false) := Lib.hid (by unfold endI stB; rw [hv]; simp)
      clear hv
      go_enter Try.func39, Try.ntmps39
      go_wp2_with (go_at_call 56; refine C1.mono ?_; clear C1; rintro e w1 ⟨rfl, hb1⟩; have B1 := Lib.hid (HB.out.trans (hb1.mono HB.out.size)); clear hb1)
      go_returns
      exact .inr ⟨HE.out, rfl, B1.out⟩
    | true =>
      rw [hv] at C1
      obtain ⟨hg, hs⟩ := vwB_inv hv
      obtain ⟨n, rfl⟩ : ∃ q : Nat, nn = (q : Int) := ⟨nn.toNat, by omega⟩
      have HST : Hid (stB (n : Int) ls s st = true) := Lib.hid (by unfold stB; rw [hv]; simp [h8])
      clear hv
      go_enter Try.func39, Try.ntmps39
      go_wp2_with fail
      refine C1.mono ?_
      clear C1
      rintro e w1 ⟨rfl, hb1⟩
      have G1 := Lib.hid (G0.out.below hb1 G0.out.lt)
      have B1 := Lib.hid (HB.out.trans (hb1.mono HB.out.size))
      have z1 := G1.out.lt
      clear hb1 HB G0
      have P1 : Hid (LI w #[.int .i64 (n : Int), .slice A ls.length c] (.slice (some ⟨w1.heap.size, 0, none⟩) 0 0) [] (w1.alloc (.cells #[] 63))) :=
        Lib.hid ⟨⟨by simp [flatG], .inr ⟨w1.heap.size, 0, #[], rfl, by omega, Box.new w1 63 #[], Nat.le_refl _, by omega, rfl, by simp [flatG]⟩⟩, B1.out.alloc B1.out.size _, G1.out.alloc _, fun x hx => absurd hx (by simp)⟩
      go_wp2_with fail
      go_loopw [8, 9, 29] (fun v q i wr => ∃ (k : Nat) (x : Int) (gs : List Lg), k ≤ st.length ∧ i = .int .i64 k ∧ q = .int .i64 x ∧ endO (n : Int) ls s (st.take k) = some x ∧ (0 ≤ x ∧ x < (n : Int)) ∧ gs.map Lg.lp = legsO (n : Int) ls s (st.take k) ∧ gs.length = k ∧ LI w #[.int .i64 (n : Int), .slice A ls.length c] v gs wr) (fun _ _ i _ => st.length - (intOf i).toNat)
      case atStart => exact ⟨0, s, [], Nat.zero_le _, rfl, rfl, rfl, hs, rfl, rfl, P1.out⟩
      case round =>
        obtain ⟨k, x, gs, hk, rfl, rfl, hend, hx, hmap, hgl, hP⟩ := hrel
        have HP := Lib.hid hP
        have HEND := Lib.hid hend
        have HM := Lib.hid hmap
        clear hP hend hmap P1 G1 B1 z1
        by_cases hlt : k < st.length
        · obtain ⟨l, hl⟩ : ∃ l, st[k]? = some l := ⟨_, List.getElem?_eq_getElem hlt⟩
          obtain ⟨b, off, rfl, hbb, d1, d2⟩ := (HT.out.below HP.out.bel) k l hl
          have HL := Lib.hid hl
          have hbw : b < wr.heap.size := Nat.lt_of_lt_of_le hbb HP.out.bel.size
          have HP0 := Lib.hid (HP.out.alloc (.cells #[.int .i64 l.k, .int .i64 l.a] 40))
          have hk3 : l.k = 1 ∨ l.k = 2 ∨ (l.k ≠ 1 ∧ l.k ≠ 2) := by omega
          clear hl
          rcases hk3 with hk | hk | ⟨hk1, hk2⟩
          · have hkx : l.k = 1 := hk
            have CI := instr_node l hkx (wr.alloc (.cells #[.int .i64 l.k, .int .i64 l.a] 40))
            have CP : ∀ V : World, Sl V V.heap.size A ls → Calls Try.prog 110 #[.int .i64 l.a, gval (n : Int) A ls.length c, .int .i64 x] V (NewC (legP (n : Int) ls x l) V) := fun V hV => by_path (n : Int) A ls c x l V hm hV _ (.inl ⟨hkx, rfl⟩)
            have HBY := Lib.hid (byV_node hkx)
            clear hk hkx
            go_wp2_with fail
            refine CI.mono ?_
            clear CI
            rintro e w1 ⟨rfl, hb1⟩
            have P1 := Lib.hid (HP0.out.call hb1)
            clear hb1 HP0 HP d1 d2
            have e10 : w1.cell? ⟨w.heap.size, 0, none⟩ = some (.int .i64 (n : Int)) := P1.out.box.cell 0
            have e11 : w1.cell? ⟨w.heap.size, 1, none⟩ = some (.slice A ls.length c) := P1.out.box.cell 1
            have z1 := P1.out.box.lt
            go_wp2_with fail
            refine (CP w1 ((HS.out.below P1.out.bel).more P1.out.bel.size)).mono ?_
            clear CP
            rintro e w2 ⟨A2, g2, c2, rfl, hg2, ho2, hb2, hcp⟩
            have P2 := Lib.hid (P1.out.call hb2)
            have hgw : w.heap.size < g2 := Nat.lt_of_lt_of_le z1 hg2
            have O2 := Lib.hid ho2
            clear hb2 P1 e10 e11 z1 ho2 hg2
            by_cases hp0 : legP (n : Int) ls x l = []
            · have HF := Lib.hid (endO_fail HEND.out HL.out (stepO_none.2 hp0))
              rw [hp0]
              clear hp0
              go_wp2_with fail
              go_returns
              exact .inr ⟨by unfold endI; rw [HF.out]; simp, rfl, P2.out.bel⟩
            · obtain ⟨z, hz1, hz2, hz3, hz4, hz5, hz6, hz7⟩ := leg_fact hg hx hp0
              have hpl : 0 < (legP (n : Int) ls x l).length := List.length_pos_iff.2 hp0
              obtain ⟨q, hq⟩ : ∃ q, (legP (n : Int) ls x l).length = q + 1 := ⟨(legP (n : Int) ls x l).length - 1, by omega⟩
              rw [hq, Nat.add_sub_cancel] at hz6
              have hsub : ((legP (n : Int) ls x l).length : Int) - 1 = (q : Int) := by omega
              have hql : q < (legP (n : Int) ls x l).length := by omega
              have hwp : IntKind.i64.wrap (q : Int) = (q : Int) := IntWalk.i64_in _ (by omega)
              have HN1 := Lib.hid (endO_next HEND.out HL.out)
              have HN2 := Lib.hid (legsO_next HEND.out HL.out hz1)
              have HZ1 := Lib.hid hz1
              have HZ2 := Lib.hid hz2
              clear hz1 hz2 hz3 hz4 hz7 hp0 hq
              generalize hgp : legP (n : Int) ls x l = p at *
              obtain ⟨rfl, zg2, hc2⟩ := O2.out.at hz6
              have hpe : ((p.length : Int) == 0) = false := by rw [beq_eq_false_iff_ne]; omega
              have zw2 := P2.out.box.lt
              clear hgp hz6
              go_wp2_with (at_builtin; refine wpList_append_own_at _ rfl _ _ 57 rfl (w.heap.size + 1) 63 i0 _ 2 40 Try.underlying57 hi hz0 hz10 hz20 rfl (by decide) _ gs.length _ rfl (P2.out.row.alloc _) ⟨w2.heap.size, 0, none⟩ 1 1 [.iface 97 (.int .i64 l.a), .slice (some ⟨g2, 0, none⟩) p.length c2] rfl rfl (new2v _ _ _ _) (one2v _ _ rfl rfl) (by unfold maxLen; omega) (by omega) (by simp; omega) ?_; intro v' w3 hown' hgrow _ hat; have P3 := Lib.hid (P2.out.append (x := ⟨l, p, some ⟨g2, 0, none⟩, g2, c2⟩) (by rw [HBY.out]; exact hown') hgrow hgw hcp O2.out); have e30 := P3.out.box.cell 0; have e31 := P3.out.box.cell 1; have z3 := P3.out.box.lt; have hc3 : w3.cell? ⟨g2, q, none⟩ = some (.int .i64 z) := own_keep hgrow P2.out.row O2.out hc2; clear hown' hgrow hat hc2)
              go_roundw
              case rel => exact ⟨k + 1, z, gs ++ [⟨l, p, some ⟨g2, 0, none⟩, g2, c2⟩], hlt, by go_num, rfl, by rw [HN1.out]; exact HZ1.out, HZ2.out, by rw [HN2.out, List.map_append, HM.out]; rfl, by simp [hgl], P3.out⟩
              case measure => simp [intOf]; omega
          · have hkx : l.k = 2 := hk
            have CI := instr_link l hkx (wr.alloc (.cells #[.int .i64 l.k, .int .i64 l.a] 40))
            have CP : ∀ V : World, Sl V V.heap.size A ls → Calls Try.prog 115 #[.int .i64 l.a, gval (n : Int) A ls.length c, .int .i64 x] V (NewC (legP (n : Int) ls x l) V) := fun V hV => by_path (n : Int) A ls c x l V hm hV _ (.inr ⟨hkx, rfl⟩)
            have HBY := Lib.hid (byV_link hkx)
            clear hk hkx
            go_wp2_with fail
            refine CI.mono ?_
            clear CI
            rintro e w1 ⟨rfl, hb1⟩
            have P1 := Lib.hid (HP0.out.call hb1)
            clear hb1 HP0 HP d1 d2
            have e10 : w1.cell? ⟨w.heap.size, 0, none⟩ = some (.int .i64 (n : Int)) := P1.out.box.cell 0
            have e11 : w1.cell? ⟨w.heap.size, 1, none⟩ = some (.slice A ls.length c) := P1.out.box.cell 1
            have z1 := P1.out.box.lt
            go_wp2_with fail
            refine (CP w1 ((HS.out.below P1.out.bel).more P1.out.bel.size)).mono ?_
            clear CP
            rintro e w2 ⟨A2, g2, c2, rfl, hg2, ho2, hb2, hcp⟩
            have P2 := Lib.hid (P1.out.call hb2)
            have hgw : w.heap.size < g2 := Nat.lt_of_lt_of_le z1 hg2
            have O2 := Lib.hid ho2
            clear hb2 P1 e10 e11 z1 ho2 hg2
            by_cases hp0 : legP (n : Int) ls x l = []
            · have HF := Lib.hid (endO_fail HEND.out HL.out (stepO_none.2 hp0))
              rw [hp0]
              clear hp0
              go_wp2_with fail
              go_returns
              exact .inr ⟨by unfold endI; rw [HF.out]; simp, rfl, P2.out.bel⟩
            · obtain ⟨z, hz1, hz2, hz3, hz4, hz5, hz6, hz7⟩ := leg_fact hg hx hp0
              have hpl : 0 < (legP (n : Int) ls x l).length := List.length_pos_iff.2 hp0
              obtain ⟨q, hq⟩ : ∃ q, (legP (n : Int) ls x l).length = q + 1 := ⟨(legP (n : Int) ls x l).length - 1, by omega⟩
              rw [hq, Nat.add_sub_cancel] at hz6
              have hsub : ((legP (n : Int) ls x l).length : Int) - 1 = (q : Int) := by omega
              have hql : q < (legP (n : Int) ls x l).length := by omega
              have hwp : IntKind.i64.wrap (q : Int) = (q : Int) := IntWalk.i64_in _ (by omega)
              have HN1 := Lib.hid (endO_next HEND.out HL.out)
              have HN2 := Lib.hid (legsO_next HEND.out HL.out hz1)
              have HZ1 := Lib.hid hz1
              have HZ2 := Lib.hid hz2
              clear hz1 hz2 hz3 hz4 hz7 hp0 hq
              generalize hgp : legP (n : Int) ls x l = p at *
              obtain ⟨rfl, zg2, hc2⟩ := O2.out.at hz6
              have hpe : ((p.length : Int) == 0) = false := by rw [beq_eq_false_iff_ne]; omega
              have zw2 := P2.out.box.lt
              clear hgp hz6
              go_wp2_with (at_builtin; refine wpList_append_own_at _ rfl _ _ 57 rfl (w.heap.size + 1) 63 i0 _ 2 40 Try.underlying57 hi hz0 hz10 hz20 rfl (by decide) _ gs.length _ rfl (P2.out.row.alloc _) ⟨w2.heap.size, 0, none⟩ 1 1 [.iface 98 (.int .i64 l.a), .slice (some ⟨g2, 0, none⟩) p.length c2] rfl rfl (new2v _ _ _ _) (one2v _ _ rfl rfl) (by unfold maxLen; omega) (by omega) (by simp; omega) ?_; intro v' w3 hown' hgrow _ hat; have P3 := Lib.hid (P2.out.append (x := ⟨l, p, some ⟨g2, 0, none⟩, g2, c2⟩) (by rw [HBY.out]; exact hown') hgrow hgw hcp O2.out); have e30 := P3.out.box.cell 0; have e31 := P3.out.box.cell 1; have z3 := P3.out.box.lt; have hc3 : w3.cell? ⟨g2, q, none⟩ = some (.int .i64 z) := own_keep hgrow P2.out.row O2.out hc2; clear hown' hgrow hat hc2)
              go_roundw
              case rel => exact ⟨k + 1, z, gs ++ [⟨l, p, some ⟨g2, 0, none⟩, g2, c2⟩], hlt, by go_num, rfl, by rw [HN1.out]; exact HZ1.out, HZ2.out, by rw [HN2.out, List.map_append, HM.out]; rfl, by simp [hgl], P3.out⟩
              case measure => simp [intOf]; omega
          · have CI := instr_none l hk1 hk2 (wr.alloc (.cells #[.int .i64 l.k, .int .i64 l.a] 40))
            have HF := Lib.hid (endO_fail HEND.out HL.out (stepO_none.2 (show legP (n : Int) ls x l = [] by unfold legP; rw [if_neg hk1, if_neg hk2])))
            clear hk1 hk2
            go_wp2_with fail
            refine CI.mono ?_
            clear CI
            rintro e w1 ⟨rfl, hb1⟩
            have P1 := Lib.hid (HP0.out.call hb1)
            clear hb1 HP0 HP d1 d2
            go_wp2_with fail
            go_returns
            exact .inr ⟨by unfold endI; rw [HF.out]; simp, rfl, P1.out.bel⟩
        · obtain rfl : k = st.length := by omega
          obtain ⟨A9, c9, rfl, hsl⟩ := HP.out.done
          have HSL := Lib.hid hsl
          clear hsl
          go_wp2_with fail
          go_returns
          refine .inl ⟨?_, A9, gs, c9, rfl, ?_, HSL.out, HP.out.bel⟩
          · have := HEND.out
            rw [List.take_length] at this
            unfold endI
            rw [if_pos HST.out, this]; rfl
          · have := HM.out
            rwa [List.take_length] at this
  · have h8' : 8 < st.length := by omega
    have HE : Hid ((endI nn ls s st).isSome = false) := Lib.hid (by unfold endI stB; simp [h8])
    clear h8 hS hT
    go_enter Try.func39, Try.ntmps39
    go_wp2_with fail
    go_returns
    exact .inr ⟨HE.out, rfl, by (repeat (first | exact Below.refl _ _ | (refine Below.alloc ?_ (by first | exact Nat.le_refl _ | omega | (simp; done) | (simp; omega)) _) | (refine Below.setCell ?_ (by first | exact Nat.le_refl _ | omega | (simp; done) | (simp; omega)) _) | exact Below.drew ‹_›))⟩

end Go.Proofs.Ytblmmmeeljidiab
