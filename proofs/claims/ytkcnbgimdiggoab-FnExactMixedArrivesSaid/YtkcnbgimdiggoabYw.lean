/-
  Contracts over this seat: the program's NextHops, with room for all that it answers.
-/
import Derived.Test.YtkcnbgimdiggoabC2
import Derived.Test.YtkcnbgimdiggoabC1
import Derived.Test.YtkcnbgimdiggoabB4
import Derived.Test.YtkcnbgimdiggoabB6
namespace Go.Proofs.Ytkcnbgimdiggoab
open Go.RowKit Go.Shelf Go.Maps

attribute [local go_sem] Oper.semAt_some

set_option maxRecDepth 100000 in
set_option maxHeartbeats 2000000 in
theorem hops_implC (nn : Int) (A : Option Addr) (ls : List Lk) (c : Nat) (s t : Int) (w : World) (hm : ls.length ≤ 2000000) (hS : Sl w w.heap.size A ls) :
   Calls Try.prog 54 #[gval nn A ls.length c, .int .i64 s, .int .i64 t] w (NewC (hopsL nn ls s t) w) := by
  obtain ⟨i0, hi, hz0, hz1, hz2⟩ := info_parts infoInt
  have HS := Lib.hid hS
  clear hS
  obtain ⟨N, hN⟩ : ∃ N : Nat, 5 ≤ N := ⟨5, Nat.le_refl _⟩
  cases hv : vwB nn ls [s, t] with
  | true =>
    obtain ⟨hg, hs, ht⟩ := vwB_two hv
    obtain ⟨hf, hn1, hn8, hl14⟩ := gvB_fit hg
    obtain ⟨n, rfl⟩ : ∃ n : Nat, nn = (n : Int) := ⟨nn.toNat, by omega⟩
    obtain ⟨sn, rfl⟩ : ∃ sn : Nat, s = (sn : Int) := ⟨s.toNat, by omega⟩
    have hsn : sn < n := by omega
    have HV := Lib.hid hv
    have HG := Lib.hid hg
    clear hv hg
    refine (callsIn_wide (n := N)).1 ?_
    have h1 : 1 ≤ N := by omega
    refine callsIn_of_wp_marks Try.func54 rfl trivial ?_ rfl
    simp only [Try.ntmps54, List.size_toArray, List.length_cons, List.length_nil, Nat.reduceAdd, Nat.reduceSub, Array.replicate_succ, Array.replicate_zero, List.push_toArray, List.append_toArray, List.nil_append, List.cons_append]
    have hB0 : Below w.heap.size w (((((w.alloc (.cells #[.int .i64 (n : Int), .slice A ls.length c] 25)).alloc (.cells #[.int .i64 (sn : Int)] 3)).alloc (.cells #[] 3)).alloc (.cells #[.slice (some ⟨w.heap.size + 1 + 1, 0, none⟩) 0 0] 28)).alloc (.cells #[.int .i64 (sn : Int), .int .i64 t] 3)) := by (repeat (first | exact Below.refl _ _ | (refine Below.alloc ?_ (by first | exact Nat.le_refl _ | omega | (simp; done) | (simp; omega)) _) | (refine Below.setCell ?_ (by first | exact Nat.le_refl _ | omega | (simp; done) | (simp; omega)) _) | exact Below.drew ‹_›))
    have hG0 := ((((Box.new w 25 #[.int .i64 (n : Int), .slice A ls.length c]).alloc (.cells #[.int .i64 (sn : Int)] 3)).alloc (.cells #[] 3)).alloc (.cells #[.slice (some ⟨w.heap.size + 1 + 1, 0, none⟩) 0 0] 28)).alloc (.cells #[.int .i64 (sn : Int), .int .i64 t] 3)
    have hF0 := (((Box.new (w.alloc (.cells #[.int .i64 (n : Int), .slice A ls.length c] 25)) 3 #[.int .i64 (sn : Int)]).alloc (.cells #[] 3)).alloc (.cells #[.slice (some ⟨w.heap.size + 1 + 1, 0, none⟩) 0 0] 28)).alloc (.cells #[.int .i64 (sn : Int), .int .i64 t] 3)
    have hE0 := ((Box.new ((w.alloc (.cells #[.int .i64 (n : Int), .slice A ls.length c] 25)).alloc (.cells #[.int .i64 (sn : Int)] 3)) 3 #[]).alloc (.cells #[.slice (some ⟨w.heap.size + 1 + 1, 0, none⟩) 0 0] 28)).alloc (.cells #[.int .i64 (sn : Int), .int .i64 t] 3)
    have hL0 := (Box.new (((w.alloc (.cells #[.int .i64 (n : Int), .slice A ls.length c] 25)).alloc (.cells #[.int .i64 (sn : Int)] 3)).alloc (.cells #[] 3)) 28 #[.slice (some ⟨w.heap.size + 1 + 1, 0, none⟩) 0 0]).alloc (.cells #[.int .i64 (sn : Int), .int .i64 t] 3)
    have hX0 := Box.new ((((w.alloc (.cells #[.int .i64 (n : Int), .slice A ls.length c] 25)).alloc (.cells #[.int .i64 (sn : Int)] 3)).alloc (.cells #[] 3)).alloc (.cells #[.slice (some ⟨w.heap.size + 1 + 1, 0, none⟩) 0 0] 28)) 3 #[.int .i64 (sn : Int), .int .i64 t]
    simp only [World.size_alloc] at hF0 hE0 hL0 hX0
    have KB := Lib.hid hB0
    have KG := Lib.hid hG0
    have KF := Lib.hid hF0
    have KE := Lib.hid hE0
    have KL := Lib.hid hL0
    have KX := Lib.hid hX0
    clear hB0 hG0 hF0 hE0 hL0 hX0
    gi_wp2_with fail
    refine ⟨trivial, ?_⟩
    generalize ((((w.alloc (.cells #[.int .i64 (n : Int), .slice A ls.length c] 25)).alloc (.cells #[.int .i64 (sn : Int)] 3)).alloc (.cells #[] 3)).alloc (.cells #[.slice (some ⟨w.heap.size + 1 + 1, 0, none⟩) 0 0] 28)).alloc (.cells #[.int .i64 (sn : Int), .int .i64 t] 3) = W0 at *
    have S0 := (HS.out.below KB.out).more KB.out.size
    have C1 := vw_any (n : Int) A ls c (some ⟨w.heap.size + 1 + 1 + 1 + 1, 0, none⟩) [(sn : Int), t] 2 W0 hm (by simp) S0 (own_listH (by simpa using KX.out)).sli
    rw [HV.out] at C1
    refine (callsIn_wide.2 C1).mono ?_
    clear C1
    rintro e w1 ⟨rfl, hb1⟩
    have zx := KX.out.lt
    have G1 := Lib.hid (KG.out.below hb1 KG.out.lt)
    have F1 := Lib.hid (KF.out.below hb1 KF.out.lt)
    have E1 := Lib.hid (KE.out.below hb1 KE.out.lt)
    have L1 := Lib.hid (KL.out.below hb1 KL.out.lt)
    have B1 := Lib.hid (KB.out.trans (hb1.mono KB.out.size))
    have S1 := Lib.hid ((S0.below hb1).more hb1.size)
    have z1 : w.heap.size + 1 + 1 + 1 + 1 < w1.heap.size := Nat.lt_of_lt_of_le zx hb1.size
    have e10 := G1.out.cell 0
    have e11 := G1.out.cell 1
    clear hb1 S0 KB KG KF KE KL KX zx
    gi_wp2_with fail
    refine ⟨trivial, ?_⟩
    have C2 := dist_impl (n : Int) A ls c t w1 hm S1.out
    refine (callsIn_wide.2 C2).mono ?_
    clear C2
    rintro e w2 ⟨A3, g3, c3, rfl, hg3, ho3, hb2⟩
    have hdl := distL_length (ls := ls) HG.out ht
    have HAT : Hid (∀ k : Nat, k < n → (distL (n : Int) ls t)[k]? = some (bf (n : Int) ls t (k : Int))) := Lib.hid (fun k hk => distL_at HG.out ht hk)
    generalize distL (n : Int) ls t = ds at *
    have z2 := hb2.size
    have G2 := Lib.hid (G1.out.below hb2 G1.out.lt)
    have F2 := Lib.hid (F1.out.below hb2 F1.out.lt)
    have E2 := Lib.hid (E1.out.below hb2 E1.out.lt)
    have L2 := Lib.hid (L1.out.below hb2 L1.out.lt)
    have B2 := Lib.hid (B1.out.trans (hb2.mono B1.out.size))
    have O2 := Lib.hid ho3
    have HDL := Lib.hid hdl
    have z3 : g3 < w2.heap.size := (ho3 (by omega)).2.lt
    have e20 := G2.out.cell 0
    have e21 := G2.out.cell 1
    have f20 := F2.out.cell 0
    have zg2 := G2.out.lt
    have zf2 := F2.out.lt
    clear hb2 ho3 G1 F1 E1 L1 B1 S1 e10 e11 hdl
    gi_wp2_with fail
    refine ⟨trivial, ?_⟩
    have hB2 : Below w2.heap.size w2 (w2.alloc (.cells #[.slice A3 ds.length c3] 28)) := by (repeat (first | exact Below.refl _ _ | (refine Below.alloc ?_ (by first | exact Nat.le_refl _ | omega | (simp; done) | (simp; omega)) _) | (refine Below.setCell ?_ (by first | exact Nat.le_refl _ | omega | (simp; done) | (simp; omega)) _) | exact Below.drew ‹_›))
    have G3 := Lib.hid (G2.out.below hB2 zg2)
    have F3 := Lib.hid (F2.out.below hB2 zf2)
    have E3 := Lib.hid (E2.out.below hB2 E2.out.lt)
    have L3 := Lib.hid (L2.out.below hB2 L2.out.lt)
    have D3 := Lib.hid (Box.new w2 28 #[.slice A3 ds.length c3])
    have O3 := Lib.hid (O2.out.below hB2)
    have B3 := Lib.hid (B2.out.trans (hB2.mono B2.out.size))
    have z4 : (w2.alloc (.cells #[.slice A3 ds.length c3] 28)).heap.size = w2.heap.size + 1 := by simp
    clear hB2 G2 F2 E2 L2 O2 B2 e20 e21 f20 zg2 zf2
    generalize w2.alloc (.cells #[.slice A3 ds.length c3] 28) = W3 at *
    refine (callsIn_wide.2 (neighbours_any (n : Int) A ls.length c (sn : Int) W3)).mono ?_
    rintro e W4 ⟨rfl, hW4⟩
    have b4 : Below W3.heap.size W3 W4 := by rw [← hW4]; (repeat (first | exact Below.refl _ _ | (refine Below.alloc ?_ (by first | exact Nat.le_refl _ | omega | (simp; done) | (simp; omega)) _) | (refine Below.setCell ?_ (by first | exact Nat.le_refl _ | omega | (simp; done) | (simp; omega)) _) | exact Below.drew ‹_›))
    have hG4 : Box W4 W3.heap.size 25 #[.int .i64 (n : Int), .slice A ls.length c] := by
      rw [← hW4]
      exact (Box.new W3 25 #[.int .i64 (n : Int), .slice A ls.length c]).alloc _
    have hN4 : Box W4 (W3.heap.size + 1) 3 #[.int .i64 (sn : Int)] := by
      rw [← hW4]
      have := Box.new (W3.alloc (.cells #[.int .i64 (n : Int), .slice A ls.length c] 25)) 3 #[.int .i64 (sn : Int)]
      rwa [World.size_alloc] at this
    have z5 : W4.heap.size = W3.heap.size + 1 + 1 := by rw [← hW4]; simp
    have KG4 := Lib.hid hG4
    have KN4 := Lib.hid hN4
    have G4 := Lib.hid (G3.out.below b4 G3.out.lt)
    have F4 := Lib.hid (F3.out.below b4 F3.out.lt)
    have E4 := Lib.hid (E3.out.below b4 E3.out.lt)
    have L4 := Lib.hid (L3.out.below b4 L3.out.lt)
    have D4 := Lib.hid (D3.out.below b4 D3.out.lt)
    have O4 := Lib.hid (O3.out.below b4)
    have B4 := Lib.hid (B3.out.trans (b4.mono B3.out.size))
    have S4 := Lib.hid (HS.out.below B4.out)
    have Z4 := Lib.hid z4
    have Z5 := Lib.hid z5
    clear b4 hG4 hN4 hW4 G3 F3 E3 L3 D3 O3 B3 z4 z5
    gi_wp2_with fail
    have z4 : w2.heap.size + 1 ≤ W3.heap.size ∧ W3.heap.size ≤ w2.heap.size + 1 := ⟨Nat.le_of_eq Z4.out.symm, Nat.le_of_eq Z4.out⟩
    have z5 : W3.heap.size + 2 ≤ W4.heap.size ∧ W4.heap.size ≤ W3.heap.size + 2 := ⟨Nat.le_of_eq Z5.out.symm, Nat.le_of_eq Z5.out⟩
    have R4 : W4.ownsRow w.heap.size 3 1 (.slice (some ⟨w.heap.size + 1 + 1, 0, none⟩) 0 0) 0 [] := ⟨by simp, .inr ⟨w.heap.size + 1 + 1, 0, #[], rfl, by omega, E4.out, Nat.le_refl _, by omega, rfl, by simp⟩⟩
    refine wpIn_rangeFunc_ownG rfl h1 (gf := 100) (lb := #[.pointer (some ⟨W3.heap.size, 0, none⟩), .pointer (some ⟨W3.heap.size + 1, 0, none⟩)]) rfl trivial (enters_of Try.func100 (by kernel_rfl) rfl)
      (nbs_stops (N - 1) (by omega) W3.heap.size (W3.heap.size + 1) w.heap.size (fun k => k < w.heap.size ∨ k = W3.heap.size + 1) A ls c (n : Int) (sn : Int) hm W4 (fun b h => .inl h) (.inr rfl) (fun k h => by omega) KG4.out KN4.out (by omega) S4.out)
      (fun h k => h.trans k) (fun W l o o' hl h _ _ => KeepB.put (w := W4) (fun k h => by omega) W l o o' hl h) (Below.refl _ _) (fun _ => rfl)
      (fun pre W => (∃ v, Boxed W (w.heap.size + 1 + 1 + 1) 28 v ∧ W.ownsRow w.heap.size 3 1 v (hopF (n : Int) ls (sn : Int) t pre).length ((hopF (n : Int) ls (sn : Int) t pre).map (Value.int .i64)) ∧ (∀ g, v.ownBlock = some g → g = w.heap.size + 1 + 1 ∨ W4.heap.size ≤ g)) ∧ Kx (fun k => k = w.heap.size + 1 + 1 + 1 ∨ k = w.heap.size + 1 + 1) W4 W)
      (fun _ _ _ => False)
      (OwnFrom.and (Own.from (holdsRow_own w.heap.size (w.heap.size + 1 + 1 + 1) 28 3 1 (fun pre : List (NbA (sn : Int) ls) => (hopF (n : Int) ls (sn : Int) t pre).length) (fun pre => (hopF (n : Int) ls (sn : Int) t pre).map (Value.int .i64)) (fun _ v => ∀ g, v.ownBlock = some g → g = w.heap.size + 1 + 1 ∨ W4.heap.size ≤ g)) _) (kx_own W4))
      (fun _ _ _ _ _ hs _ _ => hs)
      ⟨⟨_, L4.out, R4, fun g e => by simp [Value.ownBlock] at e; omega⟩, Kx.refl _ _⟩
      (fun x => { tmps := #[gval (n : Int) A ls.length c, .int .i64 (sn : Int), .int .i64 t, .pointer (some ⟨w.heap.size, 0, none⟩), .pointer (some ⟨w.heap.size + 1, 0, none⟩), undef, .slice none 0 0, .pointer (some ⟨w.heap.size + 1 + 1 + 1, 0, none⟩), .pointer (some ⟨w2.heap.size, 0, none⟩), .int .i64 x.1.1, .int .i64 (x.1.2 : Int), .slice (some ⟨w.heap.size + 1 + 1, 0, none⟩) 0 0,
        .agg #[.int .i64 (n : Int), .slice A ls.length c], .int .i64 (sn : Int), .int .i64 t, .slice (some ⟨w.heap.size + 1 + 1 + 1 + 1, 0, none⟩) 2 2, .bool true, .bool false, undef, .agg #[.int .i64 (n : Int), .slice A ls.length c], .int .i64 t, .slice A3 ds.length c3, .agg #[.int .i64 (n : Int), .slice A ls.length c], .int .i64 (sn : Int), .func (.func 100) #[] #[.pointer (some ⟨W3.heap.size, 0, none⟩), .pointer (some ⟨W3.heap.size + 1, 0, none⟩)], .int .i64 x.1.1, .int .i64 (x.1.2 : Int), undef, undef, undef, undef, undef, undef, undef, undef, undef, undef, undef, undef, undef, undef, undef, undef, undef, undef, undef, undef, undef], defers := [] }) ?assign ?body ?done ?stop
    case assign =>
      intro l x W K hK
      gi_wp2
      exact hK
    case body =>
      rintro l pre x W ⟨⟨v, hv, hrow, hgg⟩, hk⟩ hlt
      obtain ⟨lk, hlk⟩ : ∃ lk, ls[x.1.2]? = some lk := by obtain ⟨lk, h, _⟩ := x.2; exact ⟨lk, h⟩
      have hadj := nba_adj x hlk
      have hfa := hf.adj hadj
      have HSN := Lib.hid (hopF_snoc (n : Int) ls (sn : Int) t pre x)
      have HTE := Lib.hid (hop_test (t := t) HG.out ht hadj)
      have hFl := hopF_len (n : Int) ls (sn : Int) t pre
      have hxk := (List.getElem?_eq_some_iff.1 hlk).1
      have sl := S4.out.below (hk.below (B := w.heap.size) (by omega) (fun j e => by omega))
      obtain ⟨⟨xv, xk⟩, hxok⟩ := x
      dsimp only at *
      obtain ⟨xn, rfl⟩ : ∃ q : Nat, xv = (q : Int) := ⟨xv.toNat, by omega⟩
      obtain ⟨bb, off, rfl, hbb, -, -, hc3⟩ := sl xk lk hlk
      have hO : Own1i W A3 g3 ds := fun hp => by
        obtain ⟨e, cs, hh, hc⟩ := O4.out hp
        exact ⟨e, cs, (hk.block g3 (heap_lt hh) (by omega)).trans hh, hc⟩
      have hdx := HAT.out xn (by omega)
      have hds := HAT.out sn hsn
      have hxl := (List.getElem?_eq_some_iff.1 hdx).1
      have hsl := (List.getElem?_eq_some_iff.1 hds).1
      obtain ⟨rfl, zg3, hcx⟩ := hO.at hdx
      obtain ⟨-, -, hcs⟩ := hO.at hds
      have hbx := bf_bound hf ht hn8 (xn : Int)
      generalize bf (n : Int) ls t (xn : Int) = dx at *
      generalize bf (n : Int) ls t (sn : Int) = dt at *
      have gx := (hk.box G4.out (by omega)).cell 1
      have fx := (hk.box F4.out (by omega)).cell 0
      have dx4 := (hk.box D4.out (by omega)).cell 0
      have hc := hv.cell
      have hmx : Try.prog.follows .mixedOrders = true := by kernel_rfl
      have zk := hk.size
      have HKX := Lib.hid hk
      have HVX := Lib.hid hv
      have HRX := Lib.hid hrow
      have HGX := Lib.hid hgg
      have hlc : IntKind.i64.wrap (dx + lk.c) = dx + lk.c := IntWalk.i64_in _ (by omega)
      have hd : 1 ≤ N - 1 - 1 := by omega
      clear hk hv hrow hgg sl hlk hO hdx hds hadj
      cases hte : hopB (n : Int) ls (sn : Int) t (xn : Int) with
      | true =>
        have heq : (dx + lk.c == dt) = true := by have := HTE.out; rw [hte] at this; simpa using this.symm
        have HTT := Lib.hid hte
        clear hte HTE
        gi_wp2
        refine wpIn_region_tail 15 hmx (by kernel_rfl) (by rfl) ?_
        simp only [List.take_succ_cons, List.take_zero, List.drop_succ_cons, List.drop_zero]
        repeat still_step
        refine wpStill_nil ?_
        have HVD := Lib.hid (show Boxed W.drew (w.heap.size + 1 + 1 + 1) 28 v from HVX.out)
        have HRD := Lib.hid (show W.drew.ownsRow w.heap.size 3 1 v (hopF (n : Int) ls (sn : Int) t pre).length ((hopF (n : Int) ls (sn : Int) t pre).map (Value.int .i64)) from HRX.out)
        have hcd : W.drew.cell? ⟨w.heap.size + 1 + 1 + 1, 0, none⟩ = some v := HVD.out.cell
        have zD : W.drew.heap.size ≤ W.heap.size ∧ W.heap.size ≤ W.drew.heap.size := ⟨Nat.le_refl _, Nat.le_refl _⟩
        clear hc gx fx dx4 hcx hcs hc3
        gi_wp2_with (gi_at_builtin; refine wpListIn_append_own_at _ rfl _ _ 28 rfl w.heap.size 3 i0 (.int .i64 0) 1 8 Try.underlying28 hi hz0 hz1 hz2 rfl (by decide) _ _ _ rfl (HRD.out.alloc _) ⟨W.drew.heap.size, 0, none⟩ 1 1 [.int .i64 (xn : Int)] rfl rfl (cell_one_new _ _ _) (by simp [Value.oneCell']) (by unfold maxLen; omega) (by omega) (by simp; omega) ?_; intro v' w3 hown' hgrow _ hat; obtain ⟨g', cap', rfl⟩ := ownsRow_succ hown'; obtain ⟨hv1, hv2, hr2, hk2, hb2⟩ := HVD.out.appended (by decide) HRD.out (by omega) (by omega) hown' hgrow; have hc1 := hv1.cell; have hf1 := hv1.frozen)
        have hkf := hk2.from W4.heap.size
        refine ⟨⟨hkf.1, hkf.2⟩, ⟨by have := hb2.size; simpa using this, fun k hk => ?_⟩, ⟨_, hv2, ?_, fun g e => ?_⟩, kx_appended HKX.out.drew (.inl rfl) hgrow (fun g e => ?_)⟩
        · refine (Below.heap_setCell w3 ⟨w.heap.size + 1 + 1 + 1, 0, none⟩ _ k (by dsimp only; omega)).trans ((hgrow.block k (by simp; omega) (fun e => ?_)).trans (Below.heap_alloc W.drew _ k (by omega)))
          rcases HGX.out k e.symm with h | h <;> omega
        · rw [HSN.out, if_pos HTT.out, List.length_append, List.map_append]
          exact hr2
        · simp [Value.ownBlock] at e
          subst e
          rcases hat with h | h
          · exact HGX.out g' (h.symm.trans rfl)
          · right
            simp [Value.ownBlock] at h
            omega
        · rcases HGX.out g e with h | h
          · exact .inl (.inr h)
          · exact .inr h
      | false =>
        have heq : (dx + lk.c == dt) = false := by have := HTE.out; rw [hte] at this; simpa using this.symm
        have HTT := Lib.hid hte
        clear hte HTE
        gi_wp2
        refine wpIn_region_tail 15 hmx (by kernel_rfl) (by rfl) ?_
        simp only [List.take_succ_cons, List.take_zero, List.drop_succ_cons, List.drop_zero]
        repeat still_step
        refine wpStill_nil ?_
        clear hc gx fx dx4 hcx hcs hc3
        gi_wp2
        have hk0 : Kx (fun _ => False) W W.drew := (Kx.refl _ W).drew
        refine ⟨hk0.keepsFrom (fun k e => e.elim) _, ⟨hk0.size, fun k hk => hk0.block k (by omega) (fun e => e)⟩, ⟨v, HVX.out, ?_, HGX.out⟩, HKX.out.drew⟩
        rw [HSN.out, if_neg (by rw [HTT.out]; simp), List.append_nil]
        exact HRX.out
    case done =>
      rintro D ys W hD rfl ⟨⟨v, hv, hrow, hgg⟩, hk⟩ hK
      have hc := hv.cell
      rw [hopF_all HV.out] at hrow
      gi_wp2
      refine ⟨by simp, .inl ⟨_, _, rfl, run_takeDeferred hK, ?_⟩⟩
      have hr := ownsRow_putObj hrow (.deferred none) hK rfl
      have hB : Below w.heap.size w W := B4.out.trans (hk.below B4.out.size (fun j e => by omega))
      have hBB := hB.trans (belowK_b (w := w) (Nat.le_refl _) W D _ (.deferred none) (by have := B4.out.size; omega) hK rfl rfl)
      obtain ⟨A', g', c', e', hg', hcc, ho⟩ := own_slicec hr hBB.size
      subst e'
      exact ⟨_, results_tmp rfl _ _ _, A', g', c', by simp, hg', ho, hBB, hcc⟩
    case stop =>
      rintro D c pre W _ _ h _
      exact h.elim
  | false =>
    have e : hopsL nn ls s t = [] := by unfold hopsL; rw [hv]; rfl
    rw [e]
    have hB0 : Below w.heap.size w (((((w.alloc (.cells #[.int .i64 nn, .slice A ls.length c] 25)).alloc (.cells #[.int .i64 s] 3)).alloc (.cells #[] 3)).alloc (.cells #[.slice (some ⟨w.heap.size + 1 + 1, 0, none⟩) 0 0] 28)).alloc (.cells #[.int .i64 s, .int .i64 t] 3)) := by (repeat (first | exact Below.refl _ _ | (refine Below.alloc ?_ (by first | exact Nat.le_refl _ | omega | (simp; done) | (simp; omega)) _) | (refine Below.setCell ?_ (by first | exact Nat.le_refl _ | omega | (simp; done) | (simp; omega)) _) | exact Below.drew ‹_›))
    have hL0 := (Box.new (((w.alloc (.cells #[.int .i64 nn, .slice A ls.length c] 25)).alloc (.cells #[.int .i64 s] 3)).alloc (.cells #[] 3)) 28 #[.slice (some ⟨w.heap.size + 1 + 1, 0, none⟩) 0 0]).alloc (.cells #[.int .i64 s, .int .i64 t] 3)
    have hX0 := Box.new ((((w.alloc (.cells #[.int .i64 nn, .slice A ls.length c] 25)).alloc (.cells #[.int .i64 s] 3)).alloc (.cells #[] 3)).alloc (.cells #[.slice (some ⟨w.heap.size + 1 + 1, 0, none⟩) 0 0] 28)) 3 #[.int .i64 s, .int .i64 t]
    simp only [World.size_alloc] at hL0 hX0
    have C1 := vw_any nn A ls c (some ⟨w.heap.size + 1 + 1 + 1 + 1, 0, none⟩) [s, t] 2 _ hm (by simp) ((HS.out.below hB0).more hB0.size) (own_listH (by simpa using hX0)).sli
    rw [hv] at C1
    have HB := Lib.hid hB0
    have HM := Lib.hid hL0
    clear hB0 hL0 hX0 hv e
    go_enter Try.func54, Try.ntmps54
    go_wp2_with (go_at_call 71; refine C1.mono ?_; clear C1; rintro e w1 ⟨rfl, hb1⟩; have M1 := HM.out.below hb1 HM.out.lt; have B1 := Lib.hid (HB.out.trans (hb1.mono HB.out.size)); clear hb1; have f10 := M1.cell 0; have q10 := M1.frozen 0)
    go_ret
    exact ⟨_, w.heap.size + 1 + 1, _, rfl, by omega, fun h => absurd h (by simp), B1.out, Nat.le_refl _⟩
end Go.Proofs.Ytkcnbgimdiggoab
