/-
  Contracts over this seat: the specification's StackCrosses and StackUnique.
-/
import Derived.Test.YtblmmmeeljidiabSr
import Derived.Test.YtblmmmeeljidiabCx
namespace Go.Proofs.Ytblmmmeeljidiab
open Go.RowKit Go.Maps

theorem legsO_full {nn : Int} {ls : List Lk} {st : List Lb} : ∀ {s z : Int}, endO nn ls s st = some z → (legsO nn ls s st).length = st.length := by
  induction st with
  | nil => intro s z _; rfl
  | cons l st ih =>
    intro s z h
    simp only [endO] at h
    simp only [legsO]
    cases hz : stepO nn ls s l with
    | none => rw [hz] at h; cases h
    | some u =>
      rw [hz] at h
      simp only [List.length_cons]
      rw [ih h]
theorem legsO_at {nn : Int} {ls : List Lk} {s z : Int} {st : List Lb} (he : endO nn ls s st = some z) {k : Nat} {x : Int} {l : Lb} (hx : endO nn ls s (st.take k) = some x) (hl : st[k]? = some l) : (legsO nn ls s st)[k]? = some (l, legP nn ls x l) := by
  have hk := (List.getElem?_eq_some_iff.1 hl).1
  obtain ⟨y, hy⟩ := endO_upto he (k + 1)
  have hs : stepO nn ls x l = some y := by rw [← endO_next hx hl]; exact hy
  have h1 := legsO_next hx hl hs
  have h2 := legsO_append (nn := nn) (ls := ls) (st.drop (k + 1)) hy
  rw [List.take_append_drop] at h2
  have h3 : (legsO nn ls s (st.take k)).length = k := by rw [legsO_full hx]; simp; omega
  rw [h2, h1, List.append_assoc, List.getElem?_append_right (by omega), h3]
  simp

set_option maxRecDepth 100000 in
set_option maxHeartbeats 1600000 in
theorem stackCrosses_spec (nn : Int) (A : Option Addr) (ls : List Lk) (c : Nat) (s : Int) (B : Option Addr) (st : List Lb) (cb : Nat) (t : Int) (w : World) (hm : ls.length ≤ 2000000) (hnu : nn ≤ 9223372036854775807) (hmb : st.length ≤ 2000000) (hS : Sl w w.heap.size A ls) (hT : Slb w w.heap.size B st) :
   Calls Try.prog 26 #[gval nn A ls.length c, .int .i64 s, .slice B st.length cb, .int .i64 t] w fun e w' => e = .returned (.bool (crossS nn ls s st t)) ∧ Below w.heap.size w w' := by
  have B0 : Below w.heap.size w (w.alloc (.cells #[.int .i64 nn, .slice A ls.length c] 25)) := by (repeat (first | exact Below.refl _ _ | (refine Below.alloc ?_ (by first | exact Nat.le_refl _ | omega | (simp; done) | (simp; omega)) _) | (refine Below.setCell ?_ (by first | exact Nat.le_refl _ | omega | (simp; done) | (simp; omega)) _) | exact Below.drew ‹_›))
  have C1 := l4nodes_any nn A ls c s B st cb _ hm hnu hmb ((hS.below B0).more B0.size) (hT.grow B0)
  unfold NdsR at C1
  have HB := Lib.hid B0
  have HG := Lib.hid (Box.new w 25 #[.int .i64 nn, .slice A ls.length c])
  have HS := Lib.hid hS
  have HT := Lib.hid hT
  clear hS hT B0
  have HCS : Hid (crossS nn ls s st t = ((endI nn ls s st).isSome && (legsO nn ls s st).any (legX nn ls t))) := Lib.hid rfl
  generalize crossS nn ls s st t = qq at *
  have CI := fun W => l6In_any t 0 ((ls.length : Int) - 1) W
  go_enter Try.func26, Try.ntmps26
  go_wp2_with fail
  refine C1.mono ?_
  clear C1
  rintro e w1 (⟨hok, A1, g1, c1, rfl, hg1, ho1, hb1⟩ | ⟨hok, v, rfl, hb1⟩)
  · have HQ := Lib.hid (show qq = (legsO nn ls s st).any (legX nn ls t) by rw [HCS.out, hok]; rfl)
    obtain ⟨n, z, rfl, hg, hs, h8, he, -⟩ := endI_inv hok
    have B1 := Lib.hid (HB.out.trans (hb1.mono HB.out.size))
    have G1 := Lib.hid (HG.out.below hb1 HG.out.lt)
    have O1 := Lib.hid ho1
    have HV := Lib.hid hg
    have HEN : Hid (∀ k, ∃ x, endO (n : Int) ls s (st.take k) = some x) := Lib.hid (fun k => endO_upto he k)
    have HNL : Hid ((ndsL (n : Int) ls s st st.length).length = st.length + 1) := Lib.hid (ndsL_len _ _ _ _ _)
    have HNA : Hid (∀ (k : Nat) (x : Int), k ≤ st.length → endO (n : Int) ls s (st.take k) = some x → (ndsL (n : Int) ls s st st.length)[k]? = some x) := Lib.hid (fun k x hk h => ndsL_at hk h)
    have HLA : Hid (∀ (k : Nat) (x : Int) (l : Lb), endO (n : Int) ls s (st.take k) = some x → st[k]? = some l → (legsO (n : Int) ls s st)[k]? = some (l, legP (n : Int) ls x l)) := Lib.hid (fun k x l hx hl => legsO_at he hx hl)
    have HLF := Lib.hid (legsO_full he)
    obtain ⟨zw1, e10, e11, -, -⟩ := G1.out.two
    clear hok ho1 hb1 he HB HG HCS
    cases hin : inB t 0 ((ls.length : Int) - 1) with
    | false =>
      rw [hin] at CI
      have HF : Hid (qq = false) := Lib.hid (by
        rw [HQ.out, List.any_eq_false]
        intro y hy
        obtain ⟨u, hu, h1, h2⟩ := legsO_mem HV.out hs y hy
        rw [h1] at h2
        unfold legX
        rcases leg_kind h2 with hk | hk
        · rw [if_pos hk, used_out hin]; simp
        · rw [if_neg (by omega)]
          obtain ⟨j, x, ha, hx, _, _⟩ := leg_link hk h2
          have := (List.getElem?_eq_some_iff.1 hx).1
          unfold inB at hin
          simp at hin ⊢
          omega)
      clear hin hg
      go_wp2_with (go_at_call 48; refine (CI _).mono ?_; rintro e w2 ⟨rfl, rfl⟩)
      go_ret
      exact ⟨ret_bool HF.out.symm, B1.out⟩
    | true =>
      rw [hin] at CI
      unfold inB at hin
      simp at hin
      obtain ⟨tn, rfl⟩ : ∃ q : Nat, t = (q : Int) := ⟨t.toNat, by omega⟩
      have htl : tn < ls.length := by omega
      obtain ⟨lt, hlt0⟩ : ∃ x, ls[tn]? = some x := ⟨_, List.getElem?_eq_getElem htl⟩
      have HLT := Lib.hid hlt0
      clear hin hg hlt0
      go_wp2_with (go_at_call 48; refine (CI _).mono ?_; rintro e w2 ⟨rfl, rfl⟩)
      clear CI
      go_loopw [11] (fun i wr => ∃ k : Nat, k ≤ st.length ∧ i = .int .i64 k ∧ Below w1.heap.size w1 wr ∧ ∀ (j : Nat) (y : Lb × List Int), j < k → (legsO (n : Int) ls s st)[j]? = some y → legX (n : Int) ls (tn : Int) y = false) (fun i _ => st.length - (intOf i).toNat)
      case atStart => exact ⟨0, Nat.zero_le _, rfl, Below.refl _ _, fun j _ h => by omega⟩
      case round =>
        obtain ⟨k, hk, rfl, hb, hall⟩ := hrel
        have HA := Lib.hid hall
        clear hall
        by_cases hlt : k < st.length
        · obtain ⟨l, hl⟩ : ∃ l, st[k]? = some l := ⟨_, List.getElem?_eq_getElem hlt⟩
          obtain ⟨x, hx⟩ := HEN.out k
          obtain ⟨y, hy⟩ := HEN.out (k + 1)
          have hstep : stepO (n : Int) ls x l = some y := by rw [← endO_next hx hl]; exact hy
          have hxn : 0 ≤ x ∧ x < (n : Int) := endO_node HV.out hs hx
          have hyn : 0 ≤ y ∧ y < (n : Int) := endO_node HV.out hs hy
          have hne := stepO_leg hstep
          have hkk := leg_kind hne
          have hat := HLA.out k x l hx hl
          obtain ⟨z', hz1, _, hz0, _, _, _, hz7⟩ := leg_fact HV.out hxn hne
          rw [hstep] at hz1
          cases hz1
          have hhd : (legP (n : Int) ls x l).headD 0 = x := by
            cases hp : legP (n : Int) ls x l with
            | nil => exact absurd hp hne
            | cons a r => rw [hp] at hz0; simpa using hz0
          have HAT := Lib.hid hat
          have hwz := hb.size
          have hBW := B1.out.trans (hb.mono B1.out.size)
          have hwz0 := hBW.size
          obtain ⟨b, off, rfl, hbb, d1, d2⟩ := (HT.out.below hBW) k l hl
          have zb2 : b < wr.heap.size := Nat.lt_of_lt_of_le hbb hwz0
          obtain ⟨rfl, zg1, hcx⟩ := (O1.out.below hb).at (HNA.out k x hk hx)
          obtain ⟨-, -, hcy⟩ := (O1.out.below hb).at (HNA.out (k + 1) y hlt hy)
          obtain ⟨zw2, e0, e1, -, -⟩ := (G1.out.below hb G1.out.lt).two
          have HBB := Lib.hid hb
          have hkl : (k : Int) < (st.length : Int) + 1 := by omega
          clear e10 e11 zw1
          rcases hkk with hk1 | hk2
          · obtain ⟨hya, hy0, hyp⟩ := hz7 hk1
            have HLX : Hid (legX (n : Int) ls (tn : Int) (l, legP (n : Int) ls x l) = usedL (n : Int) ls x y lt) := Lib.hid (by
              unfold legX
              rw [if_pos hk1, hhd, ← hya]
              exact used_at (vwB_of HV.out hxn hyn) HLT.out)
            have CU : ∀ X : Ext wr, Calls Try.prog 49 #[gval (n : Int) A ls.length c, .int .i64 x, .int .i64 y, .int .i64 (tn : Int)] X.w fun e w' => e = .returned (.bool (usedL (n : Int) ls x y lt)) ∧ Below X.w.heap.size X.w w' := fun X =>
              l2used_any n A ls c x y tn lt X.w HLT.out HV.out hxn hyn (((HS.out.below hBW).below (X.below.mono hwz0)).more (Nat.le_trans hwz0 X.below.size))
            obtain ⟨lk, la⟩ := l
            dsimp only at d1 d2 hk1 hya
            subst hk1 hya
            generalize usedL (n : Int) ls x y lt = u at *
            clear hl hx hy hstep hne hat hz0 hz7 hhd hb hBW hyp hy0
            have hY := fun (x : Ext wr) (b o : Nat) (h : b < wr.heap.size) => x.cell b o h
            go_wp2_with fail
            refine wp_region_ext (by kernel_rfl) (by kernel_rfl) ?_
            repeat (go_big_quiet_step (first | (go_at_call 49; exact Calls.ext_of (CU _))))
            (refine wpQuiet_nil ?_); (rintro _ ⟨X, rfl⟩); (have hw1 := X.below); (generalize X.w = w1 at *); (clear X)
            clear hY
            have B2 := Lib.hid (HBB.out.trans (hw1.mono hwz))
            have B3 := Lib.hid (B1.out.trans (B2.out.mono B1.out.size))
            cases u with
            | true =>
              go_wp2_with fail
              go_ret
              exact ⟨ret_bool (by rw [HQ.out]; exact (List.any_eq_true.2 ⟨_, List.mem_of_getElem? HAT.out, HLX.out⟩).symm), B3.out⟩
            | false =>
              go_wp2_with fail
              go_roundw
              case rel =>
                refine ⟨k + 1, hlt, by go_num, B2.out, fun j y' hj hy' => ?_⟩
                by_cases hjk : j < k
                · exact HA.out j y' hjk hy'
                · obtain rfl : j = k := by omega
                  rw [HAT.out] at hy'
                  cases hy'
                  exact HLX.out
              case measure => simp [intOf]; omega
          · have HLX : Hid (legX (n : Int) ls (tn : Int) (l, legP (n : Int) ls x l) = decide (l.a = (tn : Int))) := Lib.hid (by unfold legX; dsimp only; rw [if_neg (by omega)])
            obtain ⟨lk, la⟩ := l
            dsimp only at d1 d2 hk2
            subst hk2
            clear hl hx hy hstep hne hat hz0 hz7 hhd hb hBW
            by_cases hla : la = (tn : Int)
            · have hla' : (la == (tn : Int)) = true := by simp [hla]
              have HL2 := Lib.hid hla
              clear hla
              have hY := fun (x : Ext wr) (b o : Nat) (h : b < wr.heap.size) => x.cell b o h
              go_wp2_with fail
              refine wp_region_ext (by kernel_rfl) (by kernel_rfl) ?_
              repeat (go_big_quiet_step (fail))
              (refine wpQuiet_nil ?_); (rintro _ ⟨X, rfl⟩); (have hw1 := X.below); (generalize X.w = w1 at *); (clear X)
              clear hY
              have B2 := Lib.hid (HBB.out.trans (hw1.mono hwz))
              have B3 := Lib.hid (B1.out.trans (B2.out.mono B1.out.size))
              go_wp2_with fail
              go_ret
              exact ⟨ret_bool (by rw [HQ.out]; exact (List.any_eq_true.2 ⟨_, List.mem_of_getElem? HAT.out, by rw [HLX.out, HL2.out]; simp⟩).symm), B3.out⟩
            · have hla' : (la == (tn : Int)) = false := by simpa using hla
              have HL2 := Lib.hid hla
              clear hla
              have hY := fun (x : Ext wr) (b o : Nat) (h : b < wr.heap.size) => x.cell b o h
              go_wp2_with fail
              refine wp_region_ext (by kernel_rfl) (by kernel_rfl) ?_
              repeat (go_big_quiet_step (fail))
              (refine wpQuiet_nil ?_); (rintro _ ⟨X, rfl⟩); (have hw1 := X.below); (generalize X.w = w1 at *); (clear X)
              clear hY
              have B2 := Lib.hid (HBB.out.trans (hw1.mono hwz))
              go_wp2_with fail
              go_roundw
              case rel =>
                refine ⟨k + 1, hlt, by go_num, B2.out, fun j y' hj hy' => ?_⟩
                by_cases hjk : j < k
                · exact HA.out j y' hjk hy'
                · obtain rfl : j = k := by omega
                  rw [HAT.out] at hy'
                  cases hy'
                  rw [HLX.out]
                  simpa using HL2.out
              case measure => simp [intOf]; omega
        · obtain rfl : k = st.length := by omega
          have HBB := Lib.hid (B1.out.trans (hb.mono B1.out.size))
          clear hb
          go_wp2_with fail
          go_ret
          refine ⟨ret_bool ?_, HBB.out⟩
          rw [HQ.out]
          symm
          rw [List.any_eq_false]
          intro y' hy'
          obtain ⟨j, hj⟩ := List.getElem?_of_mem hy'
          rw [HA.out j y' (by have := (List.getElem?_eq_some_iff.1 hj).1; have := HLF.out; omega) hj]
          simp
  · have HF : Hid (qq = false) := Lib.hid (by rw [HCS.out, hok]; rfl)
    have B1 := Lib.hid (HB.out.trans (hb1.mono HB.out.size))
    clear hok hb1 HB CI
    go_wp2_with fail
    go_ret
    exact ⟨ret_bool HF.out.symm, B1.out⟩

theorem legU_count {n : Nat} {ls : List Lk} (hg : gvB (n : Int) ls = true) {x y : Int} (hx : 0 ≤ x ∧ x < (n : Int)) (hy : 0 ≤ y ∧ y < (n : Int)) (h0 : 0 ≤ bf (n : Int) ls x y) {g : Lb × List Int} (hk : g.1.k = 1) (ha : g.1.a = y) (hd : g.2.headD 0 = x) :
    legU (n : Int) ls g = !decide (((cntL n ls x y : Nat) : Int) = 1) := by
  unfold legU
  rw [if_pos hk, hd, ha]
  unfold countI
  rw [if_pos (vwB_of hg hx hy), Int.toNat_natCast]
  have hf := (gvB_fit hg).1
  have h1 := (cntL_pos hg hy _ x hx (Nat.le_refl _)).2 (by rw [bf_symm hf hy hx]; exact h0)
  by_cases h : ((cntL n ls x y : Nat) : Int) = 1
  · simp [h]
  · have : 1 < ((cntL n ls x y : Nat) : Int) := by omega
    rw [decide_eq_true this, decide_eq_false h]
    rfl

set_option maxRecDepth 100000 in
set_option maxHeartbeats 1600000 in
theorem stackUnique_spec (nn : Int) (A : Option Addr) (ls : List Lk) (c : Nat) (s : Int) (B : Option Addr) (st : List Lb) (cb : Nat) (w : World) (hm : ls.length ≤ 2000000) (hnu : nn ≤ 9223372036854775807) (hmb : st.length ≤ 2000000) (hS : Sl w w.heap.size A ls) (hT : Slb w w.heap.size B st) :
   Calls Try.prog 30 #[gval nn A ls.length c, .int .i64 s, .slice B st.length cb] w fun e w' => e = .returned (.bool (uniqS nn ls s st)) ∧ Below w.heap.size w w' := by
  have B0 : Below w.heap.size w (w.alloc (.cells #[.int .i64 nn, .slice A ls.length c] 25)) := by (repeat (first | exact Below.refl _ _ | (refine Below.alloc ?_ (by first | exact Nat.le_refl _ | omega | (simp; done) | (simp; omega)) _) | (refine Below.setCell ?_ (by first | exact Nat.le_refl _ | omega | (simp; done) | (simp; omega)) _) | exact Below.drew ‹_›))
  have C1 := l4nodes_any nn A ls c s B st cb _ hm hnu hmb ((hS.below B0).more B0.size) (hT.grow B0)
  unfold NdsR at C1
  have HB := Lib.hid B0
  have HG := Lib.hid (Box.new w 25 #[.int .i64 nn, .slice A ls.length c])
  have HS := Lib.hid hS
  have HT := Lib.hid hT
  clear hS hT B0
  have HCS : Hid (uniqS nn ls s st = ((endI nn ls s st).isSome && !(legsO nn ls s st).any (legU nn ls))) := Lib.hid rfl
  generalize uniqS nn ls s st = qq at *
  go_enter Try.func30, Try.ntmps30
  go_wp2_with fail
  refine C1.mono ?_
  clear C1
  rintro e w1 (⟨hok, A1, g1, c1, rfl, hg1, ho1, hb1⟩ | ⟨hok, v, rfl, hb1⟩)
  · have HQ := Lib.hid (show qq = !(legsO nn ls s st).any (legU nn ls) by rw [HCS.out, hok]; rfl)
    obtain ⟨n, z, rfl, hg, hs, h8, he, -⟩ := endI_inv hok
    have B1 := Lib.hid (HB.out.trans (hb1.mono HB.out.size))
    have G1 := Lib.hid (HG.out.below hb1 HG.out.lt)
    have O1 := Lib.hid ho1
    have HV := Lib.hid hg
    have HEN : Hid (∀ k, ∃ x, endO (n : Int) ls s (st.take k) = some x) := Lib.hid (fun k => endO_upto he k)
    have HNL : Hid ((ndsL (n : Int) ls s st st.length).length = st.length + 1) := Lib.hid (ndsL_len _ _ _ _ _)
    have HNA : Hid (∀ (k : Nat) (x : Int), k ≤ st.length → endO (n : Int) ls s (st.take k) = some x → (ndsL (n : Int) ls s st st.length)[k]? = some x) := Lib.hid (fun k x hk h => ndsL_at hk h)
    have HLA : Hid (∀ (k : Nat) (x : Int) (l : Lb), endO (n : Int) ls s (st.take k) = some x → st[k]? = some l → (legsO (n : Int) ls s st)[k]? = some (l, legP (n : Int) ls x l)) := Lib.hid (fun k x l hx hl => legsO_at he hx hl)
    have HLF := Lib.hid (legsO_full he)
    clear hok ho1 hb1 he HB HG HCS hg
    go_wp2_with fail
    go_loopw [8, 9] (fun v i wr => ∃ (k : Nat) (ok : Bool), k ≤ st.length ∧ i = .int .i64 k ∧ v = .bool ok ∧ Below w1.heap.size w1 wr ∧ (ok = true → ∀ (j : Nat) (y : Lb × List Int), j < k → (legsO (n : Int) ls s st)[j]? = some y → legU (n : Int) ls y = false) ∧ (ok = false → qq = false)) (fun _ i _ => st.length - (intOf i).toNat)
    case atStart => exact ⟨0, true, Nat.zero_le _, rfl, rfl, Below.refl _ _, fun _ j _ h => by omega, fun h => by cases h⟩
    case round =>
      obtain ⟨k, ok, hk, rfl, rfl, hb, hall, hno⟩ := hrel
      have HBX := Lib.hid (B1.out.trans (hb.mono B1.out.size))
      cases ok with
      | false =>
        have HN := Lib.hid (hno rfl)
        clear hall hno hb
        by_cases hlt : k < st.length
        · go_wp2_with fail
          go_ret
          exact ⟨ret_bool HN.out.symm, HBX.out⟩
        · go_wp2_with fail
          go_ret
          exact ⟨ret_bool HN.out.symm, HBX.out⟩
      | true =>
        have HA := Lib.hid (hall rfl)
        clear hall hno
        by_cases hlt : k < st.length
        · obtain ⟨l, hl⟩ : ∃ l, st[k]? = some l := ⟨_, List.getElem?_eq_getElem hlt⟩
          obtain ⟨x, hx⟩ := HEN.out k
          obtain ⟨y, hy⟩ := HEN.out (k + 1)
          have hstep : stepO (n : Int) ls x l = some y := by rw [← endO_next hx hl]; exact hy
          have hxn : 0 ≤ x ∧ x < (n : Int) := endO_node HV.out hs hx
          have hyn : 0 ≤ y ∧ y < (n : Int) := endO_node HV.out hs hy
          have hne := stepO_leg hstep
          have hkk := leg_kind hne
          have hat := HLA.out k x l hx hl
          obtain ⟨z', hz1, _, hz0, _, _, _, hz7⟩ := leg_fact HV.out hxn hne
          rw [hstep] at hz1
          cases hz1
          have hhd : (legP (n : Int) ls x l).headD 0 = x := by
            cases hp : legP (n : Int) ls x l with
            | nil => exact absurd hp hne
            | cons a r => rw [hp] at hz0; simpa using hz0
          have HAT := Lib.hid hat
          have hwz := hb.size
          have hBW := B1.out.trans (hb.mono B1.out.size)
          have hwz0 := hBW.size
          obtain ⟨b, off, rfl, hbb, d1, d2⟩ := (HT.out.below hBW) k l hl
          have zb2 : b < wr.heap.size := Nat.lt_of_lt_of_le hbb hwz0
          obtain ⟨rfl, zg1, hcx⟩ := (O1.out.below hb).at (HNA.out k x hk hx)
          obtain ⟨-, -, hcy⟩ := (O1.out.below hb).at (HNA.out (k + 1) y hlt hy)
          obtain ⟨zw2, e0, e1, -, -⟩ := (G1.out.below hb G1.out.lt).two
          have HBB := Lib.hid hb
          have hkl : (k : Int) < (st.length : Int) + 1 := by omega
          have HNXT : Hid (legU (n : Int) ls (l, legP (n : Int) ls x l) = false → ∀ (j : Nat) (y : Lb × List Int), j < k + 1 → (legsO (n : Int) ls s st)[j]? = some y → legU (n : Int) ls y = false) := Lib.hid (fun h j y' hj hy' => by
            by_cases hjk : j < k
            · exact HA.out j y' hjk hy'
            · obtain rfl : j = k := by omega
              rw [HAT.out] at hy'
              cases hy'
              exact h)
          have HBAD : Hid (legU (n : Int) ls (l, legP (n : Int) ls x l) = true → qq = false) := Lib.hid (fun h => by
            rw [HQ.out, List.any_eq_true.2 ⟨_, List.mem_of_getElem? HAT.out, h⟩]; rfl)
          rcases hkk with hk1 | hk2
          · obtain ⟨hya, hy0, hyp⟩ := hz7 hk1
            have HLX : Hid (legU (n : Int) ls (l, legP (n : Int) ls x l) = !decide (((cntL n ls x y : Nat) : Int) = 1)) := Lib.hid (legU_count HV.out hxn hyn hy0 hk1 hya.symm hhd)
            have CU : ∀ X : Ext wr, Calls Try.prog 55 #[gval (n : Int) A ls.length c, .int .i64 x, .int .i64 y] X.w fun e w' => e = .returned (.int .i64 (cntL n ls x y : Nat)) ∧ Below X.w.heap.size X.w w' := fun X =>
              l2count_any n A ls c y HV.out hyn _ x X.w hxn (Nat.le_refl _) (((HS.out.below hBW).below (X.below.mono hwz0)).more (Nat.le_trans hwz0 X.below.size))
            obtain ⟨lk, la⟩ := l
            dsimp only at d1 d2 hk1 hya
            subst hk1 hya
            generalize cntL n ls x y = u at *
            clear hl hx hy hstep hne hat hz0 hz7 hhd hb hBW hyp hy0
            by_cases hu1 : u = 1
            · subst hu1
              have HN := Lib.hid (HNXT.out (by rw [HLX.out]; rfl))
              have hY := fun (x : Ext wr) (b o : Nat) (h : b < wr.heap.size) => x.cell b o h
              go_wp2_with fail
              refine wp_region_ext (by kernel_rfl) (by kernel_rfl) ?_
              repeat (go_big_quiet_step (first | (go_at_call 55; exact Calls.ext_of (CU _))))
              (refine wpQuiet_nil ?_); (rintro _ ⟨X, rfl⟩); (have hw1 := X.below); (generalize X.w = w1 at *); (clear X)
              clear hY
              have B2 := Lib.hid (HBB.out.trans (hw1.mono hwz))
              go_wp2_with fail
              go_roundw
              case rel => exact ⟨k + 1, true, hlt, by go_num, rfl, B2.out, fun _ => HN.out, fun h => by cases h⟩
              case measure => simp [intOf]; omega
            · have hu1' : (((u : Nat) : Int) == 1) = false := by rw [beq_eq_false_iff_ne]; omega
              have HN := Lib.hid (HBAD.out (by rw [HLX.out, decide_eq_false (by omega)]; rfl))
              clear hu1
              have hY := fun (x : Ext wr) (b o : Nat) (h : b < wr.heap.size) => x.cell b o h
              go_wp2_with fail
              refine wp_region_ext (by kernel_rfl) (by kernel_rfl) ?_
              repeat (go_big_quiet_step (first | (go_at_call 55; exact Calls.ext_of (CU _))))
              (refine wpQuiet_nil ?_); (rintro _ ⟨X, rfl⟩); (have hw1 := X.below); (generalize X.w = w1 at *); (clear X)
              clear hY
              have B2 := Lib.hid (HBB.out.trans (hw1.mono hwz))
              go_wp2_with fail
              go_roundw
              case rel => exact ⟨k + 1, false, hlt, by go_num, rfl, B2.out, (fun h => by cases h), fun _ => HN.out⟩
              case measure => simp [intOf]; omega
          · have HN := Lib.hid (HNXT.out (by unfold legU; dsimp only; rw [if_neg (by omega)]))
            obtain ⟨lk, la⟩ := l
            dsimp only at d1 d2 hk2
            subst hk2
            clear hl hx hy hstep hne hat hz0 hz7 hhd hb hBW
            have hY := fun (x : Ext wr) (b o : Nat) (h : b < wr.heap.size) => x.cell b o h
            go_wp2_with fail
            refine wp_region_ext (by kernel_rfl) (by kernel_rfl) ?_
            repeat (go_big_quiet_step (fail))
            (refine wpQuiet_nil ?_); (rintro _ ⟨X, rfl⟩); (have hw1 := X.below); (generalize X.w = w1 at *); (clear X)
            clear hY
            have B2 := Lib.hid (HBB.out.trans (hw1.mono hwz))
            go_wp2_with fail
            go_roundw
            case rel => exact ⟨k + 1, true, hlt, by go_num, rfl, B2.out, fun _ => HN.out, fun h => by cases h⟩
            case measure => simp [intOf]; omega
        · obtain rfl : k = st.length := by omega
          clear hb
          go_wp2_with fail
          go_ret
          refine ⟨ret_bool ?_, HBX.out⟩
          rw [HQ.out]
          symm
          rw [show (legsO (n : Int) ls s st).any (legU (n : Int) ls) = false by
            rw [List.any_eq_false]
            intro y' hy'
            obtain ⟨j, hj⟩ := List.getElem?_of_mem hy'
            rw [HA.out j y' (by have := (List.getElem?_eq_some_iff.1 hj).1; have := HLF.out; omega) hj]
            simp]
          rfl
  · have HF : Hid (qq = false) := Lib.hid (by rw [HCS.out, hok]; rfl)
    have B1 := Lib.hid (HB.out.trans (hb1.mono HB.out.size))
    clear hok hb1 HB
    go_wp2_with fail
    go_loopw [8, 9] (fun v i wr => v = .bool false ∧ i = .int .i64 0 ∧ wr = w1) (fun _ _ _ => 0)
    case atStart => exact ⟨rfl, rfl, rfl⟩
    case round =>
      obtain ⟨rfl, rfl, rfl⟩ := hrel
      by_cases hlt : 0 < st.length
      · go_wp2_with fail
        go_ret
        exact ⟨ret_bool HF.out.symm, B1.out⟩
      · go_wp2_with fail
        go_ret
        exact ⟨ret_bool HF.out.symm, B1.out⟩

end Go.Proofs.Ytblmmmeeljidiab
