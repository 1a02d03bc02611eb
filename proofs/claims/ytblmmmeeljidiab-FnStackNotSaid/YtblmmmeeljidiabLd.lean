/-
  Plain facts: stacks of labels: which links a packet crosses, slices of stacks, the way back.
-/
import Derived.Test.YtblmmmeeljidiabLc
import Derived.Test.YtblmmmeeljidiabWl
namespace Go.Proofs.Ytblmmmeeljidiab

section
variable {n : Nat} {ls : List Lk} {s : Int}
/-! ### Links of a packet's nodes -/
theorem adj_link (hg : gvB (n : Int) ls = true) {a b e : Int} (ha : Adj ls a b e) {j : Nat} {l : Lk} (h1 : linkI (n : Int) ls a b = (j : Int)) (h2 : ls[j]? = some l) : endsB l a b := by
  obtain ⟨k, l', e1, e2, ha2, h3, h4⟩ := nbI_link hg ((nbI_adj hg).2 ⟨e, ha⟩)
  rw [h1] at e1
  have : j = k := by omega
  subst this
  rw [h2] at e2
  cases e2
  have hb := gvB_at hg h2
  unfold endsB
  omega
theorem ends_link (hg : gvB (n : Int) ls = true) {a b : Int} {j : Nat} {l : Lk} (h2 : ls[j]? = some l) (he : endsB l a b) : linkI (n : Int) ls a b = (j : Int) := by
  have ha : Adj ls a b l.c := ⟨l, List.mem_of_getElem? h2, he, rfl⟩
  obtain ⟨k, l', e1, e2, ha2, h3, h4⟩ := nbI_link hg ((nbI_adj hg).2 ⟨_, ha⟩)
  rw [e1]
  have hb := gvB_at hg h2
  have hpw := (gvB_iff.1 hg).2.2.2
  obtain ⟨h5, h6⟩ := List.getElem?_eq_some_iff.1 h2
  obtain ⟨h7, h8⟩ := List.getElem?_eq_some_iff.1 e2
  have hends : l'.a = l.a ∧ l'.b = l.b := by
    unfold endsB at he
    omega
  rcases Nat.lt_trichotomy j k with h | h | h
  · have := List.pairwise_iff_getElem.1 hpw j k h5 h7 h
    rw [h6, h8] at this
    unfold beforeB at this
    simp at this
    omega
  · omega
  · have := List.pairwise_iff_getElem.1 hpw k j h7 h5 h
    rw [h6, h8] at this
    unfold beforeB at this
    simp at this
    omega
/-- Two nodes in a row of a packet lie on one leg. -/
theorem pair_leg (hg : gvB (n : Int) ls = true) {st : List Lb} {z : Int} : ∀ {s : Int}, 0 ≤ s ∧ s < (n : Int) → endO (n : Int) ls s st = some z → ∀ (k : Nat) (a b : Int), (s :: pthO (n : Int) ls s st)[k]? = some a → (s :: pthO (n : Int) ls s st)[k + 1]? = some b →
    ∃ y ∈ legsO (n : Int) ls s st, ∃ i, y.2[i]? = some a ∧ y.2[i + 1]? = some b := by
  induction st with
  | nil =>
    intro s _ _ k a b _ hb
    simp [pthO] at hb
  | cons l st ih =>
    intro s hs h k a b ha hb
    simp only [endO] at h
    simp only [pthO, legsO] at ha hb ⊢
    cases hz : stepO (n : Int) ls s l with
    | none => rw [hz] at h; cases h
    | some u =>
      rw [hz] at h ha hb
      dsimp only at h ha hb ⊢
      have hu := stepO_node hg hs hz
      have hne := stepO_leg hz
      obtain ⟨q, hq⟩ := leg_snoc hz
      have hc := leg_cons hg hs hne
      have e : s :: ((legP (n : Int) ls s l).drop 1 ++ pthO (n : Int) ls u st) = q ++ u :: pthO (n : Int) ls u st := by
        rw [← List.cons_append, ← hc, hq]; simp
      rw [e] at ha hb
      by_cases hk : k + 1 ≤ q.length
      · refine ⟨_, List.mem_cons_self, k, ?_, ?_⟩
        · rw [hq, List.getElem?_append_left (by omega)]
          rwa [List.getElem?_append_left (by omega)] at ha
        · rw [hq]
          by_cases hk2 : k + 1 < q.length
          · rw [List.getElem?_append_left hk2]
            rwa [List.getElem?_append_left hk2] at hb
          · obtain hk3 : k + 1 = q.length := by omega
            rw [List.getElem?_append_right (by omega)] at hb ⊢
            rw [hk3, Nat.sub_self] at hb ⊢
            simpa using hb
      · rw [List.getElem?_append_right (by omega)] at ha hb
        obtain ⟨y, hy, i, h1, h2⟩ := ih hu h (k - q.length) a b ha (by rw [← hb]; congr 1; omega)
        exact ⟨y, List.mem_cons_of_mem _ hy, i, h1, h2⟩
theorem leg_used (hg : gvB (n : Int) ls = true) {y : Lb × List Int} {u : Int} (hu : 0 ≤ u ∧ u < (n : Int)) (hy : y.2 = legP (n : Int) ls u y.1) (hne : y.2 ≠ []) {i : Nat} {a b : Int} (ha : y.2[i]? = some a) (hb : y.2[i + 1]? = some b) :
    legX (n : Int) ls (linkI (n : Int) ls a b) y = true := by
  rw [hy] at hne ha hb
  obtain ⟨z, _, hz, h0, hw, _, _, h7⟩ := leg_fact hg hu hne
  have hhd : y.2.headD 0 = u := by
    rw [hy]
    cases hp : legP (n : Int) ls u y.1 with
    | nil => exact absurd hp hne
    | cons v r => rw [hp] at h0; simpa using h0
  unfold legX
  rcases leg_kind hne with hk | hk
  · rw [if_pos hk, hhd]
    obtain ⟨rfl, _, hp⟩ := h7 hk
    obtain ⟨j, l, e1, e2, e3, e4, e5, e6, e7⟩ := hp.link hg hz ha hb
    obtain ⟨u1, u2, u3, u4⟩ := hp.used hg hz ha
    obtain ⟨v1, v2, v3, v4⟩ := hp.used hg hz hb
    rw [e1, used_at (vwB_of hg hu hz) e2]
    unfold usedL
    have hsy := bf_symm (gvB_fit hg).1 hu hz
    simp only [Bool.and_eq_true, Bool.or_eq_true, decide_eq_true_eq]
    rcases Int.le_total a b with hab | hab
    · rw [show l.a = a by omega, show l.b = b by omega]
      omega
    · rw [show l.a = b by omega, show l.b = a by omega]
      omega
  · rw [if_neg (by omega)]
    obtain ⟨j, x, hj, hx, ht, e⟩ := leg_link hk hne
    rw [e] at ha hb
    have hi : i = 0 := by
      have := (List.getElem?_eq_some_iff.1 hb).1
      simp at this
      omega
    subst hi
    simp at ha hb
    subst ha; subst hb
    obtain ⟨_, _, hee, _⟩ := link_adj hx ht
    have hb := gvB_at hg hx
    have he : endsB x u (acrossI x u) := by
      unfold endsB acrossI
      unfold touchB at ht
      simp only [Bool.or_eq_true, decide_eq_true_eq] at ht
      split <;> omega
    rw [ends_link hg hx he, hj]
    simp
end
/-- Each link of a packet's path is crossed. -/
theorem path_crosses {n : Int} {ls : List Lk} {x : Int} {st : List Lb} {k : Nat} {a b : Int} (ha : (pathS n ls x st)[k]? = some a) (hb : (pathS n ls x st)[k + 1]? = some b) : crossS n ls x st (linkI n ls a b) = true := by
  cases hs : (endI n ls x st).isSome with
  | false => rw [pathS_none hs] at ha; simp at ha
  | true =>
    obtain ⟨m, z, rfl, hg, hx, _, he, hi⟩ := endI_inv hs
    unfold pathS at ha hb
    rw [if_pos hs] at ha hb
    obtain ⟨y, hy, i, h1, h2⟩ := pair_leg hg hx he k a b ha hb
    obtain ⟨u, hu, e1, e2⟩ := legsO_mem hg hx y hy
    unfold crossS
    rw [hs, Bool.true_and, List.any_eq_true]
    exact ⟨y, hy, leg_used hg hu e1 e2 h1 h2⟩

/-! ### A unique way -/
section
variable {n : Nat} {ls : List Lk} {s : Int}
theorem used_on (hg : gvB (n : Int) ls = true) {t : Int} (hs : 0 ≤ s ∧ s < (n : Int)) (ht : 0 ≤ t ∧ t < (n : Int)) {k : Nat} {l : Lk} (hl : ls[k]? = some l) (hu : usedL (n : Int) ls s t l = true) (hc : cntL n ls s t = 1) {p : List Int} (hp : IsP n ls t s p) :
    ∃ i a b, p[i]? = some a ∧ p[i + 1]? = some b ∧ endsB l a b := by
  apply Classical.byContradiction
  intro hno
  obtain ⟨m, hm⟩ := er_path hg hl ht hp fun i x y hx hy he => hno ⟨i, x, y, hx, hy, he⟩
  have hv' := er_gv hg k
  obtain ⟨hf, _⟩ := gvB_fit hg
  obtain ⟨hf', _⟩ := gvB_fit hv'
  have h1 := bf_le hf' ht hm.symm
  obtain ⟨m2, hm2⟩ := bf_walk hf' ht h1.1
  have h2 := bf_le hf ht (er_wk hg hl hm2)
  have hd : bf (n : Int) (ls.eraseIdx k) t s = bf (n : Int) ls t s := by omega
  have h3 := er_fewer hg hl hs ht hu hd
  have h4 := (cntL_pos hv' ht _ s hs (Nat.le_refl _)).2 h1.1
  omega
/-- Two nodes in a row of a leg are two in a row of the packet. -/
theorem leg_pair (hg : gvB (n : Int) ls = true) {st : List Lb} {z : Int} : ∀ {s : Int}, 0 ≤ s ∧ s < (n : Int) → endO (n : Int) ls s st = some z → ∀ y ∈ legsO (n : Int) ls s st, ∀ (i : Nat) (a b : Int), y.2[i]? = some a → y.2[i + 1]? = some b →
    ∃ k, (s :: pthO (n : Int) ls s st)[k]? = some a ∧ (s :: pthO (n : Int) ls s st)[k + 1]? = some b := by
  induction st with
  | nil => intro s _ _ y hy; simp [legsO] at hy
  | cons l st ih =>
    intro s hs h y hy i a b ha hb
    simp only [endO] at h
    simp only [pthO, legsO] at hy ⊢
    cases hz : stepO (n : Int) ls s l with
    | none => rw [hz] at h; cases h
    | some u =>
      rw [hz] at h hy
      dsimp only at h hy ⊢
      have hu := stepO_node hg hs hz
      have hne := stepO_leg hz
      obtain ⟨q, hq⟩ := leg_snoc hz
      have hc := leg_cons hg hs hne
      have e : s :: ((legP (n : Int) ls s l).drop 1 ++ pthO (n : Int) ls u st) = q ++ u :: pthO (n : Int) ls u st := by
        rw [← List.cons_append, ← hc, hq]; simp
      rw [e]
      rcases List.mem_cons.1 hy with rfl | hy
      · dsimp only at ha hb
        rw [hq] at ha hb
        have hi := (List.getElem?_eq_some_iff.1 hb).1
        simp at hi
        refine ⟨i, ?_, ?_⟩
        · rw [List.getElem?_append_left (by omega)]
          rwa [List.getElem?_append_left (by omega)] at ha
        · by_cases hk2 : i + 1 < q.length
          · rw [List.getElem?_append_left hk2]
            rwa [List.getElem?_append_left hk2] at hb
          · obtain hk3 : i + 1 = q.length := by omega
            rw [List.getElem?_append_right (by omega)] at hb ⊢
            rw [hk3, Nat.sub_self] at hb ⊢
            simpa using hb
      · obtain ⟨k, h1, h2⟩ := ih hu h y hy i a b ha hb
        refine ⟨q.length + k, ?_, ?_⟩
        · rw [List.getElem?_append_right (by omega)]
          rw [show q.length + k - q.length = k by omega]; exact h1
        · rw [List.getElem?_append_right (by omega)]
          rw [show q.length + k + 1 - q.length = k + 1 by omega]; exact h2
end
theorem unique_on {n : Int} {ls : List Lk} {x : Int} {st : List Lb} (hu : uniqS n ls x st = true) {k : Nat} (hc : crossS n ls x st (k : Int) = true) :
    ∃ i a b, (pathS n ls x st)[i]? = some a ∧ (pathS n ls x st)[i + 1]? = some b ∧ linkI n ls a b = (k : Int) := by
  unfold uniqS at hu
  unfold crossS at hc
  rw [Bool.and_eq_true] at hu hc
  obtain ⟨hs, hu⟩ := hu
  obtain ⟨-, hc⟩ := hc
  obtain ⟨m, z, rfl, hg, hx, _, he, hi⟩ := endI_inv hs
  obtain ⟨y, hy, hyx⟩ := List.any_eq_true.1 hc
  have hyu : legU (m : Int) ls y = false := by
    simp only [Bool.not_eq_true', List.any_eq_false] at hu
    simpa using hu y hy
  obtain ⟨u, hun, e1, e2⟩ := legsO_mem hg hx y hy
  have hpair : ∃ i a b, y.2[i]? = some a ∧ y.2[i + 1]? = some b ∧ linkI (m : Int) ls a b = (k : Int) := by
    have hne := e2
    rw [e1] at hne
    obtain ⟨t, _, ht, h0, hw, _, _, h7⟩ := leg_fact hg hun hne
    have hhd : y.2.headD 0 = u := by
      rw [e1]
      cases hp : legP (m : Int) ls u y.1 with
      | nil => exact absurd hp hne
      | cons v r => rw [hp] at h0; simpa using h0
    unfold legX at hyx
    unfold legU at hyu
    rcases leg_kind hne with hk | hk
    · rw [if_pos hk, hhd] at hyx hyu
      obtain ⟨rfl, hb0, hp⟩ := h7 hk
      have hkl : k < ls.length := by
        apply Classical.byContradiction
        intro h
        rw [used_out (by unfold inB; simp; omega)] at hyx
        cases hyx
      obtain ⟨l, hl⟩ : ∃ l, ls[k]? = some l := ⟨_, List.getElem?_eq_getElem hkl⟩
      rw [used_at (vwB_of hg hun ht) hl] at hyx
      have hcn : cntL m ls u y.1.a = 1 := by
        unfold countI at hyu
        rw [if_pos (vwB_of hg hun ht), Int.toNat_natCast] at hyu
        have := (cntL_pos hg ht _ u hun (Nat.le_refl _)).2 (by rw [bf_symm (gvB_fit hg).1 ht hun]; exact hb0)
        simp at hyu
        omega
      obtain ⟨i, a, b, h1, h2, h3⟩ := used_on hg hun ht hl hyx hcn hp
      exact ⟨i, a, b, by rw [e1]; exact h1, by rw [e1]; exact h2, ends_link hg hl h3⟩
    · rw [if_neg (by omega)] at hyx
      obtain ⟨j, w, hj, hw2, ht2, e⟩ := leg_link hk hne
      have hjk : j = k := by
        simp at hyx
        omega
      subst hjk
      refine ⟨0, u, acrossI w u, by rw [e1, e]; rfl, by rw [e1, e]; rfl, ends_link hg hw2 ?_⟩
      unfold endsB acrossI
      unfold touchB at ht2
      simp only [Bool.or_eq_true, decide_eq_true_eq] at ht2
      have := gvB_at hg hw2
      split <;> omega
  obtain ⟨i, a, b, h1, h2, h3⟩ := hpair
  obtain ⟨q, h4, h5⟩ := leg_pair hg hx he y hy i a b h1 h2
  refine ⟨q, a, b, ?_, ?_, h3⟩
  · unfold pathS; rw [if_pos hs]; exact h4
  · unfold pathS; rw [if_pos hs]; exact h5

/-! ### Parts of a stack -/
theorem end_parts {n : Int} {ls : List Lk} {x z : Int} {st : List Lb} (h : endI n ls x st = some z) (k : Nat) : ∃ a, endI n ls x (st.take k) = some a ∧ endI n ls a (st.drop k) = some z := by
  obtain ⟨m, z', rfl, hg, hx, h8, he, hi⟩ := endI_inv (by rw [h]; rfl)
  rw [hi] at h; cases h
  obtain ⟨a, ha⟩ := endO_upto he k
  have h2 := endO_append (m : Int) ls x (st.take k) (st.drop k)
  rw [List.take_append_drop, he, ha] at h2
  have han := endO_node hg hx ha
  refine ⟨a, ?_, ?_⟩
  · unfold endI
    rw [if_pos (by unfold stB; rw [vwB_one hg hx]; simp; omega), ha]
  · unfold endI
    rw [if_pos (by unfold stB; rw [vwB_one hg han]; simp; omega)]
    exact h2.symm

/-! ### The cost of a way -/
theorem way_wk {n : Nat} {ls : List Lk} (hg : gvB (n : Int) ls = true) : ∀ {r : List Int} {a z : Int}, Way ls (a :: r) → (a :: r).getLast? = some z → ∃ k, Wk ls a z (along (n : Int) ls (a :: r)) k := by
  intro r
  induction r with
  | nil =>
    intro a z _ hz
    simp at hz
    subst hz
    exact ⟨0, by simp only [along]; exact .nil⟩
  | cons b r ih =>
    intro a z hw hz
    obtain ⟨k, hk⟩ := ih hw.tail (by simpa using hz)
    obtain ⟨e, ha⟩ := hw 0 a b rfl rfl
    have h1 := (Wk.one ha).trans hk
    refine ⟨1 + k, ?_⟩
    simp only [along]
    rw [lcost_eq hg ha]
    exact h1
theorem cost_least {n : Int} {ls : List Lk} {x z : Int} {st : List Lb} (h : endI n ls x st = some z) : ∃ (m q : Nat), n = (m : Int) ∧ z = (q : Int) ∧ q < m ∧ gvB (m : Int) ls = true ∧ (0 ≤ x ∧ x < (m : Int)) ∧ bf (m : Int) ls x (q : Int) ≤ costS (m : Int) ls x st ∧ costS (m : Int) ls x [⟨1, z⟩] = bf (m : Int) ls x (q : Int) ∧ 0 ≤ costS (m : Int) ls x st := by
  obtain ⟨m, z', rfl, hg, hx, h8, he, hi⟩ := endI_inv (by rw [h]; rfl)
  rw [hi] at h; cases h
  have hz := endO_node hg hx he
  obtain ⟨q, rfl⟩ : ∃ q : Nat, z = (q : Int) := ⟨z.toNat, by omega⟩
  have hs : (endI (m : Int) ls x st).isSome = true := by rw [hi]; rfl
  have hlast : (pathS (m : Int) ls x st).getLast? = some (q : Int) := by rw [List.getLast?_eq_getElem?]; exact (pathS_end hi).1
  have hp : pathS (m : Int) ls x st = x :: pthO (m : Int) ls x st := by unfold pathS; rw [if_pos hs]
  obtain ⟨k, hk⟩ := way_wk hg (r := pthO (m : Int) ls x st) (a := x) (z := (q : Int)) (by rw [← hp]; exact pathS_way) (by rw [← hp]; exact hlast)
  have hle := bf_le (gvB_fit hg).1 hx hk
  have hst : stepO (m : Int) ls x ⟨1, (q : Int)⟩ = some (q : Int) := by rw [stepO_node1 hg hx, if_pos ⟨hz, hle.1⟩]
  have he1 : endO (m : Int) ls x [⟨1, (q : Int)⟩] = some (q : Int) := by rw [endO_one]; exact hst
  have hi1 : endI (m : Int) ls x [⟨1, (q : Int)⟩] = some (q : Int) := by
    unfold endI
    rw [if_pos (by unfold stB; rw [vwB_one hg hx]; simp), he1]
  refine ⟨m, q, rfl, rfl, by omega, hg, hx, ?_, ?_, (cost_sign _ _ _ _).1 hs⟩
  · rw [costS_some hs, hp]
    exact hle.2
  · unfold costS
    rw [hi1, Option.isSome_some, if_pos rfl, along_legs hg hx he1]
    simp only [legsC, hst]
    unfold legC
    dsimp only
    rw [if_neg (by decide)]
    omega

/-! ### Labels of links -/
def labs (n : Int) (ls : List Lk) (xs : List Int) (m : Nat) : List Lb := (List.range m).map fun i => ⟨2, linkI n ls ((xs[i]?).getD 0) ((xs[i + 1]?).getD 0)⟩
theorem labs_len (n : Int) (ls : List Lk) (xs : List Int) (m : Nat) : (labs n ls xs m).length = m := by simp [labs]
theorem labs_succ {n : Int} {ls : List Lk} {xs : List Int} {m : Nat} {a b : Int} (ha : xs[m]? = some a) (hb : xs[m + 1]? = some b) : labs n ls xs (m + 1) = labs n ls xs m ++ [⟨2, linkI n ls a b⟩] := by
  unfold labs
  rw [List.range_succ, List.map_append]
  simp [ha, hb]
theorem labs_end {n : Nat} {ls : List Lk} (hg : gvB (n : Int) ls = true) {xs : List Int} (hw : Way ls xs) {x : Int} (h0 : xs[0]? = some x) : ∀ m, m < xs.length → endO (n : Int) ls x (labs (n : Int) ls xs m) = xs[m]? := by
  intro m
  induction m with
  | zero => intro _; rw [h0]; rfl
  | succ m ih =>
    intro hm
    obtain ⟨a, ha⟩ : ∃ a, xs[m]? = some a := ⟨_, List.getElem?_eq_getElem (by omega)⟩
    obtain ⟨b, hb⟩ : ∃ b, xs[m + 1]? = some b := ⟨_, List.getElem?_eq_getElem hm⟩
    have h1 := ih (by omega)
    rw [labs_succ ha hb, endO_append, h1, ha]
    show endO (n : Int) ls a [⟨2, linkI (n : Int) ls a b⟩] = xs[m + 1]?
    obtain ⟨e, hadj⟩ := hw m a b ha hb
    obtain ⟨j, l, e1, e2, _⟩ := way_link hg ⟨e, hadj⟩
    have he := adj_link hg hadj e1 e2
    rw [endO_one, e1, stepO_link2 e2, hb]
    have := gvB_at hg e2
    unfold endsB at he
    by_cases h : l.a = a
    · rw [if_pos h]; congr 1; omega
    · rw [if_neg h, if_pos (by omega)]; congr 1; omega
theorem legsO_sub {n : Int} {ls : List Lk} {st : List Lb} : ∀ {s : Int}, ∀ y ∈ legsO n ls s st, y.1 ∈ st := by
  induction st with
  | nil => intro s y hy; simp [legsO] at hy
  | cons l st ih =>
    intro s y hy
    simp only [legsO] at hy
    cases hz : stepO n ls s l with
    | none => rw [hz] at hy; simp at hy
    | some u =>
      rw [hz] at hy
      rcases List.mem_cons.1 hy with rfl | hy
      · exact List.mem_cons_self
      · exact List.mem_cons_of_mem _ (ih y hy)
theorem labs_unique {n : Nat} {ls : List Lk} (hg : gvB (n : Int) ls = true) {xs : List Int} (hw : Way ls xs) {x : Int} (hx : 0 ≤ x ∧ x < (n : Int)) (h0 : xs[0]? = some x) {m : Nat} (hm : m < xs.length) (h8 : m ≤ 8) : uniqS (n : Int) ls x (labs (n : Int) ls xs m) = true := by
  have he := labs_end hg hw h0 m hm
  unfold uniqS endI
  rw [if_pos (by unfold stB; rw [vwB_one hg hx, labs_len]; simp [h8]), he, List.getElem?_eq_getElem hm]
  simp only [Option.isSome_some, Bool.true_and, Bool.not_eq_true', List.any_eq_false]
  intro y hy
  have h1 := legsO_sub y hy
  have h2 : y.1.k = 2 := by
    unfold labs at h1
    obtain ⟨i, _, e⟩ := List.mem_map.1 h1
    rw [← e]
  unfold legU
  rw [if_neg (by omega)]
  simp

end Go.Proofs.Ytblmmmeeljidiab
