/-
  Plain facts: critical links.
-/
import Derived.Test.YtenlofomkchlaaaDoorCri
namespace Go.Proofs.YtenlofomkchlaaaDoor

theorem Own1.isA2 {w : Go.World} {A : Option Go.Addr} {g : Nat} {ls : List Lk} (h : Own1 w A g ls) : 0 < ls.length → ∃ g, A = some ⟨g, 0, none⟩ := fun hp => ⟨g, (h hp).1⟩

theorem cTo_mem {n : Int} {ls : List Lk} {k : Nat} {x : Int} : x ∈ cTo n ls k ↔ ∃ (i : Nat) (l : Lk), i < k ∧ x = (i : Int) ∧ ls[i]? = some l ∧ bf n (ls.eraseIdx i) l.a l.b = -1 := by
  induction k with
  | zero => simp [cTo]
  | succ k ih =>
    simp only [cTo, List.mem_append, ih]
    constructor
    · rintro (⟨i, l, hi, h⟩ | h)
      · exact ⟨i, l, by omega, h⟩
      · split at h
        · rename_i l hl
          split at h
          · rename_i hb
            exact ⟨k, l, by omega, by simpa using h, hl, hb⟩
          · simp at h
        · simp at h
    · rintro ⟨i, l, hi, e, hl, hb⟩
      by_cases hik : i < k
      · exact .inl ⟨i, l, hik, e, hl, hb⟩
      · obtain rfl : i = k := by omega
        right
        rw [hl]
        dsimp only
        rw [if_pos hb]
        simpa using e
theorem cTo_asc (n : Int) (ls : List Lk) (k : Nat) : (cTo n ls k).Pairwise (· < ·) := by
  induction k with
  | zero => simp [cTo]
  | succ k ih =>
    simp only [cTo]
    refine List.pairwise_append.2 ⟨ih, ?_, fun a ha b hb => ?_⟩
    · split
      · split <;> simp
      · simp
    · obtain ⟨i, l, hi, e, _⟩ := cTo_mem.1 ha
      split at hb
      · split at hb
        · have : b = (k : Int) := by simpa using hb
          omega
        · simp at hb
      · simp at hb
theorem critL_asc (n : Int) (ls : List Lk) : (critL n ls).Pairwise (· < ·) := by
  unfold critL
  split
  · exact cTo_asc _ _ _
  · simp
theorem critL_mem {n : Int} {ls : List Lk} {x : Int} : x ∈ critL n ls ↔ gvB n ls = true ∧ ∃ (i : Nat) (l : Lk), x = (i : Int) ∧ ls[i]? = some l ∧ bf n (ls.eraseIdx i) l.a l.b = -1 := by
  unfold critL
  split
  · rename_i h
    rw [cTo_mem]
    constructor
    · rintro ⟨i, l, _, e⟩
      exact ⟨h, i, l, e⟩
    · rintro ⟨_, i, l, e, hl, hb⟩
      exact ⟨i, l, (List.getElem?_eq_some_iff.1 hl).1, e, hl, hb⟩
  · rename_i h
    simp [h]
theorem critL_at {n : Int} {ls : List Lk} (hg : gvB n ls = true) {k : Nat} {l : Lk} (hl : ls[k]? = some l) : (k : Int) ∈ critL n ls ↔ bf n (ls.eraseIdx k) l.a l.b = -1 := by
  rw [critL_mem]
  constructor
  · rintro ⟨_, i, l', e, hl', hb⟩
    obtain rfl : k = i := by omega
    rw [hl] at hl'
    cases hl'
    exact hb
  · exact fun h => ⟨hg, k, l, rfl, hl, h⟩

theorem rTo_count (ds : List Int) (k : Nat) : (rTo ds k).length = ((List.range k).filter fun i => match ds[i]? with | some d => decide (d ≠ -1) | none => false).length := by
  induction k with
  | zero => simp [rTo]
  | succ k ih =>
    simp only [rTo, List.range_succ, List.filter_append, List.length_append, ih]
    congr 1
    cases hd : ds[k]? with
    | none => simp [hd]
    | some d => by_cases h : d = -1 <;> simp [hd, h]
section
variable {n : Nat} {ls : List Lk} {k : Nat} {l : Lk}
theorem reach_count {s : Int} (hg : gvB (n : Int) ls = true) (hs : 0 ≤ s ∧ s < (n : Int)) : (reachL (n : Int) ls s).length = ((List.range n).filter fun i : Nat => decide (0 ≤ bf (n : Int) ls s (i : Int))).length := by
  unfold reachL
  rw [rTo_count, distL_fl (vwB_one hg hs), fl_len]
  congr 1
  refine List.filter_congr fun i hi => ?_
  rw [fl_at (by simpa using hi)]
  dsimp only
  have := bf_sg (gvB_fit hg).1 hs (i : Int)
  rw [Bool.eq_iff_iff]
  simp only [decide_eq_true_eq, ne_eq]
  omega
theorem er_same (hv : gvB (n : Int) ls = true) (h : ls[k]? = some l) (h0 : 0 ≤ bf (n : Int) (ls.eraseIdx k) l.a l.b) {v d : Int} {m : Nat} (hw : Wk ls l.a v d m) : 0 ≤ bf (n : Int) (ls.eraseIdx k) l.a v := by
  have hgl := gvB_at hv h
  have hf' := (gvB_fit (er_gv hv k)).1
  have hs : 0 ≤ l.a ∧ l.a < (n : Int) := ⟨by omega, by omega⟩
  induction hw with
  | nil => rw [bf_self hf' hs]; omega
  | snoc hwk ha ih =>
    rename_i u v' d e m
    by_cases he : endsB l u v'
    · rcases he with ⟨_, h2⟩ | ⟨_, h2⟩
      · rw [← h2]; exact h0
      · rw [← h2, bf_self hf' hs]; omega
    · exact (bf_edge hf' hs ((er_adj hv h).2 ⟨ha, he⟩) ih).1
/-- Without a critical link, and only then, fewer nodes are reached. -/
theorem crit_reach (hv : gvB (n : Int) ls = true) (h : ls[k]? = some l) : bf (n : Int) (ls.eraseIdx k) l.a l.b = -1 ↔ (reachL (n : Int) (ls.eraseIdx k) l.a).length < (reachL (n : Int) ls l.a).length := by
  have hgl := gvB_at hv h
  have hv' := er_gv hv k
  have hf := (gvB_fit hv).1
  have hf' := (gvB_fit hv').1
  have hs : 0 ≤ l.a ∧ l.a < (n : Int) := ⟨by omega, by omega⟩
  rw [reach_count hv hs, reach_count hv' hs]
  have hsub : ∀ v : Int, 0 ≤ bf (n : Int) (ls.eraseIdx k) l.a v → 0 ≤ bf (n : Int) ls l.a v := fun v h0 => (bf_sub hf' hf (fun m hm => er_mem hm) hs v h0).1
  constructor
  · intro hb
    refine filter_lt (y := l.b.toNat) (fun i _ hi => ?_) (by simp; omega) ?_ ?_
    · simp only [decide_eq_true_eq] at hi ⊢
      exact hsub _ hi
    · rw [show ((l.b.toNat : Nat) : Int) = l.b by omega, hb]
      rfl
    · rw [show ((l.b.toNat : Nat) : Int) = l.b by omega]
      have := bf_edge hf hs (u := l.a) (v := l.b) (e := l.c) ⟨l, List.mem_of_getElem? h, .inl ⟨rfl, rfl⟩, rfl⟩ (by rw [bf_self hf hs]; omega)
      simpa using this.1
  · intro hlt
    rcases bf_sg hf' hs l.b with h0 | h0
    · exfalso
      have : (List.range n).filter (fun i : Nat => decide (0 ≤ bf (n : Int) (ls.eraseIdx k) l.a (i : Int))) = (List.range n).filter (fun i : Nat => decide (0 ≤ bf (n : Int) ls l.a (i : Int))) := by
        refine List.filter_congr fun i _ => ?_
        rw [Bool.eq_iff_iff]
        simp only [decide_eq_true_eq]
        refine ⟨hsub _, fun hi => ?_⟩
        obtain ⟨m, hm⟩ := bf_walk hf hs hi
        exact er_same hv h h0 hm
      rw [this] at hlt
      omega
    · exact h0
/-- All paths between both sides use a critical link. -/
theorem crit_used (hv : gvB (n : Int) ls = true) (h : ls[k]? = some l) (hb : bf (n : Int) (ls.eraseIdx k) l.a l.b = -1) {v : Int} (hvr : 0 ≤ v ∧ v < (n : Int)) (h0 : 0 ≤ bf (n : Int) (ls.eraseIdx k) l.b v) : usedL (n : Int) ls l.a v l = true := by
  have hgl := gvB_at hv h
  have hv' := er_gv hv k
  have hf := (gvB_fit hv).1
  have hf' := (gvB_fit hv').1
  have ha : 0 ≤ l.a ∧ l.a < (n : Int) := ⟨by omega, by omega⟩
  have hbr : 0 ≤ l.b ∧ l.b < (n : Int) := ⟨by omega, by omega⟩
  cases hu : usedL (n : Int) ls l.a v l with
  | true => rfl
  | false =>
    exfalso
    have he := er_bf hv h hvr ha hu
    have h1 := (bf_sub hf' hf (fun m hm => er_mem hm) hbr v h0).1
    have h2 := bf_edge hf hvr (u := l.b) (v := l.a) (e := l.c) ⟨l, List.mem_of_getElem? h, .inr ⟨rfl, rfl⟩, rfl⟩ (by rw [bf_symm hf hvr hbr]; exact h1)
    have h3 := (bf_three hf' hbr hvr (b := l.a) h0 (by omega)).1
    rw [bf_symm hf' hbr ha] at h3
    omega
/-- There are fewer critical links than nodes. -/
theorem crit_less (hv : gvB (n : Int) ls = true) : (critL (n : Int) ls).length < n := by
  have := crit_idx hv (is := (critL (n : Int) ls).map Int.toNat) ?_ ?_
  · simpa using this
  · have hp : ((critL (n : Int) ls).map Int.toNat).Pairwise (· < ·) := by
      rw [List.pairwise_map]
      refine (critL_asc (n : Int) ls).imp_of_mem fun ha hb hlt => ?_
      obtain ⟨_, i, _, rfl, _⟩ := critL_mem.1 ha
      obtain ⟨_, j, _, rfl, _⟩ := critL_mem.1 hb
      omega
    exact hp.imp fun hlt he => by omega
  · intro i hi
    obtain ⟨x, hx, rfl⟩ := List.mem_map.1 hi
    obtain ⟨_, j, l, rfl, hl, hb⟩ := critL_mem.1 hx
    exact ⟨l, by simpa using hl, by rw [Int.toNat_natCast]; omega⟩
/-- Without any other link a critical link is still critical. -/
theorem crit_stays (hv : gvB (n : Int) ls = true) (h : ls[k]? = some l) (hb : bf (n : Int) (ls.eraseIdx k) l.a l.b = -1) {q : Nat} (hq : q ≠ k) (hql : q < ls.length) : linkI (n : Int) (ls.eraseIdx q) l.a l.b ∈ critL (n : Int) (ls.eraseIdx q) := by
  have hgl := gvB_at hv h
  have hvq := er_gv hv q
  have hfq := (gvB_fit hvq).1
  obtain ⟨lq, hlq⟩ : ∃ lq, ls[q]? = some lq := ⟨_, List.getElem?_eq_getElem hql⟩
  have hgq := gvB_at hv hlq
  have hne : ¬ endsB lq l.a l.b := fun he => by
    unfold endsB at he
    rcases Nat.lt_or_gt_of_ne hq with hlt | hlt
    · have := gvB_lex hv hlq k l hlt h
      omega
    · have := gvB_lex hv h q lq hlt hlq
      omega
  have hadj : Adj (ls.eraseIdx q) l.a l.b l.c := (er_adj hv hlq).2 ⟨⟨l, List.mem_of_getElem? h, .inl ⟨rfl, rfl⟩, rfl⟩, hne⟩
  obtain ⟨j, l', hj, hl', _, ha', hb'⟩ := nbI_link hvq ((nbI_adj hvq).2 ⟨l.c, hadj⟩)
  rw [hj, critL_at hvq hl']
  have hle : l.a < l.b := by omega
  rw [ha', hb', Int.min_eq_left (by omega), Int.max_eq_right (by omega)]
  have hvj := er_gv hvq j
  have hs : 0 ≤ l.a ∧ l.a < (n : Int) := ⟨by omega, by omega⟩
  rcases bf_sg (gvB_fit hvj).1 hs l.b with h0 | h0
  · exfalso
    obtain ⟨m, hm⟩ := bf_walk (gvB_fit hvj).1 hs h0
    have hw : ∀ {v d : Int} {m : Nat}, Wk ((ls.eraseIdx q).eraseIdx j) l.a v d m → Wk (ls.eraseIdx k) l.a v d m := by
      intro v d m hw
      induction hw with
      | nil => exact .nil
      | snoc _ ha ih =>
        obtain ⟨h1, h2⟩ := (er_adj hvq hl').1 ha
        refine ih.snoc ((er_adj hv h).2 ⟨((er_adj hv hlq).1 h1).1, fun he => h2 ?_⟩)
        unfold endsB at he ⊢
        rw [ha', hb', Int.min_eq_left (by omega), Int.max_eq_right (by omega)]
        exact he
    have := bf_le (gvB_fit (er_gv hv k)).1 hs (hw hm)
    omega
  · exact h0
end
end Go.Proofs.YtenlofomkchlaaaDoor
