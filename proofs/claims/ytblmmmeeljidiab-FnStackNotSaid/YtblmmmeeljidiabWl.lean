/-
  Plain facts: a graph without one link: a link that no shortest path crosses is not needed; where one does, there are fewer shortest paths without it, or a longer distance.
-/
import Derived.Test.YtblmmmeeljidiabCb
import Derived.Test.YtblmmmeeljidiabPf
namespace Go.Proofs.Ytblmmmeeljidiab

/-- These are the ends of l. -/
def endsB (l : Lk) (u v : Int) : Prop := (l.a = u ∧ l.b = v) ∨ (l.b = u ∧ l.a = v)
theorem er_mem {ls : List Lk} {k : Nat} {m : Lk} (h : m ∈ ls.eraseIdx k) : m ∈ ls := List.mem_of_mem_eraseIdx h
theorem er_gv {n : Int} {ls : List Lk} (hv : gvB n ls = true) (k : Nat) : gvB n (ls.eraseIdx k) = true := by
  rw [gvB_iff] at hv ⊢
  obtain ⟨h1, h2, h3, h4⟩ := hv
  exact ⟨h1, Nat.le_trans (List.length_eraseIdx_le _ _) h2, fun l hl => h3 l (er_mem hl), h4.sublist (List.eraseIdx_sublist _ _)⟩
theorem er_adj {n : Int} {ls : List Lk} (hv : gvB n ls = true) {k : Nat} {l : Lk} (h : ls[k]? = some l) {u v e : Int} : Adj (ls.eraseIdx k) u v e ↔ Adj ls u v e ∧ ¬ endsB l u v := by
  constructor
  · rintro ⟨m, hm, hh, hc⟩
    refine ⟨⟨m, er_mem hm, hh, hc⟩, fun he => ?_⟩
    obtain ⟨j, hj⟩ := List.getElem?_of_mem hm
    have hm2 := hm
    rw [List.getElem?_eraseIdx] at hj
    have hne : ∃ i, i ≠ k ∧ ls[i]? = some m := by
      split at hj
      · exact ⟨j, by omega, hj⟩
      · exact ⟨j + 1, by omega, hj⟩
    obtain ⟨i, hik, hi⟩ := hne
    have o1 := gvB_at hv hi
    have o2 := gvB_at hv h
    unfold endsB at he
    rcases Nat.lt_or_gt_of_ne hik with hlt | hlt
    · have := gvB_lex hv hi k l hlt h
      omega
    · have := gvB_lex hv h i m hlt hi
      omega
  · rintro ⟨⟨m, hm, hh, hc⟩, hne⟩
    obtain ⟨j, hj⟩ := List.getElem?_of_mem hm
    have hjk : j ≠ k := fun e => by
      subst e
      rw [h] at hj
      cases hj
      exact hne hh
    refine ⟨m, List.mem_iff_getElem?.2 ?_, hh, hc⟩
    rcases Nat.lt_or_gt_of_ne hjk with hlt | hlt
    · exact ⟨j, by rw [List.getElem?_eraseIdx, if_pos hlt]; exact hj⟩
    · exact ⟨j - 1, by rw [List.getElem?_eraseIdx, if_neg (by omega), Nat.sub_add_cancel (by omega)]; exact hj⟩
theorem er_wk {n : Int} {ls : List Lk} (hv : gvB n ls = true) {k : Nat} {l : Lk} (h : ls[k]? = some l) {s v c : Int} {m : Nat} (hw : Wk (ls.eraseIdx k) s v c m) : Wk ls s v c m := by
  induction hw with
  | nil => exact .nil
  | snoc _ ha ih => exact ih.snoc ((er_adj hv h).1 ha).1
section
variable {n : Nat} {ls : List Lk} {k : Nat} {l : Lk} {t : Int}
/-- A step along a shortest path that is the link makes the link used. -/
theorem step_used (hv : gvB (n : Int) ls = true) (ht : 0 ≤ t ∧ t < (n : Int)) {s x y : Int} (hs : 0 ≤ s ∧ s < (n : Int)) (hsx : 0 ≤ bf (n : Int) ls s x) (ha : Adj ls x y l.c) (he : endsB l x y) (h0 : 0 ≤ bf (n : Int) ls t y)
    (hd : bf (n : Int) ls s x + l.c + bf (n : Int) ls t y = bf (n : Int) ls s t) : usedL (n : Int) ls s t l = true := by
  obtain ⟨hf, _⟩ := gvB_fit hv
  have hy := bf_edge hf hs ha hsx
  have hr := hf.adj ha
  have htx := bf_edge hf ht ha.symm h0
  have htri := bf_node_tri hf hs ht (x := y) (by omega) hy.1 h0
  unfold usedL
  simp only [Bool.and_eq_true, Bool.or_eq_true, decide_eq_true_eq]
  rcases he with ⟨e1, e2⟩ | ⟨e1, e2⟩
  · rw [e1, e2]; omega
  · rw [e1, e2]; omega
theorem er_path (hv : gvB (n : Int) ls = true) (h : ls[k]? = some l) (ht : 0 ≤ t ∧ t < (n : Int)) {s : Int} {p : List Int} (hp : IsP n ls t s p) (hno : ∀ i x y, p[i]? = some x → p[i + 1]? = some y → ¬ endsB l x y) :
    ∃ m, Wk (ls.eraseIdx k) s t (bf (n : Int) ls t s) m := by
  induction hp with
  | last => rw [bf_self (gvB_fit hv).1 ht]; exact ⟨0, .nil⟩
  | @step s y zs p hst hh hs h0 hp ih =>
    obtain ⟨m, hm⟩ := ih fun i x z hx hz => hno (i + 1) x z (by simpa using hx) (by simpa using hz)
    obtain ⟨e, ha, _, he⟩ := (hops_mem (vwB_of hv hs ht)).1 (show y ∈ hopsL (n : Int) ls s t by rw [hh]; simp)
    have hn0 := hno 0 s y (by simp) (by simpa using hp.head.1)
    have := (Wk.one ((er_adj hv h).2 ⟨ha, hn0⟩)).trans hm
    rw [show e + bf (n : Int) ls t y = bf (n : Int) ls t s by omega] at this
    exact ⟨_, this⟩
theorem er_bf (hv : gvB (n : Int) ls = true) (h : ls[k]? = some l) (ht : 0 ≤ t ∧ t < (n : Int)) {s : Int} (hs : 0 ≤ s ∧ s < (n : Int)) (hnu : usedL (n : Int) ls s t l = false) : bf (n : Int) (ls.eraseIdx k) t s = bf (n : Int) ls t s := by
  obtain ⟨hf, _⟩ := gvB_fit hv
  have hv' := er_gv hv k
  obtain ⟨hf', _⟩ := gvB_fit hv'
  have hge : 0 ≤ bf (n : Int) (ls.eraseIdx k) t s → 0 ≤ bf (n : Int) ls t s ∧ bf (n : Int) ls t s ≤ bf (n : Int) (ls.eraseIdx k) t s := fun h1 => by
    obtain ⟨m, hm⟩ := bf_walk hf' ht h1
    exact bf_le hf ht (er_wk hv h hm)
  rcases bf_sg hf ht s with h0 | h0
  · have hp := pathL_isP hv ht _ s hs h0 (Nat.le_refl _)
    obtain ⟨m, hm⟩ := er_path hv h ht hp fun i x y hx hy he => by
      obtain ⟨j, l', _, hl', hc, _, _, ha, hy0⟩ := hp.link hv ht hx hy
      obtain ⟨u1, u2, u3, _⟩ := hp.used hv ht hx
      have hll := adj_uniq hv ha ⟨l, List.mem_of_getElem? h, he, rfl⟩
      rw [step_used hv ht hs u1 ⟨l, List.mem_of_getElem? h, he, rfl⟩ he hy0 (by omega)] at hnu
      cases hnu
    have h1 := bf_le hf' ht hm.symm
    have h2 := hge h1.1
    omega
  · rcases bf_sg hf' ht s with h1 | h1
    · have := hge h1
      omega
    · omega
theorem er_hop (hv : gvB (n : Int) ls = true) (h : ls[k]? = some l) (ht : 0 ≤ t ∧ t < (n : Int)) {s y : Int} (hs : 0 ≤ s ∧ s < (n : Int)) (hnu : usedL (n : Int) ls s t l = false) (hy : y ∈ hopsL (n : Int) ls s t) : ¬ endsB l s y ∧ usedL (n : Int) ls y t l = false := by
  obtain ⟨hf, _⟩ := gvB_fit hv
  have hvw := vwB_of hv hs ht
  obtain ⟨hyr, _, hy0, _⟩ := hops_node hvw hy
  obtain ⟨e, ha, _, he⟩ := (hops_mem hvw).1 hy
  have hss := bf_self hf hs
  have e1 : bf (n : Int) ls s t = bf (n : Int) ls t s := bf_symm hf hs ht
  have e2 : bf (n : Int) ls y t = bf (n : Int) ls t y := bf_symm hf hyr ht
  have hea := hf.adj ha
  constructor
  · intro hend
    have hll := adj_uniq hv ha ⟨l, List.mem_of_getElem? h, hend, rfl⟩
    rw [step_used hv ht hs (by omega) ⟨l, List.mem_of_getElem? h, hend, rfl⟩ hend hy0 (by omega)] at hnu
    cases hnu
  · cases hc : usedL (n : Int) ls y t l with
    | false => rfl
    | true =>
      exfalso
      have hlm := List.mem_of_getElem? h
      have hlb := gvB_at hv h
      unfold usedL at hc
      simp only [Bool.and_eq_true, Bool.or_eq_true, decide_eq_true_eq] at hc
      have htri := bf_link_tri hf hyr ht hlm hc.1.1 hc.1.2
      have f1 := bf_three hf hs hyr (b := l.a) (by have := bf_edge hf hs ha (by omega); omega) hc.1.2
      have f2 := bf_three hf hs hyr (b := l.b) (by have := bf_edge hf hs ha (by omega); omega) htri.1
      have f3 := bf_edge hf hs ha (by omega)
      have g := bf_link_tri hf hs ht hlm (by omega) f1.1
      have : usedL (n : Int) ls s t l = true := by
        unfold usedL
        simp only [Bool.and_eq_true, Bool.or_eq_true, decide_eq_true_eq]
        omega
      rw [hnu] at this
      cases this
theorem er_hops (hv : gvB (n : Int) ls = true) (h : ls[k]? = some l) (ht : 0 ≤ t ∧ t < (n : Int)) {s : Int} (hs : 0 ≤ s ∧ s < (n : Int)) (hnu : usedL (n : Int) ls s t l = false) : hopsL (n : Int) (ls.eraseIdx k) s t = hopsL (n : Int) ls s t := by
  obtain ⟨hf, _⟩ := gvB_fit hv
  have hv' := er_gv hv k
  obtain ⟨hf', _⟩ := gvB_fit hv'
  have hbs := er_bf hv h ht hs hnu
  refine asc_ext _ _ (hops_asc _ _ _ _) (hops_asc _ _ _ _) fun y => ?_
  rw [hops_mem (vwB_of hv' hs ht), hops_mem (vwB_of hv hs ht)]
  constructor
  · rintro ⟨e, ha, h0, he⟩
    obtain ⟨ha2, _⟩ := (er_adj hv h).1 ha
    obtain ⟨m, hm⟩ := bf_walk hf' ht h0
    have h1 := bf_le hf ht (er_wk hv h hm)
    have h2 := bf_edge hf ht ha2.symm h1.1
    exact ⟨e, ha2, h1.1, by omega⟩
  · rintro ⟨e, ha, h0, he⟩
    obtain ⟨hne, hny⟩ := er_hop hv h ht hs hnu ((hops_mem (vwB_of hv hs ht)).2 ⟨e, ha, h0, he⟩)
    have hr := hf.adj ha
    have hby := er_bf hv h ht (s := y) (by omega) hny
    exact ⟨e, (er_adj hv h).2 ⟨ha, hne⟩, by omega, by omega⟩
theorem er_cnt (hv : gvB (n : Int) ls = true) (h : ls[k]? = some l) (ht : 0 ≤ t ∧ t < (n : Int)) : ∀ (r : Nat) (s : Int), 0 ≤ s ∧ s < (n : Int) → rk n ls t s ≤ r → usedL (n : Int) ls s t l = false → cntL n (ls.eraseIdx k) s t = cntL n ls s t := by
  have hv' := er_gv hv k
  intro r
  induction r using Nat.strongRecOn with
  | _ r ih =>
  intro s hs hr hnu
  by_cases hst : s = t
  · subst hst
    rw [cntL_self, cntL_self]
  · rw [cntL_step hv' ht hs hst, cntL_step hv ht hs hst, er_hops hv h ht hs hnu]
    congr 1
    refine List.map_congr_left fun y hy => ?_
    obtain ⟨hyr, _, h3, h4⟩ := hops_node (vwB_of hv hs ht) hy
    obtain ⟨_, hny⟩ := er_hop hv h ht hs hnu hy
    have := rk_lt hyr h3 h4
    exact ih (rk n ls t y) (by omega) y hyr (Nat.le_refl _) hny
end

/-! ### Fewer walks -/
theorem sN_le {n : Nat} {f g : Nat → Nat} (h : ∀ i, i < n → f i ≤ g i) : sN n f ≤ sN n g := by
  induction n with
  | zero => exact Nat.le_refl _
  | succ n ih =>
    rw [sN_succ, sN_succ]
    have h1 := ih fun i hi => h i (by omega)
    have h2 := h n (by omega)
    omega
theorem sN_lt {n : Nat} {f g : Nat → Nat} (h : ∀ i, i < n → f i ≤ g i) {k : Nat} (hk : k < n) (hlt : f k < g k) : sN n f < sN n g := by
  induction n with
  | zero => omega
  | succ n ih =>
    rw [sN_succ, sN_succ]
    have h2 := h n (by omega)
    by_cases hkn : k = n
    · subst hkn
      have := sN_le fun i (hi : i < k) => h i (by omega)
      omega
    · have := ih (fun i hi => h i (by omega)) (by omega)
      omega
section
variable {n : Nat} {a a0 : Nat → Nat → Nat}
theorem wn_mono (ha : ∀ u z, a0 u z = a u z ∨ a0 u z = 0) : ∀ (k c u v : Nat), wn n a0 k c u v ≤ wn n a k c u v := by
  intro k
  induction k with
  | zero => intro c u v; exact Nat.le_refl _
  | succ k ih =>
    intro c u v
    simp only [wn]
    refine Nat.add_le_add_left (sN_le fun z _ => ?_) _
    by_cases hq : 0 < a0 u z ∧ a0 u z ≤ c
    · rcases ha u z with e | e
      · rw [if_pos hq, if_pos (by omega), e]
        exact ih _ _ _
      · omega
    · rw [if_neg hq]
      omega
/-- A walk that uses what a0 lacks. -/
inductive Uw (n : Nat) (a a0 : Nat → Nat → Nat) : Nat → Nat → Nat → Prop
  | here {u z v c : Nat} : z < n → 0 < a u z → a0 u z = 0 → 0 < wn n a (c + 1) c z v → Uw n a a0 (a u z + c) u v
  | there {u z v c : Nat} : z < n → 0 < a u z → Uw n a a0 c z v → Uw n a a0 (a u z + c) u v
theorem Uw.lt (ha : ∀ u z, a0 u z = a u z ∨ a0 u z = 0) {c u v : Nat} (h : Uw n a a0 c u v) : wn n a0 (c + 1) c u v < wn n a (c + 1) c u v := by
  induction h with
  | @here u z v c hz h1 h2 h3 =>
    simp only [wn]
    refine Nat.add_lt_add_left (sN_lt (k := z) (fun y _ => ?_) hz ?_) _
    · by_cases hq : 0 < a0 u y ∧ a0 u y ≤ a u z + c
      · rcases ha u y with e | e
        · rw [if_pos hq, if_pos (by omega), e]
          exact wn_mono ha _ _ _ _
        · omega
      · rw [if_neg hq]; omega
    · rw [if_neg (by omega), if_pos ⟨h1, by omega⟩, Nat.add_sub_cancel_left, wn_more (c + 1) (a u z + c) c z v (by omega) (by omega)]
      exact h3
  | @there u z v c hz h1 hu ih =>
    simp only [wn]
    refine Nat.add_lt_add_left (sN_lt (k := z) (fun y _ => ?_) hz ?_) _
    · by_cases hq : 0 < a0 u y ∧ a0 u y ≤ a u z + c
      · rcases ha u y with e | e
        · rw [if_pos hq, if_pos (by omega), e]
          exact wn_mono ha _ _ _ _
        · omega
      · rw [if_neg hq]; omega
    · have hpos : 0 < wn n a (c + 1) c z v := by omega
      rcases ha u z with e | e
      · rw [if_pos (by omega), if_pos (by omega), e, Nat.add_sub_cancel_left, wn_more (c + 1) (a u z + c) c z v (by omega) (by omega), wn_more (c + 1) (a u z + c) c z v (by omega) (by omega)]
        exact ih
      · rw [if_neg (by omega), if_pos (by omega), Nat.add_sub_cancel_left, wn_more (c + 1) (a u z + c) c z v (by omega) (by omega)]
        exact hpos
end
section
variable {n : Nat} {ls : List Lk}
theorem wk_pos (hv : gvB (n : Int) ls = true) {s p d : Int} {m : Nat} (hw : Wk ls s p d m) : ∀ {v c : Nat}, 0 < wn n (lkc n ls) (c + 1) c p.toNat v → 0 < wn n (lkc n ls) (d.toNat + c + 1) (d.toNat + c) s.toNat v := by
  obtain ⟨hf, _⟩ := gvB_fit hv
  induction hw with
  | nil => intro v c h; simpa using h
  | @snoc u p d e m hw ha ih =>
    intro v c h
    have hr := hf.adj ha
    have hd := hw.pos hf
    have hu : (u.toNat : Int) = u := by omega
    have hp : (p.toNat : Int) = p := by omega
    have hlk := lkc_eq hv (u := u.toNat) (z := p.toNat) (e := e) (by rw [hu, hp]; exact ha)
    have h2 : 0 < wn n (lkc n ls) (e.toNat + c + 1) (e.toNat + c) u.toNat v := by
      have he : lkc n ls u.toNat p.toNat = e.toNat := by omega
      simp only [wn]
      refine Nat.lt_of_lt_of_le ?_ (Nat.le_add_left _ _)
      have : sN n (fun _ => 0) < sN n (fun z => if 0 < lkc n ls u.toNat z ∧ lkc n ls u.toNat z ≤ e.toNat + c then wn n (lkc n ls) (e.toNat + c) (e.toNat + c - lkc n ls u.toNat z) z v else 0) := by
        refine sN_lt (k := p.toNat) (fun _ _ => Nat.zero_le _) (by omega) ?_
        rw [he, if_pos (by omega), Nat.add_sub_cancel_left, wn_more (c + 1) (e.toNat + c) c p.toNat v (by omega) (by omega)]
        exact h
      omega
    have := ih h2
    rwa [show d.toNat + (e.toNat + c) = (d + e).toNat + c by omega] at this
theorem wk_uw (hv : gvB (n : Int) ls = true) {a0 : Nat → Nat → Nat} {s p d : Int} {m : Nat} (hw : Wk ls s p d m) : ∀ {v c : Nat}, Uw n (lkc n ls) a0 c p.toNat v → Uw n (lkc n ls) a0 (d.toNat + c) s.toNat v := by
  obtain ⟨hf, _⟩ := gvB_fit hv
  induction hw with
  | nil => intro v c h; simpa using h
  | @snoc u p d e m hw ha ih =>
    intro v c h
    have hr := hf.adj ha
    have hd := hw.pos hf
    have hu : (u.toNat : Int) = u := by omega
    have hp : (p.toNat : Int) = p := by omega
    have hlk := lkc_eq hv (u := u.toNat) (z := p.toNat) (e := e) (by rw [hu, hp]; exact ha)
    have h2 := ih (Uw.there (u := u.toNat) (z := p.toNat) (by omega) (by omega) h)
    rwa [show d.toNat + (lkc n ls u.toNat p.toNat + c) = (d + e).toNat + c by omega] at h2
theorem wk_wn (hv : gvB (n : Int) ls = true) {s p d : Int} {m : Nat} (hw : Wk ls s p d m) : 0 < wn n (lkc n ls) (d.toNat + 1) d.toNat s.toNat p.toNat := by
  have := wk_pos hv hw (v := p.toNat) (c := 0) (by simp only [wn]; rw [if_pos (by simp)]; omega)
  simpa using this
theorem er_lkc (hv : gvB (n : Int) ls = true) {k : Nat} {l : Lk} (h : ls[k]? = some l) (u z : Nat) : lkc n (ls.eraseIdx k) u z = lkc n ls u z ∨ lkc n (ls.eraseIdx k) u z = 0 := by
  have hv' := er_gv hv k
  by_cases hq : 0 < lkc n (ls.eraseIdx k) u z
  · left
    obtain ⟨e, ha⟩ := (lkc_adj hv').1 hq
    have h1 := lkc_eq hv' ha
    have h2 := lkc_eq hv ((er_adj hv h).1 ha).1
    omega
  · right; omega
/-- A shortest path crosses the link: without it the distance is longer or there are fewer. -/
theorem er_fewer (hv : gvB (n : Int) ls = true) {k : Nat} {l : Lk} (h : ls[k]? = some l) {s t : Int} (hs : 0 ≤ s ∧ s < (n : Int)) (ht : 0 ≤ t ∧ t < (n : Int)) (hu : usedL (n : Int) ls s t l = true) (hd : bf (n : Int) (ls.eraseIdx k) t s = bf (n : Int) ls t s) : cntL n (ls.eraseIdx k) s t < cntL n ls s t := by
  obtain ⟨hf, _⟩ := gvB_fit hv
  have hv' := er_gv hv k
  have hlm := List.mem_of_getElem? h
  have hlb := gvB_at hv h
  have e1 : bf (n : Int) ls s t = bf (n : Int) ls t s := bf_symm hf hs ht
  have hu2 := hu
  unfold usedL at hu2
  simp only [Bool.and_eq_true, Bool.or_eq_true, decide_eq_true_eq] at hu2
  have htri := bf_link_tri hf hs ht hlm hu2.1.1 hu2.1.2
  have key : ∀ x y : Int, endsB l x y → 0 ≤ bf (n : Int) ls s x → 0 ≤ bf (n : Int) ls t y → bf (n : Int) ls s x + l.c + bf (n : Int) ls t y = bf (n : Int) ls s t → Uw n (lkc n ls) (lkc n (ls.eraseIdx k)) (bf (n : Int) ls t s).toNat s.toNat t.toNat := fun x y he hx hy hsum => by
    have ha : Adj ls x y l.c := ⟨l, hlm, he, rfl⟩
    have hr := hf.adj ha
    obtain ⟨m1, w1⟩ := bf_walk hf hs hx
    obtain ⟨m2, w2⟩ := bf_walk hf ht hy
    have p2 := wk_wn hv w2.symm
    have hxn : (x.toNat : Int) = x := by omega
    have hyn : (y.toNat : Int) = y := by omega
    have hlk := lkc_eq hv (u := x.toNat) (z := y.toNat) (e := l.c) (by rw [hxn, hyn]; exact ha)
    have hz0 : lkc n (ls.eraseIdx k) x.toNat y.toNat = 0 := by
      apply Classical.byContradiction
      intro hne
      obtain ⟨e, ha'⟩ := (lkc_adj hv').1 (Nat.pos_of_ne_zero hne)
      rw [hxn, hyn] at ha'
      exact ((er_adj hv h).1 ha').2 he
    have hh := Uw.here (n := n) (a := lkc n ls) (a0 := lkc n (ls.eraseIdx k)) (u := x.toNat) (z := y.toNat) (v := t.toNat) (c := (bf (n : Int) ls t y).toNat) (by omega) (by omega) hz0 p2
    have := wk_uw hv w1 hh
    rwa [show (bf (n : Int) ls s x).toNat + (lkc n ls x.toNat y.toNat + (bf (n : Int) ls t y).toNat) = (bf (n : Int) ls t s).toNat by omega] at this
  have hUw : Uw n (lkc n ls) (lkc n (ls.eraseIdx k)) (bf (n : Int) ls t s).toNat s.toNat t.toNat := by
    rcases hu2.2 with h1 | h1
    · exact key l.a l.b (.inl ⟨rfl, rfl⟩) hu2.1.2 htri.2.2.1 h1
    · exact key l.b l.a (.inr ⟨rfl, rfl⟩) htri.1 htri.2.1 h1
  have hlt := hUw.lt (er_lkc hv h)
  obtain ⟨sn, rfl⟩ : ∃ q : Nat, s = (q : Int) := ⟨s.toNat, by omega⟩
  obtain ⟨tn, rfl⟩ : ∃ q : Nat, t = (q : Int) := ⟨t.toNat, by omega⟩
  rw [cntL_wn hv (by omega) _ sn (by omega) (Nat.le_refl _) (by omega), cntL_wn hv' (by omega) _ sn (by omega) (Nat.le_refl _) (by omega), hd]
  simpa using hlt
end
end Go.Proofs.Ytblmmmeeljidiab
