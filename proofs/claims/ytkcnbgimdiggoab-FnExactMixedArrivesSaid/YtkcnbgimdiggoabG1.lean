/-
  Plain facts: packets that are forwarded along next hops: who can go on forever, and who arrives for sure.
-/
import Derived.Test.YtkcnbgimdiggoabVb
namespace Go.Proofs.Ytkcnbgimdiggoab

section
variable {n : Nat} {H : Int → List Int}
/-- From x a packet can be forwarded j times. -/
def walkB (H : Int → List Int) : Nat → Int → Bool
  | 0, _ => true
  | j + 1, x => (H x).any (walkB H j)
/-- From x every packet arrives at t after at most j steps. -/
def arrB (H : Int → List Int) (t : Int) : Nat → Int → Bool
  | 0, x => decide (x = t)
  | j + 1, x => arrB H t j x || (!(H x).isEmpty && (H x).all (arrB H t j))
/-- Next hops of nodes are nodes. -/
def InR (n : Nat) (H : Int → List Int) : Prop := ∀ x y, 0 ≤ x → x < (n : Int) → y ∈ H x → 0 ≤ y ∧ y < (n : Int)
def cntB (n : Nat) (p : Int → Bool) : Nat := ((List.range n).filter (fun i : Nat => p (i : Int))).length
theorem cntB_le (n : Nat) (p : Int → Bool) : cntB n p ≤ n := by
  unfold cntB
  exact Nat.le_trans (List.length_filter_le _ _) (by simp)
theorem filter_mono {p q : Nat → Bool} : ∀ l : List Nat, (∀ x ∈ l, p x = true → q x = true) → (l.filter p).length ≤ (l.filter q).length ∧ ((∃ x ∈ l, p x = false ∧ q x = true) → (l.filter p).length < (l.filter q).length)
  | [], _ => ⟨Nat.le_refl _, by rintro ⟨x, hx, _⟩; cases hx⟩
  | a :: l, h => by
    obtain ⟨h1, h2⟩ := filter_mono l (fun x hx => h x (List.mem_cons_of_mem _ hx))
    have ha := h a (List.mem_cons_self ..)
    cases hp : p a with
    | true =>
      rw [List.filter_cons_of_pos hp, List.filter_cons_of_pos (ha hp)]
      refine ⟨by simp; omega, ?_⟩
      rintro ⟨x, hx, e1, e2⟩
      rcases List.mem_cons.1 hx with rfl | hx
      · rw [hp] at e1; cases e1
      · have := h2 ⟨x, hx, e1, e2⟩
        simp
        omega
    | false =>
      rw [List.filter_cons_of_neg (by simp [hp])]
      cases hq : q a with
      | true =>
        rw [List.filter_cons_of_pos hq]
        exact ⟨by simp; omega, fun _ => by simp; omega⟩
      | false =>
        rw [List.filter_cons_of_neg (by simp [hq])]
        refine ⟨h1, ?_⟩
        rintro ⟨x, hx, e1, e2⟩
        rcases List.mem_cons.1 hx with rfl | hx
        · rw [hq] at e2; cases e2
        · exact h2 ⟨x, hx, e1, e2⟩
theorem cntB_mono {p q : Int → Bool} (h : ∀ x : Int, 0 ≤ x → x < (n : Int) → p x = true → q x = true) : cntB n p ≤ cntB n q ∧ ((∀ x : Int, 0 ≤ x → x < (n : Int) → p x = q x) ∨ cntB n p < cntB n q) := by
  obtain ⟨h1, h2⟩ := filter_mono (p := fun i : Nat => p (i : Int)) (q := fun i : Nat => q (i : Int)) (List.range n) (fun i hi => h (i : Int) (by omega) (by have := List.mem_range.1 hi; omega))
  refine ⟨h1, ?_⟩
  by_cases he : ∃ x ∈ List.range n, p (x : Int) = false ∧ q (x : Int) = true
  · exact .inr (h2 he)
  · refine .inl fun x h0 hx => ?_
    cases hp : p x with
    | true => exact (h x h0 hx hp).symm
    | false =>
      cases hq : q x with
      | false => rfl
      | true =>
        exact absurd ⟨x.toNat, List.mem_range.2 (by omega), by rw [show ((x.toNat : Nat) : Int) = x by omega]; exact ⟨hp, hq⟩⟩ he
theorem walk_less (H : Int → List Int) : ∀ (j : Nat) (x : Int), walkB H (j + 1) x = true → walkB H j x = true
  | 0, _, _ => rfl
  | j + 1, x, h => by
    obtain ⟨y, hy, h2⟩ := List.any_eq_true.1 h
    exact List.any_eq_true.2 ⟨y, hy, walk_less H j y h2⟩
theorem walk_same (hr : InR n H) {j : Nat} (h : ∀ x : Int, 0 ≤ x → x < (n : Int) → walkB H (j + 1) x = walkB H j x) : ∀ x : Int, 0 ≤ x → x < (n : Int) → walkB H (j + 2) x = walkB H (j + 1) x := fun x h0 h1 => by
  show (H x).any (walkB H (j + 1)) = (H x).any (walkB H j)
  rw [Bool.eq_iff_iff, List.any_eq_true, List.any_eq_true]
  constructor
  · rintro ⟨y, hy, e⟩
    have := hr x y h0 h1 hy
    exact ⟨y, hy, by rw [← h y this.1 this.2]; exact e⟩
  · rintro ⟨y, hy, e⟩
    have := hr x y h0 h1 hy
    exact ⟨y, hy, by rw [h y this.1 this.2]; exact e⟩
theorem walk_stable (hr : InR n H) : ∀ j : Nat, (∀ x : Int, 0 ≤ x → x < (n : Int) → walkB H (j + 1) x = walkB H j x) ∨ cntB n (walkB H j) + j ≤ n
  | 0 => .inr (cntB_le _ _)
  | j + 1 => by
    rcases walk_stable hr j with h | h
    · exact .inl (walk_same hr h)
    · rcases (cntB_mono (n := n) (p := walkB H (j + 1)) (q := walkB H j) (fun x _ _ => walk_less H j x)).2 with h2 | h2
      · exact .inl (walk_same hr h2)
      · exact .inr (by omega)
/-- After as many steps as there are nodes nothing more is gained. -/
theorem walk_end (hr : InR n H) : ∀ (i : Nat) (x : Int), 0 ≤ x → x < (n : Int) → walkB H (n + i) x = walkB H n x := by
  have h0 : ∀ x : Int, 0 ≤ x → x < (n : Int) → walkB H (n + 1) x = walkB H n x := by
    rcases walk_stable (H := H) hr n with h | h
    · exact h
    · intro x hx hx1
      rcases (cntB_mono (n := n) (p := walkB H (n + 1)) (q := walkB H n) (fun x _ _ => walk_less H n x)).2 with h2 | h2
      · exact h2 x hx hx1
      · omega
  have hs : ∀ i : Nat, ∀ x : Int, 0 ≤ x → x < (n : Int) → walkB H (n + i + 1) x = walkB H (n + i) x := by
    intro i
    induction i with
    | zero => exact h0
    | succ i ih => exact walk_same hr ih
  intro i
  induction i with
  | zero => intro x _ _; rfl
  | succ i ih => intro x a b; rw [show n + (i + 1) = n + i + 1 by omega, hs i x a b, ih x a b]
/-- P118. -/
theorem walk_goes (hr : InR n H) {x : Int} (h0 : 0 ≤ x) (h1 : x < (n : Int)) : (H x).any (walkB H n) = walkB H n x := walk_end hr 1 x h0 h1
theorem walk_more (H : Int → List Int) (r : Int → Nat) (hr : InR n H) (hd : ∀ x y, 0 ≤ x → x < (n : Int) → y ∈ H x → r y < r x) : ∀ (j : Nat) (x : Int), 0 ≤ x → x < (n : Int) → walkB H j x = true → j ≤ r x
  | 0, _, _, _, _ => Nat.zero_le _
  | j + 1, x, h0, h1, h => by
    obtain ⟨y, hy, h2⟩ := List.any_eq_true.1 h
    have hyr := hr x y h0 h1 hy
    have := walk_more H r hr hd j y hyr.1 hyr.2 h2
    have := hd x y h0 h1 hy
    omega
/-- Where something grows less with each step, nobody goes on forever. -/
theorem walk_none (r : Int → Nat) (hr : InR n H) (hd : ∀ x y, 0 ≤ x → x < (n : Int) → y ∈ H x → r y < r x) {x : Int} (h0 : 0 ≤ x) (h1 : x < (n : Int)) : walkB H n x = false := by
  cases h : walkB H n x with
  | false => rfl
  | true =>
    have := walk_more H r hr hd (n + (r x + 1)) x h0 h1 (by rw [walk_end hr _ x h0 h1]; exact h)
    omega

/-! ### Arriving -/
variable {t : Int}
theorem arr_more (H : Int → List Int) (t : Int) (j : Nat) (x : Int) (h : arrB H t j x = true) : arrB H t (j + 1) x = true := by
  show (arrB H t j x || _) = true
  rw [h]
  rfl
theorem arr_add (H : Int → List Int) (t : Int) (j : Nat) (x : Int) (h : arrB H t j x = true) : ∀ i, arrB H t (j + i) x = true
  | 0 => h
  | i + 1 => arr_more H t _ x (arr_add H t j x h i)
theorem arr_same (hr : InR n H) {j : Nat} (h : ∀ x : Int, 0 ≤ x → x < (n : Int) → arrB H t j x = arrB H t (j + 1) x) : ∀ x : Int, 0 ≤ x → x < (n : Int) → arrB H t (j + 1) x = arrB H t (j + 2) x := fun x h0 h1 => by
  show (arrB H t j x || (!(H x).isEmpty && (H x).all (arrB H t j))) = (arrB H t (j + 1) x || (!(H x).isEmpty && (H x).all (arrB H t (j + 1))))
  rw [h x h0 h1]
  congr 2
  rw [Bool.eq_iff_iff, List.all_eq_true, List.all_eq_true]
  constructor
  · intro g y hy
    have := hr x y h0 h1 hy
    rw [← h y this.1 this.2]
    exact g y hy
  · intro g y hy
    have := hr x y h0 h1 hy
    rw [h y this.1 this.2]
    exact g y hy
theorem arr_stable (hr : InR n H) (ht : 0 ≤ t ∧ t < (n : Int)) : ∀ j : Nat, (∀ x : Int, 0 ≤ x → x < (n : Int) → arrB H t j x = arrB H t (j + 1) x) ∨ j + 1 ≤ cntB n (arrB H t j)
  | 0 => by
    refine .inr ?_
    have h := (filter_mono (p := fun _ : Nat => false) (q := fun i : Nat => arrB H t 0 (i : Int)) (List.range n) (fun x _ e => by cases e)).2 ⟨t.toNat, List.mem_range.2 (by omega), rfl, by show decide (((t.toNat : Nat) : Int) = t) = true; simp; omega⟩
    unfold cntB
    omega
  | j + 1 => by
    rcases arr_stable hr ht j with h | h
    · exact .inl (arr_same hr h)
    · rcases (cntB_mono (n := n) (p := arrB H t j) (q := arrB H t (j + 1)) (fun x _ _ => arr_more H t j x)).2 with h2 | h2
      · exact .inl (arr_same hr h2)
      · exact .inr (by omega)
theorem arr_end (hr : InR n H) (ht : 0 ≤ t ∧ t < (n : Int)) : ∀ (i : Nat) (x : Int), 0 ≤ x → x < (n : Int) → arrB H t (n + i) x = arrB H t n x := by
  have h0 : ∀ x : Int, 0 ≤ x → x < (n : Int) → arrB H t n x = arrB H t (n + 1) x := by
    rcases arr_stable (H := H) hr ht n with h | h
    · exact h
    · have := cntB_le n (arrB H t n)
      omega
  have hs : ∀ i : Nat, ∀ x : Int, 0 ≤ x → x < (n : Int) → arrB H t (n + i) x = arrB H t (n + i + 1) x := by
    intro i
    induction i with
    | zero => exact h0
    | succ i ih => exact arr_same hr ih
  intro i
  induction i with
  | zero => intro x _ _; rfl
  | succ i ih => intro x a b; rw [show n + (i + 1) = n + i + 1 by omega, ← hs i x a b, ih x a b]
/-- The least set that has t and every node with next hops that all are in it. -/
theorem arr_any (hr : InR n H) (ht : 0 ≤ t ∧ t < (n : Int)) {j : Nat} {x : Int} (h0 : 0 ≤ x) (h1 : x < (n : Int)) (h : arrB H t j x = true) : arrB H t n x = true := by
  rcases Nat.le_total j n with hj | hj
  · have := arr_add H t j x h (n - j)
    rwa [show j + (n - j) = n by omega] at this
  · have := arr_end hr ht (j - n) x h0 h1
    rw [show n + (j - n) = j by omega] at this
    rw [← this]
    exact h
theorem arr_self (hr : InR n H) (ht : 0 ≤ t ∧ t < (n : Int)) : arrB H t n t = true := arr_any hr ht (j := 0) ht.1 ht.2 (by show decide (t = t) = true; simp)
theorem arr_fix (hr : InR n H) (ht : 0 ≤ t ∧ t < (n : Int)) {x : Int} (h0 : 0 ≤ x) (h1 : x < (n : Int)) (hne : H x ≠ []) (h : ∀ y ∈ H x, arrB H t n y = true) : arrB H t n x = true := by
  refine arr_any hr ht (j := n + 1) h0 h1 ?_
  show (arrB H t n x || (!(H x).isEmpty && (H x).all (arrB H t n))) = true
  have : (H x).all (arrB H t n) = true := List.all_eq_true.2 h
  rw [this]
  cases hx : H x with
  | nil => exact absurd hx hne
  | cons a r => simp
theorem arr_step {j : Nat} {x : Int} (h : arrB H t (j + 1) x = true) : arrB H t j x = true ∨ (H x ≠ [] ∧ ∀ y ∈ H x, arrB H t j y = true) := by
  have h : (arrB H t j x || (!(H x).isEmpty && (H x).all (arrB H t j))) = true := h
  rw [Bool.or_eq_true, Bool.and_eq_true] at h
  rcases h with h | ⟨h1, h2⟩
  · exact .inl h
  · refine .inr ⟨fun e => ?_, List.all_eq_true.1 h2⟩
    rw [e] at h1
    cases h1
/-- An induction over those that arrive. -/
theorem arr_ind {P : Int → Prop} (h0 : P t) (hs : ∀ x, H x ≠ [] → (∀ y ∈ H x, P y) → (∀ y ∈ H x, ∃ j, arrB H t j y = true) → P x) : ∀ (j : Nat) (x : Int), arrB H t j x = true → P x
  | 0, x, h => by
    have : x = t := of_decide_eq_true h
    rw [this]
    exact h0
  | j + 1, x, h => by
    rcases arr_step h with h | ⟨h1, h2⟩
    · exact arr_ind h0 hs j x h
    · exact hs x h1 (fun y hy => arr_ind h0 hs j y (h2 y hy)) (fun y hy => ⟨j, h2 y hy⟩)
theorem arr_hops {j : Nat} {x : Int} (h : arrB H t j x = true) : x = t ∨ (H x ≠ [] ∧ ∀ y ∈ H x, ∃ i, arrB H t i y = true) := by
  induction j with
  | zero => exact .inl (of_decide_eq_true h)
  | succ j ih =>
    rcases arr_step h with h | ⟨h1, h2⟩
    · exact ih h
    · exact .inr ⟨h1, fun y hy => ⟨j, h2 y hy⟩⟩
/-- P121. -/
theorem arr_walk (hr : InR n H) (hH : H t = []) {j : Nat} {x : Int} (h0 : 0 ≤ x) (h1 : x < (n : Int)) (h : arrB H t j x = true) : walkB H n x = false := by
  have key := arr_ind (H := H) (t := t) (P := fun x => 0 ≤ x → x < (n : Int) → walkB H n x = false) (fun a b => by
    rw [← walk_goes hr a b, hH]
    rfl) (fun x _ hy _ a b => by
    rw [← walk_goes hr a b]
    rw [List.any_eq_false]
    intro y hyx
    have := hr x y a b hyx
    rw [hy y hyx this.1 this.2]
    simp) j x h
  exact key h0 h1
end
end Go.Proofs.Ytkcnbgimdiggoab

/-
  Plain facts: next hops while some nodes have changed their tables: no loops, and who arrives.
-/
namespace Go.Proofs.Ytkcnbgimdiggoab

/-- The next hops of a node while those of ch have changed. -/
def mixH (n : Int) (ls : List Lk) (k : Nat) (t : Int) (ch : List Int) (x : Int) : List Int :=
  if x ∈ ch then hopsL n (ls.eraseIdx k) x t else (hopsL n ls x t).filter (fun y => !decide (linkI n ls x y = (k : Int)))
section
variable {n : Nat} {ls : List Lk} {k : Nat} {l : Lk} {t : Int} {ch : List Int}
theorem ends_linkK (hv : gvB (n : Int) ls = true) (h : ls[k]? = some l) {x y e : Int} (ha : Adj ls x y e) : linkI (n : Int) ls x y = (k : Int) ↔ endsB l x y := by
  obtain ⟨j, m, hj, hm, -, -, -⟩ := way_link hv ⟨e, ha⟩
  have hends := adj_link hv ha hj hm
  constructor
  · intro he
    rw [hj] at he
    obtain rfl : j = k := by omega
    rw [h] at hm
    cases hm
    exact hends
  · intro he
    rw [hj]
    by_cases hjk : j = k
    · rw [hjk]
    · exfalso
      have hm2 : m ∈ ls.eraseIdx k := by
        rw [List.mem_iff_getElem?]
        rcases Nat.lt_or_gt_of_ne hjk with hlt | hlt
        · exact ⟨j, by rw [List.getElem?_eraseIdx, if_pos hlt]; exact hm⟩
        · exact ⟨j - 1, by rw [List.getElem?_eraseIdx, if_neg (by omega), Nat.sub_add_cancel (by omega)]; exact hm⟩
      exact ((er_adj hv h).1 ⟨m, hm2, hends, rfl⟩).2 he
theorem mix_old (hv : gvB (n : Int) ls = true) (h : ls[k]? = some l) (ht : 0 ≤ t ∧ t < (n : Int)) {x y : Int} (hx : 0 ≤ x ∧ x < (n : Int)) (hc : x ∉ ch) :
    y ∈ mixH (n : Int) ls k t ch x ↔ y ∈ hopsL (n : Int) ls x t ∧ ¬ endsB l x y := by
  unfold mixH
  rw [if_neg hc, List.mem_filter]
  constructor
  · rintro ⟨h1, h2⟩
    obtain ⟨e, ha, -, -⟩ := (hops_mem (vwB_of hv hx ht)).1 h1
    refine ⟨h1, fun he => ?_⟩
    rw [(ends_linkK hv h ha).2 he] at h2
    simp at h2
  · rintro ⟨h1, h2⟩
    obtain ⟨e, ha, -, -⟩ := (hops_mem (vwB_of hv hx ht)).1 h1
    refine ⟨h1, ?_⟩
    rw [decide_eq_false (fun he => h2 ((ends_linkK hv h ha).1 he))]
    rfl
theorem mix_new {x : Int} (hc : x ∈ ch) : mixH (n : Int) ls k t ch x = hopsL (n : Int) (ls.eraseIdx k) x t := by unfold mixH; rw [if_pos hc]
theorem filter_all {p : Int → Bool} : ∀ {l : List Int}, (∀ x ∈ l, p x = true) → l.filter p = l
  | [], _ => rfl
  | a :: l, h => by rw [List.filter_cons_of_pos (h a (List.mem_cons_self ..)), filter_all fun x hx => h x (List.mem_cons_of_mem _ hx)]
/-- P116. -/
theorem mix_unused (hv : gvB (n : Int) ls = true) (h : ls[k]? = some l) (ht : 0 ≤ t ∧ t < (n : Int)) {x : Int} (hx : 0 ≤ x ∧ x < (n : Int)) (hnu : usedL (n : Int) ls x t l = false) : mixH (n : Int) ls k t ch x = hopsL (n : Int) ls x t := by
  unfold mixH
  split
  · exact er_hops hv h ht hx hnu
  · refine filter_all fun y hy => ?_
    obtain ⟨hne, -⟩ := er_hop hv h ht hx hnu hy
    obtain ⟨e, ha, -, -⟩ := (hops_mem (vwB_of hv hx ht)).1 hy
    rw [decide_eq_false (fun he => hne ((ends_linkK hv h ha).1 he))]
    rfl
theorem mix_range (hv : gvB (n : Int) ls = true) (ht : 0 ≤ t ∧ t < (n : Int)) : InR n (mixH (n : Int) ls k t ch) := fun x y h0 h1 hy => by
  unfold mixH at hy
  split at hy
  · exact (hops_node (vwB_of (er_gv hv k) ⟨h0, h1⟩ ht) hy).1
  · exact (hops_node (vwB_of hv ⟨h0, h1⟩ ht) (List.mem_filter.1 hy).1).1
theorem hops_less (hv : gvB (n : Int) ls = true) (ht : 0 ≤ t ∧ t < (n : Int)) {x y : Int} (hx : 0 ≤ x ∧ x < (n : Int)) (hy : y ∈ hopsL (n : Int) ls x t) : 0 ≤ bf (n : Int) ls t y ∧ bf (n : Int) ls t y < bf (n : Int) ls t x := by
  obtain ⟨e, ha, h0, he⟩ := (hops_mem (vwB_of hv hx ht)).1 hy
  have := (gvB_fit hv).1.adj ha
  omega
theorem hops_own (hv : gvB (n : Int) ls = true) (ht : 0 ≤ t ∧ t < (n : Int)) : hopsL (n : Int) ls t t = [] := by
  cases hq : hopsL (n : Int) ls t t with
  | nil => rfl
  | cons a r =>
    have := hops_less hv ht ht (y := a) (by rw [hq]; simp)
    rw [bf_self (gvB_fit hv).1 ht] at this
    omega
theorem mix_own (hv : gvB (n : Int) ls = true) (ht : 0 ≤ t ∧ t < (n : Int)) : mixH (n : Int) ls k t ch t = [] := by
  unfold mixH
  rw [hops_own hv ht, hops_own (er_gv hv k) ht]
  split <;> rfl
/-- Those that have changed are far away: whoever uses the link and is farther has changed, too. -/
def Clo (n : Nat) (ls : List Lk) (l : Lk) (t : Int) (ch : List Int) : Prop :=
  ∀ y ∈ ch, usedL (n : Int) ls y t l = true ∧ ∀ x, 0 ≤ x → x < (n : Int) → usedL (n : Int) ls x t l = true → bf (n : Int) ls t y < bf (n : Int) ls t x → x ∈ ch
/-- P117. -/
theorem mix_none (hv : gvB (n : Int) ls = true) (h : ls[k]? = some l) (ht : 0 ≤ t ∧ t < (n : Int)) (hc : Clo n ls l t ch) {x : Int} (h0 : 0 ≤ x) (h1 : x < (n : Int)) : walkB (mixH (n : Int) ls k t ch) n x = false := by
  have h8 := (gvB_fit hv).2.2.1
  have hf := (gvB_fit hv).1
  have hv' := er_gv hv k
  refine walk_none (fun x => if x ∈ ch then 1000 + (bf (n : Int) (ls.eraseIdx k) t x).toNat else (bf (n : Int) ls t x).toNat) (mix_range hv ht) (fun x y a b hy => ?_) h0 h1
  have hby := bf_bound hf ht h8 y
  by_cases hx : x ∈ ch
  · rw [if_pos hx]
    rw [mix_new hx] at hy
    have hl := hops_less hv' ht ⟨a, b⟩ hy
    split <;> omega
  · rw [if_neg hx]
    obtain ⟨hy1, -⟩ := (mix_old hv h ht ⟨a, b⟩ hx).1 hy
    have hl := hops_less hv ht ⟨a, b⟩ hy1
    have hny : y ∉ ch := fun hyc => by
      obtain ⟨hu, hcl⟩ := hc y hyc
      cases hux : usedL (n : Int) ls x t l with
      | true => exact hx (hcl x a b hux hl.2)
      | false =>
        obtain ⟨-, hnu⟩ := er_hop hv h ht ⟨a, b⟩ hux hy1
        rw [hu] at hnu
        cases hnu
    rw [if_neg hny]
    omega
theorem hops_some (hv : gvB (n : Int) ls = true) (ht : 0 ≤ t ∧ t < (n : Int)) {x : Int} (hx : 0 ≤ x ∧ x < (n : Int)) (hne : x ≠ t) (h0 : 0 ≤ bf (n : Int) ls t x) : hopsL (n : Int) ls x t ≠ [] := by
  obtain ⟨u, e, ha, hu, he⟩ := bf_pred (gvB_fit hv).1 ht hne h0
  intro hq
  have : u ∈ hopsL (n : Int) ls x t := (hops_mem (vwB_of hv hx ht)).2 ⟨e, ha.symm, hu, by omega⟩
  rw [hq] at this
  cases this
/-- P120. -/
theorem mix_arrives (hv : gvB (n : Int) ls = true) (h : ls[k]? = some l) (ht : 0 ≤ t ∧ t < (n : Int)) : ∀ (r : Nat) (x : Int), 0 ≤ x → x < (n : Int) → (bf (n : Int) ls t x).toNat ≤ r → 0 ≤ bf (n : Int) ls t x → usedL (n : Int) ls x t l = false → arrB (mixH (n : Int) ls k t ch) t n x = true := by
  intro r
  induction r using Nat.strongRecOn with
  | _ r ih =>
  intro x h0 h1 hr hd hnu
  by_cases hxt : x = t
  · rw [hxt]
    exact arr_self (mix_range hv ht) ht
  · have hm := mix_unused (ch := ch) hv h ht ⟨h0, h1⟩ hnu
    refine arr_fix (mix_range hv ht) ht h0 h1 (by rw [hm]; exact hops_some hv ht ⟨h0, h1⟩ hxt hd) fun y hy => ?_
    rw [hm] at hy
    obtain ⟨hl0, hl1⟩ := hops_less hv ht ⟨h0, h1⟩ hy
    obtain ⟨-, hnuy⟩ := er_hop hv h ht ⟨h0, h1⟩ hnu hy
    obtain ⟨hyr, -⟩ := hops_node (vwB_of hv ⟨h0, h1⟩ ht) hy
    exact ih _ (by omega) y hyr.1 hyr.2 (Nat.le_refl _) hl0 hnuy
/-- P119. -/
theorem mix_all (hv : gvB (n : Int) ls = true) (h : ls[k]? = some l) (ht : 0 ≤ t ∧ t < (n : Int)) (hch : ∀ x, 0 ≤ x → x < (n : Int) → usedL (n : Int) ls x t l = true → x ∈ ch) {x : Int} (h0 : 0 ≤ x) (h1 : x < (n : Int)) :
    arrB (mixH (n : Int) ls k t ch) t n x = true ↔ 0 ≤ bf (n : Int) (ls.eraseIdx k) t x := by
  have hv' := er_gv hv k
  have hm : ∀ x, 0 ≤ x → x < (n : Int) → mixH (n : Int) ls k t ch x = hopsL (n : Int) (ls.eraseIdx k) x t := fun x a b => by
    cases hu : usedL (n : Int) ls x t l with
    | true => exact mix_new (hch x a b hu)
    | false => rw [mix_unused hv h ht ⟨a, b⟩ hu, er_hops hv h ht ⟨a, b⟩ hu]
  constructor
  · intro ha
    have key := arr_ind (H := mixH (n : Int) ls k t ch) (t := t) (P := fun x => 0 ≤ x → x < (n : Int) → 0 ≤ bf (n : Int) (ls.eraseIdx k) t x) (fun _ _ => by rw [bf_self (gvB_fit hv').1 ht]; exact Int.le_refl _)
      (fun x hne hy _ a b => by
        rw [hm x a b] at hne
        obtain ⟨y, hyx⟩ := List.exists_mem_of_ne_nil _ hne
        have := hops_less hv' ht ⟨a, b⟩ hyx
        omega) n x ha
    exact key h0 h1
  · have key : ∀ (r : Nat) (x : Int), 0 ≤ x → x < (n : Int) → (bf (n : Int) (ls.eraseIdx k) t x).toNat ≤ r → 0 ≤ bf (n : Int) (ls.eraseIdx k) t x → arrB (mixH (n : Int) ls k t ch) t n x = true := by
      intro r
      induction r using Nat.strongRecOn with
      | _ r ih =>
      intro x h0 h1 hr hd
      by_cases hxt : x = t
      · rw [hxt]
        exact arr_self (mix_range hv ht) ht
      · refine arr_fix (mix_range hv ht) ht h0 h1 (by rw [hm x h0 h1]; exact hops_some hv' ht ⟨h0, h1⟩ hxt hd) fun y hy => ?_
        rw [hm x h0 h1] at hy
        obtain ⟨hl0, hl1⟩ := hops_less hv' ht ⟨h0, h1⟩ hy
        obtain ⟨hyr, -⟩ := hops_node (vwB_of hv' ⟨h0, h1⟩ ht) hy
        exact ih _ (by omega) y hyr.1 hyr.2 (Nat.le_refl _) hl0
    intro hd
    exact key _ x h0 h1 (Nat.le_refl _) hd
end
end Go.Proofs.Ytkcnbgimdiggoab

/-
  Plain facts: one more node that changes in its turn harms nobody.
-/
namespace Go.Proofs.Ytkcnbgimdiggoab

section
variable {n : Nat} {ls : List Lk} {k : Nat} {l : Lk} {t : Int} {ch : List Int}
/-- The link is crossed from u to v on shortest paths to t. -/
def Near (n : Nat) (ls : List Lk) (l : Lk) (t u v : Int) : Prop := endsB l u v ∧ 0 ≤ bf (n : Int) ls t v ∧ bf (n : Int) ls t u = bf (n : Int) ls t v + l.c
theorem Near.adj (h : ls[k]? = some l) {u v : Int} (hn : Near n ls l t u v) : Adj ls u v l.c := ⟨l, List.mem_of_getElem? h, hn.1, rfl⟩
theorem used_near (hv : gvB (n : Int) ls = true) (h : ls[k]? = some l) (ht : 0 ≤ t ∧ t < (n : Int)) {x : Int} (hx : 0 ≤ x ∧ x < (n : Int)) (hu : usedL (n : Int) ls x t l = true) :
    ∃ u v, Near n ls l t u v ∧ 0 ≤ bf (n : Int) ls u x ∧ bf (n : Int) ls u x + bf (n : Int) ls t u = bf (n : Int) ls t x := by
  obtain ⟨hf, -⟩ := gvB_fit hv
  have hlm := List.mem_of_getElem? h
  have ho := gvB_at hv h
  unfold usedL at hu
  simp only [Bool.and_eq_true, Bool.or_eq_true, decide_eq_true_eq] at hu
  obtain ⟨⟨h1, h2⟩, h3⟩ := hu
  have htri := bf_link_tri hf hx ht hlm h1 h2
  have e : bf (n : Int) ls x t = bf (n : Int) ls t x := bf_symm hf hx ht
  have ea : bf (n : Int) ls x l.a = bf (n : Int) ls l.a x := bf_symm hf hx (by omega)
  have eb : bf (n : Int) ls x l.b = bf (n : Int) ls l.b x := bf_symm hf hx (by omega)
  have ta : bf (n : Int) ls l.a t = bf (n : Int) ls t l.a := bf_symm hf (by omega) ht
  have tb : bf (n : Int) ls l.b t = bf (n : Int) ls t l.b := bf_symm hf (by omega) ht
  have adj : Adj ls l.a l.b l.c := ⟨l, hlm, .inl ⟨rfl, rfl⟩, rfl⟩
  have f1 := bf_edge hf ht adj (by omega)
  have f2 := bf_edge hf ht adj.symm (by omega)
  have g1 := bf_three hf hx (c := l.a) (b := t) (by omega) h2 (by omega)
  have g2 := bf_three hf hx (c := l.b) (b := t) (by omega) (by omega) (by omega)
  rcases h3 with h3 | h3
  · exact ⟨l.a, l.b, ⟨.inl ⟨rfl, rfl⟩, by omega, by omega⟩, by omega, by omega⟩
  · exact ⟨l.b, l.a, ⟨.inr ⟨rfl, rfl⟩, by omega, by omega⟩, by omega, by omega⟩
theorem near_used (hv : gvB (n : Int) ls = true) (h : ls[k]? = some l) (ht : 0 ≤ t ∧ t < (n : Int)) {x u v : Int} (hx : 0 ≤ x ∧ x < (n : Int)) (hn : Near n ls l t u v) (h0 : 0 ≤ bf (n : Int) ls u x) (he : bf (n : Int) ls u x + bf (n : Int) ls t u = bf (n : Int) ls t x) : usedL (n : Int) ls x t l = true := by
  obtain ⟨hf, -⟩ := gvB_fit hv
  have ho := gvB_at hv h
  have ha := hn.adj h
  have hr := hf.adj ha
  have e : bf (n : Int) ls x t = bf (n : Int) ls t x := bf_symm hf hx ht
  have eu : bf (n : Int) ls u x = bf (n : Int) ls x u := bf_symm hf (by omega) hx
  obtain ⟨hends, hv0, hd⟩ := hn
  exact step_used hv ht hx (x := u) (y := v) (by omega) ha hends hv0 (by omega)
theorem near_uniq (hv : gvB (n : Int) ls = true) (h : ls[k]? = some l) {u v u' v' : Int} (hn : Near n ls l t u v) (hn' : Near n ls l t u' v') : u' = u ∧ v' = v := by
  have ho := gvB_at hv h
  obtain ⟨h1, h2, h3⟩ := hn
  obtain ⟨h1', h2', h3'⟩ := hn'
  rcases h1 with ⟨rfl, rfl⟩ | ⟨rfl, rfl⟩
  · rcases h1' with ⟨rfl, rfl⟩ | ⟨rfl, rfl⟩
    · exact ⟨rfl, rfl⟩
    · omega
  · rcases h1' with ⟨rfl, rfl⟩ | ⟨rfl, rfl⟩
    · omega
    · exact ⟨rfl, rfl⟩
/-- Another way from u that is as short. -/
def Alt (n : Nat) (ls : List Lk) (l : Lk) (t u : Int) : Prop := ∃ y e, Adj ls u y e ∧ 0 ≤ bf (n : Int) ls t y ∧ bf (n : Int) ls t y + e = bf (n : Int) ls t u ∧ ¬ endsB l u y
/-- If a node that uses the link arrives by its old table, there is another way as short. -/
theorem arr_alt (hv : gvB (n : Int) ls = true) (h : ls[k]? = some l) (ht : 0 ≤ t ∧ t < (n : Int)) (hc : Clo n ls l t ch) {u v : Int} (hn : Near n ls l t u v) :
    ∀ (r : Nat) (m : Int), 0 ≤ m → m < (n : Int) → (bf (n : Int) ls u m).toNat ≤ r → 0 ≤ bf (n : Int) ls u m → bf (n : Int) ls u m + bf (n : Int) ls t u = bf (n : Int) ls t m → m ∉ ch → (∃ i, arrB (mixH (n : Int) ls k t ch) t i m = true) → Alt n ls l t u := by
  obtain ⟨hf, -⟩ := gvB_fit hv
  have ho := gvB_at hv h
  have hadj := hn.adj h
  have hru := hf.adj hadj
  have hst := bf_self hf ht
  intro r
  induction r using Nat.strongRecOn with
  | _ r ih =>
  intro m h0 h1 hr hd he hmc ⟨i, hi⟩
  have hmt : m ≠ t := fun e => by
    subst e
    have := hn.2
    omega
  rcases arr_hops hi with e | ⟨hne, hall⟩
  · exact absurd e hmt
  · by_cases hmu : m = u
    · subst hmu
      obtain ⟨y, hy⟩ := List.exists_mem_of_ne_nil _ hne
      obtain ⟨hy1, hy2⟩ := (mix_old hv h ht ⟨h0, h1⟩ hmc).1 hy
      obtain ⟨e, ha, hy0, hye⟩ := (hops_mem (vwB_of hv ⟨h0, h1⟩ ht)).1 hy1
      exact ⟨y, e, ha, hy0, hye, hy2⟩
    · obtain ⟨w, e, ha, hw0, hwe⟩ := bf_pred hf (s := u) (v := m) (by omega) hmu hd
      have hrw := hf.adj ha
      have f1 := bf_three hf ht (c := u) (b := w) (by omega) (by have := hn.2; omega) hw0
      have f2 := bf_edge hf ht ha f1.1
      have hwm : w ∈ hopsL (n : Int) ls m t := (hops_mem (vwB_of hv ⟨h0, h1⟩ ht)).2 ⟨e, ha.symm, f1.1, by omega⟩
      have hne2 : ¬ endsB l m w := fun he2 => by
        have hn3 := hn.2
        rcases he2 with ⟨e1, e2⟩ | ⟨e1, e2⟩ <;> rcases hn.1 with ⟨e3, e4⟩ | ⟨e3, e4⟩
        · omega
        · have : m = v := by omega
          subst this
          omega
        · have : m = v := by omega
          subst this
          omega
        · omega
      have hwc : w ∉ ch := fun hwc => by
        have hum := near_used hv h ht ⟨h0, h1⟩ hn hd he
        exact hmc ((hc w hwc).2 m h0 h1 hum (by omega))
      have hwx := hall w ((mix_old hv h ht ⟨h0, h1⟩ hmc).2 ⟨hwm, hne2⟩)
      exact ih _ (by omega) w (by omega) (by omega) (Nat.le_refl _) hw0 (by omega) hwc hwx
/-- With another way as short all distances are as before. -/
theorem alt_dist (hv : gvB (n : Int) ls = true) (h : ls[k]? = some l) (ht : 0 ≤ t ∧ t < (n : Int)) {u v : Int} (hn : Near n ls l t u v) (ha : Alt n ls l t u) {x : Int} (hx : 0 ≤ x ∧ x < (n : Int)) : bf (n : Int) (ls.eraseIdx k) t x = bf (n : Int) ls t x := by
  obtain ⟨hf, -⟩ := gvB_fit hv
  have hv' := er_gv hv k
  obtain ⟨hf', -⟩ := gvB_fit hv'
  have ho := gvB_at hv h
  have hadj := hn.adj h
  have hru := hf.adj hadj
  have hge : ∀ x, 0 ≤ bf (n : Int) (ls.eraseIdx k) t x → 0 ≤ bf (n : Int) ls t x ∧ bf (n : Int) ls t x ≤ bf (n : Int) (ls.eraseIdx k) t x := fun x h1 => by
    obtain ⟨m, hm⟩ := bf_walk hf' ht h1
    exact bf_le hf ht (er_wk hv h hm)
  cases hux : usedL (n : Int) ls x t l with
  | false => exact er_bf hv h ht hx hux
  | true =>
    obtain ⟨u', v', hn', hd0, hde⟩ := used_near hv h ht hx hux
    obtain ⟨rfl, rfl⟩ := near_uniq hv h hn hn'
    obtain ⟨y, e, hay, hy0, hye, hyn⟩ := ha
    have hry := hf.adj hay
    have hyu : usedL (n : Int) ls y t l = false := by
      cases hq : usedL (n : Int) ls y t l with
      | false => rfl
      | true =>
        obtain ⟨u2, v2, hn2, hq0, hqe⟩ := used_near hv h ht (x := y) (by omega) hq
        obtain ⟨rfl, rfl⟩ := near_uniq hv h hn hn2
        omega
    have hby := er_bf hv h ht (s := y) (by omega) hyu
    have hay' : Adj (ls.eraseIdx k) y u' e := ((er_adj hv h).2 ⟨hay, hyn⟩).symm
    have f1 := bf_edge hf' ht hay' (by omega)
    have f2 := hge u' f1.1
    have hxu : usedL (n : Int) ls x u' l = false := by
      cases hq : usedL (n : Int) ls x u' l with
      | false => rfl
      | true =>
        obtain ⟨u2, v2, ⟨hends, hq1, hq2⟩, hq0, hqe⟩ := used_near hv h (t := u') (by omega) hx hq
        exfalso
        have hsf := bf_self hf (s := u') (by omega)
        have hn3 := hn.2
        have hcase : (u2 = u' ∧ v2 = v') ∨ (u2 = v' ∧ v2 = u') := by
          rcases hends with ⟨e1, e2⟩ | ⟨e1, e2⟩ <;> rcases hn.1 with ⟨e3, e4⟩ | ⟨e3, e4⟩ <;> omega
        rcases hcase with ⟨rfl, rfl⟩ | ⟨rfl, rfl⟩
        · omega
        · have g := bf_three hf ht (c := u2) (b := x) (by omega) (by omega) hq0
          omega
    have f3 := er_bf hv h (t := u') (by omega) hx hxu
    have f4 := bf_three hf' ht (c := u') (b := x) (by omega) f1.1 (by omega)
    have f5 := hge x f4.1
    omega
theorem alt_hops (hv : gvB (n : Int) ls = true) (h : ls[k]? = some l) (ht : 0 ≤ t ∧ t < (n : Int)) {u v : Int} (hn : Near n ls l t u v) (ha : Alt n ls l t u) {x : Int} (hx : 0 ≤ x ∧ x < (n : Int)) :
    hopsL (n : Int) (ls.eraseIdx k) x t = (hopsL (n : Int) ls x t).filter (fun y => !decide (linkI (n : Int) ls x y = (k : Int))) := by
  have hv' := er_gv hv k
  have hf := (gvB_fit hv).1
  refine asc_ext _ _ (hops_asc _ _ _ _) ((hops_asc _ _ _ _).sublist (List.filter_sublist ..)) fun y => ?_
  have hmo := mix_old (ch := []) (y := y) hv h ht hx (by simp)
  unfold mixH at hmo
  rw [if_neg (by simp)] at hmo
  rw [hmo, hops_mem (vwB_of hv' hx ht), hops_mem (vwB_of hv hx ht)]
  constructor
  · rintro ⟨e, hay, h0, he⟩
    obtain ⟨h1, h2⟩ := (er_adj hv h).1 hay
    have hr := hf.adj h1
    rw [alt_dist hv h ht hn ha (x := y) (by omega)] at h0 he
    rw [alt_dist hv h ht hn ha hx] at he
    exact ⟨⟨e, h1, h0, he⟩, h2⟩
  · rintro ⟨⟨e, hay, h0, he⟩, h2⟩
    have hr := hf.adj hay
    exact ⟨e, (er_adj hv h).2 ⟨hay, h2⟩, by rw [alt_dist hv h ht hn ha (x := y) (by omega)]; exact h0, by rw [alt_dist hv h ht hn ha (x := y) (by omega), alt_dist hv h ht hn ha hx]; exact he⟩
theorem arr_congr {H H' : Int → List Int} (hr : InR n H) (he : ∀ x, 0 ≤ x → x < (n : Int) → H x = H' x) : ∀ (j : Nat) (x : Int), 0 ≤ x → x < (n : Int) → arrB H t j x = arrB H' t j x
  | 0, _, _, _ => rfl
  | j + 1, x, h0, h1 => by
    show (arrB H t j x || (!(H x).isEmpty && (H x).all (arrB H t j))) = (arrB H' t j x || (!(H' x).isEmpty && (H' x).all (arrB H' t j)))
    rw [arr_congr hr he j x h0 h1, ← he x h0 h1]
    congr 2
    rw [Bool.eq_iff_iff, List.all_eq_true, List.all_eq_true]
    constructor
    · intro g y hy
      have := hr x y h0 h1 hy
      rw [← arr_congr hr he j y this.1 this.2]
      exact g y hy
    · intro g y hy
      have := hr x y h0 h1 hy
      rw [arr_congr hr he j y this.1 this.2]
      exact g y hy
/-- P122. -/
theorem mix_more (hv : gvB (n : Int) ls = true) (h : ls[k]? = some l) (ht : 0 ≤ t ∧ t < (n : Int)) (hc : Clo n ls l t ch) {m : Int} (hm : 0 ≤ m ∧ m < (n : Int)) (hmu : usedL (n : Int) ls m t l = true) (hmc : m ∉ ch) {x : Int} (h0 : 0 ≤ x) (h1 : x < (n : Int))
    (ha : arrB (mixH (n : Int) ls k t ch) t n x = true) : arrB (mixH (n : Int) ls k t (ch ++ [m])) t n x = true := by
  have hr := mix_range (k := k) (ch := ch) hv ht
  have hr' := mix_range (k := k) (ch := ch ++ [m]) hv ht
  by_cases hma : ∃ i, arrB (mixH (n : Int) ls k t ch) t i m = true
  · obtain ⟨u, v, hn, hd0, hde⟩ := used_near hv h ht hm hmu
    have halt := arr_alt hv h ht hc hn _ m hm.1 hm.2 (Nat.le_refl _) hd0 hde hmc hma
    rw [← arr_congr (H := mixH (n : Int) ls k t ch) hr (fun x a b => ?_) n x h0 h1]
    · exact ha
    · have hh := alt_hops hv h ht hn halt ⟨a, b⟩
      unfold mixH
      split <;> split <;> simp_all
  · have key := arr_ind (H := mixH (n : Int) ls k t ch) (t := t) (P := fun x => 0 ≤ x → x < (n : Int) → arrB (mixH (n : Int) ls k t (ch ++ [m])) t n x = true) (fun _ _ => arr_self hr' ht)
      (fun x hne hy hj a b => by
        have hxm : x ≠ m := fun e => by
          subst e
          exact hma ⟨n, arr_fix hr ht a b hne (fun y hyx => by
            obtain ⟨i, hi⟩ := hj y hyx
            have := hr x y a b hyx
            exact arr_any hr ht this.1 this.2 hi)⟩
        have hsame : mixH (n : Int) ls k t (ch ++ [m]) x = mixH (n : Int) ls k t ch x := by
          unfold mixH
          by_cases hx : x ∈ ch
          · rw [if_pos hx, if_pos (List.mem_append.2 (.inl hx))]
          · rw [if_neg hx, if_neg (fun e => by
              rcases List.mem_append.1 e with e | e
              · exact hx e
              · simp at e
                exact hxm e)]
        refine arr_fix hr' ht a b (by rw [hsame]; exact hne) fun y hyx => ?_
        rw [hsame] at hyx
        have := hr x y a b hyx
        exact hy y hyx this.1 this.2) n x ha
    exact key h0 h1
end
end Go.Proofs.Ytkcnbgimdiggoab

/-
  Plain facts: the order of updates.
-/
namespace Go.Proofs.Ytkcnbgimdiggoab

def ordT (n : Nat) (ls : List Lk) (x t : Int) : Nat → List Int
  | 0 => []
  | f + 1 => (nodL n).filter (fun y => decide (bf (n : Int) ls t y = ((f + 1 : Nat) : Int)) && usedB (n : Int) ls y t x) ++ ordT n ls x t f
/-- What UpdateOrder answers. -/
def ordA (nn : Int) (ls : List Lk) (x t : Int) : List Int := if vwB nn ls [0, t] && idxB ls x then ordT nn.toNat ls x t (nn.toNat * 20) else []
def OrdR (n : Nat) (ls : List Lk) (t a b : Int) : Prop := bf (n : Int) ls t b < bf (n : Int) ls t a ∨ (bf (n : Int) ls t a = bf (n : Int) ls t b ∧ a < b)
section
variable {n : Nat} {ls : List Lk} {x t : Int}
theorem bf_twenty (hf : Fit (n : Int) ls) {s : Int} (hs : 0 ≤ s ∧ s < (n : Int)) (v : Int) : bf (n : Int) ls s v ≤ ((n * 20 : Nat) : Int) := by
  rcases bf_isD hf hs v with ⟨h0, ⟨k, hk⟩, hm⟩ | ⟨h, _⟩
  · obtain ⟨c', k', hw, hc, hk'⟩ := hk.short hf hs
    have := hm _ _ hw
    have := hw.le hf
    omega
  · omega
theorem ordT_mem {f : Nat} {y : Int} : y ∈ ordT n ls x t f ↔ (0 ≤ y ∧ y < (n : Int)) ∧ usedB (n : Int) ls y t x = true ∧ 1 ≤ bf (n : Int) ls t y ∧ bf (n : Int) ls t y ≤ (f : Int) := by
  induction f with
  | zero => simp [ordT]; intro _ _ _ _; omega
  | succ f ih =>
    unfold ordT
    rw [List.mem_append, ih, List.mem_filter, mem_nodL, Bool.and_eq_true, decide_eq_true_eq]
    constructor
    · rintro (⟨h1, h2, h3⟩ | ⟨h1, h2, h3, h4⟩)
      · exact ⟨h1, h3, by omega, by omega⟩
      · exact ⟨h1, h2, h3, by omega⟩
    · rintro ⟨h1, h2, h3, h4⟩
      by_cases e : bf (n : Int) ls t y = ((f + 1 : Nat) : Int)
      · exact .inl ⟨h1, e, h2⟩
      · exact .inr ⟨h1, h2, h3, by omega⟩
theorem ordT_sort : ∀ f : Nat, (ordT n ls x t f).Pairwise (OrdR n ls t)
  | 0 => List.Pairwise.nil
  | f + 1 => by
    unfold ordT
    rw [List.pairwise_append]
    refine ⟨?_, ordT_sort f, fun a ha b hb => ?_⟩
    · have h := (nodL_asc n).sublist (List.filter_sublist (p := fun y => decide (bf (n : Int) ls t y = ((f + 1 : Nat) : Int)) && usedB (n : Int) ls y t x))
      refine List.Pairwise.imp_of_mem (fun {a b} ha hb hab => ?_) h
      have h1 := (List.mem_filter.1 ha).2
      have h2 := (List.mem_filter.1 hb).2
      rw [Bool.and_eq_true, decide_eq_true_eq] at h1 h2
      exact .inr ⟨by rw [h1.1, h2.1], hab⟩
    · have h1 := (List.mem_filter.1 ha).2
      rw [Bool.and_eq_true, decide_eq_true_eq] at h1
      have h2 := (ordT_mem.1 hb).2.2.2
      exact .inl (by rw [h1.1]; omega)
theorem used_pos (hg : gvB (n : Int) ls = true) (ht : 0 ≤ t ∧ t < (n : Int)) {y : Int} (hy : 0 ≤ y ∧ y < (n : Int)) (h : usedB (n : Int) ls y t x = true) : 1 ≤ bf (n : Int) ls t y := by
  have h0 := used_reach h
  have hf := (gvB_fit hg).1
  have hs := bf_symm hf hy ht
  by_cases he : y = t
  · subst he
    rw [used_self] at h
    cases h
  · obtain ⟨u, e, ha, hu, hd⟩ := bf_pred hf ht he (by omega)
    have := hf.adj ha
    omega
theorem ordA_ok {nn : Int} (hg : gvB nn ls = true) (ht : 0 ≤ t ∧ t < nn) (hx : idxB ls x = true) : ordA nn ls x t = ordT nn.toNat ls x t (nn.toNat * 20) := by
  unfold ordA
  rw [if_pos (by rw [vwB_of hg ⟨Int.le_refl _, by omega⟩ ht, hx]; rfl)]
/-- P112. -/
theorem ord_mem (hg : gvB (n : Int) ls = true) (ht : 0 ≤ t ∧ t < (n : Int)) (hx : idxB ls x = true) {y : Int} : y ∈ ordA (n : Int) ls x t ↔ (0 ≤ y ∧ y < (n : Int)) ∧ usedB (n : Int) ls y t x = true := by
  rw [ordA_ok hg ht hx, show ((n : Int)).toNat = n by omega, ordT_mem]
  constructor
  · rintro ⟨h1, h2, -⟩
    exact ⟨h1, h2⟩
  · rintro ⟨h1, h2⟩
    exact ⟨h1, h2, used_pos hg ht h1 h2, bf_twenty (gvB_fit hg).1 ht y⟩
theorem ord_sort (nn : Int) (ls : List Lk) (x t : Int) : (ordA nn ls x t).Pairwise (OrdR nn.toNat ls t) := by
  unfold ordA
  split
  · exact ordT_sort _
  · exact List.Pairwise.nil
theorem ord_nodup (nn : Int) (ls : List Lk) (x t : Int) : (ordA nn ls x t).Nodup := by
  refine (ord_sort nn ls x t).imp fun {a b} h e => ?_
  subst e
  unfold OrdR at h
  omega
theorem need_nodup (nn : Int) (ls : List Lk) (s x : Int) : (needA nn ls s x).Nodup := by
  unfold needA
  split
  · exact ((nodL_asc _).sublist (List.filter_sublist ..)).imp fun {a b} h e => by omega
  · exact List.nodup_nil
theorem len_of_mem {a b : List Int} (ha : a.Nodup) (hb : b.Nodup) (h : ∀ y, y ∈ a ↔ y ∈ b) : a.length = b.length := Nat.le_antisymm (ha.length_le_of_subset fun y hy => (h y).1 hy) (hb.length_le_of_subset fun y hy => (h y).2 hy)
theorem ord_need (hg : gvB (n : Int) ls = true) (ht : 0 ≤ t ∧ t < (n : Int)) (hx : idxB ls x = true) : (ordA (n : Int) ls x t).length = (needA (n : Int) ls t x).length := by
  have hr : rokB (n : Int) ls t x = true := by
    unfold rokB
    rw [vwB_single.2 ⟨hg, ht⟩, hx]
    rfl
  refine len_of_mem (ord_nodup _ _ _ _) (need_nodup _ _ _ _) fun y => ?_
  rw [ord_mem hg ht hx, need_mem hr, usedB_back]
/-- P123. -/
theorem ord_none (hg : gvB (n : Int) ls = true) (ht : 0 ≤ t ∧ t < (n : Int)) (hx : idxB ls x = true) : (ordA (n : Int) ls x t).length + (safeA (n : Int) ls t x).length = (reachL (n : Int) ls t).length := by
  have hr : rokB (n : Int) ls t x = true := by
    unfold rokB
    rw [vwB_single.2 ⟨hg, ht⟩, hx]
    rfl
  rw [ord_need hg ht hx, need_count hr]
theorem ordA_len8 (nn : Int) (ls : List Lk) (x t : Int) : (ordA nn ls x t).length ≤ 8 := by
  by_cases hc : (vwB nn ls [0, t] && idxB ls x) = true
  · rw [Bool.and_eq_true] at hc
    obtain ⟨hg, h0, ht⟩ := vwB_two hc.1
    obtain ⟨n, rfl⟩ : ∃ n : Nat, nn = (n : Int) := ⟨nn.toNat, by omega⟩
    have := reachL_len (n : Int) ls t
    have := ord_none hg ht hc.2
    omega
  · unfold ordA
    rw [if_neg hc]
    exact Nat.zero_le _
/-- The first part of the order is closed. -/
theorem ord_clo (hg : gvB (n : Int) ls = true) (ht : 0 ≤ t ∧ t < (n : Int)) {k : Nat} {l : Lk} (hl : ls[k]? = some l) (j : Nat) : Clo n ls l t ((ordA (n : Int) ls (k : Int) t).take j) := fun y hy => by
  have hx : idxB ls (k : Int) = true := by
    have := (List.getElem?_eq_some_iff.1 hl).1
    unfold idxB
    simp
    omega
  have hmem : ∀ z, z ∈ ordA (n : Int) ls (k : Int) t → (0 ≤ z ∧ z < (n : Int)) ∧ usedL (n : Int) ls z t l = true := fun z hz => by
    obtain ⟨h1, h2⟩ := (ord_mem hg ht hx).1 hz
    rw [used_at (vwB_of hg h1 ht) hl] at h2
    exact ⟨h1, h2⟩
  refine ⟨(hmem y (List.mem_of_mem_take hy)).2, fun z h0 h1 hu hlt => ?_⟩
  have hz : z ∈ ordA (n : Int) ls (k : Int) t := (ord_mem hg ht hx).2 ⟨⟨h0, h1⟩, by rw [used_at (vwB_of hg ⟨h0, h1⟩ ht) hl]; exact hu⟩
  rw [← List.take_append_drop j (ordA (n : Int) ls (k : Int) t)] at hz
  rcases List.mem_append.1 hz with hz | hz
  · exact hz
  · exfalso
    have hp := ord_sort (n : Int) ls (k : Int) t
    rw [← List.take_append_drop j (ordA (n : Int) ls (k : Int) t), List.pairwise_append] at hp
    have := hp.2.2 y hy z hz
    unfold OrdR at this
    rw [show ((n : Int)).toNat = n by omega] at this
    omega
end
end Go.Proofs.Ytkcnbgimdiggoab
