/-
  Plain facts: there are as many shortest paths back.
-/
import Derived.Test.YtkcnbgimdiggoabC1
import Derived.Test.YtkcnbgimdiggoabC5
namespace Go.Proofs.Ytkcnbgimdiggoab

/-- A sum over all nodes. -/
def sN (n : Nat) (f : Nat → Nat) : Nat := ((List.range n).map f).sum
theorem sN_succ (n : Nat) (f : Nat → Nat) : sN (n + 1) f = sN n f + f n := by unfold sN; simp [List.range_succ]
theorem sN_congr {n : Nat} {f g : Nat → Nat} (h : ∀ i, i < n → f i = g i) : sN n f = sN n g := by
  induction n with
  | zero => rfl
  | succ n ih => rw [sN_succ, sN_succ, ih fun i hi => h i (by omega), h n (by omega)]
theorem sN_add (n : Nat) (f g : Nat → Nat) : sN n (fun i => f i + g i) = sN n f + sN n g := by
  induction n with
  | zero => rfl
  | succ n ih => rw [sN_succ, sN_succ, sN_succ, ih]; omega
theorem sN_zero (n : Nat) : sN n (fun _ => 0) = 0 := by
  induction n with
  | zero => rfl
  | succ n ih => rw [sN_succ, ih]
theorem sN_swap (n m : Nat) (f : Nat → Nat → Nat) : sN n (fun i => sN m (fun j => f i j)) = sN m (fun j => sN n (fun i => f i j)) := by
  induction n with
  | zero => show 0 = sN m (fun _ => 0); rw [sN_zero]
  | succ n ih => rw [sN_succ, ih, ← sN_add]; exact sN_congr fun j _ => (sN_succ n (fun i => f i j)).symm
theorem sN_one {n : Nat} {f : Nat → Nat} {k : Nat} (hk : k < n) (h : ∀ i, i < n → i ≠ k → f i = 0) : sN n f = f k := by
  induction n with
  | zero => omega
  | succ n ih =>
    rw [sN_succ]
    by_cases hkn : k = n
    · subst hkn
      rw [sN_congr (g := fun _ => 0) fun i hi => h i (by omega) (by omega), sN_zero]
      omega
    · rw [ih (by omega) fun i hi hne => h i (by omega) hne, h n (by omega) (by omega)]
      omega
theorem sN_none {n : Nat} {f : Nat → Nat} (h : ∀ i, i < n → f i = 0) : sN n f = 0 := by
  rw [sN_congr (g := fun _ => 0) h, sN_zero]

section
variable (n : Nat) (a : Nat → Nat → Nat)
/-- How many walks of this cost lead from u to v; a: the cost of a link, 0 where there is none. -/
def wn : Nat → Nat → Nat → Nat → Nat
  | 0, _, _, _ => 0
  | k + 1, c, u, v => (if c = 0 ∧ u = v then 1 else 0) + sN n (fun z => if 0 < a u z ∧ a u z ≤ c then wn k (c - a u z) z v else 0)
def wr' : Nat → Nat → Nat → Nat → Nat
  | 0, _, _, _ => 0
  | k + 1, c, u, v => (if c = 0 ∧ u = v then 1 else 0) + sN n (fun y => if 0 < a y v ∧ a y v ≤ c then wr' k (c - a y v) u y else 0)
variable {n a}
theorem wn_more : ∀ (k m c u v : Nat), c < k → k ≤ m → wn n a m c u v = wn n a k c u v := by
  intro k
  induction k with
  | zero => intro m c u v h; omega
  | succ k ih =>
    intro m c u v h hm
    obtain ⟨m, rfl⟩ : ∃ q, m = q + 1 := ⟨m - 1, by omega⟩
    simp only [wn]
    congr 1
    refine sN_congr fun z _ => ?_
    by_cases hz : 0 < a u z ∧ a u z ≤ c
    · rw [if_pos hz, if_pos hz, ih m _ z v (by omega) (by omega)]
    · rw [if_neg hz, if_neg hz]
theorem wr_more : ∀ (k m c u v : Nat), c < k → k ≤ m → wr' n a m c u v = wr' n a k c u v := by
  intro k
  induction k with
  | zero => intro m c u v h; omega
  | succ k ih =>
    intro m c u v h hm
    obtain ⟨m, rfl⟩ : ∃ q, m = q + 1 := ⟨m - 1, by omega⟩
    simp only [wr']
    congr 1
    refine sN_congr fun z _ => ?_
    by_cases hz : 0 < a z v ∧ a z v ≤ c
    · rw [if_pos hz, if_pos hz, ih m _ u z (by omega) (by omega)]
    · rw [if_neg hz, if_neg hz]
theorem wn_wr : ∀ (k c u v : Nat), c < k → u < n → v < n → wn n a k c u v = wr' n a k c u v := by
  intro k
  induction k using Nat.strongRecOn with
  | _ k ih =>
  intro c u v hc hu hv
  obtain ⟨k, rfl⟩ : ∃ q, k = q + 1 := ⟨k - 1, by omega⟩
  -- the first step on the left, the last one on the right
  have hl : sN n (fun z => if 0 < a u z ∧ a u z ≤ c then wn n a k (c - a u z) z v else 0) =
      sN n (fun z => if 0 < a u z ∧ a u z ≤ c then (if c - a u z = 0 ∧ z = v then 1 else 0) + sN n (fun y => if 0 < a y v ∧ a y v ≤ c - a u z then wr' n a (k - 1) (c - a u z - a y v) z y else 0) else 0) := by
    refine sN_congr fun z hz => ?_
    by_cases h : 0 < a u z ∧ a u z ≤ c
    · rw [if_pos h, if_pos h, ih k (by omega) _ z v (by omega) hz hv]
      obtain ⟨k', rfl⟩ : ∃ q, k = q + 1 := ⟨k - 1, by omega⟩
      simp only [wr', Nat.add_sub_cancel]
    · rw [if_neg h, if_neg h]
  have hr : sN n (fun y => if 0 < a y v ∧ a y v ≤ c then wr' n a k (c - a y v) u y else 0) =
      sN n (fun y => if 0 < a y v ∧ a y v ≤ c then (if c - a y v = 0 ∧ u = y then 1 else 0) + sN n (fun z => if 0 < a u z ∧ a u z ≤ c - a y v then wn n a (k - 1) (c - a y v - a u z) z y else 0) else 0) := by
    refine sN_congr fun y hy => ?_
    by_cases h : 0 < a y v ∧ a y v ≤ c
    · rw [if_pos h, if_pos h, ← ih k (by omega) _ u y (by omega) hu hy]
      obtain ⟨k', rfl⟩ : ∃ q, k = q + 1 := ⟨k - 1, by omega⟩
      simp only [wn, Nat.add_sub_cancel]
    · rw [if_neg h, if_neg h]
  simp only [wn, wr']
  rw [hl, hr]
  congr 1
  -- both sums, parted
  have pl : sN n (fun z => if 0 < a u z ∧ a u z ≤ c then (if c - a u z = 0 ∧ z = v then 1 else 0) + sN n (fun y => if 0 < a y v ∧ a y v ≤ c - a u z then wr' n a (k - 1) (c - a u z - a y v) z y else 0) else 0) =
      sN n (fun z => if 0 < a u z ∧ a u z = c ∧ z = v then 1 else 0) + sN n (fun z => sN n (fun y => if 0 < a u z ∧ 0 < a y v ∧ a u z + a y v ≤ c then wr' n a (k - 1) (c - a u z - a y v) z y else 0)) := by
    rw [← sN_add]
    refine sN_congr fun z _ => ?_
    by_cases h : 0 < a u z ∧ a u z ≤ c
    · rw [if_pos h]
      congr 1
      · by_cases h2 : c - a u z = 0 ∧ z = v
        · rw [if_pos h2, if_pos ⟨h.1, by omega, h2.2⟩]
        · rw [if_neg h2, if_neg (fun h3 => h2 ⟨by omega, h3.2.2⟩)]
      · refine sN_congr fun y _ => ?_
        by_cases h2 : 0 < a y v ∧ a y v ≤ c - a u z
        · rw [if_pos h2, if_pos ⟨h.1, h2.1, by omega⟩]
        · rw [if_neg h2, if_neg (fun h3 => h2 ⟨h3.2.1, by omega⟩)]
    · rw [if_neg h, if_neg (fun h3 => h ⟨h3.1, by omega⟩), sN_none fun y _ => if_neg (fun h3 => h ⟨h3.1, by omega⟩)]
  have pr : sN n (fun y => if 0 < a y v ∧ a y v ≤ c then (if c - a y v = 0 ∧ u = y then 1 else 0) + sN n (fun z => if 0 < a u z ∧ a u z ≤ c - a y v then wn n a (k - 1) (c - a y v - a u z) z y else 0) else 0) =
      sN n (fun y => if 0 < a y v ∧ a y v = c ∧ u = y then 1 else 0) + sN n (fun y => sN n (fun z => if 0 < a u z ∧ 0 < a y v ∧ a u z + a y v ≤ c then wn n a (k - 1) (c - a y v - a u z) z y else 0)) := by
    rw [← sN_add]
    refine sN_congr fun y _ => ?_
    by_cases h : 0 < a y v ∧ a y v ≤ c
    · rw [if_pos h]
      congr 1
      · by_cases h2 : c - a y v = 0 ∧ u = y
        · rw [if_pos h2, if_pos ⟨h.1, by omega, h2.2⟩]
        · rw [if_neg h2, if_neg (fun h3 => h2 ⟨by omega, h3.2.2⟩)]
      · refine sN_congr fun z _ => ?_
        by_cases h2 : 0 < a u z ∧ a u z ≤ c - a y v
        · rw [if_pos h2, if_pos ⟨h2.1, h.1, by omega⟩]
        · rw [if_neg h2, if_neg (fun h3 => h2 ⟨h3.1, by omega⟩)]
    · rw [if_neg h, if_neg (fun h3 => h ⟨h3.1, by omega⟩), sN_none fun z _ => if_neg (fun h3 => h ⟨h3.2.1, by omega⟩)]
  rw [pl, pr]
  congr 1
  · rw [sN_one (k := v) hv (fun i _ hne => if_neg (fun h => hne h.2.2)), sN_one (k := u) hu (fun i _ hne => if_neg (fun h => hne h.2.2.symm))]
    by_cases h : 0 < a u v ∧ a u v = c
    · rw [if_pos ⟨h.1, h.2, rfl⟩, if_pos ⟨h.1, h.2, rfl⟩]
    · rw [if_neg (fun h2 => h ⟨h2.1, h2.2.1⟩), if_neg (fun h2 => h ⟨h2.1, h2.2.1⟩)]
  · rw [sN_swap]
    refine sN_congr fun y hy => sN_congr fun z hz => ?_
    by_cases h : 0 < a u z ∧ 0 < a y v ∧ a u z + a y v ≤ c
    · rw [if_pos h, if_pos h, show c - a y v - a u z = c - a u z - a y v by omega]
      have := ih (k - 1) (by omega) (c - a u z - a y v) z y (by omega) hz hy
      exact this.symm
    · rw [if_neg h, if_neg h]
theorem wr_back (ha : ∀ u v, a u v = a v u) : ∀ (k c u v : Nat), wr' n a k c u v = wn n a k c v u := by
  intro k
  induction k with
  | zero => intro c u v; rfl
  | succ k ih =>
    intro c u v
    simp only [wr', wn]
    congr 1
    · by_cases h : c = 0 ∧ u = v
      · rw [if_pos h, if_pos ⟨h.1, h.2.symm⟩]
      · rw [if_neg h, if_neg (fun h2 => h ⟨h2.1, h2.2.symm⟩)]
    · refine sN_congr fun z _ => ?_
      rw [ha z v]
      by_cases h : 0 < a v z ∧ a v z ≤ c
      · rw [if_pos h, if_pos h, ih]
      · rw [if_neg h, if_neg h]
theorem wn_back (ha : ∀ u v, a u v = a v u) {c u v : Nat} (hu : u < n) (hv : v < n) : wn n a (c + 1) c u v = wn n a (c + 1) c v u := by
  rw [wn_wr _ _ _ _ (by omega) hu hv, wr_back ha]
end

/-- The cost of the link between two nodes, 0 where there is none. -/
def lkc (n : Nat) (ls : List Lk) (u z : Nat) : Nat := if (z : Int) ∈ nbI (n : Int) ls (u : Int) then (lcost (n : Int) ls (u : Int) (z : Int)).toNat else 0
section
variable {n : Nat} {ls : List Lk}
theorem lkc_adj (hv : gvB (n : Int) ls = true) {u z : Nat} : 0 < lkc n ls u z ↔ ∃ e, Adj ls (u : Int) (z : Int) e := by
  unfold lkc
  constructor
  · intro h
    split at h
    · rename_i hm
      exact (nbI_adj hv).1 hm
    · omega
  · rintro ⟨e, ha⟩
    rw [if_pos ((nbI_adj hv).2 ⟨e, ha⟩), lcost_eq hv ha]
    have := (gvB_fit hv).1.adj ha
    omega
theorem lkc_eq (hv : gvB (n : Int) ls = true) {u z : Nat} {e : Int} (ha : Adj ls (u : Int) (z : Int) e) : (lkc n ls u z : Int) = e := by
  unfold lkc
  rw [if_pos ((nbI_adj hv).2 ⟨e, ha⟩), lcost_eq hv ha]
  have := (gvB_fit hv).1.adj ha
  omega
theorem lkc_symm (hv : gvB (n : Int) ls = true) (u z : Nat) : lkc n ls u z = lkc n ls z u := by
  by_cases h : 0 < lkc n ls u z
  · obtain ⟨e, ha⟩ := (lkc_adj hv).1 h
    have h1 := lkc_eq hv ha
    have h2 := lkc_eq hv ha.symm
    omega
  · have h2 : ¬ 0 < lkc n ls z u := fun h2 => by
      obtain ⟨e, ha⟩ := (lkc_adj hv).1 h2
      exact h ((lkc_adj hv).2 ⟨e, ha.symm⟩)
    omega
/-- A walk that is counted is a walk. -/
theorem wn_wk (hv : gvB (n : Int) ls = true) : ∀ (k c u v : Nat), 0 < wn n (lkc n ls) k c u v → ∃ m, Wk ls (u : Int) (v : Int) (c : Int) m := by
  intro k
  induction k with
  | zero => intro c u v h; simp [wn] at h
  | succ k ih =>
    intro c u v h
    simp only [wn] at h
    by_cases h0 : c = 0 ∧ u = v
    · obtain ⟨rfl, rfl⟩ := h0
      exact ⟨0, .nil⟩
    · rw [if_neg h0, Nat.zero_add] at h
      have : ∃ z, z < n ∧ 0 < lkc n ls u z ∧ lkc n ls u z ≤ c ∧ 0 < wn n (lkc n ls) k (c - lkc n ls u z) z v := by
        apply Classical.byContradiction
        intro hn
        rw [sN_none fun z hz => ?_] at h
        · omega
        · by_cases hq : 0 < lkc n ls u z ∧ lkc n ls u z ≤ c
          · rw [if_pos hq]
            apply Classical.byContradiction
            intro hne
            exact hn ⟨z, hz, hq.1, hq.2, by omega⟩
          · rw [if_neg hq]
      obtain ⟨z, _, h1, h2, h3⟩ := this
      obtain ⟨e, ha⟩ := (lkc_adj hv).1 h1
      have he := lkc_eq hv ha
      obtain ⟨m, hm⟩ := ih _ _ _ h3
      have := (Wk.one ha).trans hm
      rw [show e + ((c - lkc n ls u z : Nat) : Int) = (c : Int) by omega] at this
      exact ⟨_, this⟩
theorem wk_zero {s v c : Int} {k : Nat} (hw : Wk ls s v c k) (hk : k = 0) : v = s := by
  cases hw with
  | nil => rfl
  | snoc _ _ => omega
theorem list_sum_filter {xs : List Int} {p : Int → Bool} {f : Int → Nat} : ((xs.filter p).map f).sum = (xs.map (fun x => if p x = true then f x else 0)).sum := by
  induction xs with
  | nil => rfl
  | cons x xs ih =>
    cases h : p x with
    | true => rw [List.filter_cons_of_pos h]; simp [h, ih]
    | false => rw [List.filter_cons_of_neg (by rw [h]; simp)]; simp [h, ih]
/-- A sum over ascending nodes is one over all nodes. -/
theorem sum_nodes {xs : List Int} (ha : xs.Pairwise (· < ·)) (f : Int → Nat) : ∀ m : Nat, (∀ x ∈ xs, 0 ≤ x ∧ x < (m : Int)) → (xs.map f).sum = sN m (fun z => if (z : Int) ∈ xs then f (z : Int) else 0) := by
  intro m
  induction m generalizing xs with
  | zero =>
    intro h
    cases xs with
    | nil => rfl
    | cons x xs => have := h x (by simp); omega
  | succ m ih =>
    intro h
    rw [sN_succ]
    have hsub : (xs.filter (fun x => decide (x ≠ (m : Int)))).Pairwise (· < ·) := ha.sublist List.filter_sublist
    have h1 := ih hsub fun x hx => by
      have h2 := h x (List.mem_filter.1 hx).1
      have h3 := (List.mem_filter.1 hx).2
      simp at h3
      omega
    have h2 : (xs.map f).sum = ((xs.filter (fun x => decide (x ≠ (m : Int)))).map f).sum + (if (m : Int) ∈ xs then f (m : Int) else 0) := by
      clear ih h1 hsub h
      induction xs with
      | nil => rfl
      | cons x xs ih2 =>
        have hp := List.pairwise_cons.1 ha
        have ih3 := ih2 hp.2
        by_cases hx : x = (m : Int)
        · subst hx
          rw [List.filter_cons_of_neg (by simp)]
          have hno : (m : Int) ∉ xs := fun hm => by have := hp.1 _ hm; omega
          rw [if_neg hno] at ih3
          rw [if_pos (by simp)]
          simp only [List.map_cons, List.sum_cons]
          omega
        · rw [List.filter_cons_of_pos (by simp [hx])]
          simp only [List.map_cons, List.sum_cons]
          by_cases hm : (m : Int) ∈ xs
          · rw [if_pos hm] at ih3
            rw [if_pos (by simp [hm])]
            omega
          · rw [if_neg hm] at ih3
            rw [if_neg (by simp; exact ⟨fun e => hx e.symm, hm⟩)]
            omega
    rw [h2, h1]
    congr 1
    refine sN_congr fun z hz => ?_
    have : ((z : Int) ∈ xs.filter (fun x => decide (x ≠ (m : Int)))) ↔ (z : Int) ∈ xs := by
      rw [List.mem_filter]
      constructor
      · exact fun h => h.1
      · exact fun h => ⟨h, by simp; omega⟩
    by_cases hq : (z : Int) ∈ xs
    · rw [if_pos (this.2 hq), if_pos hq]
    · rw [if_neg (fun h => hq (this.1 h)), if_neg hq]
/-- The shortest paths are the walks of the distance's cost. -/
theorem cntL_wn (hv : gvB (n : Int) ls = true) {t : Nat} (ht : t < n) : ∀ (r s : Nat), s < n → rk n ls (t : Int) (s : Int) ≤ r → 0 ≤ bf (n : Int) ls (t : Int) (s : Int) →
    cntL n ls (s : Int) (t : Int) = wn n (lkc n ls) ((bf (n : Int) ls (t : Int) (s : Int)).toNat + 1) (bf (n : Int) ls (t : Int) (s : Int)).toNat s t := by
  obtain ⟨hf, _⟩ := gvB_fit hv
  have htr : 0 ≤ (t : Int) ∧ (t : Int) < (n : Int) := by omega
  intro r
  induction r using Nat.strongRecOn with
  | _ r ih =>
  intro s hs hr h0
  have hsr : 0 ≤ (s : Int) ∧ (s : Int) < (n : Int) := by omega
  by_cases hst : s = t
  · subst hst
    rw [cntL_self, bf_self hf hsr]
    show 1 = wn n (lkc n ls) 1 0 s s
    simp only [wn]
    rw [if_pos (by simp), sN_none fun z _ => by split <;> rfl]
  · have hsti : (s : Int) ≠ (t : Int) := by omega
    have hvw := vwB_of hv hsr htr
    rw [cntL_step hv htr hsr hsti, sum_nodes (hops_asc _ _ _ _) _ n fun x hx => (hops_node hvw hx).1]
    obtain ⟨d, hd⟩ : ∃ d : Nat, bf (n : Int) ls (t : Int) (s : Int) = (d : Int) := ⟨(bf (n : Int) ls (t : Int) (s : Int)).toNat, by omega⟩
    rw [hd, Int.toNat_natCast]
    have hd0 : d ≠ 0 := fun e => by
      subst e
      obtain ⟨m, hw⟩ := bf_walk hf htr h0
      rw [hd] at hw
      have := hw.le hf
      have hm : m = 0 := by omega
      subst hm
      have := wk_zero hw rfl
      omega
    simp only [wn]
    rw [if_neg (fun h => hd0 h.1), Nat.zero_add]
    refine sN_congr fun z hz => ?_
    have hzr : 0 ≤ (z : Int) ∧ (z : Int) < (n : Int) := by omega
    by_cases hh : (z : Int) ∈ hopsL (n : Int) ls (s : Int) (t : Int)
    · obtain ⟨e, ha, hz0, he⟩ := (hops_mem hvw).1 hh
      have hlk := lkc_eq hv ha
      have hea := hf.adj ha
      have hrk := rk_lt (n := n) (ls := ls) (t := (t : Int)) (s := (s : Int)) hzr hz0 (by omega)
      rw [if_pos hh, if_pos ⟨by omega, by omega⟩, ih (rk n ls (t : Int) (z : Int)) (by omega) z hz (Nat.le_refl _) hz0]
      have e2 : (bf (n : Int) ls (t : Int) (z : Int)).toNat = d - lkc n ls s z := by omega
      rw [e2]
      exact (wn_more _ d _ _ _ (by omega) (by omega)).symm
    · rw [if_neg hh]
      by_cases hq : 0 < lkc n ls s z ∧ lkc n ls s z ≤ d
      · rw [if_pos hq]
        apply Classical.byContradiction
        intro hne
        obtain ⟨m, hw⟩ := wn_wk hv _ _ _ _ (show 0 < wn n (lkc n ls) d (d - lkc n ls s z) z t by omega)
        obtain ⟨e, ha⟩ := (lkc_adj hv).1 hq.1
        have hlk := lkc_eq hv ha
        have hle := bf_le hf htr hw.symm
        have hed := bf_edge hf htr ha.symm hle.1
        exact hh ((hops_mem hvw).2 ⟨e, ha, hle.1, by omega⟩)
      · rw [if_neg hq]
theorem cntL_back (hv : gvB (n : Int) ls = true) {s t : Int} (hs : 0 ≤ s ∧ s < (n : Int)) (ht : 0 ≤ t ∧ t < (n : Int)) : cntL n ls s t = cntL n ls t s := by
  obtain ⟨hf, _⟩ := gvB_fit hv
  have hsy : bf (n : Int) ls t s = bf (n : Int) ls s t := bf_symm hf ht hs
  obtain ⟨s, rfl⟩ : ∃ q : Nat, s = (q : Int) := ⟨s.toNat, by omega⟩
  obtain ⟨t, rfl⟩ : ∃ q : Nat, t = (q : Int) := ⟨t.toNat, by omega⟩
  by_cases h0 : 0 ≤ bf (n : Int) ls (t : Int) (s : Int)
  · rw [cntL_wn hv (by omega) _ s (by omega) (Nat.le_refl _) h0, cntL_wn hv (by omega) _ t (by omega) (Nat.le_refl _) (by omega), hsy]
    exact wn_back (lkc_symm hv) (by omega) (by omega)
  · have h1 := cntL_pos hv ht _ (s : Int) hs (Nat.le_refl _)
    have h2 := cntL_pos hv hs _ (t : Int) ht (Nat.le_refl _)
    omega
end
end Go.Proofs.Ytkcnbgimdiggoab

/-
  Plain facts: a graph without one link: a link that no shortest path crosses is not needed; where one does, there are fewer shortest paths without it, or a longer distance.
-/
namespace Go.Proofs.Ytkcnbgimdiggoab

/-- These are the ends of l. -/
def endsB (l : Lk) (u v : Int) : Prop := (l.a = u ∧ l.b = v) ∨ (l.b = u ∧ l.a = v)
theorem er_mem {ls : List Lk} {k : Nat} {m : Lk} (h : m ∈ ls.eraseIdx k) : m ∈ ls := List.mem_of_mem_eraseIdx h
theorem er_gv {n : Int} {ls : List Lk} (hv : gvB n ls = true) (k : Nat) : gvB n (ls.eraseIdx k) = true := by
  rw [gvB_iff] at hv ⊢
  obtain ⟨h1, h2, h3, h4⟩ := hv
  exact ⟨h1, Nat.le_trans (List.length_eraseIdx_le _ _) h2, fun l hl => h3 l (er_mem hl), h4.sublist (List.eraseIdx_sublist _ _)⟩
theorem er_adj {n : Int} {ls : List Lk} (hv : gvB n ls = true) {k : Nat} {l : Lk} (h : ls[k]? = some l) {u v e : Int} : Adj (ls.eraseIdx k) u v e ↔ Adj ls u v e ∧ ¬ endsB l u v := by
  constructor
  · rintro ⟨m, hm, hh, hc⟩
    refine ⟨⟨m, er_mem hm, hh, hc⟩, fun he => ?_⟩
    obtain ⟨j, hj⟩ := List.getElem?_of_mem hm
    have hm2 := hm
    rw [List.getElem?_eraseIdx] at hj
    have hne : ∃ i, i ≠ k ∧ ls[i]? = some m := by
      split at hj
      · exact ⟨j, by omega, hj⟩
      · exact ⟨j + 1, by omega, hj⟩
    obtain ⟨i, hik, hi⟩ := hne
    have o1 := gvB_at hv hi
    have o2 := gvB_at hv h
    unfold endsB at he
    rcases Nat.lt_or_gt_of_ne hik with hlt | hlt
    · have := gvB_lex hv hi k l hlt h
      omega
    · have := gvB_lex hv h i m hlt hi
      omega
  · rintro ⟨⟨m, hm, hh, hc⟩, hne⟩
    obtain ⟨j, hj⟩ := List.getElem?_of_mem hm
    have hjk : j ≠ k := fun e => by
      subst e
      rw [h] at hj
      cases hj
      exact hne hh
    refine ⟨m, List.mem_iff_getElem?.2 ?_, hh, hc⟩
    rcases Nat.lt_or_gt_of_ne hjk with hlt | hlt
    · exact ⟨j, by rw [List.getElem?_eraseIdx, if_pos hlt]; exact hj⟩
    · exact ⟨j - 1, by rw [List.getElem?_eraseIdx, if_neg (by omega), Nat.sub_add_cancel (by omega)]; exact hj⟩
theorem er_wk {n : Int} {ls : List Lk} (hv : gvB n ls = true) {k : Nat} {l : Lk} (h : ls[k]? = some l) {s v c : Int} {m : Nat} (hw : Wk (ls.eraseIdx k) s v c m) : Wk ls s v c m := by
  induction hw with
  | nil => exact .nil
  | snoc _ ha ih => exact ih.snoc ((er_adj hv h).1 ha).1
section
variable {n : Nat} {ls : List Lk} {k : Nat} {l : Lk} {t : Int}
/-- A step along a shortest path that is the link makes the link used. -/
theorem step_used (hv : gvB (n : Int) ls = true) (ht : 0 ≤ t ∧ t < (n : Int)) {s x y : Int} (hs : 0 ≤ s ∧ s < (n : Int)) (hsx : 0 ≤ bf (n : Int) ls s x) (ha : Adj ls x y l.c) (he : endsB l x y) (h0 : 0 ≤ bf (n : Int) ls t y)
    (hd : bf (n : Int) ls s x + l.c + bf (n : Int) ls t y = bf (n : Int) ls s t) : usedL (n : Int) ls s t l = true := by
  obtain ⟨hf, _⟩ := gvB_fit hv
  have hy := bf_edge hf hs ha hsx
  have hr := hf.adj ha
  have htx := bf_edge hf ht ha.symm h0
  have htri := bf_node_tri hf hs ht (x := y) (by omega) hy.1 h0
  unfold usedL
  simp only [Bool.and_eq_true, Bool.or_eq_true, decide_eq_true_eq]
  rcases he with ⟨e1, e2⟩ | ⟨e1, e2⟩
  · rw [e1, e2]; omega
  · rw [e1, e2]; omega
theorem er_path (hv : gvB (n : Int) ls = true) (h : ls[k]? = some l) (ht : 0 ≤ t ∧ t < (n : Int)) {s : Int} {p : List Int} (hp : IsP n ls t s p) (hno : ∀ i x y, p[i]? = some x → p[i + 1]? = some y → ¬ endsB l x y) :
    ∃ m, Wk (ls.eraseIdx k) s t (bf (n : Int) ls t s) m := by
  induction hp with
  | last => rw [bf_self (gvB_fit hv).1 ht]; exact ⟨0, .nil⟩
  | @step s y zs p hst hh hs h0 hp ih =>
    obtain ⟨m, hm⟩ := ih fun i x z hx hz => hno (i + 1) x z (by simpa using hx) (by simpa using hz)
    obtain ⟨e, ha, _, he⟩ := (hops_mem (vwB_of hv hs ht)).1 (show y ∈ hopsL (n : Int) ls s t by rw [hh]; simp)
    have hn0 := hno 0 s y (by simp) (by simpa using hp.head.1)
    have := (Wk.one ((er_adj hv h).2 ⟨ha, hn0⟩)).trans hm
    rw [show e + bf (n : Int) ls t y = bf (n : Int) ls t s by omega] at this
    exact ⟨_, this⟩
theorem er_bf (hv : gvB (n : Int) ls = true) (h : ls[k]? = some l) (ht : 0 ≤ t ∧ t < (n : Int)) {s : Int} (hs : 0 ≤ s ∧ s < (n : Int)) (hnu : usedL (n : Int) ls s t l = false) : bf (n : Int) (ls.eraseIdx k) t s = bf (n : Int) ls t s := by
  obtain ⟨hf, _⟩ := gvB_fit hv
  have hv' := er_gv hv k
  obtain ⟨hf', _⟩ := gvB_fit hv'
  have hge : 0 ≤ bf (n : Int) (ls.eraseIdx k) t s → 0 ≤ bf (n : Int) ls t s ∧ bf (n : Int) ls t s ≤ bf (n : Int) (ls.eraseIdx k) t s := fun h1 => by
    obtain ⟨m, hm⟩ := bf_walk hf' ht h1
    exact bf_le hf ht (er_wk hv h hm)
  rcases bf_sg hf ht s with h0 | h0
  · have hp := pathL_isP hv ht _ s hs h0 (Nat.le_refl _)
    obtain ⟨m, hm⟩ := er_path hv h ht hp fun i x y hx hy he => by
      obtain ⟨j, l', _, hl', hc, _, _, ha, hy0⟩ := hp.link hv ht hx hy
      obtain ⟨u1, u2, u3, _⟩ := hp.used hv ht hx
      have hll := adj_uniq hv ha ⟨l, List.mem_of_getElem? h, he, rfl⟩
      rw [step_used hv ht hs u1 ⟨l, List.mem_of_getElem? h, he, rfl⟩ he hy0 (by omega)] at hnu
      cases hnu
    have h1 := bf_le hf' ht hm.symm
    have h2 := hge h1.1
    omega
  · rcases bf_sg hf' ht s with h1 | h1
    · have := hge h1
      omega
    · omega
theorem er_hop (hv : gvB (n : Int) ls = true) (h : ls[k]? = some l) (ht : 0 ≤ t ∧ t < (n : Int)) {s y : Int} (hs : 0 ≤ s ∧ s < (n : Int)) (hnu : usedL (n : Int) ls s t l = false) (hy : y ∈ hopsL (n : Int) ls s t) : ¬ endsB l s y ∧ usedL (n : Int) ls y t l = false := by
  obtain ⟨hf, _⟩ := gvB_fit hv
  have hvw := vwB_of hv hs ht
  obtain ⟨hyr, _, hy0, _⟩ := hops_node hvw hy
  obtain ⟨e, ha, _, he⟩ := (hops_mem hvw).1 hy
  have hss := bf_self hf hs
  have e1 : bf (n : Int) ls s t = bf (n : Int) ls t s := bf_symm hf hs ht
  have e2 : bf (n : Int) ls y t = bf (n : Int) ls t y := bf_symm hf hyr ht
  have hea := hf.adj ha
  constructor
  · intro hend
    have hll := adj_uniq hv ha ⟨l, List.mem_of_getElem? h, hend, rfl⟩
    rw [step_used hv ht hs (by omega) ⟨l, List.mem_of_getElem? h, hend, rfl⟩ hend hy0 (by omega)] at hnu
    cases hnu
  · cases hc : usedL (n : Int) ls y t l with
    | false => rfl
    | true =>
      exfalso
      have hlm := List.mem_of_getElem? h
      have hlb := gvB_at hv h
      unfold usedL at hc
      simp only [Bool.and_eq_true, Bool.or_eq_true, decide_eq_true_eq] at hc
      have htri := bf_link_tri hf hyr ht hlm hc.1.1 hc.1.2
      have f1 := bf_three hf hs hyr (b := l.a) (by have := bf_edge hf hs ha (by omega); omega) hc.1.2
      have f2 := bf_three hf hs hyr (b := l.b) (by have := bf_edge hf hs ha (by omega); omega) htri.1
      have f3 := bf_edge hf hs ha (by omega)
      have g := bf_link_tri hf hs ht hlm (by omega) f1.1
      have : usedL (n : Int) ls s t l = true := by
        unfold usedL
        simp only [Bool.and_eq_true, Bool.or_eq_true, decide_eq_true_eq]
        omega
      rw [hnu] at this
      cases this
theorem er_hops (hv : gvB (n : Int) ls = true) (h : ls[k]? = some l) (ht : 0 ≤ t ∧ t < (n : Int)) {s : Int} (hs : 0 ≤ s ∧ s < (n : Int)) (hnu : usedL (n : Int) ls s t l = false) : hopsL (n : Int) (ls.eraseIdx k) s t = hopsL (n : Int) ls s t := by
  obtain ⟨hf, _⟩ := gvB_fit hv
  have hv' := er_gv hv k
  obtain ⟨hf', _⟩ := gvB_fit hv'
  have hbs := er_bf hv h ht hs hnu
  refine asc_ext _ _ (hops_asc _ _ _ _) (hops_asc _ _ _ _) fun y => ?_
  rw [hops_mem (vwB_of hv' hs ht), hops_mem (vwB_of hv hs ht)]
  constructor
  · rintro ⟨e, ha, h0, he⟩
    obtain ⟨ha2, _⟩ := (er_adj hv h).1 ha
    obtain ⟨m, hm⟩ := bf_walk hf' ht h0
    have h1 := bf_le hf ht (er_wk hv h hm)
    have h2 := bf_edge hf ht ha2.symm h1.1
    exact ⟨e, ha2, h1.1, by omega⟩
  · rintro ⟨e, ha, h0, he⟩
    obtain ⟨hne, hny⟩ := er_hop hv h ht hs hnu ((hops_mem (vwB_of hv hs ht)).2 ⟨e, ha, h0, he⟩)
    have hr := hf.adj ha
    have hby := er_bf hv h ht (s := y) (by omega) hny
    exact ⟨e, (er_adj hv h).2 ⟨ha, hne⟩, by omega, by omega⟩
theorem er_cnt (hv : gvB (n : Int) ls = true) (h : ls[k]? = some l) (ht : 0 ≤ t ∧ t < (n : Int)) : ∀ (r : Nat) (s : Int), 0 ≤ s ∧ s < (n : Int) → rk n ls t s ≤ r → usedL (n : Int) ls s t l = false → cntL n (ls.eraseIdx k) s t = cntL n ls s t := by
  have hv' := er_gv hv k
  intro r
  induction r using Nat.strongRecOn with
  | _ r ih =>
  intro s hs hr hnu
  by_cases hst : s = t
  · subst hst
    rw [cntL_self, cntL_self]
  · rw [cntL_step hv' ht hs hst, cntL_step hv ht hs hst, er_hops hv h ht hs hnu]
    congr 1
    refine List.map_congr_left fun y hy => ?_
    obtain ⟨hyr, _, h3, h4⟩ := hops_node (vwB_of hv hs ht) hy
    obtain ⟨_, hny⟩ := er_hop hv h ht hs hnu hy
    have := rk_lt hyr h3 h4
    exact ih (rk n ls t y) (by omega) y hyr (Nat.le_refl _) hny
end

/-! ### Fewer walks -/
theorem sN_le {n : Nat} {f g : Nat → Nat} (h : ∀ i, i < n → f i ≤ g i) : sN n f ≤ sN n g := by
  induction n with
  | zero => exact Nat.le_refl _
  | succ n ih =>
    rw [sN_succ, sN_succ]
    have h1 := ih fun i hi => h i (by omega)
    have h2 := h n (by omega)
    omega
theorem sN_lt {n : Nat} {f g : Nat → Nat} (h : ∀ i, i < n → f i ≤ g i) {k : Nat} (hk : k < n) (hlt : f k < g k) : sN n f < sN n g := by
  induction n with
  | zero => omega
  | succ n ih =>
    rw [sN_succ, sN_succ]
    have h2 := h n (by omega)
    by_cases hkn : k = n
    · subst hkn
      have := sN_le fun i (hi : i < k) => h i (by omega)
      omega
    · have := ih (fun i hi => h i (by omega)) (by omega)
      omega
section
variable {n : Nat} {a a0 : Nat → Nat → Nat}
theorem wn_mono (ha : ∀ u z, a0 u z = a u z ∨ a0 u z = 0) : ∀ (k c u v : Nat), wn n a0 k c u v ≤ wn n a k c u v := by
  intro k
  induction k with
  | zero => intro c u v; exact Nat.le_refl _
  | succ k ih =>
    intro c u v
    simp only [wn]
    refine Nat.add_le_add_left (sN_le fun z _ => ?_) _
    by_cases hq : 0 < a0 u z ∧ a0 u z ≤ c
    · rcases ha u z with e | e
      · rw [if_pos hq, if_pos (by omega), e]
        exact ih _ _ _
      · omega
    · rw [if_neg hq]
      omega
/-- A walk that uses what a0 lacks. -/
inductive Uw (n : Nat) (a a0 : Nat → Nat → Nat) : Nat → Nat → Nat → Prop
  | here {u z v c : Nat} : z < n → 0 < a u z → a0 u z = 0 → 0 < wn n a (c + 1) c z v → Uw n a a0 (a u z + c) u v
  | there {u z v c : Nat} : z < n → 0 < a u z → Uw n a a0 c z v → Uw n a a0 (a u z + c) u v
theorem Uw.lt (ha : ∀ u z, a0 u z = a u z ∨ a0 u z = 0) {c u v : Nat} (h : Uw n a a0 c u v) : wn n a0 (c + 1) c u v < wn n a (c + 1) c u v := by
  induction h with
  | @here u z v c hz h1 h2 h3 =>
    simp only [wn]
    refine Nat.add_lt_add_left (sN_lt (k := z) (fun y _ => ?_) hz ?_) _
    · by_cases hq : 0 < a0 u y ∧ a0 u y ≤ a u z + c
      · rcases ha u y with e | e
        · rw [if_pos hq, if_pos (by omega), e]
          exact wn_mono ha _ _ _ _
        · omega
      · rw [if_neg hq]; omega
    · rw [if_neg (by omega), if_pos ⟨h1, by omega⟩, Nat.add_sub_cancel_left, wn_more (c + 1) (a u z + c) c z v (by omega) (by omega)]
      exact h3
  | @there u z v c hz h1 hu ih =>
    simp only [wn]
    refine Nat.add_lt_add_left (sN_lt (k := z) (fun y _ => ?_) hz ?_) _
    · by_cases hq : 0 < a0 u y ∧ a0 u y ≤ a u z + c
      · rcases ha u y with e | e
        · rw [if_pos hq, if_pos (by omega), e]
          exact wn_mono ha _ _ _ _
        · omega
      · rw [if_neg hq]; omega
    · have hpos : 0 < wn n a (c + 1) c z v := by omega
      rcases ha u z with e | e
      · rw [if_pos (by omega), if_pos (by omega), e, Nat.add_sub_cancel_left, wn_more (c + 1) (a u z + c) c z v (by omega) (by omega), wn_more (c + 1) (a u z + c) c z v (by omega) (by omega)]
        exact ih
      · rw [if_neg (by omega), if_pos (by omega), Nat.add_sub_cancel_left, wn_more (c + 1) (a u z + c) c z v (by omega) (by omega)]
        exact hpos
end
section
variable {n : Nat} {ls : List Lk}
theorem wk_pos (hv : gvB (n : Int) ls = true) {s p d : Int} {m : Nat} (hw : Wk ls s p d m) : ∀ {v c : Nat}, 0 < wn n (lkc n ls) (c + 1) c p.toNat v → 0 < wn n (lkc n ls) (d.toNat + c + 1) (d.toNat + c) s.toNat v := by
  obtain ⟨hf, _⟩ := gvB_fit hv
  induction hw with
  | nil => intro v c h; simpa using h
  | @snoc u p d e m hw ha ih =>
    intro v c h
    have hr := hf.adj ha
    have hd := hw.pos hf
    have hu : (u.toNat : Int) = u := by omega
    have hp : (p.toNat : Int) = p := by omega
    have hlk := lkc_eq hv (u := u.toNat) (z := p.toNat) (e := e) (by rw [hu, hp]; exact ha)
    have h2 : 0 < wn n (lkc n ls) (e.toNat + c + 1) (e.toNat + c) u.toNat v := by
      have he : lkc n ls u.toNat p.toNat = e.toNat := by omega
      simp only [wn]
      refine Nat.lt_of_lt_of_le ?_ (Nat.le_add_left _ _)
      have : sN n (fun _ => 0) < sN n (fun z => if 0 < lkc n ls u.toNat z ∧ lkc n ls u.toNat z ≤ e.toNat + c then wn n (lkc n ls) (e.toNat + c) (e.toNat + c - lkc n ls u.toNat z) z v else 0) := by
        refine sN_lt (k := p.toNat) (fun _ _ => Nat.zero_le _) (by omega) ?_
        rw [he, if_pos (by omega), Nat.add_sub_cancel_left, wn_more (c + 1) (e.toNat + c) c p.toNat v (by omega) (by omega)]
        exact h
      omega
    have := ih h2
    rwa [show d.toNat + (e.toNat + c) = (d + e).toNat + c by omega] at this
theorem wk_uw (hv : gvB (n : Int) ls = true) {a0 : Nat → Nat → Nat} {s p d : Int} {m : Nat} (hw : Wk ls s p d m) : ∀ {v c : Nat}, Uw n (lkc n ls) a0 c p.toNat v → Uw n (lkc n ls) a0 (d.toNat + c) s.toNat v := by
  obtain ⟨hf, _⟩ := gvB_fit hv
  induction hw with
  | nil => intro v c h; simpa using h
  | @snoc u p d e m hw ha ih =>
    intro v c h
    have hr := hf.adj ha
    have hd := hw.pos hf
    have hu : (u.toNat : Int) = u := by omega
    have hp : (p.toNat : Int) = p := by omega
    have hlk := lkc_eq hv (u := u.toNat) (z := p.toNat) (e := e) (by rw [hu, hp]; exact ha)
    have h2 := ih (Uw.there (u := u.toNat) (z := p.toNat) (by omega) (by omega) h)
    rwa [show d.toNat + (lkc n ls u.toNat p.toNat + c) = (d + e).toNat + c by omega] at h2
theorem wk_wn (hv : gvB (n : Int) ls = true) {s p d : Int} {m : Nat} (hw : Wk ls s p d m) : 0 < wn n (lkc n ls) (d.toNat + 1) d.toNat s.toNat p.toNat := by
  have := wk_pos hv hw (v := p.toNat) (c := 0) (by simp only [wn]; rw [if_pos (by simp)]; omega)
  simpa using this
theorem er_lkc (hv : gvB (n : Int) ls = true) {k : Nat} {l : Lk} (h : ls[k]? = some l) (u z : Nat) : lkc n (ls.eraseIdx k) u z = lkc n ls u z ∨ lkc n (ls.eraseIdx k) u z = 0 := by
  have hv' := er_gv hv k
  by_cases hq : 0 < lkc n (ls.eraseIdx k) u z
  · left
    obtain ⟨e, ha⟩ := (lkc_adj hv').1 hq
    have h1 := lkc_eq hv' ha
    have h2 := lkc_eq hv ((er_adj hv h).1 ha).1
    omega
  · right; omega
/-- A shortest path crosses the link: without it the distance is longer or there are fewer. -/
theorem er_fewer (hv : gvB (n : Int) ls = true) {k : Nat} {l : Lk} (h : ls[k]? = some l) {s t : Int} (hs : 0 ≤ s ∧ s < (n : Int)) (ht : 0 ≤ t ∧ t < (n : Int)) (hu : usedL (n : Int) ls s t l = true) (hd : bf (n : Int) (ls.eraseIdx k) t s = bf (n : Int) ls t s) : cntL n (ls.eraseIdx k) s t < cntL n ls s t := by
  obtain ⟨hf, _⟩ := gvB_fit hv
  have hv' := er_gv hv k
  have hlm := List.mem_of_getElem? h
  have hlb := gvB_at hv h
  have e1 : bf (n : Int) ls s t = bf (n : Int) ls t s := bf_symm hf hs ht
  have hu2 := hu
  unfold usedL at hu2
  simp only [Bool.and_eq_true, Bool.or_eq_true, decide_eq_true_eq] at hu2
  have htri := bf_link_tri hf hs ht hlm hu2.1.1 hu2.1.2
  have key : ∀ x y : Int, endsB l x y → 0 ≤ bf (n : Int) ls s x → 0 ≤ bf (n : Int) ls t y → bf (n : Int) ls s x + l.c + bf (n : Int) ls t y = bf (n : Int) ls s t → Uw n (lkc n ls) (lkc n (ls.eraseIdx k)) (bf (n : Int) ls t s).toNat s.toNat t.toNat := fun x y he hx hy hsum => by
    have ha : Adj ls x y l.c := ⟨l, hlm, he, rfl⟩
    have hr := hf.adj ha
    obtain ⟨m1, w1⟩ := bf_walk hf hs hx
    obtain ⟨m2, w2⟩ := bf_walk hf ht hy
    have p2 := wk_wn hv w2.symm
    have hxn : (x.toNat : Int) = x := by omega
    have hyn : (y.toNat : Int) = y := by omega
    have hlk := lkc_eq hv (u := x.toNat) (z := y.toNat) (e := l.c) (by rw [hxn, hyn]; exact ha)
    have hz0 : lkc n (ls.eraseIdx k) x.toNat y.toNat = 0 := by
      apply Classical.byContradiction
      intro hne
      obtain ⟨e, ha'⟩ := (lkc_adj hv').1 (Nat.pos_of_ne_zero hne)
      rw [hxn, hyn] at ha'
      exact ((er_adj hv h).1 ha').2 he
    have hh := Uw.here (n := n) (a := lkc n ls) (a0 := lkc n (ls.eraseIdx k)) (u := x.toNat) (z := y.toNat) (v := t.toNat) (c := (bf (n : Int) ls t y).toNat) (by omega) (by omega) hz0 p2
    have := wk_uw hv w1 hh
    rwa [show (bf (n : Int) ls s x).toNat + (lkc n ls x.toNat y.toNat + (bf (n : Int) ls t y).toNat) = (bf (n : Int) ls t s).toNat by omega] at this
  have hUw : Uw n (lkc n ls) (lkc n (ls.eraseIdx k)) (bf (n : Int) ls t s).toNat s.toNat t.toNat := by
    rcases hu2.2 with h1 | h1
    · exact key l.a l.b (.inl ⟨rfl, rfl⟩) hu2.1.2 htri.2.2.1 h1
    · exact key l.b l.a (.inr ⟨rfl, rfl⟩) htri.1 htri.2.1 h1
  have hlt := hUw.lt (er_lkc hv h)
  obtain ⟨sn, rfl⟩ : ∃ q : Nat, s = (q : Int) := ⟨s.toNat, by omega⟩
  obtain ⟨tn, rfl⟩ : ∃ q : Nat, t = (q : Int) := ⟨t.toNat, by omega⟩
  rw [cntL_wn hv (by omega) _ sn (by omega) (Nat.le_refl _) (by omega), cntL_wn hv' (by omega) _ sn (by omega) (Nat.le_refl _) (by omega), hd]
  simpa using hlt
end
end Go.Proofs.Ytkcnbgimdiggoab

/-
  Plain facts: stacks of labels: which links a packet crosses, slices of stacks, the way back.
-/
namespace Go.Proofs.Ytkcnbgimdiggoab

section
variable {n : Nat} {ls : List Lk} {s : Int}
/-! ### Links of a packet's nodes -/
theorem adj_link (hg : gvB (n : Int) ls = true) {a b e : Int} (ha : Adj ls a b e) {j : Nat} {l : Lk} (h1 : linkI (n : Int) ls a b = (j : Int)) (h2 : ls[j]? = some l) : endsB l a b := by
  obtain ⟨k, l', e1, e2, ha2, h3, h4⟩ := nbI_link hg ((nbI_adj hg).2 ⟨e, ha⟩)
  rw [h1] at e1
  have : j = k := by omega
  subst this
  rw [h2] at e2
  cases e2
  have hb := gvB_at hg h2
  unfold endsB
  omega
theorem ends_link (hg : gvB (n : Int) ls = true) {a b : Int} {j : Nat} {l : Lk} (h2 : ls[j]? = some l) (he : endsB l a b) : linkI (n : Int) ls a b = (j : Int) := by
  have ha : Adj ls a b l.c := ⟨l, List.mem_of_getElem? h2, he, rfl⟩
  obtain ⟨k, l', e1, e2, ha2, h3, h4⟩ := nbI_link hg ((nbI_adj hg).2 ⟨_, ha⟩)
  rw [e1]
  have hb := gvB_at hg h2
  have hpw := (gvB_iff.1 hg).2.2.2
  obtain ⟨h5, h6⟩ := List.getElem?_eq_some_iff.1 h2
  obtain ⟨h7, h8⟩ := List.getElem?_eq_some_iff.1 e2
  have hends : l'.a = l.a ∧ l'.b = l.b := by
    unfold endsB at he
    omega
  rcases Nat.lt_trichotomy j k with h | h | h
  · have := List.pairwise_iff_getElem.1 hpw j k h5 h7 h
    rw [h6, h8] at this
    unfold beforeB at this
    simp at this
    omega
  · omega
  · have := List.pairwise_iff_getElem.1 hpw k j h7 h5 h
    rw [h6, h8] at this
    unfold beforeB at this
    simp at this
    omega
/-- Two nodes in a row of a packet lie on one leg. -/
theorem pair_leg (hg : gvB (n : Int) ls = true) {st : List Lb} {z : Int} : ∀ {s : Int}, 0 ≤ s ∧ s < (n : Int) → endO (n : Int) ls s st = some z → ∀ (k : Nat) (a b : Int), (s :: pthO (n : Int) ls s st)[k]? = some a → (s :: pthO (n : Int) ls s st)[k + 1]? = some b →
    ∃ y ∈ legsO (n : Int) ls s st, ∃ i, y.2[i]? = some a ∧ y.2[i + 1]? = some b := by
  induction st with
  | nil =>
    intro s _ _ k a b _ hb
    simp [pthO] at hb
  | cons l st ih =>
    intro s hs h k a b ha hb
    simp only [endO] at h
    simp only [pthO, legsO] at ha hb ⊢
    cases hz : stepO (n : Int) ls s l with
    | none => rw [hz] at h; cases h
    | some u =>
      rw [hz] at h ha hb
      dsimp only at h ha hb ⊢
      have hu := stepO_node hg hs hz
      have hne := stepO_leg hz
      obtain ⟨q, hq⟩ := leg_snoc hz
      have hc := leg_cons hg hs hne
      have e : s :: ((legP (n : Int) ls s l).drop 1 ++ pthO (n : Int) ls u st) = q ++ u :: pthO (n : Int) ls u st := by
        rw [← List.cons_append, ← hc, hq]; simp
      rw [e] at ha hb
      by_cases hk : k + 1 ≤ q.length
      · refine ⟨_, List.mem_cons_self, k, ?_, ?_⟩
        · rw [hq, List.getElem?_append_left (by omega)]
          rwa [List.getElem?_append_left (by omega)] at ha
        · rw [hq]
          by_cases hk2 : k + 1 < q.length
          · rw [List.getElem?_append_left hk2]
            rwa [List.getElem?_append_left hk2] at hb
          · obtain hk3 : k + 1 = q.length := by omega
            rw [List.getElem?_append_right (by omega)] at hb ⊢
            rw [hk3, Nat.sub_self] at hb ⊢
            simpa using hb
      · rw [List.getElem?_append_right (by omega)] at ha hb
        obtain ⟨y, hy, i, h1, h2⟩ := ih hu h (k - q.length) a b ha (by rw [← hb]; congr 1; omega)
        exact ⟨y, List.mem_cons_of_mem _ hy, i, h1, h2⟩
theorem leg_used (hg : gvB (n : Int) ls = true) {y : Lb × List Int} {u : Int} (hu : 0 ≤ u ∧ u < (n : Int)) (hy : y.2 = legP (n : Int) ls u y.1) (hne : y.2 ≠ []) {i : Nat} {a b : Int} (ha : y.2[i]? = some a) (hb : y.2[i + 1]? = some b) :
    legX (n : Int) ls (linkI (n : Int) ls a b) y = true := by
  rw [hy] at hne ha hb
  obtain ⟨z, _, hz, h0, hw, _, _, h7⟩ := leg_fact hg hu hne
  have hhd : y.2.headD 0 = u := by
    rw [hy]
    cases hp : legP (n : Int) ls u y.1 with
    | nil => exact absurd hp hne
    | cons v r => rw [hp] at h0; simpa using h0
  unfold legX
  rcases leg_kind hne with hk | hk
  · rw [if_pos hk, hhd]
    obtain ⟨rfl, _, hp⟩ := h7 hk
    obtain ⟨j, l, e1, e2, e3, e4, e5, e6, e7⟩ := hp.link hg hz ha hb
    obtain ⟨u1, u2, u3, u4⟩ := hp.used hg hz ha
    obtain ⟨v1, v2, v3, v4⟩ := hp.used hg hz hb
    rw [e1, used_at (vwB_of hg hu hz) e2]
    unfold usedL
    have hsy := bf_symm (gvB_fit hg).1 hu hz
    simp only [Bool.and_eq_true, Bool.or_eq_true, decide_eq_true_eq]
    rcases Int.le_total a b with hab | hab
    · rw [show l.a = a by omega, show l.b = b by omega]
      omega
    · rw [show l.a = b by omega, show l.b = a by omega]
      omega
  · rw [if_neg (by omega)]
    obtain ⟨j, x, hj, hx, ht, e⟩ := leg_link hk hne
    rw [e] at ha hb
    have hi : i = 0 := by
      have := (List.getElem?_eq_some_iff.1 hb).1
      simp at this
      omega
    subst hi
    simp at ha hb
    subst ha; subst hb
    obtain ⟨_, _, hee, _⟩ := link_adj hx ht
    have hb := gvB_at hg hx
    have he : endsB x u (acrossI x u) := by
      unfold endsB acrossI
      unfold touchB at ht
      simp only [Bool.or_eq_true, decide_eq_true_eq] at ht
      split <;> omega
    rw [ends_link hg hx he, hj]
    simp
end
/-- Each link of a packet's path is crossed. -/
theorem path_crosses {n : Int} {ls : List Lk} {x : Int} {st : List Lb} {k : Nat} {a b : Int} (ha : (pathS n ls x st)[k]? = some a) (hb : (pathS n ls x st)[k + 1]? = some b) : crossS n ls x st (linkI n ls a b) = true := by
  cases hs : (endI n ls x st).isSome with
  | false => rw [pathS_none hs] at ha; simp at ha
  | true =>
    obtain ⟨m, z, rfl, hg, hx, _, he, hi⟩ := endI_inv hs
    unfold pathS at ha hb
    rw [if_pos hs] at ha hb
    obtain ⟨y, hy, i, h1, h2⟩ := pair_leg hg hx he k a b ha hb
    obtain ⟨u, hu, e1, e2⟩ := legsO_mem hg hx y hy
    unfold crossS
    rw [hs, Bool.true_and, List.any_eq_true]
    exact ⟨y, hy, leg_used hg hu e1 e2 h1 h2⟩

/-! ### A unique way -/
section
variable {n : Nat} {ls : List Lk} {s : Int}
theorem used_on (hg : gvB (n : Int) ls = true) {t : Int} (hs : 0 ≤ s ∧ s < (n : Int)) (ht : 0 ≤ t ∧ t < (n : Int)) {k : Nat} {l : Lk} (hl : ls[k]? = some l) (hu : usedL (n : Int) ls s t l = true) (hc : cntL n ls s t = 1) {p : List Int} (hp : IsP n ls t s p) :
    ∃ i a b, p[i]? = some a ∧ p[i + 1]? = some b ∧ endsB l a b := by
  apply Classical.byContradiction
  intro hno
  obtain ⟨m, hm⟩ := er_path hg hl ht hp fun i x y hx hy he => hno ⟨i, x, y, hx, hy, he⟩
  have hv' := er_gv hg k
  obtain ⟨hf, _⟩ := gvB_fit hg
  obtain ⟨hf', _⟩ := gvB_fit hv'
  have h1 := bf_le hf' ht hm.symm
  obtain ⟨m2, hm2⟩ := bf_walk hf' ht h1.1
  have h2 := bf_le hf ht (er_wk hg hl hm2)
  have hd : bf (n : Int) (ls.eraseIdx k) t s = bf (n : Int) ls t s := by omega
  have h3 := er_fewer hg hl hs ht hu hd
  have h4 := (cntL_pos hv' ht _ s hs (Nat.le_refl _)).2 h1.1
  omega
/-- Two nodes in a row of a leg are two in a row of the packet. -/
theorem leg_pair (hg : gvB (n : Int) ls = true) {st : List Lb} {z : Int} : ∀ {s : Int}, 0 ≤ s ∧ s < (n : Int) → endO (n : Int) ls s st = some z → ∀ y ∈ legsO (n : Int) ls s st, ∀ (i : Nat) (a b : Int), y.2[i]? = some a → y.2[i + 1]? = some b →
    ∃ k, (s :: pthO (n : Int) ls s st)[k]? = some a ∧ (s :: pthO (n : Int) ls s st)[k + 1]? = some b := by
  induction st with
  | nil => intro s _ _ y hy; simp [legsO] at hy
  | cons l st ih =>
    intro s hs h y hy i a b ha hb
    simp only [endO] at h
    simp only [pthO, legsO] at hy ⊢
    cases hz : stepO (n : Int) ls s l with
    | none => rw [hz] at h; cases h
    | some u =>
      rw [hz] at h hy
      dsimp only at h hy ⊢
      have hu := stepO_node hg hs hz
      have hne := stepO_leg hz
      obtain ⟨q, hq⟩ := leg_snoc hz
      have hc := leg_cons hg hs hne
      have e : s :: ((legP (n : Int) ls s l).drop 1 ++ pthO (n : Int) ls u st) = q ++ u :: pthO (n : Int) ls u st := by
        rw [← List.cons_append, ← hc, hq]; simp
      rw [e]
      rcases List.mem_cons.1 hy with rfl | hy
      · dsimp only at ha hb
        rw [hq] at ha hb
        have hi := (List.getElem?_eq_some_iff.1 hb).1
        simp at hi
        refine ⟨i, ?_, ?_⟩
        · rw [List.getElem?_append_left (by omega)]
          rwa [List.getElem?_append_left (by omega)] at ha
        · by_cases hk2 : i + 1 < q.length
          · rw [List.getElem?_append_left hk2]
            rwa [List.getElem?_append_left hk2] at hb
          · obtain hk3 : i + 1 = q.length := by omega
            rw [List.getElem?_append_right (by omega)] at hb ⊢
            rw [hk3, Nat.sub_self] at hb ⊢
            simpa using hb
      · obtain ⟨k, h1, h2⟩ := ih hu h y hy i a b ha hb
        refine ⟨q.length + k, ?_, ?_⟩
        · rw [List.getElem?_append_right (by omega)]
          rw [show q.length + k - q.length = k by omega]; exact h1
        · rw [List.getElem?_append_right (by omega)]
          rw [show q.length + k + 1 - q.length = k + 1 by omega]; exact h2
end
theorem unique_on {n : Int} {ls : List Lk} {x : Int} {st : List Lb} (hu : uniqS n ls x st = true) {k : Nat} (hc : crossS n ls x st (k : Int) = true) :
    ∃ i a b, (pathS n ls x st)[i]? = some a ∧ (pathS n ls x st)[i + 1]? = some b ∧ linkI n ls a b = (k : Int) := by
  unfold uniqS at hu
  unfold crossS at hc
  rw [Bool.and_eq_true] at hu hc
  obtain ⟨hs, hu⟩ := hu
  obtain ⟨-, hc⟩ := hc
  obtain ⟨m, z, rfl, hg, hx, _, he, hi⟩ := endI_inv hs
  obtain ⟨y, hy, hyx⟩ := List.any_eq_true.1 hc
  have hyu : legU (m : Int) ls y = false := by
    simp only [Bool.not_eq_true', List.any_eq_false] at hu
    simpa using hu y hy
  obtain ⟨u, hun, e1, e2⟩ := legsO_mem hg hx y hy
  have hpair : ∃ i a b, y.2[i]? = some a ∧ y.2[i + 1]? = some b ∧ linkI (m : Int) ls a b = (k : Int) := by
    have hne := e2
    rw [e1] at hne
    obtain ⟨t, _, ht, h0, hw, _, _, h7⟩ := leg_fact hg hun hne
    have hhd : y.2.headD 0 = u := by
      rw [e1]
      cases hp : legP (m : Int) ls u y.1 with
      | nil => exact absurd hp hne
      | cons v r => rw [hp] at h0; simpa using h0
    unfold legX at hyx
    unfold legU at hyu
    rcases leg_kind hne with hk | hk
    · rw [if_pos hk, hhd] at hyx hyu
      obtain ⟨rfl, hb0, hp⟩ := h7 hk
      have hkl : k < ls.length := by
        apply Classical.byContradiction
        intro h
        rw [used_out (by unfold inB; simp; omega)] at hyx
        cases hyx
      obtain ⟨l, hl⟩ : ∃ l, ls[k]? = some l := ⟨_, List.getElem?_eq_getElem hkl⟩
      rw [used_at (vwB_of hg hun ht) hl] at hyx
      have hcn : cntL m ls u y.1.a = 1 := by
        unfold countI at hyu
        rw [if_pos (vwB_of hg hun ht), Int.toNat_natCast] at hyu
        have := (cntL_pos hg ht _ u hun (Nat.le_refl _)).2 (by rw [bf_symm (gvB_fit hg).1 ht hun]; exact hb0)
        simp at hyu
        omega
      obtain ⟨i, a, b, h1, h2, h3⟩ := used_on hg hun ht hl hyx hcn hp
      exact ⟨i, a, b, by rw [e1]; exact h1, by rw [e1]; exact h2, ends_link hg hl h3⟩
    · rw [if_neg (by omega)] at hyx
      obtain ⟨j, w, hj, hw2, ht2, e⟩ := leg_link hk hne
      have hjk : j = k := by
        simp at hyx
        omega
      subst hjk
      refine ⟨0, u, acrossI w u, by rw [e1, e]; rfl, by rw [e1, e]; rfl, ends_link hg hw2 ?_⟩
      unfold endsB acrossI
      unfold touchB at ht2
      simp only [Bool.or_eq_true, decide_eq_true_eq] at ht2
      have := gvB_at hg hw2
      split <;> omega
  obtain ⟨i, a, b, h1, h2, h3⟩ := hpair
  obtain ⟨q, h4, h5⟩ := leg_pair hg hx he y hy i a b h1 h2
  refine ⟨q, a, b, ?_, ?_, h3⟩
  · unfold pathS; rw [if_pos hs]; exact h4
  · unfold pathS; rw [if_pos hs]; exact h5

/-! ### Parts of a stack -/
theorem end_parts {n : Int} {ls : List Lk} {x z : Int} {st : List Lb} (h : endI n ls x st = some z) (k : Nat) : ∃ a, endI n ls x (st.take k) = some a ∧ endI n ls a (st.drop k) = some z := by
  obtain ⟨m, z', rfl, hg, hx, h8, he, hi⟩ := endI_inv (by rw [h]; rfl)
  rw [hi] at h; cases h
  obtain ⟨a, ha⟩ := endO_upto he k
  have h2 := endO_append (m : Int) ls x (st.take k) (st.drop k)
  rw [List.take_append_drop, he, ha] at h2
  have han := endO_node hg hx ha
  refine ⟨a, ?_, ?_⟩
  · unfold endI
    rw [if_pos (by unfold stB; rw [vwB_one hg hx]; simp; omega), ha]
  · unfold endI
    rw [if_pos (by unfold stB; rw [vwB_one hg han]; simp; omega)]
    exact h2.symm

/-! ### The cost of a way -/
theorem way_wk {n : Nat} {ls : List Lk} (hg : gvB (n : Int) ls = true) : ∀ {r : List Int} {a z : Int}, Way ls (a :: r) → (a :: r).getLast? = some z → ∃ k, Wk ls a z (along (n : Int) ls (a :: r)) k := by
  intro r
  induction r with
  | nil =>
    intro a z _ hz
    simp at hz
    subst hz
    exact ⟨0, by simp only [along]; exact .nil⟩
  | cons b r ih =>
    intro a z hw hz
    obtain ⟨k, hk⟩ := ih hw.tail (by simpa using hz)
    obtain ⟨e, ha⟩ := hw 0 a b rfl rfl
    have h1 := (Wk.one ha).trans hk
    refine ⟨1 + k, ?_⟩
    simp only [along]
    rw [lcost_eq hg ha]
    exact h1
theorem cost_least {n : Int} {ls : List Lk} {x z : Int} {st : List Lb} (h : endI n ls x st = some z) : ∃ (m q : Nat), n = (m : Int) ∧ z = (q : Int) ∧ q < m ∧ gvB (m : Int) ls = true ∧ (0 ≤ x ∧ x < (m : Int)) ∧ bf (m : Int) ls x (q : Int) ≤ costS (m : Int) ls x st ∧ costS (m : Int) ls x [⟨1, z⟩] = bf (m : Int) ls x (q : Int) ∧ 0 ≤ costS (m : Int) ls x st := by
  obtain ⟨m, z', rfl, hg, hx, h8, he, hi⟩ := endI_inv (by rw [h]; rfl)
  rw [hi] at h; cases h
  have hz := endO_node hg hx he
  obtain ⟨q, rfl⟩ : ∃ q : Nat, z = (q : Int) := ⟨z.toNat, by omega⟩
  have hs : (endI (m : Int) ls x st).isSome = true := by rw [hi]; rfl
  have hlast : (pathS (m : Int) ls x st).getLast? = some (q : Int) := by rw [List.getLast?_eq_getElem?]; exact (pathS_end hi).1
  have hp : pathS (m : Int) ls x st = x :: pthO (m : Int) ls x st := by unfold pathS; rw [if_pos hs]
  obtain ⟨k, hk⟩ := way_wk hg (r := pthO (m : Int) ls x st) (a := x) (z := (q : Int)) (by rw [← hp]; exact pathS_way) (by rw [← hp]; exact hlast)
  have hle := bf_le (gvB_fit hg).1 hx hk
  have hst : stepO (m : Int) ls x ⟨1, (q : Int)⟩ = some (q : Int) := by rw [stepO_node1 hg hx, if_pos ⟨hz, hle.1⟩]
  have he1 : endO (m : Int) ls x [⟨1, (q : Int)⟩] = some (q : Int) := by rw [endO_one]; exact hst
  have hi1 : endI (m : Int) ls x [⟨1, (q : Int)⟩] = some (q : Int) := by
    unfold endI
    rw [if_pos (by unfold stB; rw [vwB_one hg hx]; simp), he1]
  refine ⟨m, q, rfl, rfl, by omega, hg, hx, ?_, ?_, (cost_sign _ _ _ _).1 hs⟩
  · rw [costS_some hs, hp]
    exact hle.2
  · unfold costS
    rw [hi1, Option.isSome_some, if_pos rfl, along_legs hg hx he1]
    simp only [legsC, hst]
    unfold legC
    dsimp only
    rw [if_neg (by decide)]
    omega

/-! ### Labels of links -/
def labs (n : Int) (ls : List Lk) (xs : List Int) (m : Nat) : List Lb := (List.range m).map fun i => ⟨2, linkI n ls ((xs[i]?).getD 0) ((xs[i + 1]?).getD 0)⟩
theorem labs_len (n : Int) (ls : List Lk) (xs : List Int) (m : Nat) : (labs n ls xs m).length = m := by simp [labs]
theorem labs_succ {n : Int} {ls : List Lk} {xs : List Int} {m : Nat} {a b : Int} (ha : xs[m]? = some a) (hb : xs[m + 1]? = some b) : labs n ls xs (m + 1) = labs n ls xs m ++ [⟨2, linkI n ls a b⟩] := by
  unfold labs
  rw [List.range_succ, List.map_append]
  simp [ha, hb]
theorem labs_end {n : Nat} {ls : List Lk} (hg : gvB (n : Int) ls = true) {xs : List Int} (hw : Way ls xs) {x : Int} (h0 : xs[0]? = some x) : ∀ m, m < xs.length → endO (n : Int) ls x (labs (n : Int) ls xs m) = xs[m]? := by
  intro m
  induction m with
  | zero => intro _; rw [h0]; rfl
  | succ m ih =>
    intro hm
    obtain ⟨a, ha⟩ : ∃ a, xs[m]? = some a := ⟨_, List.getElem?_eq_getElem (by omega)⟩
    obtain ⟨b, hb⟩ : ∃ b, xs[m + 1]? = some b := ⟨_, List.getElem?_eq_getElem hm⟩
    have h1 := ih (by omega)
    rw [labs_succ ha hb, endO_append, h1, ha]
    show endO (n : Int) ls a [⟨2, linkI (n : Int) ls a b⟩] = xs[m + 1]?
    obtain ⟨e, hadj⟩ := hw m a b ha hb
    obtain ⟨j, l, e1, e2, _⟩ := way_link hg ⟨e, hadj⟩
    have he := adj_link hg hadj e1 e2
    rw [endO_one, e1, stepO_link2 e2, hb]
    have := gvB_at hg e2
    unfold endsB at he
    by_cases h : l.a = a
    · rw [if_pos h]; congr 1; omega
    · rw [if_neg h, if_pos (by omega)]; congr 1; omega
theorem legsO_sub {n : Int} {ls : List Lk} {st : List Lb} : ∀ {s : Int}, ∀ y ∈ legsO n ls s st, y.1 ∈ st := by
  induction st with
  | nil => intro s y hy; simp [legsO] at hy
  | cons l st ih =>
    intro s y hy
    simp only [legsO] at hy
    cases hz : stepO n ls s l with
    | none => rw [hz] at hy; simp at hy
    | some u =>
      rw [hz] at hy
      rcases List.mem_cons.1 hy with rfl | hy
      · exact List.mem_cons_self
      · exact List.mem_cons_of_mem _ (ih y hy)
theorem labs_unique {n : Nat} {ls : List Lk} (hg : gvB (n : Int) ls = true) {xs : List Int} (hw : Way ls xs) {x : Int} (hx : 0 ≤ x ∧ x < (n : Int)) (h0 : xs[0]? = some x) {m : Nat} (hm : m < xs.length) (h8 : m ≤ 8) : uniqS (n : Int) ls x (labs (n : Int) ls xs m) = true := by
  have he := labs_end hg hw h0 m hm
  unfold uniqS endI
  rw [if_pos (by unfold stB; rw [vwB_one hg hx, labs_len]; simp [h8]), he, List.getElem?_eq_getElem hm]
  simp only [Option.isSome_some, Bool.true_and, Bool.not_eq_true', List.any_eq_false]
  intro y hy
  have h1 := legsO_sub y hy
  have h2 : y.1.k = 2 := by
    unfold labs at h1
    obtain ⟨i, _, e⟩ := List.mem_map.1 h1
    rw [← e]
  unfold legU
  rw [if_neg (by omega)]
  simp

end Go.Proofs.Ytkcnbgimdiggoab

/-
  Plain facts: the way back of a packet, and packets that have no choice.
-/
namespace Go.Proofs.Ytkcnbgimdiggoab

/-! ### The way back -/
/-- The labels for the way back. -/
def rev (s : Int) : List Lb → List Lb
  | [] => []
  | l :: st => match st with
    | [] => [⟨1, s⟩]
    | _ :: _ => rev l.a st ++ [⟨1, s⟩]
theorem rev_eq : ∀ (st : List Lb) (s : Int), st ≠ [] → (∀ l ∈ st, l.k = 1) → rev s st = st.dropLast.reverse ++ [⟨1, s⟩] := by
  intro st
  induction st with
  | nil => intro s h; exact absurd rfl h
  | cons l st ih =>
    intro s _ hk
    cases st with
    | nil => rfl
    | cons l2 st2 =>
      have h1 := ih l.a (by simp) (fun y hy => hk y (List.mem_cons_of_mem _ hy))
      have hl : l = ⟨1, l.a⟩ := by
        obtain ⟨k, a⟩ := l
        have := hk ⟨k, a⟩ List.mem_cons_self
        dsimp only at this
        rw [this]
      show rev l.a (l2 :: st2) ++ [⟨1, s⟩] = _
      have h2 : (l :: l2 :: st2).dropLast = l :: (l2 :: st2).dropLast := rfl
      rw [h1, h2, List.reverse_cons, ← hl]
theorem step_back {n : Nat} {ls : List Lk} (hg : gvB (n : Int) ls = true) {s z : Int} (hs : 0 ≤ s ∧ s < (n : Int)) {l : Lb} (hk : l.k = 1) (h : stepO (n : Int) ls s l = some z) : z = l.a ∧ (0 ≤ z ∧ z < (n : Int)) ∧ stepO (n : Int) ls z ⟨1, s⟩ = some s ∧ legC (n : Int) ls z s ⟨1, s⟩ = legC (n : Int) ls s z l := by
  obtain ⟨z', h1, h2, _, _, _, _, h7⟩ := leg_fact hg hs (stepO_leg h)
  rw [h1] at h; cases h
  obtain ⟨he, h0, _⟩ := h7 hk
  have hf := (gvB_fit hg).1
  refine ⟨he, h2, ?_, ?_⟩
  · rw [stepO_node1 hg h2, if_pos ⟨hs, by rw [bf_symm hf h2 hs]; exact h0⟩]
  · unfold legC
    dsimp only
    rw [if_neg (by decide), if_neg (by omega), bf_symm hf h2 hs]
theorem rev_facts {n : Nat} {ls : List Lk} (hg : gvB (n : Int) ls = true) : ∀ (st : List Lb) {s z : Int}, 0 ≤ s ∧ s < (n : Int) → st ≠ [] → (∀ l ∈ st, l.k = 1) → endO (n : Int) ls s st = some z → endO (n : Int) ls z (rev s st) = some s ∧ legsC (n : Int) ls z (rev s st) = legsC (n : Int) ls s st := by
  intro st
  induction st with
  | nil => intro s z _ h; exact absurd rfl h
  | cons l st ih =>
    intro s z hs _ hk he
    simp only [endO] at he
    cases hz : stepO (n : Int) ls s l with
    | none => rw [hz] at he; cases he
    | some u =>
      rw [hz] at he
      dsimp only at he
      obtain ⟨hua, hu, hb1, hb2⟩ := step_back hg hs (hk l List.mem_cons_self) hz
      cases st with
      | nil =>
        simp only [endO, Option.some.injEq] at he
        subst he
        have h1 : rev s [l] = [⟨1, s⟩] := rfl
        rw [h1, endO_one]
        refine ⟨hb1, ?_⟩
        simp only [legsC, hz, hb1]
        omega
      | cons l2 st2 =>
        obtain ⟨h1, h2⟩ := ih hu (by simp) (fun y hy => hk y (List.mem_cons_of_mem _ hy)) he
        have h3 : rev s (l :: l2 :: st2) = rev u (l2 :: st2) ++ [⟨1, s⟩] := by rw [hua]; rfl
        rw [h3]
        constructor
        · rw [endO_append, h1]
          show endO (n : Int) ls u [⟨1, s⟩] = some s
          rw [endO_one]
          exact hb1
        · rw [legsC_append _ h1, h2]
          simp only [legsC, hz, hb1]
          omega
theorem back_facts {n : Int} {ls : List Lk} {x z : Int} {st : List Lb} (h : endI n ls x st = some z) (hne : st ≠ []) (hk : ∀ l ∈ st, l.k = 1) :
    endI n ls z (st.dropLast.reverse ++ [⟨1, x⟩]) = some x ∧ costS n ls z (st.dropLast.reverse ++ [⟨1, x⟩]) = costS n ls x st := by
  obtain ⟨m, z', rfl, hg, hx, h8, he, hi⟩ := endI_inv (by rw [h]; rfl)
  rw [hi] at h; cases h
  have hz := endO_node hg hx he
  obtain ⟨h1, h2⟩ := rev_facts hg st hx hne hk he
  rw [← rev_eq st x hne hk]
  have hl : (rev x st).length ≤ 8 := by
    rw [rev_eq st x hne hk]
    have : 0 < st.length := List.length_pos_iff.2 hne
    simp
    omega
  have h3 : endI (m : Int) ls z (rev x st) = some x := by
    unfold endI
    rw [if_pos (by unfold stB; rw [vwB_one hg hz]; simp [hl]), h1]
  refine ⟨h3, ?_⟩
  unfold costS
  rw [h3, hi, Option.isSome_some, Option.isSome_some, if_pos rfl, if_pos rfl, along_legs hg hz h1, along_legs hg hx he, h2]

/-! ### No choice -/
theorem endI_one {n : Nat} {ls : List Lk} (hg : gvB (n : Int) ls = true) {s : Int} (hs : 0 ≤ s ∧ s < (n : Int)) (l : Lb) : endI (n : Int) ls s [l] = stepO (n : Int) ls s l := by
  unfold endI
  rw [if_pos (by unfold stB; rw [vwB_one hg hs]; simp), endO_one]
theorem endI_invalid {n : Int} {ls : List Lk} {s : Int} (h : vwB n ls [s] = false) (st : List Lb) : endI n ls s st = none := by
  unfold endI
  rw [if_neg (by unfold stB; rw [h]; simp)]
/-- Where no label of a node has more than one path, a packet that arrives has one way. -/
theorem ways_done {n : Nat} {ls : List Lk} (hg : gvB (n : Int) ls = true) {x : Int} (hx : 0 ≤ x ∧ x < (n : Int)) {st : List Lb}
    (hall : ∀ (j : Nat) (u z : Int) (l : Lb), st[j]? = some l → endO (n : Int) ls x (st.take j) = some u → stepO (n : Int) ls u l = some z → l.k = 1 → ¬ 1 < countI (n : Int) ls u z) (hu : uniqS (n : Int) ls x st = false) : endI (n : Int) ls x st = none := by
  cases hi : endI (n : Int) ls x st with
  | none => rfl
  | some z =>
    exfalso
    obtain ⟨m, z', e, _, _, _, he, _⟩ := endI_inv (by rw [hi]; rfl)
    obtain rfl : n = m := by omega
    unfold uniqS at hu
    rw [hi] at hu
    simp only [Option.isSome_some, Bool.true_and, Bool.not_eq_false', List.any_eq_true] at hu
    obtain ⟨y, hy, hyu⟩ := hu
    obtain ⟨j, hj⟩ := List.getElem?_of_mem hy
    have hjl : j < st.length := by
      have := (List.getElem?_eq_some_iff.1 hj).1
      have := legsO_full he
      omega
    obtain ⟨l, hl⟩ : ∃ l, st[j]? = some l := ⟨_, List.getElem?_eq_getElem hjl⟩
    obtain ⟨u, hu⟩ := endO_upto he j
    obtain ⟨v, hv⟩ := endO_upto he (j + 1)
    have hst : stepO (n : Int) ls u l = some v := by rw [← endO_next hu hl]; exact hv
    have hat := legsO_at he hu hl
    rw [hat] at hj
    cases hj
    have hun := endO_node hg hx hu
    have hne := stepO_leg hst
    obtain ⟨v', h1, h2, h0, _, _, _, h7⟩ := leg_fact hg hun hne
    rw [hst] at h1; cases h1
    unfold legU at hyu
    by_cases hk : l.k = 1
    · rw [if_pos hk] at hyu
      have hhd : (legP (n : Int) ls u l).headD 0 = u := by
        cases hp : legP (n : Int) ls u l with
        | nil => exact absurd hp hne
        | cons w r => rw [hp] at h0; simpa using h0
      dsimp only at hyu
      rw [hhd, ← (h7 hk).1] at hyu
      exact hall j u v l hl hu hst hk (by simpa using hyu)
    · rw [if_neg hk] at hyu
      cases hyu

/-! ### The links of a path -/
def onT (n : Int) (ls : List Lk) (xs : List Int) (k : Int) (i : Nat) : Bool := (List.range i).any fun j => decide (linkI n ls ((xs[j]?).getD 0) ((xs[j + 1]?).getD 0) = k)
theorem onT_succ {n : Int} {ls : List Lk} {xs : List Int} {k : Int} {i : Nat} {a b : Int} (ha : xs[i]? = some a) (hb : xs[i + 1]? = some b) : onT n ls xs k (i + 1) = (onT n ls xs k i || decide (linkI n ls a b = k)) := by
  unfold onT
  rw [List.range_succ, List.any_append]
  simp [ha, hb]
theorem onT_all {n : Int} {ls : List Lk} {x : Int} {st : List Lb} (hu : uniqS n ls x st = true) (k : Nat) : crossS n ls x st (k : Int) = onT n ls (pathS n ls x st) (k : Int) ((pathS n ls x st).length - 1) := by
  rw [Bool.eq_iff_iff]
  constructor
  · intro hc
    obtain ⟨i, a, b, h1, h2, h3⟩ := unique_on hu hc
    have hi := (List.getElem?_eq_some_iff.1 h2).1
    unfold onT
    rw [List.any_eq_true]
    exact ⟨i, by simp; omega, by simp [h1, h2, h3]⟩
  · intro h
    unfold onT at h
    rw [List.any_eq_true] at h
    obtain ⟨i, hi, he⟩ := h
    have hi' : i < (pathS n ls x st).length - 1 := by simpa using hi
    obtain ⟨a, ha⟩ : ∃ a, (pathS n ls x st)[i]? = some a := ⟨_, List.getElem?_eq_getElem (by omega)⟩
    obtain ⟨b, hb⟩ : ∃ b, (pathS n ls x st)[i + 1]? = some b := ⟨_, List.getElem?_eq_getElem (by omega)⟩
    have := path_crosses ha hb
    simp only [ha, hb, Option.getD_some, decide_eq_true_eq] at he
    rw [he] at this
    exact this
theorem bk_at (st : List Lb) {j p : Nat} (h : p + j + 2 = st.length) : st.dropLast.reverse[j]? = st[p]? := by
  rw [List.getElem?_reverse (by simp; omega), List.length_dropLast, List.getElem?_dropLast]
  rw [if_pos (by omega)]
  congr 1
  omega

end Go.Proofs.Ytkcnbgimdiggoab
