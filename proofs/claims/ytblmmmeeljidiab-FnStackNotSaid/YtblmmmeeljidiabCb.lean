/-
  Plain facts: there are as many shortest paths back.
-/
import Derived.Test.YtblmmmeeljidiabUf
namespace Go.Proofs.Ytblmmmeeljidiab

/-- A sum over all nodes. -/
def sN (n : Nat) (f : Nat → Nat) : Nat := ((List.range n).map f).sum
theorem sN_succ (n : Nat) (f : Nat → Nat) : sN (n + 1) f = sN n f + f n := by unfold sN; simp [List.range_succ]
theorem sN_congr {n : Nat} {f g : Nat → Nat} (h : ∀ i, i < n → f i = g i) : sN n f = sN n g := by
  induction n with
  | zero => rfl
  | succ n ih => rw [sN_succ, sN_succ, ih fun i hi => h i (by omega), h n (by omega)]
theorem sN_add (n : Nat) (f g : Nat → Nat) : sN n (fun i => f i + g i) = sN n f + sN n g := by
  induction n with
  | zero => rfl
  | succ n ih => rw [sN_succ, sN_succ, sN_succ, ih]; omega
theorem sN_zero (n : Nat) : sN n (fun _ => 0) = 0 := by
  induction n with
  | zero => rfl
  | succ n ih => rw [sN_succ, ih]
theorem sN_swap (n m : Nat) (f : Nat → Nat → Nat) : sN n (fun i => sN m (fun j => f i j)) = sN m (fun j => sN n (fun i => f i j)) := by
  induction n with
  | zero => show 0 = sN m (fun _ => 0); rw [sN_zero]
  | succ n ih => rw [sN_succ, ih, ← sN_add]; exact sN_congr fun j _ => (sN_succ n (fun i => f i j)).symm
theorem sN_one {n : Nat} {f : Nat → Nat} {k : Nat} (hk : k < n) (h : ∀ i, i < n → i ≠ k → f i = 0) : sN n f = f k := by
  induction n with
  | zero => omega
  | succ n ih =>
    rw [sN_succ]
    by_cases hkn : k = n
    · subst hkn
      rw [sN_congr (g := fun _ => 0) fun i hi => h i (by omega) (by omega), sN_zero]
      omega
    · rw [ih (by omega) fun i hi hne => h i (by omega) hne, h n (by omega) (by omega)]
      omega
theorem sN_none {n : Nat} {f : Nat → Nat} (h : ∀ i, i < n → f i = 0) : sN n f = 0 := by
  rw [sN_congr (g := fun _ => 0) h, sN_zero]

section
variable (n : Nat) (a : Nat → Nat → Nat)
/-- How many walks of this cost lead from u to v; a: the cost of a link, 0 where there is none. -/
def wn : Nat → Nat → Nat → Nat → Nat
  | 0, _, _, _ => 0
  | k + 1, c, u, v => (if c = 0 ∧ u = v then 1 else 0) + sN n (fun z => if 0 < a u z ∧ a u z ≤ c then wn k (c - a u z) z v else 0)
def wr' : Nat → Nat → Nat → Nat → Nat
  | 0, _, _, _ => 0
  | k + 1, c, u, v => (if c = 0 ∧ u = v then 1 else 0) + sN n (fun y => if 0 < a y v ∧ a y v ≤ c then wr' k (c - a y v) u y else 0)
variable {n a}
theorem wn_more : ∀ (k m c u v : Nat), c < k → k ≤ m → wn n a m c u v = wn n a k c u v := by
  intro k
  induction k with
  | zero => intro m c u v h; omega
  | succ k ih =>
    intro m c u v h hm
    obtain ⟨m, rfl⟩ : ∃ q, m = q + 1 := ⟨m - 1, by omega⟩
    simp only [wn]
    congr 1
    refine sN_congr fun z _ => ?_
    by_cases hz : 0 < a u z ∧ a u z ≤ c
    · rw [if_pos hz, if_pos hz, ih m _ z v (by omega) (by omega)]
    · rw [if_neg hz, if_neg hz]
theorem wr_more : ∀ (k m c u v : Nat), c < k → k ≤ m → wr' n a m c u v = wr' n a k c u v := by
  intro k
  induction k with
  | zero => intro m c u v h; omega
  | succ k ih =>
    intro m c u v h hm
    obtain ⟨m, rfl⟩ : ∃ q, m = q + 1 := ⟨m - 1, by omega⟩
    simp only [wr']
    congr 1
    refine sN_congr fun z _ => ?_
    by_cases hz : 0 < a z v ∧ a z v ≤ c
    · rw [if_pos hz, if_pos hz, ih m _ u z (by omega) (by omega)]
    · rw [if_neg hz, if_neg hz]
theorem wn_wr : ∀ (k c u v : Nat), c < k → u < n → v < n → wn n a k c u v = wr' n a k c u v := by
  intro k
  induction k using Nat.strongRecOn with
  | _ k ih =>
  intro c u v hc hu hv
  obtain ⟨k, rfl⟩ : ∃ q, k = q + 1 := ⟨k - 1, by omega⟩
  -- the first step on the left, the last one on the right
  have hl : sN n (fun z => if 0 < a u z ∧ a u z ≤ c then wn n a k (c - a u z) z v else 0) =
      sN n (fun z => if 0 < a u z ∧ a u z ≤ c then (if c - a u z = 0 ∧ z = v then 1 else 0) + sN n (fun y => if 0 < a y v ∧ a y v ≤ c - a u z then wr' n a (k - 1) (c - a u z - a y v) z y else 0) else 0) := by
    refine sN_congr fun z hz => ?_
    by_cases h : 0 < a u z ∧ a u z ≤ c
    · rw [if_pos h, if_pos h, ih k (by omega) _ z v (by omega) hz hv]
      obtain ⟨k', rfl⟩ : ∃ q, k = q + 1 := ⟨k - 1, by omega⟩
      simp only [wr', Nat.add_sub_cancel]
    · rw [if_neg h, if_neg h]
  have hr : sN n (fun y => if 0 < a y v ∧ a y v ≤ c then wr' n a k (c - a y v) u y else 0) =
      sN n (fun y => if 0 < a y v ∧ a y v ≤ c then (if c - a y v = 0 ∧ u = y then 1 else 0) + sN n (fun z => if 0 < a u z ∧ a u z ≤ c - a y v then wn n a (k - 1) (c - a y v - a u z) z y else 0) else 0) := by
    refine sN_congr fun y hy => ?_
    by_cases h : 0 < a y v ∧ a y v ≤ c
    · rw [if_pos h, if_pos h, ← ih k (by omega) _ u y (by omega) hu hy]
      obtain ⟨k', rfl⟩ : ∃ q, k = q + 1 := ⟨k - 1, by omega⟩
      simp only [wn, Nat.add_sub_cancel]
    · rw [if_neg h, if_neg h]
  simp only [wn, wr']
  rw [hl, hr]
  congr 1
  -- both sums, parted
  have pl : sN n (fun z => if 0 < a u z ∧ a u z ≤ c then (if c - a u z = 0 ∧ z = v then 1 else 0) + sN n (fun y => if 0 < a y v ∧ a y v ≤ c - a u z then wr' n a (k - 1) (c - a u z - a y v) z y else 0) else 0) =
      sN n (fun z => if 0 < a u z ∧ a u z = c ∧ z = v then 1 else 0) + sN n (fun z => sN n (fun y => if 0 < a u z ∧ 0 < a y v ∧ a u z + a y v ≤ c then wr' n a (k - 1) (c - a u z - a y v) z y else 0)) := by
    rw [← sN_add]
    refine sN_congr fun z _ => ?_
    by_cases h : 0 < a u z ∧ a u z ≤ c
    · rw [if_pos h]
      congr 1
      · by_cases h2 : c - a u z = 0 ∧ z = v
        · rw [if_pos h2, if_pos ⟨h.1, by omega, h2.2⟩]
        · rw [if_neg h2, if_neg (fun h3 => h2 ⟨by omega, h3.2.2⟩)]
      · refine sN_congr fun y _ => ?_
        by_cases h2 : 0 < a y v ∧ a y v ≤ c - a u z
        · rw [if_pos h2, if_pos ⟨h.1, h2.1, by omega⟩]
        · rw [if_neg h2, if_neg (fun h3 => h2 ⟨h3.2.1, by omega⟩)]
    · rw [if_neg h, if_neg (fun h3 => h ⟨h3.1, by omega⟩), sN_none fun y _ => if_neg (fun h3 => h ⟨h3.1, by omega⟩)]
  have pr : sN n (fun y => if 0 < a y v ∧ a y v ≤ c then (if c - a y v = 0 ∧ u = y then 1 else 0) + sN n (fun z => if 0 < a u z ∧ a u z ≤ c - a y v then wn n a (k - 1) (c - a y v - a u z) z y else 0) else 0) =
      sN n (fun y => if 0 < a y v ∧ a y v = c ∧ u = y then 1 else 0) + sN n (fun y => sN n (fun z => if 0 < a u z ∧ 0 < a y v ∧ a u z + a y v ≤ c then wn n a (k - 1) (c - a y v - a u z) z y else 0)) := by
    rw [← sN_add]
    refine sN_congr fun y _ => ?_
    by_cases h : 0 < a y v ∧ a y v ≤ c
    · rw [if_pos h]
      congr 1
      · by_cases h2 : c - a y v = 0 ∧ u = y
        · rw [if_pos h2, if_pos ⟨h.1, by omega, h2.2⟩]
        · rw [if_neg h2, if_neg (fun h3 => h2 ⟨by omega, h3.2.2⟩)]
      · refine sN_congr fun z _ => ?_
        by_cases h2 : 0 < a u z ∧ a u z ≤ c - a y v
        · rw [if_pos h2, if_pos ⟨h2.1, h.1, by omega⟩]
        · rw [if_neg h2, if_neg (fun h3 => h2 ⟨h3.1, by omega⟩)]
    · rw [if_neg h, if_neg (fun h3 => h ⟨h3.1, by omega⟩), sN_none fun z _ => if_neg (fun h3 => h ⟨h3.2.1, by omega⟩)]
  rw [pl, pr]
  congr 1
  · rw [sN_one (k := v) hv (fun i _ hne => if_neg (fun h => hne h.2.2)), sN_one (k := u) hu (fun i _ hne => if_neg (fun h => hne h.2.2.symm))]
    by_cases h : 0 < a u v ∧ a u v = c
    · rw [if_pos ⟨h.1, h.2, rfl⟩, if_pos ⟨h.1, h.2, rfl⟩]
    · rw [if_neg (fun h2 => h ⟨h2.1, h2.2.1⟩), if_neg (fun h2 => h ⟨h2.1, h2.2.1⟩)]
  · rw [sN_swap]
    refine sN_congr fun y hy => sN_congr fun z hz => ?_
    by_cases h : 0 < a u z ∧ 0 < a y v ∧ a u z + a y v ≤ c
    · rw [if_pos h, if_pos h, show c - a y v - a u z = c - a u z - a y v by omega]
      have := ih (k - 1) (by omega) (c - a u z - a y v) z y (by omega) hz hy
      exact this.symm
    · rw [if_neg h, if_neg h]
theorem wr_back (ha : ∀ u v, a u v = a v u) : ∀ (k c u v : Nat), wr' n a k c u v = wn n a k c v u := by
  intro k
  induction k with
  | zero => intro c u v; rfl
  | succ k ih =>
    intro c u v
    simp only [wr', wn]
    congr 1
    · by_cases h : c = 0 ∧ u = v
      · rw [if_pos h, if_pos ⟨h.1, h.2.symm⟩]
      · rw [if_neg h, if_neg (fun h2 => h ⟨h2.1, h2.2.symm⟩)]
    · refine sN_congr fun z _ => ?_
      rw [ha z v]
      by_cases h : 0 < a v z ∧ a v z ≤ c
      · rw [if_pos h, if_pos h, ih]
      · rw [if_neg h, if_neg h]
theorem wn_back (ha : ∀ u v, a u v = a v u) {c u v : Nat} (hu : u < n) (hv : v < n) : wn n a (c + 1) c u v = wn n a (c + 1) c v u := by
  rw [wn_wr _ _ _ _ (by omega) hu hv, wr_back ha]
end

/-- The cost of the link between two nodes, 0 where there is none. -/
def lkc (n : Nat) (ls : List Lk) (u z : Nat) : Nat := if (z : Int) ∈ nbI (n : Int) ls (u : Int) then (lcost (n : Int) ls (u : Int) (z : Int)).toNat else 0
section
variable {n : Nat} {ls : List Lk}
theorem lkc_adj (hv : gvB (n : Int) ls = true) {u z : Nat} : 0 < lkc n ls u z ↔ ∃ e, Adj ls (u : Int) (z : Int) e := by
  unfold lkc
  constructor
  · intro h
    split at h
    · rename_i hm
      exact (nbI_adj hv).1 hm
    · omega
  · rintro ⟨e, ha⟩
    rw [if_pos ((nbI_adj hv).2 ⟨e, ha⟩), lcost_eq hv ha]
    have := (gvB_fit hv).1.adj ha
    omega
theorem lkc_eq (hv : gvB (n : Int) ls = true) {u z : Nat} {e : Int} (ha : Adj ls (u : Int) (z : Int) e) : (lkc n ls u z : Int) = e := by
  unfold lkc
  rw [if_pos ((nbI_adj hv).2 ⟨e, ha⟩), lcost_eq hv ha]
  have := (gvB_fit hv).1.adj ha
  omega
theorem lkc_symm (hv : gvB (n : Int) ls = true) (u z : Nat) : lkc n ls u z = lkc n ls z u := by
  by_cases h : 0 < lkc n ls u z
  · obtain ⟨e, ha⟩ := (lkc_adj hv).1 h
    have h1 := lkc_eq hv ha
    have h2 := lkc_eq hv ha.symm
    omega
  · have h2 : ¬ 0 < lkc n ls z u := fun h2 => by
      obtain ⟨e, ha⟩ := (lkc_adj hv).1 h2
      exact h ((lkc_adj hv).2 ⟨e, ha.symm⟩)
    omega
/-- A walk that is counted is a walk. -/
theorem wn_wk (hv : gvB (n : Int) ls = true) : ∀ (k c u v : Nat), 0 < wn n (lkc n ls) k c u v → ∃ m, Wk ls (u : Int) (v : Int) (c : Int) m := by
  intro k
  induction k with
  | zero => intro c u v h; simp [wn] at h
  | succ k ih =>
    intro c u v h
    simp only [wn] at h
    by_cases h0 : c = 0 ∧ u = v
    · obtain ⟨rfl, rfl⟩ := h0
      exact ⟨0, .nil⟩
    · rw [if_neg h0, Nat.zero_add] at h
      have : ∃ z, z < n ∧ 0 < lkc n ls u z ∧ lkc n ls u z ≤ c ∧ 0 < wn n (lkc n ls) k (c - lkc n ls u z) z v := by
        apply Classical.byContradiction
        intro hn
        rw [sN_none fun z hz => ?_] at h
        · omega
        · by_cases hq : 0 < lkc n ls u z ∧ lkc n ls u z ≤ c
          · rw [if_pos hq]
            apply Classical.byContradiction
            intro hne
            exact hn ⟨z, hz, hq.1, hq.2, by omega⟩
          · rw [if_neg hq]
      obtain ⟨z, _, h1, h2, h3⟩ := this
      obtain ⟨e, ha⟩ := (lkc_adj hv).1 h1
      have he := lkc_eq hv ha
      obtain ⟨m, hm⟩ := ih _ _ _ h3
      have := (Wk.one ha).trans hm
      rw [show e + ((c - lkc n ls u z : Nat) : Int) = (c : Int) by omega] at this
      exact ⟨_, this⟩
theorem wk_zero {s v c : Int} {k : Nat} (hw : Wk ls s v c k) (hk : k = 0) : v = s := by
  cases hw with
  | nil => rfl
  | snoc _ _ => omega
theorem list_sum_filter {xs : List Int} {p : Int → Bool} {f : Int → Nat} : ((xs.filter p).map f).sum = (xs.map (fun x => if p x = true then f x else 0)).sum := by
  induction xs with
  | nil => rfl
  | cons x xs ih =>
    cases h : p x with
    | true => rw [List.filter_cons_of_pos h]; simp [h, ih]
    | false => rw [List.filter_cons_of_neg (by rw [h]; simp)]; simp [h, ih]
/-- A sum over ascending nodes is one over all nodes. -/
theorem sum_nodes {xs : List Int} (ha : xs.Pairwise (· < ·)) (f : Int → Nat) : ∀ m : Nat, (∀ x ∈ xs, 0 ≤ x ∧ x < (m : Int)) → (xs.map f).sum = sN m (fun z => if (z : Int) ∈ xs then f (z : Int) else 0) := by
  intro m
  induction m generalizing xs with
  | zero =>
    intro h
    cases xs with
    | nil => rfl
    | cons x xs => have := h x (by simp); omega
  | succ m ih =>
    intro h
    rw [sN_succ]
    have hsub : (xs.filter (fun x => decide (x ≠ (m : Int)))).Pairwise (· < ·) := ha.sublist List.filter_sublist
    have h1 := ih hsub fun x hx => by
      have h2 := h x (List.mem_filter.1 hx).1
      have h3 := (List.mem_filter.1 hx).2
      simp at h3
      omega
    have h2 : (xs.map f).sum = ((xs.filter (fun x => decide (x ≠ (m : Int)))).map f).sum + (if (m : Int) ∈ xs then f (m : Int) else 0) := by
      clear ih h1 hsub h
      induction xs with
      | nil => rfl
      | cons x xs ih2 =>
        have hp := List.pairwise_cons.1 ha
        have ih3 := ih2 hp.2
        by_cases hx : x = (m : Int)
        · subst hx
          rw [List.filter_cons_of_neg (by simp)]
          have hno : (m : Int) ∉ xs := fun hm => by have := hp.1 _ hm; omega
          rw [if_neg hno] at ih3
          rw [if_pos (by simp)]
          simp only [List.map_cons, List.sum_cons]
          omega
        · rw [List.filter_cons_of_pos (by simp [hx])]
          simp only [List.map_cons, List.sum_cons]
          by_cases hm : (m : Int) ∈ xs
          · rw [if_pos hm] at ih3
            rw [if_pos (by simp [hm])]
            omega
          · rw [if_neg hm] at ih3
            rw [if_neg (by simp; exact ⟨fun e => hx e.symm, hm⟩)]
            omega
    rw [h2, h1]
    congr 1
    refine sN_congr fun z hz => ?_
    have : ((z : Int) ∈ xs.filter (fun x => decide (x ≠ (m : Int)))) ↔ (z : Int) ∈ xs := by
      rw [List.mem_filter]
      constructor
      · exact fun h => h.1
      · exact fun h => ⟨h, by simp; omega⟩
    by_cases hq : (z : Int) ∈ xs
    · rw [if_pos (this.2 hq), if_pos hq]
    · rw [if_neg (fun h => hq (this.1 h)), if_neg hq]
/-- The shortest paths are the walks of the distance's cost. -/
theorem cntL_wn (hv : gvB (n : Int) ls = true) {t : Nat} (ht : t < n) : ∀ (r s : Nat), s < n → rk n ls (t : Int) (s : Int) ≤ r → 0 ≤ bf (n : Int) ls (t : Int) (s : Int) →
    cntL n ls (s : Int) (t : Int) = wn n (lkc n ls) ((bf (n : Int) ls (t : Int) (s : Int)).toNat + 1) (bf (n : Int) ls (t : Int) (s : Int)).toNat s t := by
  obtain ⟨hf, _⟩ := gvB_fit hv
  have htr : 0 ≤ (t : Int) ∧ (t : Int) < (n : Int) := by omega
  intro r
  induction r using Nat.strongRecOn with
  | _ r ih =>
  intro s hs hr h0
  have hsr : 0 ≤ (s : Int) ∧ (s : Int) < (n : Int) := by omega
  by_cases hst : s = t
  · subst hst
    rw [cntL_self, bf_self hf hsr]
    show 1 = wn n (lkc n ls) 1 0 s s
    simp only [wn]
    rw [if_pos (by simp), sN_none fun z _ => by split <;> rfl]
  · have hsti : (s : Int) ≠ (t : Int) := by omega
    have hvw := vwB_of hv hsr htr
    rw [cntL_step hv htr hsr hsti, sum_nodes (hops_asc _ _ _ _) _ n fun x hx => (hops_node hvw hx).1]
    obtain ⟨d, hd⟩ : ∃ d : Nat, bf (n : Int) ls (t : Int) (s : Int) = (d : Int) := ⟨(bf (n : Int) ls (t : Int) (s : Int)).toNat, by omega⟩
    rw [hd, Int.toNat_natCast]
    have hd0 : d ≠ 0 := fun e => by
      subst e
      obtain ⟨m, hw⟩ := bf_walk hf htr h0
      rw [hd] at hw
      have := hw.le hf
      have hm : m = 0 := by omega
      subst hm
      have := wk_zero hw rfl
      omega
    simp only [wn]
    rw [if_neg (fun h => hd0 h.1), Nat.zero_add]
    refine sN_congr fun z hz => ?_
    have hzr : 0 ≤ (z : Int) ∧ (z : Int) < (n : Int) := by omega
    by_cases hh : (z : Int) ∈ hopsL (n : Int) ls (s : Int) (t : Int)
    · obtain ⟨e, ha, hz0, he⟩ := (hops_mem hvw).1 hh
      have hlk := lkc_eq hv ha
      have hea := hf.adj ha
      have hrk := rk_lt (n := n) (ls := ls) (t := (t : Int)) (s := (s : Int)) hzr hz0 (by omega)
      rw [if_pos hh, if_pos ⟨by omega, by omega⟩, ih (rk n ls (t : Int) (z : Int)) (by omega) z hz (Nat.le_refl _) hz0]
      have e2 : (bf (n : Int) ls (t : Int) (z : Int)).toNat = d - lkc n ls s z := by omega
      rw [e2]
      exact (wn_more _ d _ _ _ (by omega) (by omega)).symm
    · rw [if_neg hh]
      by_cases hq : 0 < lkc n ls s z ∧ lkc n ls s z ≤ d
      · rw [if_pos hq]
        apply Classical.byContradiction
        intro hne
        obtain ⟨m, hw⟩ := wn_wk hv _ _ _ _ (show 0 < wn n (lkc n ls) d (d - lkc n ls s z) z t by omega)
        obtain ⟨e, ha⟩ := (lkc_adj hv).1 hq.1
        have hlk := lkc_eq hv ha
        have hle := bf_le hf htr hw.symm
        have hed := bf_edge hf htr ha.symm hle.1
        exact hh ((hops_mem hvw).2 ⟨e, ha, hle.1, by omega⟩)
      · rw [if_neg hq]
theorem cntL_back (hv : gvB (n : Int) ls = true) {s t : Int} (hs : 0 ≤ s ∧ s < (n : Int)) (ht : 0 ≤ t ∧ t < (n : Int)) : cntL n ls s t = cntL n ls t s := by
  obtain ⟨hf, _⟩ := gvB_fit hv
  have hsy : bf (n : Int) ls t s = bf (n : Int) ls s t := bf_symm hf ht hs
  obtain ⟨s, rfl⟩ : ∃ q : Nat, s = (q : Int) := ⟨s.toNat, by omega⟩
  obtain ⟨t, rfl⟩ : ∃ q : Nat, t = (q : Int) := ⟨t.toNat, by omega⟩
  by_cases h0 : 0 ≤ bf (n : Int) ls (t : Int) (s : Int)
  · rw [cntL_wn hv (by omega) _ s (by omega) (Nat.le_refl _) h0, cntL_wn hv (by omega) _ t (by omega) (Nat.le_refl _) (by omega), hsy]
    exact wn_back (lkc_symm hv) (by omega) (by omega)
  · have h1 := cntL_pos hv ht _ (s : Int) hs (Nat.le_refl _)
    have h2 := cntL_pos hv hs _ (t : Int) ht (Nat.le_refl _)
    omega
end
end Go.Proofs.Ytblmmmeeljidiab
