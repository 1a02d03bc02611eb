/-
  Plain facts: distances after a change of a cost, and the nodes for which they differ.
-/
import Derived.Test.YtjponnfnofpdgaaCf
import Derived.Test.YtjponnfnofpdgaaWl
namespace Go.Proofs.Ytjponnfnofpdgaa

def aftL (n : Int) (ls : List Lk) (s x c : Int) : List Int := if costOk n ls x c = true then distL n (costLs ls x.toNat c) s else []
/-- The places of the first k numbers that differ. -/
def dTo (us bs : List Int) : Nat → List Int
  | 0 => []
  | k + 1 => dTo us bs k ++ (match us[k]?, bs[k]? with
    | some a, some b => if b = a then [] else [(k : Int)]
    | _, _ => [])
def affL (n : Int) (ls : List Lk) (s x c : Int) : List Int := dTo (distL n ls s) (aftL n ls s x c) (aftL n ls s x c).length

theorem dTo_len (us bs : List Int) (k : Nat) : (dTo us bs k).length ≤ k := by
  induction k with
  | zero => simp [dTo]
  | succ k ih =>
    simp only [dTo, List.length_append]
    split
    · split <;> simp <;> omega
    · simp; omega
theorem dTo_hit {us bs : List Int} {k : Nat} {a b : Int} (ha : us[k]? = some a) (hb : bs[k]? = some b) (h : b ≠ a) : dTo us bs (k + 1) = dTo us bs k ++ [(k : Int)] := by simp [dTo, ha, hb, h]
theorem dTo_miss {us bs : List Int} {k : Nat} {a b : Int} (ha : us[k]? = some a) (hb : bs[k]? = some b) (h : b = a) : dTo us bs (k + 1) = dTo us bs k := by simp [dTo, ha, hb, h]
theorem dTo_mem {us bs : List Int} {k : Nat} {x : Int} : x ∈ dTo us bs k ↔ ∃ i : Nat, i < k ∧ x = (i : Int) ∧ ∃ a b, us[i]? = some a ∧ bs[i]? = some b ∧ b ≠ a := by
  induction k with
  | zero => simp [dTo]
  | succ k ih =>
    simp only [dTo, List.mem_append, ih]
    constructor
    · rintro (⟨i, hi, e, h⟩ | h)
      · exact ⟨i, by omega, e, h⟩
      · split at h
        · rename_i a b ha hb
          split at h
          · simp at h
          · rename_i hne
            exact ⟨k, by omega, by simpa using h, a, b, ha, hb, hne⟩
        · simp at h
    · rintro ⟨i, hi, e, a, b, ha, hb, hne⟩
      by_cases hik : i < k
      · exact .inl ⟨i, hik, e, a, b, ha, hb, hne⟩
      · obtain rfl : i = k := by omega
        right
        rw [ha, hb]
        dsimp only
        rw [if_neg hne]
        simpa using e
theorem dTo_asc (us bs : List Int) (k : Nat) : (dTo us bs k).Pairwise (· < ·) := by
  induction k with
  | zero => simp [dTo]
  | succ k ih =>
    simp only [dTo]
    refine List.pairwise_append.2 ⟨ih, ?_, fun a ha b hb => ?_⟩
    · split
      · split <;> simp
      · simp
    · obtain ⟨i, hi, e, _⟩ := dTo_mem.1 ha
      split at hb
      · split at hb
        · simp at hb
        · have : b = (k : Int) := by simpa using hb
          omega
      · simp at hb
theorem affL_asc (n : Int) (ls : List Lk) (s x c : Int) : (affL n ls s x c).Pairwise (· < ·) := dTo_asc _ _ _

theorem costOk_inv {n : Int} {ls : List Lk} {x c : Int} (h : costOk n ls x c = true) : gvB n ls = true ∧ (0 ≤ x ∧ x < (ls.length : Int)) ∧ (1 ≤ c ∧ c ≤ 20) := by
  unfold costOk inB at h
  simp only [Bool.and_eq_true, decide_eq_true_eq] at h
  obtain ⟨⟨h1, h2⟩, h3⟩ := h
  exact ⟨h1, by omega, h3⟩
theorem costOk_of {n : Int} {ls : List Lk} {x c : Int} (h1 : gvB n ls = true) (h2 : 0 ≤ x ∧ x < (ls.length : Int)) (h3 : 1 ≤ c ∧ c ≤ 20) : costOk n ls x c = true := by
  unfold costOk inB
  simp only [Bool.and_eq_true, decide_eq_true_eq]
  exact ⟨⟨h1, by omega⟩, h3⟩
theorem costOk_gv {n : Int} {ls : List Lk} {x c : Int} (h : costOk n ls x c = true) : gvB n (costLs ls x.toNat c) = true := by
  obtain ⟨h1, h2, h3⟩ := costOk_inv h
  exact costLs_gv h1 (List.getElem?_eq_getElem (by omega : x.toNat < ls.length)) h3
theorem distL_none {n : Int} {ls : List Lk} {s : Int} (h : vwB n ls [s] = false) : distL n ls s = [] := by
  unfold distL
  rw [h]; rfl
theorem distL_zero (s : Int) : distL 0 [] s = [] := distL_none (by simp [vwB, gvB, inB])
theorem distL_out {n : Int} {ls : List Lk} {s : Int} (h : ¬ (0 ≤ s ∧ s < n)) : distL n ls s = [] := distL_none (by
  cases e : vwB n ls [s] with
  | false => rfl
  | true => exact absurd (vwB_inv e).2 h)
theorem aftL_len8 (n : Int) (ls : List Lk) (s x c : Int) : (aftL n ls s x c).length ≤ 8 := by
  unfold aftL
  split
  · exact distL_len _ _ _
  · simp
theorem aftL_len (n : Int) (ls : List Lk) (s x c : Int) : (aftL n ls s x c).length ≤ (distL n ls s).length := by
  unfold aftL
  split
  · rename_i h
    by_cases hs : 0 ≤ s ∧ s < n
    · obtain ⟨m, rfl⟩ : ∃ m : Nat, n = (m : Int) := ⟨n.toNat, by omega⟩
      rw [distL_length (costOk_gv h) hs, distL_length (costOk_inv h).1 hs]
      exact Nat.le_refl _
    · rw [distL_out hs, distL_out hs]
      exact Nat.le_refl _
  · simp
theorem affL_len8 (n : Int) (ls : List Lk) (s x c : Int) : (affL n ls s x c).length ≤ 8 := Nat.le_trans (dTo_len _ _ _) (aftL_len8 n ls s x c)

section
variable {n : Nat} {ls : List Lk} {s x c : Int}
theorem aftL_fl (h : costOk (n : Int) ls x c = true) (hs : 0 ≤ s ∧ s < (n : Int)) : aftL (n : Int) ls s x c = fl n (bf (n : Int) (costLs ls x.toNat c) s) := by
  unfold aftL
  rw [if_pos h, distL_fl (vwB_one (costOk_gv h) hs)]
theorem aftL_none (h : ¬ costOk (n : Int) ls x c = true) : aftL (n : Int) ls s x c = [] := by
  unfold aftL
  rw [if_neg h]
theorem aftL_some (h : aftL (n : Int) ls s x c ≠ []) : costOk (n : Int) ls x c = true ∧ 0 ≤ s ∧ s < (n : Int) := by
  by_cases hc : costOk (n : Int) ls x c = true
  · refine ⟨hc, ?_⟩
    unfold aftL at h
    rw [if_pos hc] at h
    exact (vwB_inv (distL_some h)).2
  · exact absurd (aftL_none hc) h
theorem affL_eq (h : costOk (n : Int) ls x c = true) (hs : 0 ≤ s ∧ s < (n : Int)) : affL (n : Int) ls s x c = dTo (fl n (bf (n : Int) ls s)) (fl n (bf (n : Int) (costLs ls x.toNat c) s)) n := by
  unfold affL
  rw [aftL_fl h hs, fl_len, distL_fl (vwB_one (costOk_inv h).1 hs)]
theorem affL_none (h : ¬ (costOk (n : Int) ls x c = true ∧ 0 ≤ s ∧ s < (n : Int))) : affL (n : Int) ls s x c = [] := by
  unfold affL
  have : aftL (n : Int) ls s x c = [] := by
    cases e : aftL (n : Int) ls s x c with
    | nil => rfl
    | cons a us => exact absurd (aftL_some (by rw [e]; simp)) h
  rw [this]
  rfl
theorem affL_mem (h : costOk (n : Int) ls x c = true) (hs : 0 ≤ s ∧ s < (n : Int)) {y : Int} : y ∈ affL (n : Int) ls s x c ↔ (0 ≤ y ∧ y < (n : Int)) ∧ bf (n : Int) (costLs ls x.toNat c) s y ≠ bf (n : Int) ls s y := by
  rw [affL_eq h hs, dTo_mem]
  constructor
  · rintro ⟨i, hi, rfl, a, b, ha, hb, hne⟩
    rw [fl_at hi] at ha hb
    cases ha
    cases hb
    exact ⟨by omega, hne⟩
  · rintro ⟨⟨h0, h1⟩, h2⟩
    exact ⟨y.toNat, by omega, by omega, _, _, fl_at (by omega), fl_at (by omega), by rw [show ((y.toNat : Nat) : Int) = y by omega]; exact h2⟩
/-- The nodes of affected ones: the graph is valid, and so on. -/
theorem affL_ok {y : Int} (h : y ∈ affL (n : Int) ls s x c) : costOk (n : Int) ls x c = true ∧ 0 ≤ s ∧ s < (n : Int) := by
  by_cases hc : costOk (n : Int) ls x c = true ∧ 0 ≤ s ∧ s < (n : Int)
  · exact hc
  · rw [affL_none hc] at h
    simp at h
/-- Both ends of a path are affected. -/
theorem affL_back {t : Int} (hs : 0 ≤ s ∧ s < (n : Int)) (ht : 0 ≤ t ∧ t < (n : Int)) : t ∈ affL (n : Int) ls s x c ↔ s ∈ affL (n : Int) ls t x c := by
  by_cases hc : costOk (n : Int) ls x c = true
  · rw [affL_mem hc hs, affL_mem hc ht, bf_symm (gvB_fit (costOk_gv hc)).1 hs ht, bf_symm (gvB_fit (costOk_inv hc).1).1 hs ht]
    exact ⟨fun h => ⟨hs, h.2⟩, fun h => ⟨ht, h.2⟩⟩
  · rw [affL_none (fun h => hc h.1), affL_none (fun h => hc h.1)]
    simp
/-- The node itself is never affected. -/
theorem affL_self : s ∉ affL (n : Int) ls s x c := fun h => by
  obtain ⟨hc, hs⟩ := affL_ok h
  have := ((affL_mem hc hs).1 h).2
  rw [bf_self (gvB_fit (costOk_gv hc)).1 hs, bf_self (gvB_fit (costOk_inv hc).1).1 hs] at this
  exact this rfl
/-- The same cost affects nobody. -/
theorem affL_same {k : Nat} {l : Lk} (h : ls[k]? = some l) : affL (n : Int) ls s (k : Int) l.c = [] := by
  cases e : affL (n : Int) ls s (k : Int) l.c with
  | nil => rfl
  | cons a us =>
    have hm : a ∈ affL (n : Int) ls s (k : Int) l.c := by rw [e]; simp
    obtain ⟨hc, hs⟩ := affL_ok hm
    have := ((affL_mem hc hs).1 hm).2
    rw [Int.toNat_natCast, costLs_same h] at this
    exact absurd rfl this
end

section
variable {n : Nat} {ls : List Lk} {k : Nat} {l : Lk}
/-- A walk of the changed graph is one without the link, or there is a cheaper one of the graph. -/
theorem costLs_er (hv : gvB (n : Int) ls = true) (h : ls[k]? = some l) {c : Int} (hc : l.c < c) (hc20 : c ≤ 20) {s v d : Int} {m : Nat} (hw : Wk (costLs ls k c) s v d m) : Wk (ls.eraseIdx k) s v d m ∨ ∃ d', Wk ls s v d' m ∧ d' < d := by
  have hlr := gvB_at hv h
  have hv' := costLs_gv hv h (c := c) (by omega)
  induction hw with
  | nil => exact .inl .nil
  | snoc hwk ha ih =>
    rename_i u v' d e m
    by_cases he : endsB l u v'
    · have hl : Adj ls u v' l.c := ⟨l, List.mem_of_getElem? h, he, rfl⟩
      have hec : e = c := by
        rcases costLs_adj' hv h c hl with ⟨_, _, h3⟩ | ⟨h3, _⟩
        · exact adj_uniq hv' ha h3
        · exact absurd he h3
      subst hec
      right
      rcases ih with hi | ⟨d', hi, hlt⟩
      · exact ⟨_, (er_wk hv h hi).snoc hl, by omega⟩
      · exact ⟨_, hi.snoc hl, by omega⟩
    · have ha' : Adj ls u v' e := by
        rcases costLs_adj h ha with h1 | ⟨_, h2⟩
        · exact h1
        · exact absurd h2 he
      rcases ih with hi | ⟨d', hi, hlt⟩
      · exact .inl (hi.snoc ((er_adj hv h).2 ⟨ha', he⟩))
      · exact .inr ⟨_, hi.snoc ha', by omega⟩
theorem er_costLs (hv : gvB (n : Int) ls = true) (h : ls[k]? = some l) (c : Int) {s v d : Int} {m : Nat} (hw : Wk (ls.eraseIdx k) s v d m) : Wk (costLs ls k c) s v d m := by
  induction hw with
  | nil => exact .nil
  | snoc _ ha ih =>
    obtain ⟨h1, h2⟩ := (er_adj hv h).1 ha
    rcases costLs_adj' hv h c h1 with ⟨h3, _⟩ | ⟨_, h3⟩
    · exact absurd h3 h2
    · exact ih.snoc h3
/-- A greater cost affects only nodes that use the link. -/
theorem aff_used (hv : gvB (n : Int) ls = true) (h : ls[k]? = some l) {c : Int} (hc : l.c < c) (hc20 : c ≤ 20) {s y : Int} (hs : 0 ≤ s ∧ s < (n : Int)) (hy : y ∈ affL (n : Int) ls s (k : Int) c) : usedL (n : Int) ls s y l = true := by
  have hlr := gvB_at hv h
  have hv' := costLs_gv hv h (c := c) (by omega)
  have hkl := (List.getElem?_eq_some_iff.1 h).1
  obtain ⟨hyr, hne⟩ := (affL_mem (costOk_of hv ⟨by omega, by omega⟩ ⟨by omega, hc20⟩) hs).1 hy
  rw [Int.toNat_natCast] at hne
  have hf := (gvB_fit hv).1
  have hf' := (gvB_fit hv').1
  cases hu : usedL (n : Int) ls s y l with
  | true => rfl
  | false =>
    exfalso
    apply hne
    have hfe := (gvB_fit (er_gv hv k)).1
    have he := er_bf hv h hyr hs hu
    rw [bf_symm hfe hyr hs, bf_symm hf hyr hs] at he
    have hd := (cost_dist hv h (c := c) (by omega) hs y).1 (by omega)
    rcases bf_sg hf hs y with h0 | h0
    · obtain ⟨m, hm⟩ := bf_walk hfe hs (v := y) (by omega)
      have := bf_le hf' hs (er_costLs hv h c hm)
      omega
    · rcases bf_sg hf' hs y with h1 | h1
      · obtain ⟨m, hm⟩ := bf_walk hf' hs h1
        rcases costLs_er hv h hc hc20 hm with hw | ⟨d', hw, _⟩
        · have := bf_le hf hs (er_wk hv h hw)
          omega
        · have := bf_le hf hs hw
          omega
      · omega
/-- Where there is no other shortest path all that use the link are affected. -/
theorem used_aff (hv : gvB (n : Int) ls = true) (h : ls[k]? = some l) {c : Int} (hc : l.c < c) (hc20 : c ≤ 20) {s y : Int} (hs : 0 ≤ s ∧ s < (n : Int)) (hyr : 0 ≤ y ∧ y < (n : Int)) (hu : usedL (n : Int) ls s y l = true) (h1 : cntL n ls s y = 1) : y ∈ affL (n : Int) ls s (k : Int) c := by
  have hlr := gvB_at hv h
  have hv' := costLs_gv hv h (c := c) (by omega)
  have hkl := (List.getElem?_eq_some_iff.1 h).1
  refine (affL_mem (costOk_of hv ⟨by omega, by omega⟩ ⟨by omega, hc20⟩) hs).2 ⟨hyr, ?_⟩
  rw [Int.toNat_natCast]
  intro he
  have hf := (gvB_fit hv).1
  have hf' := (gvB_fit hv').1
  have hve := er_gv hv k
  have hfe := (gvB_fit hve).1
  have h0 : 0 ≤ bf (n : Int) ls s y := by
    unfold usedL at hu
    simp only [Bool.and_eq_true, decide_eq_true_eq] at hu
    exact hu.1.1
  obtain ⟨m, hm⟩ := bf_walk hf' hs (v := y) (by omega)
  rw [he] at hm
  rcases costLs_er hv h hc hc20 hm with hw | ⟨d', hw, hlt⟩
  · have b1 := bf_le hfe hs hw
    obtain ⟨m2, hm2⟩ := bf_walk hfe hs b1.1
    have b2 := bf_le hf hs (er_wk hv h hm2)
    have hb : bf (n : Int) (ls.eraseIdx k) y s = bf (n : Int) ls y s := by rw [bf_symm hfe hyr hs, bf_symm hf hyr hs]; omega
    have hlt := er_fewer hv h hs hyr hu hb
    have hp := (cntL_pos hve hyr _ s hs (Nat.le_refl _)).2 (by rw [bf_symm hfe hyr hs]; exact b1.1)
    omega
  · have := bf_le hf hs hw
    omega
end
end Go.Proofs.Ytjponnfnofpdgaa
