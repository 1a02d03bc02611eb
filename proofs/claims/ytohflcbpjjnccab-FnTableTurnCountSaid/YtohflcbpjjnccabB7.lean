/-
  Plain facts: neighbours, links between them, and the equation of shortest paths.
-/
import Derived.Test.YtohflcbpjjnccabB6
import Derived.Test.YtohflcbpjjnccabA8
namespace Go.Proofs.Ytohflcbpjjnccab

theorem nbTo_all {n : Int} {ls : List Lk} {k j : Nat} {l : Lk} (hj : j < k) (hl : ls[j]? = some l) (ht : touchB l n = true) : (acrossI l n, j) ∈ nbTo n ls k := by
  induction k with
  | zero => omega
  | succ k ih =>
    simp only [nbTo, List.mem_append]
    by_cases h : j < k
    · exact .inl (ih h)
    · obtain rfl : j = k := by omega
      right
      rw [hl]
      simp [ht]
theorem nbI_adj {n : Int} {ls : List Lk} (hv : gvB n ls = true) {y z : Int} : z ∈ nbI n ls y ↔ ∃ e, Adj ls y z e := by
  unfold nbI
  rw [if_pos hv, List.mem_map]
  constructor
  · rintro ⟨p, hp, rfl⟩
    obtain ⟨j, l, hj, hl, ht, rfl⟩ := nbTo_mem hp
    unfold touchB at ht
    simp only [Bool.or_eq_true, decide_eq_true_eq] at ht
    refine ⟨l.c, l, List.mem_of_getElem? hl, ?_, rfl⟩
    unfold acrossI
    by_cases h : l.a = y
    · exact .inl ⟨h, by simp [h]⟩
    · exact .inr ⟨by omega, by simp [h]⟩
  · rintro ⟨e, l, hl, h, rfl⟩
    obtain ⟨j, hj⟩ := List.getElem?_of_mem hl
    have hlt := (List.getElem?_eq_some_iff.1 hj).1
    have hb := gvB_at hv hj
    refine ⟨_, nbTo_all hlt hj (n := y) ?_, ?_⟩
    · unfold touchB
      simp only [Bool.or_eq_true, decide_eq_true_eq]
      omega
    · unfold acrossI
      dsimp only
      split <;> omega
/-- The link to a neighbour. -/
theorem nbI_link {n : Int} {ls : List Lk} (hv : gvB n ls = true) {y z : Int} (hz : z ∈ nbI n ls y) : ∃ (k : Nat) (l : Lk), linkI n ls y z = k ∧ ls[k]? = some l ∧ Adj ls y z l.c ∧ l.a = min y z ∧ l.b = max y z := by
  obtain ⟨hf, _⟩ := gvB_fit hv
  obtain ⟨e, ha⟩ := (nbI_adj hv).1 hz
  have hfa := hf.adj ha
  obtain ⟨m, rfl⟩ : ∃ m : Nat, z = (m : Int) := ⟨z.toNat, by omega⟩
  have := nbI_has hv y m hfa.2.2.2.1
  rw [decide_eq_decide] at this
  obtain ⟨k, l, h1, h2, h3, h4⟩ := linkI_at (this.1 hz)
  refine ⟨k, l, h1, h2, ⟨l, List.mem_of_getElem? h2, ?_, rfl⟩, h3, h4⟩
  omega
theorem adj_uniq {n : Int} {ls : List Lk} (hv : gvB n ls = true) {y z e e' : Int} (h : Adj ls y z e) (h' : Adj ls y z e') : e = e' := by
  rw [gvB_iff] at hv
  obtain ⟨_, _, h3, h4⟩ := hv
  obtain ⟨l, hl, hh, rfl⟩ := h
  obtain ⟨l', hl', hh', rfl⟩ := h'
  have a1 := h3 l hl
  have a2 := h3 l' hl'
  unfold allowsB inB at a1 a2
  simp at a1 a2
  obtain ⟨i, hi, rfl⟩ := List.getElem_of_mem hl
  obtain ⟨j, hj, rfl⟩ := List.getElem_of_mem hl'
  rw [List.pairwise_iff_getElem] at h4
  have key : i = j := by
    rcases Nat.lt_trichotomy i j with h | h | h
    · have := h4 i j hi hj h
      unfold beforeB at this
      simp at this
      omega
    · exact h
    · have := h4 j i hj hi h
      unfold beforeB at this
      simp at this
      omega
  subst key
  rfl
theorem vwB_one {n : Nat} {ls : List Lk} (hg : gvB (n : Int) ls = true) {y : Int} (hy : 0 ≤ y ∧ y < (n : Int)) : vwB (n : Int) ls [y] = true := by
  unfold vwB inB
  simp [hg]
  omega
theorem vwB_inv {n : Int} {ls : List Lk} {y : Int} (h : vwB n ls [y] = true) : gvB n ls = true ∧ 0 ≤ y ∧ y < n := by
  unfold vwB inB at h
  simp at h
  exact ⟨h.1, by omega, by omega⟩
theorem reachL_some {n : Int} {ls : List Lk} {s : Int} (h : reachL n ls s ≠ []) : vwB n ls [s] = true := by
  cases hv : vwB n ls [s] with
  | true => rfl
  | false =>
    exfalso
    apply h
    unfold reachL distL
    rw [hv]
    rfl
theorem distL_some {n : Int} {ls : List Lk} {s : Int} (h : distL n ls s ≠ []) : vwB n ls [s] = true := by
  cases hv : vwB n ls [s] with
  | true => rfl
  | false =>
    exfalso
    apply h
    unfold distL
    rw [hv]
    rfl
theorem reachL_asc (n : Int) (ls : List Lk) (s : Int) : (reachL n ls s).Pairwise (· < ·) := rTo_asc _ _
/-- Reached nodes are closed under links. -/
theorem reach_closed {n : Nat} {ls : List Lk} {s y z : Int} (hg : gvB (n : Int) ls = true) (hs : 0 ≤ s ∧ s < (n : Int)) (hy : y ∈ reachL (n : Int) ls s) (hz : z ∈ nbI (n : Int) ls y) : z ∈ reachL (n : Int) ls s := by
  obtain ⟨hf, _⟩ := gvB_fit hg
  obtain ⟨e, ha⟩ := (nbI_adj hg).1 hz
  rw [reach_mem (vwB_one hg hs) hf hs] at hy ⊢
  have := hf.adj ha
  exact ⟨by omega, (bf_edge hf hs ha hy.2).1⟩
theorem reach_self {n : Nat} {ls : List Lk} {s : Int} (hg : gvB (n : Int) ls = true) (hs : 0 ≤ s ∧ s < (n : Int)) : s ∈ reachL (n : Int) ls s := by
  obtain ⟨hf, _⟩ := gvB_fit hg
  rw [reach_mem (vwB_one hg hs) hf hs]
  exact ⟨hs, by rw [bf_self hf hs]; omega⟩

/-- The least so far: over the first k of the neighbours zs of y. -/
def BestI (n : Int) (ls : List Lk) (s y : Int) (zs : List Int) (k : Nat) (b : Int) : Prop :=
  (b = -1 ∨ (0 ≤ b ∧ ((b = 0 ∧ y = s) ∨ ∃ (z e : Int), z ∈ zs.take k ∧ Adj ls y z e ∧ 0 ≤ bf n ls s z ∧ b = bf n ls s z + e))) ∧
  (y = s → 0 ≤ b ∧ b ≤ 0) ∧ ∀ z e, z ∈ zs.take k → Adj ls y z e → 0 ≤ bf n ls s z → 0 ≤ b ∧ b ≤ bf n ls s z + e
section
variable {n : Int} {ls : List Lk} {s y : Int} {zs : List Int}
theorem BestI.start0 (h : y = s) : BestI n ls s y zs 0 0 := ⟨.inr ⟨by omega, .inl ⟨rfl, h⟩⟩, fun _ => by omega, fun z e h => by simp at h⟩
theorem BestI.start1 (h : y ≠ s) : BestI n ls s y zs 0 (-1) := ⟨.inl rfl, fun e => absurd e h, fun z e h => by simp at h⟩
theorem BestI.next (hv : gvB n ls = true) {k : Nat} {b z e : Int} (h : BestI n ls s y zs k b) (hz : zs[k]? = some z) (ha : Adj ls y z e) :
    BestI n ls s y zs (k + 1) (if 0 ≤ bf n ls s z ∧ (b < 0 ∨ bf n ls s z + e < b) then bf n ls s z + e else b) := by
  have hf := (gvB_fit hv).1
  have he := hf.adj ha
  obtain ⟨h1, h2, h3⟩ := h
  have hm : ∀ x, x ∈ zs.take (k + 1) ↔ x ∈ zs.take k ∨ x = z := fun x => by
    rw [List.take_add_one, List.mem_append, hz]
    simp
  by_cases hc : 0 ≤ bf n ls s z ∧ (b < 0 ∨ bf n ls s z + e < b)
  · rw [if_pos hc]
    refine ⟨.inr ⟨by omega, .inr ⟨z, e, (hm z).2 (.inr rfl), ha, hc.1, rfl⟩⟩, fun hy => ?_, fun x d hx hd h0 => ?_⟩
    · have := h2 hy
      omega
    · rcases (hm x).1 hx with hx | rfl
      · have := h3 x d hx hd h0
        omega
      · rw [adj_uniq hv ha hd]
        have := hf.adj hd
        omega
  · rw [if_neg hc]
    refine ⟨?_, h2, fun x d hx hd h0 => ?_⟩
    · rcases h1 with h1 | ⟨h0, h1⟩
      · exact .inl h1
      · refine .inr ⟨h0, ?_⟩
        rcases h1 with h1 | ⟨x, d, hx, r⟩
        · exact .inl h1
        · exact .inr ⟨x, d, (hm x).2 (.inl hx), r⟩
    · rcases (hm x).1 hx with hx | rfl
      · exact h3 x d hx hd h0
      · rw [adj_uniq hv hd ha]
        omega
theorem BestI.bound (hv : gvB n ls = true) (hs : 0 ≤ s ∧ s < n) {k : Nat} {b : Int} (h : BestI n ls s y zs k b) : -1 ≤ b ∧ b ≤ 200 := by
  obtain ⟨hf, _, h8, _⟩ := gvB_fit hv
  rcases h.1 with h1 | ⟨h0, ⟨h1, _⟩ | ⟨z, e, _, ha, _, h1⟩⟩
  · omega
  · omega
  · have := bf_bound hf hs h8 z
    have := hf.adj ha
    omega
theorem BestI.done {n : Nat} (hv : gvB (n : Int) ls = true) (hs : 0 ≤ s ∧ s < (n : Int)) {b : Int} (h : BestI (n : Int) ls s y (nbI (n : Int) ls y) (nbI (n : Int) ls y).length b) : b = bf (n : Int) ls s y := by
  obtain ⟨hf, _⟩ := gvB_fit hv
  obtain ⟨h1, h2, h3⟩ := h
  rw [List.take_length] at h1 h3
  rcases bf_sign hf hs y with hd | hd
  · by_cases hys : y = s
    · have := h2 hys
      subst hys
      rw [bf_self hf hs]
      omega
    · obtain ⟨u, e, ha, h0, he⟩ := bf_pred hf hs hys hd
      have h4 := h3 u e ((nbI_adj hv).2 ⟨e, ha.symm⟩) ha.symm h0
      rcases h1 with h1 | ⟨_, ⟨_, h1⟩ | ⟨z, e', _, hz, hz0, h1⟩⟩
      · omega
      · exact absurd h1 hys
      · have := bf_edge hf hs hz.symm hz0
        omega
  · rcases h1 with h1 | ⟨_, ⟨_, h1⟩ | ⟨z, e', _, hz, hz0, h1⟩⟩
    · omega
    · subst h1
      rw [bf_self hf hs] at hd
      omega
    · have := bf_edge hf hs hz.symm hz0
      omega
end

end Go.Proofs.Ytohflcbpjjnccab

/-
  A contract over this seat: the distance that the laws ask for.
-/
namespace Go.Proofs.Ytohflcbpjjnccab
open Go.RowKit

theorem Own1i.at {w : World} {A : Option Addr} {g : Nat} {xs : List Int} (h : Own1i w A g xs) {i : Nat} {x : Int} (hx : xs[i]? = some x) : A = some ⟨g, 0, none⟩ ∧ g < w.heap.size ∧ w.cell? ⟨g, i, none⟩ = some (.int .i64 x) := by
  have hl := (List.getElem?_eq_some_iff.1 hx).1
  obtain ⟨e, ha⟩ := h (by omega)
  exact ⟨e, ha.lt, ha.cell hx⟩
theorem distL_at {n : Nat} {ls : List Lk} {s : Int} (hg : gvB (n : Int) ls = true) (hs : 0 ≤ s ∧ s < (n : Int)) {i : Nat} (hi : i < n) : (distL (n : Int) ls s)[i]? = some (bf (n : Int) ls s (i : Int)) := by
  rw [distL_fl (vwB_one hg hs), fl_at hi]
theorem distL_length {n : Nat} {ls : List Lk} {s : Int} (hg : gvB (n : Int) ls = true) (hs : 0 ≤ s ∧ s < (n : Int)) : (distL (n : Int) ls s).length = n := by
  rw [distL_fl (vwB_one hg hs), fl_len]


end Go.Proofs.Ytohflcbpjjnccab

/-
  Plain facts: next hops, and the number of shortest paths.
-/
namespace Go.Proofs.Ytohflcbpjjnccab

def costAt (ls : List Lk) (j : Nat) : Int := match ls[j]? with
  | some l => l.c
  | none => 0
theorem costAt_at {ls : List Lk} {j : Nat} {l : Lk} (h : ls[j]? = some l) : costAt ls j = l.c := by unfold costAt; rw [h]
/-- The cost of the link between two nodes. -/
def lcost (nn : Int) (ls : List Lk) (s z : Int) : Int := costAt ls (linkI nn ls s z).toNat
def hopB (nn : Int) (ls : List Lk) (s t z : Int) : Bool := decide (0 ≤ bf nn ls t z) && decide (bf nn ls t z + lcost nn ls s z = bf nn ls t s)
def hopsL (nn : Int) (ls : List Lk) (s t : Int) : List Int := if vwB nn ls [s, t] = true then (nbI nn ls s).filter (hopB nn ls s t) else []

section
variable {n : Int} {ls : List Lk} {s t : Int}
theorem vwB_two (h : vwB n ls [s, t] = true) : gvB n ls = true ∧ (0 ≤ s ∧ s < n) ∧ (0 ≤ t ∧ t < n) := by
  unfold vwB inB at h
  simp at h
  exact ⟨h.1, by omega, by omega⟩
theorem vwB_of (hv : gvB n ls = true) (hs : 0 ≤ s ∧ s < n) (ht : 0 ≤ t ∧ t < n) : vwB n ls [s, t] = true := by
  unfold vwB inB
  simp [hv]
  omega
theorem lcost_adj (hv : gvB n ls = true) {z : Int} (hz : z ∈ nbI n ls s) : Adj ls s z (lcost n ls s z) := by
  obtain ⟨k, l, h1, h2, h3, _⟩ := nbI_link hv hz
  unfold lcost
  rw [h1, Int.toNat_natCast, costAt_at h2]
  exact h3
theorem lcost_eq (hv : gvB n ls = true) {z e : Int} (ha : Adj ls s z e) : lcost n ls s z = e :=
  adj_uniq hv (lcost_adj hv ((nbI_adj hv).2 ⟨e, ha⟩)) ha
theorem bf_sg (hf : Fit n ls) (hs : 0 ≤ s ∧ s < n) (v : Int) : 0 ≤ bf n ls s v ∨ bf n ls s v = -1 := by
  rcases bf_isD hf hs v with h | h
  · exact .inl h.1
  · exact .inr h.1
theorem hopB_adj (hv : gvB n ls = true) {z e : Int} (ha : Adj ls s z e) : hopB n ls s t z = (decide (0 ≤ bf n ls t z) && decide (bf n ls t z + e = bf n ls t s)) := by
  unfold hopB
  rw [lcost_eq hv ha]
/-- The program's test. -/
theorem hop_test (hv : gvB n ls = true) (ht : 0 ≤ t ∧ t < n) {z e : Int} (ha : Adj ls s z e) : hopB n ls s t z = decide (bf n ls t z + e = bf n ls t s) := by
  obtain ⟨hf, _⟩ := gvB_fit hv
  rw [hopB_adj hv ha]
  rcases bf_sg hf ht z with h | h
  · simp [h]
  · have hs : bf n ls t s = -1 := by
      rcases bf_sg hf ht s with h' | h'
      · have := bf_edge hf ht ha h'
        omega
      · exact h'
    have := hf.adj ha
    rw [h, hs]
    simp
    omega
theorem hops_eq (h : vwB n ls [s, t] = true) : hopsL n ls s t = (nbI n ls s).filter (hopB n ls s t) := by unfold hopsL; rw [if_pos h]
theorem hops_mem (h : vwB n ls [s, t] = true) {z : Int} : z ∈ hopsL n ls s t ↔ ∃ e, Adj ls s z e ∧ 0 ≤ bf n ls t z ∧ bf n ls t z + e = bf n ls t s := by
  obtain ⟨hv, _, _⟩ := vwB_two h
  rw [hops_eq h, List.mem_filter]
  constructor
  · rintro ⟨hz, hb⟩
    obtain ⟨e, ha⟩ := (nbI_adj hv).1 hz
    rw [hopB_adj hv ha] at hb
    simp at hb
    exact ⟨e, ha, hb.1, hb.2⟩
  · rintro ⟨e, ha, h0, he⟩
    refine ⟨(nbI_adj hv).2 ⟨e, ha⟩, ?_⟩
    rw [hopB_adj hv ha]
    simp [h0, he]
theorem hops_sub (n : Int) (ls : List Lk) (s t : Int) : (hopsL n ls s t).Sublist (nbI n ls s) := by
  unfold hopsL
  split
  · exact List.filter_sublist
  · exact List.nil_sublist _
theorem hops_len (n : Int) (ls : List Lk) (s t : Int) : (hopsL n ls s t).length ≤ 8 := Nat.le_trans (hops_sub n ls s t).length_le (nbI_len n ls s)
theorem hops_asc (n : Int) (ls : List Lk) (s t : Int) : (hopsL n ls s t).Pairwise (· < ·) := (nbI_asc n ls s).sublist (hops_sub n ls s t)
theorem hops_nil (h : vwB n ls [s, t] = true) : hopsL n ls s t = [] ↔ s = t ∨ bf n ls t s < 0 := by
  obtain ⟨hv, hs, ht⟩ := vwB_two h
  obtain ⟨hf, _⟩ := gvB_fit hv
  constructor
  · intro he
    by_cases hst : s = t
    · exact .inl hst
    · right
      rcases bf_sg hf ht s with h0 | h0
      · obtain ⟨u, e, ha, hu, hd⟩ := bf_pred hf ht hst h0
        have := (hops_mem h).2 ⟨e, ha.symm, hu, hd.symm⟩
        rw [he] at this
        simp at this
      · omega
  · intro he
    refine List.eq_nil_iff_forall_not_mem.2 fun z hz => ?_
    obtain ⟨e, ha, h0, hd⟩ := (hops_mem h).1 hz
    have := hf.adj ha
    rcases he with rfl | he
    · rw [bf_self hf hs] at hd
      omega
    · omega
theorem hops_node (h : vwB n ls [s, t] = true) {z : Int} (hz : z ∈ hopsL n ls s t) : (0 ≤ z ∧ z < n) ∧ vwB n ls [z, t] = true ∧ 0 ≤ bf n ls t z ∧ bf n ls t z < bf n ls t s := by
  obtain ⟨hv, _, ht⟩ := vwB_two h
  obtain ⟨hf, _⟩ := gvB_fit hv
  obtain ⟨e, ha, h0, hd⟩ := (hops_mem h).1 hz
  have := hf.adj ha
  exact ⟨by omega, vwB_of hv (by omega) ht, h0, by omega⟩
end

/-- The specification's walk over the nodes comes to the same neighbours. -/
theorem nbS_n {n : Nat} {ls : List Lk} (hv : gvB (n : Int) ls = true) (s : Int) : nbS s ls n = nbI (n : Int) ls s := by
  rw [← nbI_eq, if_pos hv]
  refine asc_ext _ _ (nbS_asc s ls n) (nbS_asc s ls 8) fun z => ?_
  rw [nbS_mem, nbS_mem]
  obtain ⟨_, _, h8, _⟩ := gvB_fit hv
  constructor
  · rintro ⟨x, h1, h2, h3⟩
    exact ⟨x, by omega, h2, h3⟩
  · rintro ⟨x, h1, h2, h3⟩
    refine ⟨x, ?_, h2, h3⟩
    obtain ⟨j, l, hl, ha, hb⟩ := l1I_nonneg.1 h3
    have := gvB_at hv hl
    omega

/-! ### How many -/
/-- How many nodes are reached and nearer. -/
def rk (n : Nat) (ls : List Lk) (t s : Int) : Nat := ((List.range n).filter fun i : Nat => decide (0 ≤ bf (n : Int) ls t (i : Int)) && decide (bf (n : Int) ls t (i : Int) < bf (n : Int) ls t s)).length
theorem filter_lt {α : Type} {p q : α → Bool} {xs : List α} (h : ∀ x ∈ xs, p x = true → q x = true) {y : α} (hy : y ∈ xs) (hp : p y = false) (hq : q y = true) : (xs.filter p).length < (xs.filter q).length := by
  induction xs with
  | nil => simp at hy
  | cons a xs ih =>
    have hle : (xs.filter p).length ≤ (xs.filter q).length := by
      clear ih hy
      induction xs with
      | nil => simp
      | cons b xs ih =>
        have := ih (fun x hx => h x (by simp at hx ⊢; rcases hx with h | h <;> simp [h]))
        cases hpb : p b with
        | true =>
          have hqb := h b (by simp) hpb
          simp [hpb, hqb, this]
        | false =>
          cases hqb : q b <;> simp [hpb, hqb] <;> omega
    rcases List.mem_cons.1 hy with rfl | hy
    · simp [hp, hq]
      omega
    · have := ih (fun x hx => h x (by simp [hx])) hy
      cases hpa : p a with
      | true =>
        have hqa := h a (by simp) hpa
        simp [hpa, hqa]
        exact this
      | false =>
        cases hqa : q a <;> simp [hpa, hqa] <;> omega
theorem rk_lt {n : Nat} {ls : List Lk} {t s z : Int} (hz : 0 ≤ z ∧ z < (n : Int)) (h0 : 0 ≤ bf (n : Int) ls t z) (h : bf (n : Int) ls t z < bf (n : Int) ls t s) : rk n ls t z < rk n ls t s := by
  unfold rk
  refine filter_lt (y := z.toNat) (fun x _ hx => ?_) (by simp; omega) ?_ ?_
  · simp at hx ⊢
    omega
  · rw [show ((z.toNat : Nat) : Int) = z by omega]
    simp
  · rw [show ((z.toNat : Nat) : Int) = z by omega]
    simp [h0, h]
theorem rk_le (n : Nat) (ls : List Lk) (t s : Int) : rk n ls t s ≤ n := by
  unfold rk
  exact Nat.le_trans (List.length_filter_le _ _) (by simp)

def cnt (n : Int) (ls : List Lk) (t : Int) : Nat → Int → Nat
  | 0, s => if s = t then 1 else 0
  | k + 1, s => if s = t then 1 else ((hopsL n ls s t).map (cnt n ls t k)).sum
/-- How many shortest paths there are. -/
def cntL (n : Nat) (ls : List Lk) (s t : Int) : Nat := cnt (n : Int) ls t (rk n ls t s) s
theorem sum_le {xs : List Int} {f : Int → Nat} {b : Nat} (h : ∀ x ∈ xs, f x ≤ b) : (xs.map f).sum ≤ xs.length * b := by
  induction xs with
  | nil => simp
  | cons x xs ih =>
    have h1 := h x (by simp)
    have h2 := ih fun y hy => h y (by simp [hy])
    simp only [List.map_cons, List.sum_cons, List.length_cons, Nat.succ_mul]
    omega
section
variable {n : Nat} {ls : List Lk} {t : Int}
theorem cnt_more (hv : gvB (n : Int) ls = true) (ht : 0 ≤ t ∧ t < (n : Int)) : ∀ (k m : Nat) (s : Int), 0 ≤ s ∧ s < (n : Int) → rk n ls t s ≤ k → k ≤ m → cnt (n : Int) ls t m s = cnt (n : Int) ls t k s := by
  intro k
  induction k with
  | zero =>
    intro m s hs hr _
    cases m with
    | zero => rfl
    | succ m =>
      by_cases hst : s = t
      · simp [cnt, hst]
      · have hnil : hopsL (n : Int) ls s t = [] := List.eq_nil_iff_forall_not_mem.2 fun z hz => by
          obtain ⟨h1, _, h3, h4⟩ := hops_node (vwB_of hv hs ht) hz
          have := rk_lt h1 h3 h4
          omega
        simp [cnt, hst, hnil]
  | succ k ih =>
    intro m s hs hr hkm
    obtain ⟨m, rfl⟩ : ∃ q, m = q + 1 := ⟨m - 1, by omega⟩
    by_cases hst : s = t
    · simp [cnt, hst]
    · simp only [cnt, if_neg hst]
      congr 1
      refine List.map_congr_left fun z hz => ?_
      obtain ⟨h1, _, h3, h4⟩ := hops_node (vwB_of hv hs ht) hz
      have := rk_lt h1 h3 h4
      exact ih m z h1 (by omega) (by omega)
theorem cntL_self (n : Nat) (ls : List Lk) (t : Int) : cntL n ls t t = 1 := by
  unfold cntL
  cases rk n ls t t <;> simp [cnt]
theorem cntL_step (hv : gvB (n : Int) ls = true) (ht : 0 ≤ t ∧ t < (n : Int)) {s : Int} (hs : 0 ≤ s ∧ s < (n : Int)) (hst : s ≠ t) : cntL n ls s t = ((hopsL (n : Int) ls s t).map (fun z => cntL n ls z t)).sum := by
  unfold cntL
  rw [← cnt_more hv ht (rk n ls t s) (rk n ls t s + 1) s hs (Nat.le_refl _) (by omega)]
  simp only [cnt, if_neg hst]
  congr 1
  refine List.map_congr_left fun z hz => ?_
  obtain ⟨h1, _, h3, h4⟩ := hops_node (vwB_of hv hs ht) hz
  have := rk_lt h1 h3 h4
  exact cnt_more hv ht (rk n ls t z) (rk n ls t s) z h1 (Nat.le_refl _) (by omega)
theorem cnt_le (k : Nat) : ∀ s : Int, cnt (n : Int) ls t k s ≤ 8 ^ k := by
  induction k with
  | zero =>
    intro s
    simp only [cnt]
    split <;> simp
  | succ k ih =>
    intro s
    simp only [cnt]
    split
    · exact Nat.one_le_pow _ _ (by omega)
    · refine Nat.le_trans (sum_le (b := 8 ^ k) fun z _ => ih z) ?_
      rw [Nat.pow_succ, Nat.mul_comm]
      exact Nat.mul_le_mul_left _ (hops_len _ _ _ _)
theorem cntL_le (hv : gvB (n : Int) ls = true) (s : Int) : cntL n ls s t ≤ 16777216 := by
  obtain ⟨_, _, h8, _⟩ := gvB_fit hv
  have h := rk_le n ls t s
  refine Nat.le_trans (cnt_le _ _) (Nat.le_trans (Nat.pow_le_pow_right (by omega) (show rk n ls t s ≤ 8 by omega)) (by decide))
/-- Reached nodes have shortest paths, others have none. -/
theorem cntL_pos (hv : gvB (n : Int) ls = true) (ht : 0 ≤ t ∧ t < (n : Int)) : ∀ (k : Nat) (s : Int), 0 ≤ s ∧ s < (n : Int) → rk n ls t s ≤ k → (0 < cntL n ls s t ↔ 0 ≤ bf (n : Int) ls t s) := by
  obtain ⟨hf, _⟩ := gvB_fit hv
  intro k
  induction k with
  | zero =>
    intro s hs hr
    by_cases hst : s = t
    · subst hst
      rw [cntL_self, bf_self hf hs]
      simp
    · rw [cntL_step hv ht hs hst]
      have hnil : hopsL (n : Int) ls s t = [] := List.eq_nil_iff_forall_not_mem.2 fun z hz => by
        obtain ⟨h1, _, h3, h4⟩ := hops_node (vwB_of hv hs ht) hz
        have := rk_lt h1 h3 h4
        omega
      have := (hops_nil (vwB_of hv hs ht)).1 hnil
      rw [hnil]
      simp
      omega
  | succ k ih =>
    intro s hs hr
    by_cases hst : s = t
    · subst hst
      rw [cntL_self, bf_self hf hs]
      simp
    · rw [cntL_step hv ht hs hst]
      have hn := hops_nil (vwB_of hv hs ht)
      cases hh : hopsL (n : Int) ls s t with
      | nil =>
        have := hn.1 hh
        simp
        omega
      | cons z zs =>
        have hz : z ∈ hopsL (n : Int) ls s t := by rw [hh]; simp
        obtain ⟨h1, _, h3, h4⟩ := hops_node (vwB_of hv hs ht) hz
        have := rk_lt h1 h3 h4
        have := (ih z h1 (by omega)).2 h3
        simp only [List.map_cons, List.sum_cons]
        omega
end
end Go.Proofs.Ytohflcbpjjnccab
