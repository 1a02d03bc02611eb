/-
  Contracts over this seat: the specification's Distances.
-/
import Derived.Test.YtohflcbpjjnccabB5
import Derived.Test.YtohflcbpjjnccabB4
import Derived.Test.YtohflcbpjjnccabA2
import Derived.Maps.AppendAt
namespace Go.Proofs.Ytohflcbpjjnccab
open Go.RowKit


theorem distL_fl {n : Nat} {ls : List Lk} {s : Int} (h : vwB (n : Int) ls [s] = true) : distL (n : Int) ls s = fl n (bf (n : Int) ls s) := by
  unfold distL fl
  rw [if_pos h, Int.toNat_natCast]
theorem distL_len (nn : Int) (ls : List Lk) (s : Int) : (distL nn ls s).length ≤ 8 := by
  unfold distL
  split
  · rename_i h
    unfold vwB at h
    simp only [Bool.and_eq_true] at h
    obtain ⟨_, h1, h8, _⟩ := gvB_fit h.1
    simp; omega
  · simp


end Go.Proofs.Ytohflcbpjjnccab

/-
  Both, of one graph: the program's and the specification's distances.
-/
namespace Go.Proofs.Ytohflcbpjjnccab
open Go.RowKit


end Go.Proofs.Ytohflcbpjjnccab

/-
  Contracts over this seat: GraphReach, of the program and of the specification.
-/
namespace Go.Proofs.Ytohflcbpjjnccab
open Go.RowKit Go.Maps

/-- The places of the first k numbers that are not -1. -/
def rTo (ds : List Int) : Nat → List Int
  | 0 => []
  | k + 1 => rTo ds k ++ (match ds[k]? with
    | some d => if d = -1 then [] else [(k : Int)]
    | none => [])
theorem rTo_len (ds : List Int) (k : Nat) : (rTo ds k).length ≤ k := by
  induction k with
  | zero => simp [rTo]
  | succ k ih =>
    simp only [rTo, List.length_append]
    split
    · split <;> simp <;> omega
    · simp; omega
theorem rTo_hit {ds : List Int} {k : Nat} {d : Int} (h : ds[k]? = some d) (hd : d ≠ -1) : rTo ds (k + 1) = rTo ds k ++ [(k : Int)] := by simp [rTo, h, hd]
theorem rTo_miss {ds : List Int} {k : Nat} {d : Int} (h : ds[k]? = some d) (hd : d = -1) : rTo ds (k + 1) = rTo ds k := by simp [rTo, h, hd]
def reachL (nn : Int) (ls : List Lk) (s : Int) : List Int := rTo (distL nn ls s) (distL nn ls s).length






theorem bf_sign {n : Nat} {ls : List Lk} {s : Int} (hf : Fit (n : Int) ls) (hs : 0 ≤ s ∧ s < (n : Int)) (v : Int) : 0 ≤ bf (n : Int) ls s v ∨ bf (n : Int) ls s v = -1 := by
  rcases bf_isD hf hs v with h | h
  · exact .inl h.1
  · exact .inr h.1


theorem reachL_len (nn : Int) (ls : List Lk) (s : Int) : (reachL nn ls s).length ≤ 8 := Nat.le_trans (rTo_len _ _) (distL_len nn ls s)

end Go.Proofs.Ytohflcbpjjnccab

/-
  Plain facts: the laws of distances.
-/
namespace Go.Proofs.Ytohflcbpjjnccab

theorem IsD.symm {ls : List Lk} {s v d : Int} (h : IsD ls s v d) : IsD ls v s d := by
  rcases h with ⟨h0, ⟨k, hk⟩, hm⟩ | ⟨rfl, hn⟩
  · exact .inl ⟨h0, ⟨k, hk.symm⟩, fun c j hw => hm c j hw.symm⟩
  · exact .inr ⟨rfl, fun c j hw => hn c j hw.symm⟩
section
variable {n : Int} {ls : List Lk}
theorem bf_symm (hf : Fit n ls) {s v : Int} (hs : 0 ≤ s ∧ s < n) (hv : 0 ≤ v ∧ v < n) : bf n ls s v = bf n ls v s :=
  (bf_isD hf hs v).uniq (bf_isD hf hv s).symm
theorem bf_walk (hf : Fit n ls) {s v : Int} (hs : 0 ≤ s ∧ s < n) (h0 : 0 ≤ bf n ls s v) : ∃ k, Wk ls s v (bf n ls s v) k := by
  rcases bf_isD hf hs v with ⟨_, h, _⟩ | ⟨e, _⟩
  · exact h
  · omega
theorem bf_le (hf : Fit n ls) {s v c : Int} {k : Nat} (hs : 0 ≤ s ∧ s < n) (hw : Wk ls s v c k) : 0 ≤ bf n ls s v ∧ bf n ls s v ≤ c := by
  rcases bf_isD hf hs v with ⟨h0, _, h⟩ | ⟨_, h⟩
  · exact ⟨h0, h _ _ hw⟩
  · exact absurd hw (h _ _)
theorem bf_three (hf : Fit n ls) {s c b : Int} (hs : 0 ≤ s ∧ s < n) (hc : 0 ≤ c ∧ c < n) (h1 : 0 ≤ bf n ls s c) (h2 : 0 ≤ bf n ls c b) : 0 ≤ bf n ls s b ∧ bf n ls s b ≤ bf n ls s c + bf n ls c b := by
  obtain ⟨k, hk⟩ := bf_walk hf hs h1
  obtain ⟨m, hm⟩ := bf_walk hf hc h2
  exact bf_le hf hs (hk.trans hm)
theorem bf_self (hf : Fit n ls) {s : Int} (hs : 0 ≤ s ∧ s < n) : bf n ls s s = 0 := by
  have := bf_le hf hs (Wk.nil (ls := ls) (s := s))
  omega
theorem bf_edge (hf : Fit n ls) {s u v e : Int} (hs : 0 ≤ s ∧ s < n) (ha : Adj ls u v e) (h : 0 ≤ bf n ls s u) : 0 ≤ bf n ls s v ∧ bf n ls s v ≤ bf n ls s u + e := by
  obtain ⟨k, hk⟩ := bf_walk hf hs h
  exact bf_le hf hs (hk.snoc ha)
theorem bf_bound (hf : Fit n ls) {s : Int} (hs : 0 ≤ s ∧ s < n) (h8 : n ≤ 8) (v : Int) : -1 ≤ bf n ls s v ∧ bf n ls s v ≤ 140 := by
  have h := bf_isD hf hs v
  have hb := isD_bound hf hs h8 h
  rcases h with h | h <;> omega
theorem bf_link (hf : Fit n ls) {s : Int} (hs : 0 ≤ s ∧ s < n) {l : Lk} (hl : l ∈ ls) :
    (bf n ls s l.a < 0 ↔ bf n ls s l.b < 0) ∧ bf n ls s l.a - bf n ls s l.b ≤ l.c ∧ bf n ls s l.b - bf n ls s l.a ≤ l.c := by
  have ha : Adj ls l.a l.b l.c := ⟨l, hl, .inl ⟨rfl, rfl⟩, rfl⟩
  have h1 : 0 ≤ bf n ls s l.a → _ := bf_edge hf hs ha
  have h2 : 0 ≤ bf n ls s l.b → _ := bf_edge hf hs ha.symm
  have hc := hf.c1 l hl
  have g1 : 0 ≤ bf n ls s l.a ∨ bf n ls s l.a = -1 := by
    rcases bf_isD hf hs l.a with h | h
    · exact .inl h.1
    · exact .inr h.1
  have g2 : 0 ≤ bf n ls s l.b ∨ bf n ls s l.b = -1 := by
    rcases bf_isD hf hs l.b with h | h
    · exact .inl h.1
    · exact .inr h.1
  omega
/-- The last link of a shortest walk. -/
theorem bf_pred (hf : Fit n ls) {s v : Int} (hs : 0 ≤ s ∧ s < n) (hv : v ≠ s) (h0 : 0 ≤ bf n ls s v) : ∃ u e, Adj ls u v e ∧ 0 ≤ bf n ls s u ∧ bf n ls s v = bf n ls s u + e := by
  obtain ⟨k, hk⟩ := bf_walk hf hs h0
  generalize hc : bf n ls s v = c at hk
  cases hk with
  | nil => exact absurd rfl hv
  | @snoc u _ c e k hw ha =>
    have h1 := bf_le hf hs hw
    have h2 := bf_edge hf hs ha h1.1
    exact ⟨u, e, ha, h1.1, by omega⟩
end

theorem rTo_mem {ds : List Int} {k : Nat} {x : Int} : x ∈ rTo ds k ↔ ∃ i : Nat, i < k ∧ x = (i : Int) ∧ ∃ d, ds[i]? = some d ∧ d ≠ -1 := by
  induction k with
  | zero => simp [rTo]
  | succ k ih =>
    simp only [rTo, List.mem_append, ih]
    constructor
    · rintro (⟨i, hi, e, d, hd, hne⟩ | h)
      · exact ⟨i, by omega, e, d, hd, hne⟩
      · split at h
        · rename_i d hd
          split at h
          · simp at h
          · rename_i hne
            exact ⟨k, by omega, by simpa using h, d, hd, hne⟩
        · simp at h
    · rintro ⟨i, hi, e, d, hd, hne⟩
      by_cases hik : i < k
      · exact .inl ⟨i, hik, e, d, hd, hne⟩
      · obtain rfl : i = k := by omega
        right
        rw [hd]
        dsimp only
        rw [if_neg hne]
        simpa using e
theorem rTo_asc (ds : List Int) (k : Nat) : (rTo ds k).Pairwise (· < ·) := by
  induction k with
  | zero => simp [rTo]
  | succ k ih =>
    simp only [rTo]
    refine List.pairwise_append.2 ⟨ih, ?_, fun a ha b hb => ?_⟩
    · split
      · split <;> simp
      · simp
    · obtain ⟨i, hi, e, _⟩ := rTo_mem.1 ha
      split at hb
      · split at hb
        · simp at hb
        · have : b = (k : Int) := by simpa using hb
          omega
      · simp at hb
/-- A node is reached just where its distance is not -1. -/
theorem reach_mem {n : Nat} {ls : List Lk} {s : Int} (hv : vwB (n : Int) ls [s] = true) (hf : Fit (n : Int) ls) (hs : 0 ≤ s ∧ s < (n : Int)) {x : Int} : x ∈ reachL (n : Int) ls s ↔ (0 ≤ x ∧ x < (n : Int)) ∧ 0 ≤ bf (n : Int) ls s x := by
  unfold reachL
  rw [distL_fl hv, fl_len, rTo_mem]
  constructor
  · rintro ⟨i, hi, rfl, d, hd, hne⟩
    rw [fl_at hi] at hd
    cases hd
    have := bf_sign hf hs (i : Int)
    omega
  · rintro ⟨⟨h0, h1⟩, h2⟩
    exact ⟨x.toNat, by omega, by omega, _, fl_at (by omega), by rw [show ((x.toNat : Nat) : Int) = x by omega]; omega⟩
/-- Nodes that are reached from one another reach the same nodes. -/
theorem reach_same {n : Nat} {ls : List Lk} {s x : Int} (hg : gvB (n : Int) ls = true) (hs : 0 ≤ s ∧ s < (n : Int)) (hx : x ∈ reachL (n : Int) ls s) : reachL (n : Int) ls x = reachL (n : Int) ls s := by
  obtain ⟨hf, _, _, _⟩ := gvB_fit hg
  have hv : ∀ y : Int, 0 ≤ y ∧ y < (n : Int) → vwB (n : Int) ls [y] = true := fun y hy => by unfold vwB inB; simp [hg]; omega
  obtain ⟨hxr, hx0⟩ := (reach_mem (hv s hs) hf hs).1 hx
  have hsx := bf_symm hf hs hxr
  have key : ∀ y, y ∈ reachL (n : Int) ls x ↔ y ∈ reachL (n : Int) ls s := fun y => by
    rw [reach_mem (hv x hxr) hf hxr, reach_mem (hv s hs) hf hs]
    constructor
    · rintro ⟨hy, h⟩
      exact ⟨hy, (bf_three hf hs hxr hx0 h).1⟩
    · rintro ⟨hy, h⟩
      exact ⟨hy, (bf_three hf hxr hs (by omega) h).1⟩
  have h1 : (reachL (n : Int) ls x).Pairwise (· < ·) := rTo_asc _ _
  have h2 : (reachL (n : Int) ls s).Pairwise (· < ·) := rTo_asc _ _
  revert key h1 h2
  generalize reachL (n : Int) ls x = a
  generalize reachL (n : Int) ls s = b
  clear hx hsx hx0
  intro key h1 h2
  induction a generalizing b with
  | nil =>
    cases b with
    | nil => rfl
    | cons y b => have := (key y).2 (by simp); simp at this
  | cons y a ih =>
    cases b with
    | nil => have := (key y).1 (by simp); simp at this
    | cons z b =>
      have h1' := List.pairwise_cons.1 h1
      have h2' := List.pairwise_cons.1 h2
      have hyz : y = z := by
        have a1 := (key y).1 (by simp)
        have a2 := (key z).2 (by simp)
        simp only [List.mem_cons] at a1 a2
        rcases a1 with a1 | a1
        · exact a1
        · rcases a2 with a2 | a2
          · exact a2.symm
          · have := h1'.1 _ a2
            have := h2'.1 _ a1
            omega
      subst hyz
      rw [ih b (fun x => by
        have := key x
        simp only [List.mem_cons] at this
        constructor
        · intro hx
          rcases this.1 (.inr hx) with e | e
          · subst e; have := h1'.1 _ hx; omega
          · exact e
        · intro hx
          rcases this.2 (.inr hx) with e | e
          · subst e; have := h2'.1 _ hx; omega
          · exact e) h1'.2 h2'.2]

end Go.Proofs.Ytohflcbpjjnccab
