/-
  Plain facts: a graph in which one link has another cost.
-/
import Derived.Test.YtjponnfnofpdgaaUf
import Derived.Test.YtjponnfnofpdgaaA2
namespace Go.Proofs.Ytjponnfnofpdgaa

theorem costLs_at {ls : List Lk} {k : Nat} {l : Lk} (h : ls[k]? = some l) (c : Int) : costLs ls k c = ls.set k ⟨l.a, l.b, c⟩ := by unfold costLs; rw [h]
theorem costLs_get {ls : List Lk} {k : Nat} {l : Lk} (h : ls[k]? = some l) (c : Int) (j : Nat) : (costLs ls k c)[j]? = if j = k then some ⟨l.a, l.b, c⟩ else ls[j]? := by
  have hk := (List.getElem?_eq_some_iff.1 h).1
  rw [costLs_at h, List.getElem?_set]
  by_cases e : k = j
  · subst e
    rw [if_pos rfl, if_pos hk, if_pos rfl]
  · rw [if_neg e, if_neg (fun h => e h.symm)]
theorem costLs_len' (ls : List Lk) (k : Nat) (c : Int) : (costLs ls k c).length = ls.length := costLs_len ls k c
theorem costLs_back {ls : List Lk} {k : Nat} {l : Lk} (h : ls[k]? = some l) (c : Int) : costLs (costLs ls k c) k l.c = ls := by
  refine List.ext_getElem? fun j => ?_
  rw [costLs_get (l := ⟨l.a, l.b, c⟩) (by rw [costLs_get h, if_pos rfl]) l.c, costLs_get h]
  by_cases e : j = k
  · subst e
    rw [if_pos rfl, h]
  · rw [if_neg e, if_neg e]
theorem costLs_same {ls : List Lk} {k : Nat} {l : Lk} (h : ls[k]? = some l) : costLs ls k l.c = ls := by
  refine List.ext_getElem? fun j => ?_
  rw [costLs_get h]
  by_cases e : j = k
  · subst e
    rw [if_pos rfl, h]
  · rw [if_neg e]
theorem costLs_gv {n : Int} {ls : List Lk} (hv : gvB n ls = true) {k : Nat} {l : Lk} (h : ls[k]? = some l) {c : Int} (hc : 1 ≤ c ∧ c ≤ 20) : gvB n (costLs ls k c) = true := by
  rw [gvB_iff] at hv ⊢
  obtain ⟨h1, h2, h3, h4⟩ := hv
  refine ⟨h1, by rw [costLs_len']; exact h2, fun m hm => ?_, ?_⟩
  · obtain ⟨j, hj⟩ := List.getElem?_of_mem hm
    rw [costLs_get h] at hj
    split at hj
    · cases hj
      have := h3 l (List.mem_of_getElem? h)
      unfold allowsB inB at this ⊢
      simp at this ⊢
      omega
    · exact h3 m (List.mem_of_getElem? hj)
  · rw [List.pairwise_iff_getElem] at h4 ⊢
    intro i j hi hj hij
    rw [costLs_len'] at hi hj
    have e1 := costLs_get h c i
    have e2 := costLs_get h c j
    rw [List.getElem?_eq_getElem (by rw [costLs_len']; exact hi)] at e1
    rw [List.getElem?_eq_getElem (by rw [costLs_len']; exact hj)] at e2
    have hp := h4 i j hi hj hij
    have hl := List.getElem?_eq_some_iff.1 h
    by_cases c1 : i = k
    · rw [if_pos c1] at e1
      rw [if_neg (by omega), List.getElem?_eq_getElem hj] at e2
      rw [Option.some.inj e1, Option.some.inj e2]
      obtain ⟨hk, hl⟩ := hl
      subst c1
      rw [hl] at hp
      unfold beforeB at hp ⊢
      exact hp
    · rw [if_neg c1, List.getElem?_eq_getElem hi] at e1
      by_cases c2 : j = k
      · rw [if_pos c2] at e2
        rw [Option.some.inj e1, Option.some.inj e2]
        obtain ⟨hk, hl⟩ := hl
        subst c2
        rw [hl] at hp
        unfold beforeB at hp ⊢
        exact hp
      · rw [if_neg c2, List.getElem?_eq_getElem hj] at e2
        rw [Option.some.inj e1, Option.some.inj e2]
        exact hp
theorem costLs_adj {ls : List Lk} {k : Nat} {l : Lk} (h : ls[k]? = some l) {c u v e : Int} (ha : Adj (costLs ls k c) u v e) :
    Adj ls u v e ∨ (e = c ∧ ((l.a = u ∧ l.b = v) ∨ (l.b = u ∧ l.a = v))) := by
  obtain ⟨m, hm, hh, hc⟩ := ha
  obtain ⟨j, hj⟩ := List.getElem?_of_mem hm
  rw [costLs_get h] at hj
  split at hj
  · cases hj
    exact .inr ⟨hc.symm, hh⟩
  · exact .inl ⟨m, List.mem_of_getElem? hj, hh, hc⟩
/-- A link stays, but for the cost of the one. -/
theorem costLs_adj' {n : Int} {ls : List Lk} (hv : gvB n ls = true) {k : Nat} {l : Lk} (h : ls[k]? = some l) (c : Int) {u v e : Int} (ha : Adj ls u v e) :
    (((l.a = u ∧ l.b = v) ∨ (l.b = u ∧ l.a = v)) ∧ e = l.c ∧ Adj (costLs ls k c) u v c) ∨ (¬ ((l.a = u ∧ l.b = v) ∨ (l.b = u ∧ l.a = v)) ∧ Adj (costLs ls k c) u v e) := by
  by_cases hh : (l.a = u ∧ l.b = v) ∨ (l.b = u ∧ l.a = v)
  · refine .inl ⟨hh, adj_uniq hv ha ⟨l, List.mem_of_getElem? h, hh, rfl⟩, ?_⟩
    have : (costLs ls k c)[k]? = some ⟨l.a, l.b, c⟩ := by rw [costLs_get h, if_pos rfl]
    exact ⟨_, List.mem_of_getElem? this, hh, rfl⟩
  · refine .inr ⟨hh, ?_⟩
    obtain ⟨m, hm, hm2, hc⟩ := ha
    obtain ⟨j, hj⟩ := List.getElem?_of_mem hm
    have hjk : j ≠ k := fun e => by
      subst e
      rw [h] at hj
      cases hj
      exact hh hm2
    have : (costLs ls k c)[j]? = some m := by rw [costLs_get h, if_neg hjk]; exact hj
    exact ⟨m, List.mem_of_getElem? this, hm2, hc⟩
section
variable {n : Nat} {ls : List Lk} {k : Nat} {l : Lk}
theorem costLs_wk (hv : gvB (n : Int) ls = true) (h : ls[k]? = some l) {c : Int} (hc : c ≤ l.c) {s v d : Int} {m : Nat} (hw : Wk ls s v d m) : ∃ d', Wk (costLs ls k c) s v d' m ∧ d' ≤ d := by
  induction hw with
  | nil => exact ⟨0, .nil, by omega⟩
  | snoc _ ha ih =>
    obtain ⟨d', hw', hd⟩ := ih
    rcases costLs_adj' hv h c ha with ⟨_, he, ha'⟩ | ⟨_, ha'⟩
    · exact ⟨_, hw'.snoc ha', by omega⟩
    · exact ⟨_, hw'.snoc ha', by omega⟩
/-- A smaller cost makes no distance longer; reached nodes stay reached. -/
theorem cost_less (hv : gvB (n : Int) ls = true) (h : ls[k]? = some l) {c : Int} (hc1 : 1 ≤ c ∧ c ≤ 20) (hc : c ≤ l.c) {s : Int} (hs : 0 ≤ s ∧ s < (n : Int)) (v : Int) (h0 : 0 ≤ bf (n : Int) ls s v) :
    0 ≤ bf (n : Int) (costLs ls k c) s v ∧ bf (n : Int) (costLs ls k c) s v ≤ bf (n : Int) ls s v := by
  obtain ⟨m, hm⟩ := bf_walk (gvB_fit hv).1 hs h0
  obtain ⟨d', hw, hd⟩ := costLs_wk hv h hc hm
  have := bf_le (gvB_fit (costLs_gv hv h hc1)).1 hs hw
  omega
/-- Along a path without a node twice the link comes once at most. -/
theorem cost_sp (hv : gvB (n : Int) ls = true) (h : ls[k]? = some l) {c : Int} {s : Int} : ∀ {p : List Int} {d : Int}, Sp ls s p d → p.Nodup →
    ∀ v p', p = v :: p' → ∃ d' m, Wk (costLs ls k c) s v d' m ∧ (d' ≤ d ∨ (l.a ∈ p ∧ l.b ∈ p ∧ d' ≤ d + (c - l.c))) := by
  intro p d hsp
  induction hsp with
  | nil =>
    intro _ v p' e
    cases e
    exact ⟨0, 0, .nil, .inl (by omega)⟩
  | @cons u w d e q hq ha ih =>
    intro hn v p' ep
    cases ep
    obtain ⟨d', m, hw, hd⟩ := ih (List.nodup_cons.1 hn).2 u q rfl
    have hvn := (List.nodup_cons.1 hn).1
    rcases costLs_adj' hv h c ha with ⟨hh, he, ha'⟩ | ⟨hh, ha'⟩
    · refine ⟨_, _, hw.snoc ha', .inr ?_⟩
      have hd2 : d' ≤ d := by
        rcases hd with hd | ⟨h1, h2, _⟩
        · exact hd
        · exfalso
          rcases hh with ⟨e1, e2⟩ | ⟨e1, e2⟩
          · rw [e2] at h2; exact hvn h2
          · rw [e2] at h1; exact hvn h1
      refine ⟨?_, ?_, by omega⟩
      · rcases hh with ⟨e1, e2⟩ | ⟨e1, e2⟩ <;> simp [e1, e2]
      · rcases hh with ⟨e1, e2⟩ | ⟨e1, e2⟩ <;> simp [e1, e2]
    · refine ⟨_, _, hw.snoc ha', ?_⟩
      rcases hd with hd | ⟨h1, h2, hd⟩
      · exact .inl (by omega)
      · exact .inr ⟨List.mem_cons_of_mem _ h1, List.mem_cons_of_mem _ h2, by omega⟩
theorem cost_more (hv : gvB (n : Int) ls = true) (h : ls[k]? = some l) {c : Int} (hc1 : 1 ≤ c ∧ c ≤ 20) (hc : l.c ≤ c) {s : Int} (hs : 0 ≤ s ∧ s < (n : Int)) (v : Int) (h0 : 0 ≤ bf (n : Int) ls s v) :
    0 ≤ bf (n : Int) (costLs ls k c) s v ∧ bf (n : Int) (costLs ls k c) s v ≤ bf (n : Int) ls s v + (c - l.c) := by
  obtain ⟨m, hm⟩ := bf_walk (gvB_fit hv).1 hs h0
  obtain ⟨p, d, hsp, hd, hn⟩ := hm.simple (gvB_fit hv).1
  obtain ⟨d', m', hw, hd'⟩ := cost_sp hv h (c := c) hsp hn v p rfl
  have := bf_le (gvB_fit (costLs_gv hv h hc1)).1 hs hw
  omega
/-- Both, for the laws: what another cost does to a distance. -/
theorem cost_dist (hv : gvB (n : Int) ls = true) (h : ls[k]? = some l) {c : Int} (hc1 : 1 ≤ c ∧ c ≤ 20) {s : Int} (hs : 0 ≤ s ∧ s < (n : Int)) (v : Int) :
    (l.c ≤ c → bf (n : Int) ls s v ≤ bf (n : Int) (costLs ls k c) s v ∧ bf (n : Int) (costLs ls k c) s v - bf (n : Int) ls s v ≤ c - l.c) ∧
    (c ≤ l.c → bf (n : Int) (costLs ls k c) s v ≤ bf (n : Int) ls s v ∧ bf (n : Int) ls s v - bf (n : Int) (costLs ls k c) s v ≤ l.c - c) := by
  have hlb := gvB_at hv h
  have hv' := costLs_gv hv h hc1
  have h' : (costLs ls k c)[k]? = some ⟨l.a, l.b, c⟩ := by rw [costLs_get h, if_pos rfl]
  have hb := costLs_back h c
  have s1 := bf_sg (gvB_fit hv).1 hs v
  have s2 := bf_sg (gvB_fit hv').1 hs v
  constructor
  · intro hc
    have m1 := cost_more hv h hc1 hc hs v
    have m2 := cost_less hv' h' (c := l.c) (by omega) hc hs v
    rw [hb] at m2
    try dsimp only at m2
    omega
  · intro hc
    have m1 := cost_less hv h hc1 hc hs v
    have m2 := cost_more hv' h' (c := l.c) (by omega) hc hs v
    rw [hb] at m2
    try dsimp only at m2
    omega
end
end Go.Proofs.Ytjponnfnofpdgaa
