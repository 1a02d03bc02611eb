/-
  Plain facts for the laws of repairs, and labels compared.
-/
import Derived.Test.YtenlofomkchlaaaDoorVn
import Derived.Test.YtenlofomkchlaaaDoorNt
namespace Go.Proofs.YtenlofomkchlaaaDoor
open Go.RowKit Go.Maps

theorem rpP_path {nn : Int} {ls : List Lk} {s x t : Int} (h : rpP nn ls s x t ≠ []) : rpP nn ls s x t = pathI nn (ls.eraseIdx x.toNat) s t := by
  unfold rpP at h ⊢
  by_cases hc : (vwB nn ls [s, t] && idxB ls x) = true
  · rw [if_pos hc]
  · rw [if_neg hc] at h
    exact absurd rfl h
/-- P101. -/
theorem path_law {nn : Int} {ls : List Lk} {s x t : Int} (h : rpP nn ls s x t ≠ []) :
    ∃ (m k : Nat), nn = (m : Int) ∧ x = (k : Int) ∧ k < ls.length ∧ gvB (m : Int) ls = true ∧ rpP nn ls s x t = pathI (m : Int) (ls.eraseIdx k) s t ∧ ∀ (i : Nat) (a b : Int), (rpP nn ls s x t)[i]? = some a → (rpP nn ls s x t)[i + 1]? = some b → (linkI (m : Int) ls a b == (k : Int)) = false := by
  have hp1 := rpP_path h
  obtain ⟨m, k, l, rfl, rfl, hl, hg, hs, ht, hp⟩ := rpP_some h
  refine ⟨m, k, rfl, rfl, (List.getElem?_eq_some_iff.1 hl).1, hg, hp1, fun i a b ha hb => ?_⟩
  obtain ⟨e, hadj⟩ := hp.way (er_gv hg k) ht i a b ha hb
  obtain ⟨hadj', hne⟩ := (er_adj hg hl).1 hadj
  obtain ⟨j, y, hj, hy, -, -, -⟩ := way_link hg ⟨e, hadj'⟩
  have hends := adj_link hg hadj' hj hy
  have hjk : j ≠ k := fun e => by
    subst e
    rw [hl] at hy
    cases hy
    exact hne hends
  rw [hj]
  simp
  omega
/-- P103. -/
theorem always_law {n : Nat} {ls : List Lk} {s t : Int} {k : Nat} (hg : gvB (n : Int) ls = true) (hs : 0 ≤ s ∧ s < (n : Int)) (ht : 0 ≤ t ∧ t < (n : Int)) (hk : k < ls.length) : repB (n : Int) ls s (k : Int) t = decide (0 ≤ bf (n : Int) (ls.eraseIdx k) s t) := by
  have hg' := er_gv hg k
  have hc : (vwB (n : Int) ls [s, t] && idxB ls (k : Int)) = true := by
    rw [vwB_of hg hs ht]
    unfold idxB
    simp
    omega
  have e : rpP (n : Int) ls s (k : Int) t = pathI (n : Int) (ls.eraseIdx k) s t := by
    unfold rpP
    rw [if_pos hc, show ((k : Int)).toNat = k by omega]
  unfold repB
  rw [e]
  have hf := (gvB_fit hg').1
  have hsy := bf_symm hf hs ht
  rcases bf_sg hf hs t with h0 | h0
  · have hp := path_isP (n := n) (vwB_of hg' hs ht) (by omega)
    have hl := hp.head.2
    unfold pathI
    rw [show ((n : Int)).toNat = n by omega]
    cases hq : pathL n (ls.eraseIdx k) s t with
    | nil => rw [hq] at hl; simp at hl
    | cons a r => simp; omega
  · rw [pathI_nil (fun h => by omega), h0]
    rfl
/-- P106, P107. -/
theorem after_law {n : Nat} {ls : List Lk} {s t : Int} {k : Nat} (h : rpP (n : Int) ls s (k : Int) t ≠ []) :
    endI (n : Int) (ls.eraseIdx k) s ((repA (n : Int) ls s (k : Int) t).map (dn k)) = some t ∧ costS (n : Int) (ls.eraseIdx k) s ((repA (n : Int) ls s (k : Int) t).map (dn k)) = costS (n : Int) ls s (repA (n : Int) ls s (k : Int) t) ∧ bf (n : Int) (ls.eraseIdx k) s t ≤ costS (n : Int) ls s (repA (n : Int) ls s (k : Int) t) := by
  obtain ⟨h1, h2, h3⟩ := rep_end h
  have hl8 := rpP_len (n : Int) ls s (k : Int) t
  have hrl := repA_len (n : Int) ls s (k : Int) t
  obtain ⟨m, k', l, e, e', hl, hg, hs, ht, hp⟩ := rpP_some h
  obtain rfl : n = m := by omega
  obtain rfl : k = k' := by omega
  obtain ⟨-, i2⟩ := not_needed hl (x := s) (st := repA (n : Int) ls s (k : Int) t) (by rw [h1]; rfl) h2
  have hx : (legsO (n : Int) ls s (repA (n : Int) ls s (k : Int) t)).any (legX (n : Int) ls (k : Int)) = false := by
    unfold crossS at h2
    rw [h1] at h2
    simpa using h2
  obtain ⟨j1, -, -⟩ := er_stack hg hl hs h3 hx
  have hE : endI (n : Int) (ls.eraseIdx k) s ((repA (n : Int) ls s (k : Int) t).map (dn k)) = some t := by
    unfold endI
    rw [if_pos]
    · exact j1
    · unfold stB
      rw [Bool.and_eq_true]
      exact ⟨vwB_single.2 ⟨er_gv hg k, hs⟩, decide_eq_true (by rw [List.length_map]; omega)⟩
  obtain ⟨m', q, e1, e2, -, -, -, hle, -, -⟩ := cost_least hE
  obtain rfl : n = m' := by omega
  subst e2
  exact ⟨hE, i2, by rw [← i2]; exact hle⟩
theorem repB_some {nn : Int} {ls : List Lk} {s x t : Int} (h : repB nn ls s x t = true) : rpP nn ls s x t ≠ [] := by
  unfold repB at h
  intro e
  rw [e] at h
  cases h
theorem repA_len8 (nn : Int) (ls : List Lk) (s x t : Int) : (repA nn ls s x t).length ≤ 8 := by
  have := rpP_len nn ls s x t
  have := repA_len nn ls s x t
  omega
theorem safe_case {nn : Int} {ls : List Lk} {s x t : Int} (h : rpP nn ls s x t ≠ []) (hst : s ≠ t) :
    (decide (t ∈ safeA nn ls s x) = true → repA nn ls s x t = [⟨1, t⟩]) ∧ (decide (t ∈ safeA nn ls s x) = false → 1 < (repA nn ls s x t).length ∨ ∃ l, (repA nn ls s x t)[0]? = some l ∧ l.k = 2) := by
  obtain ⟨n, k, l, rfl, -⟩ := rpP_some h
  obtain ⟨h1, h2⟩ := rep_safe h hst
  exact ⟨fun e => h1 (of_decide_eq_true e), fun e => h2 (of_decide_eq_false e)⟩
theorem cost_law {nn : Int} {ls : List Lk} {s x t : Int} (h : rpP nn ls s x t ≠ []) :
    ∃ (m k q : Nat), nn = (m : Int) ∧ x = (k : Int) ∧ k < ls.length ∧ gvB (m : Int) ls = true ∧ gvB (m : Int) (ls.eraseIdx k) = true ∧ (0 ≤ s ∧ s < (m : Int)) ∧ t = (q : Int) ∧ q < m ∧ bf (m : Int) (ls.eraseIdx k) s (q : Int) ≤ costS (m : Int) ls s (repA nn ls s x t) ∧
      endI (m : Int) (ls.eraseIdx k) s ((repA nn ls s x t).map (dn k)) = some (q : Int) ∧ costS (m : Int) (ls.eraseIdx k) s ((repA nn ls s x t).map (dn k)) = costS (m : Int) ls s (repA nn ls s x t) := by
  obtain ⟨m, k, l, rfl, rfl, hl, hg, hs, ht, -⟩ := rpP_some h
  obtain ⟨q, rfl⟩ : ∃ q : Nat, t = (q : Int) := ⟨t.toNat, by omega⟩
  obtain ⟨h1, h2, h3⟩ := after_law h
  exact ⟨m, k, q, rfl, rfl, (List.getElem?_eq_some_iff.1 hl).1, hg, er_gv hg k, hs, rfl, by omega, h3, h1, h2⟩
theorem own_law {n : Nat} {ls : List Lk} {s : Int} {k : Nat} (hg : gvB (n : Int) ls = true) (hs : 0 ≤ s ∧ s < (n : Int)) (hk : k < ls.length) : repA (n : Int) ls s (k : Int) s = [] ∧ repB (n : Int) ls s (k : Int) s = true := by
  obtain ⟨h1, h2⟩ := rep_own hg hs (List.getElem?_eq_getElem hk)
  refine ⟨h2, ?_⟩
  unfold repB
  rw [h1]
  rfl
theorem critical_law {n : Nat} {ls : List Lk} {k : Nat} {l : Lk} (hg : gvB (n : Int) ls = true) (hl : ls[k]? = some l) (p : Bool) (hp : p = true ↔ bf (n : Int) (ls.eraseIdx k) l.a l.b = -1) : repB (n : Int) ls l.a (k : Int) l.b = !p := by
  have h := rep_critical hg hl
  unfold repB
  cases hq : rpP (n : Int) ls l.a (k : Int) l.b with
  | nil => rw [hp.2 (h.1 hq)]; rfl
  | cons a r =>
    have : ¬ p = true := fun e => by
      have := h.2 (hp.1 e)
      rw [hq] at this
      cases this
    simp at this
    rw [this]
    rfl
theorem repU_lab (nn : Int) (ls : List Lk) (x : Int) : ∀ (m : Nat) (p : List Int) (l : Lb), l ∈ repU nn ls x m p → l.k = 2 → l.a < (ls.length : Int)
  | 0, p, l, h, _ => by simp [repU] at h
  | m + 1, [], l, h, _ => by simp [repU] at h
  | m + 1, [a], l, h, _ => by simp [repU] at h
  | m + 1, a :: b :: r, l, h, hk => by
    unfold repU at h
    split at h
    · rcases List.mem_cons.1 h with rfl | h
      · rcases Int.lt_or_le (linkI nn ls a b) 0 with h0 | h0
        · show linkI nn ls a b < _
          omega
        · obtain ⟨k, l, e, hl, -⟩ := linkI_at h0
          have := (List.getElem?_eq_some_iff.1 hl).1
          show linkI nn ls a b < _
          omega
      · exact repU_lab nn ls x m _ l h hk
    · rcases List.mem_cons.1 h with rfl | h
      · exact absurd hk (by show ¬ (1 : Int) = 2; decide)
      · exact repU_lab nn ls x m _ l h hk
theorem node_law {nn : Int} {ls : List Lk} {s x t : Int} (h : rpP nn ls s x t ≠ []) :
    ∃ m : Nat, nn = (m : Int) ∧ endO (m : Int) ls s (repA nn ls s x t) = some t ∧ ∀ (i : Nat) (l : Lb) (a : Int), (repA nn ls s x t)[i]? = some l → endO (m : Int) ls s ((repA nn ls s x t).take i) = some a → ∃ b, endO (m : Int) ls s ((repA nn ls s x t).take (i + 1)) = some b ∧ endI (m : Int) ls a [l] = some b ∧ (l.k = 1 → decide (l.a ∈ safeA (m : Int) ls a x) = true) := by
  obtain ⟨m, k, l0, rfl, rfl, hl0, hg, hs, ht, -⟩ := rpP_some h
  refine ⟨m, rfl, (rep_end h).2.2, fun i l a hl ha => ?_⟩
  obtain ⟨a', b, h1, h2, h3, h4, h5⟩ := rep_nodes h hl
  rw [h1] at ha
  cases ha
  refine ⟨b, h3, ?_, fun e => decide_eq_true (h5 e)⟩
  unfold endI
  rw [if_pos]
  · simp only [endO, h4]
  · unfold stB
    rw [Bool.and_eq_true]
    exact ⟨vwB_single.2 ⟨hg, h2⟩, by simp⟩
theorem Slb.one {w : World} {B g : Nat} {st : List Lb} (h : Slb w B (some ⟨g, 0, none⟩) st) {i : Nat} {l : Lb} (hl : st[i]? = some l) : Slb w B (some ⟨g, i * 2, none⟩) [l] := fun k l' hk => by
  obtain ⟨b, off, e, hb, h0, h1⟩ := h i l hl
  cases e
  have : k = 0 := by
    have := (List.getElem?_eq_some_iff.1 hk).1
    simpa using this
  subst this
  simp at hk
  subst hk
  exact ⟨g, i * 2, rfl, hb, by simpa using h0, by simpa using h1⟩


end Go.Proofs.YtenlofomkchlaaaDoor
