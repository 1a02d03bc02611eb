/-
  Plain facts: what RepairPath and RepairStack answer, and what the laws of repairs ask.
-/
import Derived.Test.YtkcnbgimdiggoabVa
import Derived.Test.YtkcnbgimdiggoabC4
namespace Go.Proofs.Ytkcnbgimdiggoab

def rpP (nn : Int) (ls : List Lk) (s x t : Int) : List Int := if vwB nn ls [s, t] && idxB ls x then pathI nn (ls.eraseIdx x.toNat) s t else []
def repA (nn : Int) (ls : List Lk) (s x t : Int) : List Lb := repU nn ls x (rpP nn ls s x t).length (rpP nn ls s x t)
theorem rpP_len (nn : Int) (ls : List Lk) (s x t : Int) : (rpP nn ls s x t).length ≤ 8 := by
  unfold rpP
  split
  · exact pathI_len _ _ _ _
  · simp
/-- P105. -/
theorem repA_len (nn : Int) (ls : List Lk) (s x t : Int) : (repA nn ls s x t).length ≤ (rpP nn ls s x t).length - 1 := repU_len _ _ _ _ _
theorem idx_at {ls : List Lk} {x : Int} (h : idxB ls x = true) : ∃ (k : Nat) (l : Lk), x = (k : Int) ∧ ls[k]? = some l := by
  unfold idxB at h
  simp only [Bool.and_eq_true, decide_eq_true_eq] at h
  exact ⟨x.toNat, ls[x.toNat]'(by omega), by omega, List.getElem?_eq_getElem _⟩
theorem rpP_some {nn : Int} {ls : List Lk} {s x t : Int} (h : rpP nn ls s x t ≠ []) : ∃ (n k : Nat) (l : Lk), nn = (n : Int) ∧ x = (k : Int) ∧ ls[k]? = some l ∧ gvB (n : Int) ls = true ∧ (0 ≤ s ∧ s < (n : Int)) ∧ (0 ≤ t ∧ t < (n : Int)) ∧ IsP n (ls.eraseIdx k) t s (rpP nn ls s x t) := by
  unfold rpP at h ⊢
  by_cases hc : (vwB nn ls [s, t] && idxB ls x) = true
  · rw [if_pos hc] at h ⊢
    rw [Bool.and_eq_true] at hc
    obtain ⟨k, l, rfl, hl⟩ := idx_at hc.2
    obtain ⟨n, rfl, _, _, hp⟩ := pathI_some h
    obtain ⟨hg, hs, ht⟩ := vwB_two hc.1
    exact ⟨n, k, l, rfl, rfl, hl, hg, hs, ht, hp⟩
  · rw [if_neg hc] at h
    exact absurd rfl h
theorem isP_nodes {n : Nat} {ls : List Lk} {s t : Int} {p : List Int} (ht : 0 ≤ t ∧ t < (n : Int)) (h : IsP n ls t s p) : ∀ z ∈ p, 0 ≤ z ∧ z < (n : Int) := fun z hz => by
  obtain ⟨i, hi⟩ := List.getElem?_of_mem hz
  exact (h.rest hi).node ht
/-- P102. -/
theorem rep_end {nn : Int} {ls : List Lk} {s x t : Int} (h : rpP nn ls s x t ≠ []) : endI nn ls s (repA nn ls s x t) = some t ∧ crossS nn ls s (repA nn ls s x t) x = false ∧ endO nn ls s (repA nn ls s x t) = some t := by
  have hl8 := rpP_len nn ls s x t
  have hrl := repA_len nn ls s x t
  obtain ⟨n, k, l, rfl, rfl, hl, hg, hs, ht, hp⟩ := rpP_some h
  obtain ⟨e1, e2⟩ := repU_end hg hl (rpP (n : Int) ls s (k : Int) t).length (rpP (n : Int) ls s (k : Int) t) s (by omega) hp.head.1 (isP_nodes ht hp) (hp.way (er_gv hg k) ht)
  rw [hp.end] at e1
  have e3 : endI (n : Int) ls s (repA (n : Int) ls s (k : Int) t) = some t := by
    unfold endI
    rw [if_pos]
    · exact e1
    · unfold stB
      rw [Bool.and_eq_true]
      exact ⟨vwB_single.2 ⟨hg, hs⟩, decide_eq_true (by omega)⟩
  refine ⟨e3, ?_, e1⟩
  unfold crossS
  rw [e3]
  exact e2
/-- P108. -/
theorem rep_nodes {n : Nat} {ls : List Lk} {s x t : Int} (h : rpP (n : Int) ls s x t ≠ []) {i : Nat} {l : Lb} (hi : (repA (n : Int) ls s x t)[i]? = some l) :
    ∃ a b, endO (n : Int) ls s ((repA (n : Int) ls s x t).take i) = some a ∧ (0 ≤ a ∧ a < (n : Int)) ∧ endO (n : Int) ls s ((repA (n : Int) ls s x t).take (i + 1)) = some b ∧ stepO (n : Int) ls a l = some b ∧ (l.k = 1 → l.a ∈ safeA (n : Int) ls a x) := by
  obtain ⟨_, hx, he⟩ := rep_end h
  obtain ⟨n', k, m, e, rfl, hl, hg, hs, ht, hp⟩ := rpP_some h
  obtain rfl : n = n' := by omega
  obtain ⟨a, ha⟩ := endO_upto he i
  obtain ⟨b, hb⟩ := endO_upto he (i + 1)
  have hst : stepO (n : Int) ls a l = some b := by rw [← endO_next ha hi]; exact hb
  have har := endO_node hg hs ha
  refine ⟨a, b, ha, har, hb, hst, fun hk => ?_⟩
  have hleg := legsO_at he ha hi
  unfold crossS at hx
  rw [(rep_end h).1] at hx
  have hx2 : (legsO (n : Int) ls s (repA (n : Int) ls s (k : Int) t)).any (legX (n : Int) ls (k : Int)) = false := hx
  rw [List.any_eq_false] at hx2
  have hno := hx2 _ (List.mem_of_getElem? hleg)
  have hlp := stepO_leg hst
  have hcons := leg_cons hg har hlp
  have hrok : rokB (n : Int) ls a (k : Int) = true := by
    unfold rokB idxB
    rw [vwB_single.2 ⟨hg, har⟩]
    have := (List.getElem?_eq_some_iff.1 hl).1
    simp
    omega
  rw [safe_mem hrok]
  unfold legX at hno
  rw [if_pos (show (l, legP (n : Int) ls a l).1.k = 1 from hk)] at hno
  have hhd : (legP (n : Int) ls a l).headD 0 = a := by rw [hcons]; rfl
  have hpi : pathI (n : Int) ls a l.a ≠ [] := by
    unfold legP at hlp
    rw [if_pos hk] at hlp
    exact hlp
  obtain ⟨n2, e2, hv2, h0, _⟩ := pathI_some hpi
  obtain rfl : n = n2 := by omega
  obtain ⟨_, _, hla⟩ := vwB_two hv2
  refine ⟨hla, by rw [bf_symm (gvB_fit hg).1 har hla]; exact h0, ?_⟩
  have : usedB (n : Int) ls ((legP (n : Int) ls a l).headD 0) l.a (k : Int) = false := by simpa using hno
  rwa [hhd] at this
/-- P104. -/
theorem rep_safe {n : Nat} {ls : List Lk} {s x t : Int} (h : rpP (n : Int) ls s x t ≠ []) (hst : s ≠ t) :
    (t ∈ safeA (n : Int) ls s x → repA (n : Int) ls s x t = [⟨1, t⟩]) ∧ (t ∉ safeA (n : Int) ls s x → 1 < (repA (n : Int) ls s x t).length ∨ ∃ l, (repA (n : Int) ls s x t)[0]? = some l ∧ l.k = 2) := by
  obtain ⟨n', k, m, e, rfl, hl, hg, hs, ht, hp⟩ := rpP_some h
  obtain rfl : n = n' := by omega
  have hrok : rokB (n : Int) ls s (k : Int) = true := by
    unfold rokB idxB
    rw [vwB_single.2 ⟨hg, hs⟩]
    have := (List.getElem?_eq_some_iff.1 hl).1
    simp
    omega
  have hsm := safe_mem (t := t) hrok
  unfold repA
  generalize rpP (n : Int) ls s (k : Int) t = p at *
  have hh := hp.head
  have he := hp.end
  match p, hh, he with
  | [a], hh, he =>
    exfalso
    simp at hh he
    exact hst (by rw [← hh, ← he])
  | a :: b :: r, hh, he =>
    obtain rfl : a = s := by simpa using hh.1
    obtain ⟨hS1, hS2, hS3⟩ := lastS_spec (safeB (n : Int) ls a (k : Int)) (b :: r)
    have hend : (b :: r)[r.length]? = some t := by simpa using he
    have hsb : safeB (n : Int) ls a (k : Int) t = true ↔ t ∈ safeA (n : Int) ls a (k : Int) := by
      rw [hsm]
      unfold safeB
      simp only [Bool.and_eq_true, decide_eq_true_eq, Bool.not_eq_true']
      exact ⟨fun h => ⟨ht, h⟩, fun h => h.2⟩
    have hun : repU (n : Int) ls (k : Int) (a :: b :: r).length (a :: b :: r) = match lastS (safeB (n : Int) ls a (k : Int)) (b :: r) with
      | 0 => ⟨2, linkI (n : Int) ls a b⟩ :: repU (n : Int) ls (k : Int) (b :: r).length (b :: r)
      | j + 1 => ⟨1, ((b :: r)[j]?).getD 0⟩ :: repU (n : Int) ls (k : Int) (b :: r).length ((b :: r).drop j) := rfl
    rw [hun]
    refine ⟨fun hin => ?_, fun hout => ?_⟩
    · have hS : lastS (safeB (n : Int) ls a (k : Int)) (b :: r) = r.length + 1 := by
        by_cases hlt : lastS (safeB (n : Int) ls a (k : Int)) (b :: r) ≤ r.length
        · have := hS3 r.length t hlt hend
          rw [hsb.2 hin] at this
          cases this
        · simp at hS1
          omega
      rw [hS]
      dsimp only
      have hd : (b :: r).drop r.length = [t] := by
        obtain ⟨hk, hx⟩ := List.getElem?_eq_some_iff.1 hend
        rw [List.drop_eq_getElem_cons hk, hx, List.drop_eq_nil_of_le (by simp)]
      rw [hd, hend]
      rfl
    · split
      · exact .inr ⟨_, rfl, rfl⟩
      · rename_i j hj
        obtain ⟨y, hy, hys⟩ := hS2 j hj
        have hjr : j < r.length := by
          simp at hS1
          by_cases e : j = r.length
          · rw [e, hend] at hy
            cases hy
            exact absurd (hsb.1 hys) hout
          · omega
        left
        have hd : ∃ u v q, (b :: r).drop j = u :: v :: q := by
          match hq : (b :: r).drop j with
          | [] => have := congrArg List.length hq; simp at this; omega
          | [u] => have := congrArg List.length hq; simp at this; omega
          | u :: v :: q => exact ⟨u, v, q, rfl⟩
        obtain ⟨u, v, q, hd⟩ := hd
        rw [hd]
        show 1 < (_ :: (match lastS (safeB (n : Int) ls u (k : Int)) (v :: q) with
          | 0 => ⟨2, linkI (n : Int) ls u v⟩ :: repU (n : Int) ls (k : Int) r.length (v :: q)
          | j + 1 => ⟨1, ((v :: q)[j]?).getD 0⟩ :: repU (n : Int) ls (k : Int) r.length ((v :: q).drop j) : List Lb)).length
        split <;> simp
/-- P110. -/
theorem rep_critical {n : Nat} {ls : List Lk} (hg : gvB (n : Int) ls = true) {k : Nat} {l : Lk} (hl : ls[k]? = some l) : rpP (n : Int) ls l.a (k : Int) l.b = [] ↔ bf (n : Int) (ls.eraseIdx k) l.a l.b = -1 := by
  have ho := gvB_at hg hl
  have hg' := er_gv hg k
  have hc : (vwB (n : Int) ls [l.a, l.b] && idxB ls (k : Int)) = true := by
    rw [vwB_of hg (by omega) (by omega)]
    have := (List.getElem?_eq_some_iff.1 hl).1
    unfold idxB
    simp
    omega
  unfold rpP
  rw [if_pos hc, show ((k : Int)).toNat = k by omega]
  have hf := (gvB_fit hg').1
  have hsy := bf_symm hf (s := l.a) (v := l.b) (by omega) (by omega)
  rcases bf_sg hf (s := l.a) (by omega) l.b with h0 | h0
  · constructor
    · intro h
      have hp := path_isP (n := n) (vwB_of hg' (s := l.a) (t := l.b) (by omega) (by omega)) (by omega)
      have := hp.head.2
      unfold pathI at h
      rw [show ((n : Int)).toNat = n by omega] at h
      rw [h] at this
      simp at this
    · intro h
      omega
  · constructor
    · intro _
      exact h0
    · intro _
      exact pathI_nil (fun h => by omega)
/-- P111. -/
theorem rep_own {n : Nat} {ls : List Lk} {s : Int} {k : Nat} {l : Lk} (hg : gvB (n : Int) ls = true) (hs : 0 ≤ s ∧ s < (n : Int)) (hl : ls[k]? = some l) : rpP (n : Int) ls s (k : Int) s = [s] ∧ repA (n : Int) ls s (k : Int) s = [] := by
  have hc : (vwB (n : Int) ls [s, s] && idxB ls (k : Int)) = true := by
    rw [vwB_of hg hs hs]
    have := (List.getElem?_eq_some_iff.1 hl).1
    unfold idxB
    simp
    omega
  have e : rpP (n : Int) ls s (k : Int) s = [s] := by
    unfold rpP
    rw [if_pos hc, show ((k : Int)).toNat = k by omega]
    exact pathL_self (er_gv hg k) hs
  refine ⟨e, ?_⟩
  unfold repA
  rw [e]
  rfl
end Go.Proofs.Ytkcnbgimdiggoab
