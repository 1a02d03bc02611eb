/-
  Plain facts: without a link no more nodes are reached, and no distance gets shorter.
-/
import Derived.Test.YtenlofomkchlaaaDoorB7
namespace Go.Proofs.YtenlofomkchlaaaDoor

theorem adj_sub {ls ms : List Lk} (h : ∀ l ∈ ls, l ∈ ms) {u v e : Int} (ha : Adj ls u v e) : Adj ms u v e := by
  obtain ⟨l, hl, hh, hc⟩ := ha
  exact ⟨l, h l hl, hh, hc⟩
theorem wk_sub {ls ms : List Lk} (h : ∀ l ∈ ls, l ∈ ms) {s v c : Int} {k : Nat} (hw : Wk ls s v c k) : Wk ms s v c k := by
  induction hw with
  | nil => exact .nil
  | snoc _ ha ih => exact ih.snoc (adj_sub h ha)
theorem bf_sub {n : Int} {ls ms : List Lk} (hf : Fit n ls) (hf' : Fit n ms) (h : ∀ l ∈ ls, l ∈ ms) {s : Int} (hs : 0 ≤ s ∧ s < n) (v : Int) (h0 : 0 ≤ bf n ls s v) : 0 ≤ bf n ms s v ∧ bf n ms s v ≤ bf n ls s v := by
  obtain ⟨k, hk⟩ := bf_walk hf hs h0
  exact bf_le hf' hs (wk_sub h hk)
theorem reach_sub {n : Nat} {ls ms : List Lk} (hg : gvB (n : Int) ls = true) (hg' : gvB (n : Int) ms = true) (h : ∀ l ∈ ls, l ∈ ms) {s : Int} (hs : 0 ≤ s ∧ s < (n : Int)) {x : Int} (hx : x ∈ reachL (n : Int) ls s) : x ∈ reachL (n : Int) ms s := by
  rw [reach_mem (vwB_one hg hs) (gvB_fit hg).1 hs] at hx
  rw [reach_mem (vwB_one hg' hs) (gvB_fit hg').1 hs]
  exact ⟨hx.1, (bf_sub (gvB_fit hg).1 (gvB_fit hg').1 h hs x hx.2).1⟩
theorem er_gv' {n : Int} {ls : List Lk} (hv : gvB n ls = true) (k : Nat) : gvB n (ls.eraseIdx k) = true := by
  rw [gvB_iff] at hv ⊢
  obtain ⟨h1, h2, h3, h4⟩ := hv
  exact ⟨h1, Nat.le_trans (List.length_eraseIdx_le _ _) h2, fun l hl => h3 l (List.mem_of_mem_eraseIdx hl), h4.sublist (List.eraseIdx_sublist _ _)⟩
end Go.Proofs.YtenlofomkchlaaaDoor
