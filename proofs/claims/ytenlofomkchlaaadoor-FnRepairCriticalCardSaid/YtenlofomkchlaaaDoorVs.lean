/-
  Contracts over this seat: the program's RepairSafe and RepairNeeded.
-/
import Derived.Test.YtenlofomkchlaaaDoorVe
import Derived.Test.YtenlofomkchlaaaDoorB6
import Derived.Test.YtenlofomkchlaaaDoorC2
namespace Go.Proofs.YtenlofomkchlaaaDoor
open Go.RowKit Go.Maps

/-- The reached nodes of which it is as asked whether a shortest path crosses the link. -/
def rwA (nn : Int) (ls : List Lk) (s x : Int) (b : Bool) : List Int := if idxB ls x = true then (reachL nn ls s).filter (fun t => usedB nn ls s t x == b) else []
theorem reach_list {n : Nat} {ls : List Lk} {s : Int} (hg : gvB (n : Int) ls = true) (hs : 0 ≤ s ∧ s < (n : Int)) : reachL (n : Int) ls s = (nodL n).filter (fun t => decide (0 ≤ bf (n : Int) ls s t)) := by
  have key : ∀ k, k ≤ n → rTo (fl n (bf (n : Int) ls s)) k = (nodL k).filter (fun t => decide (0 ≤ bf (n : Int) ls s t)) := by
    intro k
    induction k with
    | zero => intro _; rfl
    | succ k ih =>
      intro hk
      rw [nodL_next, ← ih (by omega)]
      have hd : (fl n (bf (n : Int) ls s))[k]? = some (bf (n : Int) ls s (k : Int)) := fl_at (show k < n by omega)
      rcases bf_sg (gvB_fit hg).1 hs (k : Int) with h | h
      · rw [rTo_hit hd (by omega), decide_eq_true h]
        rfl
      · rw [rTo_miss hd h, decide_eq_false (by omega)]
        simp
  unfold reachL
  rw [distL_fl (vwB_one hg hs), fl_len]
  exact key n (Nat.le_refl _)
theorem reach_none {nn : Int} {ls : List Lk} {s : Int} (h : vwB nn ls [s] = false) : reachL nn ls s = [] := by
  unfold reachL distL
  rw [h]
  rfl
theorem reach_len8 (n : Int) (ls : List Lk) (s : Int) : (reachL n ls s).length ≤ 8 := Nat.le_trans (rTo_len _ _) (distL_len n ls s)
theorem rok_idx {nn : Int} {ls : List Lk} {s x : Int} (hi : idxB ls x = true) (h : rokB nn ls s x = false) : vwB nn ls [s] = false := by
  unfold rokB at h
  rw [hi, Bool.and_true] at h
  exact h
theorem rwA_safe (nn : Int) (ls : List Lk) (s x : Int) : rwA nn ls s x false = safeA nn ls s x := by
  unfold rwA
  cases hi : idxB ls x with
  | false =>
    have hr : rokB nn ls s x = false := by unfold rokB; rw [hi, Bool.and_false]
    unfold safeA
    rw [hr]
    rfl
  | true =>
    rw [if_pos rfl]
    cases hr : rokB nn ls s x with
    | false =>
      rw [reach_none (rok_idx hi hr)]
      unfold safeA
      rw [hr]
      rfl
    | true =>
      have hp := hr
      unfold rokB at hp
      rw [Bool.and_eq_true] at hp
      obtain ⟨hg, hs⟩ := vwB_single.1 hp.1
      have hn1 := (gvB_fit hg).2.1
      obtain ⟨n, rfl⟩ : ∃ n : Nat, nn = (n : Int) := ⟨nn.toNat, by omega⟩
      unfold safeA
      rw [if_pos hr, reach_list hg hs, List.filter_filter, show ((n : Int)).toNat = n by omega]
      refine List.filter_congr fun t _ => ?_
      unfold safeB
      cases usedB (n : Int) ls s t x <;> simp
theorem rwA_need (nn : Int) (ls : List Lk) (s x : Int) : rwA nn ls s x true = needA nn ls s x := by
  unfold rwA
  cases hi : idxB ls x with
  | false =>
    have hr : rokB nn ls s x = false := by unfold rokB; rw [hi, Bool.and_false]
    unfold needA
    rw [hr]
    rfl
  | true =>
    rw [if_pos rfl]
    cases hr : rokB nn ls s x with
    | false =>
      rw [reach_none (rok_idx hi hr)]
      unfold needA
      rw [hr]
      rfl
    | true =>
      have hp := hr
      unfold rokB at hp
      rw [Bool.and_eq_true] at hp
      obtain ⟨hg, hs⟩ := vwB_single.1 hp.1
      have hn1 := (gvB_fit hg).2.1
      obtain ⟨n, rfl⟩ : ∃ n : Nat, nn = (n : Int) := ⟨nn.toNat, by omega⟩
      unfold needA
      rw [if_pos hr, reach_list hg hs, List.filter_filter, show ((n : Int)).toNat = n by omega]
      refine List.filter_congr fun t _ => ?_
      cases hu : usedB (n : Int) ls s t x with
      | false => simp
      | true => have := used_reach hu; simp [this]



end Go.Proofs.YtenlofomkchlaaaDoor
