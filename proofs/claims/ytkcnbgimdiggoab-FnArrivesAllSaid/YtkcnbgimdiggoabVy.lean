/-
  A drawn graph without a link, and what stays: for the walks of the laws of repairs.
-/
import Derived.Test.YtkcnbgimdiggoabVz
import Derived.Test.YtkcnbgimdiggoabWr
namespace Go.Proofs.Ytkcnbgimdiggoab
open Go.RowKit

theorem wo_drawn (n : Int) (A : Option Addr) (ls : List Lk) (c k : Nat) (w : World) (hm : ls.length ≤ 2000000) (hg : gvB n ls = true) (hk : k < ls.length) (hA : 0 < ls.length → ∃ g, A = some ⟨g, 0, none⟩) (h : Sl w w.heap.size A ls) :
   Calls Try.prog 21 #[gval n A ls.length c, .int .i64 (k : Int)] w (GRes n (ls.eraseIdx k) true w) := by
  obtain ⟨g, rfl⟩ := hA (by omega)
  have := without_impl n g ls c (k : Int) w hm h
  rw [if_pos (by unfold withoutOk inB; rw [hg]; simp; omega), keep_erase] at this
  exact this
theorem same_law {n : Int} {ls : List Lk} {s x : Int} (h : safeA n ls s x ≠ []) :
    ∃ (m k : Nat), n = (m : Int) ∧ x = (k : Int) ∧ k < ls.length ∧ gvB (m : Int) ls = true ∧ (0 ≤ s ∧ s < (m : Int)) ∧ gvB (m : Int) (ls.eraseIdx k) = true ∧ ∀ (i : Nat) (t : Int), (safeA n ls s x)[i]? = some t → ∃ tn : Nat, t = (tn : Int) ∧ tn < m ∧ bf (m : Int) (ls.eraseIdx k) s (tn : Int) = bf (m : Int) ls s (tn : Int) := by
  have hr := safe_some h
  obtain ⟨hg, hs, hx0, hx1⟩ := rok_parts hr
  have hn1 := (gvB_fit hg).2.1
  obtain ⟨m, rfl⟩ : ∃ m : Nat, n = (m : Int) := ⟨n.toNat, by omega⟩
  obtain ⟨k, rfl⟩ : ∃ k : Nat, x = (k : Int) := ⟨x.toNat, by omega⟩
  have hk : k < ls.length := by omega
  refine ⟨m, k, rfl, rfl, hk, hg, hs, er_gv hg k, fun i t ht => ?_⟩
  obtain ⟨⟨h0, h1⟩, _, hu⟩ := (safe_mem hr).1 (List.mem_of_getElem? ht)
  obtain ⟨tn, rfl⟩ : ∃ q : Nat, t = (q : Int) := ⟨t.toNat, by omega⟩
  refine ⟨tn, rfl, by omega, ?_⟩
  rw [← usedB_back, used_at (vwB_of hg ⟨h0, h1⟩ hs) (List.getElem?_eq_getElem hk)] at hu
  exact er_bf hg (List.getElem?_eq_getElem hk) hs ⟨h0, h1⟩ hu
end Go.Proofs.Ytkcnbgimdiggoab
