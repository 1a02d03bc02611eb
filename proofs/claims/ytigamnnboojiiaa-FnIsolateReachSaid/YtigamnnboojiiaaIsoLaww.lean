/-
  The walk of FnIsolate over this seat.
-/
import Derived.Test.YtigamnnboojiiaaIsoM
import Derived.Test.YtigamnnboojiiaaSameG
namespace Go.Proofs.Ytigamnnboojiiaa
open Go.RowKit

theorem iso_both (n : Int) (ls : List Lk) (x : Int) (hm : ls.length ≤ 2000000) (hnu : n ≤ 9223372036854775807) :
    ∃ (m : Int) (rs : List Lk) (ok : Bool), rs.length ≤ ls.length ∧
      (ok = true → gvB n ls = true ∧ m = n ∧ rs = ls.filter (fun l => !decide (l.a = x) && !decide (l.b = x))) ∧
      (∀ (A : Option Addr) (c : Nat) (w : World), Sl w w.heap.size A ls → Calls Try.prog 30 #[gval n A ls.length c, .int .i64 x] w (GRes m rs ok w)) ∧
      (∀ (A : Option Addr) (c : Nat) (w : World), Sl w w.heap.size A ls → Calls Try.prog 31 #[gval n A ls.length c, .int .i64 x] w (GRes m rs ok w)) := by
  by_cases h : isolateOk n ls x = true
  · refine ⟨n, keepTo (fun _ l => !decide (l.a = x) && !decide (l.b = x)) ls ls.length, true, keepTo_len _ _ _, fun _ => ⟨?_, rfl, keepTo_all _ _⟩, fun A c w hs => ?_, fun A c w hs => ?_⟩
    · unfold isolateOk at h
      simp only [Bool.and_eq_true] at h
      exact h.1
    · have := isolate_implA n A ls c x w hm hs
      rwa [if_pos h] at this
    · have := isolate_specA n A ls c x w hm hnu hs
      rwa [if_pos h] at this
  · refine ⟨0, [], false, Nat.zero_le _, (fun h => by cases h), fun A c w hs => ?_, fun A c w hs => ?_⟩
    · have := isolate_implA n A ls c x w hm hs
      rwa [if_neg h] at this
    · have := isolate_specA n A ls c x w hm hnu hs
      rwa [if_neg h] at this

theorem keep_next {T : Lk → Bool} {ls : List Lk} {k : Nat} {l : Lk} (h : ls[k]? = some l) : ((ls.take (k + 1)).filter T).length = ((ls.take k).filter T).length + (if T l = true then 1 else 0) := by
  rw [List.take_add_one, List.filter_append, h]
  cases ht : T l <;> simp [ht]


end Go.Proofs.Ytigamnnboojiiaa
