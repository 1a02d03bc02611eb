/-
  Contracts over this seat: the laws' lists of numbers: the same, has, ascending.
-/
import Derived.Test.YtohflcbpjjnccabA2
import Derived.Test.YtohflcbpjjnccabA3
import Derived.Test.YtohflcbpjjnccabA5
import Derived.Test.YtohflcbpjjnccabA7
namespace Go.Proofs.Ytohflcbpjjnccab
open Go.RowKit

theorem sameInts_same (A1 A2 : Option Addr) (xs : List Int) (c1 c2 : Nat) (w : World) (hm : xs.length ≤ 2000000)
    (h1 : Sli w w.heap.size A1 xs) (h2 : Sli w w.heap.size A2 xs) :
   Calls Try.prog 68 #[.slice A1 xs.length c1, .slice A2 xs.length c2] w fun e w' => e = .returned (.bool true) ∧ Below w.heap.size w w' := by
  have R1 := Lib.hid h1
  have R2 := Lib.hid h2
  clear h1 h2
  go_enter Try.func68, Try.ntmps68
  go_wp2
  go_loopw [5] (fun i wr => ∃ k : Nat, k ≤ xs.length ∧ i = .int .i64 k ∧ Below w.heap.size w wr) (fun i _ => xs.length - (intOf i).toNat)
  case atStart => exact ⟨0, Nat.zero_le _, rfl, Below.refl _ _⟩
  case round =>
    obtain ⟨k, hk, rfl, hb⟩ := hrel
    by_cases hlt : k < xs.length
    · obtain ⟨x, hx⟩ : ∃ x, xs[k]? = some x := ⟨_, List.getElem?_eq_getElem hlt⟩
      obtain ⟨b, off, rfl, hbb, hc1⟩ := (R1.out.below hb) k x hx
      obtain ⟨b', off', rfl, hbb', hd1⟩ := (R2.out.below hb) k x hx
      clear hx
      go_wp2
      try go_quiet (fail)
      try go_wp2
      go_roundw
      case rel => exact ⟨k + 1, hlt, by go_num, by first | exact hb | exact hb.drew | exact ⟨hb.os, hb.tape, hb.output, hb.size, hb.block⟩⟩
      case measure => simp [intOf]; omega
    · have hge : xs.length ≤ k := by omega
      go_wp2
      go_ret
      exact ⟨rfl, hb⟩



end Go.Proofs.Ytohflcbpjjnccab

/-
  The walk of FnLinkBoth over this seat.
-/
namespace Go.Proofs.Ytohflcbpjjnccab
open Go.RowKit

theorem linkI_swap (nn : Int) (ls : List Lk) (a b : Int) : linkI nn ls b a = linkI nn ls a b := by
  rw [← linkI_eq, ← linkI_eq, Int.min_comm, Int.max_comm]
theorem linkI_at {nn : Int} {ls : List Lk} {a b : Int} (h : 0 ≤ linkI nn ls a b) : ∃ (k : Nat) (l : Lk), linkI nn ls a b = k ∧ ls[k]? = some l ∧ l.a = min a b ∧ l.b = max a b := by
  rw [← linkI_eq] at h ⊢
  split at h
  · rename_i hv
    rw [if_pos hv]
    unfold l1I at h ⊢
    split at h
    · rename_i i hi
      rw [List.findIdx?_eq_some_iff_getElem] at hi
      obtain ⟨hlt, hp, _⟩ := hi
      exact ⟨i, ls[i], rfl, List.getElem?_eq_getElem hlt, by simpa using hp⟩
    · omega
  · omega






theorem Own1i.drew {w : World} {A : Option Addr} {g : Nat} {xs : List Int} (h : Own1i w A g xs) : Own1i w.drew A g xs := h


end Go.Proofs.Ytohflcbpjjnccab

/-
  The walk of FnNeighbours over this seat.
-/
namespace Go.Proofs.Ytohflcbpjjnccab
open Go.RowKit

theorem nbI_asc (nn : Int) (ls : List Lk) (a : Int) : (nbI nn ls a).Pairwise (· < ·) := by
  rw [← nbI_eq]
  split
  · exact nbS_asc a ls 8
  · simp
theorem gvB_nodes {nn : Int} {ls : List Lk} (h : gvB nn ls = true) : 1 ≤ nn ∧ nn ≤ 8 ∧ ls.length ≤ 14 := by
  unfold gvB inB at h
  simp only [Bool.and_eq_true, decide_eq_true_eq] at h
  omega
theorem nbI_has {nn : Int} {ls : List Lk} (hv : gvB nn ls = true) (a : Int) (x : Nat) (hx : (x : Int) < nn) : decide ((x : Int) ∈ nbI nn ls a) = decide (0 ≤ linkI nn ls a x) := by
  have := gvB_nodes hv
  rw [← nbI_eq, ← linkI_eq, if_pos hv, if_pos hv]
  rw [decide_eq_decide, nbS_mem]
  constructor
  · rintro ⟨j, h1, h2, h3⟩
    have : x = j := by omega
    subst this
    exact h3
  · exact fun h => ⟨x, by omega, rfl, h⟩


end Go.Proofs.Ytohflcbpjjnccab

/-
  Of lists of links: those that pass a test, out of a valid graph's, are a valid graph's.
-/
namespace Go.Proofs.Ytohflcbpjjnccab
open Go.RowKit

theorem keepTo_filter (T : Lk → Bool) (ls : List Lk) (k : Nat) : keepTo (fun _ l => T l) ls k = (ls.take k).filter T := by
  induction k with
  | zero => simp [keepTo]
  | succ k ih =>
    simp only [keepTo, ih]
    rw [List.take_add_one, List.filter_append]
    congr 1
    cases h : ls[k]? with
    | none => simp
    | some l => cases ht : T l <;> simp [ht]
theorem keepTo_all (T : Lk → Bool) (ls : List Lk) : keepTo (fun _ l => T l) ls ls.length = ls.filter T := by
  rw [keepTo_filter, List.take_length]

theorem before_trans {a b c : Lk} (h : beforeB a b = true) (k : beforeB b c = true) : beforeB a c = true := by
  unfold beforeB at *
  simp only [Bool.or_eq_true, Bool.and_eq_true, decide_eq_true_eq] at *
  omega
theorem okAt_iff {n : Int} {ls : List Lk} {j : Nat} (hj : j < ls.length) : okAt n ls j = true ↔ allowsB n ls[j] = true ∧ (∀ i (hi : i + 1 = j), beforeB (ls[i]'(by omega)) ls[j] = true) := by
  unfold okAt
  rw [List.getElem?_eq_getElem hj]
  by_cases h0 : j = 0
  · subst h0
    simp
  · obtain ⟨i, rfl⟩ : ∃ i, j = i + 1 := ⟨j - 1, by omega⟩
    simp only [Nat.add_sub_cancel, Nat.add_one_ne_zero, if_false, Bool.and_eq_true]
    rw [List.getElem?_eq_getElem (by omega)]
    constructor
    · rintro ⟨h1, h2⟩
      exact ⟨h1, fun k hk => by have : k = i := by omega
                                subst this
                                exact h2⟩
    · rintro ⟨h1, h2⟩
      exact ⟨h1, h2 i rfl⟩
theorem gvB_iff {n : Int} {ls : List Lk} : gvB n ls = true ↔ inB n 1 8 = true ∧ ls.length ≤ 14 ∧ (∀ l ∈ ls, allowsB n l = true) ∧ ls.Pairwise (fun a b => beforeB a b = true) := by
  unfold gvB
  rw [Bool.and_eq_true, Bool.and_eq_true, decide_eq_true_eq, List.all_eq_true, and_assoc]
  refine and_congr Iff.rfl (and_congr Iff.rfl ⟨fun h => ⟨?_, ?_⟩, ?_⟩)
  · intro l hl
    obtain ⟨j, hj, rfl⟩ := List.getElem_of_mem hl
    exact ((okAt_iff hj).1 (h j (by simpa using hj))).1
  · rw [List.pairwise_iff_getElem]
    intro i j hi hj hij
    induction j with
    | zero => omega
    | succ j ih =>
      have hs := ((okAt_iff hj).1 (h (j + 1) (by simpa using hj))).2 j rfl
      by_cases e : i = j
      · subst e
        exact hs
      · exact before_trans (ih (by omega) (by omega)) hs
  · rintro ⟨h1, h2⟩ j hj
    have hj : j < ls.length := by simpa using hj
    rw [okAt_iff hj]
    exact ⟨h1 _ (List.getElem_mem _), fun i hi => (List.pairwise_iff_getElem.1 h2) i j (by omega) hj (by omega)⟩
theorem gvB_filter {n : Int} {ls : List Lk} (T : Lk → Bool) (h : gvB n ls = true) : gvB n (ls.filter T) = true := by
  rw [gvB_iff] at h ⊢
  obtain ⟨h1, h2, h3, h4⟩ := h
  exact ⟨h1, Nat.le_trans (List.length_filter_le _ _) h2, fun l hl => h3 l (List.mem_filter.1 hl).1, h4.sublist List.filter_sublist⟩
theorem linkI_mem {n : Int} {ls : List Lk} (h : gvB n ls = true) {l : Lk} (hl : l ∈ ls) : 0 ≤ linkI n ls l.a l.b := by
  rw [← linkI_eq, if_pos h]
  obtain ⟨j, hj⟩ := List.getElem?_of_mem hl
  have ha := gvB_at h hj
  unfold l1I
  split
  · omega
  · rename_i hn
    exfalso
    rw [List.findIdx?_eq_none_iff] at hn
    have := hn l hl
    have h1 : min l.a l.b = l.a := by omega
    have h2 : max l.a l.b = l.b := by omega
    simp [h1, h2] at this
theorem nbTo_none {x : Int} {ls : List Lk} (h : ∀ l ∈ ls, touchB l x = false) (k : Nat) : nbTo x ls k = [] := by
  induction k with
  | zero => rfl
  | succ k ih =>
    cases hk : ls[k]? with
    | none => simp [nbTo, hk, ih]
    | some l => rw [nbTo_miss hk (h l (List.mem_of_getElem? hk)), ih]
theorem nbI_none {n x : Int} {ls : List Lk} (h : ∀ l ∈ ls, touchB l x = false) : nbI n ls x = [] := by
  unfold nbI
  split
  · rw [nbTo_none h]; rfl
  · rfl

end Go.Proofs.Ytohflcbpjjnccab

/-
  The walk of FnIsolate over this seat.
-/
namespace Go.Proofs.Ytohflcbpjjnccab
open Go.RowKit


theorem keep_next {T : Lk → Bool} {ls : List Lk} {k : Nat} {l : Lk} (h : ls[k]? = some l) : ((ls.take (k + 1)).filter T).length = ((ls.take k).filter T).length + (if T l = true then 1 else 0) := by
  rw [List.take_add_one, List.filter_append, h]
  cases ht : T l <;> simp [ht]


end Go.Proofs.Ytohflcbpjjnccab
