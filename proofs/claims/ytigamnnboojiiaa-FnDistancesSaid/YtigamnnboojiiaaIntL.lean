/-
  Contracts over this seat: the laws' lists of numbers: the same, has, ascending.
-/
import Derived.Test.YtigamnnboojiiaaMark
import Derived.Test.YtigamnnboojiiaaNbS
namespace Go.Proofs.Ytigamnnboojiiaa
open Go.RowKit

theorem sameInts_same (A1 A2 : Option Addr) (xs : List Int) (c1 c2 : Nat) (w : World) (hm : xs.length ≤ 2000000)
    (h1 : Sli w w.heap.size A1 xs) (h2 : Sli w w.heap.size A2 xs) :
   Calls Try.prog 25 #[.slice A1 xs.length c1, .slice A2 xs.length c2] w fun e w' => e = .returned (.bool true) ∧ Below w.heap.size w w' := by
  have R1 := Lib.hid h1
  have R2 := Lib.hid h2
  clear h1 h2
  go_enter Try.func25, Try.ntmps25
  go_wp2
  go_loopw [5] (fun i wr => ∃ k : Nat, k ≤ xs.length ∧ i = .int .i64 k ∧ Below w.heap.size w wr) (fun i _ => xs.length - (intOf i).toNat)
  case atStart => exact ⟨0, Nat.zero_le _, rfl, Below.refl _ _⟩
  case round =>
    obtain ⟨k, hk, rfl, hb⟩ := hrel
    by_cases hlt : k < xs.length
    · obtain ⟨x, hx⟩ : ∃ x, xs[k]? = some x := ⟨_, List.getElem?_eq_getElem hlt⟩
      obtain ⟨b, off, rfl, hbb, hc1⟩ := (R1.out.below hb) k x hx
      obtain ⟨b', off', rfl, hbb', hd1⟩ := (R2.out.below hb) k x hx
      clear hx
      go_wp2
      try go_quiet (fail)
      try go_wp2
      go_roundw
      case rel => exact ⟨k + 1, hlt, by go_num, by first | exact hb | exact hb.drew | exact ⟨hb.os, hb.tape, hb.output, hb.size, hb.block⟩⟩
      case measure => simp [intOf]; omega
    · have hge : xs.length ≤ k := by omega
      go_wp2
      go_ret
      exact ⟨rfl, hb⟩

theorem hasInt_any (A : Option Addr) (xs : List Int) (c : Nat) (n : Int) (w : World) (hm : xs.length ≤ 2000000)
    (h1 : Sli w w.heap.size A xs) :
   Calls Try.prog 27 #[.slice A xs.length c, .int .i64 n] w fun e w' => e = .returned (.bool (decide (n ∈ xs))) ∧ Below w.heap.size w w' := by
  have R1 := Lib.hid h1
  clear h1
  go_enter Try.func27, Try.ntmps27
  go_wp2
  go_loopw [5] (fun i wr => ∃ k : Nat, k ≤ xs.length ∧ (∀ j, j < k → xs[j]? ≠ some n) ∧ i = .int .i64 k ∧ Below w.heap.size w wr) (fun i _ => xs.length - (intOf i).toNat)
  case atStart => exact ⟨0, Nat.zero_le _, fun j h => by omega, rfl, Below.refl _ _⟩
  case round =>
    obtain ⟨k, hk, hj, rfl, hb⟩ := hrel
    by_cases hlt : k < xs.length
    · obtain ⟨x, hx⟩ : ∃ x, xs[k]? = some x := ⟨_, List.getElem?_eq_getElem hlt⟩
      have HX := Lib.hid hx
      obtain ⟨b, off, rfl, hbb, hc1⟩ := (R1.out.below hb) k x hx
      clear hx
      by_cases hxn : x = n
      · subst hxn
        go_wp2
        try go_quiet (fail)
        try go_wp2
        go_ret
        exact ⟨ret_bool (by simpa using (List.mem_of_getElem? HX.out)), by first | exact hb | exact hb.drew | exact ⟨hb.os, hb.tape, hb.output, hb.size, hb.block⟩⟩
      · have hxn' : (x == n) = false := by simpa using hxn
        go_wp2
        try go_quiet (fail)
        try go_wp2
        go_roundw
        case rel =>
          refine ⟨k + 1, hlt, fun j hjk => ?_, by go_num, by first | exact hb | exact hb.drew | exact ⟨hb.os, hb.tape, hb.output, hb.size, hb.block⟩⟩
          by_cases e : j = k
          · subst e
            rw [HX.out]
            exact fun h => hxn (Option.some.inj h)
          · exact hj j (by omega)
        case measure => simp [intOf]; omega
    · have hge : xs.length ≤ k := by omega
      have HJ := Lib.hid hj
      clear hj
      go_wp2
      go_ret
      refine ⟨ret_bool ?_, hb⟩
      have : ¬ n ∈ xs := fun h => by
        obtain ⟨j, hj⟩ := List.getElem?_of_mem h
        exact HJ.out j (by have := (List.getElem?_eq_some_iff.1 hj).1; omega) hj
      simpa using this

theorem ascending_any (A : Option Addr) (xs : List Int) (c : Nat) (w : World) (hm : xs.length ≤ 2000000)
    (h1 : Sli w w.heap.size A xs) (hp : xs.Pairwise (· < ·)) :
   Calls Try.prog 28 #[.slice A xs.length c] w fun e w' => e = .returned (.bool true) ∧ Below w.heap.size w w' := by
  have R1 := Lib.hid h1
  have HP := Lib.hid hp
  clear h1 hp
  go_enter Try.func28, Try.ntmps28
  go_wp2
  go_loopw [3] (fun i wr => ∃ k : Nat, i = .int .i64 (k + 1 : Nat) ∧ Below w.heap.size w wr) (fun i _ => xs.length - (intOf i).toNat)
  case atStart => exact ⟨0, by rfl, Below.refl _ _⟩
  case round =>
    obtain ⟨k, rfl, hb⟩ := hrel
    by_cases hlt : k + 1 < xs.length
    · obtain ⟨x, hx⟩ : ∃ x, xs[k]? = some x := ⟨_, List.getElem?_eq_getElem (by omega)⟩
      obtain ⟨y, hy⟩ : ∃ y, xs[k + 1]? = some y := ⟨_, List.getElem?_eq_getElem hlt⟩
      have hxy : x < y := by
        have := List.pairwise_iff_getElem.1 HP.out k (k + 1) (by omega) hlt (by omega)
        rw [List.getElem?_eq_getElem (by omega)] at hx hy
        injection hx with hx
        injection hy with hy
        omega
      obtain ⟨b, off, rfl, hbb, hc1⟩ := (R1.out.below hb) k x hx
      obtain ⟨b', off', e', -, hd1⟩ := (R1.out.below hb) (k + 1) y hy
      injection e' with e'
      injection e' with e1 e2
      subst e1; subst e2
      clear hx hy
      go_wp2
      try go_quiet (fail)
      try go_wp2
      go_roundw
      case rel => exact ⟨k + 1, by go_num, by first | exact hb | exact hb.drew | exact ⟨hb.os, hb.tape, hb.output, hb.size, hb.block⟩⟩
      case measure => simp [intOf]; omega
    · have hge : xs.length ≤ k + 1 := by omega
      go_wp2
      go_ret
      exact ⟨rfl, hb⟩

end Go.Proofs.Ytigamnnboojiiaa
