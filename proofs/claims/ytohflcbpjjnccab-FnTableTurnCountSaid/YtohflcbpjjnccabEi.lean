/-
  Contracts over this seat: what the exact laws do with lists of numbers, and with labels that are marked.
-/
import Derived.Test.YtohflcbpjjnccabA8
import Derived.Test.YtohflcbpjjnccabC1
namespace Go.Proofs.Ytohflcbpjjnccab
open Go.RowKit

def MadeArri (xs : List Int) (w : World) (e : Ending) (w' : World) : Prop :=
  ∃ g, e = .returned (.slice (some ⟨g, 0, none⟩) xs.length xs.length) ∧ w.heap.size ≤ g ∧ Arri w' g xs ∧ Below w.heap.size w w'
def UptoJ (cs : Array Value) (xs : List Int) (k : Nat) : Prop := ∀ (j : Nat) (x : Int), j < k → xs[j]? = some x → cs[j]? = some (.int .i64 x)
theorem UptoJ.succ {cs : Array Value} {xs : List Int} {k : Nat} {x : Int} (h : UptoJ cs xs k) (hx : xs[k]? = some x) (hs : k < cs.size) : UptoJ (cs.setIfInBounds k (.int .i64 x)) xs (k + 1) := by
  intro j y hj hy
  simp only [Array.getElem?_setIfInBounds]
  by_cases e : j < k
  · rw [if_neg (by omega)]
    exact h j y e hy
  · obtain rfl : j = k := by omega
    rw [if_pos rfl, if_pos hs]
    rw [hx] at hy
    cases hy
    rfl

set_option maxRecDepth 100000 in
set_option maxHeartbeats 400000 in
theorem toIntS_any (A : Option Addr) (xs : List Int) (c : Nat) (w : World) (hm : xs.length ≤ 2000000) (h1 : Sli w w.heap.size A xs) :
   Calls Try.prog 39 #[.slice A xs.length c] w (MadeArri xs w) := by
  obtain ⟨i0, hi, hz0, hz1, hz2⟩ := info_parts infoInt
  have H1 := Lib.hid h1
  clear h1
  go_enter Try.func39, Try.ntmps39
  go_wp2_with (first | (at_make; refine wpList_make_full _ rfl _ _ 23 rfl w.heap.size 3 i0 _ 1 Try.underlying23 hi hz0 hz1 _ _ _ _ xs.length rfl rfl rfl rfl (by rw [hz2]; omega) (by unfold maxLen; omega) (Nat.le_refl _) ?_; intro w1 hown hgrow))
  obtain ⟨cs0, hh0, hs0, hg0, _, _⟩ := own_arr hown
  have HB := Lib.hid ((Below.refl w.heap.size w).grown hgrow (Nat.le_refl _) (fun _ h => by cases h))
  have HH := Lib.hid hh0
  have HS := Lib.hid hs0
  clear hown hgrow hh0 hs0 hg0 hi hz0 hz1 hz2
  go_loopw [4] (fun i wr => ∃ k : Nat, k ≤ xs.length ∧ i = .int .i64 k ∧ Below w.heap.size w wr ∧ ∃ cs : Array Value, wr.heap[w.heap.size]? = some (.cells cs 3 (0, 0)) ∧ cs.size = xs.length * 1 ∧ UptoJ cs xs k) (fun i _ => xs.length - (intOf i).toNat)
  case atStart => exact ⟨0, Nat.zero_le _, rfl, HB.out, cs0, HH.out, HS.out, fun j _ h => by omega⟩
  case round =>
    obtain ⟨k, hk, rfl, hb, cs, hcs, hsz, hup⟩ := hrel
    have HU := Lib.hid hup
    have HC := Lib.hid hcs
    have HZ := Lib.hid hsz
    have hgl : w.heap.size < wr.heap.size := heap_lt hcs
    clear hup HB HH HS
    by_cases hlt : k < xs.length
    · obtain ⟨x, hx⟩ : ∃ x, xs[k]? = some x := ⟨_, List.getElem?_eq_getElem hlt⟩
      obtain ⟨b, off, rfl, hbb, hc1⟩ := (H1.out.below hb) k x hx
      have HX := Lib.hid hx
      have hs3 : k < cs.size := by rw [HZ.out]; omega
      have hf := heap_frozen hcs
      obtain ⟨v0, hd0⟩ := cell_in hcs (i := k) hs3
      clear hx hcs hsz
      go_wp2
      go_roundw
      case rel => exact ⟨k + 1, hlt, by go_num, hb.setCell (Nat.le_refl _) _, _, heap_set HC.out _ _, by simp only [Array.size_setIfInBounds]; exact HZ.out, HU.out.succ HX.out hs3⟩
      case measure => simp [intOf]; omega
    · obtain rfl : k = xs.length := by omega
      go_wp2
      go_ret
      exact ⟨_, rfl, Nat.le_refl _, ⟨cs, HC.out, fun j x hx => HU.out j x (List.getElem?_eq_some_iff.1 hx).1 hx⟩, hb⟩

/-! ### Labels with marks -/
def markLs (k : Int) (n : Nat) : List Lb := (List.range n).map fun (j : Nat) => ⟨k + 2 * j, k + 2 * j + 1⟩
theorem markLs_len (k : Int) (n : Nat) : (markLs k n).length = n := by simp [markLs]
theorem markLs_at {k : Int} {n j : Nat} (h : j < n) : (markLs k n)[j]? = some ⟨k + 2 * j, k + 2 * j + 1⟩ := by simp [markLs, List.getElem?_range h]
def UptoL (cs : Array Value) (k : Int) (j : Nat) : Prop := ∀ i, i < j → cs[i * 2]? = some (.int .i64 (k + 2 * i)) ∧ cs[i * 2 + 1]? = some (.int .i64 (k + 2 * i + 1))
theorem UptoL.succ {cs : Array Value} {k : Int} {j : Nat} (h : UptoL cs k j) (hs : j * 2 + 1 < cs.size) : UptoL ((cs.setIfInBounds (j * 2) (.int .i64 (k + 2 * j))).setIfInBounds (j * 2 + 1) (.int .i64 (k + 2 * j + 1))) k (j + 1) := by
  intro i hi
  simp only [Array.getElem?_setIfInBounds, Array.size_setIfInBounds]
  by_cases e : i < j
  · rw [if_neg (by omega), if_neg (by omega), if_neg (by omega), if_neg (by omega)]
    exact h i e
  · obtain rfl : i = j := by omega
    rw [if_neg (by omega), if_pos rfl, if_pos (by omega), if_pos rfl, if_pos hs]
    exact ⟨rfl, rfl⟩





end Go.Proofs.Ytohflcbpjjnccab
