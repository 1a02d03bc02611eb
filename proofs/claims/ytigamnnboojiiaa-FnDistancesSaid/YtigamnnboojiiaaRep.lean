/-
  Contracts over this seat: slices.Repeat at one number, one to eight times.
-/
import Derived.Test.YtigamnnboojiiaaNbI
import Derived.Laws.CopyOwn
import Derived.Deep.RegionLaw
namespace Go.Proofs.Ytigamnnboojiiaa
open Go.RowKit

theorem mul_any (n : Nat) (h1 : 1 ≤ n) (h8 : n ≤ 8) (w : World) :
   Calls Try.prog 59 #[.int .u64 1, .int .u64 n] w fun e w' => e = .returned (.tuple #[.int .u64 0, .int .u64 n]) ∧ w = w' := by
  have hn : n = 1 ∨ n = 2 ∨ n = 3 ∨ n = 4 ∨ n = 5 ∨ n = 6 ∨ n = 7 ∨ n = 8 := by omega
  rcases hn with rfl | rfl | rfl | rfl | rfl | rfl | rfl | rfl
  all_goals
    go_enter Try.func59, Try.ntmps59
    go_wp2
    go_ret2
    exact ⟨rfl, rfl⟩


theorem take_rep {c : Int} {n m : Nat} {cur : List Value} (_hl : cur.length = n) (_hm : m ≤ n) (h : cur.take m = List.replicate m (.int .i64 c)) : ∀ j, j < m → cur[j]? = some (.int .i64 c) := by
  intro j hj
  have := congrArg (fun l => l[j]?) h
  simpa [List.getElem?_take_of_lt hj, List.getElem?_replicate, hj] using this
theorem splice_rep {c : Int} {n m k : Nat} {cur : List Value} (hl : cur.length = n) (hmk : m + k ≤ n) (h : cur.take m = List.replicate m (.int .i64 c)) :
    (splice cur m (List.replicate k (.int .i64 c))).length = n ∧ (splice cur m (List.replicate k (.int .i64 c))).take (m + k) = List.replicate (m + k) (.int .i64 c) := by
  refine ⟨by rw [length_splice _ _ _ (by simp; omega)]; exact hl, ?_⟩
  unfold splice
  rw [h, ← List.append_assoc, List.replicate_append_replicate]
  exact List.take_left' (by simp)

set_option maxRecDepth 100000 in
set_option maxHeartbeats 800000 in
theorem rep_any (c : Int) (X : Option Addr) (cx n : Nat) (h1 : 1 ≤ n) (h8 : n ≤ 8) (w : World) (hx : Sli w w.heap.size X [c]) :
   Calls Try.prog 44 #[.slice X 1 cx, .int .i64 n] w fun e w' => ∃ g, e = .returned (.slice (some ⟨g, 0, none⟩) n n) ∧ w.heap.size ≤ g ∧ Box w' g 3 (List.replicate n (Value.int .i64 c)).toArray ∧ Below w.heap.size w w' := by
  obtain ⟨i0, hi, hz0, hz1, hz2⟩ := info_parts infoInt
  obtain ⟨b, off, rfl, hbb, hc⟩ := hx 0 c rfl
  have HC := Lib.hid hc
  have C1 := mul_any n h1 h8 w
  clear hx hc
  go_enter Try.func44, Try.ntmps44
  go_wp2_with (first
    | (go_at_call 59; refine C1.mono ?_; clear C1; rintro e w1 ⟨rfl, rfl⟩)
    | (at_make; refine wpList_make_full _ rfl _ _ 26 rfl w.heap.size 3 i0 _ 1 Try.underlying26 hi hz0 hz1 _ _ _ _ n rfl rfl rfl rfl (by rw [hz2]; omega) (by unfold maxLen; omega) (Nat.le_refl _) ?_; intro w1 hown hgrow; obtain ⟨cs0, hh0, hs0, _, _, _⟩ := own_arr hown; have HB := Lib.hid ((Below.refl w.heap.size w).grown hgrow (Nat.le_refl _) (fun _ h => by cases h)); have HH := Lib.hid (show w1.heap[w.heap.size]? = some (.cells cs0.toList.toArray 3 (0, 0)) by simpa using hh0); have HS := Lib.hid (show cs0.toList.length = n by simpa using hs0); clear hown hgrow hh0 hs0)
    | (refine wpList_copy_splice (o := { dst := some 33, op := _, type := _, pos := _, after := _, guard := none }) rfl _ _ 26 26 rfl 3 Try.underlying26 (by kernel_rfl) _ _ n n 1 cx rfl rfl w.heap.size 0 cs0.toList 3 HH.out [.int .i64 c] (show 1 = min 1 n by omega) (fun _ => ⟨rfl, _, rfl, fun j v hv => by obtain rfl : j = 0 := (by have := (List.getElem?_eq_some_iff.1 hv).1; simpa using this); cases hv; exact ((HB.out.cell (p := ⟨b, off + 0, none⟩) hbb).trans HC.out)⟩) (by rw [HS.out]; simpa using h1) (fun v hv => by simp at hv; subst hv; rfl) w.heap.size w HB.out (Nat.le_refl _) ?_; intro w2 hh2 hb2; have HH2 := Lib.hid hh2; have HB2 := Lib.hid hb2; clear hh2 hb2 HH HB))
  have hsp := splice_rep (c := c) (m := 0) (k := 1) HS.out (by omega) (by simp)
  have HL2 := Lib.hid hsp.1
  have HT2 := Lib.hid hsp.2
  clear hsp
  have HH3 := Lib.hid (show w2.heap[w.heap.size]? = some (.cells (splice cs0.toList 0 (List.replicate 1 (.int .i64 c))).toArray 3 (0, 0)) from HH2.out)
  clear HH2
  generalize splice cs0.toList 0 (List.replicate 1 (.int .i64 c)) = cur2 at *
  go_loopw [8] (fun v wr => ∃ (m : Nat) (cur : List Value), v = .int .i64 m ∧ 1 ≤ m ∧ m ≤ n ∧ wr.heap[w.heap.size]? = some (.cells cur.toArray 3 (0, 0)) ∧ cur.length = n ∧ cur.take m = List.replicate m (.int .i64 c) ∧ Below w.heap.size w wr) (fun v _ => n - (intOf v).toNat)
  case atStart => exact ⟨1, cur2, rfl, Nat.le_refl _, h1, HH3.out, HL2.out, HT2.out, HB2.out⟩
  case round =>
    obtain ⟨m, cur, rfl, hm1, hmn, hh, hl, ht, hb⟩ := hrel
    have HB := Lib.hid hb
    have HH := Lib.hid hh
    have HL := Lib.hid hl
    have HT := Lib.hid ht
    clear hb hh hl ht HB2 HH3 HL2 HT2
    by_cases hlt : m < n
    · have hk : m + min m (n - m) ≤ n := by omega
      have hsp := splice_rep HL.out hk HT.out
      have HSP := Lib.hid hsp
      clear hsp
      have hnl : (m : Int) < (n : Int) := by omega
      have hrc := run_copy_row (P := Try.prog) wr.drew 26 26 3 3 w.heap.size m (n - m) (n - m) ⟨w.heap.size, 0, none⟩ m n cur.toArray 3 (List.replicate (min m (n - m)) (.int .i64 c)) Try.underlying26 (by kernel_rfl) HH.out (List.length_replicate)
        (fun j v hv => by
          have hj := (List.getElem?_eq_some_iff.1 hv).1
          rw [List.length_replicate] at hj
          rw [List.getElem?_replicate_of_lt hj] at hv
          cases hv
          have h := take_rep HL.out (by omega) HT.out j (by omega)
          have e : (⟨w.heap.size, 0, none⟩ : Addr).add j = ⟨w.heap.size, j, none⟩ := by unfold Addr.add; by_cases hj0 : j = 0 <;> simp [hj0]
          rw [e]
          exact (cell_of_row wr w.heap.size j _ _ _ HH.out).trans (by simpa using h))
        (by rw [List.length_replicate]; simpa [HL.out] using hk) (fun v hv => by rw [List.eq_of_mem_replicate hv]; rfl)
      rw [List.length_replicate] at hrc
      have h3 := setRow_heap wr.drew w.heap.size _ (cur.toArray.toList.take m ++ List.replicate (min m (n - m)) (Value.int .i64 c) ++ cur.toArray.toList.drop (m + min m (n - m))).toArray _ _ HH.out
      have b3 := below_setRow HB.out.drew (Nat.le_refl _) (cur.toArray.toList.take m ++ List.replicate (min m (n - m)) (Value.int .i64 c) ++ cur.toArray.toList.drop (m + min m (n - m))).toArray
      generalize wr.drew.setRow w.heap.size _ = w3 at hrc h3 b3
      have HH3 := Lib.hid h3
      have HB3 := Lib.hid b3
      clear h3 b3
      obtain ⟨k, hkk⟩ : ∃ k, k = min m (n - m) := ⟨_, rfl⟩
      rw [← hkk] at hrc
      have hk1 : 1 ≤ k := by omega
      have hk2 : m + k ≤ n := by omega
      have HKK := Lib.hid hkk
      clear hkk hk
      go_wp2
      go_region
      all_goals (try go_wp2)
      all_goals
        go_roundw
        case rel =>
          have hl := HSP.out.1
          have ht := HSP.out.2
          rw [← HKK.out] at hl ht
          refine ⟨m + k, _, by go_num, by omega, hk2, ?_, hl, ht, HB3.out⟩
          have h3 := HH3.out
          rw [← HKK.out] at h3
          simpa [splice] using h3
        case measure => simp [intOf]; omega
    · obtain rfl : m = n := by omega
      go_wp2
      go_ret
      refine ⟨w.heap.size, rfl, Nat.le_refl _, ?_, HB.out⟩
      have e : cur = List.replicate m (.int .i64 c) := by
        have := HT.out
        rwa [List.take_of_length_le (by rw [HL.out]; exact Nat.le_refl _)] at this
      rw [← e]
      exact HH.out
end Go.Proofs.Ytigamnnboojiiaa
