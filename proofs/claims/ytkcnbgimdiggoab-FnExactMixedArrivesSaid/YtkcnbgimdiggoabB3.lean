/-
  Contracts over this seat: validWith: the graph is valid, and all nodes of a list exist in it.
-/
import Derived.Test.YtkcnbgimdiggoabA2
import Derived.Test.YtkcnbgimdiggoabA3
import Derived.Laws.CopyOwn
import Derived.Deep.RegionLaw
import Derived.Test.YtkcnbgimdiggoabA9
import Derived.StillTailTactics
import Derived.OrdersIn
import Derived.TacticsIn
import Derived.RangeFuncCalls
namespace Go.Proofs.Ytkcnbgimdiggoab
open Go.RowKit

theorem vw1_any (nn : Int) (A : Option Addr) (len c : Nat) (Bg : Nat) (x : Int) (w : World) (h : Box w Bg 25 #[.int .i64 nn, .slice A len c]) :
   Calls Try.prog 96 #[.int .i64 x, .pointer (some ⟨Bg, 0, none⟩)] w fun e w' => e = .returned (.bool (!inB x 0 (nn - 1))) ∧ Below w.heap.size w w' := by
  have e0 : w.cell? ⟨Bg, 0, none⟩ = some (.int .i64 nn) := h.cell 0
  have e1 : w.cell? ⟨Bg, 1, none⟩ = some (.slice A len c) := h.cell 1
  clear h
  go_enter Try.func96, Try.ntmps96
  go_wp2_with (go_at_call 97; refine (hasNode_any nn _ x w).mono ?_; rintro e w1 ⟨rfl, hb⟩)
  go_ret
  exact ⟨rfl, hb⟩

/-- The first place of what is no node, or -1. -/
theorem ifn_any (nn : Int) (A : Option Addr) (len c : Nat) (Bg : Nat) (X : Option Addr) (xs : List Int) (cx : Nat) (w : World) (h : Box w Bg 25 #[.int .i64 nn, .slice A len c]) (hm : xs.length ≤ 2000000) (hx : Sli w w.heap.size X xs) :
   Calls Try.prog 84 #[.slice X xs.length cx, .func (.func 96) #[] #[.pointer (some ⟨Bg, 0, none⟩)]] w fun e w' => (∃ r : Int, e = .returned (.int .i64 r) ∧ decide (0 ≤ r) = !(xs.all fun x => inB x 0 (nn - 1))) ∧ Below w.heap.size w w' := by
  have HB := Lib.hid h
  have HX := Lib.hid hx
  clear h hx
  go_enter Try.func84, Try.ntmps84
  go_wp2
  go_loopw [8] (fun v wr => ∃ k : Nat, k ≤ xs.length ∧ v = .int .i64 k ∧ Below w.heap.size w wr ∧ ∀ (j : Nat) (x : Int), j < k → xs[j]? = some x → inB x 0 (nn - 1) = true) (fun v _ => xs.length - (intOf v).toNat)
  case atStart => exact ⟨0, Nat.zero_le _, rfl, Below.refl _ _, fun j _ h => by omega⟩
  case round =>
    obtain ⟨k, hk, rfl, hb, hall⟩ := hrel
    have HA := Lib.hid hall
    have HW := Lib.hid hb
    clear hall
    by_cases hlt : k < xs.length
    · obtain ⟨x, hxk⟩ : ∃ x, xs[k]? = some x := ⟨_, List.getElem?_eq_getElem hlt⟩
      obtain ⟨b, off, rfl, hbb, hc⟩ := HX.out k x hxk
      have hc' : wr.cell? ⟨b, off + k, none⟩ = some (.int .i64 x) := (hb.cell (p := ⟨b, off + k, none⟩) hbb).trans hc
      have HK := Lib.hid hxk
      have C1 := vw1_any nn A len c Bg x wr (HB.out.below hb HB.out.lt)
      clear hxk hc hb
      go_wp2_with (go_at_call 96; refine C1.mono ?_; clear C1; rintro e w1 ⟨rfl, hb1⟩; have HW1 := Lib.hid (HW.out.trans (hb1.mono HW.out.size)); clear hb1)
      · go_ret
        refine ⟨⟨_, rfl, ?_⟩, HW1.out⟩
        have hx0 : inB x 0 (nn - 1) = false := by simpa using ‹(!inB x 0 (nn - 1)) = true›
        have : (xs.all fun x => inB x 0 (nn - 1)) = false := by
          rw [List.all_eq_false]
          exact ⟨x, List.mem_of_getElem? HK.out, by simp [hx0]⟩
        rw [this]
        simp
      · go_roundw
        case rel =>
          refine ⟨k + 1, hlt, by go_num, HW1.out, fun j y hj hy => ?_⟩
          by_cases hjk : j < k
          · exact HA.out j y hjk hy
          · obtain rfl : j = k := by omega
            rw [HK.out] at hy
            cases hy
            simpa using ‹(!inB x 0 (nn - 1)) = false›
        case measure => simp [intOf]; omega
    · clear hb
      go_wp2
      go_ret
      refine ⟨⟨_, rfl, ?_⟩, HW.out⟩
      have : (xs.all fun x => inB x 0 (nn - 1)) = true := by
        rw [List.all_eq_true]
        intro y hy
        obtain ⟨j, hj⟩ := List.getElem?_of_mem hy
        exact HA.out j y (by have := (List.getElem?_eq_some_iff.1 hj).1; omega) hj
      rw [this]
      simp

theorem cfn_any (nn : Int) (A : Option Addr) (len c : Nat) (Bg : Nat) (X : Option Addr) (xs : List Int) (cx : Nat) (w : World) (h : Box w Bg 25 #[.int .i64 nn, .slice A len c]) (hm : xs.length ≤ 2000000) (hx : Sli w w.heap.size X xs) :
   Calls Try.prog 95 #[.slice X xs.length cx, .func (.func 96) #[] #[.pointer (some ⟨Bg, 0, none⟩)]] w fun e w' => e = .returned (.bool (!(xs.all fun x => inB x 0 (nn - 1)))) ∧ Below w.heap.size w w' := by
  have C1 := ifn_any nn A len c Bg X xs cx w h hm hx
  clear h hx
  go_enter Try.func95, Try.ntmps95
  go_wp2_with (go_at_call 84; refine C1.mono ?_; clear C1; rintro e w1 ⟨⟨r, rfl, hr⟩, hb⟩; have HR := Lib.hid hr; clear hr)
  go_ret
  exact ⟨ret_bool (by rw [← HR.out]), hb⟩

def vwB (nn : Int) (ls : List Lk) (xs : List Int) : Bool := gvB nn ls && xs.all fun x => inB x 0 (nn - 1)

theorem vw_any (nn : Int) (A : Option Addr) (ls : List Lk) (c : Nat) (X : Option Addr) (xs : List Int) (cx : Nat) (w : World) (hl : ls.length ≤ 2000000) (hm : xs.length ≤ 2000000) (hS : Sl w w.heap.size A ls) (hx : Sli w w.heap.size X xs) :
   Calls Try.prog 71 #[gval nn A ls.length c, .slice X xs.length cx] w fun e w' => e = .returned (.bool (vwB nn ls xs)) ∧ Below w.heap.size w w' := by
  have B0 : Below w.heap.size w (w.alloc (.cells #[.int .i64 nn, .slice A ls.length c] 25)) := by (repeat (first | exact Below.refl _ _ | (refine Below.alloc ?_ (by first | exact Nat.le_refl _ | omega | (simp; done) | (simp; omega)) _) | (refine Below.setCell ?_ (by first | exact Nat.le_refl _ | omega | (simp; done) | (simp; omega)) _) | exact Below.drew ‹_›))
  have C1 := valid_impl nn A ls c (w.alloc (.cells #[.int .i64 nn, .slice A ls.length c] 25)) hl ((hS.below B0).more (by simp))
  have HX := Lib.hid (hx.below B0)
  have HG := Lib.hid (Box.new w 25 #[.int .i64 nn, .slice A ls.length c])
  have HB0 := Lib.hid B0
  clear hS hx B0
  unfold vwB
  cases hv : gvB nn ls with
  | true =>
    rw [hv] at C1
    clear hv
    go_enter Try.func71, Try.ntmps71
    go_wp2_with (first
      | (go_at_call 58; refine C1.mono ?_; clear C1; rintro e w1 ⟨rfl, hb1⟩; have HG1 := Lib.hid (HG.out.below hb1 (by simp)); have HX1 := Lib.hid ((HX.out.below (hb1.mono (by simp))).more (Nat.le_trans HB0.out.size hb1.size)); have HB1 := Lib.hid (HB0.out.trans (hb1.mono (by simp))); clear hb1; have C2 := cfn_any nn A ls.length c w.heap.size X xs cx w1 HG1.out hm HX1.out)
      | (go_at_call 95; refine C2.mono ?_; clear C2; rintro e w2 ⟨rfl, hb2⟩; have HB2 := Lib.hid (HB1.out.trans (hb2.mono HB1.out.size)); clear hb2))
    go_ret
    exact ⟨ret_bool (by simp), HB2.out⟩
  | false =>
    rw [hv] at C1
    clear hv
    go_enter Try.func71, Try.ntmps71
    go_wp2_with (go_at_call 58; refine C1.mono ?_; clear C1; rintro e w1 ⟨rfl, hb1⟩; have HB1 := Lib.hid (HB0.out.trans (hb1.mono (by simp))); clear hb1)
    go_ret
    exact ⟨ret_bool (by simp), HB1.out⟩
end Go.Proofs.Ytkcnbgimdiggoab

/-
  Contracts over this seat: slices.Repeat at one number, one to eight times.
-/
namespace Go.Proofs.Ytkcnbgimdiggoab
open Go.RowKit

theorem mul_any (n : Nat) (h1 : 1 ≤ n) (h8 : n ≤ 8) (w : World) :
   Calls Try.prog 98 #[.int .u64 1, .int .u64 n] w fun e w' => e = .returned (.tuple #[.int .u64 0, .int .u64 n]) ∧ w = w' := by
  have hn : n = 1 ∨ n = 2 ∨ n = 3 ∨ n = 4 ∨ n = 5 ∨ n = 6 ∨ n = 7 ∨ n = 8 := by omega
  rcases hn with rfl | rfl | rfl | rfl | rfl | rfl | rfl | rfl
  all_goals
    go_enter Try.func98, Try.ntmps98
    go_wp2
    go_ret2
    exact ⟨rfl, rfl⟩


theorem take_rep {c : Int} {n m : Nat} {cur : List Value} (_hl : cur.length = n) (_hm : m ≤ n) (h : cur.take m = List.replicate m (.int .i64 c)) : ∀ j, j < m → cur[j]? = some (.int .i64 c) := by
  intro j hj
  have := congrArg (fun l => l[j]?) h
  simpa [List.getElem?_take_of_lt hj, List.getElem?_replicate, hj] using this
theorem splice_rep {c : Int} {n m k : Nat} {cur : List Value} (hl : cur.length = n) (hmk : m + k ≤ n) (h : cur.take m = List.replicate m (.int .i64 c)) :
    (splice cur m (List.replicate k (.int .i64 c))).length = n ∧ (splice cur m (List.replicate k (.int .i64 c))).take (m + k) = List.replicate (m + k) (.int .i64 c) := by
  refine ⟨by rw [length_splice _ _ _ (by simp; omega)]; exact hl, ?_⟩
  unfold splice
  rw [h, ← List.append_assoc, List.replicate_append_replicate]
  exact List.take_left' (by simp)

set_option maxRecDepth 100000 in
set_option maxHeartbeats 800000 in
theorem rep_any (c : Int) (X : Option Addr) (cx n : Nat) (h1 : 1 ≤ n) (h8 : n ≤ 8) (w : World) (hx : Sli w w.heap.size X [c]) :
   Calls Try.prog 72 #[.slice X 1 cx, .int .i64 n] w fun e w' => ∃ g, e = .returned (.slice (some ⟨g, 0, none⟩) n n) ∧ w.heap.size ≤ g ∧ Box w' g 3 (List.replicate n (Value.int .i64 c)).toArray ∧ Below w.heap.size w w' := by
  obtain ⟨i0, hi, hz0, hz1, hz2⟩ := info_parts infoInt
  obtain ⟨b, off, rfl, hbb, hc⟩ := hx 0 c rfl
  have HC := Lib.hid hc
  have C1 := mul_any n h1 h8 w
  clear hx hc
  go_enter Try.func72, Try.ntmps72
  go_wp2_with (first
    | (go_at_call 98; refine C1.mono ?_; clear C1; rintro e w1 ⟨rfl, rfl⟩)
    | (at_make; refine wpList_make_full _ rfl _ _ 28 rfl w.heap.size 3 i0 _ 1 Try.underlying28 hi hz0 hz1 _ _ _ _ n rfl rfl rfl rfl (by rw [hz2]; omega) (by unfold maxLen; omega) (Nat.le_refl _) ?_; intro w1 hown hgrow; obtain ⟨cs0, hh0, hs0, _, _, _⟩ := own_arr hown; have HB := Lib.hid ((Below.refl w.heap.size w).grown hgrow (Nat.le_refl _) (fun _ h => by cases h)); have HH := Lib.hid (show w1.heap[w.heap.size]? = some (.cells cs0.toList.toArray 3 (0, 0)) by simpa using hh0); have HS := Lib.hid (show cs0.toList.length = n by simpa using hs0); clear hown hgrow hh0 hs0)
    | (refine wpList_copy_splice (o := { dst := some 33, op := _, type := _, pos := _, after := _, guard := none }) rfl _ _ 28 28 rfl 3 Try.underlying28 (by kernel_rfl) _ _ n n 1 cx rfl rfl w.heap.size 0 cs0.toList 3 HH.out [.int .i64 c] (show 1 = min 1 n by omega) (fun _ => ⟨rfl, _, rfl, fun j v hv => by obtain rfl : j = 0 := (by have := (List.getElem?_eq_some_iff.1 hv).1; simpa using this); cases hv; exact ((HB.out.cell (p := ⟨b, off + 0, none⟩) hbb).trans HC.out)⟩) (by rw [HS.out]; simpa using h1) (fun v hv => by simp at hv; subst hv; rfl) w.heap.size w HB.out (Nat.le_refl _) ?_; intro w2 hh2 hb2; have HH2 := Lib.hid hh2; have HB2 := Lib.hid hb2; clear hh2 hb2 HH HB))
  have hsp := splice_rep (c := c) (m := 0) (k := 1) HS.out (by omega) (by simp)
  have HL2 := Lib.hid hsp.1
  have HT2 := Lib.hid hsp.2
  clear hsp
  have HH3 := Lib.hid (show w2.heap[w.heap.size]? = some (.cells (splice cs0.toList 0 (List.replicate 1 (.int .i64 c))).toArray 3 (0, 0)) from HH2.out)
  clear HH2
  generalize splice cs0.toList 0 (List.replicate 1 (.int .i64 c)) = cur2 at *
  go_loopw [8] (fun v wr => ∃ (m : Nat) (cur : List Value), v = .int .i64 m ∧ 1 ≤ m ∧ m ≤ n ∧ wr.heap[w.heap.size]? = some (.cells cur.toArray 3 (0, 0)) ∧ cur.length = n ∧ cur.take m = List.replicate m (.int .i64 c) ∧ Below w.heap.size w wr) (fun v _ => n - (intOf v).toNat)
  case atStart => exact ⟨1, cur2, rfl, Nat.le_refl _, h1, HH3.out, HL2.out, HT2.out, HB2.out⟩
  case round =>
    obtain ⟨m, cur, rfl, hm1, hmn, hh, hl, ht, hb⟩ := hrel
    have HB := Lib.hid hb
    have HH := Lib.hid hh
    have HL := Lib.hid hl
    have HT := Lib.hid ht
    clear hb hh hl ht HB2 HH3 HL2 HT2
    by_cases hlt : m < n
    · have hk : m + min m (n - m) ≤ n := by omega
      have hsp := splice_rep HL.out hk HT.out
      have HSP := Lib.hid hsp
      clear hsp
      have hnl : (m : Int) < (n : Int) := by omega
      have hrc := run_copy_row (P := Try.prog) wr.drew 28 28 3 3 w.heap.size m (n - m) (n - m) ⟨w.heap.size, 0, none⟩ m n cur.toArray 3 (List.replicate (min m (n - m)) (.int .i64 c)) Try.underlying28 (by kernel_rfl) HH.out (List.length_replicate)
        (fun j v hv => by
          have hj := (List.getElem?_eq_some_iff.1 hv).1
          rw [List.length_replicate] at hj
          rw [List.getElem?_replicate_of_lt hj] at hv
          cases hv
          have h := take_rep HL.out (by omega) HT.out j (by omega)
          have e : (⟨w.heap.size, 0, none⟩ : Addr).add j = ⟨w.heap.size, j, none⟩ := by unfold Addr.add; by_cases hj0 : j = 0 <;> simp [hj0]
          rw [e]
          exact (cell_of_row wr w.heap.size j _ _ _ HH.out).trans (by simpa using h))
        (by rw [List.length_replicate]; simpa [HL.out] using hk) (fun v hv => by rw [List.eq_of_mem_replicate hv]; rfl)
      rw [List.length_replicate] at hrc
      have h3 := setRow_heap wr.drew w.heap.size _ (cur.toArray.toList.take m ++ List.replicate (min m (n - m)) (Value.int .i64 c) ++ cur.toArray.toList.drop (m + min m (n - m))).toArray _ _ HH.out
      have b3 := below_setRow HB.out.drew (Nat.le_refl _) (cur.toArray.toList.take m ++ List.replicate (min m (n - m)) (Value.int .i64 c) ++ cur.toArray.toList.drop (m + min m (n - m))).toArray
      generalize wr.drew.setRow w.heap.size _ = w3 at hrc h3 b3
      have HH3 := Lib.hid h3
      have HB3 := Lib.hid b3
      clear h3 b3
      obtain ⟨k, hkk⟩ : ∃ k, k = min m (n - m) := ⟨_, rfl⟩
      rw [← hkk] at hrc
      have hk1 : 1 ≤ k := by omega
      have hk2 : m + k ≤ n := by omega
      have HKK := Lib.hid hkk
      clear hkk hk
      go_wp2
      go_region
      all_goals (try go_wp2)
      all_goals
        go_roundw
        case rel =>
          have hl := HSP.out.1
          have ht := HSP.out.2
          rw [← HKK.out] at hl ht
          refine ⟨m + k, _, by go_num, by omega, hk2, ?_, hl, ht, HB3.out⟩
          have h3 := HH3.out
          rw [← HKK.out] at h3
          simpa [splice] using h3
        case measure => simp [intOf]; omega
    · obtain rfl : m = n := by omega
      go_wp2
      go_ret
      refine ⟨w.heap.size, rfl, Nat.le_refl _, ?_, HB.out⟩
      have e : cur = List.replicate m (.int .i64 c) := by
        have := HT.out
        rwa [List.take_of_length_le (by rw [HL.out]; exact Nat.le_refl _)] at this
      rw [← e]
      exact HH.out
end Go.Proofs.Ytkcnbgimdiggoab

/-
  The iterator over a node's neighbours, over this seat, where the loop's body may know that each neighbour comes with the index of a link that leads to it.
-/
namespace Go.Proofs.Ytkcnbgimdiggoab
open Go.RowKit Go.Shelf

attribute [local go_sem] Oper.semAt_some

/-- A neighbour of n with the index of the link. -/
def NbOk (n : Int) (ls : List Lk) (p : Int × Nat) : Prop := ∃ l, ls[p.2]? = some l ∧ touchB l n = true ∧ p.1 = acrossI l n
abbrev NbA (n : Int) (ls : List Lk) : Type := { p : Int × Nat // NbOk n ls p }
open Classical in
noncomputable def nbQ (n : Int) (ls : List Lk) : Nat → List (NbA n ls)
  | 0 => []
  | k + 1 => nbQ n ls k ++ (if h : ∃ l, ls[k]? = some l ∧ touchB l n = true then [⟨(acrossI h.choose n, k), ⟨h.choose, h.choose_spec.1, h.choose_spec.2, rfl⟩⟩] else [])
theorem nbQ_len (n : Int) (ls : List Lk) (k : Nat) : (nbQ n ls k).length ≤ k := by
  induction k with
  | zero => simp [nbQ]
  | succ k ih =>
    simp only [nbQ, List.length_append]
    split <;> simp <;> omega
theorem nbQ_hit {n : Int} {ls : List Lk} {k : Nat} {l : Lk} (h : ls[k]? = some l) (ht : touchB l n = true) : nbQ n ls (k + 1) = nbQ n ls k ++ [⟨(acrossI l n, k), ⟨l, h, ht, rfl⟩⟩] := by
  have hx : ∃ l, ls[k]? = some l ∧ touchB l n = true := ⟨l, h, ht⟩
  have e : hx.choose = l := by
    exact (Option.some.inj (h.symm.trans hx.choose_spec.1)).symm
  simp only [nbQ]
  rw [dif_pos hx]
  congr 2
  exact Subtype.ext (by simp [e])
theorem nbQ_miss {n : Int} {ls : List Lk} {k : Nat} {l : Lk} (h : ls[k]? = some l) (ht : touchB l n = false) : nbQ n ls (k + 1) = nbQ n ls k := by
  simp only [nbQ]
  rw [dif_neg (fun ⟨m, hm, hmt⟩ => by rw [h] at hm; cases hm; rw [ht] at hmt; cases hmt), List.append_nil]
theorem nbQ_map (n : Int) (ls : List Lk) (k : Nat) (hk : k ≤ ls.length) : (nbQ n ls k).map (·.1) = nbTo n ls k := by
  induction k with
  | zero => rfl
  | succ k ih =>
    obtain ⟨l, hl⟩ : ∃ l, ls[k]? = some l := ⟨_, List.getElem?_eq_getElem (by omega)⟩
    cases ht : touchB l n with
    | true => rw [nbQ_hit hl ht, nbTo_hit hl ht, List.map_append, ih (by omega)]; rfl
    | false => rw [nbQ_miss hl ht, nbTo_miss hl ht, ih (by omega)]
/-- All links of n come. -/
theorem nbQ_all {n : Int} {ls : List Lk} {k : Nat} {l : Lk} (h : ls[k]? = some l) (ht : touchB l n = true) : ∀ m, k < m → (⟨(acrossI l n, k), ⟨l, h, ht, rfl⟩⟩ : NbA n ls) ∈ nbQ n ls m
  | 0, hm => by omega
  | m + 1, hm => by
    by_cases hkm : k = m
    · subst hkm
      rw [nbQ_hit h ht]
      simp
    · have := nbQ_all h ht m (by omega)
      simp only [nbQ, List.mem_append]
      exact .inl this
/-- Adjacent nodes are neighbours. -/
theorem nbQ_adj {n : Int} {ls : List Lk} {w e : Int} : Adj ls n w e ↔ ∃ p ∈ nbQ n ls ls.length, w = p.1.1 ∧ ∃ l, ls[p.1.2]? = some l ∧ e = l.c := by
  constructor
  · rintro ⟨l, hl, hh, rfl⟩
    obtain ⟨k, hk⟩ := List.getElem?_of_mem hl
    have ht : touchB l n = true := by unfold touchB; rcases hh with ⟨h, _⟩ | ⟨h, _⟩ <;> simp [h]
    refine ⟨_, nbQ_all hk ht ls.length (List.getElem?_eq_some_iff.1 hk).1, ?_, l, hk, rfl⟩
    show w = acrossI l n
    unfold acrossI
    rcases hh with ⟨h, h'⟩ | ⟨h, h'⟩
    · rw [if_pos h]; exact h'.symm
    · split
      · rename_i h2; omega
      · exact h'.symm
  · rintro ⟨⟨⟨v, k⟩, l', hl', ht, hv⟩, _, rfl, l, hl, rfl⟩
    dsimp only at hl' hv hl ⊢
    rw [hl'] at hl
    cases hl
    refine ⟨l', List.mem_of_getElem? hl', ?_, rfl⟩
    subst hv
    unfold acrossI
    unfold touchB at ht
    simp at ht
    split
    · rename_i h; exact .inl ⟨h, rfl⟩
    · rename_i h
      rcases ht with h2 | h2
      · exact absurd h2 h
      · exact .inr ⟨h2, rfl⟩

set_option maxRecDepth 100000 in
set_option maxHeartbeats 2000000 in
theorem nbs_iter (N : Nat) (hN : 2 ≤ N) (l Bg Bn n₀ : Nat) (P : Nat → Prop) (A : Option Addr) (ls : List Lk) (c : Nat) (nn n : Int) (hm : ls.length ≤ 2000000) (J Jx : List (NbA n ls) → World → Prop)
    (W : World) (hJa : AbidesFrom W.heap.size J) (hP0 : ∀ b, b < n₀ → P b) (hPn : P Bn) (hPlt : ∀ k, P k → k < W.heap.size)
    (hY : ∀ pre x W1, J pre W1 → pre.length < ls.length → YieldAt Fence.wide (N - 1) Try.prog l #[.int .i64 x.1.1, .int .i64 (x.1.2 : Int)] W1 fun e W' =>
      (e = .returned (.bool true) ∧ J (pre ++ [x]) W' ∧ KeepB P W1 W') ∨ (e = .returned (.bool false) ∧ Jx (pre ++ [x]) W'))
    (hg : Box W Bg 25 #[.int .i64 nn, .slice A ls.length c]) (hn : Box W Bn 3 #[.int .i64 n]) (hS : Sl W n₀ A ls) (h0 : J [] W) :
    CallsIn Fence.wide N Try.prog 100 #[.func (.yield l) #[] #[], .pointer (some ⟨Bg, 0, none⟩), .pointer (some ⟨Bn, 0, none⟩)] W fun e W' => (∃ v, e = .returned v) ∧
      ((∃ ys, ys = nbQ n ls ls.length ∧ J ys W') ∨ (∃ pre, (∃ k, k ≤ ls.length ∧ pre = nbQ n ls k) ∧ Jx pre W')) := by
  have hbg1 := hg.cell 1
  have h1N : 1 ≤ N := by omega
  have HS := Lib.hid hS
  have HN := Lib.hid hn
  have HY := Lib.hid hY
  clear hS hn hY hg
  refine callsIn_of_wp Try.func100 rfl trivial ?_ rfl
  simp only [Try.ntmps100, List.size_toArray, List.length_cons, List.length_nil, Nat.reduceAdd, Nat.reduceSub, Array.replicate_succ, Array.replicate_zero, List.push_toArray, List.append_toArray, List.nil_append, List.cons_append]
  gi_wp2
  gi_loopw [9] (fun i wr => ∃ k : Nat, k ≤ ls.length ∧ i = .int .i64 k ∧ J (nbQ n ls k) wr ∧ KeepB P W wr)
    (fun i _ => ls.length - (intOf i).toNat)
  case atStart => exact ⟨0, Nat.zero_le _, rfl, h0, KeepB.refl _ _⟩
  case round =>
    obtain ⟨k, hk, rfl, hJs, hnx⟩ := hrel
    by_cases hlt : k < ls.length
    · obtain ⟨lk, hl⟩ : ∃ x, ls[k]? = some x := ⟨_, List.getElem?_eq_getElem hlt⟩
      obtain ⟨b, off, rfl, hbb, hc1, hc2, hc3⟩ := (HS.out.keepB hnx hP0) k lk hl
      have HL := Lib.hid hl
      have hz := hnx.1
      have hcn : wr.cell? ⟨Bn, 0, none⟩ = some (.int .i64 n) := Box.cell (show Box wr Bn 3 #[.int .i64 n] from (hnx.2 Bn hPn).trans HN.out) 0
      have hbb1 : b < wr.heap.size := Nat.lt_of_lt_of_le (hPlt b (hP0 b hbb)) hz
      have hbn1 : Bn < wr.heap.size := Nat.lt_of_lt_of_le (hPlt Bn hPn) hz
      have HPW := Lib.hid (fun k hk => Nat.lt_of_lt_of_le (hPlt k hk) hz)
      have HJ := Lib.hid hJs
      have HX := Lib.hid hnx
      clear hl hJs hnx
      cases ht : touchB lk n with
      | true =>
        have C1 : ∀ V : World, CallsIn Fence.wide (N - 1) Try.prog 101 #[lk.v, .int .i64 n] V fun e w' => e = .returned (.bool true) ∧ Below V.heap.size V w' := fun V => callsIn_wide.2 (by
          have := touches_any lk n V
          rwa [ht] at this)
        have HT := Lib.hid ht
        clear ht
        gi_wp2_with (first
          | (refine ⟨trivial, ?_⟩; gi_at_call 101; refine (C1 _).mono ?_; rintro e w1 ⟨rfl, hb1⟩; have K1 := Lib.hid (Box.below (Box.new wr 68 #[.int .i64 lk.a, .int .i64 lk.b, .int .i64 lk.c]) hb1 (by simp)); have e10 := K1.out.cell 0; have e11 := K1.out.cell 1; have e12 := K1.out.cell 2; have B1 := Lib.hid (Below.trans (B := wr.heap.size) (a := wr) (by (repeat (first | exact Below.refl _ _ | (refine Below.alloc ?_ (by first | exact Nat.le_refl _ | omega | (simp; done) | (simp; omega)) _) | (refine Below.setCell ?_ (by first | exact Nat.le_refl _ | omega | (simp; done) | (simp; omega)) _) | exact Below.drew ‹_›))) (hb1.mono (by simp))); have s1 : wr.heap.size < w1.heap.size := K1.out.lt; have n1 : w1.cell? ⟨Bn, 0, none⟩ = some (.int .i64 n) := (B1.out.cell (p := ⟨Bn, 0, none⟩) hbn1).trans hcn; clear hb1)
          | (refine ⟨trivial, ?_⟩; gi_at_call 102; refine (callsIn_wide.2 (across_any lk n _)).mono ?_; rintro e w2 ⟨rfl, hb2⟩; have B2 := Lib.hid (B1.out.trans (hb2.mono (Nat.le_of_lt s1))); obtain ⟨fn, tmps, assign, body, hy, hR⟩ := HY.out _ ⟨(acrossI lk n, k), ⟨lk, HL.out, HT.out, rfl⟩⟩ w2 (abides_below (fun s W1 W2 row h => hJa s W1 W2 row h) HJ.out B2.out) (Nat.lt_of_le_of_lt (nbQ_len n ls k) hlt); dsimp only at hy; clear hb2 e10 e11 e12 n1)
          | fail)
        refine hR.mono ?_
        have hk1 : KeepB P W w2 := HX.out.trans (KeepB.of_below B2.out HPW.out)
        rintro e W3 (⟨rfl, hJ3, hk3⟩ | ⟨rfl, hJx3⟩)
        · gi_wp2
          go_roundw
          case rel => exact ⟨k + 1, hlt, by go_num, by rw [nbQ_hit HL.out HT.out]; exact hJ3, hk1.trans hk3⟩
          case measure => simp [intOf]; omega
        · gi_wp2
          refine bodyPost_ret (results_none rfl _ _ _) rfl ?_
          exact ⟨⟨_, rfl⟩, .inr ⟨_, ⟨k + 1, hlt, (nbQ_hit HL.out HT.out).symm⟩, hJx3⟩⟩
      | false =>
        have C1 : ∀ V : World, CallsIn Fence.wide (N - 1) Try.prog 101 #[lk.v, .int .i64 n] V fun e w' => e = .returned (.bool false) ∧ Below V.heap.size V w' := fun V => callsIn_wide.2 (by
          have := touches_any lk n V
          rwa [ht] at this)
        have HT := Lib.hid ht
        clear ht
        gi_wp2_with (first
          | (refine ⟨trivial, ?_⟩; gi_at_call 101; refine (C1 _).mono ?_; rintro e w1 ⟨rfl, hb1⟩; have B1 := Lib.hid (Below.trans (B := wr.heap.size) (a := wr) (by (repeat (first | exact Below.refl _ _ | (refine Below.alloc ?_ (by first | exact Nat.le_refl _ | omega | (simp; done) | (simp; omega)) _) | (refine Below.setCell ?_ (by first | exact Nat.le_refl _ | omega | (simp; done) | (simp; omega)) _) | exact Below.drew ‹_›))) (hb1.mono (by simp))); clear hb1)
          | fail)
        refine ⟨trivial, ?_⟩
        gi_wp2
        refine ⟨fun _ h => (by cases h), ?_⟩
        gi_wp2
        go_roundw
        case rel => exact ⟨k + 1, hlt, by go_num, by rw [nbQ_miss HL.out HT.out]; exact abides_below (fun s W1 W2 row h => hJa s W1 W2 row h) HJ.out B1.out, HX.out.trans (KeepB.of_below B1.out HPW.out)⟩
        case measure => simp [intOf]; omega
    · obtain rfl : k = ls.length := by omega
      gi_wp2
      go_end0
      exact ⟨⟨_, rfl⟩, .inl ⟨_, rfl, hJs⟩⟩

theorem nbs_stops (N : Nat) (hN : 2 ≤ N) (Bg Bn n₀ : Nat) (P : Nat → Prop) (A : Option Addr) (ls : List Lk) (c : Nat) (nn n : Int) (hm : ls.length ≤ 2000000)
    (w : World) (hP0 : ∀ b, b < n₀ → P b) (hPn : P Bn) (hPlt : ∀ k, P k → k < w.heap.size)
    (hg : Box w Bg 25 #[.int .i64 nn, .slice A ls.length c]) (hn : Box w Bn 3 #[.int .i64 n]) (hn₀ : n₀ ≤ w.heap.size) (hS : Sl w n₀ A ls) :
    SeqStopsK Fence.wide N Try.prog 100 #[.pointer (some ⟨Bg, 0, none⟩), .pointer (some ⟨Bn, 0, none⟩)] (fun x : NbA n ls => #[Value.int .i64 x.1.1, Value.int .i64 (x.1.2 : Int)]) (KeepB P)
      (fun ys => ys = nbQ n ls ls.length) (fun pre => ∃ k, k ≤ ls.length ∧ pre = nbQ n ls k) ls.length w := fun l J Jx W hW hJ _ hY h0 =>
  nbs_iter N hN l Bg Bn n₀ P A ls c nn n hm J Jx W hJ hP0 hPn (fun k hk => Nat.lt_of_lt_of_le (hPlt k hk) hW.size) hY (hg.below hW hg.lt) (hn.below hW hn.lt) (hS.below (hW.mono hn₀)) h0

end Go.Proofs.Ytkcnbgimdiggoab

/-
  A law for the walk, over any program: a region that draws its order, in a round of a loop over an iterator, whose last operations come in one forced order and whose other operations only read.
-/
namespace Go.Proofs.Ytkcnbgimdiggoab
open Go

section
variable {P : Program} {ops : Array Oper} {md : Region.Mode} {w : World} {n : Nat} {l : Nat}

theorem still_wpIn {o : Oper} (hnd : ∀ c, o.op ≠ .defer c) {a : Act} {K : Act → Prop} {K' : Act → World → Prop} {Q' : Exit → Act → World → Prop} (h : ∀ a, K a → K' a w) (hh : o.still P a w K) : o.wpIn (Fence.wide.inRound l) n P a w K' Q' := by
  refine ⟨fun _ _ => trivial, ?_⟩
  rw [Oper.semAt_eq _ _ _ hnd]
  unfold Oper.still at hh
  generalize (execOp a.eval o).run P w = r at *
  cases r with
  | ok x w' =>
    cases x <;> simp only [Oper.stillUpon] at hh <;> simp only [Oper.uponIn]
    case value v => obtain ⟨rfl, h2⟩ := hh; exact h _ h2
    case skip => obtain ⟨rfl, h2⟩ := hh; exact h _ h2
    case enter f args =>
      obtain ⟨rfl, v, hc, h2⟩ := hh
      exact ⟨fun hd => (by cases hd), (CallsIn.inRound l (callsIn_wide.2 hc)).mono fun e w'' ⟨he, hw⟩ => by subst he; subst hw; exact h _ h2⟩
  | halt x w' => exact hh.elim

theorem wpOpIn_of_still (hnd : ∀ (i : Nat) (o : Oper) c, ops[i]? = some o → o.op ≠ .defer c) {i : Nat} {a : Act} {K : Act → Prop} {K' : Act → World → Prop} {Q' : Exit → Act → World → Prop} (h : ∀ a, K a → K' a w) (hh : stOp P ops w i K a) : wpOpIn (Fence.wide.inRound l) n P ops Q' i K' a w := by
  unfold stOp at hh
  unfold wpOpIn
  split
  · rename_i ho; simp only [ho] at hh; exact h _ hh
  · rename_i o ho
    simp only [ho] at hh
    split
    · rename_i hw; simp only [hw, if_true] at hh; exact still_wpIn (fun c => hnd i o c ho) h hh
    · rename_i hw; simp only [hw] at hh; exact ⟨fun _ _ => trivial, h _ hh⟩

theorem anyIn_of_head (hnd : ∀ (i : Nat) (o : Oper) c, ops[i]? = some o → o.op ≠ .defer c) {m g : Nat} {L : Array Bool → Act → Prop} {Q' : Exit → Act → World → Prop} (hL : ∀ listed a, L listed a → wpAnyIn (Fence.wide.inRound l) n P md ops Q' g listed a w) :
    ∀ (f : Nat) (listed : Array Bool) (a : Act), wpAnyL P md ops w m L f listed a → wpAnyIn (Fence.wide.inRound l) n P md ops Q' (f + g) listed a w
  | 0, listed, a, h => by rw [Nat.zero_add]; exact hL _ _ h
  | f + 1, listed, a, h => by
    rw [show f + 1 + g = (f + g) + 1 by omega]
    exact ⟨fun h0 => absurd h0 h.1, fun i hi => wpOpIn_of_still hnd (fun a' h' => anyIn_of_head hnd hL f _ a' h') (h.2 i hi).2⟩

theorem anyIn_of_seq {Q' : Exit → Act → World → Prop} : ∀ (ls : List Oper) (k : Nat) (listed : Array Bool) (a : Act) (w : World), (∀ j, ls[j]? = ops[k + j]?) →
    Region.seqB md ops ls.length k listed = true → wpListIn (Fence.wide.inRound l) n P ops Q' ls a w → wpAnyIn (Fence.wide.inRound l) n P md ops Q' ls.length listed a w
  | [], _, _, _, _, _, hB, h => ⟨by simpa [Region.seqB] using hB, h⟩
  | o :: ls, k, listed, a, w, hl, hB, h => by
    have h0 : ops[k]? = some o := by simpa using (hl 0).symm
    simp only [List.length_cons, Region.seqB, Bool.and_eq_true, decide_eq_true_eq] at hB
    refine ⟨fun h1 => (by rw [hB.1] at h1; cases h1), fun i hi => ?_⟩
    rw [hB.1] at hi
    have hik : i = k := by simpa using hi
    subst hik
    have hw : wpOpIn (Fence.wide.inRound l) n P ops Q' i (wpListIn (Fence.wide.inRound l) n P ops Q' ls) a w := by unfold wpOpIn; simp only [h0]; exact h
    exact wpOpIn_mono (fun a' w' h' => anyIn_of_seq ls (i + 1) _ a' w' (fun j => by have := hl (j + 1); simpa [Nat.add_assoc, Nat.add_comm 1 j] using this) hB.2 h') hw

def noDefer (ls : List Oper) : Bool := ls.all fun o => match o.op with
  | .defer _ => false
  | _ => true

theorem wpIn_region_tail {id : Nat} {Q : Exit → Act → World → Prop} {a : Act} {w : World} {ls : List Oper} (m : Nat) (hm : P.follows .mixedOrders = true) (hB : Region.lexTailB .any ls.toArray m = true) (hd : noDefer ls = true)
    (h : wpStill P ls.toArray w.drew (fun a' => wpListIn (Fence.wide.inRound l) n P ls.toArray Q (ls.drop m) a' w.drew) (ls.take m) a) : (Code.region id ls.toArray true).wpIn (Fence.wide.inRound l) n P Q a w := by
  have hnd : ∀ (i : Nat) (o : Oper) c, ls.toArray[i]? = some o → o.op ≠ .defer c := fun i o c ho hc => by
    have ho' : ls[i]? = some o := by simpa using ho
    have h1 := List.all_eq_true.1 hd o (List.mem_of_getElem? ho')
    rw [hc] at h1
    cases h1
  simp only [Region.lexTailB, Bool.and_eq_true, decide_eq_true_eq] at hB
  obtain ⟨⟨⟨⟨hsel, hn⟩, hs⟩, hc⟩, hlex⟩ := hB
  have hn' : m < ls.length := by simpa using hn
  have htl : (ls.take m).length = m := by simp; omega
  have hdl : (ls.drop m).length = ls.toArray.size - m := by simp
  have inv0 : HeadInv .any ls.toArray m (Array.replicate ls.toArray.size false) :=
    ⟨by simp, fun j oj _ hl => (by rw [getD_replicate_false] at hl; cases hl), fun t _ ht => getD_in (by simpa using ht) (getD_replicate_false _ _)⟩
  have H := wpAnyL_lex (md := .any) (g := ls.toArray.size - m) hsel hs hc hn (ls.take m) 0 _ a (fun j hj => by
    have hj' : j < m := by rw [htl] at hj; exact hj
    simp [hj']) (by simpa using htl) inv0 (by rw [htl]; exact hlex) h
  refine wpIn_region_any hm ?_
  have := anyIn_of_head (l := l) (n := n) hnd (Q' := Q) (g := ls.toArray.size - m) (fun listed a' hL => by
    have := anyIn_of_seq (l := l) (n := n) (md := .any) (Q' := Q) (ls.drop m) m listed a' w.drew (fun j => by simp [List.getElem?_drop]) (by rw [hdl]; exact hL.1) hL.2
    rwa [hdl] at this) _ _ _ H
  rw [htl, show m + (ls.toArray.size - m) = ls.toArray.size by omega] at this
  exact this
end
end Go.Proofs.Ytkcnbgimdiggoab
