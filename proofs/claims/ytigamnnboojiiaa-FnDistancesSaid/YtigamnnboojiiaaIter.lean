/-
  The iterator over a node's neighbours, over this seat: for every loop body that keeps what lay before, the neighbours come in the order of the links, each with its link's index.
-/
import Derived.RangeFuncNested
import Derived.RangeFuncBound
import Derived.RangeFuncCalls
import Derived.RangeFuncLeaves
import Derived.RangeFuncBox
import Derived.Shelf.Abstract
import Derived.Shelf.RegionOpen
import Derived.WalkKit
import Derived.OwnWalkIn
import Derived.TacticsInMore
import Derived.LoopNIn
import Derived.LoopIn
import Derived.Maps.AppendAt
import Derived.Test.YtigamnnboojiiaaBox
namespace Go.Proofs.Ytigamnnboojiiaa
open Go.RowKit Go.Shelf

attribute [local go_sem] Oper.semAt_some

def touchB (l : Lk) (n : Int) : Bool := decide (l.a = n) || decide (l.b = n)
def acrossI (l : Lk) (n : Int) : Int := if l.a = n then l.b else l.a

theorem touches_any (l : Lk) (n : Int) (w : World) :
   Calls Try.prog 53 #[l.v, .int .i64 n] w fun e w' => e = .returned (.bool (touchB l n)) ∧ Below w.heap.size w w' := by
  go_enter Try.func53, Try.ntmps53
  go_wp2
  all_goals
    go_ret
    exact ⟨ret_bool (by unfold touchB; rw [Bool.eq_iff_iff]; simp_all), by (repeat (first | exact Below.refl _ _ | (refine Below.alloc ?_ (by first | exact Nat.le_refl _ | omega | (simp; done) | (simp; omega)) _) | (refine Below.setCell ?_ (by first | exact Nat.le_refl _ | omega | (simp; done) | (simp; omega)) _) | exact Below.drew ‹_›))⟩

theorem across_any (l : Lk) (n : Int) (w : World) :
   Calls Try.prog 62 #[l.v, .int .i64 n] w fun e w' => e = .returned (.int .i64 (acrossI l n)) ∧ Below w.heap.size w w' := by
  go_enter Try.func62, Try.ntmps62
  go_wp2
  all_goals
    go_ret
    exact ⟨ret_int (by unfold acrossI; simp_all [beq_iff_eq]), by (repeat (first | exact Below.refl _ _ | (refine Below.alloc ?_ (by first | exact Nat.le_refl _ | omega | (simp; done) | (simp; omega)) _) | (refine Below.setCell ?_ (by first | exact Nat.le_refl _ | omega | (simp; done) | (simp; omega)) _) | exact Below.drew ‹_›))⟩

/-- What has come when k links have been looked at. -/
def nbTo (n : Int) (ls : List Lk) : Nat → List (Int × Nat)
  | 0 => []
  | k + 1 => nbTo n ls k ++ (match ls[k]? with
    | some l => if touchB l n = true then [(acrossI l n, k)] else []
    | none => [])
theorem nbTo_len (n : Int) (ls : List Lk) (k : Nat) : (nbTo n ls k).length ≤ k := by
  induction k with
  | zero => simp [nbTo]
  | succ k ih =>
    simp only [nbTo, List.length_append]
    split
    · split <;> simp <;> omega
    · simp; omega
theorem nbTo_hit {n : Int} {ls : List Lk} {k : Nat} {l : Lk} (h : ls[k]? = some l) (ht : touchB l n = true) : nbTo n ls (k + 1) = nbTo n ls k ++ [(acrossI l n, k)] := by
  simp [nbTo, h, ht]
theorem nbTo_miss {n : Int} {ls : List Lk} {k : Nat} {l : Lk} (h : ls[k]? = some l) (ht : touchB l n = false) : nbTo n ls (k + 1) = nbTo n ls k := by
  simp [nbTo, h, ht]

theorem below_grown {w w' : World} (h : Below w.heap.size w w') : w.grownBy w' none := ⟨h.os, h.tape, h.output, h.size, fun k hk _ => h.block k hk⟩
theorem abides_below {β : Type} {B : Nat} {J : β → World → Prop} (hJ : AbidesFrom B J) {s : β} {W W' : World} (h : J s W) (hb : Below W.heap.size W W') : J s W' :=
  hJ s W W' none h (below_grown hb) (fun r e => by cases e)

/-- The blocks in P lie as they lay. -/
def KeepB (P : Nat → Prop) (W W' : World) : Prop := W.heap.size ≤ W'.heap.size ∧ ∀ k, P k → W'.heap[k]? = W.heap[k]?
theorem KeepB.refl (P : Nat → Prop) (W : World) : KeepB P W W := ⟨Nat.le_refl _, fun _ _ => rfl⟩
theorem KeepB.trans {P : Nat → Prop} {A B C : World} (h : KeepB P A B) (k : KeepB P B C) : KeepB P A C := ⟨Nat.le_trans h.1 k.1, fun i hi => (k.2 i hi).trans (h.2 i hi)⟩
theorem KeepB.of_below {P : Nat → Prop} {A B : World} (h : Below A.heap.size A B) (hP : ∀ k, P k → k < A.heap.size) : KeepB P A B := ⟨h.size, fun i hi => h.block i (hP i hi)⟩
theorem KeepB.put {P : Nat → Prop} {w : World} (hP : ∀ k, P k → k < w.heap.size) (W : World) (l : Nat) (o o' : Obj) (hl : w.heap.size ≤ l) (_h : W.heap[l]? = some o) : KeepB P W (W.putObj l o') := by
  refine ⟨by simp [World.putObj], fun k hk => ?_⟩
  have := hP k hk
  simp [World.putObj, show l ≠ k by omega]
theorem Sl.keepB {P : Nat → Prop} {W W' : World} {B : Nat} {A : Option Addr} {ls : List Lk} (h : Sl W B A ls) (hk : KeepB P W W') (hP : ∀ b, b < B → P b) : Sl W' B A ls :=
  h.keep fun b o hb => World.cell?_of_block (a := ⟨b, o, none⟩) (hk.2 b (hP b hb))

set_option maxRecDepth 100000 in
set_option maxHeartbeats 2000000 in
theorem nb_iter (N : Nat) (hN : 2 ≤ N) (l Bg Bn n₀ : Nat) (P : Nat → Prop) (A : Option Addr) (ls : List Lk) (c : Nat) (nn n : Int) (hm : ls.length ≤ 2000000) (J Jx : List (Int × Nat) → World → Prop)
    (W : World) (hJa : AbidesFrom W.heap.size J) (hP0 : ∀ b, b < n₀ → P b) (hPn : P Bn) (hPlt : ∀ k, P k → k < W.heap.size)
    (hY : ∀ pre x W1, J pre W1 → pre.length < ls.length → YieldAt Fence.wide (N - 1) Try.prog l #[.int .i64 x.1, .int .i64 (x.2 : Int)] W1 fun e W' =>
      (e = .returned (.bool true) ∧ J (pre ++ [x]) W' ∧ KeepB P W1 W') ∨ (e = .returned (.bool false) ∧ Jx (pre ++ [x]) W'))
    (hg : Box W Bg 30 #[.int .i64 nn, .slice A ls.length c]) (hn : Box W Bn 3 #[.int .i64 n]) (hS : Sl W n₀ A ls) (h0 : J [] W) :
    CallsIn Fence.wide N Try.prog 61 #[.func (.yield l) #[] #[], .pointer (some ⟨Bg, 0, none⟩), .pointer (some ⟨Bn, 0, none⟩)] W fun e W' => (∃ v, e = .returned v) ∧
      ((∃ ys, ys = nbTo n ls ls.length ∧ J ys W') ∨ (∃ pre, (∃ k, k ≤ ls.length ∧ pre = nbTo n ls k) ∧ Jx pre W')) := by
  have hbg1 := hg.cell 1
  have h1N : 1 ≤ N := by omega
  have HS := Lib.hid hS
  have HN := Lib.hid hn
  have HY := Lib.hid hY
  clear hS hn hY hg
  refine callsIn_of_wp Try.func61 rfl trivial ?_ rfl
  simp only [Try.ntmps61, List.size_toArray, List.length_cons, List.length_nil, Nat.reduceAdd, Nat.reduceSub, Array.replicate_succ, Array.replicate_zero, List.push_toArray, List.append_toArray, List.nil_append, List.cons_append]
  gi_wp2
  gi_loopw [9] (fun i wr => ∃ k : Nat, k ≤ ls.length ∧ i = .int .i64 k ∧ J (nbTo n ls k) wr ∧ KeepB P W wr)
    (fun i _ => ls.length - (intOf i).toNat)
  case atStart => exact ⟨0, Nat.zero_le _, rfl, h0, KeepB.refl _ _⟩
  case round =>
    obtain ⟨k, hk, rfl, hJs, hnx⟩ := hrel
    by_cases hlt : k < ls.length
    · obtain ⟨lk, hl⟩ : ∃ x, ls[k]? = some x := ⟨_, List.getElem?_eq_getElem hlt⟩
      obtain ⟨b, off, rfl, hbb, hc1, hc2, hc3⟩ := (HS.out.keepB hnx hP0) k lk hl
      have HL := Lib.hid hl
      have hz := hnx.1
      have hcn : wr.cell? ⟨Bn, 0, none⟩ = some (.int .i64 n) := Box.cell (show Box wr Bn 3 #[.int .i64 n] from (hnx.2 Bn hPn).trans HN.out) 0
      have hbb1 : b < wr.heap.size := Nat.lt_of_lt_of_le (hPlt b (hP0 b hbb)) hz
      have hbn1 : Bn < wr.heap.size := Nat.lt_of_lt_of_le (hPlt Bn hPn) hz
      have HPW := Lib.hid (fun k hk => Nat.lt_of_lt_of_le (hPlt k hk) hz)
      have HJ := Lib.hid hJs
      have HX := Lib.hid hnx
      clear hl hJs hnx
      cases ht : touchB lk n with
      | true =>
        have C1 : ∀ V : World, CallsIn Fence.wide (N - 1) Try.prog 53 #[lk.v, .int .i64 n] V fun e w' => e = .returned (.bool true) ∧ Below V.heap.size V w' := fun V => callsIn_wide.2 (by
          have := touches_any lk n V
          rwa [ht] at this)
        have HT := Lib.hid ht
        clear ht
        gi_wp2_with (first
          | (refine ⟨trivial, ?_⟩; gi_at_call 53; refine (C1 _).mono ?_; rintro e w1 ⟨rfl, hb1⟩; have K1 := Lib.hid (Box.below (Box.new wr 47 #[.int .i64 lk.a, .int .i64 lk.b, .int .i64 lk.c]) hb1 (by simp)); have e10 := K1.out.cell 0; have e11 := K1.out.cell 1; have e12 := K1.out.cell 2; have B1 := Lib.hid (Below.trans (B := wr.heap.size) (a := wr) (by (repeat (first | exact Below.refl _ _ | (refine Below.alloc ?_ (by first | exact Nat.le_refl _ | omega | (simp; done) | (simp; omega)) _) | (refine Below.setCell ?_ (by first | exact Nat.le_refl _ | omega | (simp; done) | (simp; omega)) _) | exact Below.drew ‹_›))) (hb1.mono (by simp))); have s1 : wr.heap.size < w1.heap.size := K1.out.lt; have n1 : w1.cell? ⟨Bn, 0, none⟩ = some (.int .i64 n) := (B1.out.cell (p := ⟨Bn, 0, none⟩) hbn1).trans hcn; clear hb1)
          | (refine ⟨trivial, ?_⟩; gi_at_call 62; refine (callsIn_wide.2 (across_any lk n _)).mono ?_; rintro e w2 ⟨rfl, hb2⟩; have B2 := Lib.hid (B1.out.trans (hb2.mono (Nat.le_of_lt s1))); obtain ⟨fn, tmps, assign, body, hy, hR⟩ := HY.out _ (acrossI lk n, k) w2 (abides_below (fun s W1 W2 row h => hJa s W1 W2 row h) HJ.out B2.out) (Nat.lt_of_le_of_lt (nbTo_len n ls k) hlt); dsimp only at hy; clear hb2 e10 e11 e12 n1)
          | fail)
        refine hR.mono ?_
        have hk1 : KeepB P W w2 := HX.out.trans (KeepB.of_below B2.out HPW.out)
        rintro e W3 (⟨rfl, hJ3, hk3⟩ | ⟨rfl, hJx3⟩)
        · gi_wp2
          go_roundw
          case rel => exact ⟨k + 1, hlt, by go_num, by rw [nbTo_hit HL.out HT.out]; exact hJ3, hk1.trans hk3⟩
          case measure => simp [intOf]; omega
        · gi_wp2
          refine bodyPost_ret (results_none rfl _ _ _) rfl ?_
          exact ⟨⟨_, rfl⟩, .inr ⟨_, ⟨k + 1, hlt, (nbTo_hit HL.out HT.out).symm⟩, hJx3⟩⟩
      | false =>
        have C1 : ∀ V : World, CallsIn Fence.wide (N - 1) Try.prog 53 #[lk.v, .int .i64 n] V fun e w' => e = .returned (.bool false) ∧ Below V.heap.size V w' := fun V => callsIn_wide.2 (by
          have := touches_any lk n V
          rwa [ht] at this)
        have HT := Lib.hid ht
        clear ht
        gi_wp2_with (first
          | (refine ⟨trivial, ?_⟩; gi_at_call 53; refine (C1 _).mono ?_; rintro e w1 ⟨rfl, hb1⟩; have B1 := Lib.hid (Below.trans (B := wr.heap.size) (a := wr) (by (repeat (first | exact Below.refl _ _ | (refine Below.alloc ?_ (by first | exact Nat.le_refl _ | omega | (simp; done) | (simp; omega)) _) | (refine Below.setCell ?_ (by first | exact Nat.le_refl _ | omega | (simp; done) | (simp; omega)) _) | exact Below.drew ‹_›))) (hb1.mono (by simp))); clear hb1)
          | fail)
        refine ⟨trivial, ?_⟩
        gi_wp2
        refine ⟨fun _ h => (by cases h), ?_⟩
        gi_wp2
        go_roundw
        case rel => exact ⟨k + 1, hlt, by go_num, by rw [nbTo_miss HL.out HT.out]; exact abides_below (fun s W1 W2 row h => hJa s W1 W2 row h) HJ.out B1.out, HX.out.trans (KeepB.of_below B1.out HPW.out)⟩
        case measure => simp [intOf]; omega
    · obtain rfl : k = ls.length := by omega
      gi_wp2
      go_end0
      exact ⟨⟨_, rfl⟩, .inl ⟨_, rfl, hJs⟩⟩

end Go.Proofs.Ytigamnnboojiiaa
