/-
  The iterator over a node's neighbours, over this seat, where the loop's body may know that each neighbour comes with the index of a link that leads to it.
-/
import Derived.Test.YtigamnnboojiiaaLink
import Derived.Test.YtigamnnboojiiaaWk
namespace Go.Proofs.Ytigamnnboojiiaa
open Go.RowKit Go.Shelf

attribute [local go_sem] Oper.semAt_some

/-- A neighbour of n with the index of the link. -/
def NbOk (n : Int) (ls : List Lk) (p : Int × Nat) : Prop := ∃ l, ls[p.2]? = some l ∧ touchB l n = true ∧ p.1 = acrossI l n
abbrev NbA (n : Int) (ls : List Lk) : Type := { p : Int × Nat // NbOk n ls p }
open Classical in
noncomputable def nbQ (n : Int) (ls : List Lk) : Nat → List (NbA n ls)
  | 0 => []
  | k + 1 => nbQ n ls k ++ (if h : ∃ l, ls[k]? = some l ∧ touchB l n = true then [⟨(acrossI h.choose n, k), ⟨h.choose, h.choose_spec.1, h.choose_spec.2, rfl⟩⟩] else [])
theorem nbQ_len (n : Int) (ls : List Lk) (k : Nat) : (nbQ n ls k).length ≤ k := by
  induction k with
  | zero => simp [nbQ]
  | succ k ih =>
    simp only [nbQ, List.length_append]
    split <;> simp <;> omega
theorem nbQ_hit {n : Int} {ls : List Lk} {k : Nat} {l : Lk} (h : ls[k]? = some l) (ht : touchB l n = true) : nbQ n ls (k + 1) = nbQ n ls k ++ [⟨(acrossI l n, k), ⟨l, h, ht, rfl⟩⟩] := by
  have hx : ∃ l, ls[k]? = some l ∧ touchB l n = true := ⟨l, h, ht⟩
  have e : hx.choose = l := by
    exact (Option.some.inj (h.symm.trans hx.choose_spec.1)).symm
  simp only [nbQ]
  rw [dif_pos hx]
  congr 2
  exact Subtype.ext (by simp [e])
theorem nbQ_miss {n : Int} {ls : List Lk} {k : Nat} {l : Lk} (h : ls[k]? = some l) (ht : touchB l n = false) : nbQ n ls (k + 1) = nbQ n ls k := by
  simp only [nbQ]
  rw [dif_neg (fun ⟨m, hm, hmt⟩ => by rw [h] at hm; cases hm; rw [ht] at hmt; cases hmt), List.append_nil]
theorem nbQ_map (n : Int) (ls : List Lk) (k : Nat) (hk : k ≤ ls.length) : (nbQ n ls k).map (·.1) = nbTo n ls k := by
  induction k with
  | zero => rfl
  | succ k ih =>
    obtain ⟨l, hl⟩ : ∃ l, ls[k]? = some l := ⟨_, List.getElem?_eq_getElem (by omega)⟩
    cases ht : touchB l n with
    | true => rw [nbQ_hit hl ht, nbTo_hit hl ht, List.map_append, ih (by omega)]; rfl
    | false => rw [nbQ_miss hl ht, nbTo_miss hl ht, ih (by omega)]
/-- All links of n come. -/
theorem nbQ_all {n : Int} {ls : List Lk} {k : Nat} {l : Lk} (h : ls[k]? = some l) (ht : touchB l n = true) : ∀ m, k < m → (⟨(acrossI l n, k), ⟨l, h, ht, rfl⟩⟩ : NbA n ls) ∈ nbQ n ls m
  | 0, hm => by omega
  | m + 1, hm => by
    by_cases hkm : k = m
    · subst hkm
      rw [nbQ_hit h ht]
      simp
    · have := nbQ_all h ht m (by omega)
      simp only [nbQ, List.mem_append]
      exact .inl this
/-- Adjacent nodes are neighbours. -/
theorem nbQ_adj {n : Int} {ls : List Lk} {w e : Int} : Adj ls n w e ↔ ∃ p ∈ nbQ n ls ls.length, w = p.1.1 ∧ ∃ l, ls[p.1.2]? = some l ∧ e = l.c := by
  constructor
  · rintro ⟨l, hl, hh, rfl⟩
    obtain ⟨k, hk⟩ := List.getElem?_of_mem hl
    have ht : touchB l n = true := by unfold touchB; rcases hh with ⟨h, _⟩ | ⟨h, _⟩ <;> simp [h]
    refine ⟨_, nbQ_all hk ht ls.length (List.getElem?_eq_some_iff.1 hk).1, ?_, l, hk, rfl⟩
    show w = acrossI l n
    unfold acrossI
    rcases hh with ⟨h, h'⟩ | ⟨h, h'⟩
    · rw [if_pos h]; exact h'.symm
    · split
      · rename_i h2; omega
      · exact h'.symm
  · rintro ⟨⟨⟨v, k⟩, l', hl', ht, hv⟩, _, rfl, l, hl, rfl⟩
    dsimp only at hl' hv hl ⊢
    rw [hl'] at hl
    cases hl
    refine ⟨l', List.mem_of_getElem? hl', ?_, rfl⟩
    subst hv
    unfold acrossI
    unfold touchB at ht
    simp at ht
    split
    · rename_i h; exact .inl ⟨h, rfl⟩
    · rename_i h
      rcases ht with h2 | h2
      · exact absurd h2 h
      · exact .inr ⟨h2, rfl⟩

set_option maxRecDepth 100000 in
set_option maxHeartbeats 2000000 in
theorem nbs_iter (N : Nat) (hN : 2 ≤ N) (l Bg Bn n₀ : Nat) (P : Nat → Prop) (A : Option Addr) (ls : List Lk) (c : Nat) (nn n : Int) (hm : ls.length ≤ 2000000) (J Jx : List (NbA n ls) → World → Prop)
    (W : World) (hJa : AbidesFrom W.heap.size J) (hP0 : ∀ b, b < n₀ → P b) (hPn : P Bn) (hPlt : ∀ k, P k → k < W.heap.size)
    (hY : ∀ pre x W1, J pre W1 → pre.length < ls.length → YieldAt Fence.wide (N - 1) Try.prog l #[.int .i64 x.1.1, .int .i64 (x.1.2 : Int)] W1 fun e W' =>
      (e = .returned (.bool true) ∧ J (pre ++ [x]) W' ∧ KeepB P W1 W') ∨ (e = .returned (.bool false) ∧ Jx (pre ++ [x]) W'))
    (hg : Box W Bg 30 #[.int .i64 nn, .slice A ls.length c]) (hn : Box W Bn 3 #[.int .i64 n]) (hS : Sl W n₀ A ls) (h0 : J [] W) :
    CallsIn Fence.wide N Try.prog 61 #[.func (.yield l) #[] #[], .pointer (some ⟨Bg, 0, none⟩), .pointer (some ⟨Bn, 0, none⟩)] W fun e W' => (∃ v, e = .returned v) ∧
      ((∃ ys, ys = nbQ n ls ls.length ∧ J ys W') ∨ (∃ pre, (∃ k, k ≤ ls.length ∧ pre = nbQ n ls k) ∧ Jx pre W')) := by
  have hbg1 := hg.cell 1
  have h1N : 1 ≤ N := by omega
  have HS := Lib.hid hS
  have HN := Lib.hid hn
  have HY := Lib.hid hY
  clear hS hn hY hg
  refine callsIn_of_wp Try.func61 rfl trivial ?_ rfl
  simp only [Try.ntmps61, List.size_toArray, List.length_cons, List.length_nil, Nat.reduceAdd, Nat.reduceSub, Array.replicate_succ, Array.replicate_zero, List.push_toArray, List.append_toArray, List.nil_append, List.cons_append]
  gi_wp2
  gi_loopw [9] (fun i wr => ∃ k : Nat, k ≤ ls.length ∧ i = .int .i64 k ∧ J (nbQ n ls k) wr ∧ KeepB P W wr)
    (fun i _ => ls.length - (intOf i).toNat)
  case atStart => exact ⟨0, Nat.zero_le _, rfl, h0, KeepB.refl _ _⟩
  case round =>
    obtain ⟨k, hk, rfl, hJs, hnx⟩ := hrel
    by_cases hlt : k < ls.length
    · obtain ⟨lk, hl⟩ : ∃ x, ls[k]? = some x := ⟨_, List.getElem?_eq_getElem hlt⟩
      obtain ⟨b, off, rfl, hbb, hc1, hc2, hc3⟩ := (HS.out.keepB hnx hP0) k lk hl
      have HL := Lib.hid hl
      have hz := hnx.1
      have hcn : wr.cell? ⟨Bn, 0, none⟩ = some (.int .i64 n) := Box.cell (show Box wr Bn 3 #[.int .i64 n] from (hnx.2 Bn hPn).trans HN.out) 0
      have hbb1 : b < wr.heap.size := Nat.lt_of_lt_of_le (hPlt b (hP0 b hbb)) hz
      have hbn1 : Bn < wr.heap.size := Nat.lt_of_lt_of_le (hPlt Bn hPn) hz
      have HPW := Lib.hid (fun k hk => Nat.lt_of_lt_of_le (hPlt k hk) hz)
      have HJ := Lib.hid hJs
      have HX := Lib.hid hnx
      clear hl hJs hnx
      cases ht : touchB lk n with
      | true =>
        have C1 : ∀ V : World, CallsIn Fence.wide (N - 1) Try.prog 53 #[lk.v, .int .i64 n] V fun e w' => e = .returned (.bool true) ∧ Below V.heap.size V w' := fun V => callsIn_wide.2 (by
          have := touches_any lk n V
          rwa [ht] at this)
        have HT := Lib.hid ht
        clear ht
        gi_wp2_with (first
          | (refine ⟨trivial, ?_⟩; gi_at_call 53; refine (C1 _).mono ?_; rintro e w1 ⟨rfl, hb1⟩; have K1 := Lib.hid (Box.below (Box.new wr 47 #[.int .i64 lk.a, .int .i64 lk.b, .int .i64 lk.c]) hb1 (by simp)); have e10 := K1.out.cell 0; have e11 := K1.out.cell 1; have e12 := K1.out.cell 2; have B1 := Lib.hid (Below.trans (B := wr.heap.size) (a := wr) (by (repeat (first | exact Below.refl _ _ | (refine Below.alloc ?_ (by first | exact Nat.le_refl _ | omega | (simp; done) | (simp; omega)) _) | (refine Below.setCell ?_ (by first | exact Nat.le_refl _ | omega | (simp; done) | (simp; omega)) _) | exact Below.drew ‹_›))) (hb1.mono (by simp))); have s1 : wr.heap.size < w1.heap.size := K1.out.lt; have n1 : w1.cell? ⟨Bn, 0, none⟩ = some (.int .i64 n) := (B1.out.cell (p := ⟨Bn, 0, none⟩) hbn1).trans hcn; clear hb1)
          | (refine ⟨trivial, ?_⟩; gi_at_call 62; refine (callsIn_wide.2 (across_any lk n _)).mono ?_; rintro e w2 ⟨rfl, hb2⟩; have B2 := Lib.hid (B1.out.trans (hb2.mono (Nat.le_of_lt s1))); obtain ⟨fn, tmps, assign, body, hy, hR⟩ := HY.out _ ⟨(acrossI lk n, k), ⟨lk, HL.out, HT.out, rfl⟩⟩ w2 (abides_below (fun s W1 W2 row h => hJa s W1 W2 row h) HJ.out B2.out) (Nat.lt_of_le_of_lt (nbQ_len n ls k) hlt); dsimp only at hy; clear hb2 e10 e11 e12 n1)
          | fail)
        refine hR.mono ?_
        have hk1 : KeepB P W w2 := HX.out.trans (KeepB.of_below B2.out HPW.out)
        rintro e W3 (⟨rfl, hJ3, hk3⟩ | ⟨rfl, hJx3⟩)
        · gi_wp2
          go_roundw
          case rel => exact ⟨k + 1, hlt, by go_num, by rw [nbQ_hit HL.out HT.out]; exact hJ3, hk1.trans hk3⟩
          case measure => simp [intOf]; omega
        · gi_wp2
          refine bodyPost_ret (results_none rfl _ _ _) rfl ?_
          exact ⟨⟨_, rfl⟩, .inr ⟨_, ⟨k + 1, hlt, (nbQ_hit HL.out HT.out).symm⟩, hJx3⟩⟩
      | false =>
        have C1 : ∀ V : World, CallsIn Fence.wide (N - 1) Try.prog 53 #[lk.v, .int .i64 n] V fun e w' => e = .returned (.bool false) ∧ Below V.heap.size V w' := fun V => callsIn_wide.2 (by
          have := touches_any lk n V
          rwa [ht] at this)
        have HT := Lib.hid ht
        clear ht
        gi_wp2_with (first
          | (refine ⟨trivial, ?_⟩; gi_at_call 53; refine (C1 _).mono ?_; rintro e w1 ⟨rfl, hb1⟩; have B1 := Lib.hid (Below.trans (B := wr.heap.size) (a := wr) (by (repeat (first | exact Below.refl _ _ | (refine Below.alloc ?_ (by first | exact Nat.le_refl _ | omega | (simp; done) | (simp; omega)) _) | (refine Below.setCell ?_ (by first | exact Nat.le_refl _ | omega | (simp; done) | (simp; omega)) _) | exact Below.drew ‹_›))) (hb1.mono (by simp))); clear hb1)
          | fail)
        refine ⟨trivial, ?_⟩
        gi_wp2
        refine ⟨fun _ h => (by cases h), ?_⟩
        gi_wp2
        go_roundw
        case rel => exact ⟨k + 1, hlt, by go_num, by rw [nbQ_miss HL.out HT.out]; exact abides_below (fun s W1 W2 row h => hJa s W1 W2 row h) HJ.out B1.out, HX.out.trans (KeepB.of_below B1.out HPW.out)⟩
        case measure => simp [intOf]; omega
    · obtain rfl : k = ls.length := by omega
      gi_wp2
      go_end0
      exact ⟨⟨_, rfl⟩, .inl ⟨_, rfl, hJs⟩⟩

theorem nbs_stops (N : Nat) (hN : 2 ≤ N) (Bg Bn n₀ : Nat) (P : Nat → Prop) (A : Option Addr) (ls : List Lk) (c : Nat) (nn n : Int) (hm : ls.length ≤ 2000000)
    (w : World) (hP0 : ∀ b, b < n₀ → P b) (hPn : P Bn) (hPlt : ∀ k, P k → k < w.heap.size)
    (hg : Box w Bg 30 #[.int .i64 nn, .slice A ls.length c]) (hn : Box w Bn 3 #[.int .i64 n]) (hn₀ : n₀ ≤ w.heap.size) (hS : Sl w n₀ A ls) :
    SeqStopsK Fence.wide N Try.prog 61 #[.pointer (some ⟨Bg, 0, none⟩), .pointer (some ⟨Bn, 0, none⟩)] (fun x : NbA n ls => #[Value.int .i64 x.1.1, Value.int .i64 (x.1.2 : Int)]) (KeepB P)
      (fun ys => ys = nbQ n ls ls.length) (fun pre => ∃ k, k ≤ ls.length ∧ pre = nbQ n ls k) ls.length w := fun l J Jx W hW hJ _ hY h0 =>
  nbs_iter N hN l Bg Bn n₀ P A ls c nn n hm J Jx W hJ hP0 hPn (fun k hk => Nat.lt_of_lt_of_le (hPlt k hk) hW.size) hY (hg.below hW hg.lt) (hn.below hW hn.lt) (hS.below (hW.mono hn₀)) h0

end Go.Proofs.Ytigamnnboojiiaa
