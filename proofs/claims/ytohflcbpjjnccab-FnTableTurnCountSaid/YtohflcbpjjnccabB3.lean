/-
  Contracts over this seat: validWith: the graph is valid, and all nodes of a list exist in it.
-/
import Derived.Test.YtohflcbpjjnccabA2
import Derived.Test.YtohflcbpjjnccabA3
import Derived.Laws.CopyOwn
import Derived.Deep.RegionLaw
import Derived.Test.YtohflcbpjjnccabA9
import Derived.StillTailTactics
import Derived.OrdersIn
import Derived.TacticsIn
import Derived.RangeFuncCalls
namespace Go.Proofs.Ytohflcbpjjnccab
open Go.RowKit




def vwB (nn : Int) (ls : List Lk) (xs : List Int) : Bool := gvB nn ls && xs.all fun x => inB x 0 (nn - 1)


end Go.Proofs.Ytohflcbpjjnccab

/-
  Contracts over this seat: slices.Repeat at one number, one to eight times.
-/
namespace Go.Proofs.Ytohflcbpjjnccab
open Go.RowKit


theorem take_rep {c : Int} {n m : Nat} {cur : List Value} (_hl : cur.length = n) (_hm : m ≤ n) (h : cur.take m = List.replicate m (.int .i64 c)) : ∀ j, j < m → cur[j]? = some (.int .i64 c) := by
  intro j hj
  have := congrArg (fun l => l[j]?) h
  simpa [List.getElem?_take_of_lt hj, List.getElem?_replicate, hj] using this
theorem splice_rep {c : Int} {n m k : Nat} {cur : List Value} (hl : cur.length = n) (hmk : m + k ≤ n) (h : cur.take m = List.replicate m (.int .i64 c)) :
    (splice cur m (List.replicate k (.int .i64 c))).length = n ∧ (splice cur m (List.replicate k (.int .i64 c))).take (m + k) = List.replicate (m + k) (.int .i64 c) := by
  refine ⟨by rw [length_splice _ _ _ (by simp; omega)]; exact hl, ?_⟩
  unfold splice
  rw [h, ← List.append_assoc, List.replicate_append_replicate]
  exact List.take_left' (by simp)


end Go.Proofs.Ytohflcbpjjnccab

/-
  The iterator over a node's neighbours, over this seat, where the loop's body may know that each neighbour comes with the index of a link that leads to it.
-/
namespace Go.Proofs.Ytohflcbpjjnccab
open Go.RowKit Go.Shelf

attribute [local go_sem] Oper.semAt_some

/-- A neighbour of n with the index of the link. -/
def NbOk (n : Int) (ls : List Lk) (p : Int × Nat) : Prop := ∃ l, ls[p.2]? = some l ∧ touchB l n = true ∧ p.1 = acrossI l n
abbrev NbA (n : Int) (ls : List Lk) : Type := { p : Int × Nat // NbOk n ls p }
open Classical in
noncomputable def nbQ (n : Int) (ls : List Lk) : Nat → List (NbA n ls)
  | 0 => []
  | k + 1 => nbQ n ls k ++ (if h : ∃ l, ls[k]? = some l ∧ touchB l n = true then [⟨(acrossI h.choose n, k), ⟨h.choose, h.choose_spec.1, h.choose_spec.2, rfl⟩⟩] else [])
theorem nbQ_len (n : Int) (ls : List Lk) (k : Nat) : (nbQ n ls k).length ≤ k := by
  induction k with
  | zero => simp [nbQ]
  | succ k ih =>
    simp only [nbQ, List.length_append]
    split <;> simp <;> omega
theorem nbQ_hit {n : Int} {ls : List Lk} {k : Nat} {l : Lk} (h : ls[k]? = some l) (ht : touchB l n = true) : nbQ n ls (k + 1) = nbQ n ls k ++ [⟨(acrossI l n, k), ⟨l, h, ht, rfl⟩⟩] := by
  have hx : ∃ l, ls[k]? = some l ∧ touchB l n = true := ⟨l, h, ht⟩
  have e : hx.choose = l := by
    exact (Option.some.inj (h.symm.trans hx.choose_spec.1)).symm
  simp only [nbQ]
  rw [dif_pos hx]
  congr 2
  exact Subtype.ext (by simp [e])
theorem nbQ_miss {n : Int} {ls : List Lk} {k : Nat} {l : Lk} (h : ls[k]? = some l) (ht : touchB l n = false) : nbQ n ls (k + 1) = nbQ n ls k := by
  simp only [nbQ]
  rw [dif_neg (fun ⟨m, hm, hmt⟩ => by rw [h] at hm; cases hm; rw [ht] at hmt; cases hmt), List.append_nil]
theorem nbQ_map (n : Int) (ls : List Lk) (k : Nat) (hk : k ≤ ls.length) : (nbQ n ls k).map (·.1) = nbTo n ls k := by
  induction k with
  | zero => rfl
  | succ k ih =>
    obtain ⟨l, hl⟩ : ∃ l, ls[k]? = some l := ⟨_, List.getElem?_eq_getElem (by omega)⟩
    cases ht : touchB l n with
    | true => rw [nbQ_hit hl ht, nbTo_hit hl ht, List.map_append, ih (by omega)]; rfl
    | false => rw [nbQ_miss hl ht, nbTo_miss hl ht, ih (by omega)]
/-- All links of n come. -/
theorem nbQ_all {n : Int} {ls : List Lk} {k : Nat} {l : Lk} (h : ls[k]? = some l) (ht : touchB l n = true) : ∀ m, k < m → (⟨(acrossI l n, k), ⟨l, h, ht, rfl⟩⟩ : NbA n ls) ∈ nbQ n ls m
  | 0, hm => by omega
  | m + 1, hm => by
    by_cases hkm : k = m
    · subst hkm
      rw [nbQ_hit h ht]
      simp
    · have := nbQ_all h ht m (by omega)
      simp only [nbQ, List.mem_append]
      exact .inl this
/-- Adjacent nodes are neighbours. -/
theorem nbQ_adj {n : Int} {ls : List Lk} {w e : Int} : Adj ls n w e ↔ ∃ p ∈ nbQ n ls ls.length, w = p.1.1 ∧ ∃ l, ls[p.1.2]? = some l ∧ e = l.c := by
  constructor
  · rintro ⟨l, hl, hh, rfl⟩
    obtain ⟨k, hk⟩ := List.getElem?_of_mem hl
    have ht : touchB l n = true := by unfold touchB; rcases hh with ⟨h, _⟩ | ⟨h, _⟩ <;> simp [h]
    refine ⟨_, nbQ_all hk ht ls.length (List.getElem?_eq_some_iff.1 hk).1, ?_, l, hk, rfl⟩
    show w = acrossI l n
    unfold acrossI
    rcases hh with ⟨h, h'⟩ | ⟨h, h'⟩
    · rw [if_pos h]; exact h'.symm
    · split
      · rename_i h2; omega
      · exact h'.symm
  · rintro ⟨⟨⟨v, k⟩, l', hl', ht, hv⟩, _, rfl, l, hl, rfl⟩
    dsimp only at hl' hv hl ⊢
    rw [hl'] at hl
    cases hl
    refine ⟨l', List.mem_of_getElem? hl', ?_, rfl⟩
    subst hv
    unfold acrossI
    unfold touchB at ht
    simp at ht
    split
    · rename_i h; exact .inl ⟨h, rfl⟩
    · rename_i h
      rcases ht with h2 | h2
      · exact absurd h2 h
      · exact .inr ⟨h2, rfl⟩



end Go.Proofs.Ytohflcbpjjnccab

/-
  A law for the walk, over any program: a region that draws its order, in a round of a loop over an iterator, whose last operations come in one forced order and whose other operations only read.
-/
namespace Go.Proofs.Ytohflcbpjjnccab
open Go

section
variable {P : Program} {ops : Array Oper} {md : Region.Mode} {w : World} {n : Nat} {l : Nat}

theorem still_wpIn {o : Oper} (hnd : ∀ c, o.op ≠ .defer c) {a : Act} {K : Act → Prop} {K' : Act → World → Prop} {Q' : Exit → Act → World → Prop} (h : ∀ a, K a → K' a w) (hh : o.still P a w K) : o.wpIn (Fence.wide.inRound l) n P a w K' Q' := by
  refine ⟨fun _ _ => trivial, ?_⟩
  rw [Oper.semAt_eq _ _ _ hnd]
  unfold Oper.still at hh
  generalize (execOp a.eval o).run P w = r at *
  cases r with
  | ok x w' =>
    cases x <;> simp only [Oper.stillUpon] at hh <;> simp only [Oper.uponIn]
    case value v => obtain ⟨rfl, h2⟩ := hh; exact h _ h2
    case skip => obtain ⟨rfl, h2⟩ := hh; exact h _ h2
    case enter f args =>
      obtain ⟨rfl, v, hc, h2⟩ := hh
      exact ⟨fun hd => (by cases hd), (CallsIn.inRound l (callsIn_wide.2 hc)).mono fun e w'' ⟨he, hw⟩ => by subst he; subst hw; exact h _ h2⟩
  | halt x w' => exact hh.elim

theorem wpOpIn_of_still (hnd : ∀ (i : Nat) (o : Oper) c, ops[i]? = some o → o.op ≠ .defer c) {i : Nat} {a : Act} {K : Act → Prop} {K' : Act → World → Prop} {Q' : Exit → Act → World → Prop} (h : ∀ a, K a → K' a w) (hh : stOp P ops w i K a) : wpOpIn (Fence.wide.inRound l) n P ops Q' i K' a w := by
  unfold stOp at hh
  unfold wpOpIn
  split
  · rename_i ho; simp only [ho] at hh; exact h _ hh
  · rename_i o ho
    simp only [ho] at hh
    split
    · rename_i hw; simp only [hw, if_true] at hh; exact still_wpIn (fun c => hnd i o c ho) h hh
    · rename_i hw; simp only [hw] at hh; exact ⟨fun _ _ => trivial, h _ hh⟩

theorem anyIn_of_head (hnd : ∀ (i : Nat) (o : Oper) c, ops[i]? = some o → o.op ≠ .defer c) {m g : Nat} {L : Array Bool → Act → Prop} {Q' : Exit → Act → World → Prop} (hL : ∀ listed a, L listed a → wpAnyIn (Fence.wide.inRound l) n P md ops Q' g listed a w) :
    ∀ (f : Nat) (listed : Array Bool) (a : Act), wpAnyL P md ops w m L f listed a → wpAnyIn (Fence.wide.inRound l) n P md ops Q' (f + g) listed a w
  | 0, listed, a, h => by rw [Nat.zero_add]; exact hL _ _ h
  | f + 1, listed, a, h => by
    rw [show f + 1 + g = (f + g) + 1 by omega]
    exact ⟨fun h0 => absurd h0 h.1, fun i hi => wpOpIn_of_still hnd (fun a' h' => anyIn_of_head hnd hL f _ a' h') (h.2 i hi).2⟩

theorem anyIn_of_seq {Q' : Exit → Act → World → Prop} : ∀ (ls : List Oper) (k : Nat) (listed : Array Bool) (a : Act) (w : World), (∀ j, ls[j]? = ops[k + j]?) →
    Region.seqB md ops ls.length k listed = true → wpListIn (Fence.wide.inRound l) n P ops Q' ls a w → wpAnyIn (Fence.wide.inRound l) n P md ops Q' ls.length listed a w
  | [], _, _, _, _, _, hB, h => ⟨by simpa [Region.seqB] using hB, h⟩
  | o :: ls, k, listed, a, w, hl, hB, h => by
    have h0 : ops[k]? = some o := by simpa using (hl 0).symm
    simp only [List.length_cons, Region.seqB, Bool.and_eq_true, decide_eq_true_eq] at hB
    refine ⟨fun h1 => (by rw [hB.1] at h1; cases h1), fun i hi => ?_⟩
    rw [hB.1] at hi
    have hik : i = k := by simpa using hi
    subst hik
    have hw : wpOpIn (Fence.wide.inRound l) n P ops Q' i (wpListIn (Fence.wide.inRound l) n P ops Q' ls) a w := by unfold wpOpIn; simp only [h0]; exact h
    exact wpOpIn_mono (fun a' w' h' => anyIn_of_seq ls (i + 1) _ a' w' (fun j => by have := hl (j + 1); simpa [Nat.add_assoc, Nat.add_comm 1 j] using this) hB.2 h') hw

def noDefer (ls : List Oper) : Bool := ls.all fun o => match o.op with
  | .defer _ => false
  | _ => true

theorem wpIn_region_tail {id : Nat} {Q : Exit → Act → World → Prop} {a : Act} {w : World} {ls : List Oper} (m : Nat) (hm : P.follows .mixedOrders = true) (hB : Region.lexTailB .any ls.toArray m = true) (hd : noDefer ls = true)
    (h : wpStill P ls.toArray w.drew (fun a' => wpListIn (Fence.wide.inRound l) n P ls.toArray Q (ls.drop m) a' w.drew) (ls.take m) a) : (Code.region id ls.toArray true).wpIn (Fence.wide.inRound l) n P Q a w := by
  have hnd : ∀ (i : Nat) (o : Oper) c, ls.toArray[i]? = some o → o.op ≠ .defer c := fun i o c ho hc => by
    have ho' : ls[i]? = some o := by simpa using ho
    have h1 := List.all_eq_true.1 hd o (List.mem_of_getElem? ho')
    rw [hc] at h1
    cases h1
  simp only [Region.lexTailB, Bool.and_eq_true, decide_eq_true_eq] at hB
  obtain ⟨⟨⟨⟨hsel, hn⟩, hs⟩, hc⟩, hlex⟩ := hB
  have hn' : m < ls.length := by simpa using hn
  have htl : (ls.take m).length = m := by simp; omega
  have hdl : (ls.drop m).length = ls.toArray.size - m := by simp
  have inv0 : HeadInv .any ls.toArray m (Array.replicate ls.toArray.size false) :=
    ⟨by simp, fun j oj _ hl => (by rw [getD_replicate_false] at hl; cases hl), fun t _ ht => getD_in (by simpa using ht) (getD_replicate_false _ _)⟩
  have H := wpAnyL_lex (md := .any) (g := ls.toArray.size - m) hsel hs hc hn (ls.take m) 0 _ a (fun j hj => by
    have hj' : j < m := by rw [htl] at hj; exact hj
    simp [hj']) (by simpa using htl) inv0 (by rw [htl]; exact hlex) h
  refine wpIn_region_any hm ?_
  have := anyIn_of_head (l := l) (n := n) hnd (Q' := Q) (g := ls.toArray.size - m) (fun listed a' hL => by
    have := anyIn_of_seq (l := l) (n := n) (md := .any) (Q' := Q) (ls.drop m) m listed a' w.drew (fun j => by simp [List.getElem?_drop]) (by rw [hdl]; exact hL.1) hL.2
    rwa [hdl] at this) _ _ _ H
  rw [htl, show m + (ls.toArray.size - m) = ls.toArray.size by omega] at this
  exact this
end
end Go.Proofs.Ytohflcbpjjnccab
