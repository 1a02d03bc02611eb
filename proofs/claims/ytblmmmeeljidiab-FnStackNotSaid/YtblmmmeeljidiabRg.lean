/-
  A region that draws its order, in stages: what only reads is walked once, whatever order comes; a call is met where nothing else can come up. One walk for all orders, also where a call answers memory of its own.
-/
import Derived.Test.YtblmmmeeljidiabA1
namespace Go.Proofs.Ytblmmmeeljidiab
open Go Go.RowKit

/-- Operations that never enter a function. -/
def stillOp (o : Oper) : Bool := match o.op with
  | .move _ | .assign _ | .pick .. | .load .. | .binOp .. | .unOp .. | .fieldAddr .. | .indexAddr .. | .extract .. | .field .. | .index .. | .slice .. => true
  | .call c => match c.callee with
    | .builtin .len => true
    | .builtin .max => true
    | .builtin .min => true
    | _ => false
  | _ => false

theorem bind_value_no {s : Sem Value} {P : Program} {w w' : World} {f : FuncId} {args : Array Value} : (do pure (Next.value (← s)) : Sem Next).run P w ≠ .ok (.enter f args) w' := by
  simp only [Sem.run_bind]
  cases s.run P w with
  | ok x w1 => simp [Result.andThen, Sem.run_pure]
  | halt h w1 => simp [Result.andThen]

theorem stillOp_no {o : Oper} (h : stillOp o = true) (ρ : Operand → Value) (P : Program) (w w' : World) (f : FuncId) (args : Array Value) : (execOp ρ o).run P w ≠ .ok (.enter f args) w' := by
  obtain ⟨dst, op, type, pos, after, guard⟩ := o
  unfold stillOp at h
  unfold execOp
  cases op <;> simp only [Bool.false_eq_true] at h <;> dsimp only
  case move => simp [Sem.run_pure]
  case assign => simp [Sem.run_pure]
  case pick c a b =>
    simp only [Sem.run_bind]
    cases (asBool (ρ c)).run P w with
    | ok x w1 => simp [Result.andThen, Sem.run_pure]
    | halt h w1 => simp [Result.andThen]
  case call c =>
    obtain ⟨callee, cargs, argTypes⟩ := c
    cases callee with
    | value f => simp at h
    | invoke r m => simp at h
    | builtin b =>
      cases b <;> simp only [Bool.false_eq_true] at h <;> simp only [resolve, Sem.run_bind, Sem.run_pure, Result.andThen, invoke, builtin] <;> (intro hh; split at hh <;> cases hh)
  all_goals exact bind_value_no

section
variable {P : Program} {ops : Array Oper} {md : Region.Mode}

/-- As Oper.wp, where whatever was there is left. -/
def wpB (P : Program) (o : Oper) (a : Act) (w : World) (K : Act → World → Prop) : Prop :=
  o.wp P a w (fun a' w' => Below w.heap.size w w' ∧ K a' w') (fun _ _ _ => False)
def wpOpB (P : Program) (ops : Array Oper) (i : Nat) (K : Act → World → Prop) (a : Act) (w : World) : Prop :=
  match ops[i]? with
  | none => K a w
  | some o => if Region.wanted o (yielded ops a.tmps) then wpB P o a w K else K (a.put o.dst undef) w
def wpAnyB (P : Program) (md : Region.Mode) (ops : Array Oper) (R : Act → World → Prop) : Nat → Array Bool → Act → World → Prop
  | 0, listed, a, w => Region.ready md ops listed = [] ∧ R a w
  | fuel + 1, listed, a, w => (Region.ready md ops listed = [] → R a w) ∧ ∀ i ∈ Region.ready md ops listed, wpOpB P ops i (wpAnyB P md ops R fuel (listed.setIfInBounds i true)) a w

theorem wpB_wp {o : Oper} {a : Act} {w : World} {K : Act → World → Prop} {K' : Act → World → Prop} {Q : Exit → Act → World → Prop} (h : ∀ a w, K a w → K' a w) (hh : wpB P o a w K) : o.wp P a w K' Q := by
  unfold wpB Oper.wp at *
  generalize (execOp a.eval o).run P w = r at *
  cases r with
  | ok n w' =>
    cases n <;> simp only [Oper.upon] at hh ⊢
    case value => exact h _ _ hh.2
    case skip => exact h _ _ hh.2
    case defer => exact h _ _ hh.2
    case enter f args =>
      refine Calls.mono hh fun e w'' he => ?_
      cases e with
      | returned v => exact h _ _ he.2
      | panicked c => exact he.elim
      | outgrown => obtain ⟨_, _, h⟩ := he; exact h.elim
    case row => exact Rows.mono hh fun _ _ he => h _ _ he.2
  | halt x w' => cases x <;> simp only [Oper.upon] at hh
theorem wpB_mono {o : Oper} {a : Act} {w : World} {K K' : Act → World → Prop} (h : ∀ a' w', Below w.heap.size w w' → K a' w' → K' a' w') (hh : wpB P o a w K) : wpB P o a w K' :=
  Oper.wp_mono (fun a' w' hb => ⟨hb.1, h a' w' hb.1 hb.2⟩) hh
theorem wpOpB_mono {i : Nat} {a : Act} {w : World} {K K' : Act → World → Prop} (h : ∀ a' w', Below w.heap.size w w' → K a' w' → K' a' w') (hh : wpOpB P ops i K a w) : wpOpB P ops i K' a w := by
  unfold wpOpB at *
  split
  · exact h _ _ (Below.refl _ _) (by simpa [*] using hh)
  · rename_i o ho
    simp only [ho] at hh
    split
    · rename_i hw; simp only [hw, if_true] at hh; exact wpB_mono h hh
    · rename_i hw; simp only [hw] at hh; exact h _ _ (Below.refl _ _) hh
theorem wpAny_of_B {R : Act → World → Prop} {Q : Exit → Act → World → Prop} (hQ : ∀ a w, R a w → Q .normal a w) : ∀ (fuel : Nat) (listed : Array Bool) (a : Act) (w : World), wpAnyB P md ops R fuel listed a w → wpAny P md ops Q fuel listed a w
  | 0, _, _, _, h => ⟨h.1, hQ _ _ h.2⟩
  | fuel + 1, _, a, w, h => ⟨fun h0 => hQ _ _ (h.1 h0), fun i hi => by
      have hh := h.2 i hi
      unfold wpOpB at hh
      unfold wpOp
      split
      · rename_i ho; simp only [ho] at hh; exact wpAny_of_B hQ fuel _ _ _ hh
      · rename_i o ho
        simp only [ho] at hh
        split
        · rename_i hw; simp only [hw, if_true] at hh; exact .inl (wpB_wp (fun a' w' => wpAny_of_B hQ fuel _ a' w') hh)
        · rename_i hw; simp only [hw] at hh; exact wpAny_of_B hQ fuel _ _ _ hh⟩

/-- In whatever world has grown from w, the operation yields v and leaves that world. -/
def YieldsB (P : Program) (ops : Array Oper) (o : Oper) (v : Value) (a : Act) (w : World) : Prop :=
  (Region.wanted o (yielded ops a.tmps) = true ∧ ∀ w', Below w.heap.size w w' → (execOp a.eval o).run P w' = .ok (.value v) w' ∨ ((execOp a.eval o).run P w' = .ok .skip w' ∧ v = undef)) ∨
  (Region.wanted o (yielded ops a.tmps) = false ∧ v = undef)
theorem YieldsB.wpOpB {i : Nat} {o : Oper} {v : Value} {a : Act} {w : World} (hi : ops[i]? = some o) (hy : YieldsB P ops o v a w) {K : Act → World → Prop} (h : K (a.put o.dst v) w) : wpOpB P ops i K a w := by
  unfold Go.Proofs.Ytblmmmeeljidiab.wpOpB
  simp only [hi]
  rcases hy with ⟨hw, hv⟩ | ⟨hw, rfl⟩
  · simp only [hw, if_true]
    unfold wpB Oper.wp
    rcases hv w (Below.refl _ _) with e | ⟨e, rfl⟩ <;> rw [e] <;> exact ⟨Below.refl _ _, h⟩
  · simp only [hw, Bool.false_eq_true, if_false]; exact h
theorem YieldsB.of_same {o : Oper} {v : Value} {a a' : Act} {w : World} (hy : YieldsB P ops o v a w) (he : execOp a'.eval o = execOp a.eval o)
    (hw : Region.wanted o (yielded ops a'.tmps) = Region.wanted o (yielded ops a.tmps)) : YieldsB P ops o v a' w := by
  unfold YieldsB at *
  rw [he, hw]
  exact hy
theorem YieldsB.grow {o : Oper} {v : Value} {a : Act} {w w1 : World} (hy : YieldsB P ops o v a w) (hb : Below w.heap.size w w1) : YieldsB P ops o v a w1 := by
  rcases hy with ⟨h1, h2⟩ | h
  · exact .inl ⟨h1, fun w' h' => h2 w' (hb.trans (h'.mono hb.size))⟩
  · exact .inr h
theorem wpOpB_put {j : Nat} {oi oj : Oper} {v : Value} (hj : ops[j]? = some oj) (hap : oi.apart ops oj = true)
    (hsi : ∀ cs b, oi.op ≠ .select cs b) (hsj : ∀ cs b, oj.op ≠ .select cs b) {K : Act → World → Prop} {a : Act} {w : World}
    (hy : YieldsB P ops oi v a w) (h : wpOpB P ops j K (a.put oi.dst v) w) :
    wpOpB P ops j (fun a' w' => YieldsB P ops oi v a' w' ∧ K (a'.put oi.dst v) w') a w := by
  obtain ⟨h1, h2, h3⟩ := Oper.apart_spec hap
  have keep : ∀ (a : Act) (w : World), YieldsB P ops oi v a w → ∀ u, YieldsB P ops oi v (a.put oj.dst u) w := fun a w hy u =>
    hy.of_same (execOp_put oi hsi a oj.dst u h3) (wanted_put oi a oj.dst u h3)
  have keepD : ∀ d, YieldsB P ops oi v { a with defers := d :: a.defers } w := fun d => hy.of_same rfl rfl
  unfold wpOpB at *
  simp only [hj] at *
  rw [wanted_put oj a oi.dst v h1] at h
  split
  · rename_i hw
    simp only [hw, if_true] at h
    unfold wpB Oper.wp at *
    rw [execOp_put oj hsj a oi.dst v h1] at h
    generalize (execOp a.eval oj).run P w = r at *
    cases r with
    | ok n w' =>
      cases n <;> simp only [Oper.upon] at h ⊢
      case value u => exact ⟨h.1, keep a w' (hy.grow h.1) u, by rw [← Act.put_comm a v u h2]; exact h.2⟩
      case skip => exact ⟨h.1, keep a w' (hy.grow h.1) _, by rw [← Act.put_comm a v undef h2]; exact h.2⟩
      case defer d =>
        refine ⟨h.1, keep _ w' ((keepD d).grow h.1) _, ?_⟩
        rw [← Act.put_comm _ v undef h2, ← Act.put_defers]
        exact h.2
      case enter f args =>
        refine Calls.mono h fun e w'' he => ?_
        cases e with
        | returned u => exact ⟨he.1, keep a w'' (hy.grow he.1) u, by rw [← Act.put_comm a v u h2]; exact he.2⟩
        | panicked c => exact he
        | outgrown => exact he
      case row row args => exact Rows.mono h fun u w'' he => ⟨he.1, keep a w'' (hy.grow he.1) u, by rw [← Act.put_comm a v u h2]; exact he.2⟩
    | halt x w' => cases x <;> simp only [Oper.upon] at h ⊢
  · rename_i hw
    simp only [hw] at h
    exact ⟨keep a w hy _, by rw [← Act.put_comm a v undef h2]; exact h⟩

theorem wpAnyB_first {R : Act → World → Prop} {i : Nat} {oi : Oper} {v : Value} (hi : ops[i]? = some oi) (hsel : ∀ (j : Nat) (o : Oper) cs b, ops[j]? = some o → o.op ≠ .select cs b) :
    ∀ (fuel : Nat) (listed : Array Bool) (a : Act) (w : World),
      (∀ j oj, ops[j]? = some oj → j ≠ i → listed.getD j true = false → (∀ e ∈ oj.after, Region.binds md e = true → e.on ≠ i) → oi.apart ops oj = true) →
      i ∈ Region.ready md ops listed → YieldsB P ops oi v a w →
      wpAnyB P md ops R fuel (listed.setIfInBounds i true) (a.put oi.dst v) w → wpAnyB P md ops R (fuel + 1) listed a w := by
  intro fuel
  induction fuel with
  | zero =>
    intro listed a w _ hr hy H
    refine ⟨fun h => (by rw [h] at hr; cases hr), fun j hj => ?_⟩
    by_cases hji : j = i
    · subst hji; exact hy.wpOpB hi H
    · have := ready_mono hj hji
      rw [H.1] at this
      cases this
  | succ fuel ih =>
    intro listed a w hfree hr hy H
    refine ⟨fun h => (by rw [h] at hr; cases hr), fun j hj => ?_⟩
    by_cases hji : j = i
    · subst hji; exact hy.wpOpB hi H
    · have h1 := H.2 j (ready_mono hj hji)
      obtain ⟨hjun, oj, hoj, hall⟩ := mem_ready.1 hj
      have hnot : ∀ e ∈ oj.after, Region.binds md e = true → e.on ≠ i := fun e he hb heq => by
        have h1 := hall e he hb
        have h0 := (mem_ready.1 hr).1
        rw [heq] at h1
        rcases Nat.lt_or_ge i listed.size with h' | h'
        · simp [h'] at h0 h1; rw [h0] at h1; cases h1
        · simp [Array.getElem?_eq_none h'] at h1
      have h2 := wpOpB_put hoj (hfree j oj hoj hji hjun hnot) (fun cs b => hsel i oi cs b hi) (fun cs b => hsel j oj cs b hoj) hy h1
      have hfree' : ∀ k ok, ops[k]? = some ok → k ≠ i → (listed.setIfInBounds j true).getD k true = false →
          (∀ e ∈ ok.after, Region.binds md e = true → e.on ≠ i) → oi.apart ops ok = true := fun k ok hk hki hun hno => by
        refine hfree k ok hk hki ?_ hno
        by_cases hjk : j = k
        · subst hjk; exact hjun
        · rw [getD_set_ne true hjk] at hun; exact hun
      refine wpOpB_mono (fun a' w' _ h3 => ih (listed.setIfInBounds j true) a' w' hfree' (ready_mono hr (Ne.symm hji)) h3.1 ?_) h2
      rw [Array.setIfInBounds_comm _ _ hji]
      exact h3.2

/-! ### The walk, in stages: operations that only read (in any order that fits), then a call, and so on -/
/-- The places of a segment, one after another: each may come up, and may be taken first. -/
def segB (md : Region.Mode) (ops : Array Oper) : List Nat → Array Bool → Bool
  | [], _ => true
  | i :: is, listed => (Region.ready md ops listed).contains i && Region.free md ops listed i && ((ops[i]?).map stillOp).getD false && segB md ops is (listed.setIfInBounds i true)
def setAll : List Nat → Array Bool → Array Bool
  | [], l => l
  | i :: is, l => setAll is (l.setIfInBounds i true)

/-- A segment that only reads: the walk is wpQuiet's, over the worlds that have grown from w. -/
theorem wpAnyB_seg {R : Act → World → Prop} {w : World} (hs : Region.noSelect ops = true) {fuel : Nat} : ∀ (is : List Nat) (l : List Oper) (listed : Array Bool) (a : Act),
    l.map some = is.map (fun i => ops[i]?) → segB md ops is listed = true →
    wpQuiet P ops (fun w' => ∃ x : Ext w, w' = x.w) (fun a' => wpAnyB P md ops R fuel (setAll is listed) a' w) l a → wpAnyB P md ops R (fuel + is.length) listed a w
  | [], [], _, _, _, _, h => h
  | [], _ :: _, _, _, e, _, _ => by simp at e
  | _ :: _, [], _, _, e, _, _ => by simp at e
  | i :: is, o :: l, listed, a, e, hB, h => by
    simp only [List.map_cons, List.cons.injEq] at e
    have h0 : ops[i]? = some o := e.1.symm
    simp only [segB, Bool.and_eq_true, h0, Option.map_some, Option.getD_some] at hB
    obtain ⟨⟨⟨hr, hf⟩, hst⟩, hB'⟩ := hB
    have hh : ∃ v, YieldsB P ops o v a w ∧ wpQuiet P ops (fun w' => ∃ x : Ext w, w' = x.w) (fun a' => wpAnyB P md ops R fuel (setAll is (listed.setIfInBounds i true)) a' w) l (a.put o.dst v) := by
      unfold wpQuiet at h
      by_cases hw : Region.wanted o (yielded ops a.tmps) = true
      · rw [if_pos hw] at h
        obtain ⟨v, h1, h2⟩ := h
        refine ⟨v, .inl ⟨hw, fun w' hb => ?_⟩, h2⟩
        have h3 := h1 w' ⟨⟨w', hb⟩, rfl⟩
        unfold Oper.quietAt at h3
        have hno := fun f args w'' => stillOp_no hst a.eval P w' w'' f args
        generalize (execOp a.eval o).run P w' = r at *
        cases r with
        | ok n w'' =>
          cases n <;> simp only [Oper.quietUpon] at h3
          case value u => obtain ⟨rfl, rfl⟩ := h3; exact .inl rfl
          case skip => obtain ⟨rfl, rfl⟩ := h3; exact .inr ⟨rfl, rfl⟩
          case enter f args => exact absurd rfl (hno f args w'')
        | halt x w'' => simp only [Oper.quietUpon] at h3
      · rw [if_neg hw] at h
        exact ⟨undef, .inr ⟨by simpa using hw, rfl⟩, h⟩
    obtain ⟨v, hy, hK⟩ := hh
    have := wpAnyB_seg (R := R) (w := w) hs (fuel := fuel) is l (listed.setIfInBounds i true) (a.put o.dst v) e.2 hB' hK
    exact wpAnyB_first h0 (Region.noSelect_spec hs) (fuel + is.length) listed a w (Region.free_spec h0 hf) (by simpa using hr) hy this

def nilOp : Oper := { dst := none, op := .move (.const undef), type := 0, pos := "", after := #[], guard := none }
/-- The same over a list written out; 'n' operations are left, 'm' behind the segment. -/
theorem stage_seg {R : Act → World → Prop} {w : World} {l : List Oper} (n m : Nat) (is : List Nat) {listed : Array Bool} {a : Act} (hs : Region.noSelect l.toArray = true) (hn : n = m + is.length) (hB : segB md l.toArray is listed = true) (hl : is.all (fun i => i < l.length) = true)
    (h : wpQuiet P l.toArray (fun w' => ∃ x : Ext w, w' = x.w) (fun a' => wpAnyB P md l.toArray R m (setAll is listed) a' w) (is.map fun i => (l[i]?).getD nilOp) a) : wpAnyB P md l.toArray R n listed a w := by
  subst hn
  refine wpAnyB_seg hs is _ listed a ?_ hB h
  simp only [List.all_eq_true, decide_eq_true_eq] at hl
  rw [List.map_map]
  refine List.map_congr_left fun i hi => ?_
  have := hl i hi
  simp [List.getElem?_eq_getElem this]

/-- A call where nothing else can come up. -/
theorem stage_call {R : Act → World → Prop} {w : World} {l : List Oper} (n m : Nat) (i : Nat) {o : Oper} {listed : Array Bool} {a : Act} (hn : n = m + 1) (hi : l[i]? = some o) (hr : Region.ready md l.toArray listed = [i]) (hw : Region.wanted o (yielded l.toArray a.tmps) = true)
    (h : o.wp P a w (fun a' w' => Below w.heap.size w w' ∧ wpAnyB P md l.toArray R m (listed.setIfInBounds i true) a' w') (fun _ _ _ => False)) : wpAnyB P md l.toArray R n listed a w := by
  subst hn
  refine ⟨fun h0 => (by rw [hr] at h0; cases h0), fun j hj => ?_⟩
  rw [hr] at hj
  obtain rfl : j = i := by simpa using hj
  have hi' : l.toArray[j]? = some o := by simpa using hi
  unfold wpOpB
  simp only [hi', hw, if_true]
  exact h
theorem stage_skip {R : Act → World → Prop} {w : World} {l : List Oper} (n m : Nat) (i : Nat) {o : Oper} {listed : Array Bool} {a : Act} (hn : n = m + 1) (hi : l[i]? = some o) (hr : Region.ready md l.toArray listed = [i]) (hw : Region.wanted o (yielded l.toArray a.tmps) = false)
    (h : wpAnyB P md l.toArray R m (listed.setIfInBounds i true) (a.put o.dst undef) w) : wpAnyB P md l.toArray R n listed a w := by
  subst hn
  refine ⟨fun h0 => (by rw [hr] at h0; cases h0), fun j hj => ?_⟩
  rw [hr] at hj
  obtain rfl : j = i := by simpa using hj
  have hi' : l.toArray[j]? = some o := by simpa using hi
  unfold wpOpB
  simp only [hi', hw, Bool.false_eq_true, if_false]
  exact h
theorem stage_end {R : Act → World → Prop} {w : World} {l : List Oper} {listed : Array Bool} {a : Act} (hr : Region.ready md l.toArray listed = []) (h : R a w) : wpAnyB P md l.toArray R 0 listed a w := ⟨hr, h⟩

theorem wp_region_staged (n : Nat) {id : Nat} {Q : Exit → Act → World → Prop} {a : Act} {w : World} {l : List Oper} (hm : P.follows .mixedOrders = true) (hn : l.length = n)
    (h : wpAnyB P .any l.toArray (fun a' w' => Q .normal a' w') n (Array.replicate n false) a w.drew) : (Code.region id l.toArray true).wp P Q a w := by
  subst hn
  refine wp_region_any hm ?_
  refine wpAny_of_B (R := fun a' w' => Q .normal a' w') (fun _ _ h => h) _ _ _ _ ?_
  simpa using h
end
end Go.Proofs.Ytblmmmeeljidiab
