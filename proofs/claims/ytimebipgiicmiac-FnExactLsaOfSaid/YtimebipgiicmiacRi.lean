/-
  A region that draws its order inside a round of an iterator: a head in stages (as Rg), then what can only come behind all of it.
-/
import Derived.Test.YtimebipgiicmiacC1
import Derived.Test.YtimebipgiicmiacB3
namespace Go.Proofs.Ytimebipgiicmiac
open Go Go.RowKit

/-- Operations that enter no function and defer none. -/
def tameOp (o : Oper) : Bool := match o.op with
  | .move _ | .assign _ | .pick .. | .load .. | .binOp .. | .unOp .. | .fieldAddr .. | .indexAddr .. | .extract .. | .field .. | .index .. | .slice .. | .build .. | .buildSlice .. | .store .. | .alloc _ => true
  | .call c => match c.callee with
    | .builtin .len => true
    | .builtin .append => true
    | _ => false
  | _ => false
def TameRes : Result Next → Prop
  | .ok (.value _) _ => True
  | .ok .skip _ => True
  | .halt _ _ => True
  | _ => False
theorem tame_value {s : Sem Value} {P : Program} {w : World} : TameRes ((do pure (Next.value (← s)) : Sem Next).run P w) := by
  simp only [Sem.run_bind]
  cases s.run P w with
  | ok x w1 => simp [Result.andThen, Sem.run_pure, TameRes]
  | halt h w1 => simp [Result.andThen, TameRes]
theorem tame_unit {s : Sem Unit} {P : Program} {w : World} : TameRes ((do s; pure .skip : Sem Next).run P w) := by
  simp only [Sem.run_bind]
  cases s.run P w with
  | ok x w1 => simp [Result.andThen, Sem.run_pure, TameRes]
  | halt h w1 => simp [Result.andThen, TameRes]
theorem tame_run {o : Oper} (h : tameOp o = true) (ρ : Operand → Value) (P : Program) (w : World) : TameRes ((execOp ρ o).run P w) := by
  obtain ⟨dst, op, type, pos, after, guard⟩ := o
  unfold tameOp at h
  unfold execOp
  cases op <;> simp only [Bool.false_eq_true] at h <;> dsimp only
  case move => simp [Sem.run_pure, TameRes]
  case assign => simp [Sem.run_pure, TameRes]
  case pick c a b =>
    simp only [Sem.run_bind]
    cases (asBool (ρ c)).run P w with
    | ok x w1 => simp [Result.andThen, Sem.run_pure, TameRes]
    | halt h w1 => simp [Result.andThen, TameRes]
  case store => exact tame_unit
  case call c =>
    obtain ⟨callee, cargs, argTypes⟩ := c
    cases callee with
    | value f => simp at h
    | invoke r m => simp at h
    | builtin b =>
      cases b <;> simp only [Bool.false_eq_true] at h <;> simp only [resolve, Sem.run_bind, Sem.run_pure, Result.andThen, invoke, builtin] <;> (split <;> exact trivial)
  all_goals exact tame_value
theorem tame_about {o : Oper} (h : tameOp o = true) (P : Program) (w : World) (ρ : Operand → Value) : o.about P w ρ = none := by
  obtain ⟨dst, op, type, pos, after, guard⟩ := o
  unfold tameOp at h
  unfold Oper.about
  cases op <;> simp only [Bool.false_eq_true] at h <;> dsimp only
  case call c =>
    obtain ⟨callee, cargs, argTypes⟩ := c
    cases callee with
    | value f => simp at h
    | invoke r m => simp at h
    | builtin b => cases b <;> simp only [Bool.false_eq_true] at h <;> simp [resolve, Sem.run_pure, Target.leads]
theorem tame_plain {o : Oper} (h : tameOp o = true) (F : Fence) (ρ : Operand → Value) : o.semAt F.round ρ = execOp ρ o :=
  Oper.semAt_plain F ρ o (fun c hc => by unfold tameOp at h; rw [hc] at h; cases h)
theorem tame_wpIn {o : Oper} (h : tameOp o = true) {F : Fence} {n : Nat} {P : Program} {a : Act} {w : World} {K K' : Act → World → Prop} {Q Q' : Exit → Act → World → Prop} (hK : ∀ a w, K a w → K' a w) (hQ : ∀ e a w, Q e a w → Q' e a w) (hh : o.wp P a w K Q) : o.wpIn F n P a w K' Q' := by
  unfold Oper.wpIn
  refine ⟨fun f hf => (by rw [tame_about h] at hf; cases hf), ?_⟩
  rw [tame_plain h]
  unfold Oper.wp at hh
  have ht := tame_run h a.eval P w
  generalize (execOp a.eval o).run P w = r at *
  cases r with
  | ok n w' =>
    cases n <;> simp only [TameRes] at ht <;> simp only [Oper.upon] at hh <;> simp only [Oper.uponIn] <;> exact hK _ _ hh
  | halt x w' => cases x <;> simp only [Oper.upon] at hh <;> simp only [Oper.uponIn] <;> exact hQ _ _ _ hh

section
variable {P : Program} {ops : Array Oper} {md : Region.Mode}

def closedB (md : Region.Mode) (ops : Array Oper) (listed : Array Bool) : Bool :=
  (List.range ops.size).all fun j => !listed.getD j false || ((ops[j]?).map (·.after.all fun e => !Region.binds md e || listed.getD e.on false)).getD true
theorem closedB_set {listed : Array Bool} {i : Nat} (h : closedB md ops listed = true) (hr : i ∈ Region.ready md ops listed) : closedB md ops (listed.setIfInBounds i true) = true := by
  unfold closedB at *
  rw [List.all_eq_true] at *
  intro j hj
  have hc := h j hj
  cases ho : ops[j]? with
  | none => simp
  | some oj =>
    rw [ho] at hc
    simp only [Option.map_some, Option.getD_some] at hc ⊢
    by_cases hji : j = i
    · subst hji
      obtain ⟨_, o, ho', hall⟩ := mem_ready.1 hr
      rw [ho] at ho'
      cases ho'
      have : (oj.after.all fun e => !Region.binds md e || (listed.setIfInBounds j true).getD e.on false) = true := by
        rw [Array.all_eq_true']
        intro e he
        cases hb : Region.binds md e with
        | false => rfl
        | true => have := getD_set_true (i := j) (hall e he hb); simp only [this]; rfl
      rw [this, Bool.or_true]
    · rw [getD_set_ne false (Ne.symm hji)]
      cases hl : listed.getD j false with
      | false => rfl
      | true =>
        rw [hl] at hc
        simp only [Bool.not_true, Bool.false_or] at hc ⊢
        rw [Array.all_eq_true'] at hc ⊢
        intro e he
        have := hc e he
        cases hb : Region.binds md e with
        | false => rfl
        | true =>
          rw [hb] at this
          have := getD_set_true (i := i) (by simpa using this : listed.getD e.on false = true)
          simp only [this]
          rfl
/-- Behind L, whatever of it is taken last, nothing else could come up. -/
def barB (md : Region.Mode) (ops : Array Oper) (L : Array Bool) : Bool :=
  (List.range ops.size).all fun i => !L.getD i false || !closedB md ops (L.setIfInBounds i false) || decide (Region.ready md ops (L.setIfInBounds i false) = [i])
theorem barB_last {L listed : Array Bool} {i j : Nat} (hB : barB md ops L = true) (hc : closedB md ops listed = true) (hi : i ∈ Region.ready md ops listed) (hj : j ∈ Region.ready md ops listed) (hL : listed.setIfInBounds i true = L) : j = i := by
  obtain ⟨h0, oi, hoi, _⟩ := mem_ready.1 hi
  have hlt : i < listed.size := by
    rcases Nat.lt_or_ge i listed.size with h | h
    · exact h
    · simp [Array.getElem?_eq_none h] at h0
  have hset : L.setIfInBounds i false = listed := by
    subst hL
    apply Array.ext_getElem?
    intro k
    by_cases hk : i = k
    · subst hk
      simp [hlt] at h0 ⊢
      exact h0
    · simp [Array.getElem?_setIfInBounds_ne hk]
  have hLi : L.getD i false = true := by subst hL; simp [hlt]
  unfold barB at hB
  rw [List.all_eq_true] at hB
  have := hB i (List.mem_range.2 (Array.getElem?_eq_some_iff.1 hoi).1)
  rw [hset, hLi, hc] at this
  simp only [Bool.not_true, Bool.false_or, decide_eq_true_eq] at this
  rw [this] at hj
  simpa using hj

def wpAnyE (P : Program) (md : Region.Mode) (ops : Array Oper) (L : Array Bool) (R : Act → World → Prop) : Nat → Array Bool → Act → World → Prop
  | 0, listed, a, w => listed = L ∧ R a w
  | fuel + 1, listed, a, w => Region.ready md ops listed ≠ [] ∧ ∀ i ∈ Region.ready md ops listed, wpOpB P ops i (wpAnyE P md ops L R fuel (listed.setIfInBounds i true)) a w
theorem wpAnyE_in {F : Fence} {n m : Nat} {L : Array Bool} {R : Act → World → Prop} {Q : Exit → Act → World → Prop} (ht : ∀ (j : Nat) (o : Oper), ops[j]? = some o → tameOp o = true) (hR : ∀ a w, R a w → wpAnyIn F n P md ops Q m L a w) :
    ∀ (fuel : Nat) (listed : Array Bool) (a : Act) (w : World), wpAnyE P md ops L R fuel listed a w → wpAnyIn F n P md ops Q (m + fuel) listed a w
  | 0, _, _, _, h => by obtain ⟨rfl, h⟩ := h; exact hR _ _ h
  | fuel + 1, _, a, w, h => ⟨fun h0 => absurd h0 h.1, fun i hi => by
      have hh := h.2 i hi
      unfold wpOpB at hh
      unfold wpOpIn
      split
      · rename_i ho; simp only [ho] at hh; exact wpAnyE_in ht hR fuel _ _ _ hh
      · rename_i o ho
        simp only [ho] at hh
        split
        · rename_i hw; simp only [hw, if_true] at hh; exact tame_wpIn (ht i o ho) (fun a' w' h' => wpAnyE_in ht hR fuel _ a' w' h'.2) (fun _ _ _ h => h.elim) hh
        · rename_i hw; simp only [hw] at hh; exact ⟨fun f hf => (by rw [tame_about (ht i o ho)] at hf; cases hf), wpAnyE_in ht hR fuel _ _ _ hh⟩⟩

theorem wpAnyE_first {L : Array Bool} (hB : barB md ops L = true) {R : Act → World → Prop} {i : Nat} {oi : Oper} {v : Value} (hi : ops[i]? = some oi) (hsel : ∀ (j : Nat) (o : Oper) cs b, ops[j]? = some o → o.op ≠ .select cs b) :
    ∀ (fuel : Nat) (listed : Array Bool) (a : Act) (w : World), closedB md ops listed = true →
      (∀ j oj, ops[j]? = some oj → j ≠ i → listed.getD j true = false → (∀ e ∈ oj.after, Region.binds md e = true → e.on ≠ i) → oi.apart ops oj = true) →
      i ∈ Region.ready md ops listed → YieldsB P ops oi v a w →
      wpAnyE P md ops L R fuel (listed.setIfInBounds i true) (a.put oi.dst v) w → wpAnyE P md ops L R (fuel + 1) listed a w := by
  intro fuel
  induction fuel with
  | zero =>
    intro listed a w hcl _ hr hy H
    refine ⟨fun h => (by rw [h] at hr; cases hr), fun j hj => ?_⟩
    obtain rfl := barB_last hB hcl hr hj H.1
    exact hy.wpOpB hi H
  | succ fuel ih =>
    intro listed a w hcl hfree hr hy H
    refine ⟨fun h => (by rw [h] at hr; cases hr), fun j hj => ?_⟩
    by_cases hji : j = i
    · subst hji; exact hy.wpOpB hi H
    · have h1 := H.2 j (ready_mono hj hji)
      obtain ⟨hjun, oj, hoj, hall⟩ := mem_ready.1 hj
      have hnot : ∀ e ∈ oj.after, Region.binds md e = true → e.on ≠ i := fun e he hb heq => by
        have h1 := hall e he hb
        have h0 := (mem_ready.1 hr).1
        rw [heq] at h1
        rcases Nat.lt_or_ge i listed.size with h' | h'
        · simp [h'] at h0 h1; rw [h0] at h1; cases h1
        · simp [Array.getElem?_eq_none h'] at h1
      have h2 := wpOpB_put hoj (hfree j oj hoj hji hjun hnot) (fun cs b => hsel i oi cs b hi) (fun cs b => hsel j oj cs b hoj) hy h1
      have hfree' : ∀ k ok, ops[k]? = some ok → k ≠ i → (listed.setIfInBounds j true).getD k true = false →
          (∀ e ∈ ok.after, Region.binds md e = true → e.on ≠ i) → oi.apart ops ok = true := fun k ok hk hki hun hno => by
        refine hfree k ok hk hki ?_ hno
        by_cases hjk : j = k
        · subst hjk; exact hjun
        · rw [getD_set_ne true hjk] at hun; exact hun
      refine wpOpB_mono (fun a' w' _ h3 => ih (listed.setIfInBounds j true) a' w' (closedB_set hcl hj) hfree' (ready_mono hr (Ne.symm hji)) h3.1 ?_) h2
      rw [Array.setIfInBounds_comm _ _ hji]
      exact h3.2

theorem wpAnyE_seg {L : Array Bool} (hBL : barB md ops L = true) {R : Act → World → Prop} {w : World} (hs : Region.noSelect ops = true) {fuel : Nat} : ∀ (is : List Nat) (l : List Oper) (listed : Array Bool) (a : Act), closedB md ops listed = true →
    l.map some = is.map (fun i => ops[i]?) → segB md ops is listed = true →
    wpQuiet P ops (fun w' => ∃ x : Ext w, w' = x.w) (fun a' => wpAnyE P md ops L R fuel (setAll is listed) a' w) l a → wpAnyE P md ops L R (fuel + is.length) listed a w
  | [], [], _, _, _, _, _, h => h
  | [], _ :: _, _, _, _, e, _, _ => by simp at e
  | _ :: _, [], _, _, _, e, _, _ => by simp at e
  | i :: is, o :: l, listed, a, hcl, e, hB, h => by
    simp only [List.map_cons, List.cons.injEq] at e
    have h0 : ops[i]? = some o := e.1.symm
    simp only [segB, Bool.and_eq_true, h0, Option.map_some, Option.getD_some] at hB
    obtain ⟨⟨⟨hr, hf⟩, hst⟩, hB'⟩ := hB
    have hh : ∃ v, YieldsB P ops o v a w ∧ wpQuiet P ops (fun w' => ∃ x : Ext w, w' = x.w) (fun a' => wpAnyE P md ops L R fuel (setAll is (listed.setIfInBounds i true)) a' w) l (a.put o.dst v) := by
      unfold wpQuiet at h
      by_cases hw : Region.wanted o (yielded ops a.tmps) = true
      · rw [if_pos hw] at h
        obtain ⟨v, h1, h2⟩ := h
        refine ⟨v, .inl ⟨hw, fun w' hb => ?_⟩, h2⟩
        have h3 := h1 w' ⟨⟨w', hb⟩, rfl⟩
        unfold Oper.quietAt at h3
        have hno := fun f args w'' => stillOp_no hst a.eval P w' w'' f args
        generalize (execOp a.eval o).run P w' = r at *
        cases r with
        | ok n w'' =>
          cases n <;> simp only [Oper.quietUpon] at h3
          case value u => obtain ⟨rfl, rfl⟩ := h3; exact .inl rfl
          case skip => obtain ⟨rfl, rfl⟩ := h3; exact .inr ⟨rfl, rfl⟩
          case enter f args => exact absurd rfl (hno f args w'')
        | halt x w'' => simp only [Oper.quietUpon] at h3
      · rw [if_neg hw] at h
        exact ⟨undef, .inr ⟨by simpa using hw, rfl⟩, h⟩
    obtain ⟨v, hy, hK⟩ := hh
    have := wpAnyE_seg hBL (R := R) (w := w) hs (fuel := fuel) is l (listed.setIfInBounds i true) (a.put o.dst v) (closedB_set hcl (by simpa using hr)) e.2 hB' hK
    exact wpAnyE_first hBL h0 (Region.noSelect_spec hs) (fuel + is.length) listed a w hcl (Region.free_spec h0 hf) (by simpa using hr) hy this

theorem ste_seg {L : Array Bool} {R : Act → World → Prop} {w : World} {l : List Oper} (n m : Nat) (is : List Nat) {listed : Array Bool} {a : Act} (hBL : barB md l.toArray L = true) (hcl : closedB md l.toArray listed = true) (hs : Region.noSelect l.toArray = true) (hn : n = m + is.length) (hB : segB md l.toArray is listed = true) (hl : is.all (fun i => i < l.length) = true)
    (h : wpQuiet P l.toArray (fun w' => ∃ x : Ext w, w' = x.w) (fun a' => wpAnyE P md l.toArray L R m (setAll is listed) a' w) (is.map fun i => (l[i]?).getD nilOp) a) : wpAnyE P md l.toArray L R n listed a w := by
  subst hn
  refine wpAnyE_seg hBL hs is _ listed a hcl ?_ hB h
  simp only [List.all_eq_true, decide_eq_true_eq] at hl
  rw [List.map_map]
  refine List.map_congr_left fun i hi => ?_
  have := hl i hi
  simp [List.getElem?_eq_getElem this]
theorem ste_one {L : Array Bool} {R : Act → World → Prop} {w : World} {l : List Oper} (n m : Nat) (i : Nat) {o : Oper} {listed : Array Bool} {a : Act} (hn : n = m + 1) (hi : l[i]? = some o) (hr : Region.ready md l.toArray listed = [i]) (hw : Region.wanted o (yielded l.toArray a.tmps) = true)
    (h : o.wp P a w (fun a' w' => Below w.heap.size w w' ∧ wpAnyE P md l.toArray L R m (listed.setIfInBounds i true) a' w') (fun _ _ _ => False)) : wpAnyE P md l.toArray L R n listed a w := by
  subst hn
  refine ⟨fun h0 => (by rw [hr] at h0; cases h0), fun j hj => ?_⟩
  rw [hr] at hj
  obtain rfl : j = i := by simpa using hj
  have hi' : l.toArray[j]? = some o := by simpa using hi
  unfold wpOpB
  simp only [hi', hw, if_true]
  exact h
theorem ste_end {L : Array Bool} {R : Act → World → Prop} {w : World} {l : List Oper} {listed : Array Bool} {a : Act} (hr : listed = L) (h : R a w) : wpAnyE P md l.toArray L R 0 listed a w := ⟨hr, h⟩

/-- One operation behind the head, where nothing else can come up: walked as outside a round. -/
theorem in_one {F : Fence} {f : Nat} {Q : Exit → Act → World → Prop} {w : World} {l : List Oper} (n m : Nat) (i : Nat) {o : Oper} {listed : Array Bool} {a : Act} (hn : n = m + 1) (hi : l[i]? = some o) (hr : Region.ready md l.toArray listed = [i]) (hw : Region.wanted o (yielded l.toArray a.tmps) = true) (ht : tameOp o = true)
    (h : o.wp P a w (fun a' w' => wpAnyIn F f P md l.toArray Q m (listed.setIfInBounds i true) a' w') (fun _ _ _ => False)) : wpAnyIn F f P md l.toArray Q n listed a w := by
  subst hn
  refine ⟨fun h0 => (by rw [hr] at h0; cases h0), fun j hj => ?_⟩
  rw [hr] at hj
  obtain rfl : j = i := by simpa using hj
  have hi' : l.toArray[j]? = some o := by simpa using hi
  unfold wpOpIn
  simp only [hi', hw, if_true]
  exact tame_wpIn ht (fun _ _ h => h) (fun _ _ _ h => h.elim) h
theorem in_end {F : Fence} {f : Nat} {Q : Exit → Act → World → Prop} {w : World} {l : List Oper} {listed : Array Bool} {a : Act} (hr : Region.ready md l.toArray listed = []) (h : Q .normal a w) : wpAnyIn F f P md l.toArray Q 0 listed a w := ⟨hr, h⟩
theorem wpIn_region_head (n m k : Nat) (L : Array Bool) {F : Fence} {f id : Nat} {Q : Exit → Act → World → Prop} {a : Act} {w : World} {l : List Oper} (hm : P.follows .mixedOrders = true) (hn : l.length = n) (hnm : n = m + k) (ht : l.all tameOp = true)
    (h : wpAnyE P .any l.toArray L (fun a' w' => wpAnyIn F f P .any l.toArray Q m L a' w') k (Array.replicate n false) a w.drew) : (Code.region id l.toArray true).wpIn F f P Q a w := by
  refine wpIn_region_any hm ?_
  subst hn
  have := wpAnyE_in (F := F) (n := f) (m := m) (Q := Q) (fun j o ho => by
    rw [List.all_eq_true] at ht
    exact ht o (List.mem_of_getElem? (by simpa using ho))) (fun _ _ h => h) k _ _ _ h
  rw [← hnm] at this
  simpa using this
end
end Go.Proofs.Ytimebipgiicmiac
