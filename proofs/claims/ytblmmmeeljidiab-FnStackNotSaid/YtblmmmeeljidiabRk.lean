/-
  A region that draws its order, in stages, with memory of the region's own: as Rg, where a stage keeps all blocks but some of its choice.
-/
import Derived.Test.YtblmmmeeljidiabRg
import Derived.Test.YtblmmmeeljidiabB1
namespace Go.Proofs.Ytblmmmeeljidiab
open Go Go.RowKit

/-- Worlds in which all blocks but those of B are as in w. -/
def ExtX (B : Nat → Prop) (w : World) : Type := { W : World // Kx B w W }
def ExtX.w {B : Nat → Prop} {w : World} (x : ExtX B w) : World := x.1
theorem ExtX.below {B : Nat → Prop} {w : World} (x : ExtX B w) : Kx B w x.w := x.2
instance instNonemptyExtX (B : Nat → Prop) (w : World) : Nonempty (ExtX B w) := ⟨⟨w, Kx.refl _ _⟩⟩
theorem Kx.cell {X : Nat → Prop} {a b : World} (h : Kx X a b) {k : Nat} (hk : k < a.heap.size) (hx : ¬ X k) (o : Nat) : b.cell? ⟨k, o, none⟩ = a.cell? ⟨k, o, none⟩ := by
  unfold World.cell?
  rw [h.block k hk hx]
theorem ExtX.cell {B : Nat → Prop} {w : World} (x : ExtX B w) (b o : Nat) (h : b < w.heap.size) (hx : ¬ B b) : x.w.cell? ⟨b, o, none⟩ = w.cell? ⟨b, o, none⟩ := x.below.cell h hx o

section
variable {P : Program} {ops : Array Oper} {md : Region.Mode}

def wpX (P : Program) (B : Nat → Prop) (o : Oper) (a : Act) (w : World) (K : Act → World → Prop) : Prop :=
  o.wp P a w (fun a' w' => Kx B w w' ∧ K a' w') (fun _ _ _ => False)
def wpOpX (P : Program) (ops : Array Oper) (B : Nat → Prop) (i : Nat) (K : Act → World → Prop) (a : Act) (w : World) : Prop :=
  match ops[i]? with
  | none => K a w
  | some o => if Region.wanted o (yielded ops a.tmps) then wpX P B o a w K else K (a.put o.dst undef) w
def wpAnyX (P : Program) (md : Region.Mode) (ops : Array Oper) (R : Act → World → Prop) : Nat → (Nat → Prop) → Array Bool → Act → World → Prop
  | 0, _, listed, a, w => Region.ready md ops listed = [] ∧ R a w
  | fuel + 1, B, listed, a, w => (Region.ready md ops listed = [] → R a w) ∧ ∀ i ∈ Region.ready md ops listed, wpOpX P ops B i (fun a' w' => ∃ B' : Nat → Prop, (∀ k, B' k → B k) ∧ wpAnyX P md ops R fuel B' (listed.setIfInBounds i true) a' w') a w

theorem wpX_wp {B : Nat → Prop} {o : Oper} {a : Act} {w : World} {K : Act → World → Prop} {K' : Act → World → Prop} {Q : Exit → Act → World → Prop} (h : ∀ a w, K a w → K' a w) (hh : wpX P B o a w K) : o.wp P a w K' Q := by
  unfold wpX Oper.wp at *
  generalize (execOp a.eval o).run P w = r at *
  cases r with
  | ok n w' =>
    cases n <;> simp only [Oper.upon] at hh ⊢
    case value => exact h _ _ hh.2
    case skip => exact h _ _ hh.2
    case defer => exact h _ _ hh.2
    case enter f args =>
      refine Calls.mono hh fun e w'' he => ?_
      cases e with
      | returned v => exact h _ _ he.2
      | panicked c => exact he.elim
      | outgrown => obtain ⟨_, _, h⟩ := he; exact h.elim
    case row => exact Rows.mono hh fun _ _ he => h _ _ he.2
  | halt x w' => cases x <;> simp only [Oper.upon] at hh
theorem wpX_mono {B : Nat → Prop} {o : Oper} {a : Act} {w : World} {K K' : Act → World → Prop} (h : ∀ a' w', Kx B w w' → K a' w' → K' a' w') (hh : wpX P B o a w K) : wpX P B o a w K' :=
  Oper.wp_mono (fun a' w' hb => ⟨hb.1, h a' w' hb.1 hb.2⟩) hh
theorem wpOpX_mono {i : Nat} {B : Nat → Prop} {a : Act} {w : World} {K K' : Act → World → Prop} (h : ∀ a' w', Kx B w w' → K a' w' → K' a' w') (hh : wpOpX P ops B i K a w) : wpOpX P ops B i K' a w := by
  unfold wpOpX at *
  split
  · exact h _ _ (Kx.refl _ _) (by simpa [*] using hh)
  · rename_i o ho
    simp only [ho] at hh
    split
    · rename_i hw; simp only [hw, if_true] at hh; exact wpX_mono h hh
    · rename_i hw; simp only [hw] at hh; exact h _ _ (Kx.refl _ _) hh
theorem wpAny_of_X {R : Act → World → Prop} {Q : Exit → Act → World → Prop} (hQ : ∀ a w, R a w → Q .normal a w) : ∀ (fuel : Nat) (B : Nat → Prop) (listed : Array Bool) (a : Act) (w : World), wpAnyX P md ops R fuel B listed a w → wpAny P md ops Q fuel listed a w
  | 0, _, _, _, _, h => ⟨h.1, hQ _ _ h.2⟩
  | fuel + 1, B, _, a, w, h => ⟨fun h0 => hQ _ _ (h.1 h0), fun i hi => by
      have hh := h.2 i hi
      unfold wpOpX at hh
      unfold wpOp
      split
      · rename_i ho; simp only [ho] at hh; obtain ⟨B', _, hh⟩ := hh; exact wpAny_of_X hQ fuel _ _ _ _ hh
      · rename_i o ho
        simp only [ho] at hh
        split
        · rename_i hw; simp only [hw, if_true] at hh; exact .inl (wpX_wp (fun a' w' ⟨B', _, h'⟩ => wpAny_of_X hQ fuel B' _ a' w' h') hh)
        · rename_i hw; simp only [hw] at hh; obtain ⟨B', _, hh⟩ := hh; exact wpAny_of_X hQ fuel _ _ _ _ hh⟩

def YieldsX (P : Program) (ops : Array Oper) (B : Nat → Prop) (o : Oper) (v : Value) (a : Act) (w : World) : Prop :=
  (Region.wanted o (yielded ops a.tmps) = true ∧ ∀ w', Kx B w w' → (execOp a.eval o).run P w' = .ok (.value v) w' ∨ ((execOp a.eval o).run P w' = .ok .skip w' ∧ v = undef)) ∨
  (Region.wanted o (yielded ops a.tmps) = false ∧ v = undef)
theorem YieldsX.wpOpX {i : Nat} {B : Nat → Prop} {o : Oper} {v : Value} {a : Act} {w : World} (hi : ops[i]? = some o) (hy : YieldsX P ops B o v a w) {K : Act → World → Prop} (h : K (a.put o.dst v) w) : wpOpX P ops B i K a w := by
  unfold Go.Proofs.Ytblmmmeeljidiab.wpOpX
  simp only [hi]
  rcases hy with ⟨hw, hv⟩ | ⟨hw, rfl⟩
  · simp only [hw, if_true]
    unfold wpX Oper.wp
    rcases hv w (Kx.refl _ _) with e | ⟨e, rfl⟩ <;> rw [e] <;> exact ⟨Kx.refl _ _, h⟩
  · simp only [hw, Bool.false_eq_true, if_false]; exact h
theorem YieldsX.of_same {B : Nat → Prop} {o : Oper} {v : Value} {a a' : Act} {w : World} (hy : YieldsX P ops B o v a w) (he : execOp a'.eval o = execOp a.eval o)
    (hw : Region.wanted o (yielded ops a'.tmps) = Region.wanted o (yielded ops a.tmps)) : YieldsX P ops B o v a' w := by
  unfold YieldsX at *
  rw [he, hw]
  exact hy
theorem YieldsX.grow {B B' : Nat → Prop} {o : Oper} {v : Value} {a : Act} {w w1 : World} (hy : YieldsX P ops B o v a w) (hb : Kx B w w1) (hB : ∀ k, B' k → B k) : YieldsX P ops B' o v a w1 := by
  rcases hy with ⟨h1, h2⟩ | h
  · exact .inl ⟨h1, fun w' h' => h2 w' (hb.trans (h'.mono fun i _ h => hB i h))⟩
  · exact .inr h
theorem wpOpX_put {j : Nat} {B : Nat → Prop} {oi oj : Oper} {v : Value} (hj : ops[j]? = some oj) (hap : oi.apart ops oj = true)
    (hsi : ∀ cs b, oi.op ≠ .select cs b) (hsj : ∀ cs b, oj.op ≠ .select cs b) {K : Act → World → Prop} {a : Act} {w : World}
    (hy : YieldsX P ops B oi v a w) (h : wpOpX P ops B j K (a.put oi.dst v) w) :
    wpOpX P ops B j (fun a' w' => YieldsX P ops B oi v a' w' ∧ K (a'.put oi.dst v) w') a w := by
  obtain ⟨h1, h2, h3⟩ := Oper.apart_spec hap
  have keep : ∀ (a : Act) (w : World), YieldsX P ops B oi v a w → ∀ u, YieldsX P ops B oi v (a.put oj.dst u) w := fun a w hy u =>
    hy.of_same (execOp_put oi hsi a oj.dst u h3) (wanted_put oi a oj.dst u h3)
  have keepD : ∀ d, YieldsX P ops B oi v { a with defers := d :: a.defers } w := fun d => hy.of_same rfl rfl
  have gr : ∀ {a : Act} {w w' : World}, YieldsX P ops B oi v a w → Kx B w w' → YieldsX P ops B oi v a w' := fun hy hb => hy.grow hb fun _ h => h
  unfold wpOpX at *
  simp only [hj] at *
  rw [wanted_put oj a oi.dst v h1] at h
  split
  · rename_i hw
    simp only [hw, if_true] at h
    unfold wpX Oper.wp at *
    rw [execOp_put oj hsj a oi.dst v h1] at h
    generalize (execOp a.eval oj).run P w = r at *
    cases r with
    | ok n w' =>
      cases n <;> simp only [Oper.upon] at h ⊢
      case value u => exact ⟨h.1, keep a w' (gr hy h.1) u, by rw [← Act.put_comm a v u h2]; exact h.2⟩
      case skip => exact ⟨h.1, keep a w' (gr hy h.1) _, by rw [← Act.put_comm a v undef h2]; exact h.2⟩
      case defer d =>
        refine ⟨h.1, keep _ w' (gr (keepD d) h.1) _, ?_⟩
        rw [← Act.put_comm _ v undef h2, ← Act.put_defers]
        exact h.2
      case enter f args =>
        -- the call's own world: what it got is the one that it entered in
        refine Calls.mono h fun e w'' he => ?_
        cases e with
        | returned u => exact ⟨he.1, keep a w'' (gr hy he.1) u, by rw [← Act.put_comm a v u h2]; exact he.2⟩
        | panicked c => exact he
        | outgrown => exact he
      case row row args => exact Rows.mono h fun u w'' he => ⟨he.1, keep a w'' (gr hy he.1) u, by rw [← Act.put_comm a v u h2]; exact he.2⟩
    | halt x w' => cases x <;> simp only [Oper.upon] at h ⊢
  · rename_i hw
    simp only [hw] at h
    exact ⟨keep a w hy _, by rw [← Act.put_comm a v undef h2]; exact h⟩

theorem wpAnyX_first {R : Act → World → Prop} {i : Nat} {oi : Oper} {v : Value} (hi : ops[i]? = some oi) (hsel : ∀ (j : Nat) (o : Oper) cs b, ops[j]? = some o → o.op ≠ .select cs b) :
    ∀ (fuel : Nat) (B : Nat → Prop) (listed : Array Bool) (a : Act) (w : World),
      (∀ j oj, ops[j]? = some oj → j ≠ i → listed.getD j true = false → (∀ e ∈ oj.after, Region.binds md e = true → e.on ≠ i) → oi.apart ops oj = true) →
      i ∈ Region.ready md ops listed → YieldsX P ops B oi v a w →
      wpAnyX P md ops R fuel B (listed.setIfInBounds i true) (a.put oi.dst v) w → wpAnyX P md ops R (fuel + 1) B listed a w := by
  intro fuel
  induction fuel with
  | zero =>
    intro B listed a w _ hr hy H
    refine ⟨fun h => (by rw [h] at hr; cases hr), fun j hj => ?_⟩
    by_cases hji : j = i
    · subst hji; exact hy.wpOpX hi ⟨B, fun _ h => h, H⟩
    · have := ready_mono hj hji
      rw [H.1] at this
      cases this
  | succ fuel ih =>
    intro B listed a w hfree hr hy H
    refine ⟨fun h => (by rw [h] at hr; cases hr), fun j hj => ?_⟩
    by_cases hji : j = i
    · subst hji; exact hy.wpOpX hi ⟨B, fun _ h => h, H⟩
    · have h1 := H.2 j (ready_mono hj hji)
      obtain ⟨hjun, oj, hoj, hall⟩ := mem_ready.1 hj
      have hnot : ∀ e ∈ oj.after, Region.binds md e = true → e.on ≠ i := fun e he hb heq => by
        have h1 := hall e he hb
        have h0 := (mem_ready.1 hr).1
        rw [heq] at h1
        rcases Nat.lt_or_ge i listed.size with h' | h'
        · simp [h'] at h0 h1; rw [h0] at h1; cases h1
        · simp [Array.getElem?_eq_none h'] at h1
      have h2 := wpOpX_put hoj (hfree j oj hoj hji hjun hnot) (fun cs b => hsel i oi cs b hi) (fun cs b => hsel j oj cs b hoj) hy h1
      have hfree' : ∀ k ok, ops[k]? = some ok → k ≠ i → (listed.setIfInBounds j true).getD k true = false →
          (∀ e ∈ ok.after, Region.binds md e = true → e.on ≠ i) → oi.apart ops ok = true := fun k ok hk hki hun hno => by
        refine hfree k ok hk hki ?_ hno
        by_cases hjk : j = k
        · subst hjk; exact hjun
        · rw [getD_set_ne true hjk] at hun; exact hun
      refine wpOpX_mono (fun a' w' _ h3 => ?_) h2
      obtain ⟨hy', B', hB', hK⟩ := h3
      refine ⟨B', hB', ih B' (listed.setIfInBounds j true) a' w' hfree' (ready_mono hr (Ne.symm hji)) (hy'.grow (Kx.refl _ _) hB') ?_⟩
      rw [Array.setIfInBounds_comm _ _ hji]
      exact hK

theorem wpAnyX_seg {R : Act → World → Prop} {B : Nat → Prop} {w : World} (hs : Region.noSelect ops = true) {fuel : Nat} : ∀ (is : List Nat) (l : List Oper) (listed : Array Bool) (a : Act),
    l.map some = is.map (fun i => ops[i]?) → segB md ops is listed = true →
    wpQuiet P ops (fun w' => ∃ x : ExtX B w, w' = x.w) (fun a' => wpAnyX P md ops R fuel B (setAll is listed) a' w) l a → wpAnyX P md ops R (fuel + is.length) B listed a w
  | [], [], _, _, _, _, h => h
  | [], _ :: _, _, _, e, _, _ => by simp at e
  | _ :: _, [], _, _, e, _, _ => by simp at e
  | i :: is, o :: l, listed, a, e, hB, h => by
    simp only [List.map_cons, List.cons.injEq] at e
    have h0 : ops[i]? = some o := e.1.symm
    simp only [segB, Bool.and_eq_true, h0, Option.map_some, Option.getD_some] at hB
    obtain ⟨⟨⟨hr, hf⟩, hst⟩, hB'⟩ := hB
    have hh : ∃ v, YieldsX P ops B o v a w ∧ wpQuiet P ops (fun w' => ∃ x : ExtX B w, w' = x.w) (fun a' => wpAnyX P md ops R fuel B (setAll is (listed.setIfInBounds i true)) a' w) l (a.put o.dst v) := by
      unfold wpQuiet at h
      by_cases hw : Region.wanted o (yielded ops a.tmps) = true
      · rw [if_pos hw] at h
        obtain ⟨v, h1, h2⟩ := h
        refine ⟨v, .inl ⟨hw, fun w' hb => ?_⟩, h2⟩
        have h3 := h1 w' ⟨⟨w', hb⟩, rfl⟩
        unfold Oper.quietAt at h3
        have hno := fun f args w'' => stillOp_no hst a.eval P w' w'' f args
        generalize (execOp a.eval o).run P w' = r at *
        cases r with
        | ok n w'' =>
          cases n <;> simp only [Oper.quietUpon] at h3
          case value u => obtain ⟨rfl, rfl⟩ := h3; exact .inl rfl
          case skip => obtain ⟨rfl, rfl⟩ := h3; exact .inr ⟨rfl, rfl⟩
          case enter f args => exact absurd rfl (hno f args w'')
        | halt x w'' => simp only [Oper.quietUpon] at h3
      · rw [if_neg hw] at h
        exact ⟨undef, .inr ⟨by simpa using hw, rfl⟩, h⟩
    obtain ⟨v, hy, hK⟩ := hh
    have := wpAnyX_seg (R := R) (B := B) (w := w) hs (fuel := fuel) is l (listed.setIfInBounds i true) (a.put o.dst v) e.2 hB' hK
    exact wpAnyX_first h0 (Region.noSelect_spec hs) (fuel + is.length) B listed a w (Region.free_spec h0 hf) (by simpa using hr) hy this

theorem stx_seg {R : Act → World → Prop} {B : Nat → Prop} {w : World} {l : List Oper} (n m : Nat) (is : List Nat) {listed : Array Bool} {a : Act} (hs : Region.noSelect l.toArray = true) (hn : n = m + is.length) (hB : segB md l.toArray is listed = true) (hl : is.all (fun i => i < l.length) = true)
    (h : wpQuiet P l.toArray (fun w' => ∃ x : ExtX B w, w' = x.w) (fun a' => wpAnyX P md l.toArray R m B (setAll is listed) a' w) (is.map fun i => (l[i]?).getD nilOp) a) : wpAnyX P md l.toArray R n B listed a w := by
  subst hn
  refine wpAnyX_seg hs is _ listed a ?_ hB h
  simp only [List.all_eq_true, decide_eq_true_eq] at hl
  rw [List.map_map]
  refine List.map_congr_left fun i hi => ?_
  have := hl i hi
  simp [List.getElem?_eq_getElem this]
/-- An operation that is the only one to come up. -/
theorem stx_one {R : Act → World → Prop} {B : Nat → Prop} {w : World} {l : List Oper} (n m : Nat) (i : Nat) {o : Oper} {listed : Array Bool} {a : Act} (hn : n = m + 1) (hi : l[i]? = some o) (hr : Region.ready md l.toArray listed = [i]) (hw : Region.wanted o (yielded l.toArray a.tmps) = true)
    (h : o.wp P a w (fun a' w' => Kx B w w' ∧ ∃ B' : Nat → Prop, (∀ k, B' k → B k) ∧ wpAnyX P md l.toArray R m B' (listed.setIfInBounds i true) a' w') (fun _ _ _ => False)) : wpAnyX P md l.toArray R n B listed a w := by
  subst hn
  refine ⟨fun h0 => (by rw [hr] at h0; cases h0), fun j hj => ?_⟩
  rw [hr] at hj
  obtain rfl : j = i := by simpa using hj
  have hi' : l.toArray[j]? = some o := by simpa using hi
  unfold wpOpX
  simp only [hi', hw, if_true]
  exact h
/-- Two operations may come up: both ways. -/
theorem stx_two {R : Act → World → Prop} {B : Nat → Prop} {w : World} {l : List Oper} (n m : Nat) (i k : Nat) {o p : Oper} {listed : Array Bool} {a : Act} (hn : n = m + 1) (hi : l[i]? = some o) (hk : l[k]? = some p) (hr : Region.ready md l.toArray listed = [i, k])
    (hw : Region.wanted o (yielded l.toArray a.tmps) = true) (hw' : Region.wanted p (yielded l.toArray a.tmps) = true)
    (h : o.wp P a w (fun a' w' => Kx B w w' ∧ ∃ B' : Nat → Prop, (∀ k, B' k → B k) ∧ wpAnyX P md l.toArray R m B' (listed.setIfInBounds i true) a' w') (fun _ _ _ => False))
    (h' : p.wp P a w (fun a' w' => Kx B w w' ∧ ∃ B' : Nat → Prop, (∀ k, B' k → B k) ∧ wpAnyX P md l.toArray R m B' (listed.setIfInBounds k true) a' w') (fun _ _ _ => False)) : wpAnyX P md l.toArray R n B listed a w := by
  subst hn
  have hi' : l.toArray[i]? = some o := by simpa using hi
  have hk' : l.toArray[k]? = some p := by simpa using hk
  refine ⟨fun h0 => (by rw [hr] at h0; cases h0), fun j hj => ?_⟩
  rw [hr] at hj
  simp only [List.mem_cons, List.not_mem_nil, or_false] at hj
  unfold wpOpX
  rcases hj with rfl | rfl
  · simp only [hi', hw, if_true]
    exact h
  · simp only [hk', hw', if_true]
    exact h'
theorem stx_end {R : Act → World → Prop} {B : Nat → Prop} {w : World} {l : List Oper} {listed : Array Bool} {a : Act} (hr : Region.ready md l.toArray listed = []) (h : R a w) : wpAnyX P md l.toArray R 0 B listed a w := ⟨hr, h⟩
theorem wp_region_stx (n : Nat) (B : Nat → Prop) {id : Nat} {Q : Exit → Act → World → Prop} {a : Act} {w : World} {l : List Oper} (hm : P.follows .mixedOrders = true) (hn : l.length = n)
    (h : wpAnyX P .any l.toArray (fun a' w' => Q .normal a' w') n B (Array.replicate n false) a w.drew) : (Code.region id l.toArray true).wp P Q a w := by
  subst hn
  refine wp_region_any hm ?_
  refine wpAny_of_X (R := fun a' w' => Q .normal a' w') (fun _ _ h => h) _ B _ _ _ ?_
  simpa using h
end
end Go.Proofs.Ytblmmmeeljidiab
