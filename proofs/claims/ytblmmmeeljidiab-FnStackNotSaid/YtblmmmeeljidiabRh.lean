/-
  A region that draws its order, in stages, with memory of the region's own: as Rg, where a stage may keep what lies below a block of its choice.
-/
import Derived.Test.YtblmmmeeljidiabRg
namespace Go.Proofs.Ytblmmmeeljidiab
open Go Go.RowKit

/-- Worlds in which what lies below block B is as in w. -/
def ExtB (B : Nat) (w : World) : Type := { W : World // Below B w W }
def ExtB.w {B : Nat} {w : World} (x : ExtB B w) : World := x.1
theorem ExtB.below {B : Nat} {w : World} (x : ExtB B w) : Below B w x.w := x.2
instance instNonemptyExtB (B : Nat) (w : World) : Nonempty (ExtB B w) := ⟨⟨w, Below.refl _ _⟩⟩
theorem ExtB.cell {B : Nat} {w : World} (x : ExtB B w) (b o : Nat) (h : b < B) : x.w.cell? ⟨b, o, none⟩ = w.cell? ⟨b, o, none⟩ := x.below.cell (p := ⟨b, o, none⟩) h

theorem below_ad (w : World) (o : Obj) : Below w.heap.size w.drew (w.alloc o).drew := by
  have h := (Below.refl w.heap.size w).alloc (Nat.le_refl _) o
  exact ⟨h.os, h.tape, h.output, h.size, h.block⟩
theorem below_aa (w : World) (o o' : Obj) : Below w.heap.size (w.alloc o) (w.alloc o') := by
  have h1 := (Below.refl w.heap.size w).alloc (Nat.le_refl _) o
  have h2 := (Below.refl w.heap.size w).alloc (Nat.le_refl _) o'
  exact ⟨h2.os.trans h1.os.symm, h2.tape.trans h1.tape.symm, h2.output.trans h1.output.symm, by simp, fun k hk => (h2.block k hk).trans (h1.block k hk).symm⟩
theorem below_dd {B : Nat} {w w' : World} (h : Below B w w') : Below B w.drew w'.drew := ⟨h.os, h.tape, h.output, h.size, h.block⟩

section
variable {P : Program} {ops : Array Oper} {md : Region.Mode}

def wpC (P : Program) (B : Nat) (o : Oper) (a : Act) (w : World) (K : Act → World → Prop) : Prop :=
  o.wp P a w (fun a' w' => Below B w w' ∧ K a' w') (fun _ _ _ => False)
def wpOpC (P : Program) (ops : Array Oper) (B : Nat) (i : Nat) (K : Act → World → Prop) (a : Act) (w : World) : Prop :=
  match ops[i]? with
  | none => K a w
  | some o => if Region.wanted o (yielded ops a.tmps) then wpC P B o a w K else K (a.put o.dst undef) w
def wpAnyC (P : Program) (md : Region.Mode) (ops : Array Oper) (R : Act → World → Prop) : Nat → Nat → Array Bool → Act → World → Prop
  | 0, _, listed, a, w => Region.ready md ops listed = [] ∧ R a w
  | fuel + 1, B, listed, a, w => (Region.ready md ops listed = [] → R a w) ∧ ∀ i ∈ Region.ready md ops listed, wpOpC P ops B i (fun a' w' => ∃ B', B ≤ B' ∧ wpAnyC P md ops R fuel B' (listed.setIfInBounds i true) a' w') a w

theorem wpC_wp {B : Nat} {o : Oper} {a : Act} {w : World} {K : Act → World → Prop} {K' : Act → World → Prop} {Q : Exit → Act → World → Prop} (h : ∀ a w, K a w → K' a w) (hh : wpC P B o a w K) : o.wp P a w K' Q := by
  unfold wpC Oper.wp at *
  generalize (execOp a.eval o).run P w = r at *
  cases r with
  | ok n w' =>
    cases n <;> simp only [Oper.upon] at hh ⊢
    case value => exact h _ _ hh.2
    case skip => exact h _ _ hh.2
    case defer => exact h _ _ hh.2
    case enter f args =>
      refine Calls.mono hh fun e w'' he => ?_
      cases e with
      | returned v => exact h _ _ he.2
      | panicked c => exact he.elim
      | outgrown => obtain ⟨_, _, h⟩ := he; exact h.elim
    case row => exact Rows.mono hh fun _ _ he => h _ _ he.2
  | halt x w' => cases x <;> simp only [Oper.upon] at hh
theorem wpC_mono {B : Nat} {o : Oper} {a : Act} {w : World} {K K' : Act → World → Prop} (h : ∀ a' w', Below B w w' → K a' w' → K' a' w') (hh : wpC P B o a w K) : wpC P B o a w K' :=
  Oper.wp_mono (fun a' w' hb => ⟨hb.1, h a' w' hb.1 hb.2⟩) hh
theorem wpOpC_mono {B i : Nat} {a : Act} {w : World} {K K' : Act → World → Prop} (h : ∀ a' w', Below B w w' → K a' w' → K' a' w') (hh : wpOpC P ops B i K a w) : wpOpC P ops B i K' a w := by
  unfold wpOpC at *
  split
  · exact h _ _ (Below.refl _ _) (by simpa [*] using hh)
  · rename_i o ho
    simp only [ho] at hh
    split
    · rename_i hw; simp only [hw, if_true] at hh; exact wpC_mono h hh
    · rename_i hw; simp only [hw] at hh; exact h _ _ (Below.refl _ _) hh
theorem wpAny_of_C {R : Act → World → Prop} {Q : Exit → Act → World → Prop} (hQ : ∀ a w, R a w → Q .normal a w) : ∀ (fuel B : Nat) (listed : Array Bool) (a : Act) (w : World), wpAnyC P md ops R fuel B listed a w → wpAny P md ops Q fuel listed a w
  | 0, _, _, _, _, h => ⟨h.1, hQ _ _ h.2⟩
  | fuel + 1, B, _, a, w, h => ⟨fun h0 => hQ _ _ (h.1 h0), fun i hi => by
      have hh := h.2 i hi
      unfold wpOpC at hh
      unfold wpOp
      split
      · rename_i ho; simp only [ho] at hh; obtain ⟨B', _, hh⟩ := hh; exact wpAny_of_C hQ fuel _ _ _ _ hh
      · rename_i o ho
        simp only [ho] at hh
        split
        · rename_i hw; simp only [hw, if_true] at hh; exact .inl (wpC_wp (fun a' w' ⟨B', _, h'⟩ => wpAny_of_C hQ fuel B' _ a' w' h') hh)
        · rename_i hw; simp only [hw] at hh; obtain ⟨B', _, hh⟩ := hh; exact wpAny_of_C hQ fuel _ _ _ _ hh⟩

def YieldsC (P : Program) (ops : Array Oper) (B : Nat) (o : Oper) (v : Value) (a : Act) (w : World) : Prop :=
  (Region.wanted o (yielded ops a.tmps) = true ∧ ∀ w', Below B w w' → (execOp a.eval o).run P w' = .ok (.value v) w' ∨ ((execOp a.eval o).run P w' = .ok .skip w' ∧ v = undef)) ∨
  (Region.wanted o (yielded ops a.tmps) = false ∧ v = undef)
theorem YieldsC.wpOpC {B i : Nat} {o : Oper} {v : Value} {a : Act} {w : World} (hi : ops[i]? = some o) (hy : YieldsC P ops B o v a w) {K : Act → World → Prop} (h : K (a.put o.dst v) w) : wpOpC P ops B i K a w := by
  unfold Go.Proofs.Ytblmmmeeljidiab.wpOpC
  simp only [hi]
  rcases hy with ⟨hw, hv⟩ | ⟨hw, rfl⟩
  · simp only [hw, if_true]
    unfold wpC Oper.wp
    rcases hv w (Below.refl _ _) with e | ⟨e, rfl⟩ <;> rw [e] <;> exact ⟨Below.refl _ _, h⟩
  · simp only [hw, Bool.false_eq_true, if_false]; exact h
theorem YieldsC.of_same {B : Nat} {o : Oper} {v : Value} {a a' : Act} {w : World} (hy : YieldsC P ops B o v a w) (he : execOp a'.eval o = execOp a.eval o)
    (hw : Region.wanted o (yielded ops a'.tmps) = Region.wanted o (yielded ops a.tmps)) : YieldsC P ops B o v a' w := by
  unfold YieldsC at *
  rw [he, hw]
  exact hy
theorem YieldsC.grow {B B' : Nat} {o : Oper} {v : Value} {a : Act} {w w1 : World} (hy : YieldsC P ops B o v a w) (hb : Below B w w1) (hB : B ≤ B') : YieldsC P ops B' o v a w1 := by
  rcases hy with ⟨h1, h2⟩ | h
  · exact .inl ⟨h1, fun w' h' => h2 w' (hb.trans (h'.mono hB))⟩
  · exact .inr h
theorem wpOpC_put {B j : Nat} {oi oj : Oper} {v : Value} (hj : ops[j]? = some oj) (hap : oi.apart ops oj = true)
    (hsi : ∀ cs b, oi.op ≠ .select cs b) (hsj : ∀ cs b, oj.op ≠ .select cs b) {K : Act → World → Prop} {a : Act} {w : World}
    (hy : YieldsC P ops B oi v a w) (h : wpOpC P ops B j K (a.put oi.dst v) w) :
    wpOpC P ops B j (fun a' w' => YieldsC P ops B oi v a' w' ∧ K (a'.put oi.dst v) w') a w := by
  obtain ⟨h1, h2, h3⟩ := Oper.apart_spec hap
  have keep : ∀ (a : Act) (w : World), YieldsC P ops B oi v a w → ∀ u, YieldsC P ops B oi v (a.put oj.dst u) w := fun a w hy u =>
    hy.of_same (execOp_put oi hsi a oj.dst u h3) (wanted_put oi a oj.dst u h3)
  have keepD : ∀ d, YieldsC P ops B oi v { a with defers := d :: a.defers } w := fun d => hy.of_same rfl rfl
  have gr : ∀ {a : Act} {w w' : World}, YieldsC P ops B oi v a w → Below B w w' → YieldsC P ops B oi v a w' := fun hy hb => hy.grow hb (Nat.le_refl _)
  unfold wpOpC at *
  simp only [hj] at *
  rw [wanted_put oj a oi.dst v h1] at h
  split
  · rename_i hw
    simp only [hw, if_true] at h
    unfold wpC Oper.wp at *
    rw [execOp_put oj hsj a oi.dst v h1] at h
    generalize (execOp a.eval oj).run P w = r at *
    cases r with
    | ok n w' =>
      cases n <;> simp only [Oper.upon] at h ⊢
      case value u => exact ⟨h.1, keep a w' (gr hy h.1) u, by rw [← Act.put_comm a v u h2]; exact h.2⟩
      case skip => exact ⟨h.1, keep a w' (gr hy h.1) _, by rw [← Act.put_comm a v undef h2]; exact h.2⟩
      case defer d =>
        refine ⟨h.1, keep _ w' (gr (keepD d) h.1) _, ?_⟩
        rw [← Act.put_comm _ v undef h2, ← Act.put_defers]
        exact h.2
      case enter f args =>
        -- the call's own world: what it got is the one that it entered in
        refine Calls.mono h fun e w'' he => ?_
        cases e with
        | returned u => exact ⟨he.1, keep a w'' (gr hy he.1) u, by rw [← Act.put_comm a v u h2]; exact he.2⟩
        | panicked c => exact he
        | outgrown => exact he
      case row row args => exact Rows.mono h fun u w'' he => ⟨he.1, keep a w'' (gr hy he.1) u, by rw [← Act.put_comm a v u h2]; exact he.2⟩
    | halt x w' => cases x <;> simp only [Oper.upon] at h ⊢
  · rename_i hw
    simp only [hw] at h
    exact ⟨keep a w hy _, by rw [← Act.put_comm a v undef h2]; exact h⟩

theorem wpAnyC_first {R : Act → World → Prop} {i : Nat} {oi : Oper} {v : Value} (hi : ops[i]? = some oi) (hsel : ∀ (j : Nat) (o : Oper) cs b, ops[j]? = some o → o.op ≠ .select cs b) :
    ∀ (fuel B : Nat) (listed : Array Bool) (a : Act) (w : World),
      (∀ j oj, ops[j]? = some oj → j ≠ i → listed.getD j true = false → (∀ e ∈ oj.after, Region.binds md e = true → e.on ≠ i) → oi.apart ops oj = true) →
      i ∈ Region.ready md ops listed → YieldsC P ops B oi v a w →
      wpAnyC P md ops R fuel B (listed.setIfInBounds i true) (a.put oi.dst v) w → wpAnyC P md ops R (fuel + 1) B listed a w := by
  intro fuel
  induction fuel with
  | zero =>
    intro B listed a w _ hr hy H
    refine ⟨fun h => (by rw [h] at hr; cases hr), fun j hj => ?_⟩
    by_cases hji : j = i
    · subst hji; exact hy.wpOpC hi ⟨B, Nat.le_refl _, H⟩
    · have := ready_mono hj hji
      rw [H.1] at this
      cases this
  | succ fuel ih =>
    intro B listed a w hfree hr hy H
    refine ⟨fun h => (by rw [h] at hr; cases hr), fun j hj => ?_⟩
    by_cases hji : j = i
    · subst hji; exact hy.wpOpC hi ⟨B, Nat.le_refl _, H⟩
    · have h1 := H.2 j (ready_mono hj hji)
      obtain ⟨hjun, oj, hoj, hall⟩ := mem_ready.1 hj
      have hnot : ∀ e ∈ oj.after, Region.binds md e = true → e.on ≠ i := fun e he hb heq => by
        have h1 := hall e he hb
        have h0 := (mem_ready.1 hr).1
        rw [heq] at h1
        rcases Nat.lt_or_ge i listed.size with h' | h'
        · simp [h'] at h0 h1; rw [h0] at h1; cases h1
        · simp [Array.getElem?_eq_none h'] at h1
      have h2 := wpOpC_put hoj (hfree j oj hoj hji hjun hnot) (fun cs b => hsel i oi cs b hi) (fun cs b => hsel j oj cs b hoj) hy h1
      have hfree' : ∀ k ok, ops[k]? = some ok → k ≠ i → (listed.setIfInBounds j true).getD k true = false →
          (∀ e ∈ ok.after, Region.binds md e = true → e.on ≠ i) → oi.apart ops ok = true := fun k ok hk hki hun hno => by
        refine hfree k ok hk hki ?_ hno
        by_cases hjk : j = k
        · subst hjk; exact hjun
        · rw [getD_set_ne true hjk] at hun; exact hun
      refine wpOpC_mono (fun a' w' _ h3 => ?_) h2
      obtain ⟨hy', B', hB', hK⟩ := h3
      refine ⟨B', hB', ih B' (listed.setIfInBounds j true) a' w' hfree' (ready_mono hr (Ne.symm hji)) (hy'.grow (Below.refl _ _) hB') ?_⟩
      rw [Array.setIfInBounds_comm _ _ hji]
      exact hK

theorem wpAnyC_seg {R : Act → World → Prop} {B : Nat} {w : World} (hs : Region.noSelect ops = true) {fuel : Nat} : ∀ (is : List Nat) (l : List Oper) (listed : Array Bool) (a : Act),
    l.map some = is.map (fun i => ops[i]?) → segB md ops is listed = true →
    wpQuiet P ops (fun w' => ∃ x : ExtB B w, w' = x.w) (fun a' => wpAnyC P md ops R fuel B (setAll is listed) a' w) l a → wpAnyC P md ops R (fuel + is.length) B listed a w
  | [], [], _, _, _, _, h => h
  | [], _ :: _, _, _, e, _, _ => by simp at e
  | _ :: _, [], _, _, e, _, _ => by simp at e
  | i :: is, o :: l, listed, a, e, hB, h => by
    simp only [List.map_cons, List.cons.injEq] at e
    have h0 : ops[i]? = some o := e.1.symm
    simp only [segB, Bool.and_eq_true, h0, Option.map_some, Option.getD_some] at hB
    obtain ⟨⟨⟨hr, hf⟩, hst⟩, hB'⟩ := hB
    have hh : ∃ v, YieldsC P ops B o v a w ∧ wpQuiet P ops (fun w' => ∃ x : ExtB B w, w' = x.w) (fun a' => wpAnyC P md ops R fuel B (setAll is (listed.setIfInBounds i true)) a' w) l (a.put o.dst v) := by
      unfold wpQuiet at h
      by_cases hw : Region.wanted o (yielded ops a.tmps) = true
      · rw [if_pos hw] at h
        obtain ⟨v, h1, h2⟩ := h
        refine ⟨v, .inl ⟨hw, fun w' hb => ?_⟩, h2⟩
        have h3 := h1 w' ⟨⟨w', hb⟩, rfl⟩
        unfold Oper.quietAt at h3
        have hno := fun f args w'' => stillOp_no hst a.eval P w' w'' f args
        generalize (execOp a.eval o).run P w' = r at *
        cases r with
        | ok n w'' =>
          cases n <;> simp only [Oper.quietUpon] at h3
          case value u => obtain ⟨rfl, rfl⟩ := h3; exact .inl rfl
          case skip => obtain ⟨rfl, rfl⟩ := h3; exact .inr ⟨rfl, rfl⟩
          case enter f args => exact absurd rfl (hno f args w'')
        | halt x w'' => simp only [Oper.quietUpon] at h3
      · rw [if_neg hw] at h
        exact ⟨undef, .inr ⟨by simpa using hw, rfl⟩, h⟩
    obtain ⟨v, hy, hK⟩ := hh
    have := wpAnyC_seg (R := R) (B := B) (w := w) hs (fuel := fuel) is l (listed.setIfInBounds i true) (a.put o.dst v) e.2 hB' hK
    exact wpAnyC_first h0 (Region.noSelect_spec hs) (fuel + is.length) B listed a w (Region.free_spec h0 hf) (by simpa using hr) hy this

theorem stg_seg {R : Act → World → Prop} {B : Nat} {w : World} {l : List Oper} (n m : Nat) (is : List Nat) {listed : Array Bool} {a : Act} (hs : Region.noSelect l.toArray = true) (hn : n = m + is.length) (hB : segB md l.toArray is listed = true) (hl : is.all (fun i => i < l.length) = true)
    (h : wpQuiet P l.toArray (fun w' => ∃ x : ExtB B w, w' = x.w) (fun a' => wpAnyC P md l.toArray R m B (setAll is listed) a' w) (is.map fun i => (l[i]?).getD nilOp) a) : wpAnyC P md l.toArray R n B listed a w := by
  subst hn
  refine wpAnyC_seg hs is _ listed a ?_ hB h
  simp only [List.all_eq_true, decide_eq_true_eq] at hl
  rw [List.map_map]
  refine List.map_congr_left fun i hi => ?_
  have := hl i hi
  simp [List.getElem?_eq_getElem this]
/-- An operation that is the only one to come up. -/
theorem stg_one {R : Act → World → Prop} {B : Nat} {w : World} {l : List Oper} (n m : Nat) (i : Nat) {o : Oper} {listed : Array Bool} {a : Act} (hn : n = m + 1) (hi : l[i]? = some o) (hr : Region.ready md l.toArray listed = [i]) (hw : Region.wanted o (yielded l.toArray a.tmps) = true)
    (h : o.wp P a w (fun a' w' => Below B w w' ∧ ∃ B', B ≤ B' ∧ wpAnyC P md l.toArray R m B' (listed.setIfInBounds i true) a' w') (fun _ _ _ => False)) : wpAnyC P md l.toArray R n B listed a w := by
  subst hn
  refine ⟨fun h0 => (by rw [hr] at h0; cases h0), fun j hj => ?_⟩
  rw [hr] at hj
  obtain rfl : j = i := by simpa using hj
  have hi' : l.toArray[j]? = some o := by simpa using hi
  unfold wpOpC
  simp only [hi', hw, if_true]
  exact h
/-- Two operations may come up: both ways. -/
theorem stg_two {R : Act → World → Prop} {B : Nat} {w : World} {l : List Oper} (n m : Nat) (i k : Nat) {o p : Oper} {listed : Array Bool} {a : Act} (hn : n = m + 1) (hi : l[i]? = some o) (hk : l[k]? = some p) (hr : Region.ready md l.toArray listed = [i, k])
    (hw : Region.wanted o (yielded l.toArray a.tmps) = true) (hw' : Region.wanted p (yielded l.toArray a.tmps) = true)
    (h : o.wp P a w (fun a' w' => Below B w w' ∧ ∃ B', B ≤ B' ∧ wpAnyC P md l.toArray R m B' (listed.setIfInBounds i true) a' w') (fun _ _ _ => False))
    (h' : p.wp P a w (fun a' w' => Below B w w' ∧ ∃ B', B ≤ B' ∧ wpAnyC P md l.toArray R m B' (listed.setIfInBounds k true) a' w') (fun _ _ _ => False)) : wpAnyC P md l.toArray R n B listed a w := by
  subst hn
  have hi' : l.toArray[i]? = some o := by simpa using hi
  have hk' : l.toArray[k]? = some p := by simpa using hk
  refine ⟨fun h0 => (by rw [hr] at h0; cases h0), fun j hj => ?_⟩
  rw [hr] at hj
  simp only [List.mem_cons, List.not_mem_nil, or_false] at hj
  unfold wpOpC
  rcases hj with rfl | rfl
  · simp only [hi', hw, if_true]
    exact h
  · simp only [hk', hw', if_true]
    exact h'
theorem stg_end {R : Act → World → Prop} {B : Nat} {w : World} {l : List Oper} {listed : Array Bool} {a : Act} (hr : Region.ready md l.toArray listed = []) (h : R a w) : wpAnyC P md l.toArray R 0 B listed a w := ⟨hr, h⟩
theorem wp_region_stg (n B : Nat) {id : Nat} {Q : Exit → Act → World → Prop} {a : Act} {w : World} {l : List Oper} (hm : P.follows .mixedOrders = true) (hn : l.length = n)
    (h : wpAnyC P .any l.toArray (fun a' w' => Q .normal a' w') n B (Array.replicate n false) a w.drew) : (Code.region id l.toArray true).wp P Q a w := by
  subst hn
  refine wp_region_any hm ?_
  refine wpAny_of_C (R := fun a' w' => Q .normal a' w') (fun _ _ h => h) _ B _ _ _ ?_
  simpa using h
end
end Go.Proofs.Ytblmmmeeljidiab
