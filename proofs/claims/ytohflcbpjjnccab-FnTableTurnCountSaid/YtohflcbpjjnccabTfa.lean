/-
  Plain facts: routes as the program finds, keeps and places them.
-/
import Derived.Test.YtohflcbpjjnccabTn
import Derived.Test.YtohflcbpjjnccabTj
namespace Go.Proofs.Ytohflcbpjjnccab

/-- An address with only its first bits. -/
def fbI (a b : Int) : Int := a / lowB b * lowB b
/-- The place of the last route that is wanted, or -1. -/
def IsLst (p : Lk → Bool) (rs : List Lk) (k : Int) : Prop :=
  (k = -1 ∧ ∀ (j : Nat) (y : Lk), rs[j]? = some y → p y = false) ∨ ∃ (n : Nat) (x : Lk), k = (n : Int) ∧ rs[n]? = some x ∧ p x = true ∧ ∀ (j : Nat) (y : Lk), n < j → rs[j]? = some y → p y = false
section
variable {rs : List Lk} {hs : List Int} {r x y : Lk} {a k : Int}
theorem mt_last {h : Int} (hx : rtB h x = true) : decide (x.a = fbI a x.b) = mtB x a := by
  obtain ⟨hb, ha, hm, _⟩ := rtB_iff.1 hx
  unfold mtB fbI
  rw [decide_eq_decide]
  rcases low_at hb with ⟨_, h⟩ | ⟨_, h⟩ | ⟨_, h⟩ | ⟨_, h⟩ | ⟨_, h⟩ | ⟨_, h⟩ | ⟨_, h⟩ | ⟨_, h⟩ | ⟨_, h⟩ <;> rw [h] at hm ⊢ <;> omega
/-- Of two routes that match, the later one has more bits. -/
theorem mt_longer {h : Int} (hx : rtB h x = true) (hy : rtB h y = true) (mx : mtB x a = true) (my : mtB y a = true) (hl : rtLt x y = true) : x.b < y.b := by
  rw [mt_range hx] at mx
  rw [mt_range hy] at my
  simp only [Bool.and_eq_true, decide_eq_true_eq] at mx my
  obtain ⟨b1, _, m1, _⟩ := rtB_iff.1 hx
  obtain ⟨b2, _, m2, _⟩ := rtB_iff.1 hy
  rw [rtLt_iff] at hl
  rcases low_at b1 with ⟨e1, h1⟩ | ⟨e1, h1⟩ | ⟨e1, h1⟩ | ⟨e1, h1⟩ | ⟨e1, h1⟩ | ⟨e1, h1⟩ | ⟨e1, h1⟩ | ⟨e1, h1⟩ | ⟨e1, h1⟩ <;>
  rcases low_at b2 with ⟨e2, h2⟩ | ⟨e2, h2⟩ | ⟨e2, h2⟩ | ⟨e2, h2⟩ | ⟨e2, h2⟩ | ⟨e2, h2⟩ | ⟨e2, h2⟩ | ⟨e2, h2⟩ | ⟨e2, h2⟩ <;>
  rw [h1] at m1 mx <;> rw [h2] at m2 my <;> omega
theorem asc_at (h : Asc rs) {i j : Nat} (hij : i < j) (hx : rs[i]? = some x) (hy : rs[j]? = some y) : rtLt x y = true := by
  have h3 := List.pairwise_iff_getElem.1 h i j (List.getElem?_eq_some_iff.1 hx).1 (List.getElem?_eq_some_iff.1 hy).1 hij
  rwa [(List.getElem?_eq_some_iff.1 hx).2, (List.getElem?_eq_some_iff.1 hy).2] at h3
/-- The last match of a valid table is the longest. -/
theorem lst_fnd (hv : tbB rs hs = true) (ha : 0 ≤ a ∧ a ≤ 255) (h : IsLst (fun x => decide (x.a = fbI a x.b)) rs k) : k = fndA rs hs a := by
  obtain ⟨_, hr, hasc, _, _⟩ := tbB_iff.1 hv
  have hmt : ∀ (j : Nat) (y : Lk), rs[j]? = some y → decide (y.a = fbI a y.b) = mtB y a := fun j y hy => mt_last (hr y (List.mem_of_getElem? hy))
  rcases h with ⟨rfl, hall⟩ | ⟨n, x, rfl, hx, hp, hlater⟩
  · rcases fndA_spec (a := a) hv ha with ⟨e, _⟩ | ⟨k', x', _, hx', hb⟩
    · exact e.symm
    · have h1 : decide (x'.a = fbI a x'.b) = false := hall k' x' hx'
      rw [hmt k' x' hx', hb.2.1] at h1
      cases h1
  · have hp : decide (x.a = fbI a x.b) = true := hp
    rw [hmt n x hx] at hp
    rcases fndA_spec (a := a) hv ha with ⟨_, e⟩ | ⟨k', x', e, hx', hb⟩
    · rw [e x (List.mem_of_getElem? hx)] at hp
      cases hp
    · rw [e]
      rcases Nat.lt_trichotomy n k' with hl | rfl | hl
      · have h1 : decide (x'.a = fbI a x'.b) = false := hlater k' x' hl hx'
        rw [hmt k' x' hx', hb.2.1] at h1
        cases h1
      · rfl
      · have h1 := mt_longer (hr x' hb.1) (hr x (List.mem_of_getElem? hx)) hb.2.1 hp (asc_at hasc hl hx' hx)
        have h2 := hb.2.2 x (List.mem_of_getElem? hx) hp
        omega
theorem lt_other (hn : hasR r rs = false) (hx : x ∈ rs) (h : rtLt x r = false) : rtLt r x = true := by
  cases h2 : rtLt r x with
  | true => rfl
  | false =>
    have : hasR r rs = true := hasR_iff.2 ⟨x, hx, rtLt_same h2 h⟩
    rw [hn] at this
    cases this
/-- A route that is not there is put behind the last one that precedes it. -/
theorem lst_ins (hasc : Asc rs) (hn : hasR r rs = false) (h : IsLst (fun x => rtLt x r) rs k) : ∃ n : Nat, k + 1 = (n : Int) ∧ n ≤ rs.length ∧ insR r rs = rs.take n ++ r :: rs.drop n := by
  have hend : ∀ n : Nat, n ≤ rs.length → (∀ (j : Nat) (y : Lk), n ≤ j → rs[j]? = some y → rtLt y r = false) → n = rs.length ∨ ∃ x, rs[n]? = some x ∧ rtLt x r = false ∧ rtLt r x = true := fun n hl hl2 => by
    by_cases e : n = rs.length
    · exact .inl e
    · obtain ⟨x, hx⟩ : ∃ x, rs[n]? = some x := ⟨_, List.getElem?_eq_getElem (by omega)⟩
      have h1 := hl2 n x (Nat.le_refl _) hx
      exact .inr ⟨x, hx, h1, lt_other hn (List.mem_of_getElem? hx) h1⟩
  rcases h with ⟨rfl, hall⟩ | ⟨n, x, rfl, hx, hp, hlater⟩
  · refine ⟨0, rfl, Nat.zero_le _, ins_behind (fun j y hj _ => absurd hj (Nat.not_lt_zero _)) (Nat.zero_le _) ?_⟩
    exact hend 0 (Nat.zero_le _) fun j y _ hy => hall j y hy
  · have hnl := (List.getElem?_eq_some_iff.1 hx).1
    refine ⟨n + 1, rfl, hnl, ins_behind (fun j y hj hy => ?_) hnl ?_⟩
    · by_cases e : j = n
      · subst e
        rw [hx] at hy
        cases hy
        exact hp
      · exact rtLt_trans (asc_at hasc (by omega) hy hx) hp
    · exact hend (n + 1) hnl fun j y hj hy => hlater j y (by omega) hy
theorem del_hasR : hasR r (delR r.a r.b rs) = false := by
  cases hh : hasR r (delR r.a r.b rs) with
  | false => rfl
  | true =>
    obtain ⟨z, hz, hs⟩ := hasR_iff.1 hh
    rw [sameR_iff] at hs
    exact absurd ⟨hs.1.symm, hs.2.symm⟩ (delR_mem.1 hz).2
theorem ins_del (h : Asc rs) : insR r (delR r.a r.b rs) = insR r rs := by
  refine rasc_ext (insR_asc (delR_asc h)) (insR_asc h) fun z => ?_
  rw [insR_iff (delR_asc h), insR_iff h, delR_mem]
  constructor
  · rintro (e | ⟨⟨hm, _⟩, hn⟩)
    · exact .inl e
    · exact .inr ⟨hm, hn⟩
  · rintro (e | ⟨hm, hn⟩)
    · exact .inl e
    · refine .inr ⟨⟨hm, fun e => ?_⟩, hn⟩
      rw [sameR_iff.2 e] at hn
      cases hn
theorem del_all (hn : hasR r rs = false) : delR r.a r.b rs = rs := by
  unfold delR
  rw [List.filter_eq_self]
  intro z hz
  cases h1 : decide (z.a = r.a) <;> cases h2 : decide (z.b = r.b) <;> try rfl
  exfalso
  have : hasR r rs = true := hasR_iff.2 ⟨z, hz, sameR_iff.2 ⟨(of_decide_eq_true h1).symm, (of_decide_eq_true h2).symm⟩⟩
  rw [hn] at this
  cases this
theorem del_less (hh : hasR r rs = true) : (delR r.a r.b rs).length < rs.length := by
  have h := keyB_len (rs := rs) (p := r.a) (b := r.b)
  have hk : keyB r.a r.b rs = true := by
    obtain ⟨z, hz, hs⟩ := hasR_iff.1 hh
    rw [sameR_iff] at hs
    exact keyB_iff.2 ⟨z, hz, hs.1.symm, hs.2.symm⟩
  rw [hk, decide_eq_true_eq] at h
  exact h
/-- Ten are left only where the route is not there. -/
theorem del_ten (hl : rs.length ≤ 10) : ((delR r.a r.b rs).length = 10 → hasR r rs = false ∧ rs.length = 10 ∧ delR r.a r.b rs = rs) ∧ ((delR r.a r.b rs).length ≠ 10 → hasR r rs = true ∨ rs.length < 10) := by
  cases hh : hasR r rs with
  | true =>
    have := del_less hh
    exact ⟨fun e => by omega, fun _ => .inl rfl⟩
  | false =>
    rw [del_all hh]
    exact ⟨fun e => ⟨rfl, e, rfl⟩, fun e => .inr (by omega)⟩
end
end Go.Proofs.Ytohflcbpjjnccab
