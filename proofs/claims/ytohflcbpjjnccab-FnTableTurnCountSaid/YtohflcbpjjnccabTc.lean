/-
  Plain facts: what TableAdd, TableRemove and TableTurn answer, and what the laws of tables ask.
-/
import Derived.Test.YtohflcbpjjnccabTb
namespace Go.Proofs.Ytohflcbpjjnccab

def addOk (rs : List Lk) (hs : List Int) (r : Lk) : Bool := tbB rs hs && rtB hs.length r
/-- Whether TableAdd adds the route. -/
def addB (rs : List Lk) (hs : List Int) (r : Lk) : Bool := addOk rs hs r && (hasR r rs || decide (rs.length < 10))
def addR (rs : List Lk) (hs : List Int) (r : Lk) : List Lk := if addOk rs hs r = true then (if addB rs hs r = true then insR r rs else rs) else []
def addH (rs : List Lk) (hs : List Int) (r : Lk) : List Int := if addOk rs hs r = true then hs else []
def keyB (p b : Int) (rs : List Lk) : Bool := rs.any (fun x => decide (x.a = p) && decide (x.b = b))
def remB (rs : List Lk) (hs : List Int) (p b : Int) : Bool := tbB rs hs && keyB p b rs
def remR (rs : List Lk) (hs : List Int) (p b : Int) : List Lk := if tbB rs hs = true then delR p b rs else []
def remH (rs : List Lk) (hs : List Int) : List Int := if tbB rs hs = true then hs else []
def trnB (rs : List Lk) (hs : List Int) (h node : Int) : Bool := tbB rs hs && inB h 0 ((hs.length : Int) - 1) && inB node 0 7
def trnR (rs : List Lk) (hs : List Int) (h node : Int) : List Lk := if trnB rs hs h node = true then rs else []
def trnH (rs : List Lk) (hs : List Int) (h node : Int) : List Int := if trnB rs hs h node = true then hs.set h.toNat node else []
def cntR (rs : List Lk) (h : Int) : Nat := (rs.filter (fun x => decide (x.c = h))).length
def trnN (rs : List Lk) (hs : List Int) (h node : Int) : Int := if trnB rs hs h node = true then (cntR rs h : Int) else -1
section
variable {rs : List Lk} {hs : List Int} {r u : Lk}
theorem hasR_ins : hasR r (insR r rs) = true := hasR_iff.2 ⟨r, insR_self, sameR_iff.2 ⟨rfl, rfl⟩⟩
theorem addB_iff : addB rs hs r = true ↔ tbB rs hs = true ∧ rtB hs.length r = true ∧ (hasR r rs = true ∨ rs.length < 10) := by
  unfold addB addOk
  simp only [Bool.and_eq_true, Bool.or_eq_true, decide_eq_true_eq, and_assoc]
theorem add_yes (h : addB rs hs r = true) : addR rs hs r = insR r rs ∧ addH rs hs r = hs := by
  have hok : addOk rs hs r = true := by
    unfold addB at h
    rw [Bool.and_eq_true] at h
    exact h.1
  unfold addR addH
  rw [if_pos hok, if_pos h, if_pos hok]
  exact ⟨rfl, rfl⟩
theorem ins_valid (h : addB rs hs r = true) : tbB (insR r rs) hs = true := by
  obtain ⟨hv, hr, hl⟩ := addB_iff.1 h
  obtain ⟨h1, h2, h3, h4, h5⟩ := tbB_iff.1 hv
  refine tbB_iff.2 ⟨h1, fun x hx => ?_, insR_asc h3, ?_, h5⟩
  · rcases insR_mem hx with rfl | hx
    · exact hr
    · exact h2 x hx
  · cases hh : hasR r rs with
    | true => rw [insR_lenY h3 hh]; exact h4
    | false =>
      rw [insR_lenN hh]
      rcases hl with e | e
      · rw [hh] at e
        cases e
      · exact e
/-- P124. -/
theorem add_law (h : addB rs hs r = true) : tbB (insR r rs) hs = true ∧ r ∈ insR r rs ∧ (∀ x ∈ rs, sameR x r = false → x ∈ insR r rs) ∧ (insR r rs).length ≤ rs.length + 1 :=
  ⟨ins_valid h, insR_self, fun _ hx hn => insR_keep hx hn, insR_len⟩
/-- P125. -/
theorem twice_law (h : addB rs hs r = true) : addB (insR r rs) hs r = true ∧ addR (insR r rs) hs r = insR r rs ∧ addH (insR r rs) hs r = hs := by
  have h2 : addB (insR r rs) hs r = true := addB_iff.2 ⟨ins_valid h, (addB_iff.1 h).2.1, .inl hasR_ins⟩
  obtain ⟨e1, e2⟩ := add_yes h2
  exact ⟨h2, by rw [e1, insR_twice (tbB_iff.1 (addB_iff.1 h).1).2.2.1], e2⟩
/-- P126. -/
theorem full_law (h : addB rs hs r = false) (hne : addR rs hs r ≠ []) : addR rs hs r = rs ∧ addH rs hs r = hs ∧ rs.length = 10 ∧ ∀ x ∈ rs, sameR x r = false := by
  unfold addR at hne ⊢
  unfold addH
  cases hok : addOk rs hs r with
  | false =>
    rw [hok, if_neg Bool.false_ne_true] at hne
    exact absurd rfl hne
  | true =>
    rw [if_pos rfl, if_pos rfl, h, if_neg Bool.false_ne_true]
    unfold addB at h
    rw [hok, Bool.true_and, Bool.or_eq_false_iff, decide_eq_false_iff_not] at h
    unfold addOk at hok
    rw [Bool.and_eq_true] at hok
    have h4 := (tbB_iff.1 hok.1).2.2.2.1
    refine ⟨rfl, rfl, by omega, fun x hx => ?_⟩
    cases hs' : sameR x r with
    | false => rfl
    | true =>
      have : hasR r rs = true := hasR_iff.2 ⟨x, hx, by rw [sameR_iff] at hs' ⊢; exact ⟨hs'.1.symm, hs'.2.symm⟩⟩
      rw [h.1] at this
      cases this
theorem hasR_other (hn : sameR u r = false) (h : hasR u (insR r rs) = true) : hasR u rs = true := by
  obtain ⟨z, hz, hs⟩ := hasR_iff.1 h
  rcases insR_mem hz with rfl | hz
  · rw [hn] at hs
    cases hs
  · exact hasR_iff.2 ⟨z, hz, hs⟩
theorem hasR_keep (hn : sameR u r = false) (h : hasR u rs = true) : hasR u (insR r rs) = true := by
  obtain ⟨z, hz, hs⟩ := hasR_iff.1 h
  refine hasR_iff.2 ⟨z, insR_keep hz ?_, hs⟩
  cases e : sameR z r with
  | false => rfl
  | true =>
    rw [sameR_iff] at e hs
    have : sameR u r = true := sameR_iff.2 ⟨hs.1.trans e.1, hs.2.trans e.2⟩
    rw [hn] at this
    cases this
/-- P127. -/
theorem order_law (h : addB rs hs r = true) (hn : sameR u r = false) (h1 : addB (insR r rs) hs u = true) (h2 : addB rs hs u = true) :
    addB (insR u rs) hs r = true ∧ insR r (insR u rs) = insR u (insR r rs) := by
  have hasc := (tbB_iff.1 (addB_iff.1 h).1).2.2.1
  have hn' : sameR r u = false := by
    cases e : sameR r u with
    | false => rfl
    | true =>
      rw [sameR_iff] at e
      have : sameR u r = true := sameR_iff.2 ⟨e.1.symm, e.2.symm⟩
      rw [hn] at this
      cases this
  refine ⟨addB_iff.2 ⟨ins_valid h2, (addB_iff.1 h).2.1, ?_⟩, (insR_comm hasc hn).symm⟩
  cases hr : hasR r rs with
  | true => exact .inl (hasR_keep hn' hr)
  | false =>
    right
    have l1 := insR_lenN hr
    cases hu : hasR u rs with
    | true =>
      rw [insR_lenY hasc hu]
      rcases (addB_iff.1 h).2.2 with e | e
      · rw [hr] at e
        cases e
      · exact e
    | false =>
      rw [insR_lenN hu]
      rcases (addB_iff.1 h1).2.2 with e | e
      · rw [hasR_other hn e] at hu
        cases hu
      · omega
theorem del_valid {p b : Int} (hv : tbB rs hs = true) : tbB (delR p b rs) hs = true := by
  obtain ⟨h1, h2, h3, h4, h5⟩ := tbB_iff.1 hv
  refine tbB_iff.2 ⟨h1, fun x hx => h2 x (delR_mem.1 hx).1, delR_asc h3, Nat.le_trans (List.length_filter_le _ _) h4, h5⟩
/-- P128. -/
theorem remove_law (hv : tbB rs hs = true) (hm : r ∈ rs) : addB (delR r.a r.b rs) hs r = true ∧ insR r (delR r.a r.b rs) = rs ∧ (delR r.a r.b rs).length + 1 = rs.length := by
  obtain ⟨h1, h2, h3, h4, h5⟩ := tbB_iff.1 hv
  have hl := delR_len h3 hm
  exact ⟨addB_iff.2 ⟨del_valid hv, h2 r hm, .inr (by omega)⟩, insR_back h3 hm, hl⟩
theorem keyB_iff {p b : Int} : keyB p b rs = true ↔ ∃ x ∈ rs, x.a = p ∧ x.b = b := by
  unfold keyB
  rw [List.any_eq_true]
  simp only [Bool.and_eq_true, decide_eq_true_eq]
theorem trnB_iff {h node : Int} : trnB rs hs h node = true ↔ tbB rs hs = true ∧ (0 ≤ h ∧ h < (hs.length : Int)) ∧ 0 ≤ node ∧ node ≤ 7 := by
  unfold trnB inB
  simp only [Bool.and_eq_true, decide_eq_true_eq]
  constructor
  · rintro ⟨⟨h1, h2⟩, h3⟩
    exact ⟨h1, by omega, h3⟩
  · rintro ⟨h1, h2, h3⟩
    exact ⟨⟨h1, by omega⟩, h3⟩
theorem set_valid {h : Nat} {node : Int} (hv : tbB rs hs = true) (hn : 0 ≤ node ∧ node ≤ 7) : tbB rs (hs.set h node) = true := by
  obtain ⟨h1, h2, h3, h4, h5⟩ := tbB_iff.1 hv
  refine tbB_iff.2 ⟨fun z hz => ?_, by rw [List.length_set]; exact h2, h3, h4, by rw [List.length_set]; exact h5⟩
  rcases List.mem_or_eq_of_mem_set hz with hz | rfl
  · exact h1 z hz
  · exact hn
/-- P133. -/
theorem back_law {h : Nat} {node : Int} (hv : tbB rs hs = true) (hh : h < hs.length) (hn : 0 ≤ node ∧ node ≤ 7) :
    trnB rs (hs.set h node) (h : Int) (hs.getD h 0) = true ∧ (hs.set h node).set h (hs.getD h 0) = hs := by
  have hg : hs.getD h 0 = hs[h] := by rw [List.getD_eq_getElem?_getD, List.getElem?_eq_getElem hh]; rfl
  refine ⟨trnB_iff.2 ⟨set_valid hv hn, by rw [List.length_set]; omega, ?_⟩, ?_⟩
  · rw [hg]
    exact (tbB_iff.1 hv).1 _ (List.getElem_mem hh)
  · rw [List.set_set, hg, List.set_getElem_self]
end
end Go.Proofs.Ytohflcbpjjnccab
