/-
  Plain facts: routes and tables: order, validity, adding, removing.
-/
import Derived.Test.YtohflcbpjjnccabA1
namespace Go.Proofs.Ytohflcbpjjnccab

/-- The size of the block of addresses of so many bits. -/
def lowN (b : Nat) : Int := (2 : Int) ^ (8 - b)
def lowB (b : Int) : Int := lowN b.toNat
/-- Routes in order: by prefix, then by bits. -/
def rtLt (x y : Lk) : Bool := decide (x.a < y.a) || decide (x.a = y.a) && decide (x.b < y.b)
/-- A route that is valid for so many next hops. -/
def rtB (h : Int) (x : Lk) : Bool := inB x.b 0 8 && inB x.a 0 255 && decide (x.a % lowB x.b = 0) && inB x.c 0 (h - 1)
def ascR : List Lk → Bool
  | x :: y :: r => rtLt x y && ascR (y :: r)
  | _ => true
def tbB (rs : List Lk) (hs : List Int) : Bool := hs.all (fun z => inB z 0 7) && rs.all (rtB hs.length) && ascR rs && decide (rs.length ≤ 10) && decide (hs.length ≤ 4)
def sameR (x y : Lk) : Bool := decide (x.a = y.a) && decide (x.b = y.b)
/-- A route put in its place, or in that of the one with its prefix and bits. -/
def insR (r : Lk) : List Lk → List Lk
  | [] => [r]
  | x :: xs => if rtLt x r then x :: insR r xs else if rtLt r x then r :: x :: xs else r :: xs
def hasR (r : Lk) (rs : List Lk) : Bool := rs.any (sameR r)
def delR (a b : Int) (rs : List Lk) : List Lk := rs.filter (fun x => !(decide (x.a = a) && decide (x.b = b)))

section
variable {x y z r : Lk} {rs : List Lk}
theorem rtLt_iff : rtLt x y = true ↔ x.a < y.a ∨ x.a = y.a ∧ x.b < y.b := by
  unfold rtLt
  simp only [Bool.or_eq_true, Bool.and_eq_true, decide_eq_true_eq]
theorem rtLt_no : rtLt x y = false ↔ ¬ (x.a < y.a ∨ x.a = y.a ∧ x.b < y.b) := by
  rw [← rtLt_iff]
  cases rtLt x y <;> simp
theorem sameR_iff : sameR x y = true ↔ x.a = y.a ∧ x.b = y.b := by
  unfold sameR
  simp only [Bool.and_eq_true, decide_eq_true_eq]
theorem rtLt_trans (h1 : rtLt x y = true) (h2 : rtLt y z = true) : rtLt x z = true := by
  rw [rtLt_iff] at *
  omega
theorem rtLt_same (h1 : rtLt x y = false) (h2 : rtLt y x = false) : sameR x y = true := by
  rw [rtLt_no] at *
  rw [sameR_iff]
  omega
/-- Strictly ascending, as a relation. -/
abbrev Asc (rs : List Lk) : Prop := rs.Pairwise (fun x y => rtLt x y = true)
theorem ascR_iff : ∀ {rs : List Lk}, ascR rs = true ↔ Asc rs
  | [] => by simp [ascR, Asc]
  | [_] => by simp [ascR, Asc]
  | x :: y :: r => by
    rw [ascR, Bool.and_eq_true, ascR_iff]
    unfold Asc
    constructor
    · rintro ⟨h1, h2⟩
      refine List.pairwise_cons.2 ⟨fun z hz => ?_, h2⟩
      rcases List.mem_cons.1 hz with rfl | hz
      · exact h1
      · exact rtLt_trans h1 ((List.pairwise_cons.1 h2).1 z hz)
    · intro h
      obtain ⟨h1, h2⟩ := List.pairwise_cons.1 h
      exact ⟨h1 y (List.mem_cons_self ..), h2⟩
theorem rtB_iff {h : Int} : rtB h x = true ↔ (0 ≤ x.b ∧ x.b ≤ 8) ∧ (0 ≤ x.a ∧ x.a ≤ 255) ∧ x.a % lowB x.b = 0 ∧ 0 ≤ x.c ∧ x.c ≤ h - 1 := by
  unfold rtB inB
  simp only [Bool.and_eq_true, decide_eq_true_eq]
  omega
theorem tbB_iff {hs : List Int} : tbB rs hs = true ↔ (∀ z ∈ hs, 0 ≤ z ∧ z ≤ 7) ∧ (∀ x ∈ rs, rtB hs.length x = true) ∧ Asc rs ∧ rs.length ≤ 10 ∧ hs.length ≤ 4 := by
  unfold tbB inB
  simp only [Bool.and_eq_true, decide_eq_true_eq, List.all_eq_true, ascR_iff]
  constructor
  · rintro ⟨⟨⟨⟨h1, h2⟩, h3⟩, h4⟩, h5⟩
    exact ⟨h1, h2, h3, h4, h5⟩
  · rintro ⟨h1, h2, h3, h4, h5⟩
    exact ⟨⟨⟨⟨h1, h2⟩, h3⟩, h4⟩, h5⟩
theorem insR_mem : z ∈ insR r rs → z = r ∨ z ∈ rs := by
  induction rs with
  | nil => simp [insR]
  | cons x xs ih =>
    unfold insR
    split
    · intro h
      rcases List.mem_cons.1 h with rfl | h
      · exact .inr (List.mem_cons_self ..)
      · rcases ih h with h | h
        · exact .inl h
        · exact .inr (List.mem_cons_of_mem _ h)
    · split
      · intro h
        rcases List.mem_cons.1 h with h | h
        · exact .inl h
        · exact .inr h
      · intro h
        rcases List.mem_cons.1 h with h | h
        · exact .inl h
        · exact .inr (List.mem_cons_of_mem _ h)
theorem insR_self : r ∈ insR r rs := by
  induction rs with
  | nil => simp [insR]
  | cons x xs ih =>
    unfold insR
    split
    · exact List.mem_cons_of_mem _ ih
    · split <;> exact List.mem_cons_self ..
/-- P124: all others are kept. -/
theorem insR_keep (hz : z ∈ rs) (hne : sameR z r = false) : z ∈ insR r rs := by
  induction rs with
  | nil => simp at hz
  | cons x xs ih =>
    unfold insR
    split
    · rcases List.mem_cons.1 hz with rfl | hz
      · exact List.mem_cons_self ..
      · exact List.mem_cons_of_mem _ (ih hz)
    · rename_i h1
      split
      · exact List.mem_cons_of_mem _ hz
      · rename_i h2
        rcases List.mem_cons.1 hz with rfl | hz
        · rw [rtLt_same (by simpa using h1) (by simpa using h2)] at hne
          cases hne
        · exact List.mem_cons_of_mem _ hz
theorem insR_asc (h : Asc rs) : Asc (insR r rs) := by
  induction rs with
  | nil => simp [insR]
  | cons x xs ih =>
    obtain ⟨h1, h2⟩ := List.pairwise_cons.1 h
    unfold insR
    split
    · rename_i hx
      refine List.pairwise_cons.2 ⟨fun z hz => ?_, ih h2⟩
      rcases insR_mem hz with rfl | hz
      · exact hx
      · exact h1 z hz
    · rename_i hx
      split
      · rename_i hr
        refine List.pairwise_cons.2 ⟨fun z hz => ?_, h⟩
        rcases List.mem_cons.1 hz with rfl | hz
        · exact hr
        · exact rtLt_trans hr (h1 z hz)
      · rename_i hr
        refine List.pairwise_cons.2 ⟨fun z hz => ?_, h2⟩
        have h3 := h1 z hz
        simp only [Bool.not_eq_true] at hx hr
        rw [rtLt_no] at hx hr
        rw [rtLt_iff] at h3 ⊢
        omega
/-- Two ascending lists with the same members are one. -/
theorem rasc_ext {us vs : List Lk} (h1 : Asc us) (h2 : Asc vs) (h : ∀ z, z ∈ us ↔ z ∈ vs) : us = vs := by
  induction us generalizing vs with
  | nil =>
    cases vs with
    | nil => rfl
    | cons v r => exact absurd ((h v).2 (List.mem_cons_self ..)) (by simp)
  | cons u us ih =>
    cases vs with
    | nil => exact absurd ((h u).1 (List.mem_cons_self ..)) (by simp)
    | cons v vs =>
      obtain ⟨a1, a2⟩ := List.pairwise_cons.1 h1
      obtain ⟨b1, b2⟩ := List.pairwise_cons.1 h2
      have irr : ∀ z : Lk, rtLt z z = true → False := fun z hz => by rw [rtLt_iff] at hz; omega
      have huv : u = v := by
        rcases List.mem_cons.1 ((h u).1 (List.mem_cons_self ..)) with e | e
        · exact e
        · rcases List.mem_cons.1 ((h v).2 (List.mem_cons_self ..)) with e' | e'
          · exact e'.symm
          · exact (irr _ (rtLt_trans (a1 v e') (b1 u e))).elim
      subst huv
      refine congrArg (u :: ·) (ih a2 b2 fun z => ?_)
      constructor
      · intro hz
        rcases List.mem_cons.1 ((h z).1 (List.mem_cons_of_mem _ hz)) with rfl | e
        · exact (irr _ (a1 _ hz)).elim
        · exact e
      · intro hz
        rcases List.mem_cons.1 ((h z).2 (List.mem_cons_of_mem _ hz)) with rfl | e
        · exact (irr _ (b1 _ hz)).elim
        · exact e
theorem rasc_one (h : Asc rs) (hy : y ∈ rs) (hz : z ∈ rs) (he : sameR y z = true) : y = z := by
  rw [sameR_iff] at he
  induction rs with
  | nil => simp at hy
  | cons x xs ih =>
    obtain ⟨h1, h2⟩ := List.pairwise_cons.1 h
    rcases List.mem_cons.1 hy with rfl | hy' <;> rcases List.mem_cons.1 hz with rfl | hz'
    · rfl
    · have := h1 z hz'
      rw [rtLt_iff] at this
      omega
    · have := h1 y hy'
      rw [rtLt_iff] at this
      omega
    · exact ih h2 hy' hz'
/-- The members of a list into which a route was put. -/
theorem insR_iff (h : Asc rs) : z ∈ insR r rs ↔ z = r ∨ z ∈ rs ∧ sameR z r = false := by
  constructor
  · intro hz
    rcases insR_mem hz with e | hm
    · exact .inl e
    · cases hs : sameR z r with
      | false => exact .inr ⟨hm, rfl⟩
      | true => exact .inl (rasc_one (insR_asc h) hz insR_self hs)
  · rintro (rfl | ⟨hm, hne⟩)
    · exact insR_self
    · exact insR_keep hm hne
/-- P125. -/
theorem insR_twice (h : Asc rs) : insR r (insR r rs) = insR r rs := by
  refine rasc_ext (insR_asc (insR_asc h)) (insR_asc h) fun z => ?_
  rw [insR_iff (insR_asc h), insR_iff h]
  constructor
  · rintro (e | ⟨e | e, hn⟩)
    · exact .inl e
    · exact .inl e
    · exact .inr e
  · rintro (e | e)
    · exact .inl e
    · exact .inr ⟨.inr e, e.2⟩
/-- P127. -/
theorem insR_comm {u : Lk} (h : Asc rs) (hne : sameR u r = false) : insR u (insR r rs) = insR r (insR u rs) := by
  have hne' : sameR r u = false := by
    cases e : sameR r u with
    | false => rfl
    | true =>
      rw [sameR_iff] at e
      have : sameR u r = true := sameR_iff.2 ⟨e.1.symm, e.2.symm⟩
      rw [this] at hne
      cases hne
  refine rasc_ext (insR_asc (insR_asc h)) (insR_asc (insR_asc h)) fun z => ?_
  rw [insR_iff (insR_asc h), insR_iff h, insR_iff (insR_asc h), insR_iff h]
  constructor
  · rintro (rfl | ⟨rfl | ⟨hm, h1⟩, h2⟩)
    · exact .inr ⟨.inl rfl, hne⟩
    · exact .inl rfl
    · exact .inr ⟨.inr ⟨hm, h2⟩, h1⟩
  · rintro (rfl | ⟨rfl | ⟨hm, h1⟩, h2⟩)
    · exact .inr ⟨.inl rfl, hne'⟩
    · exact .inl rfl
    · exact .inr ⟨.inr ⟨hm, h2⟩, h1⟩
theorem insR_len : (insR r rs).length ≤ rs.length + 1 := by
  induction rs with
  | nil => simp [insR]
  | cons x xs ih =>
    unfold insR
    split
    · simp; omega
    · split <;> simp
theorem hasR_iff : hasR r rs = true ↔ ∃ z ∈ rs, sameR r z = true := by
  unfold hasR
  rw [List.any_eq_true]
theorem insR_lenY (h : Asc rs) (hh : hasR r rs = true) : (insR r rs).length = rs.length := by
  induction rs with
  | nil => simp [hasR] at hh
  | cons x xs ih =>
    obtain ⟨h1, h2⟩ := List.pairwise_cons.1 h
    unfold insR
    split
    · rename_i hx
      rw [List.length_cons, List.length_cons, ih h2]
      obtain ⟨z, hz, hs⟩ := hasR_iff.1 hh
      rcases List.mem_cons.1 hz with rfl | hz
      · rw [sameR_iff] at hs
        rw [rtLt_iff] at hx
        omega
      · exact hasR_iff.2 ⟨z, hz, hs⟩
    · split
      · rename_i hr
        obtain ⟨z, hz, hs⟩ := hasR_iff.1 hh
        rw [sameR_iff] at hs
        rw [rtLt_iff] at hr
        rcases List.mem_cons.1 hz with rfl | hz
        · omega
        · have h3 := h1 z hz
          rw [rtLt_iff] at h3
          omega
      · simp
theorem insR_lenN (hh : hasR r rs = false) : (insR r rs).length = rs.length + 1 := by
  induction rs with
  | nil => simp [insR]
  | cons x xs ih =>
    have h0 : sameR r x = false ∧ hasR r xs = false := by
      unfold hasR at hh ⊢
      rw [List.any_cons, Bool.or_eq_false_iff] at hh
      exact hh
    unfold insR
    split
    · rw [List.length_cons, List.length_cons, ih h0.2]
    · rename_i hx
      split
      · simp
      · rename_i hr
        rw [rtLt_same (by simpa using hr) (by simpa using hx)] at h0
        cases h0.1
theorem delR_mem {a b : Int} : z ∈ delR a b rs ↔ z ∈ rs ∧ ¬ (z.a = a ∧ z.b = b) := by
  unfold delR
  rw [List.mem_filter]
  refine and_congr_right fun _ => ?_
  cases h1 : decide (z.a = a) <;> cases h2 : decide (z.b = b) <;> simp at h1 h2 <;> simp [h1, h2]
theorem delR_asc {a b : Int} (h : Asc rs) : Asc (delR a b rs) := h.sublist (List.filter_sublist ..)
/-- P128: put back where it was. -/
theorem insR_back (h : Asc rs) (hr : r ∈ rs) : insR r (delR r.a r.b rs) = rs := by
  refine rasc_ext (insR_asc (delR_asc h)) h fun z => ?_
  rw [insR_iff (delR_asc h), delR_mem]
  constructor
  · rintro (rfl | ⟨⟨hm, _⟩, _⟩)
    · exact hr
    · exact hm
  · intro hz
    by_cases he : z.a = r.a ∧ z.b = r.b
    · exact .inl (rasc_one h hz hr (sameR_iff.2 he))
    · refine .inr ⟨⟨hz, he⟩, ?_⟩
      cases hs : sameR z r with
      | false => rfl
      | true => exact absurd (sameR_iff.1 hs) he
theorem delR_len (h : Asc rs) (hr : r ∈ rs) : (delR r.a r.b rs).length + 1 = rs.length := by
  have hn : hasR r (delR r.a r.b rs) = false := by
    cases hh : hasR r (delR r.a r.b rs) with
    | false => rfl
    | true =>
      obtain ⟨z, hz, hs⟩ := hasR_iff.1 hh
      rw [sameR_iff] at hs
      exact absurd ⟨hs.1.symm, hs.2.symm⟩ (delR_mem.1 hz).2
  have := insR_lenN hn
  rw [insR_back h hr] at this
  omega
end
end Go.Proofs.Ytohflcbpjjnccab
