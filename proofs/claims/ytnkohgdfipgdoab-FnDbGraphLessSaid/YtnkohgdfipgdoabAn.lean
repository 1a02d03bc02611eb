/-
  Plain facts: announcements: when they are valid, how they are stored, merged and compared.
-/
import Derived.Test.YtnkohgdfipgdoabC1
namespace Go.Proofs.Ytnkohgdfipgdoab

/-- An announcement: its origin, its sequence number, its neighbours (node and cost, as a label's two numbers). -/
structure La where
  o : Int
  q : Int
  es : List Lb
/-- Is the i-th neighbour one that may stand there? -/
def endB (o : Int) (es : List Lb) (i : Nat) : Bool := match es[i]? with
  | none => true
  | some e => inB e.k 0 7 && !decide (e.k = o) && inB e.a 1 20 && (decide (i = 0) || match es[i - 1]? with
    | none => true
    | some d => decide (d.k < e.k))
def laB (l : La) : Bool := (List.range l.es.length).all (endB l.o l.es) && inB l.o 0 7 && inB l.q 1 99
def Srt (db : List La) : Prop := db.Pairwise (fun a b => a.o < b.o)
/-- Is the i-th announcement one that may stand there? -/
def dbAt (db : List La) (i : Nat) : Bool := match db[i]? with
  | none => true
  | some l => laB l && (decide (i = 0) || match db[i - 1]? with
    | none => true
    | some d => decide (d.o < l.o))
def dbB (db : List La) : Bool := (List.range db.length).all (dbAt db)
def getL (db : List La) (o : Int) : Option La := db.find? (fun l => decide (l.o = o))
def insL (db : List La) (l : La) : List La := db.takeWhile (fun x => decide (x.o < l.o)) ++ l :: db.filter (fun x => decide (l.o < x.o))
def putL (db : List La) (l : La) : List La := match getL db l.o with
  | some x => if l.q ≤ x.q then db else insL db l
  | none => insL db l
def putC (db : List La) (l : La) : Int := match getL db l.o with
  | some x => if x.q = l.q then 1 else if l.q < x.q then 2 else 0
  | none => 0
def seqL (db : List La) (o : Int) : Int := match getL db o with
  | some x => x.q
  | none => 0
def mergeL (db other : List La) : List La := other.foldl putL db
def missB (db : List La) (l : La) : Bool := match getL db l.o with
  | some x => decide (x.q < l.q)
  | none => true
def missL (db other : List La) : List Int := (other.filter (missB db)).map La.o
/-- The better of what is stored and what comes. -/
def best (x : Option La) (l : La) : La := match x with
  | some x => if l.q ≤ x.q then x else l
  | none => l

section
variable {db : List La} {l : La}
theorem pair_chain {α : Type} {r : α → α → Prop} (tr : ∀ a b c, r a b → r b c → r a c) {xs : List α} (h : ∀ (i : Nat) (a b : α), xs[i]? = some a → xs[i + 1]? = some b → r a b) : xs.Pairwise r := by
  induction xs with
  | nil => exact .nil
  | cons x xs ih =>
    have hx := ih (fun i a b ha hb => h (i + 1) a b (by simpa using ha) (by simpa using hb))
    refine .cons (fun y hy => ?_) hx
    obtain ⟨k, hk⟩ := List.getElem?_of_mem hy
    clear hy ih hx
    induction k generalizing y with
    | zero => exact h 0 x y rfl hk
    | succ k ihk =>
      have hlt := (List.getElem?_eq_some_iff.1 hk).1
      have hk' : xs[k]? = some xs[k] := List.getElem?_eq_getElem (by omega)
      exact tr _ _ _ (ihk _ hk') (h (k + 1) _ y hk' hk)
theorem dbAt_laB {i : Nat} (h : dbAt db i = true) (hl : db[i]? = some l) : laB l = true := by
  unfold dbAt at h
  rw [hl] at h
  simp only [Bool.and_eq_true] at h
  exact h.1
theorem dbB_inv (h : dbB db = true) : (∀ l ∈ db, laB l = true) ∧ Srt db := by
  unfold dbB at h
  simp only [List.all_eq_true, List.mem_range] at h
  refine ⟨fun l hl => ?_, ?_⟩
  · obtain ⟨i, hi⟩ := List.getElem?_of_mem hl
    exact dbAt_laB (h i (List.getElem?_eq_some_iff.1 hi).1) hi
  · refine pair_chain (r := fun a b : La => a.o < b.o) (fun a b c h1 h2 => Int.lt_trans h1 h2) fun i a b ha hb => ?_
    have := h (i + 1) (List.getElem?_eq_some_iff.1 hb).1
    unfold dbAt at this
    rw [hb] at this
    simp only [Bool.and_eq_true, Bool.or_eq_true, decide_eq_true_eq, Nat.add_sub_cancel, ha] at this
    rcases this.2 with h1 | h1
    · omega
    · exact h1
theorem dbB_of (h1 : ∀ l ∈ db, laB l = true) (h2 : Srt db) : dbB db = true := by
  unfold dbB
  simp only [List.all_eq_true, List.mem_range]
  intro i hi
  unfold dbAt
  rw [List.getElem?_eq_getElem hi]
  simp only [Bool.and_eq_true, Bool.or_eq_true, decide_eq_true_eq]
  refine ⟨h1 _ (List.getElem_mem _), ?_⟩
  by_cases h0 : i = 0
  · exact .inl h0
  · right
    rw [List.getElem?_eq_getElem (show i - 1 < db.length by omega)]
    dsimp only
    rw [decide_eq_true_eq]
    exact List.pairwise_iff_getElem.1 h2 (i - 1) i (by omega) hi (by omega)
theorem laB_rng (h : laB l = true) : (0 ≤ l.o ∧ l.o ≤ 7) ∧ 1 ≤ l.q ∧ l.q ≤ 99 := by
  unfold laB inB at h
  simp at h
  omega
theorem getL_some {o : Int} {x : La} (h : getL db o = some x) : x ∈ db ∧ x.o = o := by
  unfold getL at h
  exact ⟨List.mem_of_find?_eq_some h, by simpa using List.find?_some h⟩
theorem getL_mem (hs : Srt db) {x : La} (h : x ∈ db) : getL db x.o = some x := by
  induction db with
  | nil => cases h
  | cons a r ih =>
    unfold Srt at hs
    rw [List.pairwise_cons] at hs
    unfold getL
    rw [List.find?_cons]
    rcases List.mem_cons.1 h with rfl | h
    · simp
    · have hlt := hs.1 x h
      have hne : decide (a.o = x.o) = false := by simp; omega
      rw [hne]
      exact ih hs.2 h
theorem getL_iff (hs : Srt db) {o : Int} {x : La} : getL db o = some x ↔ x ∈ db ∧ x.o = o := by
  constructor
  · exact getL_some
  · rintro ⟨h, rfl⟩
    exact getL_mem hs h
theorem getL_none {o : Int} : getL db o = none ↔ ∀ x ∈ db, x.o ≠ o := by
  unfold getL
  rw [List.find?_eq_none]
  simp
/-- Two rows in order that answer alike are the same. -/
theorem srt_ext : ∀ {a b : List La}, Srt a → Srt b → (∀ o, getL a o = getL b o) → a = b
  | [], [], _, _, _ => rfl
  | [], y :: b, _, hb, h => by
    have := h y.o
    rw [getL_mem hb (List.mem_cons_self ..)] at this
    cases this
  | x :: a, [], ha, _, h => by
    have := h x.o
    rw [getL_mem ha (List.mem_cons_self ..)] at this
    cases this
  | x :: a, y :: b, ha, hb, h => by
    have ha' := ha
    have hb' := hb
    unfold Srt at ha hb
    rw [List.pairwise_cons] at ha hb
    have hxy : x.o = y.o := by
      have h1 := h x.o
      rw [getL_mem ha' (List.mem_cons_self ..)] at h1
      have h1 := (getL_some h1.symm).1
      have h2 := h y.o
      rw [getL_mem hb' (List.mem_cons_self ..)] at h2
      have h2 := (getL_some h2).1
      rcases List.mem_cons.1 h1 with e | h1
      · rw [e]
      · rcases List.mem_cons.1 h2 with e | h2
        · rw [e]
        · have := hb.1 x h1
          have := ha.1 y h2
          omega
    have hx : x = y := by
      have h1 := h x.o
      rw [getL_mem ha' (List.mem_cons_self ..), hxy, getL_mem hb' (List.mem_cons_self ..)] at h1
      exact Option.some.inj h1
    subst hx
    congr 1
    refine srt_ext ha.2 hb.2 fun o => ?_
    by_cases ho : x.o = o
    · have e1 : getL a o = none := getL_none.2 fun z hz => by have := ha.1 z hz; omega
      have e2 : getL b o = none := getL_none.2 fun z hz => by have := hb.1 z hz; omega
      rw [e1, e2]
    · have := h o
      unfold getL at this ⊢
      rw [List.find?_cons, List.find?_cons] at this
      rwa [decide_eq_false ho] at this
theorem tw_mem {x : La} (hs : Srt db) : x ∈ db.takeWhile (fun x => decide (x.o < l.o)) ↔ x ∈ db ∧ x.o < l.o := by
  induction db with
  | nil => simp
  | cons a r ih =>
    unfold Srt at hs
    rw [List.pairwise_cons] at hs
    rw [List.takeWhile_cons]
    by_cases ha : a.o < l.o
    · rw [decide_eq_true ha]
      simp only [if_true, List.mem_cons]
      rw [ih hs.2]
      constructor
      · rintro (rfl | h)
        · exact ⟨.inl rfl, ha⟩
        · exact ⟨.inr h.1, h.2⟩
      · rintro ⟨h | h, h2⟩
        · exact .inl h
        · exact .inr ⟨h, h2⟩
    · rw [decide_eq_false ha]
      simp only [Bool.false_eq_true, if_false, List.not_mem_nil, List.mem_cons, false_iff]
      rintro ⟨h | h, h2⟩
      · subst h; omega
      · have := hs.1 x h; omega
theorem insL_mem (hs : Srt db) {x : La} : x ∈ insL db l ↔ x = l ∨ (x ∈ db ∧ x.o ≠ l.o) := by
  unfold insL
  simp only [List.mem_append, List.mem_cons, List.mem_filter, decide_eq_true_eq]
  rw [tw_mem hs]
  constructor
  · rintro (⟨h1, h2⟩ | h | ⟨h1, h2⟩)
    · exact .inr ⟨h1, by omega⟩
    · exact .inl h
    · exact .inr ⟨h1, by omega⟩
  · rintro (h | ⟨h1, h2⟩)
    · exact .inr (.inl h)
    · by_cases h3 : x.o < l.o
      · exact .inl ⟨h1, h3⟩
      · exact .inr (.inr ⟨h1, by omega⟩)
theorem insL_srt (hs : Srt db) : Srt (insL db l) := by
  unfold insL Srt
  rw [List.pairwise_append]
  refine ⟨hs.sublist (List.takeWhile_sublist _), ?_, ?_⟩
  · rw [List.pairwise_cons]
    refine ⟨fun x hx => ?_, hs.sublist List.filter_sublist⟩
    simp only [List.mem_filter, decide_eq_true_eq] at hx
    exact hx.2
  · intro a ha b hb
    have h1 := ((tw_mem hs).1 ha).2
    rcases List.mem_cons.1 hb with rfl | hb
    · exact h1
    · simp only [List.mem_filter, decide_eq_true_eq] at hb
      omega
theorem putL_srt (hs : Srt db) : Srt (putL db l) := by
  unfold putL
  split
  · split
    · exact hs
    · exact insL_srt hs
  · exact insL_srt hs
theorem putL_val (hs : Srt db) (hv : ∀ x ∈ db, laB x = true) (hl : laB l = true) : ∀ x ∈ putL db l, laB x = true := by
  have hi : ∀ x ∈ insL db l, laB x = true := fun x hx => by
    rcases (insL_mem hs).1 hx with rfl | h
    · exact hl
    · exact hv x h.1
  unfold putL
  split
  · split
    · exact hv
    · exact hi
  · exact hi
theorem insL_get (hs : Srt db) (o : Int) : getL (insL db l) o = if o = l.o then some l else getL db o := by
  have hs2 := insL_srt (l := l) hs
  by_cases ho : o = l.o
  · rw [if_pos ho, ho]
    exact (getL_iff hs2).2 ⟨(insL_mem hs).2 (.inl rfl), rfl⟩
  · rw [if_neg ho]
    cases hg : getL db o with
    | none =>
      rw [getL_none] at hg ⊢
      intro x hx
      rcases (insL_mem hs).1 hx with rfl | h
      · exact fun e => ho e.symm
      · exact hg x h.1
    | some y =>
      obtain ⟨hy, rfl⟩ := getL_some hg
      exact (getL_iff hs2).2 ⟨(insL_mem hs).2 (.inr ⟨hy, ho⟩), rfl⟩
theorem putL_get (hs : Srt db) (o : Int) : getL (putL db l) o = if o = l.o then some (best (getL db l.o) l) else getL db o := by
  unfold putL best
  cases hg : getL db l.o with
  | none => dsimp only; rw [insL_get hs]
  | some x =>
    dsimp only
    by_cases hq : l.q ≤ x.q
    · rw [if_pos hq, if_pos hq]
      split
      · rename_i ho; rw [ho, hg]
      · rfl
    · rw [if_neg hq, if_neg hq, insL_get hs]
theorem best_o {x : Option La} (h : ∀ y, x = some y → y.o = l.o) : (best x l).o = l.o := by
  unfold best
  split
  · split
    · exact h _ rfl
    · rfl
  · rfl
theorem best_ge (x : Option La) (l : La) : l.q ≤ (best x l).q := by
  unfold best
  split
  · split
    · assumption
    · exact Int.le_refl _
  · exact Int.le_refl _
theorem best_max (x l : La) : (best (some x) l).q = max x.q l.q := by
  unfold best
  dsimp only
  split <;> omega
theorem best_comm {x : Option La} {l u : La} (h : l.q ≠ u.q) : best (some (best x l)) u = best (some (best x u)) l := by
  unfold best
  cases x with
  | none => dsimp only; repeat' split
            all_goals first | rfl | omega
  | some y => dsimp only; repeat' split
              all_goals first | rfl | omega
/-- P73: the order of two announcements does not matter. -/
theorem putL_comm (hs : Srt db) {u : La} (h : ¬ (u.o = l.o ∧ u.q = l.q)) : putL (putL db l) u = putL (putL db u) l := by
  refine srt_ext (putL_srt (putL_srt hs)) (putL_srt (putL_srt hs)) fun o => ?_
  rw [putL_get (putL_srt hs), putL_get (putL_srt hs), putL_get hs, putL_get hs, putL_get hs, putL_get hs]
  by_cases hul : u.o = l.o
  · have hq : l.q ≠ u.q := fun e => h ⟨hul, e.symm⟩
    by_cases ho : o = u.o
    · rw [ho, hul]
      simp only [if_true]
      rw [best_comm hq]
    · rw [if_neg ho, if_neg (by omega), if_neg (by omega), if_neg ho]
  · by_cases ho : o = u.o
    · rw [if_pos ho, if_neg hul, if_neg (by omega), if_pos ho]
    · rw [if_neg ho]
      by_cases ho2 : o = l.o
      · rw [if_pos ho2, if_pos ho2, if_neg (fun e => hul e.symm)]
      · rw [if_neg ho2, if_neg ho2, if_neg ho]
theorem putL_keep {x : La} (hg : getL db l.o = some x) (hq : l.q ≤ x.q) : putL db l = db := by
  unfold putL
  rw [hg]
  dsimp only
  rw [if_pos hq]
theorem putC_keep {x : La} (hg : getL db l.o = some x) (hq : l.q ≤ x.q) : putC db l ≠ 0 := by
  unfold putC
  rw [hg]
  dsimp only
  split
  · omega
  · split
    · omega
    · omega
/-- P72: an announcement is stored once. -/
theorem putL_again (hs : Srt db) : putL (putL db l) l = putL db l ∧ putC (putL db l) l ≠ 0 := by
  have hg := putL_get (l := l) hs l.o
  rw [if_pos rfl] at hg
  exact ⟨putL_keep hg (best_ge _ _), putC_keep hg (best_ge _ _)⟩
theorem putC_codes (hl : laB l = true) : putC db l = if seqL db l.o = l.q then 1 else if l.q < seqL db l.o then 2 else 0 := by
  unfold putC seqL
  have := (laB_rng hl).2.1
  cases getL db l.o with
  | none => dsimp only; rw [if_neg (by omega), if_neg (by omega)]
  | some x => rfl
theorem putL_same (h : putC db l ≠ 0) : putL db l = db := by
  unfold putC at h
  unfold putL
  cases hg : getL db l.o with
  | none => rw [hg] at h; exact absurd rfl h
  | some x =>
    rw [hg] at h
    dsimp only at h ⊢
    rw [if_pos]
    by_cases h1 : x.q = l.q
    · omega
    · rw [if_neg h1] at h
      by_cases h2 : l.q < x.q
      · omega
      · rw [if_neg h2] at h; exact absurd rfl h
end

end Go.Proofs.Ytnkohgdfipgdoab
