/-
  Plain facts: the announcements of all nodes describe the graph; without one its links are gone.
-/
import Derived.Test.YtnkohgdfipgdoabAg
namespace Go.Proofs.Ytnkohgdfipgdoab

section
variable {db : List La}
/-- Rows of links in order that have the same ones are the same. -/
theorem links_ext : ∀ {a b : List Lk}, a.Pairwise (fun x y => beforeB x y = true) → b.Pairwise (fun x y => beforeB x y = true) → (∀ x, x ∈ a ↔ x ∈ b) → a = b
  | [], [], _, _, _ => rfl
  | [], y :: b, _, _, h => absurd ((h y).2 (List.mem_cons_self ..)) (by simp)
  | x :: a, [], _, _, h => absurd ((h x).1 (List.mem_cons_self ..)) (by simp)
  | x :: a, y :: b, ha, hb, h => by
    rw [List.pairwise_cons] at ha hb
    have irr : ∀ z : Lk, ¬ beforeB z z = true := fun z hz => by
      unfold beforeB at hz
      simp at hz
    have hxy : x = y := by
      rcases List.mem_cons.1 ((h x).1 (List.mem_cons_self ..)) with e | h1
      · exact e
      · rcases List.mem_cons.1 ((h y).2 (List.mem_cons_self ..)) with e | h2
        · exact e.symm
        · exact absurd (before_trans (hb.1 x h1) (ha.1 y h2)) (irr y)
    subst hxy
    congr 1
    refine links_ext ha.2 hb.2 fun z => ?_
    have hz := h z
    rw [List.mem_cons, List.mem_cons] at hz
    constructor
    · intro h1
      rcases hz.1 (.inr h1) with e | h2
      · subst e; exact absurd (ha.1 z h1) (irr z)
      · exact h2
    · intro h1
      rcases hz.2 (.inr h1) with e | h2
      · subst e; exact absurd (hb.1 z h1) (irr z)
      · exact h2
/-- The announcements of the first k nodes. -/
def allT (nn : Int) (ls : List Lk) (q : Int) : Nat → List La
  | 0 => []
  | k + 1 => allT nn ls q k ++ [ofL nn ls (k : Int) q]
theorem allT_mem {nn : Int} {ls : List Lk} {q : Int} {k : Nat} {l : La} : l ∈ allT nn ls q k ↔ ∃ j : Nat, j < k ∧ l = ofL nn ls (j : Int) q := by
  induction k with
  | zero => simp [allT]
  | succ k ih =>
    unfold allT
    rw [List.mem_append, ih]
    constructor
    · rintro (⟨j, h1, h2⟩ | h)
      · exact ⟨j, by omega, h2⟩
      · exact ⟨k, by omega, by simpa using h⟩
    · rintro ⟨j, h1, h2⟩
      by_cases hj : j < k
      · exact .inl ⟨j, hj, h2⟩
      · obtain rfl : j = k := by omega
        exact .inr (by rw [h2]; exact List.mem_cons_self ..)
theorem allT_srt (nn : Int) (ls : List Lk) (q : Int) (k : Nat) : Srt (allT nn ls q k) := by
  induction k with
  | zero => exact .nil
  | succ k ih =>
    unfold allT Srt
    rw [List.pairwise_append]
    refine ⟨ih, by simp, fun a ha b hb => ?_⟩
    obtain ⟨j, h1, rfl⟩ := allT_mem.1 ha
    have : b = ofL nn ls (k : Int) q := by simpa using hb
    subst this
    show (j : Int) < (k : Int)
    omega
theorem tw_all {α : Type} {p : α → Bool} : ∀ {xs : List α}, (∀ x ∈ xs, p x = true) → xs.takeWhile p = xs
  | [], _ => rfl
  | x :: xs, h => by
    rw [List.takeWhile_cons, h x (List.mem_cons_self ..), if_pos rfl, tw_all (fun y hy => h y (List.mem_cons_of_mem _ hy))]
/-- An announcement of a greater origin stands at the end. -/
theorem putL_end {l : La} (h : ∀ x ∈ db, x.o < l.o) : putL db l = db ++ [l] := by
  have hg : getL db l.o = none := getL_none.2 fun x hx => by have := h x hx; omega
  unfold putL
  rw [hg]
  unfold insL
  have e1 : db.takeWhile (fun x => decide (x.o < l.o)) = db := by
    exact tw_all fun x hx => decide_eq_true (h x hx)
  have e2 : db.filter (fun x => decide (l.o < x.o)) = [] := List.filter_eq_nil_iff.2 (fun x hx => by have := h x hx; simp; omega)
  rw [e1, e2]
theorem allT_put (nn : Int) (ls : List Lk) (q : Int) (k : Nat) : putL (allT nn ls q k) (ofL nn ls (k : Int) q) = allT nn ls q (k + 1) := by
  rw [putL_end]
  · rfl
  · intro x hx
    obtain ⟨j, h1, rfl⟩ := allT_mem.1 hx
    show (j : Int) < (k : Int)
    omega
/-- P79. -/
theorem graph_all {n : Nat} {ls : List Lk} (hg : gvB (n : Int) ls = true) {q : Int} (hq : 1 ≤ q ∧ q ≤ 99) : graphL (allT (n : Int) ls q n) n = ls := by
  have hv : ∀ x ∈ allT (n : Int) ls q n, laB x = true := fun x hx => by
    obtain ⟨j, hj, rfl⟩ := allT_mem.1 hx
    exact ofL_valid hg ⟨by omega, by omega⟩ hq
  have hs := allT_srt (n : Int) ls q n
  have hc : ∀ a b : Nat, a < n → b < n → (0 < costL (allT (n : Int) ls q n) a b ↔ 0 ≤ linkI (n : Int) ls a b) ∧ (0 ≤ linkI (n : Int) ls a b → costL (allT (n : Int) ls q n) a b = lcost (n : Int) ls a b) := by
    intro a b ha hb
    have hma : ofL (n : Int) ls (a : Int) q ∈ allT (n : Int) ls q n := allT_mem.2 ⟨a, ha, rfl⟩
    have key : 0 ≤ linkI (n : Int) ls a b → costL (allT (n : Int) ls q n) a b = lcost (n : Int) ls a b ∧ 0 < lcost (n : Int) ls a b := fun h0 =>
      costL_mem hs hv hma (e := ⟨(b : Int), lcost (n : Int) ls a b⟩) (ofT_mem.2 ⟨b, by rw [Int.toNat_natCast]; exact hb, h0, rfl⟩)
    refine ⟨⟨fun h => ?_, fun h => ?_⟩, fun h => (key h).1⟩
    · obtain ⟨l, hl, ho, e, he, hk, _⟩ := costL_pos h
      obtain ⟨j, hj, rfl⟩ := allT_mem.1 hl
      obtain ⟨i, hi, h0, rfl⟩ := ofT_mem.1 he
      dsimp only at hk
      obtain rfl : i = b := by omega
      have : (j : Int) = (a : Int) := ho
      rwa [this] at h0
    · rw [(key h).1]
      exact (key h).2
  refine links_ext (topG_pair _ _) (gvB_iff.1 hg).2.2.2 fun l => ?_
  show l ∈ graphL _ _ ↔ l ∈ ls
  rw [graphL_mem]
  constructor
  · rintro ⟨a, b, hab, hb, h1, h2, rfl⟩
    have h0 := (hc a b (by omega) hb).1.1 h1
    have h0' := (hc b a hb (by omega)).1.1 h2
    rw [(hc a b (by omega) hb).2 h0, (hc b a hb (by omega)).2 h0']
    obtain ⟨k, l, e1, hl, ea, eb⟩ := linkI_at h0
    have ha : Adj ls (a : Int) (b : Int) l.c := ⟨l, List.mem_of_getElem? hl, .inl ⟨by omega, by omega⟩, rfl⟩
    have hb2 : Adj ls (b : Int) (a : Int) l.c := ⟨l, List.mem_of_getElem? hl, .inr ⟨by omega, by omega⟩, rfl⟩
    rw [lcost_eq hg ha, lcost_eq hg hb2]
    have : (⟨(a : Int), (b : Int), max l.c l.c⟩ : Lk) = l := by
      obtain ⟨la, lb, lc⟩ := l
      dsimp only at ea eb ⊢
      rw [show (a : Int) = la by omega, show (b : Int) = lb by omega, show max lc lc = lc by omega]
    rw [this]
    exact List.mem_of_getElem? hl
  · intro hl
    obtain ⟨j, hj⟩ := List.getElem?_of_mem hl
    have hb := gvB_at hg hj
    obtain ⟨a, ea⟩ : ∃ a : Nat, l.a = (a : Int) := ⟨l.a.toNat, by omega⟩
    obtain ⟨b, eb⟩ : ∃ b : Nat, l.b = (b : Int) := ⟨l.b.toNat, by omega⟩
    have h0 := linkI_mem hg hl
    rw [ea, eb] at h0
    have h0' := h0
    rw [← linkI_swap] at h0'
    have hab : Adj ls (a : Int) (b : Int) l.c := ⟨l, hl, .inl ⟨ea, eb⟩, rfl⟩
    have hba : Adj ls (b : Int) (a : Int) l.c := ⟨l, hl, .inr ⟨eb, ea⟩, rfl⟩
    have h1 := hc a b (by omega) (by omega)
    have h2 := hc b a (by omega) (by omega)
    refine ⟨a, b, by omega, by omega, h1.1.2 h0, h2.1.2 h0', ?_⟩
    rw [h1.2 h0, h2.2 h0', lcost_eq hg hab, lcost_eq hg hba]
    obtain ⟨la, lb, lc⟩ := l
    dsimp only at ea eb ⊢
    rw [ea, eb, show max lc lc = lc by omega]
/-- P80. -/
theorem graph_less (hs : Srt db) {k : Nat} {l : La} (hk : db[k]? = some l) (m : Nat) : ∀ x ∈ graphL (db.take k ++ db.drop (k + 1)) m, touchB x l.o = false := by
  have hno : ∀ y ∈ db.take k ++ db.drop (k + 1), y.o ≠ l.o := by
    intro y hy
    obtain ⟨hkl, hke⟩ := List.getElem?_eq_some_iff.1 hk
    rcases List.mem_append.1 hy with h | h
    · obtain ⟨i, hi⟩ := List.getElem?_of_mem h
      have hik : i < k := by
        have := (List.getElem?_eq_some_iff.1 hi).1
        simp at this
        omega
      rw [List.getElem?_take_of_lt hik] at hi
      obtain ⟨hil, hie⟩ := List.getElem?_eq_some_iff.1 hi
      have := List.pairwise_iff_getElem.1 hs i k hil hkl hik
      rw [hie, hke] at this
      omega
    · obtain ⟨i, hi⟩ := List.getElem?_of_mem h
      rw [List.getElem?_drop] at hi
      obtain ⟨hil, hie⟩ := List.getElem?_eq_some_iff.1 hi
      have := List.pairwise_iff_getElem.1 hs k (k + 1 + i) hkl hil (by omega)
      rw [hie, hke] at this
      omega
  have h0 : ∀ n, costL (db.take k ++ db.drop (k + 1)) l.o n = 0 := fun n => by
    unfold costL
    rw [getL_none.2 hno]
  intro x hx
  obtain ⟨a, b, _, _, h1, h2, rfl⟩ := graphL_mem.1 hx
  unfold touchB
  simp only [Bool.or_eq_false_iff, decide_eq_false_iff_not]
  refine ⟨fun e => ?_, fun e => ?_⟩
  · rw [e, h0] at h1; omega
  · rw [e, h0] at h2; omega
end

end Go.Proofs.Ytnkohgdfipgdoab
