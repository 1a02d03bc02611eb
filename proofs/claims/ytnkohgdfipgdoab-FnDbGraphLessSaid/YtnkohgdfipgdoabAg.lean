/-
  Plain facts: the announcement of a node, and the graph of announcements.
-/
import Derived.Test.YtnkohgdfipgdoabAm
import Derived.Test.YtnkohgdfipgdoabB7
import Derived.Test.YtnkohgdfipgdoabA8
namespace Go.Proofs.Ytnkohgdfipgdoab

/-! ### When an announcement is valid -/
def EndsOk (o : Int) (es : List Lb) : Prop := (∀ e ∈ es, (0 ≤ e.k ∧ e.k ≤ 7) ∧ e.k ≠ o ∧ 1 ≤ e.a ∧ e.a ≤ 20) ∧ es.Pairwise (fun a b => a.k < b.k)
theorem endB_at {o : Int} {es : List Lb} {i : Nat} {e : Lb} (he : es[i]? = some e) : endB o es i = true ↔ ((0 ≤ e.k ∧ e.k ≤ 7) ∧ e.k ≠ o ∧ 1 ≤ e.a ∧ e.a ≤ 20) ∧ (∀ d, 0 < i → es[i - 1]? = some d → d.k < e.k) := by
  unfold endB inB
  rw [he]
  simp only [Bool.and_eq_true, Bool.or_eq_true, decide_eq_true_eq, Bool.not_eq_true', decide_eq_false_iff_not]
  constructor
  · rintro ⟨⟨⟨h1, h2⟩, h3⟩, h4⟩
    refine ⟨⟨h1, h2, h3.1, h3.2⟩, fun d hi hd => ?_⟩
    rcases h4 with h4 | h4
    · omega
    · rw [hd] at h4
      simpa using h4
  · rintro ⟨⟨h1, h2, h3, h4⟩, h5⟩
    refine ⟨⟨⟨h1, h2⟩, h3, h4⟩, ?_⟩
    by_cases hi : i = 0
    · exact .inl hi
    · right
      cases hd : es[i - 1]? with
      | none => rfl
      | some d => simpa using h5 d (by omega) hd
theorem laB_iff {l : La} : laB l = true ↔ EndsOk l.o l.es ∧ (0 ≤ l.o ∧ l.o ≤ 7) ∧ 1 ≤ l.q ∧ l.q ≤ 99 := by
  unfold laB EndsOk
  simp only [Bool.and_eq_true, List.all_eq_true, List.mem_range]
  constructor
  · rintro ⟨⟨h1, h2⟩, h3⟩
    refine ⟨⟨fun e he => ?_, ?_⟩, by unfold inB at h2; simpa using h2, by unfold inB at h3; simpa using h3⟩
    · obtain ⟨i, hi⟩ := List.getElem?_of_mem he
      exact ((endB_at hi).1 (h1 i (List.getElem?_eq_some_iff.1 hi).1)).1
    · refine pair_chain (r := fun a b : Lb => a.k < b.k) (fun a b c h1 h2 => Int.lt_trans h1 h2) fun i a b ha hb => ?_
      exact ((endB_at hb).1 (h1 (i + 1) (List.getElem?_eq_some_iff.1 hb).1)).2 a (by omega) ha
  · rintro ⟨⟨h1, h2⟩, h3, h4⟩
    refine ⟨⟨fun i hi => ?_, by unfold inB; simpa using h3⟩, by unfold inB; simpa using h4⟩
    refine (endB_at (List.getElem?_eq_getElem hi)).2 ⟨h1 _ (List.getElem_mem _), fun d h0 hd => ?_⟩
    obtain ⟨h5, h6⟩ := List.getElem?_eq_some_iff.1 hd
    subst h6
    exact List.pairwise_iff_getElem.1 h2 (i - 1) i h5 hi (by omega)
/-- P69. -/
theorem laB_part {l : La} (h : laB l = true) (k : Nat) : laB ⟨l.o, l.q, l.es.take k ++ l.es.drop (k + 1)⟩ = true := by
  rw [laB_iff] at h ⊢
  obtain ⟨⟨h1, h2⟩, h3⟩ := h
  have hs : (l.es.take k ++ l.es.drop (k + 1)).Sublist l.es := by
    conv => rhs; rw [← List.take_append_drop k l.es]
    refine List.Sublist.append (List.Sublist.refl _) ?_
    rw [← List.drop_drop]
    exact List.drop_sublist _ _
  exact ⟨⟨fun e he => h1 e (hs.subset he), h2.sublist hs⟩, h3⟩
theorem laB_self (l : La) : laB ⟨l.o, l.q, [⟨l.o, 1⟩]⟩ = false := by
  apply Bool.eq_false_iff.2
  intro h
  exact ((laB_iff.1 h).1.1 ⟨l.o, 1⟩ (List.mem_cons_self ..)).2.1 rfl

/-! ### The announcement of a node -/
/-- The neighbours below k, with the costs of the links. -/
def ofT (nn : Int) (ls : List Lk) (o : Int) : Nat → List Lb
  | 0 => []
  | k + 1 => ofT nn ls o k ++ (if 0 ≤ linkI nn ls o (k : Int) then [⟨(k : Int), lcost nn ls o (k : Int)⟩] else [])
def ofL (nn : Int) (ls : List Lk) (o q : Int) : La := ⟨o, q, ofT nn ls o nn.toNat⟩
section
variable {nn : Int} {ls : List Lk} {o q : Int}
theorem ofT_mem {k : Nat} {e : Lb} : e ∈ ofT nn ls o k ↔ ∃ j : Nat, j < k ∧ 0 ≤ linkI nn ls o (j : Int) ∧ e = ⟨(j : Int), lcost nn ls o (j : Int)⟩ := by
  induction k with
  | zero => simp [ofT]
  | succ k ih =>
    unfold ofT
    rw [List.mem_append, ih]
    constructor
    · rintro (⟨j, h1, h2, h3⟩ | h)
      · exact ⟨j, by omega, h2, h3⟩
      · split at h
        · rename_i h0
          exact ⟨k, by omega, h0, by simpa using h⟩
        · cases h
    · rintro ⟨j, h1, h2, h3⟩
      by_cases hj : j < k
      · exact .inl ⟨j, hj, h2, h3⟩
      · obtain rfl : j = k := by omega
        right
        rw [if_pos h2, h3]
        exact List.mem_cons_self ..
theorem ofT_asc (k : Nat) : (ofT nn ls o k).Pairwise (fun a b => a.k < b.k) := by
  induction k with
  | zero => exact .nil
  | succ k ih =>
    unfold ofT
    rw [List.pairwise_append]
    refine ⟨ih, by split <;> simp, fun a ha b hb => ?_⟩
    obtain ⟨j, h1, _, rfl⟩ := ofT_mem.1 ha
    split at hb
    · have : b = ⟨(k : Int), lcost nn ls o (k : Int)⟩ := by simpa using hb
      subst this
      dsimp only
      omega
    · cases hb
theorem ofT_len (k : Nat) : (ofT nn ls o k).length ≤ k := by
  induction k with
  | zero => simp [ofT]
  | succ k ih =>
    unfold ofT
    rw [List.length_append]
    split <;> simp <;> omega
theorem ofT_map (hg : gvB nn ls = true) : (ofT nn ls o nn.toNat).map Lb.k = nbI nn ls o := by
  obtain ⟨_, h1, h8, _⟩ := gvB_fit hg
  refine up_ext (by rw [List.pairwise_map]; exact ofT_asc _) (nbI_asc nn ls o) fun x => ?_
  rw [List.mem_map]
  constructor
  · rintro ⟨e, he, rfl⟩
    obtain ⟨j, hj, h0, rfl⟩ := ofT_mem.1 he
    have := nbI_has hg o j (by omega)
    rw [decide_eq_true h0, decide_eq_true_eq] at this
    exact this
  · intro hx
    obtain ⟨k, l, e1, e2, _, ea, eb⟩ := nbI_link hg hx
    have hb := gvB_at hg e2
    obtain ⟨j, rfl⟩ : ∃ j : Nat, x = (j : Int) := ⟨x.toNat, by omega⟩
    exact ⟨_, ofT_mem.2 ⟨j, by omega, by omega, rfl⟩, rfl⟩
/-- P68: the announcement of a node is valid. -/
theorem ofL_valid (hg : gvB nn ls = true) (ho : 0 ≤ o ∧ o < nn) (hq : 1 ≤ q ∧ q ≤ 99) : laB (ofL nn ls o q) = true := by
  obtain ⟨_, h1, h8, _⟩ := gvB_fit hg
  rw [laB_iff]
  refine ⟨⟨fun e he => ?_, ofT_asc _⟩, ⟨ho.1, by show o ≤ 7; omega⟩, hq⟩
  obtain ⟨j, hj, h0, rfl⟩ := ofT_mem.1 he
  have hn := nbI_has hg o j (by omega)
  rw [decide_eq_true h0, decide_eq_true_eq] at hn
  obtain ⟨k, l, e1, e2, ha, ea, eb⟩ := nbI_link hg hn
  have hb := gvB_at hg e2
  have hc := lcost_eq hg ha
  show ((0 ≤ (j : Int) ∧ (j : Int) ≤ 7) ∧ (j : Int) ≠ o ∧ 1 ≤ lcost nn ls o (j : Int) ∧ lcost nn ls o (j : Int) ≤ 20)
  rw [hc]
  omega
end

/-! ### What an origin announces -/
def endC (es : List Lb) (n : Int) : Int := match es.find? (fun e => decide (e.k = n)) with
  | some e => e.a
  | none => 0
def costL (db : List La) (o n : Int) : Int := match getL db o with
  | some l => endC l.es n
  | none => 0
theorem endC_mem {es : List Lb} (hp : es.Pairwise (fun a b => a.k < b.k)) {e : Lb} (h : e ∈ es) : endC es e.k = e.a := by
  unfold endC
  induction es with
  | nil => cases h
  | cons a r ih =>
    rw [List.pairwise_cons] at hp
    rw [List.find?_cons]
    rcases List.mem_cons.1 h with rfl | h
    · simp
    · have := hp.1 e h
      rw [decide_eq_false (by omega)]
      exact ih hp.2 h
theorem endC_none {es : List Lb} {n : Int} (h : ∀ e ∈ es, e.k ≠ n) : endC es n = 0 := by
  unfold endC
  rw [List.find?_eq_none.2 (by simpa using h)]
theorem endC_pos {es : List Lb} {n : Int} (h : 0 < endC es n) : ∃ e ∈ es, e.k = n ∧ endC es n = e.a := by
  unfold endC at h ⊢
  cases hf : es.find? (fun e => decide (e.k = n)) with
  | none => rw [hf] at h; simp at h
  | some e => exact ⟨e, List.mem_of_find?_eq_some hf, by simpa using List.find?_some hf, rfl⟩
theorem costL_pos {db : List La} {o n : Int} (h : 0 < costL db o n) : ∃ l ∈ db, l.o = o ∧ ∃ e ∈ l.es, e.k = n ∧ costL db o n = e.a := by
  unfold costL at h ⊢
  cases hg : getL db o with
  | none => rw [hg] at h; simp at h
  | some l =>
    rw [hg] at h
    obtain ⟨e, he, h1, h2⟩ := endC_pos h
    exact ⟨l, (getL_some hg).1, (getL_some hg).2, e, he, h1, h2⟩
theorem costL_mem {db : List La} (hs : Srt db) (hv : ∀ x ∈ db, laB x = true) {l : La} (hl : l ∈ db) {e : Lb} (he : e ∈ l.es) : costL db l.o e.k = e.a ∧ 0 < e.a := by
  have h := laB_iff.1 (hv l hl)
  refine ⟨?_, by have := (h.1.1 e he).2.2; omega⟩
  unfold costL
  rw [getL_mem hs hl]
  exact endC_mem h.1.2 he
theorem costL_ge {db : List La} (hv : ∀ x ∈ db, laB x = true) (o n : Int) : 0 ≤ costL db o n ∧ costL db o n ≤ 20 := by
  by_cases h : 0 < costL db o n
  · obtain ⟨l, hl, _, e, he, _, h2⟩ := costL_pos h
    have := ((laB_iff.1 (hv l hl)).1.1 e he).2.2
    omega
  · have h0 : costL db o n = 0 := by
      unfold costL endC at h ⊢
      cases hg : getL db o with
      | none => rfl
      | some l =>
        rw [hg] at h
        dsimp only at h ⊢
        cases hf : l.es.find? (fun e => decide (e.k = n)) with
        | none => rfl
        | some e =>
          rw [hf] at h
          dsimp only at h
          have := ((laB_iff.1 (hv l (getL_some hg).1)).1.1 e (List.mem_of_find?_eq_some hf)).2.2
          omega
    omega

/-! ### The graph of announcements -/
def lnkG (db : List La) (a b : Int) : List Lk := if 0 < costL db a b ∧ 0 < costL db b a then [⟨a, b, max (costL db a b) (costL db b a)⟩] else []
/-- The links of node a with the first k nodes behind it. -/
def rowG (db : List La) (a : Nat) : Nat → List Lk
  | 0 => []
  | k + 1 => rowG db a k ++ lnkG db (a : Int) ((a + 1 + k : Nat) : Int)
/-- The links of the first k of m nodes with those behind them. -/
def topG (db : List La) (m : Nat) : Nat → List Lk
  | 0 => []
  | a + 1 => topG db m a ++ rowG db a (m - (a + 1))
def graphL (db : List La) (m : Nat) : List Lk := topG db m m
section
variable {db : List La}
theorem lnkG_mem {a b : Int} {l : Lk} : l ∈ lnkG db a b ↔ (0 < costL db a b ∧ 0 < costL db b a) ∧ l = ⟨a, b, max (costL db a b) (costL db b a)⟩ := by
  unfold lnkG
  split
  · rename_i h; simp [h]
  · rename_i h; simp only [List.not_mem_nil, false_iff]; exact fun h2 => h h2.1
theorem rowG_mem {a k : Nat} {l : Lk} : l ∈ rowG db a k ↔ ∃ b : Nat, a < b ∧ b < a + 1 + k ∧ l ∈ lnkG db (a : Int) (b : Int) := by
  induction k with
  | zero => simp only [rowG, List.not_mem_nil, false_iff]; rintro ⟨b, h1, h2, _⟩; omega
  | succ k ih =>
    unfold rowG
    rw [List.mem_append, ih]
    constructor
    · rintro (⟨b, h1, h2, h3⟩ | h)
      · exact ⟨b, h1, by omega, h3⟩
      · exact ⟨a + 1 + k, by omega, by omega, h⟩
    · rintro ⟨b, h1, h2, h3⟩
      by_cases hb : b < a + 1 + k
      · exact .inl ⟨b, h1, hb, h3⟩
      · obtain rfl : b = a + 1 + k := by omega
        exact .inr h3
theorem topG_mem {m k : Nat} {l : Lk} : l ∈ topG db m k ↔ ∃ a b : Nat, a < k ∧ a < b ∧ (b < m ∨ b < a + 1) ∧ l ∈ lnkG db (a : Int) (b : Int) := by
  induction k with
  | zero => simp [topG]
  | succ k ih =>
    unfold topG
    rw [List.mem_append, ih, rowG_mem]
    constructor
    · rintro (⟨a, b, h1, h2, h3, h4⟩ | ⟨b, h1, h2, h3⟩)
      · exact ⟨a, b, by omega, h2, h3, h4⟩
      · exact ⟨k, b, by omega, h1, by omega, h3⟩
    · rintro ⟨a, b, h1, h2, h3, h4⟩
      by_cases ha : a < k
      · exact .inl ⟨a, b, ha, h2, h3, h4⟩
      · obtain rfl : a = k := by omega
        have h5 : b < a + 1 + (m - (a + 1)) := by clear ih h4; omega
        exact .inr ⟨b, h2, h5, h4⟩
theorem graphL_mem {m : Nat} {l : Lk} : l ∈ graphL db m ↔ ∃ a b : Nat, a < b ∧ b < m ∧ 0 < costL db a b ∧ 0 < costL db b a ∧ l = ⟨(a : Int), (b : Int), max (costL db a b) (costL db b a)⟩ := by
  unfold graphL
  rw [topG_mem]
  constructor
  · rintro ⟨a, b, _, h2, h3, h4⟩
    obtain ⟨⟨h5, h6⟩, h7⟩ := lnkG_mem.1 h4
    exact ⟨a, b, h2, by omega, h5, h6, h7⟩
  · rintro ⟨a, b, h1, h2, h3, h4, h5⟩
    exact ⟨a, b, by omega, h1, .inl h2, lnkG_mem.2 ⟨⟨h3, h4⟩, h5⟩⟩
theorem lnkG_pair (a b : Int) : (lnkG db a b).Pairwise (fun x y => beforeB x y = true) := by
  unfold lnkG
  split <;> simp
theorem rowG_pair (a k : Nat) : (rowG db a k).Pairwise (fun x y => beforeB x y = true) := by
  induction k with
  | zero => exact .nil
  | succ k ih =>
    unfold rowG
    rw [List.pairwise_append]
    refine ⟨ih, lnkG_pair _ _, fun x hx y hy => ?_⟩
    obtain ⟨b, h1, h2, h3⟩ := rowG_mem.1 hx
    obtain ⟨_, rfl⟩ := lnkG_mem.1 h3
    obtain ⟨_, rfl⟩ := lnkG_mem.1 hy
    unfold beforeB
    simp
    omega
theorem topG_pair (m k : Nat) : (topG db m k).Pairwise (fun x y => beforeB x y = true) := by
  induction k with
  | zero => exact .nil
  | succ k ih =>
    unfold topG
    rw [List.pairwise_append]
    refine ⟨ih, rowG_pair _ _, fun x hx y hy => ?_⟩
    obtain ⟨a, b, h1, _, _, h4⟩ := topG_mem.1 hx
    obtain ⟨_, rfl⟩ := lnkG_mem.1 h4
    obtain ⟨b', _, _, h3⟩ := rowG_mem.1 hy
    obtain ⟨_, rfl⟩ := lnkG_mem.1 h3
    unfold beforeB
    simp
    omega
theorem graphL_gv (hv : ∀ x ∈ db, laB x = true) {m : Nat} (hm : 1 ≤ m ∧ m ≤ 8) : gvB (m : Int) (graphL db m) = decide ((graphL db m).length ≤ 14) := by
  have hc := costL_ge hv
  by_cases h : (graphL db m).length ≤ 14
  · rw [decide_eq_true h, gvB_iff]
    refine ⟨by unfold inB; simp; omega, h, fun l hl => ?_, topG_pair _ _⟩
    obtain ⟨a, b, h1, h2, h3, h4, rfl⟩ := graphL_mem.1 hl
    have := hc a b
    have := hc b a
    unfold allowsB inB
    simp
    omega
  · rw [decide_eq_false h]
    apply Bool.eq_false_iff.2
    exact fun hg => h (gvB_iff.1 hg).2.1
/-- P78: a link needs both ends. -/
theorem graphL_link {m : Nat} (hg : gvB (m : Int) (graphL db m) = true) {a b : Nat} (hab : a < b) (hb : b < m) : (0 ≤ linkI (m : Int) (graphL db m) (a : Int) (b : Int) ↔ 0 < costL db a b ∧ 0 < costL db b a) ∧
    ∀ (j : Nat) (l : Lk), linkI (m : Int) (graphL db m) (a : Int) (b : Int) = (j : Int) → (graphL db m)[j]? = some l → l.c = max (costL db a b) (costL db b a) := by
  constructor
  · constructor
    · intro h
      obtain ⟨k, l, _, hl, ha, hb'⟩ := linkI_at h
      obtain ⟨a', b', h1, h2, h3, h4, rfl⟩ := graphL_mem.1 (List.mem_of_getElem? hl)
      dsimp only at ha hb'
      obtain rfl : a' = a := by omega
      obtain rfl : b' = b := by omega
      exact ⟨h3, h4⟩
    · rintro ⟨h3, h4⟩
      have hl : (⟨(a : Int), (b : Int), max (costL db a b) (costL db b a)⟩ : Lk) ∈ graphL db m := graphL_mem.2 ⟨a, b, hab, hb, h3, h4, rfl⟩
      exact linkI_mem hg hl
  · intro j l hj hl
    have h0 : 0 ≤ linkI (m : Int) (graphL db m) (a : Int) (b : Int) := by omega
    obtain ⟨k, l', e1, hl', ha, hb'⟩ := linkI_at h0
    obtain rfl : j = k := by omega
    rw [hl] at hl'
    cases hl'
    obtain ⟨a', b', h1, h2, h3, h4, rfl⟩ := graphL_mem.1 (List.mem_of_getElem? hl)
    dsimp only at ha hb'
    obtain rfl : a' = a := by omega
    obtain rfl : b' = b := by omega
    rfl
end

end Go.Proofs.Ytnkohgdfipgdoab
