/-
  Plain facts: candidates (node, priority, claim), the best of them, the election and what it leaves.
-/
import Derived.Test.YtcndhodibeofiaaA1
namespace Go.Proofs.Ytcndhodibeofiaa

/-! A candidate is three numbers (Lk): node a, priority b, claim c. -/
def cdAt (xs : List Lk) (k : Nat) : Bool := match xs[k]? with
  | none => true
  | some x => inB x.a 0 7 && inB x.b 0 9 && inB x.c 0 2 && (decide (k = 0) || (match xs[k - 1]? with | none => true | some y => decide (y.a < x.a)))
def cdB (xs : List Lk) : Bool := (List.range xs.length).all (cdAt xs)
def CdOk (xs : List Lk) : Prop := (∀ x ∈ xs, (0 ≤ x.a ∧ x.a ≤ 7) ∧ (0 ≤ x.b ∧ x.b ≤ 9) ∧ 0 ≤ x.c ∧ x.c ≤ 2) ∧ xs.Pairwise (fun x y => x.a < y.a)
theorem cdAt_iff {xs : List Lk} {k : Nat} {x : Lk} (h : xs[k]? = some x) : cdAt xs k = true ↔ ((0 ≤ x.a ∧ x.a ≤ 7) ∧ (0 ≤ x.b ∧ x.b ≤ 9) ∧ 0 ≤ x.c ∧ x.c ≤ 2) ∧ (∀ y, 0 < k → xs[k - 1]? = some y → y.a < x.a) := by
  unfold cdAt inB
  rw [h]
  dsimp only
  simp only [Bool.and_eq_true, Bool.or_eq_true, decide_eq_true_eq]
  constructor
  · rintro ⟨⟨⟨⟨h1, h2⟩, h3, h4⟩, h5, h6⟩, h7⟩
    refine ⟨⟨⟨h1, h2⟩, ⟨h3, h4⟩, h5, h6⟩, fun y hk hy => ?_⟩
    rcases h7 with h7 | h7
    · omega
    · rw [hy] at h7
      simpa using h7
  · rintro ⟨⟨⟨h1, h2⟩, ⟨h3, h4⟩, h5, h6⟩, h7⟩
    refine ⟨⟨⟨⟨h1, h2⟩, h3, h4⟩, h5, h6⟩, ?_⟩
    by_cases hk : k = 0
    · exact .inl hk
    · right
      cases hy : xs[k - 1]? with
      | none => rfl
      | some y => simpa using h7 y (by omega) hy
theorem asc_of {xs : List Lk} (h : ∀ (k : Nat) (x y : Lk), xs[k]? = some x → xs[k + 1]? = some y → x.a < y.a) : xs.Pairwise (fun x y => x.a < y.a) := by
  induction xs with
  | nil => exact List.Pairwise.nil
  | cons a r ih =>
    have hr := ih (fun k x y h1 h2 => h (k + 1) x y (by simpa using h1) (by simpa using h2))
    refine List.pairwise_cons.2 ⟨?_, hr⟩
    cases r with
    | nil => simp
    | cons b r =>
      have h0 := h 0 a b rfl rfl
      intro z hz
      rcases List.mem_cons.1 hz with rfl | hz
      · exact h0
      · have := (List.pairwise_cons.1 hr).1 z hz
        omega
theorem cdB_iff (xs : List Lk) : cdB xs = true ↔ CdOk xs := by
  unfold cdB CdOk
  rw [List.all_eq_true]
  constructor
  · intro h
    have hk : ∀ (k : Nat) (x : Lk), xs[k]? = some x → cdAt xs k = true := fun k x hx => h k (List.mem_range.2 (List.getElem?_eq_some_iff.1 hx).1)
    refine ⟨fun x hx => ?_, asc_of fun k x y hx hy => ?_⟩
    · obtain ⟨k, hk'⟩ := List.getElem?_of_mem hx
      exact ((cdAt_iff hk').1 (hk k x hk')).1
    · exact ((cdAt_iff hy).1 (hk _ _ hy)).2 x (by omega) (by simpa using hx)
  · rintro ⟨h1, h2⟩ k hk
    obtain ⟨x, hx⟩ : ∃ x, xs[k]? = some x := ⟨_, List.getElem?_eq_getElem (List.mem_range.1 hk)⟩
    refine (cdAt_iff hx).2 ⟨h1 x (List.mem_of_getElem? hx), fun y hk0 hy => ?_⟩
    obtain ⟨hi, ei⟩ := List.getElem?_eq_some_iff.1 hy
    obtain ⟨hj, ej⟩ := List.getElem?_eq_some_iff.1 hx
    have := List.pairwise_iff_getElem.1 h2 (k - 1) k hi hj (by omega)
    rwa [ei, ej] at this
theorem cd_node {xs : List Lk} (h : xs.Pairwise (fun x y => x.a < y.a)) {x y : Lk} (hx : x ∈ xs) (hy : y ∈ xs) (he : x.a = y.a) : x = y := by
  obtain ⟨i, hi⟩ := List.getElem?_of_mem hx
  obtain ⟨j, hj⟩ := List.getElem?_of_mem hy
  obtain ⟨hil, ei⟩ := List.getElem?_eq_some_iff.1 hi
  obtain ⟨hjl, ej⟩ := List.getElem?_eq_some_iff.1 hj
  rcases Nat.lt_trichotomy i j with h1 | h1 | h1
  · have := List.pairwise_iff_getElem.1 h i j hil hjl h1
    rw [ei, ej] at this
    omega
  · subst h1
    rw [hi] at hj
    exact Option.some.inj hj
  · have := List.pairwise_iff_getElem.1 h j i hjl hil h1
    rw [ei, ej] at this
    omega

/-! ### Who is elected -/
/-- Claim, priority, node: in this order. -/
def LexLe (c1 p1 n1 c2 p2 n2 : Int) : Prop := c1 < c2 ∨ (c1 = c2 ∧ (p1 < p2 ∨ (p1 = p2 ∧ n1 ≤ n2)))
theorem LexLe.antisymm {c1 p1 n1 c2 p2 n2 : Int} (h : LexLe c1 p1 n1 c2 p2 n2) (h' : LexLe c2 p2 n2 c1 p1 n1) : n1 = n2 := by unfold LexLe at h h'; omega
def IsSp (xs : List Lk) (s : Int) : Prop := (s = -1 ∧ ∀ d ∈ xs, d.b ≤ 0) ∨ ∃ x ∈ xs, 0 < x.b ∧ s = x.a ∧ ∀ d ∈ xs, 0 < d.b → LexLe d.c d.b d.a x.c x.b x.a
def IsBk (xs : List Lk) (s b : Int) : Prop := (b = -1 ∧ ∀ d ∈ xs, 0 < d.b → d.a = s) ∨ ∃ x ∈ xs, 0 < x.b ∧ x.a ≠ s ∧ b = x.a ∧ ∀ d ∈ xs, 0 < d.b → d.a ≠ s → LexLe (min d.c 1) d.b d.a (min x.c 1) x.b x.a
theorem IsSp.uniq {xs : List Lk} {s t : Int} (h : IsSp xs s) (h' : IsSp xs t) : s = t := by
  rcases h with ⟨rfl, h⟩ | ⟨x, hx, hxb, rfl, h⟩
  · rcases h' with ⟨rfl, _⟩ | ⟨y, hy, hyb, rfl, _⟩
    · rfl
    · have := h y hy; omega
  · rcases h' with ⟨rfl, h'⟩ | ⟨y, hy, hyb, rfl, h'⟩
    · have := h' x hx; omega
    · exact (h' x hx hxb).antisymm (h y hy hyb)
theorem IsBk.uniq {xs : List Lk} {s a b : Int} (h : IsBk xs s a) (h' : IsBk xs s b) : a = b := by
  rcases h with ⟨rfl, h⟩ | ⟨x, hx, hxb, hxs, rfl, h⟩
  · rcases h' with ⟨rfl, _⟩ | ⟨y, hy, hyb, hys, rfl, _⟩
    · rfl
    · exact absurd (h y hy hyb) hys
  · rcases h' with ⟨rfl, h'⟩ | ⟨y, hy, hyb, hys, rfl, h'⟩
    · exact absurd (h' x hx hxb) hxs
    · exact (h' x hx hxb hxs).antisymm (h y hy hyb hys)

/-! ### The specification's way -/
/-- Does candidate x count, for a claim of at least cl, except node ex? -/
def cntK (cl ex : Int) (x : Lk) : Bool := !(decide (x.c < cl) || decide (x.a = ex) || decide (x.b = 0))
def prI (xs : List Lk) (k : Int) : Int := match xs[k.toNat]? with
  | none => 0
  | some x => x.b
/-- The best of the first i. -/
def bstU (xs : List Lk) (cl ex : Int) : Nat → Int
  | 0 => -1
  | i + 1 => match xs[i]? with
    | none => bstU xs cl ex i
    | some x => if cntK cl ex x then (if bstU xs cl ex i < 0 ∨ prI xs (bstU xs cl ex i) ≤ x.b then (i : Int) else bstU xs cl ex i) else bstU xs cl ex i
def bstI (xs : List Lk) (cl ex : Int) : Int := bstU xs cl ex xs.length
def ndI (xs : List Lk) (k : Int) : Int := if k < 0 then -1 else match xs[k.toNat]? with
  | none => 0
  | some x => x.a
theorem bstU_spec (xs : List Lk) (cl ex : Int) (i : Nat) (hi : i ≤ xs.length) :
    (bstU xs cl ex i = -1 ∧ ∀ (j : Nat) (d : Lk), j < i → xs[j]? = some d → cntK cl ex d = false) ∨
    ∃ (k : Nat) (x : Lk), k < i ∧ xs[k]? = some x ∧ bstU xs cl ex i = (k : Int) ∧ cntK cl ex x = true ∧ ∀ (j : Nat) (d : Lk), j < i → xs[j]? = some d → cntK cl ex d = true → d.b < x.b ∨ (d.b = x.b ∧ j ≤ k) := by
  induction i with
  | zero => exact .inl ⟨rfl, fun j d hj => by omega⟩
  | succ i ih =>
    obtain ⟨x, hx⟩ : ∃ x, xs[i]? = some x := ⟨_, List.getElem?_eq_getElem (by omega)⟩
    have hstep : bstU xs cl ex (i + 1) = if cntK cl ex x then (if bstU xs cl ex i < 0 ∨ prI xs (bstU xs cl ex i) ≤ x.b then (i : Int) else bstU xs cl ex i) else bstU xs cl ex i := by
      conv => lhs; unfold bstU
      rw [hx]
    rw [hstep]
    have hsplit : ∀ (j : Nat) (d : Lk), j < i + 1 → xs[j]? = some d → j < i ∨ (j = i ∧ d = x) := fun j d hj hd => by
      by_cases h : j < i
      · exact .inl h
      · obtain rfl : j = i := by omega
        rw [hx] at hd
        exact .inr ⟨rfl, (Option.some.inj hd).symm⟩
    rcases ih (by omega) with ⟨h1, h2⟩ | ⟨k, y, hk, hy, h1, h2, h3⟩
    · cases hc : cntK cl ex x with
      | false =>
        rw [if_neg (by simp), h1]
        exact .inl ⟨rfl, fun j d hj hd => by
          rcases hsplit j d hj hd with h | ⟨rfl, rfl⟩
          · exact h2 j d h hd
          · exact hc⟩
      | true =>
        rw [if_pos rfl, if_pos (.inl (by omega))]
        exact .inr ⟨i, x, by omega, hx, rfl, hc, fun j d hj hd hcd => by
          rcases hsplit j d hj hd with h | ⟨rfl, rfl⟩
          · rw [h2 j d h hd] at hcd; cases hcd
          · exact .inr ⟨rfl, Nat.le_refl _⟩⟩
    · cases hc : cntK cl ex x with
      | false =>
        rw [if_neg (by simp), h1]
        exact .inr ⟨k, y, by omega, hy, rfl, h2, fun j d hj hd hcd => by
          rcases hsplit j d hj hd with h | ⟨rfl, rfl⟩
          · exact h3 j d h hd hcd
          · rw [hc] at hcd; cases hcd⟩
      | true =>
        have hpr : prI xs (bstU xs cl ex i) = y.b := by
          unfold prI
          rw [h1, Int.toNat_natCast, hy]
        rw [if_pos rfl]
        by_cases hle : y.b ≤ x.b
        · rw [if_pos (.inr (by rw [hpr]; exact hle))]
          exact .inr ⟨i, x, by omega, hx, rfl, hc, fun j d hj hd hcd => by
            rcases hsplit j d hj hd with h | ⟨rfl, rfl⟩
            · rcases h3 j d h hd hcd with h | h <;> omega
            · exact .inr ⟨rfl, Nat.le_refl _⟩⟩
        · rw [if_neg (by rw [hpr]; omega), h1]
          exact .inr ⟨k, y, by omega, hy, rfl, h2, fun j d hj hd hcd => by
            rcases hsplit j d hj hd with h | ⟨rfl, rfl⟩
            · exact h3 j d h hd hcd
            · left; omega⟩
/-- The best candidate, by what makes it so. -/
theorem bst_node {xs : List Lk} (hp : xs.Pairwise (fun x y => x.a < y.a)) (cl ex : Int) :
    (ndI xs (bstI xs cl ex) = -1 ∧ ∀ d ∈ xs, cntK cl ex d = false) ∨
    ∃ x ∈ xs, cntK cl ex x = true ∧ ndI xs (bstI xs cl ex) = x.a ∧ ∀ d ∈ xs, cntK cl ex d = true → d.b < x.b ∨ (d.b = x.b ∧ d.a ≤ x.a) := by
  unfold bstI ndI
  rcases bstU_spec xs cl ex xs.length (Nat.le_refl _) with ⟨h1, h2⟩ | ⟨k, x, hk, hx, h1, h2, h3⟩
  · left
    rw [h1, if_pos (by omega)]
    refine ⟨rfl, fun d hd => ?_⟩
    obtain ⟨j, hj⟩ := List.getElem?_of_mem hd
    exact h2 j d (List.getElem?_eq_some_iff.1 hj).1 hj
  · right
    rw [h1, if_neg (by omega), Int.toNat_natCast, hx]
    refine ⟨x, List.mem_of_getElem? hx, h2, rfl, fun d hd hc => ?_⟩
    obtain ⟨j, hj⟩ := List.getElem?_of_mem hd
    obtain ⟨hjl, ej⟩ := List.getElem?_eq_some_iff.1 hj
    obtain ⟨hkl, ek⟩ := List.getElem?_eq_some_iff.1 hx
    rcases h3 j d hjl hj hc with h | ⟨h, hjk⟩
    · exact .inl h
    · refine .inr ⟨h, ?_⟩
      rcases Nat.lt_or_eq_of_le hjk with h4 | h4
      · have := List.pairwise_iff_getElem.1 hp j k hjl hkl h4
        rw [ej, ek] at this
        omega
      · subst h4
        rw [ej] at ek
        rw [ek]
        exact Int.le_refl _
/-- First the one, or else the other. -/
def orI (a b : Int) : Int := if a < 0 then b else a
def spS (xs : List Lk) : Int := orI (ndI xs (bstI xs 2 (-1))) (orI (ndI xs (bstI xs 1 (-1))) (ndI xs (bstI xs 0 (-1))))
def bkS (xs : List Lk) (s : Int) : Int := orI (ndI xs (bstI xs 1 s)) (ndI xs (bstI xs 0 s))
theorem cntK_iff {cl ex : Int} {x : Lk} : cntK cl ex x = true ↔ cl ≤ x.c ∧ x.a ≠ ex ∧ x.b ≠ 0 := by
  unfold cntK
  simp
  omega
theorem spS_is {xs : List Lk} (h : CdOk xs) : IsSp xs (spS xs) := by
  obtain ⟨hv, hp⟩ := h
  have key : ∀ cl : Int, (∀ d ∈ xs, 0 < d.b → d.c ≤ cl) → (ndI xs (bstI xs cl (-1)) = -1 ∧ (∀ d ∈ xs, 0 < d.b → d.c ≤ cl - 1)) ∨ (0 ≤ ndI xs (bstI xs cl (-1)) ∧ IsSp xs (ndI xs (bstI xs cl (-1)))) := by
    intro cl hcl
    rcases bst_node hp cl (-1) with ⟨h1, h2⟩ | ⟨x, hx, hc, h1, h2⟩
    · refine .inl ⟨h1, fun d hd hb => ?_⟩
      have hcd := hcl d hd hb
      have := h2 d hd
      have hne : ¬ (cl ≤ d.c) := fun hle => by
        have : cntK cl (-1) d = true := cntK_iff.2 ⟨hle, by have := (hv d hd).1; omega, by omega⟩
        rw [h2 d hd] at this
        cases this
      omega
    · obtain ⟨hc1, hc2, hc3⟩ := cntK_iff.1 hc
      have hxb : 0 < x.b := by have := (hv x hx).2.1; omega
      rw [h1]
      refine .inr ⟨(hv x hx).1.1, .inr ⟨x, hx, hxb, rfl, fun d hd hb => ?_⟩⟩
      have hxc := hcl x hx hxb
      have hdc := hcl d hd hb
      unfold LexLe
      by_cases hdl : d.c < cl
      · omega
      · rcases h2 d hd (cntK_iff.2 ⟨by omega, by have := (hv d hd).1; omega, by omega⟩) with h | h
        · omega
        · omega
  unfold spS orI
  rcases key 2 (fun d hd _ => (hv d hd).2.2.2) with ⟨h1, h2⟩ | ⟨h1, h2⟩
  · rw [h1, if_pos (by omega)]
    rcases key 1 h2 with ⟨h3, h4⟩ | ⟨h3, h4⟩
    · rw [h3, if_pos (by omega)]
      rcases key 0 h4 with ⟨h5, h6⟩ | ⟨h5, h6⟩
      · rw [h5]
        refine .inl ⟨rfl, fun d hd => ?_⟩
        have h7 := (hv d hd).2.2.1
        by_cases hb : 0 < d.b
        · have := h6 d hd hb
          omega
        · omega
      · exact h6
    · rw [if_neg (by omega)]
      exact h4
  · rw [if_neg (by omega)]
    exact h2
theorem bkS_is {xs : List Lk} (h : CdOk xs) (s : Int) : IsBk xs s (bkS xs s) := by
  obtain ⟨hv, hp⟩ := h
  unfold bkS orI
  rcases bst_node hp 1 s with ⟨h1, h2⟩ | ⟨x, hx, hc, h1, h2⟩
  · rw [h1, if_pos (by omega)]
    have hlow : ∀ d ∈ xs, 0 < d.b → d.a ≠ s → d.c ≤ 0 := fun d hd hb hs => by
      have hne : ¬ (1 ≤ d.c) := fun hle => by
        have : cntK 1 s d = true := cntK_iff.2 ⟨hle, hs, by omega⟩
        rw [h2 d hd] at this
        cases this
      omega
    rcases bst_node hp 0 s with ⟨h3, h4⟩ | ⟨x, hx, hc, h3, h4⟩
    · rw [h3]
      refine .inl ⟨rfl, fun d hd hb => ?_⟩
      by_cases hs : d.a = s
      · exact hs
      · have : cntK 0 s d = true := cntK_iff.2 ⟨(hv d hd).2.2.1, hs, by omega⟩
        rw [h4 d hd] at this
        cases this
    · obtain ⟨hc1, hc2, hc3⟩ := cntK_iff.1 hc
      have hxb : 0 < x.b := by have := (hv x hx).2.1; omega
      rw [h3]
      refine .inr ⟨x, hx, hxb, hc2, rfl, fun d hd hb hs => ?_⟩
      have e1 := hlow d hd hb hs
      have e2 := hlow x hx hxb hc2
      have e3 := (hv d hd).2.2.1
      have e4 := (hv x hx).2.2.1
      have := h4 d hd (cntK_iff.2 ⟨e3, hs, by omega⟩)
      unfold LexLe
      omega
  · obtain ⟨hc1, hc2, hc3⟩ := cntK_iff.1 hc
    have hxb : 0 < x.b := by have := (hv x hx).2.1; omega
    rw [h1, if_neg (by have := (hv x hx).1; omega)]
    refine .inr ⟨x, hx, hxb, hc2, rfl, fun d hd hb hs => ?_⟩
    unfold LexLe
    by_cases hd1 : 1 ≤ d.c
    · have := h2 d hd (cntK_iff.2 ⟨hd1, hs, by omega⟩)
      omega
    · omega
end Go.Proofs.Ytcndhodibeofiaa
