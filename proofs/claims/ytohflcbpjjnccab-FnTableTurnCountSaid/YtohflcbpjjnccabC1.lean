/-
  Plain facts: links and nodes that shortest paths use.
-/
import Derived.Test.YtohflcbpjjnccabB7
import Derived.Test.YtohflcbpjjnccabA1
import Derived.Test.YtohflcbpjjnccabB1
namespace Go.Proofs.Ytohflcbpjjnccab

/-- A shortest path takes a step. -/
def takesB (nn : Int) (ls : List Lk) (s t : Int) (l : Lk) : Bool :=
  decide (bf nn ls s t ≠ -1) && decide (bf nn ls s l.a ≠ -1) && decide (min (bf nn ls s l.a + bf nn ls t l.b) (bf nn ls s l.b + bf nn ls t l.a) + l.c = bf nn ls s t)
def usedL (nn : Int) (ls : List Lk) (s t : Int) (l : Lk) : Bool :=
  decide (0 ≤ bf nn ls s t) && decide (0 ≤ bf nn ls s l.a) && (decide (bf nn ls s l.a + l.c + bf nn ls t l.b = bf nn ls s t) || decide (bf nn ls s l.b + l.c + bf nn ls t l.a = bf nn ls s t))
def usedB (nn : Int) (ls : List Lk) (s t x : Int) : Bool :=
  vwB nn ls [s, t] && (if 0 ≤ x then match ls[x.toNat]? with
    | some l => usedL nn ls s t l
    | none => false else false)
def nodeL (nn : Int) (ls : List Lk) (s t x : Int) : Bool := decide (0 ≤ bf nn ls s x) && decide (0 ≤ bf nn ls t x) && decide (bf nn ls s x + bf nn ls t x = bf nn ls s t)
def nodeB (nn : Int) (ls : List Lk) (s t x : Int) : Bool := vwB nn ls [s, t, x] && nodeL nn ls s t x

section
variable {n : Int} {ls : List Lk} {s t : Int}
theorem vwB_three {x : Int} : vwB n ls [s, t, x] = true ↔ vwB n ls [s, t] = true ∧ 0 ≤ x ∧ x < n := by
  unfold vwB inB
  simp only [List.all_cons, List.all_nil, Bool.and_true, Bool.and_eq_true, decide_eq_true_eq]
  constructor
  · rintro ⟨h0, h1, h2, h3⟩
    exact ⟨⟨h0, h1, h2⟩, by omega, by omega⟩
  · rintro ⟨⟨h0, h1, h2⟩, h3, h4⟩
    exact ⟨h0, h1, h2, by omega, by omega⟩
/-- Around a link no way is shorter. -/
theorem bf_link_tri (hf : Fit n ls) (hs : 0 ≤ s ∧ s < n) (ht : 0 ≤ t ∧ t < n) {l : Lk} (hl : l ∈ ls) (h0 : 0 ≤ bf n ls s t) (ha : 0 ≤ bf n ls s l.a) :
    0 ≤ bf n ls s l.b ∧ 0 ≤ bf n ls t l.a ∧ 0 ≤ bf n ls t l.b ∧ bf n ls s t ≤ bf n ls s l.a + l.c + bf n ls t l.b ∧ bf n ls s t ≤ bf n ls s l.b + l.c + bf n ls t l.a := by
  have hadj : Adj ls l.a l.b l.c := ⟨l, hl, .inl ⟨rfl, rfl⟩, rfl⟩
  have hr := hf.adj hadj
  have hb := bf_edge hf hs hadj ha
  have hts : bf n ls t s = bf n ls s t := bf_symm hf ht hs
  have hta := bf_three hf ht hs (by omega) ha
  have htb := bf_edge hf ht hadj hta.1
  have e1 : bf n ls l.a t = bf n ls t l.a := bf_symm hf (by omega) ht
  have e2 : bf n ls l.b t = bf n ls t l.b := bf_symm hf (by omega) ht
  have h1 := bf_three hf hs (c := l.b) (b := t) (by omega) hb.1 (by omega)
  have h2 := bf_three hf hs (c := l.a) (b := t) (by omega) ha (by omega)
  omega
theorem takes_used (hf : Fit n ls) (hs : 0 ≤ s ∧ s < n) (ht : 0 ≤ t ∧ t < n) {l : Lk} (hl : l ∈ ls) : takesB n ls s t l = usedL n ls s t l := by
  unfold takesB usedL
  rcases bf_sg hf hs t with h1 | h1
  · rcases bf_sg hf hs l.a with h2 | h2
    · have h3 := bf_link_tri hf hs ht hl h1 h2
      rw [Bool.eq_iff_iff]
      simp only [Bool.and_eq_true, Bool.or_eq_true, decide_eq_true_eq]
      omega
    · simp [h2]
  · simp [h1]
theorem bf_node_tri (hf : Fit n ls) (hs : 0 ≤ s ∧ s < n) (ht : 0 ≤ t ∧ t < n) {x : Int} (hx : 0 ≤ x ∧ x < n) (h1 : 0 ≤ bf n ls s x) (h2 : 0 ≤ bf n ls t x) : 0 ≤ bf n ls s t ∧ bf n ls s t ≤ bf n ls s x + bf n ls t x := by
  have e : bf n ls x t = bf n ls t x := bf_symm hf hx ht
  have := bf_three hf hs hx (b := t) h1 (by omega)
  omega
theorem takes_node (hf : Fit n ls) (hs : 0 ≤ s ∧ s < n) (ht : 0 ≤ t ∧ t < n) {x : Int} (hx : 0 ≤ x ∧ x < n) : takesB n ls s t ⟨x, x, 0⟩ = nodeL n ls s t x := by
  unfold takesB nodeL
  dsimp only
  rw [Bool.eq_iff_iff]
  simp only [Bool.and_eq_true, decide_eq_true_eq]
  have e : bf n ls t s = bf n ls s t := bf_symm hf ht hs
  rcases bf_sg hf hs t with h1 | h1
  · rcases bf_sg hf hs x with h2 | h2
    · have := bf_three hf ht hs (b := x) (by omega) h2
      omega
    · omega
  · constructor
    · omega
    · rintro ⟨⟨h2, h3⟩, h4⟩
      have := bf_node_tri hf hs ht hx h2 h3
      omega
theorem used_at (h : vwB n ls [s, t] = true) {k : Nat} {l : Lk} (hl : ls[k]? = some l) : usedB n ls s t (k : Int) = usedL n ls s t l := by
  unfold usedB
  rw [h, if_pos (by omega), Int.toNat_natCast, hl]
  rfl
theorem usedL_back (hf : Fit n ls) (hs : 0 ≤ s ∧ s < n) (ht : 0 ≤ t ∧ t < n) {l : Lk} (hl : l ∈ ls) : usedL n ls t s l = usedL n ls s t l := by
  unfold usedL
  rw [Bool.eq_iff_iff]
  simp only [Bool.and_eq_true, Bool.or_eq_true, decide_eq_true_eq]
  have e : bf n ls t s = bf n ls s t := bf_symm hf ht hs
  constructor
  · rintro ⟨⟨h1, h2⟩, h3⟩
    have := bf_link_tri hf ht hs hl h1 h2
    omega
  · rintro ⟨⟨h1, h2⟩, h3⟩
    have := bf_link_tri hf hs ht hl h1 h2
    omega
theorem usedB_back (n : Int) (ls : List Lk) (s t x : Int) : usedB n ls t s x = usedB n ls s t x := by
  unfold usedB
  have e : vwB n ls [t, s] = vwB n ls [s, t] := by
    unfold vwB
    simp only [List.all_cons, List.all_nil, Bool.and_true]
    rw [Bool.and_comm (inB t 0 (n - 1))]
  rw [e]
  cases hv : vwB n ls [s, t] with
  | false => rfl
  | true =>
    obtain ⟨hg, hs, ht⟩ := vwB_two hv
    congr 1
    split
    · cases hx : ls[x.toNat]? with
      | none => rfl
      | some l => exact usedL_back (gvB_fit hg).1 hs ht (List.mem_of_getElem? hx)
    · rfl
theorem usedB_ends (hv : gvB n ls = true) {k : Nat} {l : Lk} (hl : ls[k]? = some l) : usedB n ls l.a l.b (k : Int) = decide (bf n ls l.a l.b = l.c) := by
  have hb := gvB_at hv hl
  obtain ⟨hf, _⟩ := gvB_fit hv
  have hm := List.mem_of_getElem? hl
  have ha : 0 ≤ l.a ∧ l.a < n := by omega
  have hb' : 0 ≤ l.b ∧ l.b < n := by omega
  rw [used_at (vwB_of hv ha hb') hl]
  unfold usedL
  have e1 := bf_self hf ha
  have e2 := bf_self hf hb'
  have e3 : bf n ls l.b l.a = bf n ls l.a l.b := bf_symm hf hb' ha
  have h := bf_edge hf ha (u := l.a) (v := l.b) (e := l.c) ⟨l, hm, .inl ⟨rfl, rfl⟩, rfl⟩ (by omega)
  rw [Bool.eq_iff_iff]
  simp only [Bool.and_eq_true, Bool.or_eq_true, decide_eq_true_eq]
  omega
/-- Next hops are used, and so are the links to them. -/
theorem hop_used (h : vwB n ls [s, t] = true) {z : Int} (hz : z ∈ hopsL n ls s t) : nodeB n ls s t z = true ∧ usedB n ls s t (linkI n ls s z) = true := by
  obtain ⟨hv, hs, ht⟩ := vwB_two h
  obtain ⟨hf, _⟩ := gvB_fit hv
  obtain ⟨hzr, _, h0, hlt⟩ := hops_node h hz
  obtain ⟨e, ha, _, he⟩ := (hops_mem h).1 hz
  have hzn := (List.mem_filter.1 ((hops_eq h) ▸ hz)).1
  obtain ⟨k, l, hk, hl, ha2, hmn, hmx⟩ := nbI_link hv hzn
  have hee := adj_uniq hv ha ha2
  have hss := bf_self hf hs
  have e1 : bf n ls t s = bf n ls s t := bf_symm hf ht hs
  have hsz := bf_edge hf hs ha (by omega)
  have hts := bf_node_tri hf hs ht hzr hsz.1 h0
  have he0 := hf.adj ha
  refine ⟨?_, ?_⟩
  · unfold nodeB nodeL
    rw [vwB_three.2 ⟨h, hzr⟩]
    simp only [Bool.true_and, Bool.and_eq_true, decide_eq_true_eq]
    omega
  · rw [hk, used_at h hl]
    unfold usedL
    simp only [Bool.and_eq_true, Bool.or_eq_true, decide_eq_true_eq]
    rcases Int.le_total s z with hsl | hsl
    · have e2 : l.a = s := by omega
      have e3 : l.b = z := by omega
      rw [e2, e3]
      omega
    · have e2 : l.a = z := by omega
      have e3 : l.b = s := by omega
      rw [e2, e3]
      omega
end
end Go.Proofs.Ytohflcbpjjnccab

/-
  Plain facts: the shortest path over the smallest neighbours.
-/
namespace Go.Proofs.Ytohflcbpjjnccab

def pathF (n : Int) (ls : List Lk) (t : Int) : Nat → Int → List Int
  | 0, s => [s]
  | k + 1, s => if s = t then [s] else match hopsL n ls s t with
    | [] => []
    | z :: _ => s :: pathF n ls t k z
def pathL (n : Nat) (ls : List Lk) (s t : Int) : List Int := if vwB (n : Int) ls [s, t] = true ∧ 0 ≤ bf (n : Int) ls t s then pathF (n : Int) ls t (rk n ls t s) s else []

section
variable {n : Nat} {ls : List Lk} {t : Int}
theorem rk_zero (hv : gvB (n : Int) ls = true) (ht : 0 ≤ t ∧ t < (n : Int)) {s : Int} (hs : 0 ≤ s ∧ s < (n : Int)) (h0 : 0 ≤ bf (n : Int) ls t s) (hr : rk n ls t s = 0) : s = t := by
  have hvw := vwB_of hv hs ht
  cases hh : hopsL (n : Int) ls s t with
  | nil =>
    rcases (hops_nil hvw).1 hh with h | h
    · exact h
    · omega
  | cons z zs =>
    obtain ⟨h1, _, h3, h4⟩ := hops_node hvw (show z ∈ hopsL (n : Int) ls s t by rw [hh]; simp)
    have := rk_lt h1 h3 h4
    omega
theorem pathF_more (hv : gvB (n : Int) ls = true) (ht : 0 ≤ t ∧ t < (n : Int)) : ∀ (k m : Nat) (s : Int), 0 ≤ s ∧ s < (n : Int) → 0 ≤ bf (n : Int) ls t s → rk n ls t s ≤ k → k ≤ m → pathF (n : Int) ls t m s = pathF (n : Int) ls t k s := by
  intro k
  induction k with
  | zero =>
    intro m s hs h0 hr _
    have := rk_zero hv ht hs h0 (by omega)
    cases m with
    | zero => rfl
    | succ m => simp [pathF, this]
  | succ k ih =>
    intro m s hs h0 hr hkm
    obtain ⟨m, rfl⟩ : ∃ q, m = q + 1 := ⟨m - 1, by omega⟩
    by_cases hst : s = t
    · simp [pathF, hst]
    · simp only [pathF, if_neg hst]
      cases hh : hopsL (n : Int) ls s t with
      | nil => rfl
      | cons z zs =>
        obtain ⟨h1, _, h3, h4⟩ := hops_node (vwB_of hv hs ht) (show z ∈ hopsL (n : Int) ls s t by rw [hh]; simp)
        have := rk_lt h1 h3 h4
        dsimp only
        rw [ih m z h1 h3 (by omega) (by omega)]
theorem pathL_self (hv : gvB (n : Int) ls = true) (ht : 0 ≤ t ∧ t < (n : Int)) : pathL n ls t t = [t] := by
  unfold pathL
  rw [if_pos ⟨vwB_of hv ht ht, by rw [bf_self (gvB_fit hv).1 ht]; omega⟩]
  cases rk n ls t t <;> simp [pathF]
theorem pathL_step (hv : gvB (n : Int) ls = true) (ht : 0 ≤ t ∧ t < (n : Int)) {s : Int} (hs : 0 ≤ s ∧ s < (n : Int)) (h0 : 0 ≤ bf (n : Int) ls t s) (hst : s ≠ t) :
    ∃ z zs, hopsL (n : Int) ls s t = z :: zs ∧ pathL n ls s t = s :: pathL n ls z t := by
  have hvw := vwB_of hv hs ht
  cases hh : hopsL (n : Int) ls s t with
  | nil =>
    exfalso
    rcases (hops_nil hvw).1 hh with h | h
    · exact hst h
    · omega
  | cons z zs =>
    obtain ⟨h1, hvz, h3, h4⟩ := hops_node hvw (show z ∈ hopsL (n : Int) ls s t by rw [hh]; simp)
    have hrk := rk_lt h1 h3 h4
    refine ⟨z, zs, rfl, ?_⟩
    unfold pathL
    rw [if_pos ⟨hvw, h0⟩, if_pos ⟨hvz, h3⟩]
    rw [← pathF_more hv ht (rk n ls t s) (rk n ls t s + 1) s hs h0 (Nat.le_refl _) (by omega)]
    simp only [pathF, if_neg hst, hh]
    rw [pathF_more hv ht (rk n ls t z) (rk n ls t s) z h1 h3 (Nat.le_refl _) (by omega)]
theorem pathL_none {s : Int} (h : ¬ (vwB (n : Int) ls [s, t] = true ∧ 0 ≤ bf (n : Int) ls t s)) : pathL n ls s t = [] := by
  unfold pathL
  rw [if_neg h]
theorem pathL_some {s : Int} (h : pathL n ls s t ≠ []) : vwB (n : Int) ls [s, t] = true ∧ 0 ≤ bf (n : Int) ls t s :=
  Classical.byContradiction fun hn => h (pathL_none hn)

/-- What a shortest path is like: every node but the last is followed by its first next hop. -/
inductive IsP (n : Nat) (ls : List Lk) (t : Int) : Int → List Int → Prop
  | last : IsP n ls t t [t]
  | step {s z : Int} {zs p : List Int} : s ≠ t → hopsL (n : Int) ls s t = z :: zs → (0 ≤ s ∧ s < (n : Int)) → 0 ≤ bf (n : Int) ls t s → IsP n ls t z p → IsP n ls t s (s :: p)
theorem pathL_isP (hv : gvB (n : Int) ls = true) (ht : 0 ≤ t ∧ t < (n : Int)) : ∀ (k : Nat) (s : Int), 0 ≤ s ∧ s < (n : Int) → 0 ≤ bf (n : Int) ls t s → rk n ls t s ≤ k → IsP n ls t s (pathL n ls s t) := by
  intro k
  induction k with
  | zero =>
    intro s hs h0 hr
    have := rk_zero hv ht hs h0 (by omega)
    subst this
    rw [pathL_self hv hs]
    exact .last
  | succ k ih =>
    intro s hs h0 hr
    by_cases hst : s = t
    · subst hst
      rw [pathL_self hv hs]
      exact .last
    · obtain ⟨z, zs, hh, hp⟩ := pathL_step hv ht hs h0 hst
      obtain ⟨h1, _, h3, h4⟩ := hops_node (vwB_of hv hs ht) (show z ∈ hopsL (n : Int) ls s t by rw [hh]; simp)
      have := rk_lt h1 h3 h4
      rw [hp]
      exact .step hst hh hs h0 (ih z h1 h3 (by omega))
theorem IsP.head {s : Int} {p : List Int} (h : IsP n ls t s p) : p[0]? = some s ∧ 0 < p.length := by
  cases h <;> simp
theorem IsP.end {s : Int} {p : List Int} (h : IsP n ls t s p) : p[p.length - 1]? = some t := by
  induction h with
  | last => rfl
  | step _ _ _ _ hp ih =>
    have := hp.head
    rw [List.length_cons, Nat.add_sub_cancel, List.getElem?_cons]
    rw [if_neg (by omega)]
    exact ih
theorem IsP.len (hv : gvB (n : Int) ls = true) (ht : 0 ≤ t ∧ t < (n : Int)) {s : Int} {p : List Int} (h : IsP n ls t s p) : p.length ≤ rk n ls t s + 1 := by
  induction h with
  | last => simp
  | @step s z zs p _ hh hs _ _ ih =>
    obtain ⟨h1, _, h3, h4⟩ := hops_node (vwB_of hv hs ht) (show z ∈ hopsL (n : Int) ls s t by rw [hh]; simp)
    have := rk_lt h1 h3 h4
    simp only [List.length_cons]
    omega
/-- The rest of a shortest path is one. -/
theorem IsP.rest {s : Int} {p : List Int} (h : IsP n ls t s p) : ∀ {k : Nat} {x : Int}, p[k]? = some x → IsP n ls t x (p.drop k) := by
  induction h with
  | last =>
    intro k x hx
    have := (List.getElem?_eq_some_iff.1 hx).1
    obtain rfl : k = 0 := by simpa using this
    simp at hx
    subst hx
    exact .last
  | step h1 h2 h3 h4 hp ih =>
    intro k x hx
    cases k with
    | zero =>
      simp at hx
      subst hx
      exact .step h1 h2 h3 h4 hp
    | succ k => exact ih (by simpa using hx)
theorem IsP.uniq {s : Int} {p q : List Int} (h : IsP n ls t s p) (h' : IsP n ls t s q) : p = q := by
  induction h generalizing q with
  | last =>
    cases h' with
    | last => rfl
    | step hne => exact absurd rfl hne
  | step hne hh _ _ _ ih =>
    cases h' with
    | last => exact absurd rfl hne
    | step _ hh' _ _ hp' =>
      rw [hh] at hh'
      cases hh'
      rw [ih hp']
theorem IsP.node (ht : 0 ≤ t ∧ t < (n : Int)) {s : Int} {p : List Int} (h : IsP n ls t s p) : 0 ≤ s ∧ s < (n : Int) := by
  cases h with
  | last => exact ht
  | step _ _ h => exact h
theorem IsP.dist (hv : gvB (n : Int) ls = true) (ht : 0 ≤ t ∧ t < (n : Int)) {s : Int} {p : List Int} (h : IsP n ls t s p) : 0 ≤ bf (n : Int) ls t s := by
  cases h with
  | last => rw [bf_self (gvB_fit hv).1 ht]; omega
  | step _ _ _ h => exact h
/-- Two nodes in a row. -/
theorem IsP.two {s : Int} {p : List Int} (h : IsP n ls t s p) {k : Nat} {x y : Int} (hx : p[k]? = some x) (hy : p[k + 1]? = some y) : x ≠ t ∧ (∃ zs, hopsL (n : Int) ls x t = y :: zs) ∧ (0 ≤ x ∧ x < (n : Int)) ∧ 0 ≤ bf (n : Int) ls t x := by
  have hr := h.rest hx
  have hy2 : (p.drop k)[1]? = some y := by rw [List.getElem?_drop]; exact hy
  generalize p.drop k = q at hr hy2
  cases hr with
  | last => simp at hy2
  | step h1 h2 h3 h4 hp =>
    have := hp.head.1
    simp only [List.getElem?_cons_succ] at hy2
    rw [this] at hy2
    cases hy2
    exact ⟨h1, ⟨_, h2⟩, h3, h4⟩
/-- The link between two nodes in a row. -/
theorem IsP.link (hv : gvB (n : Int) ls = true) (ht : 0 ≤ t ∧ t < (n : Int)) {s : Int} {p : List Int} (h : IsP n ls t s p) {k : Nat} {x y : Int} (hx : p[k]? = some x) (hy : p[k + 1]? = some y) :
    ∃ (j : Nat) (l : Lk), linkI (n : Int) ls x y = j ∧ ls[j]? = some l ∧ l.c = bf (n : Int) ls t x - bf (n : Int) ls t y ∧ l.a = min x y ∧ l.b = max x y ∧ Adj ls x y l.c ∧ 0 ≤ bf (n : Int) ls t y := by
  obtain ⟨h1, ⟨zs, hh⟩, h3, h4⟩ := h.two hx hy
  have hm : y ∈ hopsL (n : Int) ls x t := by rw [hh]; simp
  have hvw := vwB_of hv h3 ht
  obtain ⟨e, ha, h0, he⟩ := (hops_mem hvw).1 hm
  obtain ⟨j, l, e1, e2, ha2, e3, e4⟩ := nbI_link hv ((hops_sub _ _ _ _).mem hm)
  have := adj_uniq hv ha ha2
  exact ⟨j, l, e1, e2, by omega, e3, e4, ha2, h0⟩
/-- Each node of a shortest path divides the distance. -/
theorem IsP.used (hv : gvB (n : Int) ls = true) (ht : 0 ≤ t ∧ t < (n : Int)) {s : Int} {p : List Int} (h : IsP n ls t s p) : ∀ {k : Nat} {x : Int}, p[k]? = some x → 0 ≤ bf (n : Int) ls s x ∧ 0 ≤ bf (n : Int) ls t x ∧ bf (n : Int) ls s x + bf (n : Int) ls t x = bf (n : Int) ls s t ∧ (0 ≤ x ∧ x < (n : Int)) := by
  obtain ⟨hf, _⟩ := gvB_fit hv
  have hs := h.node ht
  have hst : bf (n : Int) ls t s = bf (n : Int) ls s t := bf_symm hf ht hs
  intro k
  induction k with
  | zero =>
    intro x hx
    rw [h.head.1] at hx
    cases hx
    have := h.dist hv ht
    rw [bf_self hf hs]
    omega
  | succ k ih =>
    intro y hy
    obtain ⟨x, hx⟩ : ∃ x, p[k]? = some x := ⟨_, List.getElem?_eq_getElem (by have := (List.getElem?_eq_some_iff.1 hy).1; omega)⟩
    obtain ⟨h1, h2, h3, h4⟩ := ih hx
    obtain ⟨j, l, _, _, hc, _, _, ha, hy0⟩ := h.link hv ht hx hy
    have hr := hf.adj ha
    have he := bf_edge hf hs ha h1
    have htri := bf_node_tri hf hs ht (x := y) (by omega) he.1 hy0
    exact ⟨he.1, hy0, by omega, by omega⟩
theorem IsP.down (hv : gvB (n : Int) ls = true) (ht : 0 ≤ t ∧ t < (n : Int)) {s : Int} {p : List Int} (h : IsP n ls t s p) {i : Nat} {x : Int} (hx : p[i]? = some x) : ∀ {k : Nat} {y : Int}, i < k → p[k]? = some y → bf (n : Int) ls t y < bf (n : Int) ls t x := by
  obtain ⟨hf, _⟩ := gvB_fit hv
  intro k
  induction k with
  | zero => intro y h; omega
  | succ k ih =>
    intro y hik hy
    obtain ⟨z, hz⟩ : ∃ z, p[k]? = some z := ⟨_, List.getElem?_eq_getElem (by have := (List.getElem?_eq_some_iff.1 hy).1; omega)⟩
    obtain ⟨j, l, _, _, hc, _, _, ha, _⟩ := h.link hv ht hz hy
    have := hf.adj ha
    by_cases hk : i = k
    · subst hk
      rw [hx] at hz
      cases hz
      omega
    · have := ih (by omega) hz
      omega
end
end Go.Proofs.Ytohflcbpjjnccab

/-
  Plain facts: the shortest path as the functions answer it.
-/
namespace Go.Proofs.Ytohflcbpjjnccab

def pathI (nn : Int) (ls : List Lk) (s t : Int) : List Int := pathL nn.toNat ls s t
section
variable {n : Nat} {ls : List Lk} {s t : Int}
theorem rk_self (hs : 0 ≤ s ∧ s < (n : Int)) : rk n ls t s < n := by
  have h := filter_lt (p := fun i : Nat => decide (0 ≤ bf (n : Int) ls t (i : Int)) && decide (bf (n : Int) ls t (i : Int) < bf (n : Int) ls t s)) (q := fun _ => true) (xs := List.range n) (fun _ _ _ => rfl) (y := s.toNat) (by simp; omega) (by
    rw [show ((s.toNat : Nat) : Int) = s by omega]
    simp) rfl
  unfold rk
  refine Nat.lt_of_lt_of_le h ?_
  exact Nat.le_trans (List.length_filter_le _ _) (by simp)
theorem path_isP (hv : vwB (n : Int) ls [s, t] = true) (h0 : 0 ≤ bf (n : Int) ls t s) : IsP n ls t s (pathL n ls s t) := by
  obtain ⟨hg, hs, ht⟩ := vwB_two hv
  exact pathL_isP hg ht _ s hs h0 (Nat.le_refl _)
theorem isP_path (hg : gvB (n : Int) ls = true) (ht : 0 ≤ t ∧ t < (n : Int)) {p : List Int} (h : IsP n ls t s p) : p = pathL n ls s t :=
  h.uniq (path_isP (vwB_of hg (h.node ht) ht) (h.dist hg ht))
end
theorem pathI_some {nn : Int} {ls : List Lk} {s t : Int} (h : pathI nn ls s t ≠ []) : ∃ n : Nat, nn = (n : Int) ∧ vwB (n : Int) ls [s, t] = true ∧ 0 ≤ bf (n : Int) ls t s ∧ IsP n ls t s (pathI nn ls s t) := by
  unfold pathI at h ⊢
  obtain ⟨hv, h0⟩ := pathL_some h
  obtain ⟨hg, hs, ht⟩ := vwB_two hv
  have h1 := (gvB_fit hg).2.1
  refine ⟨nn.toNat, by omega, hv, h0, path_isP hv h0⟩
theorem pathI_len (nn : Int) (ls : List Lk) (s t : Int) : (pathI nn ls s t).length ≤ 8 := by
  by_cases h : pathI nn ls s t = []
  · rw [h]; simp
  · obtain ⟨n, rfl, hv, h0, hp⟩ := pathI_some h
    obtain ⟨hg, hs, ht⟩ := vwB_two hv
    have h1 := hp.len hg ht
    have h2 := rk_self (n := n) (ls := ls) (t := t) hs
    have h3 := (gvB_fit hg).2.2.1
    omega
theorem pathI_nil {n : Nat} {ls : List Lk} {s t : Int} (h : ¬ (vwB (n : Int) ls [s, t] = true ∧ 0 ≤ bf (n : Int) ls t s)) : pathI (n : Int) ls s t = [] := by
  unfold pathI
  rw [Int.toNat_natCast]
  exact pathL_none h
theorem pathI_bad {nn : Int} {ls : List Lk} {s t : Int} (h : vwB nn ls [s, t] = false) : pathI nn ls s t = [] := by
  apply Classical.byContradiction
  intro hn
  obtain ⟨n, rfl, hv, _⟩ := pathI_some hn
  rw [hv] at h
  cases h
/-- When the program finds a path. -/
theorem reach_path {nn : Int} {ls : List Lk} {s t : Int} : t ∈ reachL nn ls s ↔ pathI nn ls s t ≠ [] := by
  constructor
  · intro h
    have hne : reachL nn ls s ≠ [] := fun e => by rw [e] at h; simp at h
    obtain ⟨hg, hs⟩ := vwB_inv (reachL_some hne)
    obtain ⟨n, rfl⟩ : ∃ q : Nat, nn = (q : Int) := ⟨nn.toNat, by omega⟩
    obtain ⟨ht, h0⟩ := (reach_mem (vwB_one hg hs) (gvB_fit hg).1 hs).1 h
    have hp := path_isP (vwB_of hg hs ht) (by rw [bf_symm (gvB_fit hg).1 ht hs]; exact h0)
    unfold pathI
    rw [Int.toNat_natCast]
    intro e
    have := hp.head.2
    rw [e] at this
    simp at this
  · intro h
    obtain ⟨n, rfl, hv, h0, _⟩ := pathI_some h
    obtain ⟨hg, hs, ht⟩ := vwB_two hv
    exact (reach_mem (vwB_one hg hs) (gvB_fit hg).1 hs).2 ⟨ht, by rw [bf_symm (gvB_fit hg).1 hs ht]; exact h0⟩
end Go.Proofs.Ytohflcbpjjnccab

/-
  A region that draws its order, in stages: what only reads is walked once, whatever order comes; a call is met where nothing else can come up. One walk for all orders, also where a call answers memory of its own.
-/
namespace Go.Proofs.Ytohflcbpjjnccab
open Go Go.RowKit

/-- Operations that never enter a function. -/
def stillOp (o : Oper) : Bool := match o.op with
  | .move _ | .assign _ | .pick .. | .load .. | .binOp .. | .unOp .. | .fieldAddr .. | .indexAddr .. | .extract .. | .field .. | .index .. | .slice .. => true
  | .call c => match c.callee with
    | .builtin .len => true
    | .builtin .max => true
    | .builtin .min => true
    | _ => false
  | _ => false

theorem bind_value_no {s : Sem Value} {P : Program} {w w' : World} {f : FuncId} {args : Array Value} : (do pure (Next.value (← s)) : Sem Next).run P w ≠ .ok (.enter f args) w' := by
  simp only [Sem.run_bind]
  cases s.run P w with
  | ok x w1 => simp [Result.andThen, Sem.run_pure]
  | halt h w1 => simp [Result.andThen]

theorem stillOp_no {o : Oper} (h : stillOp o = true) (ρ : Operand → Value) (P : Program) (w w' : World) (f : FuncId) (args : Array Value) : (execOp ρ o).run P w ≠ .ok (.enter f args) w' := by
  obtain ⟨dst, op, type, pos, after, guard⟩ := o
  unfold stillOp at h
  unfold execOp
  cases op <;> simp only [Bool.false_eq_true] at h <;> dsimp only
  case move => simp [Sem.run_pure]
  case assign => simp [Sem.run_pure]
  case pick c a b =>
    simp only [Sem.run_bind]
    cases (asBool (ρ c)).run P w with
    | ok x w1 => simp [Result.andThen, Sem.run_pure]
    | halt h w1 => simp [Result.andThen]
  case call c =>
    obtain ⟨callee, cargs, argTypes⟩ := c
    cases callee with
    | value f => simp at h
    | invoke r m => simp at h
    | builtin b =>
      cases b <;> simp only [Bool.false_eq_true] at h <;> simp only [resolve, Sem.run_bind, Sem.run_pure, Result.andThen, invoke, builtin] <;> (intro hh; split at hh <;> cases hh)
  all_goals exact bind_value_no

section
variable {P : Program} {ops : Array Oper} {md : Region.Mode}

/-- As Oper.wp, where whatever was there is left. -/
def wpB (P : Program) (o : Oper) (a : Act) (w : World) (K : Act → World → Prop) : Prop :=
  o.wp P a w (fun a' w' => Below w.heap.size w w' ∧ K a' w') (fun _ _ _ => False)
def wpOpB (P : Program) (ops : Array Oper) (i : Nat) (K : Act → World → Prop) (a : Act) (w : World) : Prop :=
  match ops[i]? with
  | none => K a w
  | some o => if Region.wanted o (yielded ops a.tmps) then wpB P o a w K else K (a.put o.dst undef) w
def wpAnyB (P : Program) (md : Region.Mode) (ops : Array Oper) (R : Act → World → Prop) : Nat → Array Bool → Act → World → Prop
  | 0, listed, a, w => Region.ready md ops listed = [] ∧ R a w
  | fuel + 1, listed, a, w => (Region.ready md ops listed = [] → R a w) ∧ ∀ i ∈ Region.ready md ops listed, wpOpB P ops i (wpAnyB P md ops R fuel (listed.setIfInBounds i true)) a w

theorem wpB_wp {o : Oper} {a : Act} {w : World} {K : Act → World → Prop} {K' : Act → World → Prop} {Q : Exit → Act → World → Prop} (h : ∀ a w, K a w → K' a w) (hh : wpB P o a w K) : o.wp P a w K' Q := by
  unfold wpB Oper.wp at *
  generalize (execOp a.eval o).run P w = r at *
  cases r with
  | ok n w' =>
    cases n <;> simp only [Oper.upon] at hh ⊢
    case value => exact h _ _ hh.2
    case skip => exact h _ _ hh.2
    case defer => exact h _ _ hh.2
    case enter f args =>
      refine Calls.mono hh fun e w'' he => ?_
      cases e with
      | returned v => exact h _ _ he.2
      | panicked c => exact he.elim
      | outgrown => obtain ⟨_, _, h⟩ := he; exact h.elim
    case row => exact Rows.mono hh fun _ _ he => h _ _ he.2
  | halt x w' => cases x <;> simp only [Oper.upon] at hh
theorem wpB_mono {o : Oper} {a : Act} {w : World} {K K' : Act → World → Prop} (h : ∀ a' w', Below w.heap.size w w' → K a' w' → K' a' w') (hh : wpB P o a w K) : wpB P o a w K' :=
  Oper.wp_mono (fun a' w' hb => ⟨hb.1, h a' w' hb.1 hb.2⟩) hh
theorem wpOpB_mono {i : Nat} {a : Act} {w : World} {K K' : Act → World → Prop} (h : ∀ a' w', Below w.heap.size w w' → K a' w' → K' a' w') (hh : wpOpB P ops i K a w) : wpOpB P ops i K' a w := by
  unfold wpOpB at *
  split
  · exact h _ _ (Below.refl _ _) (by simpa [*] using hh)
  · rename_i o ho
    simp only [ho] at hh
    split
    · rename_i hw; simp only [hw, if_true] at hh; exact wpB_mono h hh
    · rename_i hw; simp only [hw] at hh; exact h _ _ (Below.refl _ _) hh
theorem wpAny_of_B {R : Act → World → Prop} {Q : Exit → Act → World → Prop} (hQ : ∀ a w, R a w → Q .normal a w) : ∀ (fuel : Nat) (listed : Array Bool) (a : Act) (w : World), wpAnyB P md ops R fuel listed a w → wpAny P md ops Q fuel listed a w
  | 0, _, _, _, h => ⟨h.1, hQ _ _ h.2⟩
  | fuel + 1, _, a, w, h => ⟨fun h0 => hQ _ _ (h.1 h0), fun i hi => by
      have hh := h.2 i hi
      unfold wpOpB at hh
      unfold wpOp
      split
      · rename_i ho; simp only [ho] at hh; exact wpAny_of_B hQ fuel _ _ _ hh
      · rename_i o ho
        simp only [ho] at hh
        split
        · rename_i hw; simp only [hw, if_true] at hh; exact .inl (wpB_wp (fun a' w' => wpAny_of_B hQ fuel _ a' w') hh)
        · rename_i hw; simp only [hw] at hh; exact wpAny_of_B hQ fuel _ _ _ hh⟩

/-- In whatever world has grown from w, the operation yields v and leaves that world. -/
def YieldsB (P : Program) (ops : Array Oper) (o : Oper) (v : Value) (a : Act) (w : World) : Prop :=
  (Region.wanted o (yielded ops a.tmps) = true ∧ ∀ w', Below w.heap.size w w' → (execOp a.eval o).run P w' = .ok (.value v) w' ∨ ((execOp a.eval o).run P w' = .ok .skip w' ∧ v = undef)) ∨
  (Region.wanted o (yielded ops a.tmps) = false ∧ v = undef)
theorem YieldsB.wpOpB {i : Nat} {o : Oper} {v : Value} {a : Act} {w : World} (hi : ops[i]? = some o) (hy : YieldsB P ops o v a w) {K : Act → World → Prop} (h : K (a.put o.dst v) w) : wpOpB P ops i K a w := by
  unfold Go.Proofs.Ytohflcbpjjnccab.wpOpB
  simp only [hi]
  rcases hy with ⟨hw, hv⟩ | ⟨hw, rfl⟩
  · simp only [hw, if_true]
    unfold wpB Oper.wp
    rcases hv w (Below.refl _ _) with e | ⟨e, rfl⟩ <;> rw [e] <;> exact ⟨Below.refl _ _, h⟩
  · simp only [hw, Bool.false_eq_true, if_false]; exact h
theorem YieldsB.of_same {o : Oper} {v : Value} {a a' : Act} {w : World} (hy : YieldsB P ops o v a w) (he : execOp a'.eval o = execOp a.eval o)
    (hw : Region.wanted o (yielded ops a'.tmps) = Region.wanted o (yielded ops a.tmps)) : YieldsB P ops o v a' w := by
  unfold YieldsB at *
  rw [he, hw]
  exact hy
theorem YieldsB.grow {o : Oper} {v : Value} {a : Act} {w w1 : World} (hy : YieldsB P ops o v a w) (hb : Below w.heap.size w w1) : YieldsB P ops o v a w1 := by
  rcases hy with ⟨h1, h2⟩ | h
  · exact .inl ⟨h1, fun w' h' => h2 w' (hb.trans (h'.mono hb.size))⟩
  · exact .inr h
theorem wpOpB_put {j : Nat} {oi oj : Oper} {v : Value} (hj : ops[j]? = some oj) (hap : oi.apart ops oj = true)
    (hsi : ∀ cs b, oi.op ≠ .select cs b) (hsj : ∀ cs b, oj.op ≠ .select cs b) {K : Act → World → Prop} {a : Act} {w : World}
    (hy : YieldsB P ops oi v a w) (h : wpOpB P ops j K (a.put oi.dst v) w) :
    wpOpB P ops j (fun a' w' => YieldsB P ops oi v a' w' ∧ K (a'.put oi.dst v) w') a w := by
  obtain ⟨h1, h2, h3⟩ := Oper.apart_spec hap
  have keep : ∀ (a : Act) (w : World), YieldsB P ops oi v a w → ∀ u, YieldsB P ops oi v (a.put oj.dst u) w := fun a w hy u =>
    hy.of_same (execOp_put oi hsi a oj.dst u h3) (wanted_put oi a oj.dst u h3)
  have keepD : ∀ d, YieldsB P ops oi v { a with defers := d :: a.defers } w := fun d => hy.of_same rfl rfl
  unfold wpOpB at *
  simp only [hj] at *
  rw [wanted_put oj a oi.dst v h1] at h
  split
  · rename_i hw
    simp only [hw, if_true] at h
    unfold wpB Oper.wp at *
    rw [execOp_put oj hsj a oi.dst v h1] at h
    generalize (execOp a.eval oj).run P w = r at *
    cases r with
    | ok n w' =>
      cases n <;> simp only [Oper.upon] at h ⊢
      case value u => exact ⟨h.1, keep a w' (hy.grow h.1) u, by rw [← Act.put_comm a v u h2]; exact h.2⟩
      case skip => exact ⟨h.1, keep a w' (hy.grow h.1) _, by rw [← Act.put_comm a v undef h2]; exact h.2⟩
      case defer d =>
        refine ⟨h.1, keep _ w' ((keepD d).grow h.1) _, ?_⟩
        rw [← Act.put_comm _ v undef h2, ← Act.put_defers]
        exact h.2
      case enter f args =>
        refine Calls.mono h fun e w'' he => ?_
        cases e with
        | returned u => exact ⟨he.1, keep a w'' (hy.grow he.1) u, by rw [← Act.put_comm a v u h2]; exact he.2⟩
        | panicked c => exact he
        | outgrown => exact he
      case row row args => exact Rows.mono h fun u w'' he => ⟨he.1, keep a w'' (hy.grow he.1) u, by rw [← Act.put_comm a v u h2]; exact he.2⟩
    | halt x w' => cases x <;> simp only [Oper.upon] at h ⊢
  · rename_i hw
    simp only [hw] at h
    exact ⟨keep a w hy _, by rw [← Act.put_comm a v undef h2]; exact h⟩

theorem wpAnyB_first {R : Act → World → Prop} {i : Nat} {oi : Oper} {v : Value} (hi : ops[i]? = some oi) (hsel : ∀ (j : Nat) (o : Oper) cs b, ops[j]? = some o → o.op ≠ .select cs b) :
    ∀ (fuel : Nat) (listed : Array Bool) (a : Act) (w : World),
      (∀ j oj, ops[j]? = some oj → j ≠ i → listed.getD j true = false → (∀ e ∈ oj.after, Region.binds md e = true → e.on ≠ i) → oi.apart ops oj = true) →
      i ∈ Region.ready md ops listed → YieldsB P ops oi v a w →
      wpAnyB P md ops R fuel (listed.setIfInBounds i true) (a.put oi.dst v) w → wpAnyB P md ops R (fuel + 1) listed a w := by
  intro fuel
  induction fuel with
  | zero =>
    intro listed a w _ hr hy H
    refine ⟨fun h => (by rw [h] at hr; cases hr), fun j hj => ?_⟩
    by_cases hji : j = i
    · subst hji; exact hy.wpOpB hi H
    · have := ready_mono hj hji
      rw [H.1] at this
      cases this
  | succ fuel ih =>
    intro listed a w hfree hr hy H
    refine ⟨fun h => (by rw [h] at hr; cases hr), fun j hj => ?_⟩
    by_cases hji : j = i
    · subst hji; exact hy.wpOpB hi H
    · have h1 := H.2 j (ready_mono hj hji)
      obtain ⟨hjun, oj, hoj, hall⟩ := mem_ready.1 hj
      have hnot : ∀ e ∈ oj.after, Region.binds md e = true → e.on ≠ i := fun e he hb heq => by
        have h1 := hall e he hb
        have h0 := (mem_ready.1 hr).1
        rw [heq] at h1
        rcases Nat.lt_or_ge i listed.size with h' | h'
        · simp [h'] at h0 h1; rw [h0] at h1; cases h1
        · simp [Array.getElem?_eq_none h'] at h1
      have h2 := wpOpB_put hoj (hfree j oj hoj hji hjun hnot) (fun cs b => hsel i oi cs b hi) (fun cs b => hsel j oj cs b hoj) hy h1
      have hfree' : ∀ k ok, ops[k]? = some ok → k ≠ i → (listed.setIfInBounds j true).getD k true = false →
          (∀ e ∈ ok.after, Region.binds md e = true → e.on ≠ i) → oi.apart ops ok = true := fun k ok hk hki hun hno => by
        refine hfree k ok hk hki ?_ hno
        by_cases hjk : j = k
        · subst hjk; exact hjun
        · rw [getD_set_ne true hjk] at hun; exact hun
      refine wpOpB_mono (fun a' w' _ h3 => ih (listed.setIfInBounds j true) a' w' hfree' (ready_mono hr (Ne.symm hji)) h3.1 ?_) h2
      rw [Array.setIfInBounds_comm _ _ hji]
      exact h3.2

/-! ### The walk, in stages: operations that only read (in any order that fits), then a call, and so on -/
/-- The places of a segment, one after another: each may come up, and may be taken first. -/
def segB (md : Region.Mode) (ops : Array Oper) : List Nat → Array Bool → Bool
  | [], _ => true
  | i :: is, listed => (Region.ready md ops listed).contains i && Region.free md ops listed i && ((ops[i]?).map stillOp).getD false && segB md ops is (listed.setIfInBounds i true)
def setAll : List Nat → Array Bool → Array Bool
  | [], l => l
  | i :: is, l => setAll is (l.setIfInBounds i true)

/-- A segment that only reads: the walk is wpQuiet's, over the worlds that have grown from w. -/
theorem wpAnyB_seg {R : Act → World → Prop} {w : World} (hs : Region.noSelect ops = true) {fuel : Nat} : ∀ (is : List Nat) (l : List Oper) (listed : Array Bool) (a : Act),
    l.map some = is.map (fun i => ops[i]?) → segB md ops is listed = true →
    wpQuiet P ops (fun w' => ∃ x : Ext w, w' = x.w) (fun a' => wpAnyB P md ops R fuel (setAll is listed) a' w) l a → wpAnyB P md ops R (fuel + is.length) listed a w
  | [], [], _, _, _, _, h => h
  | [], _ :: _, _, _, e, _, _ => by simp at e
  | _ :: _, [], _, _, e, _, _ => by simp at e
  | i :: is, o :: l, listed, a, e, hB, h => by
    simp only [List.map_cons, List.cons.injEq] at e
    have h0 : ops[i]? = some o := e.1.symm
    simp only [segB, Bool.and_eq_true, h0, Option.map_some, Option.getD_some] at hB
    obtain ⟨⟨⟨hr, hf⟩, hst⟩, hB'⟩ := hB
    have hh : ∃ v, YieldsB P ops o v a w ∧ wpQuiet P ops (fun w' => ∃ x : Ext w, w' = x.w) (fun a' => wpAnyB P md ops R fuel (setAll is (listed.setIfInBounds i true)) a' w) l (a.put o.dst v) := by
      unfold wpQuiet at h
      by_cases hw : Region.wanted o (yielded ops a.tmps) = true
      · rw [if_pos hw] at h
        obtain ⟨v, h1, h2⟩ := h
        refine ⟨v, .inl ⟨hw, fun w' hb => ?_⟩, h2⟩
        have h3 := h1 w' ⟨⟨w', hb⟩, rfl⟩
        unfold Oper.quietAt at h3
        have hno := fun f args w'' => stillOp_no hst a.eval P w' w'' f args
        generalize (execOp a.eval o).run P w' = r at *
        cases r with
        | ok n w'' =>
          cases n <;> simp only [Oper.quietUpon] at h3
          case value u => obtain ⟨rfl, rfl⟩ := h3; exact .inl rfl
          case skip => obtain ⟨rfl, rfl⟩ := h3; exact .inr ⟨rfl, rfl⟩
          case enter f args => exact absurd rfl (hno f args w'')
        | halt x w'' => simp only [Oper.quietUpon] at h3
      · rw [if_neg hw] at h
        exact ⟨undef, .inr ⟨by simpa using hw, rfl⟩, h⟩
    obtain ⟨v, hy, hK⟩ := hh
    have := wpAnyB_seg (R := R) (w := w) hs (fuel := fuel) is l (listed.setIfInBounds i true) (a.put o.dst v) e.2 hB' hK
    exact wpAnyB_first h0 (Region.noSelect_spec hs) (fuel + is.length) listed a w (Region.free_spec h0 hf) (by simpa using hr) hy this

def nilOp : Oper := { dst := none, op := .move (.const undef), type := 0, pos := "", after := #[], guard := none }
/-- The same over a list written out; 'n' operations are left, 'm' behind the segment. -/
theorem stage_seg {R : Act → World → Prop} {w : World} {l : List Oper} (n m : Nat) (is : List Nat) {listed : Array Bool} {a : Act} (hs : Region.noSelect l.toArray = true) (hn : n = m + is.length) (hB : segB md l.toArray is listed = true) (hl : is.all (fun i => i < l.length) = true)
    (h : wpQuiet P l.toArray (fun w' => ∃ x : Ext w, w' = x.w) (fun a' => wpAnyB P md l.toArray R m (setAll is listed) a' w) (is.map fun i => (l[i]?).getD nilOp) a) : wpAnyB P md l.toArray R n listed a w := by
  subst hn
  refine wpAnyB_seg hs is _ listed a ?_ hB h
  simp only [List.all_eq_true, decide_eq_true_eq] at hl
  rw [List.map_map]
  refine List.map_congr_left fun i hi => ?_
  have := hl i hi
  simp [List.getElem?_eq_getElem this]

/-- A call where nothing else can come up. -/
theorem stage_call {R : Act → World → Prop} {w : World} {l : List Oper} (n m : Nat) (i : Nat) {o : Oper} {listed : Array Bool} {a : Act} (hn : n = m + 1) (hi : l[i]? = some o) (hr : Region.ready md l.toArray listed = [i]) (hw : Region.wanted o (yielded l.toArray a.tmps) = true)
    (h : o.wp P a w (fun a' w' => Below w.heap.size w w' ∧ wpAnyB P md l.toArray R m (listed.setIfInBounds i true) a' w') (fun _ _ _ => False)) : wpAnyB P md l.toArray R n listed a w := by
  subst hn
  refine ⟨fun h0 => (by rw [hr] at h0; cases h0), fun j hj => ?_⟩
  rw [hr] at hj
  obtain rfl : j = i := by simpa using hj
  have hi' : l.toArray[j]? = some o := by simpa using hi
  unfold wpOpB
  simp only [hi', hw, if_true]
  exact h
theorem stage_skip {R : Act → World → Prop} {w : World} {l : List Oper} (n m : Nat) (i : Nat) {o : Oper} {listed : Array Bool} {a : Act} (hn : n = m + 1) (hi : l[i]? = some o) (hr : Region.ready md l.toArray listed = [i]) (hw : Region.wanted o (yielded l.toArray a.tmps) = false)
    (h : wpAnyB P md l.toArray R m (listed.setIfInBounds i true) (a.put o.dst undef) w) : wpAnyB P md l.toArray R n listed a w := by
  subst hn
  refine ⟨fun h0 => (by rw [hr] at h0; cases h0), fun j hj => ?_⟩
  rw [hr] at hj
  obtain rfl : j = i := by simpa using hj
  have hi' : l.toArray[j]? = some o := by simpa using hi
  unfold wpOpB
  simp only [hi', hw, Bool.false_eq_true, if_false]
  exact h
theorem stage_end {R : Act → World → Prop} {w : World} {l : List Oper} {listed : Array Bool} {a : Act} (hr : Region.ready md l.toArray listed = []) (h : R a w) : wpAnyB P md l.toArray R 0 listed a w := ⟨hr, h⟩

theorem wp_region_staged (n : Nat) {id : Nat} {Q : Exit → Act → World → Prop} {a : Act} {w : World} {l : List Oper} (hm : P.follows .mixedOrders = true) (hn : l.length = n)
    (h : wpAnyB P .any l.toArray (fun a' w' => Q .normal a' w') n (Array.replicate n false) a w.drew) : (Code.region id l.toArray true).wp P Q a w := by
  subst hn
  refine wp_region_any hm ?_
  refine wpAny_of_B (R := fun a' w' => Q .normal a' w') (fun _ _ h => h) _ _ _ _ ?_
  simpa using h
end
end Go.Proofs.Ytohflcbpjjnccab

/-
  Plain facts: stacks of labels: the way of each label, where a packet ends, its nodes and its cost.
-/
namespace Go.Proofs.Ytohflcbpjjnccab

/-- A label as two numbers. -/
structure Lb where
  k : Int
  a : Int

/-- The nodes over which a label leads, both ends among them; none where it leads nowhere. -/
def legP (nn : Int) (ls : List Lk) (s : Int) (l : Lb) : List Int :=
  if l.k = 1 then pathI nn ls s l.a
  else if l.k = 2 then (if 0 ≤ l.a then match ls[l.a.toNat]? with
    | some x => if touchB x s = true then [s, acrossI x s] else []
    | none => [] else [])
  else []
def stepO (nn : Int) (ls : List Lk) (s : Int) (l : Lb) : Option Int := (legP nn ls s l).getLast?
/-- Where labels lead, one after the other. -/
def endO (nn : Int) (ls : List Lk) : Int → List Lb → Option Int
  | s, [] => some s
  | s, l :: st => match stepO nn ls s l with
    | some z => endO nn ls z st
    | none => none
/-- The nodes of a packet without the first one. -/
def pthO (nn : Int) (ls : List Lk) : Int → List Lb → List Int
  | _, [] => []
  | s, l :: st => match stepO nn ls s l with
    | some z => (legP nn ls s l).drop 1 ++ pthO nn ls z st
    | none => []
theorem endO_append (nn : Int) (ls : List Lk) (s : Int) (x y : List Lb) : endO nn ls s (x ++ y) = (endO nn ls s x).bind fun z => endO nn ls z y := by
  induction x generalizing s with
  | nil => rfl
  | cons l x ih =>
    simp only [List.cons_append, endO]
    cases stepO nn ls s l with
    | none => rfl
    | some z => exact ih z
theorem pthO_append {nn : Int} {ls : List Lk} {s z : Int} {x : List Lb} (y : List Lb) (h : endO nn ls s x = some z) : pthO nn ls s (x ++ y) = pthO nn ls s x ++ pthO nn ls z y := by
  induction x generalizing s with
  | nil => simp only [endO, Option.some.injEq] at h; subst h; rfl
  | cons l x ih =>
    simp only [endO] at h
    simp only [List.cons_append, pthO]
    cases hs : stepO nn ls s l with
    | none => rw [hs] at h; cases h
    | some u =>
      rw [hs] at h
      dsimp only at h ⊢
      rw [ih h, List.append_assoc]
theorem take_succ' {st : List Lb} {k : Nat} {l : Lb} (h : st[k]? = some l) : st.take (k + 1) = st.take k ++ [l] := by
  rw [List.take_add_one, h]; rfl
theorem endO_one (nn : Int) (ls : List Lk) (s : Int) (l : Lb) : endO nn ls s [l] = stepO nn ls s l := by
  simp only [endO]; cases stepO nn ls s l <;> rfl
theorem endO_next {nn : Int} {ls : List Lk} {s x : Int} {st : List Lb} {k : Nat} {l : Lb} (h : endO nn ls s (st.take k) = some x) (hl : st[k]? = some l) : endO nn ls s (st.take (k + 1)) = stepO nn ls x l := by
  rw [take_succ' hl, endO_append, h]
  exact endO_one nn ls x l
theorem pthO_next {nn : Int} {ls : List Lk} {s x z : Int} {st : List Lb} {k : Nat} {l : Lb} (h : endO nn ls s (st.take k) = some x) (hl : st[k]? = some l) (hz : stepO nn ls x l = some z) :
    pthO nn ls s (st.take (k + 1)) = pthO nn ls s (st.take k) ++ (legP nn ls x l).drop 1 := by
  rw [take_succ' hl, pthO_append _ h]
  simp [pthO, hz]
/-- A stack that fails at a label fails. -/
theorem endO_fail {nn : Int} {ls : List Lk} {s x : Int} {st : List Lb} {k : Nat} {l : Lb} (h : endO nn ls s (st.take k) = some x) (hl : st[k]? = some l) (hz : stepO nn ls x l = none) : endO nn ls s st = none := by
  have h1 := endO_next h hl
  rw [hz] at h1
  have h2 := endO_append nn ls s (st.take (k + 1)) (st.drop (k + 1))
  rw [List.take_append_drop, h1] at h2
  exact h2
theorem endO_upto {nn : Int} {ls : List Lk} {s z : Int} {st : List Lb} (h : endO nn ls s st = some z) (k : Nat) : ∃ x, endO nn ls s (st.take k) = some x := by
  have h2 := endO_append nn ls s (st.take k) (st.drop k)
  rw [List.take_append_drop, h] at h2
  cases hx : endO nn ls s (st.take k) with
  | none => rw [hx] at h2; cases h2
  | some x => exact ⟨x, rfl⟩

def stB (nn : Int) (ls : List Lk) (s : Int) (st : List Lb) : Bool := vwB nn ls [s] && decide (st.length ≤ 8)
/-- Where a stack leads. -/
def endI (nn : Int) (ls : List Lk) (s : Int) (st : List Lb) : Option Int := if stB nn ls s st = true then endO nn ls s st else none
def pathS (nn : Int) (ls : List Lk) (s : Int) (st : List Lb) : List Int := if (endI nn ls s st).isSome = true then s :: pthO nn ls s st else []

/-- The cost of a way. -/
def along (nn : Int) (ls : List Lk) : List Int → Int
  | a :: b :: r => lcost nn ls a b + along nn ls (b :: r)
  | _ => 0
theorem along_join (nn : Int) (ls : List Lk) (xs : List Int) (z : Int) (ys : List Int) : along nn ls (xs ++ z :: ys) = along nn ls (xs ++ [z]) + along nn ls (z :: ys) := by
  induction xs with
  | nil => simp [along]
  | cons a r ih =>
    cases r with
    | nil => simp [along]
    | cons b r =>
      simp only [List.cons_append, along] at ih ⊢
      omega
theorem along_next (nn : Int) (ls : List Lk) {xs : List Int} {k : Nat} {a b : Int} (ha : xs[k]? = some a) (hb : xs[k + 1]? = some b) : along nn ls (xs.take (k + 2)) = along nn ls (xs.take (k + 1)) + lcost nn ls a b := by
  have h1 : xs.take (k + 2) = xs.take k ++ a :: [b] := by
    rw [List.take_add_one, hb, List.take_add_one, ha]
    simp
  have h2 : xs.take (k + 1) = xs.take k ++ [a] := by rw [List.take_add_one, ha]; rfl
  rw [h1, h2, along_join]
  simp [along]
theorem along_one (nn : Int) (ls : List Lk) (xs : List Int) : along nn ls (xs.take 1) = 0 := by
  cases xs <;> simp [along]

def costS (nn : Int) (ls : List Lk) (s : Int) (st : List Lb) : Int := if (endI nn ls s st).isSome = true then along nn ls (s :: pthO nn ls s st) else -1

/-! ### A way over links -/
def Way (ls : List Lk) (p : List Int) : Prop := ∀ (k : Nat) (a b : Int), p[k]? = some a → p[k + 1]? = some b → ∃ e, Adj ls a b e

section
variable {n : Nat} {ls : List Lk} {s : Int}
theorem IsP.way {t : Int} (hv : gvB (n : Int) ls = true) (ht : 0 ≤ t ∧ t < (n : Int)) {p : List Int} (h : IsP n ls t s p) : Way ls p := fun k a b ha hb => by
  obtain ⟨j, l, _, _, _, _, _, hadj, _⟩ := h.link hv ht ha hb
  exact ⟨_, hadj⟩
theorem leg_link {l : Lb} (h2 : l.k = 2) (h : legP (n : Int) ls s l ≠ []) : ∃ (j : Nat) (x : Lk), l.a = (j : Int) ∧ ls[j]? = some x ∧ touchB x s = true ∧ legP (n : Int) ls s l = [s, acrossI x s] := by
  unfold legP at h ⊢
  rw [if_neg (by omega), if_pos h2] at h ⊢
  by_cases h0 : 0 ≤ l.a
  · rw [if_pos h0] at h ⊢
    cases hx : ls[l.a.toNat]? with
    | none => rw [hx] at h; exact absurd rfl h
    | some x =>
      rw [hx] at h
      dsimp only at h ⊢
      by_cases ht : touchB x s = true
      · rw [if_pos ht]; exact ⟨l.a.toNat, x, by omega, hx, ht, rfl⟩
      · rw [if_neg ht] at h; exact absurd rfl h
  · rw [if_neg h0] at h; exact absurd rfl h
theorem leg_kind {nn : Int} {l : Lb} (h : legP nn ls s l ≠ []) : l.k = 1 ∨ l.k = 2 := by
  unfold legP at h
  by_cases h1 : l.k = 1
  · exact .inl h1
  · rw [if_neg h1] at h
    by_cases h2 : l.k = 2
    · exact .inr h2
    · rw [if_neg h2] at h; exact absurd rfl h
theorem link_adj {x : Lk} {j : Nat} (hx : ls[j]? = some x) (ht : touchB x s = true) : Adj ls s (acrossI x s) x.c := by
  refine ⟨x, List.mem_of_getElem? hx, ?_, rfl⟩
  unfold touchB at ht
  unfold acrossI
  simp only [Bool.or_eq_true, decide_eq_true_eq] at ht
  split <;> omega
/-- What the way of a label is like. -/
theorem leg_fact (hv : gvB (n : Int) ls = true) (hs : 0 ≤ s ∧ s < (n : Int)) {l : Lb} (h : legP (n : Int) ls s l ≠ []) :
    ∃ (z : Int), stepO (n : Int) ls s l = some z ∧ (0 ≤ z ∧ z < (n : Int)) ∧ (legP (n : Int) ls s l)[0]? = some s ∧ Way ls (legP (n : Int) ls s l) ∧ (legP (n : Int) ls s l).length ≤ 8 ∧ (legP (n : Int) ls s l)[(legP (n : Int) ls s l).length - 1]? = some z ∧
      (l.k = 1 → z = l.a ∧ 0 ≤ bf (n : Int) ls s z ∧ IsP n ls z s (legP (n : Int) ls s l)) := by
  obtain ⟨hf, hn1, hn8, hl⟩ := gvB_fit hv
  rcases leg_kind h with h1 | h2
  · have e : legP (n : Int) ls s l = pathI (n : Int) ls s l.a := by unfold legP; rw [if_pos h1]
    unfold stepO
    rw [e] at h ⊢
    obtain ⟨m, hm, hvw, h0, hp⟩ := pathI_some h
    obtain rfl : n = m := by omega
    obtain ⟨_, _, ht⟩ := vwB_two hvw
    have h0' : 0 ≤ bf (n : Int) ls s l.a := by rw [bf_symm hf hs ht]; exact h0
    refine ⟨l.a, ?_, ht, hp.head.1, hp.way hv ht, pathI_len _ _ _ _, hp.end, fun _ => ⟨rfl, h0', hp⟩⟩
    rw [List.getLast?_eq_getElem?]
    exact hp.end
  · obtain ⟨j, x, ha, hx, ht, e⟩ := leg_link h2 h
    have hadj := link_adj hx ht
    have hr := hf.adj hadj
    unfold stepO
    rw [e]
    refine ⟨acrossI x s, by simp, by omega, by simp, ?_, by simp, by simp, fun h => by omega⟩
    intro k a b ha hb
    have hk := (List.getElem?_eq_some_iff.1 hb).1
    obtain rfl : k = 0 := by simp at hk; omega
    simp at ha hb
    subst ha; subst hb
    exact ⟨_, hadj⟩
theorem stepO_leg {nn : Int} {l : Lb} {z : Int} (h : stepO nn ls s l = some z) : legP nn ls s l ≠ [] := by
  intro e; unfold stepO at h; rw [e] at h; cases h
theorem stepO_none {nn : Int} {l : Lb} : stepO nn ls s l = none ↔ legP nn ls s l = [] := by
  unfold stepO; exact List.getLast?_eq_none_iff
theorem stepO_node (hv : gvB (n : Int) ls = true) (hs : 0 ≤ s ∧ s < (n : Int)) {l : Lb} {z : Int} (h : stepO (n : Int) ls s l = some z) : 0 ≤ z ∧ z < (n : Int) := by
  obtain ⟨z', h1, h2, _⟩ := leg_fact hv hs (stepO_leg h)
  rw [h1] at h; cases h
  exact h2
theorem endO_node (hv : gvB (n : Int) ls = true) {st : List Lb} {z : Int} (hs : 0 ≤ s ∧ s < (n : Int)) (h : endO (n : Int) ls s st = some z) : 0 ≤ z ∧ z < (n : Int) := by
  induction st generalizing s with
  | nil => simp only [endO, Option.some.injEq] at h; subst h; exact hs
  | cons l st ih =>
    simp only [endO] at h
    cases hz : stepO (n : Int) ls s l with
    | none => rw [hz] at h; cases h
    | some u => rw [hz] at h; exact ih (stepO_node hv hs hz) h
/-- A label's way begins at its node: a way is its first node and the rest. -/
theorem leg_cons (hv : gvB (n : Int) ls = true) (hs : 0 ≤ s ∧ s < (n : Int)) {l : Lb} (h : legP (n : Int) ls s l ≠ []) : legP (n : Int) ls s l = s :: (legP (n : Int) ls s l).drop 1 := by
  obtain ⟨z, _, _, h0, _⟩ := leg_fact hv hs h
  cases hp : legP (n : Int) ls s l with
  | nil => exact absurd hp h
  | cons a r => rw [hp] at h0; simp at h0; subst h0; rfl
theorem leg_snoc {l : Lb} {z : Int} (h : stepO (n : Int) ls s l = some z) : ∃ q, legP (n : Int) ls s l = q ++ [z] := by
  unfold stepO at h
  obtain ⟨q, hq⟩ := List.getLast?_eq_some_iff.1 h
  exact ⟨q, hq⟩
/-- The cost of a label's way. -/
theorem isP_along (hv : gvB (n : Int) ls = true) {t : Int} (ht : 0 ≤ t ∧ t < (n : Int)) {p : List Int} (h : IsP n ls t s p) : along (n : Int) ls p = bf (n : Int) ls t s := by
  obtain ⟨hf, _⟩ := gvB_fit hv
  induction h with
  | last => simp [along, bf_self hf ht]
  | @step s z zs p h1 h2 h3 h4 hp ih =>
    have hh := hp.head
    cases p with
    | nil => simp at hh
    | cons b r =>
      simp at hh
      subst hh
      simp only [along]
      rw [ih]
      have hm : b ∈ hopsL (n : Int) ls s t := by rw [h2]; simp
      obtain ⟨e, ha, h0, he⟩ := (hops_mem (vwB_of hv h3 ht)).1 hm
      rw [lcost_eq hv ha]
      omega
def legC (nn : Int) (ls : List Lk) (s z : Int) (l : Lb) : Int := if l.k = 2 then costAt ls l.a.toNat else bf nn ls s z
theorem leg_along (hv : gvB (n : Int) ls = true) (hs : 0 ≤ s ∧ s < (n : Int)) {l : Lb} {z : Int} (h : stepO (n : Int) ls s l = some z) : along (n : Int) ls (legP (n : Int) ls s l) = legC (n : Int) ls s z l := by
  have hne := stepO_leg h
  obtain ⟨z', h1, h2, _, _, _, _, h3⟩ := leg_fact hv hs hne
  rw [h1] at h; cases h
  unfold legC
  rcases leg_kind hne with hk | hk
  · obtain ⟨rfl, h0, hp⟩ := h3 hk
    rw [if_neg (by omega), isP_along hv h2 hp, bf_symm (gvB_fit hv).1 h2 hs]
  · obtain ⟨j, x, ha, hx, ht, e⟩ := leg_link hk hne
    rw [if_pos hk, e, ha, Int.toNat_natCast, costAt_at hx]
    simp only [along]
    rw [lcost_eq hv (link_adj hx ht)]
    omega
def legsC (nn : Int) (ls : List Lk) : Int → List Lb → Int
  | _, [] => 0
  | s, l :: st => match stepO nn ls s l with
    | some z => legC nn ls s z l + legsC nn ls z st
    | none => 0
theorem along_legs (hv : gvB (n : Int) ls = true) {st : List Lb} {z : Int} (hs : 0 ≤ s ∧ s < (n : Int)) (h : endO (n : Int) ls s st = some z) : along (n : Int) ls (s :: pthO (n : Int) ls s st) = legsC (n : Int) ls s st := by
  induction st generalizing s with
  | nil => simp [pthO, along, legsC]
  | cons l st ih =>
    simp only [endO] at h
    simp only [pthO, legsC]
    cases hz : stepO (n : Int) ls s l with
    | none => rw [hz] at h; cases h
    | some u =>
      rw [hz] at h
      dsimp only at h ⊢
      have hu := stepO_node hv hs hz
      obtain ⟨q, hq⟩ := leg_snoc hz
      have hc := leg_cons hv hs (stepO_leg hz)
      have e : s :: ((legP (n : Int) ls s l).drop 1 ++ pthO (n : Int) ls u st) = q ++ u :: pthO (n : Int) ls u st := by
        rw [← List.cons_append, ← hc, hq]; simp
      rw [e, along_join, ← hq, ih hu h, leg_along hv hs hz]
theorem legsC_append {nn : Int} {z : Int} {x : List Lb} (y : List Lb) (h : endO nn ls s x = some z) : legsC nn ls s (x ++ y) = legsC nn ls s x + legsC nn ls z y := by
  induction x generalizing s with
  | nil => simp only [endO, Option.some.injEq] at h; subst h; simp [legsC]
  | cons l x ih =>
    simp only [endO] at h
    simp only [List.cons_append, legsC]
    cases hs : stepO nn ls s l with
    | none => rw [hs] at h; cases h
    | some u =>
      rw [hs] at h
      dsimp only at h ⊢
      rw [ih h]; omega
theorem legsC_next {nn : Int} {x z : Int} {st : List Lb} {k : Nat} {l : Lb} (h : endO nn ls s (st.take k) = some x) (hl : st[k]? = some l) (hz : stepO nn ls x l = some z) :
    legsC nn ls s (st.take (k + 1)) = legsC nn ls s (st.take k) + legC nn ls x z l := by
  rw [take_succ' hl, legsC_append _ h]
  simp [legsC, hz]
theorem Way.join {xs ys : List Int} {z : Int} (h1 : Way ls (xs ++ [z])) (h2 : Way ls (z :: ys)) : Way ls (xs ++ z :: ys) := fun k a b ha hb => by
  by_cases h : k + 1 ≤ xs.length
  · have e : ∀ i, i ≤ xs.length → (xs ++ z :: ys)[i]? = (xs ++ [z])[i]? := fun i hi => by
      by_cases hh : i < xs.length
      · rw [List.getElem?_append_left hh, List.getElem?_append_left hh]
      · obtain rfl : i = xs.length := by omega
        rw [List.getElem?_append_right (Nat.le_refl _), List.getElem?_append_right (Nat.le_refl _)]
        simp
    exact h1 k a b (by rw [← e k (by omega)]; exact ha) (by rw [← e (k + 1) h]; exact hb)
  · rw [List.getElem?_append_right (by omega)] at ha hb
    refine h2 (k - xs.length) a b ha ?_
    rw [← hb]; congr 1; omega
theorem Way.single (ls : List Lk) (z : Int) : Way ls [z] := fun k a b _ hb => by
  have := (List.getElem?_eq_some_iff.1 hb).1
  simp at this
/-- The nodes of a packet: a way from its first node to its end. -/
theorem pth_way (hv : gvB (n : Int) ls = true) {st : List Lb} {z : Int} (hs : 0 ≤ s ∧ s < (n : Int)) (h : endO (n : Int) ls s st = some z) :
    Way ls (s :: pthO (n : Int) ls s st) ∧ (s :: pthO (n : Int) ls s st).getLast? = some z ∧ (pthO (n : Int) ls s st).length ≤ 7 * st.length := by
  induction st generalizing s with
  | nil => simp only [endO, Option.some.injEq] at h; subst h; exact ⟨Way.single _ _, rfl, by simp [pthO]⟩
  | cons l st ih =>
    simp only [endO] at h
    simp only [pthO]
    cases hz : stepO (n : Int) ls s l with
    | none => rw [hz] at h; cases h
    | some u =>
      rw [hz] at h
      dsimp only at h ⊢
      have hu := stepO_node hv hs hz
      have hne := stepO_leg hz
      obtain ⟨q, hq⟩ := leg_snoc hz
      have hc := leg_cons hv hs hne
      obtain ⟨_, _, _, _, hw, h8, _⟩ := leg_fact hv hs hne
      have e : s :: ((legP (n : Int) ls s l).drop 1 ++ pthO (n : Int) ls u st) = q ++ u :: pthO (n : Int) ls u st := by
        rw [← List.cons_append, ← hc, hq]; simp
      obtain ⟨i1, i2, i3⟩ := ih hu h
      rw [e]
      refine ⟨Way.join (by rw [← hq]; exact hw) i1, ?_, ?_⟩
      · rw [List.getLast?_append, i2]; rfl
      · simp only [List.length_append, List.length_drop, List.length_cons]
        omega
end
theorem pathS_len (nn : Int) (ls : List Lk) (s : Int) (st : List Lb) : (pathS nn ls s st).length ≤ 57 := by
  unfold pathS endI
  by_cases h : stB nn ls s st = true
  · rw [if_pos h]
    cases he : endO nn ls s st with
    | none => simp
    | some z =>
      simp only [Option.isSome_some, if_true, List.length_cons]
      unfold stB at h
      simp only [Bool.and_eq_true, decide_eq_true_eq] at h
      obtain ⟨hg, hs⟩ := vwB_inv h.1
      obtain ⟨n, rfl⟩ : ∃ q : Nat, nn = (q : Int) := ⟨nn.toNat, by omega⟩
      have := (pth_way hg hs he).2.2
      omega
  · rw [if_neg h]; simp

end Go.Proofs.Ytohflcbpjjnccab

/-
  Contracts over this seat: labels in memory: what the exact laws do with them.
-/
namespace Go.Proofs.Ytohflcbpjjnccab
open Go.RowKit

abbrev Lb.v (l : Lb) : Value := .agg #[.int .i64 l.k, .int .i64 l.a]

/-- The slice of address A reads as the labels st, below block B. -/
def Slb (w : World) (B : Nat) (A : Option Addr) (st : List Lb) : Prop :=
  ∀ k l, st[k]? = some l → ∃ b off, A = some ⟨b, off, none⟩ ∧ b < B ∧ w.cell? ⟨b, off + k * 2, none⟩ = some (.int .i64 l.k) ∧ w.cell? ⟨b, off + k * 2 + 1, none⟩ = some (.int .i64 l.a)
theorem Slb.keep {w w' : World} {B : Nat} {A : Option Addr} {ls : List Lb} (h : Slb w B A ls) (hk : ∀ b o, b < B → w'.cell? ⟨b, o, none⟩ = w.cell? ⟨b, o, none⟩) : Slb w' B A ls := by
  intro k l hl
  obtain ⟨b, off, e, hb, h1, h2⟩ := h k l hl
  exact ⟨b, off, e, hb, (hk _ _ hb).trans h1, (hk _ _ hb).trans h2⟩
theorem Slb.below {w w' : World} {B : Nat} {A : Option Addr} {ls : List Lb} (h : Slb w B A ls) (hb : Below B w w') : Slb w' B A ls := h.keep fun b o h => hb.cell (p := ⟨b, o, none⟩) h
theorem Slb.more {w : World} {B B' : Nat} {A : Option Addr} {ls : List Lb} (h : Slb w B A ls) (hb : B ≤ B') : Slb w B' A ls := by
  intro k l hl
  obtain ⟨b, off, e, hb', h1, h2⟩ := h k l hl
  exact ⟨b, off, e, by omega, h1, h2⟩
theorem Slb.alloc {w : World} {B : Nat} {A : Option Addr} {ls : List Lb} (h : Slb w B A ls) (hB : B ≤ w.heap.size) (o : Obj) : Slb (w.alloc o) B A ls :=
  h.below ((Below.refl _ _).alloc hB _)
/-- As it stands in a grown world. -/
theorem Slb.grow {w w' : World} {A : Option Addr} {ls : List Lb} (h : Slb w w.heap.size A ls) (hb : Below w.heap.size w w') : Slb w' w'.heap.size A ls := (h.below hb).more hb.size
theorem Slb.take {w : World} {B : Nat} {A : Option Addr} {ls : List Lb} (h : Slb w B A ls) (d : Nat) : Slb w B A (ls.take d) := by
  intro k l hl
  by_cases hk : k < d
  · rw [List.getElem?_take_of_lt hk] at hl
    exact h k l hl
  · rw [List.getElem?_eq_none (by simp; omega)] at hl
    cases hl
theorem Slb.drop {w : World} {B g off : Nat} {ls : List Lb} (h : Slb w B (some ⟨g, off, none⟩) ls) (d : Nat) : Slb w B (some ⟨g, off + d * 2, none⟩) (ls.drop d) := by
  intro k l hl
  rw [List.getElem?_drop] at hl
  obtain ⟨b, o, he, hb, h1, h2⟩ := h _ _ hl
  cases he
  refine ⟨g, off + d * 2, rfl, hb, ?_, ?_⟩
  · rw [show off + d * 2 + k * 2 = off + (d + k) * 2 by omega]; exact h1
  · rw [show off + d * 2 + k * 2 = off + (d + k) * 2 by omega]; exact h2











def flatB : List Lb → List Value
  | [] => []
  | l :: ls => .int .i64 l.k :: .int .i64 l.a :: flatB ls
theorem flatB_len (ls : List Lb) : (flatB ls).length = ls.length * 2 := by
  induction ls with
  | nil => rfl
  | cons l ls ih => simp [flatB, ih]; omega
theorem flatB_append (xs ys : List Lb) : flatB (xs ++ ys) = flatB xs ++ flatB ys := by
  induction xs with
  | nil => rfl
  | cons l ls ih => simp [flatB, ih]
theorem flatB_at (ls : List Lb) : ∀ (k : Nat) (l : Lb), ls[k]? = some l → (flatB ls)[k * 2]? = some (.int .i64 l.k) ∧ (flatB ls)[k * 2 + 1]? = some (.int .i64 l.a) := by
  induction ls with
  | nil => intro k l h; simp at h
  | cons x ls ih =>
    intro k l h
    cases k with
    | zero =>
      simp at h
      subst h
      exact ⟨rfl, rfl⟩
    | succ k =>
      obtain ⟨h1, h2⟩ := ih k l (by simpa using h)
      rw [show (k + 1) * 2 = k * 2 + 1 + 1 by omega]
      exact ⟨h1, h2⟩
theorem flatB_inv (ls : List Lb) : ∀ (j : Nat) (u : Value), (flatB ls)[j]? = some u → ∃ k l, ls[k]? = some l ∧ ((j = k * 2 ∧ u = .int .i64 l.k) ∨ (j = k * 2 + 1 ∧ u = .int .i64 l.a)) := by
  induction ls with
  | nil => intro j u h; simp [flatB] at h
  | cons x ls ih =>
    intro j u h
    match j, h with
    | 0, h => exact ⟨0, x, rfl, .inl ⟨rfl, by simpa [flatB] using h.symm⟩⟩
    | 1, h => exact ⟨0, x, rfl, .inr ⟨rfl, by simpa [flatB] using h.symm⟩⟩
    | j + 2, h =>
      obtain ⟨k, l, hl, hc⟩ := ih j u (by simpa [flatB] using h)
      refine ⟨k + 1, l, by simpa using hl, ?_⟩
      rcases hc with ⟨e, h⟩ | ⟨e, h⟩
      · exact .inl ⟨by omega, h⟩
      · exact .inr ⟨by omega, h⟩
theorem flatB_one (ls : List Lb) : ∀ u ∈ flatB ls, u.oneCell' = true := by
  intro u hu
  obtain ⟨j, hj⟩ := List.getElem?_of_mem hu
  obtain ⟨k, l, _, h | h⟩ := flatB_inv ls j u hj
  · rw [h.2]; rfl
  · rw [h.2]; rfl
theorem Slb.flat {w : World} {B g off : Nat} {ls : List Lb} (h : Slb w B (some ⟨g, off, none⟩) ls) : ∀ j u, (flatB ls)[j]? = some u → w.cell? ((⟨g, off, none⟩ : Addr).add j) = some u := by
  intro j u hj
  have e : ∀ j, (⟨g, off, none⟩ : Addr).add j = ⟨g, off + j, none⟩ := fun j => by
    unfold Addr.add
    by_cases h : j = 0 <;> simp [h]
  obtain ⟨k, l, hl, hc⟩ := flatB_inv ls j u hj
  obtain ⟨b, o, he, _, h1, h2⟩ := h k l hl
  cases he
  rw [e]
  rcases hc with ⟨rfl, rfl⟩ | ⟨rfl, rfl⟩
  · exact h1
  · exact h2

/-! ### toLabelS, eqLabelS, markLabelS -/

def Uptob (cs : Array Value) (ls : List Lb) (k : Nat) : Prop :=
  ∀ j l, j < k → ls[j]? = some l → cs[j * 2]? = some (.int .i64 l.k) ∧ cs[j * 2 + 1]? = some (.int .i64 l.a)
theorem Uptob.succ {cs : Array Value} {ls : List Lb} {k : Nat} {l : Lb} (h : Uptob cs ls k) (hl : ls[k]? = some l) (hs : k * 2 + 1 < cs.size) :
    Uptob ((cs.setIfInBounds (k * 2) (.int .i64 l.k)).setIfInBounds (k * 2 + 1) (.int .i64 l.a)) ls (k + 1) := by
  intro j m hj hm
  by_cases hjk : j < k
  · obtain ⟨h1, h2⟩ := h j m hjk hm
    simp only [Array.getElem?_setIfInBounds, Array.size_setIfInBounds]
    refine ⟨?_, ?_⟩
    · rw [if_neg (by omega), if_neg (by omega)]; exact h1
    · rw [if_neg (by omega), if_neg (by omega)]; exact h2
  · obtain rfl : j = k := by omega
    rw [hl] at hm
    cases hm
    simp only [Array.getElem?_setIfInBounds, Array.size_setIfInBounds]
    refine ⟨?_, ?_⟩
    · rw [if_neg (by omega), if_pos trivial, if_pos (by omega)]
    · rw [if_pos trivial, if_pos (by omega)]







end Go.Proofs.Ytohflcbpjjnccab

/-
  A region that draws its order, in stages, with memory of the region's own: as Rg, where a stage may keep what lies below a block of its choice.
-/
namespace Go.Proofs.Ytohflcbpjjnccab
open Go Go.RowKit

/-- Worlds in which what lies below block B is as in w. -/
def ExtB (B : Nat) (w : World) : Type := { W : World // Below B w W }
def ExtB.w {B : Nat} {w : World} (x : ExtB B w) : World := x.1
theorem ExtB.below {B : Nat} {w : World} (x : ExtB B w) : Below B w x.w := x.2
instance instNonemptyExtB (B : Nat) (w : World) : Nonempty (ExtB B w) := ⟨⟨w, Below.refl _ _⟩⟩
theorem ExtB.cell {B : Nat} {w : World} (x : ExtB B w) (b o : Nat) (h : b < B) : x.w.cell? ⟨b, o, none⟩ = w.cell? ⟨b, o, none⟩ := x.below.cell (p := ⟨b, o, none⟩) h

theorem below_ad (w : World) (o : Obj) : Below w.heap.size w.drew (w.alloc o).drew := by
  have h := (Below.refl w.heap.size w).alloc (Nat.le_refl _) o
  exact ⟨h.os, h.tape, h.output, h.size, h.block⟩
theorem below_aa (w : World) (o o' : Obj) : Below w.heap.size (w.alloc o) (w.alloc o') := by
  have h1 := (Below.refl w.heap.size w).alloc (Nat.le_refl _) o
  have h2 := (Below.refl w.heap.size w).alloc (Nat.le_refl _) o'
  exact ⟨h2.os.trans h1.os.symm, h2.tape.trans h1.tape.symm, h2.output.trans h1.output.symm, by simp, fun k hk => (h2.block k hk).trans (h1.block k hk).symm⟩
theorem below_dd {B : Nat} {w w' : World} (h : Below B w w') : Below B w.drew w'.drew := ⟨h.os, h.tape, h.output, h.size, h.block⟩

section
variable {P : Program} {ops : Array Oper} {md : Region.Mode}

def wpC (P : Program) (B : Nat) (o : Oper) (a : Act) (w : World) (K : Act → World → Prop) : Prop :=
  o.wp P a w (fun a' w' => Below B w w' ∧ K a' w') (fun _ _ _ => False)
def wpOpC (P : Program) (ops : Array Oper) (B : Nat) (i : Nat) (K : Act → World → Prop) (a : Act) (w : World) : Prop :=
  match ops[i]? with
  | none => K a w
  | some o => if Region.wanted o (yielded ops a.tmps) then wpC P B o a w K else K (a.put o.dst undef) w
def wpAnyC (P : Program) (md : Region.Mode) (ops : Array Oper) (R : Act → World → Prop) : Nat → Nat → Array Bool → Act → World → Prop
  | 0, _, listed, a, w => Region.ready md ops listed = [] ∧ R a w
  | fuel + 1, B, listed, a, w => (Region.ready md ops listed = [] → R a w) ∧ ∀ i ∈ Region.ready md ops listed, wpOpC P ops B i (fun a' w' => ∃ B', B ≤ B' ∧ wpAnyC P md ops R fuel B' (listed.setIfInBounds i true) a' w') a w

theorem wpC_wp {B : Nat} {o : Oper} {a : Act} {w : World} {K : Act → World → Prop} {K' : Act → World → Prop} {Q : Exit → Act → World → Prop} (h : ∀ a w, K a w → K' a w) (hh : wpC P B o a w K) : o.wp P a w K' Q := by
  unfold wpC Oper.wp at *
  generalize (execOp a.eval o).run P w = r at *
  cases r with
  | ok n w' =>
    cases n <;> simp only [Oper.upon] at hh ⊢
    case value => exact h _ _ hh.2
    case skip => exact h _ _ hh.2
    case defer => exact h _ _ hh.2
    case enter f args =>
      refine Calls.mono hh fun e w'' he => ?_
      cases e with
      | returned v => exact h _ _ he.2
      | panicked c => exact he.elim
      | outgrown => obtain ⟨_, _, h⟩ := he; exact h.elim
    case row => exact Rows.mono hh fun _ _ he => h _ _ he.2
  | halt x w' => cases x <;> simp only [Oper.upon] at hh
theorem wpC_mono {B : Nat} {o : Oper} {a : Act} {w : World} {K K' : Act → World → Prop} (h : ∀ a' w', Below B w w' → K a' w' → K' a' w') (hh : wpC P B o a w K) : wpC P B o a w K' :=
  Oper.wp_mono (fun a' w' hb => ⟨hb.1, h a' w' hb.1 hb.2⟩) hh
theorem wpOpC_mono {B i : Nat} {a : Act} {w : World} {K K' : Act → World → Prop} (h : ∀ a' w', Below B w w' → K a' w' → K' a' w') (hh : wpOpC P ops B i K a w) : wpOpC P ops B i K' a w := by
  unfold wpOpC at *
  split
  · exact h _ _ (Below.refl _ _) (by simpa [*] using hh)
  · rename_i o ho
    simp only [ho] at hh
    split
    · rename_i hw; simp only [hw, if_true] at hh; exact wpC_mono h hh
    · rename_i hw; simp only [hw] at hh; exact h _ _ (Below.refl _ _) hh
theorem wpAny_of_C {R : Act → World → Prop} {Q : Exit → Act → World → Prop} (hQ : ∀ a w, R a w → Q .normal a w) : ∀ (fuel B : Nat) (listed : Array Bool) (a : Act) (w : World), wpAnyC P md ops R fuel B listed a w → wpAny P md ops Q fuel listed a w
  | 0, _, _, _, _, h => ⟨h.1, hQ _ _ h.2⟩
  | fuel + 1, B, _, a, w, h => ⟨fun h0 => hQ _ _ (h.1 h0), fun i hi => by
      have hh := h.2 i hi
      unfold wpOpC at hh
      unfold wpOp
      split
      · rename_i ho; simp only [ho] at hh; obtain ⟨B', _, hh⟩ := hh; exact wpAny_of_C hQ fuel _ _ _ _ hh
      · rename_i o ho
        simp only [ho] at hh
        split
        · rename_i hw; simp only [hw, if_true] at hh; exact .inl (wpC_wp (fun a' w' ⟨B', _, h'⟩ => wpAny_of_C hQ fuel B' _ a' w' h') hh)
        · rename_i hw; simp only [hw] at hh; obtain ⟨B', _, hh⟩ := hh; exact wpAny_of_C hQ fuel _ _ _ _ hh⟩

def YieldsC (P : Program) (ops : Array Oper) (B : Nat) (o : Oper) (v : Value) (a : Act) (w : World) : Prop :=
  (Region.wanted o (yielded ops a.tmps) = true ∧ ∀ w', Below B w w' → (execOp a.eval o).run P w' = .ok (.value v) w' ∨ ((execOp a.eval o).run P w' = .ok .skip w' ∧ v = undef)) ∨
  (Region.wanted o (yielded ops a.tmps) = false ∧ v = undef)
theorem YieldsC.wpOpC {B i : Nat} {o : Oper} {v : Value} {a : Act} {w : World} (hi : ops[i]? = some o) (hy : YieldsC P ops B o v a w) {K : Act → World → Prop} (h : K (a.put o.dst v) w) : wpOpC P ops B i K a w := by
  unfold Go.Proofs.Ytohflcbpjjnccab.wpOpC
  simp only [hi]
  rcases hy with ⟨hw, hv⟩ | ⟨hw, rfl⟩
  · simp only [hw, if_true]
    unfold wpC Oper.wp
    rcases hv w (Below.refl _ _) with e | ⟨e, rfl⟩ <;> rw [e] <;> exact ⟨Below.refl _ _, h⟩
  · simp only [hw, Bool.false_eq_true, if_false]; exact h
theorem YieldsC.of_same {B : Nat} {o : Oper} {v : Value} {a a' : Act} {w : World} (hy : YieldsC P ops B o v a w) (he : execOp a'.eval o = execOp a.eval o)
    (hw : Region.wanted o (yielded ops a'.tmps) = Region.wanted o (yielded ops a.tmps)) : YieldsC P ops B o v a' w := by
  unfold YieldsC at *
  rw [he, hw]
  exact hy
theorem YieldsC.grow {B B' : Nat} {o : Oper} {v : Value} {a : Act} {w w1 : World} (hy : YieldsC P ops B o v a w) (hb : Below B w w1) (hB : B ≤ B') : YieldsC P ops B' o v a w1 := by
  rcases hy with ⟨h1, h2⟩ | h
  · exact .inl ⟨h1, fun w' h' => h2 w' (hb.trans (h'.mono hB))⟩
  · exact .inr h
theorem wpOpC_put {B j : Nat} {oi oj : Oper} {v : Value} (hj : ops[j]? = some oj) (hap : oi.apart ops oj = true)
    (hsi : ∀ cs b, oi.op ≠ .select cs b) (hsj : ∀ cs b, oj.op ≠ .select cs b) {K : Act → World → Prop} {a : Act} {w : World}
    (hy : YieldsC P ops B oi v a w) (h : wpOpC P ops B j K (a.put oi.dst v) w) :
    wpOpC P ops B j (fun a' w' => YieldsC P ops B oi v a' w' ∧ K (a'.put oi.dst v) w') a w := by
  obtain ⟨h1, h2, h3⟩ := Oper.apart_spec hap
  have keep : ∀ (a : Act) (w : World), YieldsC P ops B oi v a w → ∀ u, YieldsC P ops B oi v (a.put oj.dst u) w := fun a w hy u =>
    hy.of_same (execOp_put oi hsi a oj.dst u h3) (wanted_put oi a oj.dst u h3)
  have keepD : ∀ d, YieldsC P ops B oi v { a with defers := d :: a.defers } w := fun d => hy.of_same rfl rfl
  have gr : ∀ {a : Act} {w w' : World}, YieldsC P ops B oi v a w → Below B w w' → YieldsC P ops B oi v a w' := fun hy hb => hy.grow hb (Nat.le_refl _)
  unfold wpOpC at *
  simp only [hj] at *
  rw [wanted_put oj a oi.dst v h1] at h
  split
  · rename_i hw
    simp only [hw, if_true] at h
    unfold wpC Oper.wp at *
    rw [execOp_put oj hsj a oi.dst v h1] at h
    generalize (execOp a.eval oj).run P w = r at *
    cases r with
    | ok n w' =>
      cases n <;> simp only [Oper.upon] at h ⊢
      case value u => exact ⟨h.1, keep a w' (gr hy h.1) u, by rw [← Act.put_comm a v u h2]; exact h.2⟩
      case skip => exact ⟨h.1, keep a w' (gr hy h.1) _, by rw [← Act.put_comm a v undef h2]; exact h.2⟩
      case defer d =>
        refine ⟨h.1, keep _ w' (gr (keepD d) h.1) _, ?_⟩
        rw [← Act.put_comm _ v undef h2, ← Act.put_defers]
        exact h.2
      case enter f args =>
        -- the call's own world: what it got is the one that it entered in
        refine Calls.mono h fun e w'' he => ?_
        cases e with
        | returned u => exact ⟨he.1, keep a w'' (gr hy he.1) u, by rw [← Act.put_comm a v u h2]; exact he.2⟩
        | panicked c => exact he
        | outgrown => exact he
      case row row args => exact Rows.mono h fun u w'' he => ⟨he.1, keep a w'' (gr hy he.1) u, by rw [← Act.put_comm a v u h2]; exact he.2⟩
    | halt x w' => cases x <;> simp only [Oper.upon] at h ⊢
  · rename_i hw
    simp only [hw] at h
    exact ⟨keep a w hy _, by rw [← Act.put_comm a v undef h2]; exact h⟩

theorem wpAnyC_first {R : Act → World → Prop} {i : Nat} {oi : Oper} {v : Value} (hi : ops[i]? = some oi) (hsel : ∀ (j : Nat) (o : Oper) cs b, ops[j]? = some o → o.op ≠ .select cs b) :
    ∀ (fuel B : Nat) (listed : Array Bool) (a : Act) (w : World),
      (∀ j oj, ops[j]? = some oj → j ≠ i → listed.getD j true = false → (∀ e ∈ oj.after, Region.binds md e = true → e.on ≠ i) → oi.apart ops oj = true) →
      i ∈ Region.ready md ops listed → YieldsC P ops B oi v a w →
      wpAnyC P md ops R fuel B (listed.setIfInBounds i true) (a.put oi.dst v) w → wpAnyC P md ops R (fuel + 1) B listed a w := by
  intro fuel
  induction fuel with
  | zero =>
    intro B listed a w _ hr hy H
    refine ⟨fun h => (by rw [h] at hr; cases hr), fun j hj => ?_⟩
    by_cases hji : j = i
    · subst hji; exact hy.wpOpC hi ⟨B, Nat.le_refl _, H⟩
    · have := ready_mono hj hji
      rw [H.1] at this
      cases this
  | succ fuel ih =>
    intro B listed a w hfree hr hy H
    refine ⟨fun h => (by rw [h] at hr; cases hr), fun j hj => ?_⟩
    by_cases hji : j = i
    · subst hji; exact hy.wpOpC hi ⟨B, Nat.le_refl _, H⟩
    · have h1 := H.2 j (ready_mono hj hji)
      obtain ⟨hjun, oj, hoj, hall⟩ := mem_ready.1 hj
      have hnot : ∀ e ∈ oj.after, Region.binds md e = true → e.on ≠ i := fun e he hb heq => by
        have h1 := hall e he hb
        have h0 := (mem_ready.1 hr).1
        rw [heq] at h1
        rcases Nat.lt_or_ge i listed.size with h' | h'
        · simp [h'] at h0 h1; rw [h0] at h1; cases h1
        · simp [Array.getElem?_eq_none h'] at h1
      have h2 := wpOpC_put hoj (hfree j oj hoj hji hjun hnot) (fun cs b => hsel i oi cs b hi) (fun cs b => hsel j oj cs b hoj) hy h1
      have hfree' : ∀ k ok, ops[k]? = some ok → k ≠ i → (listed.setIfInBounds j true).getD k true = false →
          (∀ e ∈ ok.after, Region.binds md e = true → e.on ≠ i) → oi.apart ops ok = true := fun k ok hk hki hun hno => by
        refine hfree k ok hk hki ?_ hno
        by_cases hjk : j = k
        · subst hjk; exact hjun
        · rw [getD_set_ne true hjk] at hun; exact hun
      refine wpOpC_mono (fun a' w' _ h3 => ?_) h2
      obtain ⟨hy', B', hB', hK⟩ := h3
      refine ⟨B', hB', ih B' (listed.setIfInBounds j true) a' w' hfree' (ready_mono hr (Ne.symm hji)) (hy'.grow (Below.refl _ _) hB') ?_⟩
      rw [Array.setIfInBounds_comm _ _ hji]
      exact hK

theorem wpAnyC_seg {R : Act → World → Prop} {B : Nat} {w : World} (hs : Region.noSelect ops = true) {fuel : Nat} : ∀ (is : List Nat) (l : List Oper) (listed : Array Bool) (a : Act),
    l.map some = is.map (fun i => ops[i]?) → segB md ops is listed = true →
    wpQuiet P ops (fun w' => ∃ x : ExtB B w, w' = x.w) (fun a' => wpAnyC P md ops R fuel B (setAll is listed) a' w) l a → wpAnyC P md ops R (fuel + is.length) B listed a w
  | [], [], _, _, _, _, h => h
  | [], _ :: _, _, _, e, _, _ => by simp at e
  | _ :: _, [], _, _, e, _, _ => by simp at e
  | i :: is, o :: l, listed, a, e, hB, h => by
    simp only [List.map_cons, List.cons.injEq] at e
    have h0 : ops[i]? = some o := e.1.symm
    simp only [segB, Bool.and_eq_true, h0, Option.map_some, Option.getD_some] at hB
    obtain ⟨⟨⟨hr, hf⟩, hst⟩, hB'⟩ := hB
    have hh : ∃ v, YieldsC P ops B o v a w ∧ wpQuiet P ops (fun w' => ∃ x : ExtB B w, w' = x.w) (fun a' => wpAnyC P md ops R fuel B (setAll is (listed.setIfInBounds i true)) a' w) l (a.put o.dst v) := by
      unfold wpQuiet at h
      by_cases hw : Region.wanted o (yielded ops a.tmps) = true
      · rw [if_pos hw] at h
        obtain ⟨v, h1, h2⟩ := h
        refine ⟨v, .inl ⟨hw, fun w' hb => ?_⟩, h2⟩
        have h3 := h1 w' ⟨⟨w', hb⟩, rfl⟩
        unfold Oper.quietAt at h3
        have hno := fun f args w'' => stillOp_no hst a.eval P w' w'' f args
        generalize (execOp a.eval o).run P w' = r at *
        cases r with
        | ok n w'' =>
          cases n <;> simp only [Oper.quietUpon] at h3
          case value u => obtain ⟨rfl, rfl⟩ := h3; exact .inl rfl
          case skip => obtain ⟨rfl, rfl⟩ := h3; exact .inr ⟨rfl, rfl⟩
          case enter f args => exact absurd rfl (hno f args w'')
        | halt x w'' => simp only [Oper.quietUpon] at h3
      · rw [if_neg hw] at h
        exact ⟨undef, .inr ⟨by simpa using hw, rfl⟩, h⟩
    obtain ⟨v, hy, hK⟩ := hh
    have := wpAnyC_seg (R := R) (B := B) (w := w) hs (fuel := fuel) is l (listed.setIfInBounds i true) (a.put o.dst v) e.2 hB' hK
    exact wpAnyC_first h0 (Region.noSelect_spec hs) (fuel + is.length) B listed a w (Region.free_spec h0 hf) (by simpa using hr) hy this

theorem stg_seg {R : Act → World → Prop} {B : Nat} {w : World} {l : List Oper} (n m : Nat) (is : List Nat) {listed : Array Bool} {a : Act} (hs : Region.noSelect l.toArray = true) (hn : n = m + is.length) (hB : segB md l.toArray is listed = true) (hl : is.all (fun i => i < l.length) = true)
    (h : wpQuiet P l.toArray (fun w' => ∃ x : ExtB B w, w' = x.w) (fun a' => wpAnyC P md l.toArray R m B (setAll is listed) a' w) (is.map fun i => (l[i]?).getD nilOp) a) : wpAnyC P md l.toArray R n B listed a w := by
  subst hn
  refine wpAnyC_seg hs is _ listed a ?_ hB h
  simp only [List.all_eq_true, decide_eq_true_eq] at hl
  rw [List.map_map]
  refine List.map_congr_left fun i hi => ?_
  have := hl i hi
  simp [List.getElem?_eq_getElem this]
/-- An operation that is the only one to come up. -/
theorem stg_one {R : Act → World → Prop} {B : Nat} {w : World} {l : List Oper} (n m : Nat) (i : Nat) {o : Oper} {listed : Array Bool} {a : Act} (hn : n = m + 1) (hi : l[i]? = some o) (hr : Region.ready md l.toArray listed = [i]) (hw : Region.wanted o (yielded l.toArray a.tmps) = true)
    (h : o.wp P a w (fun a' w' => Below B w w' ∧ ∃ B', B ≤ B' ∧ wpAnyC P md l.toArray R m B' (listed.setIfInBounds i true) a' w') (fun _ _ _ => False)) : wpAnyC P md l.toArray R n B listed a w := by
  subst hn
  refine ⟨fun h0 => (by rw [hr] at h0; cases h0), fun j hj => ?_⟩
  rw [hr] at hj
  obtain rfl : j = i := by simpa using hj
  have hi' : l.toArray[j]? = some o := by simpa using hi
  unfold wpOpC
  simp only [hi', hw, if_true]
  exact h
/-- Two operations may come up: both ways. -/
theorem stg_two {R : Act → World → Prop} {B : Nat} {w : World} {l : List Oper} (n m : Nat) (i k : Nat) {o p : Oper} {listed : Array Bool} {a : Act} (hn : n = m + 1) (hi : l[i]? = some o) (hk : l[k]? = some p) (hr : Region.ready md l.toArray listed = [i, k])
    (hw : Region.wanted o (yielded l.toArray a.tmps) = true) (hw' : Region.wanted p (yielded l.toArray a.tmps) = true)
    (h : o.wp P a w (fun a' w' => Below B w w' ∧ ∃ B', B ≤ B' ∧ wpAnyC P md l.toArray R m B' (listed.setIfInBounds i true) a' w') (fun _ _ _ => False))
    (h' : p.wp P a w (fun a' w' => Below B w w' ∧ ∃ B', B ≤ B' ∧ wpAnyC P md l.toArray R m B' (listed.setIfInBounds k true) a' w') (fun _ _ _ => False)) : wpAnyC P md l.toArray R n B listed a w := by
  subst hn
  have hi' : l.toArray[i]? = some o := by simpa using hi
  have hk' : l.toArray[k]? = some p := by simpa using hk
  refine ⟨fun h0 => (by rw [hr] at h0; cases h0), fun j hj => ?_⟩
  rw [hr] at hj
  simp only [List.mem_cons, List.not_mem_nil, or_false] at hj
  unfold wpOpC
  rcases hj with rfl | rfl
  · simp only [hi', hw, if_true]
    exact h
  · simp only [hk', hw', if_true]
    exact h'
theorem stg_end {R : Act → World → Prop} {B : Nat} {w : World} {l : List Oper} {listed : Array Bool} {a : Act} (hr : Region.ready md l.toArray listed = []) (h : R a w) : wpAnyC P md l.toArray R 0 B listed a w := ⟨hr, h⟩
theorem wp_region_stg (n B : Nat) {id : Nat} {Q : Exit → Act → World → Prop} {a : Act} {w : World} {l : List Oper} (hm : P.follows .mixedOrders = true) (hn : l.length = n)
    (h : wpAnyC P .any l.toArray (fun a' w' => Q .normal a' w') n B (Array.replicate n false) a w.drew) : (Code.region id l.toArray true).wp P Q a w := by
  subst hn
  refine wp_region_any hm ?_
  refine wpAny_of_C (R := fun a' w' => Q .normal a' w') (fun _ _ h => h) _ B _ _ _ ?_
  simpa using h
end
end Go.Proofs.Ytohflcbpjjnccab

/-
  A region that draws its order, in stages, with memory of the region's own: as Rg, where a stage keeps all blocks but some of its choice.
-/
namespace Go.Proofs.Ytohflcbpjjnccab
open Go Go.RowKit

/-- Worlds in which all blocks but those of B are as in w. -/
def ExtX (B : Nat → Prop) (w : World) : Type := { W : World // Kx B w W }
def ExtX.w {B : Nat → Prop} {w : World} (x : ExtX B w) : World := x.1
theorem ExtX.below {B : Nat → Prop} {w : World} (x : ExtX B w) : Kx B w x.w := x.2
instance instNonemptyExtX (B : Nat → Prop) (w : World) : Nonempty (ExtX B w) := ⟨⟨w, Kx.refl _ _⟩⟩
theorem Kx.cell {X : Nat → Prop} {a b : World} (h : Kx X a b) {k : Nat} (hk : k < a.heap.size) (hx : ¬ X k) (o : Nat) : b.cell? ⟨k, o, none⟩ = a.cell? ⟨k, o, none⟩ := by
  unfold World.cell?
  rw [h.block k hk hx]
theorem ExtX.cell {B : Nat → Prop} {w : World} (x : ExtX B w) (b o : Nat) (h : b < w.heap.size) (hx : ¬ B b) : x.w.cell? ⟨b, o, none⟩ = w.cell? ⟨b, o, none⟩ := x.below.cell h hx o

section
variable {P : Program} {ops : Array Oper} {md : Region.Mode}

def wpX (P : Program) (B : Nat → Prop) (o : Oper) (a : Act) (w : World) (K : Act → World → Prop) : Prop :=
  o.wp P a w (fun a' w' => Kx B w w' ∧ K a' w') (fun _ _ _ => False)
def wpOpX (P : Program) (ops : Array Oper) (B : Nat → Prop) (i : Nat) (K : Act → World → Prop) (a : Act) (w : World) : Prop :=
  match ops[i]? with
  | none => K a w
  | some o => if Region.wanted o (yielded ops a.tmps) then wpX P B o a w K else K (a.put o.dst undef) w
def wpAnyX (P : Program) (md : Region.Mode) (ops : Array Oper) (R : Act → World → Prop) : Nat → (Nat → Prop) → Array Bool → Act → World → Prop
  | 0, _, listed, a, w => Region.ready md ops listed = [] ∧ R a w
  | fuel + 1, B, listed, a, w => (Region.ready md ops listed = [] → R a w) ∧ ∀ i ∈ Region.ready md ops listed, wpOpX P ops B i (fun a' w' => ∃ B' : Nat → Prop, (∀ k, B' k → B k) ∧ wpAnyX P md ops R fuel B' (listed.setIfInBounds i true) a' w') a w

theorem wpX_wp {B : Nat → Prop} {o : Oper} {a : Act} {w : World} {K : Act → World → Prop} {K' : Act → World → Prop} {Q : Exit → Act → World → Prop} (h : ∀ a w, K a w → K' a w) (hh : wpX P B o a w K) : o.wp P a w K' Q := by
  unfold wpX Oper.wp at *
  generalize (execOp a.eval o).run P w = r at *
  cases r with
  | ok n w' =>
    cases n <;> simp only [Oper.upon] at hh ⊢
    case value => exact h _ _ hh.2
    case skip => exact h _ _ hh.2
    case defer => exact h _ _ hh.2
    case enter f args =>
      refine Calls.mono hh fun e w'' he => ?_
      cases e with
      | returned v => exact h _ _ he.2
      | panicked c => exact he.elim
      | outgrown => obtain ⟨_, _, h⟩ := he; exact h.elim
    case row => exact Rows.mono hh fun _ _ he => h _ _ he.2
  | halt x w' => cases x <;> simp only [Oper.upon] at hh
theorem wpX_mono {B : Nat → Prop} {o : Oper} {a : Act} {w : World} {K K' : Act → World → Prop} (h : ∀ a' w', Kx B w w' → K a' w' → K' a' w') (hh : wpX P B o a w K) : wpX P B o a w K' :=
  Oper.wp_mono (fun a' w' hb => ⟨hb.1, h a' w' hb.1 hb.2⟩) hh
theorem wpOpX_mono {i : Nat} {B : Nat → Prop} {a : Act} {w : World} {K K' : Act → World → Prop} (h : ∀ a' w', Kx B w w' → K a' w' → K' a' w') (hh : wpOpX P ops B i K a w) : wpOpX P ops B i K' a w := by
  unfold wpOpX at *
  split
  · exact h _ _ (Kx.refl _ _) (by simpa [*] using hh)
  · rename_i o ho
    simp only [ho] at hh
    split
    · rename_i hw; simp only [hw, if_true] at hh; exact wpX_mono h hh
    · rename_i hw; simp only [hw] at hh; exact h _ _ (Kx.refl _ _) hh
theorem wpAny_of_X {R : Act → World → Prop} {Q : Exit → Act → World → Prop} (hQ : ∀ a w, R a w → Q .normal a w) : ∀ (fuel : Nat) (B : Nat → Prop) (listed : Array Bool) (a : Act) (w : World), wpAnyX P md ops R fuel B listed a w → wpAny P md ops Q fuel listed a w
  | 0, _, _, _, _, h => ⟨h.1, hQ _ _ h.2⟩
  | fuel + 1, B, _, a, w, h => ⟨fun h0 => hQ _ _ (h.1 h0), fun i hi => by
      have hh := h.2 i hi
      unfold wpOpX at hh
      unfold wpOp
      split
      · rename_i ho; simp only [ho] at hh; obtain ⟨B', _, hh⟩ := hh; exact wpAny_of_X hQ fuel _ _ _ _ hh
      · rename_i o ho
        simp only [ho] at hh
        split
        · rename_i hw; simp only [hw, if_true] at hh; exact .inl (wpX_wp (fun a' w' ⟨B', _, h'⟩ => wpAny_of_X hQ fuel B' _ a' w' h') hh)
        · rename_i hw; simp only [hw] at hh; obtain ⟨B', _, hh⟩ := hh; exact wpAny_of_X hQ fuel _ _ _ _ hh⟩

def YieldsX (P : Program) (ops : Array Oper) (B : Nat → Prop) (o : Oper) (v : Value) (a : Act) (w : World) : Prop :=
  (Region.wanted o (yielded ops a.tmps) = true ∧ ∀ w', Kx B w w' → (execOp a.eval o).run P w' = .ok (.value v) w' ∨ ((execOp a.eval o).run P w' = .ok .skip w' ∧ v = undef)) ∨
  (Region.wanted o (yielded ops a.tmps) = false ∧ v = undef)
theorem YieldsX.wpOpX {i : Nat} {B : Nat → Prop} {o : Oper} {v : Value} {a : Act} {w : World} (hi : ops[i]? = some o) (hy : YieldsX P ops B o v a w) {K : Act → World → Prop} (h : K (a.put o.dst v) w) : wpOpX P ops B i K a w := by
  unfold Go.Proofs.Ytohflcbpjjnccab.wpOpX
  simp only [hi]
  rcases hy with ⟨hw, hv⟩ | ⟨hw, rfl⟩
  · simp only [hw, if_true]
    unfold wpX Oper.wp
    rcases hv w (Kx.refl _ _) with e | ⟨e, rfl⟩ <;> rw [e] <;> exact ⟨Kx.refl _ _, h⟩
  · simp only [hw, Bool.false_eq_true, if_false]; exact h
theorem YieldsX.of_same {B : Nat → Prop} {o : Oper} {v : Value} {a a' : Act} {w : World} (hy : YieldsX P ops B o v a w) (he : execOp a'.eval o = execOp a.eval o)
    (hw : Region.wanted o (yielded ops a'.tmps) = Region.wanted o (yielded ops a.tmps)) : YieldsX P ops B o v a' w := by
  unfold YieldsX at *
  rw [he, hw]
  exact hy
theorem YieldsX.grow {B B' : Nat → Prop} {o : Oper} {v : Value} {a : Act} {w w1 : World} (hy : YieldsX P ops B o v a w) (hb : Kx B w w1) (hB : ∀ k, B' k → B k) : YieldsX P ops B' o v a w1 := by
  rcases hy with ⟨h1, h2⟩ | h
  · exact .inl ⟨h1, fun w' h' => h2 w' (hb.trans (h'.mono fun i _ h => hB i h))⟩
  · exact .inr h
theorem wpOpX_put {j : Nat} {B : Nat → Prop} {oi oj : Oper} {v : Value} (hj : ops[j]? = some oj) (hap : oi.apart ops oj = true)
    (hsi : ∀ cs b, oi.op ≠ .select cs b) (hsj : ∀ cs b, oj.op ≠ .select cs b) {K : Act → World → Prop} {a : Act} {w : World}
    (hy : YieldsX P ops B oi v a w) (h : wpOpX P ops B j K (a.put oi.dst v) w) :
    wpOpX P ops B j (fun a' w' => YieldsX P ops B oi v a' w' ∧ K (a'.put oi.dst v) w') a w := by
  obtain ⟨h1, h2, h3⟩ := Oper.apart_spec hap
  have keep : ∀ (a : Act) (w : World), YieldsX P ops B oi v a w → ∀ u, YieldsX P ops B oi v (a.put oj.dst u) w := fun a w hy u =>
    hy.of_same (execOp_put oi hsi a oj.dst u h3) (wanted_put oi a oj.dst u h3)
  have keepD : ∀ d, YieldsX P ops B oi v { a with defers := d :: a.defers } w := fun d => hy.of_same rfl rfl
  have gr : ∀ {a : Act} {w w' : World}, YieldsX P ops B oi v a w → Kx B w w' → YieldsX P ops B oi v a w' := fun hy hb => hy.grow hb fun _ h => h
  unfold wpOpX at *
  simp only [hj] at *
  rw [wanted_put oj a oi.dst v h1] at h
  split
  · rename_i hw
    simp only [hw, if_true] at h
    unfold wpX Oper.wp at *
    rw [execOp_put oj hsj a oi.dst v h1] at h
    generalize (execOp a.eval oj).run P w = r at *
    cases r with
    | ok n w' =>
      cases n <;> simp only [Oper.upon] at h ⊢
      case value u => exact ⟨h.1, keep a w' (gr hy h.1) u, by rw [← Act.put_comm a v u h2]; exact h.2⟩
      case skip => exact ⟨h.1, keep a w' (gr hy h.1) _, by rw [← Act.put_comm a v undef h2]; exact h.2⟩
      case defer d =>
        refine ⟨h.1, keep _ w' (gr (keepD d) h.1) _, ?_⟩
        rw [← Act.put_comm _ v undef h2, ← Act.put_defers]
        exact h.2
      case enter f args =>
        -- the call's own world: what it got is the one that it entered in
        refine Calls.mono h fun e w'' he => ?_
        cases e with
        | returned u => exact ⟨he.1, keep a w'' (gr hy he.1) u, by rw [← Act.put_comm a v u h2]; exact he.2⟩
        | panicked c => exact he
        | outgrown => exact he
      case row row args => exact Rows.mono h fun u w'' he => ⟨he.1, keep a w'' (gr hy he.1) u, by rw [← Act.put_comm a v u h2]; exact he.2⟩
    | halt x w' => cases x <;> simp only [Oper.upon] at h ⊢
  · rename_i hw
    simp only [hw] at h
    exact ⟨keep a w hy _, by rw [← Act.put_comm a v undef h2]; exact h⟩

theorem wpAnyX_first {R : Act → World → Prop} {i : Nat} {oi : Oper} {v : Value} (hi : ops[i]? = some oi) (hsel : ∀ (j : Nat) (o : Oper) cs b, ops[j]? = some o → o.op ≠ .select cs b) :
    ∀ (fuel : Nat) (B : Nat → Prop) (listed : Array Bool) (a : Act) (w : World),
      (∀ j oj, ops[j]? = some oj → j ≠ i → listed.getD j true = false → (∀ e ∈ oj.after, Region.binds md e = true → e.on ≠ i) → oi.apart ops oj = true) →
      i ∈ Region.ready md ops listed → YieldsX P ops B oi v a w →
      wpAnyX P md ops R fuel B (listed.setIfInBounds i true) (a.put oi.dst v) w → wpAnyX P md ops R (fuel + 1) B listed a w := by
  intro fuel
  induction fuel with
  | zero =>
    intro B listed a w _ hr hy H
    refine ⟨fun h => (by rw [h] at hr; cases hr), fun j hj => ?_⟩
    by_cases hji : j = i
    · subst hji; exact hy.wpOpX hi ⟨B, fun _ h => h, H⟩
    · have := ready_mono hj hji
      rw [H.1] at this
      cases this
  | succ fuel ih =>
    intro B listed a w hfree hr hy H
    refine ⟨fun h => (by rw [h] at hr; cases hr), fun j hj => ?_⟩
    by_cases hji : j = i
    · subst hji; exact hy.wpOpX hi ⟨B, fun _ h => h, H⟩
    · have h1 := H.2 j (ready_mono hj hji)
      obtain ⟨hjun, oj, hoj, hall⟩ := mem_ready.1 hj
      have hnot : ∀ e ∈ oj.after, Region.binds md e = true → e.on ≠ i := fun e he hb heq => by
        have h1 := hall e he hb
        have h0 := (mem_ready.1 hr).1
        rw [heq] at h1
        rcases Nat.lt_or_ge i listed.size with h' | h'
        · simp [h'] at h0 h1; rw [h0] at h1; cases h1
        · simp [Array.getElem?_eq_none h'] at h1
      have h2 := wpOpX_put hoj (hfree j oj hoj hji hjun hnot) (fun cs b => hsel i oi cs b hi) (fun cs b => hsel j oj cs b hoj) hy h1
      have hfree' : ∀ k ok, ops[k]? = some ok → k ≠ i → (listed.setIfInBounds j true).getD k true = false →
          (∀ e ∈ ok.after, Region.binds md e = true → e.on ≠ i) → oi.apart ops ok = true := fun k ok hk hki hun hno => by
        refine hfree k ok hk hki ?_ hno
        by_cases hjk : j = k
        · subst hjk; exact hjun
        · rw [getD_set_ne true hjk] at hun; exact hun
      refine wpOpX_mono (fun a' w' _ h3 => ?_) h2
      obtain ⟨hy', B', hB', hK⟩ := h3
      refine ⟨B', hB', ih B' (listed.setIfInBounds j true) a' w' hfree' (ready_mono hr (Ne.symm hji)) (hy'.grow (Kx.refl _ _) hB') ?_⟩
      rw [Array.setIfInBounds_comm _ _ hji]
      exact hK

theorem wpAnyX_seg {R : Act → World → Prop} {B : Nat → Prop} {w : World} (hs : Region.noSelect ops = true) {fuel : Nat} : ∀ (is : List Nat) (l : List Oper) (listed : Array Bool) (a : Act),
    l.map some = is.map (fun i => ops[i]?) → segB md ops is listed = true →
    wpQuiet P ops (fun w' => ∃ x : ExtX B w, w' = x.w) (fun a' => wpAnyX P md ops R fuel B (setAll is listed) a' w) l a → wpAnyX P md ops R (fuel + is.length) B listed a w
  | [], [], _, _, _, _, h => h
  | [], _ :: _, _, _, e, _, _ => by simp at e
  | _ :: _, [], _, _, e, _, _ => by simp at e
  | i :: is, o :: l, listed, a, e, hB, h => by
    simp only [List.map_cons, List.cons.injEq] at e
    have h0 : ops[i]? = some o := e.1.symm
    simp only [segB, Bool.and_eq_true, h0, Option.map_some, Option.getD_some] at hB
    obtain ⟨⟨⟨hr, hf⟩, hst⟩, hB'⟩ := hB
    have hh : ∃ v, YieldsX P ops B o v a w ∧ wpQuiet P ops (fun w' => ∃ x : ExtX B w, w' = x.w) (fun a' => wpAnyX P md ops R fuel B (setAll is (listed.setIfInBounds i true)) a' w) l (a.put o.dst v) := by
      unfold wpQuiet at h
      by_cases hw : Region.wanted o (yielded ops a.tmps) = true
      · rw [if_pos hw] at h
        obtain ⟨v, h1, h2⟩ := h
        refine ⟨v, .inl ⟨hw, fun w' hb => ?_⟩, h2⟩
        have h3 := h1 w' ⟨⟨w', hb⟩, rfl⟩
        unfold Oper.quietAt at h3
        have hno := fun f args w'' => stillOp_no hst a.eval P w' w'' f args
        generalize (execOp a.eval o).run P w' = r at *
        cases r with
        | ok n w'' =>
          cases n <;> simp only [Oper.quietUpon] at h3
          case value u => obtain ⟨rfl, rfl⟩ := h3; exact .inl rfl
          case skip => obtain ⟨rfl, rfl⟩ := h3; exact .inr ⟨rfl, rfl⟩
          case enter f args => exact absurd rfl (hno f args w'')
        | halt x w'' => simp only [Oper.quietUpon] at h3
      · rw [if_neg hw] at h
        exact ⟨undef, .inr ⟨by simpa using hw, rfl⟩, h⟩
    obtain ⟨v, hy, hK⟩ := hh
    have := wpAnyX_seg (R := R) (B := B) (w := w) hs (fuel := fuel) is l (listed.setIfInBounds i true) (a.put o.dst v) e.2 hB' hK
    exact wpAnyX_first h0 (Region.noSelect_spec hs) (fuel + is.length) B listed a w (Region.free_spec h0 hf) (by simpa using hr) hy this

theorem stx_seg {R : Act → World → Prop} {B : Nat → Prop} {w : World} {l : List Oper} (n m : Nat) (is : List Nat) {listed : Array Bool} {a : Act} (hs : Region.noSelect l.toArray = true) (hn : n = m + is.length) (hB : segB md l.toArray is listed = true) (hl : is.all (fun i => i < l.length) = true)
    (h : wpQuiet P l.toArray (fun w' => ∃ x : ExtX B w, w' = x.w) (fun a' => wpAnyX P md l.toArray R m B (setAll is listed) a' w) (is.map fun i => (l[i]?).getD nilOp) a) : wpAnyX P md l.toArray R n B listed a w := by
  subst hn
  refine wpAnyX_seg hs is _ listed a ?_ hB h
  simp only [List.all_eq_true, decide_eq_true_eq] at hl
  rw [List.map_map]
  refine List.map_congr_left fun i hi => ?_
  have := hl i hi
  simp [List.getElem?_eq_getElem this]
/-- An operation that is the only one to come up. -/
theorem stx_one {R : Act → World → Prop} {B : Nat → Prop} {w : World} {l : List Oper} (n m : Nat) (i : Nat) {o : Oper} {listed : Array Bool} {a : Act} (hn : n = m + 1) (hi : l[i]? = some o) (hr : Region.ready md l.toArray listed = [i]) (hw : Region.wanted o (yielded l.toArray a.tmps) = true)
    (h : o.wp P a w (fun a' w' => Kx B w w' ∧ ∃ B' : Nat → Prop, (∀ k, B' k → B k) ∧ wpAnyX P md l.toArray R m B' (listed.setIfInBounds i true) a' w') (fun _ _ _ => False)) : wpAnyX P md l.toArray R n B listed a w := by
  subst hn
  refine ⟨fun h0 => (by rw [hr] at h0; cases h0), fun j hj => ?_⟩
  rw [hr] at hj
  obtain rfl : j = i := by simpa using hj
  have hi' : l.toArray[j]? = some o := by simpa using hi
  unfold wpOpX
  simp only [hi', hw, if_true]
  exact h
/-- Two operations may come up: both ways. -/
theorem stx_two {R : Act → World → Prop} {B : Nat → Prop} {w : World} {l : List Oper} (n m : Nat) (i k : Nat) {o p : Oper} {listed : Array Bool} {a : Act} (hn : n = m + 1) (hi : l[i]? = some o) (hk : l[k]? = some p) (hr : Region.ready md l.toArray listed = [i, k])
    (hw : Region.wanted o (yielded l.toArray a.tmps) = true) (hw' : Region.wanted p (yielded l.toArray a.tmps) = true)
    (h : o.wp P a w (fun a' w' => Kx B w w' ∧ ∃ B' : Nat → Prop, (∀ k, B' k → B k) ∧ wpAnyX P md l.toArray R m B' (listed.setIfInBounds i true) a' w') (fun _ _ _ => False))
    (h' : p.wp P a w (fun a' w' => Kx B w w' ∧ ∃ B' : Nat → Prop, (∀ k, B' k → B k) ∧ wpAnyX P md l.toArray R m B' (listed.setIfInBounds k true) a' w') (fun _ _ _ => False)) : wpAnyX P md l.toArray R n B listed a w := by
  subst hn
  have hi' : l.toArray[i]? = some o := by simpa using hi
  have hk' : l.toArray[k]? = some p := by simpa using hk
  refine ⟨fun h0 => (by rw [hr] at h0; cases h0), fun j hj => ?_⟩
  rw [hr] at hj
  simp only [List.mem_cons, List.not_mem_nil, or_false] at hj
  unfold wpOpX
  rcases hj with rfl | rfl
  · simp only [hi', hw, if_true]
    exact h
  · simp only [hk', hw', if_true]
    exact h'
theorem stx_end {R : Act → World → Prop} {B : Nat → Prop} {w : World} {l : List Oper} {listed : Array Bool} {a : Act} (hr : Region.ready md l.toArray listed = []) (h : R a w) : wpAnyX P md l.toArray R 0 B listed a w := ⟨hr, h⟩
theorem wp_region_stx (n : Nat) (B : Nat → Prop) {id : Nat} {Q : Exit → Act → World → Prop} {a : Act} {w : World} {l : List Oper} (hm : P.follows .mixedOrders = true) (hn : l.length = n)
    (h : wpAnyX P .any l.toArray (fun a' w' => Q .normal a' w') n B (Array.replicate n false) a w.drew) : (Code.region id l.toArray true).wp P Q a w := by
  subst hn
  refine wp_region_any hm ?_
  refine wpAny_of_X (R := fun a' w' => Q .normal a' w') (fun _ _ h => h) _ B _ _ _ ?_
  simpa using h
end
end Go.Proofs.Ytohflcbpjjnccab
