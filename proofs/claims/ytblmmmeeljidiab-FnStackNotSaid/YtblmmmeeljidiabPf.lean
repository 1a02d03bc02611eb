/-
  Plain facts: the shortest path over the smallest neighbours.
-/
import Derived.Test.YtblmmmeeljidiabUf
namespace Go.Proofs.Ytblmmmeeljidiab

def pathF (n : Int) (ls : List Lk) (t : Int) : Nat → Int → List Int
  | 0, s => [s]
  | k + 1, s => if s = t then [s] else match hopsL n ls s t with
    | [] => []
    | z :: _ => s :: pathF n ls t k z
def pathL (n : Nat) (ls : List Lk) (s t : Int) : List Int := if vwB (n : Int) ls [s, t] = true ∧ 0 ≤ bf (n : Int) ls t s then pathF (n : Int) ls t (rk n ls t s) s else []

section
variable {n : Nat} {ls : List Lk} {t : Int}
theorem rk_zero (hv : gvB (n : Int) ls = true) (ht : 0 ≤ t ∧ t < (n : Int)) {s : Int} (hs : 0 ≤ s ∧ s < (n : Int)) (h0 : 0 ≤ bf (n : Int) ls t s) (hr : rk n ls t s = 0) : s = t := by
  have hvw := vwB_of hv hs ht
  cases hh : hopsL (n : Int) ls s t with
  | nil =>
    rcases (hops_nil hvw).1 hh with h | h
    · exact h
    · omega
  | cons z zs =>
    obtain ⟨h1, _, h3, h4⟩ := hops_node hvw (show z ∈ hopsL (n : Int) ls s t by rw [hh]; simp)
    have := rk_lt h1 h3 h4
    omega
theorem pathF_more (hv : gvB (n : Int) ls = true) (ht : 0 ≤ t ∧ t < (n : Int)) : ∀ (k m : Nat) (s : Int), 0 ≤ s ∧ s < (n : Int) → 0 ≤ bf (n : Int) ls t s → rk n ls t s ≤ k → k ≤ m → pathF (n : Int) ls t m s = pathF (n : Int) ls t k s := by
  intro k
  induction k with
  | zero =>
    intro m s hs h0 hr _
    have := rk_zero hv ht hs h0 (by omega)
    cases m with
    | zero => rfl
    | succ m => simp [pathF, this]
  | succ k ih =>
    intro m s hs h0 hr hkm
    obtain ⟨m, rfl⟩ : ∃ q, m = q + 1 := ⟨m - 1, by omega⟩
    by_cases hst : s = t
    · simp [pathF, hst]
    · simp only [pathF, if_neg hst]
      cases hh : hopsL (n : Int) ls s t with
      | nil => rfl
      | cons z zs =>
        obtain ⟨h1, _, h3, h4⟩ := hops_node (vwB_of hv hs ht) (show z ∈ hopsL (n : Int) ls s t by rw [hh]; simp)
        have := rk_lt h1 h3 h4
        dsimp only
        rw [ih m z h1 h3 (by omega) (by omega)]
theorem pathL_self (hv : gvB (n : Int) ls = true) (ht : 0 ≤ t ∧ t < (n : Int)) : pathL n ls t t = [t] := by
  unfold pathL
  rw [if_pos ⟨vwB_of hv ht ht, by rw [bf_self (gvB_fit hv).1 ht]; omega⟩]
  cases rk n ls t t <;> simp [pathF]
theorem pathL_step (hv : gvB (n : Int) ls = true) (ht : 0 ≤ t ∧ t < (n : Int)) {s : Int} (hs : 0 ≤ s ∧ s < (n : Int)) (h0 : 0 ≤ bf (n : Int) ls t s) (hst : s ≠ t) :
    ∃ z zs, hopsL (n : Int) ls s t = z :: zs ∧ pathL n ls s t = s :: pathL n ls z t := by
  have hvw := vwB_of hv hs ht
  cases hh : hopsL (n : Int) ls s t with
  | nil =>
    exfalso
    rcases (hops_nil hvw).1 hh with h | h
    · exact hst h
    · omega
  | cons z zs =>
    obtain ⟨h1, hvz, h3, h4⟩ := hops_node hvw (show z ∈ hopsL (n : Int) ls s t by rw [hh]; simp)
    have hrk := rk_lt h1 h3 h4
    refine ⟨z, zs, rfl, ?_⟩
    unfold pathL
    rw [if_pos ⟨hvw, h0⟩, if_pos ⟨hvz, h3⟩]
    rw [← pathF_more hv ht (rk n ls t s) (rk n ls t s + 1) s hs h0 (Nat.le_refl _) (by omega)]
    simp only [pathF, if_neg hst, hh]
    rw [pathF_more hv ht (rk n ls t z) (rk n ls t s) z h1 h3 (Nat.le_refl _) (by omega)]
theorem pathL_none {s : Int} (h : ¬ (vwB (n : Int) ls [s, t] = true ∧ 0 ≤ bf (n : Int) ls t s)) : pathL n ls s t = [] := by
  unfold pathL
  rw [if_neg h]
theorem pathL_some {s : Int} (h : pathL n ls s t ≠ []) : vwB (n : Int) ls [s, t] = true ∧ 0 ≤ bf (n : Int) ls t s :=
  Classical.byContradiction fun hn => h (pathL_none hn)

/-- What a shortest path is like: every node but the last is followed by its first next hop. -/
inductive IsP (n : Nat) (ls : List Lk) (t : Int) : Int → List Int → Prop
  | last : IsP n ls t t [t]
  | step {s z : Int} {zs p : List Int} : s ≠ t → hopsL (n : Int) ls s t = z :: zs → (0 ≤ s ∧ s < (n : Int)) → 0 ≤ bf (n : Int) ls t s → IsP n ls t z p → IsP n ls t s (s :: p)
theorem pathL_isP (hv : gvB (n : Int) ls = true) (ht : 0 ≤ t ∧ t < (n : Int)) : ∀ (k : Nat) (s : Int), 0 ≤ s ∧ s < (n : Int) → 0 ≤ bf (n : Int) ls t s → rk n ls t s ≤ k → IsP n ls t s (pathL n ls s t) := by
  intro k
  induction k with
  | zero =>
    intro s hs h0 hr
    have := rk_zero hv ht hs h0 (by omega)
    subst this
    rw [pathL_self hv hs]
    exact .last
  | succ k ih =>
    intro s hs h0 hr
    by_cases hst : s = t
    · subst hst
      rw [pathL_self hv hs]
      exact .last
    · obtain ⟨z, zs, hh, hp⟩ := pathL_step hv ht hs h0 hst
      obtain ⟨h1, _, h3, h4⟩ := hops_node (vwB_of hv hs ht) (show z ∈ hopsL (n : Int) ls s t by rw [hh]; simp)
      have := rk_lt h1 h3 h4
      rw [hp]
      exact .step hst hh hs h0 (ih z h1 h3 (by omega))
theorem IsP.head {s : Int} {p : List Int} (h : IsP n ls t s p) : p[0]? = some s ∧ 0 < p.length := by
  cases h <;> simp
theorem IsP.end {s : Int} {p : List Int} (h : IsP n ls t s p) : p[p.length - 1]? = some t := by
  induction h with
  | last => rfl
  | step _ _ _ _ hp ih =>
    have := hp.head
    rw [List.length_cons, Nat.add_sub_cancel, List.getElem?_cons]
    rw [if_neg (by omega)]
    exact ih
theorem IsP.len (hv : gvB (n : Int) ls = true) (ht : 0 ≤ t ∧ t < (n : Int)) {s : Int} {p : List Int} (h : IsP n ls t s p) : p.length ≤ rk n ls t s + 1 := by
  induction h with
  | last => simp
  | @step s z zs p _ hh hs _ _ ih =>
    obtain ⟨h1, _, h3, h4⟩ := hops_node (vwB_of hv hs ht) (show z ∈ hopsL (n : Int) ls s t by rw [hh]; simp)
    have := rk_lt h1 h3 h4
    simp only [List.length_cons]
    omega
/-- The rest of a shortest path is one. -/
theorem IsP.rest {s : Int} {p : List Int} (h : IsP n ls t s p) : ∀ {k : Nat} {x : Int}, p[k]? = some x → IsP n ls t x (p.drop k) := by
  induction h with
  | last =>
    intro k x hx
    have := (List.getElem?_eq_some_iff.1 hx).1
    obtain rfl : k = 0 := by simpa using this
    simp at hx
    subst hx
    exact .last
  | step h1 h2 h3 h4 hp ih =>
    intro k x hx
    cases k with
    | zero =>
      simp at hx
      subst hx
      exact .step h1 h2 h3 h4 hp
    | succ k => exact ih (by simpa using hx)
theorem IsP.uniq {s : Int} {p q : List Int} (h : IsP n ls t s p) (h' : IsP n ls t s q) : p = q := by
  induction h generalizing q with
  | last =>
    cases h' with
    | last => rfl
    | step hne => exact absurd rfl hne
  | step hne hh _ _ _ ih =>
    cases h' with
    | last => exact absurd rfl hne
    | step _ hh' _ _ hp' =>
      rw [hh] at hh'
      cases hh'
      rw [ih hp']
theorem IsP.node (ht : 0 ≤ t ∧ t < (n : Int)) {s : Int} {p : List Int} (h : IsP n ls t s p) : 0 ≤ s ∧ s < (n : Int) := by
  cases h with
  | last => exact ht
  | step _ _ h => exact h
theorem IsP.dist (hv : gvB (n : Int) ls = true) (ht : 0 ≤ t ∧ t < (n : Int)) {s : Int} {p : List Int} (h : IsP n ls t s p) : 0 ≤ bf (n : Int) ls t s := by
  cases h with
  | last => rw [bf_self (gvB_fit hv).1 ht]; omega
  | step _ _ _ h => exact h
/-- Two nodes in a row. -/
theorem IsP.two {s : Int} {p : List Int} (h : IsP n ls t s p) {k : Nat} {x y : Int} (hx : p[k]? = some x) (hy : p[k + 1]? = some y) : x ≠ t ∧ (∃ zs, hopsL (n : Int) ls x t = y :: zs) ∧ (0 ≤ x ∧ x < (n : Int)) ∧ 0 ≤ bf (n : Int) ls t x := by
  have hr := h.rest hx
  have hy2 : (p.drop k)[1]? = some y := by rw [List.getElem?_drop]; exact hy
  generalize p.drop k = q at hr hy2
  cases hr with
  | last => simp at hy2
  | step h1 h2 h3 h4 hp =>
    have := hp.head.1
    simp only [List.getElem?_cons_succ] at hy2
    rw [this] at hy2
    cases hy2
    exact ⟨h1, ⟨_, h2⟩, h3, h4⟩
/-- The link between two nodes in a row. -/
theorem IsP.link (hv : gvB (n : Int) ls = true) (ht : 0 ≤ t ∧ t < (n : Int)) {s : Int} {p : List Int} (h : IsP n ls t s p) {k : Nat} {x y : Int} (hx : p[k]? = some x) (hy : p[k + 1]? = some y) :
    ∃ (j : Nat) (l : Lk), linkI (n : Int) ls x y = j ∧ ls[j]? = some l ∧ l.c = bf (n : Int) ls t x - bf (n : Int) ls t y ∧ l.a = min x y ∧ l.b = max x y ∧ Adj ls x y l.c ∧ 0 ≤ bf (n : Int) ls t y := by
  obtain ⟨h1, ⟨zs, hh⟩, h3, h4⟩ := h.two hx hy
  have hm : y ∈ hopsL (n : Int) ls x t := by rw [hh]; simp
  have hvw := vwB_of hv h3 ht
  obtain ⟨e, ha, h0, he⟩ := (hops_mem hvw).1 hm
  obtain ⟨j, l, e1, e2, ha2, e3, e4⟩ := nbI_link hv ((hops_sub _ _ _ _).mem hm)
  have := adj_uniq hv ha ha2
  exact ⟨j, l, e1, e2, by omega, e3, e4, ha2, h0⟩
/-- Each node of a shortest path divides the distance. -/
theorem IsP.used (hv : gvB (n : Int) ls = true) (ht : 0 ≤ t ∧ t < (n : Int)) {s : Int} {p : List Int} (h : IsP n ls t s p) : ∀ {k : Nat} {x : Int}, p[k]? = some x → 0 ≤ bf (n : Int) ls s x ∧ 0 ≤ bf (n : Int) ls t x ∧ bf (n : Int) ls s x + bf (n : Int) ls t x = bf (n : Int) ls s t ∧ (0 ≤ x ∧ x < (n : Int)) := by
  obtain ⟨hf, _⟩ := gvB_fit hv
  have hs := h.node ht
  have hst : bf (n : Int) ls t s = bf (n : Int) ls s t := bf_symm hf ht hs
  intro k
  induction k with
  | zero =>
    intro x hx
    rw [h.head.1] at hx
    cases hx
    have := h.dist hv ht
    rw [bf_self hf hs]
    omega
  | succ k ih =>
    intro y hy
    obtain ⟨x, hx⟩ : ∃ x, p[k]? = some x := ⟨_, List.getElem?_eq_getElem (by have := (List.getElem?_eq_some_iff.1 hy).1; omega)⟩
    obtain ⟨h1, h2, h3, h4⟩ := ih hx
    obtain ⟨j, l, _, _, hc, _, _, ha, hy0⟩ := h.link hv ht hx hy
    have hr := hf.adj ha
    have he := bf_edge hf hs ha h1
    have htri := bf_node_tri hf hs ht (x := y) (by omega) he.1 hy0
    exact ⟨he.1, hy0, by omega, by omega⟩
theorem IsP.down (hv : gvB (n : Int) ls = true) (ht : 0 ≤ t ∧ t < (n : Int)) {s : Int} {p : List Int} (h : IsP n ls t s p) {i : Nat} {x : Int} (hx : p[i]? = some x) : ∀ {k : Nat} {y : Int}, i < k → p[k]? = some y → bf (n : Int) ls t y < bf (n : Int) ls t x := by
  obtain ⟨hf, _⟩ := gvB_fit hv
  intro k
  induction k with
  | zero => intro y h; omega
  | succ k ih =>
    intro y hik hy
    obtain ⟨z, hz⟩ : ∃ z, p[k]? = some z := ⟨_, List.getElem?_eq_getElem (by have := (List.getElem?_eq_some_iff.1 hy).1; omega)⟩
    obtain ⟨j, l, _, _, hc, _, _, ha, _⟩ := h.link hv ht hz hy
    have := hf.adj ha
    by_cases hk : i = k
    · subst hk
      rw [hx] at hz
      cases hz
      omega
    · have := ih (by omega) hz
      omega
end
end Go.Proofs.Ytblmmmeeljidiab
