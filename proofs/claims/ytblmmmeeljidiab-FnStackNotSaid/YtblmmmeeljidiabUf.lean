/-
  Plain facts: links and nodes that shortest paths use.
-/
import Derived.Test.YtblmmmeeljidiabB7
namespace Go.Proofs.Ytblmmmeeljidiab

/-- A shortest path takes a step. -/
def takesB (nn : Int) (ls : List Lk) (s t : Int) (l : Lk) : Bool :=
  decide (bf nn ls s t ≠ -1) && decide (bf nn ls s l.a ≠ -1) && decide (min (bf nn ls s l.a + bf nn ls t l.b) (bf nn ls s l.b + bf nn ls t l.a) + l.c = bf nn ls s t)
def usedL (nn : Int) (ls : List Lk) (s t : Int) (l : Lk) : Bool :=
  decide (0 ≤ bf nn ls s t) && decide (0 ≤ bf nn ls s l.a) && (decide (bf nn ls s l.a + l.c + bf nn ls t l.b = bf nn ls s t) || decide (bf nn ls s l.b + l.c + bf nn ls t l.a = bf nn ls s t))
def usedB (nn : Int) (ls : List Lk) (s t x : Int) : Bool :=
  vwB nn ls [s, t] && (if 0 ≤ x then match ls[x.toNat]? with
    | some l => usedL nn ls s t l
    | none => false else false)
def nodeL (nn : Int) (ls : List Lk) (s t x : Int) : Bool := decide (0 ≤ bf nn ls s x) && decide (0 ≤ bf nn ls t x) && decide (bf nn ls s x + bf nn ls t x = bf nn ls s t)
def nodeB (nn : Int) (ls : List Lk) (s t x : Int) : Bool := vwB nn ls [s, t, x] && nodeL nn ls s t x

section
variable {n : Int} {ls : List Lk} {s t : Int}
theorem vwB_three {x : Int} : vwB n ls [s, t, x] = true ↔ vwB n ls [s, t] = true ∧ 0 ≤ x ∧ x < n := by
  unfold vwB inB
  simp only [List.all_cons, List.all_nil, Bool.and_true, Bool.and_eq_true, decide_eq_true_eq]
  constructor
  · rintro ⟨h0, h1, h2, h3⟩
    exact ⟨⟨h0, h1, h2⟩, by omega, by omega⟩
  · rintro ⟨⟨h0, h1, h2⟩, h3, h4⟩
    exact ⟨h0, h1, h2, by omega, by omega⟩
/-- Around a link no way is shorter. -/
theorem bf_link_tri (hf : Fit n ls) (hs : 0 ≤ s ∧ s < n) (ht : 0 ≤ t ∧ t < n) {l : Lk} (hl : l ∈ ls) (h0 : 0 ≤ bf n ls s t) (ha : 0 ≤ bf n ls s l.a) :
    0 ≤ bf n ls s l.b ∧ 0 ≤ bf n ls t l.a ∧ 0 ≤ bf n ls t l.b ∧ bf n ls s t ≤ bf n ls s l.a + l.c + bf n ls t l.b ∧ bf n ls s t ≤ bf n ls s l.b + l.c + bf n ls t l.a := by
  have hadj : Adj ls l.a l.b l.c := ⟨l, hl, .inl ⟨rfl, rfl⟩, rfl⟩
  have hr := hf.adj hadj
  have hb := bf_edge hf hs hadj ha
  have hts : bf n ls t s = bf n ls s t := bf_symm hf ht hs
  have hta := bf_three hf ht hs (by omega) ha
  have htb := bf_edge hf ht hadj hta.1
  have e1 : bf n ls l.a t = bf n ls t l.a := bf_symm hf (by omega) ht
  have e2 : bf n ls l.b t = bf n ls t l.b := bf_symm hf (by omega) ht
  have h1 := bf_three hf hs (c := l.b) (b := t) (by omega) hb.1 (by omega)
  have h2 := bf_three hf hs (c := l.a) (b := t) (by omega) ha (by omega)
  omega
theorem takes_used (hf : Fit n ls) (hs : 0 ≤ s ∧ s < n) (ht : 0 ≤ t ∧ t < n) {l : Lk} (hl : l ∈ ls) : takesB n ls s t l = usedL n ls s t l := by
  unfold takesB usedL
  rcases bf_sg hf hs t with h1 | h1
  · rcases bf_sg hf hs l.a with h2 | h2
    · have h3 := bf_link_tri hf hs ht hl h1 h2
      rw [Bool.eq_iff_iff]
      simp only [Bool.and_eq_true, Bool.or_eq_true, decide_eq_true_eq]
      omega
    · simp [h2]
  · simp [h1]
theorem bf_node_tri (hf : Fit n ls) (hs : 0 ≤ s ∧ s < n) (ht : 0 ≤ t ∧ t < n) {x : Int} (hx : 0 ≤ x ∧ x < n) (h1 : 0 ≤ bf n ls s x) (h2 : 0 ≤ bf n ls t x) : 0 ≤ bf n ls s t ∧ bf n ls s t ≤ bf n ls s x + bf n ls t x := by
  have e : bf n ls x t = bf n ls t x := bf_symm hf hx ht
  have := bf_three hf hs hx (b := t) h1 (by omega)
  omega
theorem takes_node (hf : Fit n ls) (hs : 0 ≤ s ∧ s < n) (ht : 0 ≤ t ∧ t < n) {x : Int} (hx : 0 ≤ x ∧ x < n) : takesB n ls s t ⟨x, x, 0⟩ = nodeL n ls s t x := by
  unfold takesB nodeL
  dsimp only
  rw [Bool.eq_iff_iff]
  simp only [Bool.and_eq_true, decide_eq_true_eq]
  have e : bf n ls t s = bf n ls s t := bf_symm hf ht hs
  rcases bf_sg hf hs t with h1 | h1
  · rcases bf_sg hf hs x with h2 | h2
    · have := bf_three hf ht hs (b := x) (by omega) h2
      omega
    · omega
  · constructor
    · omega
    · rintro ⟨⟨h2, h3⟩, h4⟩
      have := bf_node_tri hf hs ht hx h2 h3
      omega
theorem used_at (h : vwB n ls [s, t] = true) {k : Nat} {l : Lk} (hl : ls[k]? = some l) : usedB n ls s t (k : Int) = usedL n ls s t l := by
  unfold usedB
  rw [h, if_pos (by omega), Int.toNat_natCast, hl]
  rfl
theorem usedL_back (hf : Fit n ls) (hs : 0 ≤ s ∧ s < n) (ht : 0 ≤ t ∧ t < n) {l : Lk} (hl : l ∈ ls) : usedL n ls t s l = usedL n ls s t l := by
  unfold usedL
  rw [Bool.eq_iff_iff]
  simp only [Bool.and_eq_true, Bool.or_eq_true, decide_eq_true_eq]
  have e : bf n ls t s = bf n ls s t := bf_symm hf ht hs
  constructor
  · rintro ⟨⟨h1, h2⟩, h3⟩
    have := bf_link_tri hf ht hs hl h1 h2
    omega
  · rintro ⟨⟨h1, h2⟩, h3⟩
    have := bf_link_tri hf hs ht hl h1 h2
    omega
theorem usedB_back (n : Int) (ls : List Lk) (s t x : Int) : usedB n ls t s x = usedB n ls s t x := by
  unfold usedB
  have e : vwB n ls [t, s] = vwB n ls [s, t] := by
    unfold vwB
    simp only [List.all_cons, List.all_nil, Bool.and_true]
    rw [Bool.and_comm (inB t 0 (n - 1))]
  rw [e]
  cases hv : vwB n ls [s, t] with
  | false => rfl
  | true =>
    obtain ⟨hg, hs, ht⟩ := vwB_two hv
    congr 1
    split
    · cases hx : ls[x.toNat]? with
      | none => rfl
      | some l => exact usedL_back (gvB_fit hg).1 hs ht (List.mem_of_getElem? hx)
    · rfl
theorem usedB_ends (hv : gvB n ls = true) {k : Nat} {l : Lk} (hl : ls[k]? = some l) : usedB n ls l.a l.b (k : Int) = decide (bf n ls l.a l.b = l.c) := by
  have hb := gvB_at hv hl
  obtain ⟨hf, _⟩ := gvB_fit hv
  have hm := List.mem_of_getElem? hl
  have ha : 0 ≤ l.a ∧ l.a < n := by omega
  have hb' : 0 ≤ l.b ∧ l.b < n := by omega
  rw [used_at (vwB_of hv ha hb') hl]
  unfold usedL
  have e1 := bf_self hf ha
  have e2 := bf_self hf hb'
  have e3 : bf n ls l.b l.a = bf n ls l.a l.b := bf_symm hf hb' ha
  have h := bf_edge hf ha (u := l.a) (v := l.b) (e := l.c) ⟨l, hm, .inl ⟨rfl, rfl⟩, rfl⟩ (by omega)
  rw [Bool.eq_iff_iff]
  simp only [Bool.and_eq_true, Bool.or_eq_true, decide_eq_true_eq]
  omega
/-- Next hops are used, and so are the links to them. -/
theorem hop_used (h : vwB n ls [s, t] = true) {z : Int} (hz : z ∈ hopsL n ls s t) : nodeB n ls s t z = true ∧ usedB n ls s t (linkI n ls s z) = true := by
  obtain ⟨hv, hs, ht⟩ := vwB_two h
  obtain ⟨hf, _⟩ := gvB_fit hv
  obtain ⟨hzr, _, h0, hlt⟩ := hops_node h hz
  obtain ⟨e, ha, _, he⟩ := (hops_mem h).1 hz
  have hzn := (List.mem_filter.1 ((hops_eq h) ▸ hz)).1
  obtain ⟨k, l, hk, hl, ha2, hmn, hmx⟩ := nbI_link hv hzn
  have hee := adj_uniq hv ha ha2
  have hss := bf_self hf hs
  have e1 : bf n ls t s = bf n ls s t := bf_symm hf ht hs
  have hsz := bf_edge hf hs ha (by omega)
  have hts := bf_node_tri hf hs ht hzr hsz.1 h0
  have he0 := hf.adj ha
  refine ⟨?_, ?_⟩
  · unfold nodeB nodeL
    rw [vwB_three.2 ⟨h, hzr⟩]
    simp only [Bool.true_and, Bool.and_eq_true, decide_eq_true_eq]
    omega
  · rw [hk, used_at h hl]
    unfold usedL
    simp only [Bool.and_eq_true, Bool.or_eq_true, decide_eq_true_eq]
    rcases Int.le_total s z with hsl | hsl
    · have e2 : l.a = s := by omega
      have e3 : l.b = z := by omega
      rw [e2, e3]
      omega
    · have e2 : l.a = z := by omega
      have e3 : l.b = s := by omega
      rw [e2, e3]
      omega
end
end Go.Proofs.Ytblmmmeeljidiab
