/-
  Plain facts: there are fewer critical links than nodes.
-/
import Derived.Test.YtenlofomkchlaaaDoorC6
import Derived.Test.YtenlofomkchlaaaDoorDw
namespace Go.Proofs.YtenlofomkchlaaaDoor

def minB (n : Nat) (ls : List Lk) (x : Nat) : Bool := (List.range x).all fun y : Nat => decide (bf (n : Int) ls (y : Int) (x : Int) < 0)
/-- How many parts the graph has: nodes that no smaller node reaches. -/
def cmps (n : Nat) (ls : List Lk) : Nat := ((List.range n).filter (minB n ls)).length
section
variable {n : Nat} {ls ms : List Lk}
theorem minB_iff {x : Nat} : minB n ls x = true ↔ ∀ y : Nat, y < x → bf (n : Int) ls (y : Int) (x : Int) < 0 := by
  unfold minB
  rw [List.all_eq_true]
  constructor
  · intro h y hy
    have := h y (by simpa using hy)
    simpa using this
  · intro h y hy
    simpa using h y (by simpa using hy)
theorem bf_none_sub (hl : gvB (n : Int) ls = true) (hm : gvB (n : Int) ms = true) (h : ∀ l ∈ ls, l ∈ ms) {s v : Int} (hs : 0 ≤ s ∧ s < (n : Int)) (h0 : bf (n : Int) ms s v < 0) : bf (n : Int) ls s v < 0 := by
  apply Classical.byContradiction
  intro hn
  have := bf_sub (gvB_fit hl).1 (gvB_fit hm).1 h hs v (by omega)
  omega
theorem minB_sub (hl : gvB (n : Int) ls = true) (hm : gvB (n : Int) ms = true) (h : ∀ l ∈ ls, l ∈ ms) {x : Nat} (hx : x < n) (hb : minB n ms x = true) : minB n ls x = true := by
  rw [minB_iff] at hb ⊢
  exact fun y hy => bf_none_sub hl hm h (by omega) (hb y hy)
/-- The smallest node of a part. -/
theorem least (hl : gvB (n : Int) ls = true) {a : Nat} (ha : a < n) : ∃ r : Nat, r < n ∧ 0 ≤ bf (n : Int) ls (r : Int) (a : Int) ∧ minB n ls r = true := by
  have key : ∀ b : Nat, b < n → 0 ≤ bf (n : Int) ls (b : Int) (a : Int) → ∃ r : Nat, r < n ∧ 0 ≤ bf (n : Int) ls (r : Int) (a : Int) ∧ minB n ls r = true := by
    intro b
    induction b using Nat.strongRecOn with
    | _ b ih =>
    intro hb h0
    cases hq : minB n ls b with
    | true => exact ⟨b, hb, h0, hq⟩
    | false =>
      have : ∃ y : Nat, y < b ∧ 0 ≤ bf (n : Int) ls (y : Int) (b : Int) := by
        apply Classical.byContradiction
        intro hn
        have : minB n ls b = true := minB_iff.2 fun y hy => by
          apply Classical.byContradiction
          intro h1
          exact hn ⟨y, hy, by omega⟩
        rw [hq] at this
        cases this
      obtain ⟨y, hy, h1⟩ := this
      exact ih y hy (by omega) (bf_three (gvB_fit hl).1 (s := (y : Int)) (c := (b : Int)) (b := (a : Int)) (by omega) (by omega) h1 h0).1
  exact key a ha (by rw [bf_self (gvB_fit hl).1 (by omega)]; omega)
theorem cmps_lt (hl : gvB (n : Int) ls = true) (hm : gvB (n : Int) ms = true) (h : ∀ l ∈ ls, l ∈ ms) {a b : Nat} (ha : a < n) (hb : b < n) (h1 : 0 ≤ bf (n : Int) ms (a : Int) (b : Int)) (h2 : bf (n : Int) ls (a : Int) (b : Int) < 0) : cmps n ms < cmps n ls := by
  obtain ⟨hf, _⟩ := gvB_fit hl
  obtain ⟨hf', _⟩ := gvB_fit hm
  obtain ⟨ra, hra, a0, am⟩ := least hl ha
  obtain ⟨rb, hrb, b0, bm⟩ := least hl hb
  have hsy : ∀ u v : Nat, u < n → v < n → bf (n : Int) ls (u : Int) (v : Int) = bf (n : Int) ls (v : Int) (u : Int) := fun u v hu hv => bf_symm hf (by omega) (by omega)
  have hsy' : ∀ u v : Nat, u < n → v < n → bf (n : Int) ms (u : Int) (v : Int) = bf (n : Int) ms (v : Int) (u : Int) := fun u v hu hv => bf_symm hf' (by omega) (by omega)
  have hne : ra ≠ rb := fun e => by
    subst e
    have := (bf_three hf (s := (a : Int)) (c := (ra : Int)) (b := (b : Int)) (by omega) (by omega) (by rw [hsy a ra ha hra]; exact a0) b0).1
    omega
  have a1 := (bf_sub hf hf' h (by omega) _ a0).1
  have b1 := (bf_sub hf hf' h (by omega) _ b0).1
  have r1 := (bf_three hf' (s := (ra : Int)) (c := (a : Int)) (b := (b : Int)) (by omega) (by omega) a1 h1).1
  have r2 := (bf_three hf' (s := (ra : Int)) (c := (b : Int)) (b := (rb : Int)) (by omega) (by omega) r1 (by rw [hsy' b rb hb hrb]; exact b1)).1
  unfold cmps
  rcases Nat.lt_or_gt_of_ne hne with hlt | hlt
  · refine filter_lt (y := rb) (fun x hx hxm => minB_sub hl hm h (by simpa using hx) hxm) (by simpa using hrb) ?_ bm
    cases hq : minB n ms rb with
    | false => rfl
    | true =>
      have := minB_iff.1 hq ra hlt
      omega
  · refine filter_lt (y := ra) (fun x hx hxm => minB_sub hl hm h (by simpa using hx) hxm) (by simpa using hra) ?_ am
    cases hq : minB n ms ra with
    | false => rfl
    | true =>
      have := minB_iff.1 hq rb hlt
      rw [hsy' rb ra hrb hra] at this
      omega
theorem cmps_le (n : Nat) (ls : List Lk) : cmps n ls ≤ n := by
  unfold cmps
  exact Nat.le_trans (List.length_filter_le _ _) (by simp)
theorem cmps_pos (hl : gvB (n : Int) ls = true) : 0 < cmps n ls := by
  obtain ⟨_, h1, _, _⟩ := gvB_fit hl
  unfold cmps
  refine List.length_pos_of_mem (a := 0) (List.mem_filter.2 ⟨by simp; omega, minB_iff.2 fun y hy => by omega⟩)
theorem crit_few : ∀ cs : List Lk, cs.Nodup → ∀ ls : List Lk, gvB (n : Int) ls = true → (∀ l ∈ cs, l ∈ ls ∧ bf (n : Int) (ls.filter fun m => !eqLinkB m l) l.a l.b < 0) → cmps n ls + cs.length ≤ n := by
  intro cs
  induction cs with
  | nil => intro _ ls _ _; exact cmps_le n ls
  | cons c cs ih =>
    intro hn ls hg hall
    obtain ⟨hcn, hn'⟩ := List.nodup_cons.1 hn
    obtain ⟨hcl, hcd⟩ := hall c (by simp)
    have hg' : gvB (n : Int) (ls.filter fun m => !eqLinkB m c) = true := gvB_filter _ hg
    have hr := (gvB_fit hg).1.adj (u := c.a) (v := c.b) (e := c.c) ⟨c, hcl, .inl ⟨rfl, rfl⟩, rfl⟩
    have h2 := ih hn' _ hg' fun l hl => by
      obtain ⟨h3, h4⟩ := hall l (by simp [hl])
      have hlc : l ≠ c := fun e => hcn (e ▸ hl)
      refine ⟨List.mem_filter.2 ⟨h3, ?_⟩, ?_⟩
      · cases hq : eqLinkB l c with
        | false => rfl
        | true => exact absurd ((eqLinkB_iff l c).1 hq) hlc
      · have hrl := (gvB_fit hg).1.adj (u := l.a) (v := l.b) (e := l.c) ⟨l, h3, .inl ⟨rfl, rfl⟩, rfl⟩
        refine bf_none_sub (ms := ls.filter fun m => !eqLinkB m l) (gvB_filter _ hg') (gvB_filter _ hg) (fun m hm => ?_) (by omega) h4
        obtain ⟨m1, m2⟩ := List.mem_filter.1 hm
        exact List.mem_filter.2 ⟨(List.mem_filter.1 m1).1, m2⟩
    have h5 : cmps n ls < cmps n (ls.filter fun m => !eqLinkB m c) := by
      have ea : ((c.a.toNat : Nat) : Int) = c.a := by omega
      have eb : ((c.b.toNat : Nat) : Int) = c.b := by omega
      refine cmps_lt (a := c.a.toNat) (b := c.b.toNat) hg' hg (fun m hm => (List.mem_filter.1 hm).1) (by omega) (by omega) ?_ ?_
      · rw [ea, eb]
        exact (bf_edge (gvB_fit hg).1 (s := c.a) (by omega) ⟨c, hcl, .inl ⟨rfl, rfl⟩, rfl⟩ (by rw [bf_self (gvB_fit hg).1 (by omega)]; omega)).1
      · rw [ea, eb]
        exact hcd
    simp only [List.length_cons]
    omega
/-- Of indices of links without which the ends are parted. -/
theorem crit_idx (hg : gvB (n : Int) ls = true) {is : List Nat} (hn : is.Nodup) (h : ∀ i ∈ is, ∃ l, ls[i]? = some l ∧ bf (n : Int) (ls.eraseIdx i) l.a l.b < 0) : is.length < n := by
  have hf : ∀ i ∈ is, ∃ l, ls[i]? = some l := fun i hi => by obtain ⟨l, hl, _⟩ := h i hi; exact ⟨l, hl⟩
  have key := crit_few (n := n) (is.map fun i => ls.getD i ⟨0, 0, 0⟩) ?_ ls hg ?_
  · have := cmps_pos hg
    rw [List.length_map] at key
    omega
  · refine (List.pairwise_map.2 ?_)
    refine hn.imp_of_mem fun {i j} hi hj hij e => ?_
    obtain ⟨l1, h1⟩ := hf i hi
    obtain ⟨l2, h2⟩ := hf j hj
    rw [List.getD_eq_getElem?_getD, List.getD_eq_getElem?_getD, h1, h2] at e
    have e' : l1 = l2 := e
    subst e'
    have o := gvB_at hg h1
    rcases Nat.lt_or_gt_of_ne hij with hlt | hlt
    · have := gvB_lex hg h1 j l1 hlt h2
      omega
    · have := gvB_lex hg h2 i l1 hlt h1
      omega
  · intro l hl
    obtain ⟨i, hi, rfl⟩ := List.mem_map.1 hl
    obtain ⟨l, h1, h2⟩ := h i hi
    have e : ls.getD i ⟨0, 0, 0⟩ = l := by rw [List.getD_eq_getElem?_getD, h1]; rfl
    rw [e]
    have hr := gvB_at hg h1
    refine ⟨List.mem_of_getElem? h1, bf_none_sub (ms := ls.eraseIdx i) (gvB_filter _ hg) (er_gv hg i) (fun m hm => ?_) (by omega) h2⟩
    obtain ⟨m1, m2⟩ := List.mem_filter.1 hm
    obtain ⟨j, hj⟩ := List.getElem?_of_mem m1
    have hji : j ≠ i := fun e => by
      subst e
      rw [h1] at hj
      cases hj
      rw [(eqLinkB_iff l l).2 rfl] at m2
      simp at m2
    refine List.mem_iff_getElem?.2 ?_
    rcases Nat.lt_or_gt_of_ne hji with hlt | hlt
    · exact ⟨j, by rw [List.getElem?_eraseIdx, if_pos hlt]; exact hj⟩
    · exact ⟨j - 1, by rw [List.getElem?_eraseIdx, if_neg (by omega), Nat.sub_add_cancel (by omega)]; exact hj⟩
end
end Go.Proofs.YtenlofomkchlaaaDoor
