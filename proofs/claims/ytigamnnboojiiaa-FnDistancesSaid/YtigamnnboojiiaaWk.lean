/-
  Plain facts: walks over links, distances, and that the rounds of relaxing find them.
-/
import Derived.Test.YtigamnnboojiiaaBase
namespace Go.Proofs.Ytigamnnboojiiaa

/-! ### Walks -/
/-- A link between u and v of cost e. -/
def Adj (ls : List Lk) (u v e : Int) : Prop := ∃ l ∈ ls, ((l.a = u ∧ l.b = v) ∨ (l.b = u ∧ l.a = v)) ∧ l.c = e
theorem Adj.symm {ls : List Lk} {u v e : Int} (h : Adj ls u v e) : Adj ls v u e := by
  obtain ⟨l, hl, h, hc⟩ := h
  exact ⟨l, hl, h.symm.imp And.symm And.symm, hc⟩

/-- A walk from s of this cost and this many links. -/
inductive Wk (ls : List Lk) (s : Int) : Int → Int → Nat → Prop
  | nil : Wk ls s s 0 0
  | snoc {u v c e : Int} {k : Nat} : Wk ls s u c k → Adj ls u v e → Wk ls s v (c + e) (k + 1)

/-- The links are within the nodes and have positive costs. -/
structure Fit (n : Int) (ls : List Lk) : Prop where
  a0 : ∀ l ∈ ls, 0 ≤ l.a
  ab : ∀ l ∈ ls, l.a < l.b
  bn : ∀ l ∈ ls, l.b < n
  c1 : ∀ l ∈ ls, 1 ≤ l.c
  c20 : ∀ l ∈ ls, l.c ≤ 20

section
variable {n : Int} {ls : List Lk} {s : Int}
theorem Fit.adj (h : Fit n ls) {u v e : Int} (ha : Adj ls u v e) : 0 ≤ u ∧ u < n ∧ 0 ≤ v ∧ v < n ∧ 1 ≤ e ∧ e ≤ 20 ∧ u ≠ v := by
  obtain ⟨l, hl, hh, hc⟩ := ha
  have := h.a0 l hl
  have := h.ab l hl
  have := h.bn l hl
  have := h.c1 l hl
  have := h.c20 l hl
  omega
theorem Wk.pos (h : Fit n ls) {v c : Int} {k : Nat} (hw : Wk ls s v c k) : 0 ≤ c := by
  induction hw with
  | nil => omega
  | snoc _ ha ih => have := h.adj ha; omega
theorem Wk.le (h : Fit n ls) {v c : Int} {k : Nat} (hw : Wk ls s v c k) : (k : Int) ≤ c ∧ c ≤ 20 * k := by
  induction hw with
  | nil => simp
  | snoc _ ha ih => have := h.adj ha; omega
theorem Wk.node (h : Fit n ls) (hs : 0 ≤ s ∧ s < n) {v c : Int} {k : Nat} (hw : Wk ls s v c k) : 0 ≤ v ∧ v < n := by
  cases hw with
  | nil => exact hs
  | snoc _ ha => have := h.adj ha; omega
theorem Wk.trans {v c : Int} {k : Nat} (hw : Wk ls s v c k) {t d : Int} {m : Nat} (h2 : Wk ls v t d m) : Wk ls s t (c + d) (k + m) := by
  induction h2 with
  | nil => simpa using hw
  | snoc _ ha ih => have := ih.snoc ha; rwa [Int.add_assoc, Nat.add_assoc] at this
theorem Wk.one {u v e : Int} (h : Adj ls u v e) : Wk ls u v e 1 := by
  have := (Wk.nil (ls := ls) (s := u)).snoc h
  simpa using this
theorem Wk.symm {v c : Int} {k : Nat} (hw : Wk ls s v c k) : Wk ls v s c k := by
  induction hw with
  | nil => exact .nil
  | snoc _ ha ih =>
    have := (Wk.one ha.symm).trans ih
    rwa [Int.add_comm, Nat.add_comm] at this

/-- The distance of v from s. -/
def IsD (ls : List Lk) (s v d : Int) : Prop :=
  (0 ≤ d ∧ (∃ k, Wk ls s v d k) ∧ ∀ c k, Wk ls s v c k → d ≤ c) ∨ (d = -1 ∧ ∀ c k, ¬ Wk ls s v c k)
theorem IsD.uniq {v d d' : Int} (h : IsD ls s v d) (h' : IsD ls s v d') : d = d' := by
  rcases h with ⟨h0, ⟨k, hk⟩, hm⟩ | ⟨rfl, hn⟩ <;> rcases h' with ⟨h0', ⟨k', hk'⟩, hm'⟩ | ⟨rfl, hn'⟩
  · have := hm _ _ hk'
    have := hm' _ _ hk
    omega
  · exact absurd hk (hn' _ _)
  · exact absurd hk' (hn _ _)
  · rfl

/-! ### Walks without a node twice -/
/-- The nodes of a walk from s, the last one first. -/
inductive Sp (ls : List Lk) (s : Int) : List Int → Int → Prop
  | nil : Sp ls s [s] 0
  | cons {u v c e : Int} {p : List Int} : Sp ls s (u :: p) c → Adj ls u v e → Sp ls s (v :: u :: p) (c + e)
theorem Sp.wk {p : List Int} {v c : Int} (h : Sp ls s (v :: p) c) : Wk ls s v c p.length := by
  generalize hq : v :: p = q at h
  induction h generalizing v p with
  | nil => cases hq; exact .nil
  | cons h ha ih => cases hq; exact (ih rfl).snoc ha
theorem Sp.cut (hf : Fit n ls) {p : List Int} {c : Int} (h : Sp ls s p c) (hn : p.Nodup) {v : Int} (hv : v ∈ p) : ∃ p' c', Sp ls s (v :: p') c' ∧ c' ≤ c ∧ (v :: p').Nodup := by
  induction h with
  | nil =>
    obtain rfl : v = s := by simpa using hv
    exact ⟨[], 0, .nil, Int.le_refl _, hn⟩
  | @cons u x c e q h ha ih =>
    rcases List.mem_cons.1 hv with rfl | hv
    · exact ⟨_, _, h.cons ha, Int.le_refl _, hn⟩
    · obtain ⟨p', c', h1, h2, h3⟩ := ih (List.nodup_cons.1 hn).2 hv
      have := hf.adj ha
      exact ⟨p', c', h1, by omega, h3⟩
theorem Sp.mem (hf : Fit n ls) (hs : 0 ≤ s ∧ s < n) {p : List Int} {c : Int} (h : Sp ls s p c) : ∀ v ∈ p, 0 ≤ v ∧ v < n := by
  induction h with
  | nil =>
    intro v hv
    obtain rfl : v = s := by simpa using hv
    exact hs
  | cons h ha ih =>
    intro v hv
    rcases List.mem_cons.1 hv with rfl | hv
    · have := hf.adj ha; omega
    · exact ih v hv
theorem Wk.simple (hf : Fit n ls) {v c : Int} {k : Nat} (hw : Wk ls s v c k) : ∃ p c', Sp ls s (v :: p) c' ∧ c' ≤ c ∧ (v :: p).Nodup := by
  induction hw with
  | nil => exact ⟨[], 0, .nil, Int.le_refl _, by simp⟩
  | @snoc u v c e k h ha ih =>
    obtain ⟨p, c', h1, h2, h3⟩ := ih
    have := hf.adj ha
    by_cases hv : v ∈ u :: p
    · obtain ⟨p', c'', g1, g2, g3⟩ := h1.cut hf h3 hv
      exact ⟨p', c'', g1, by omega, g3⟩
    · exact ⟨_, _, h1.cons ha, by omega, List.nodup_cons.2 ⟨hv, h3⟩⟩
theorem nodup_len {m : Nat} : ∀ {p : List Int}, p.Nodup → (∀ v ∈ p, 0 ≤ v ∧ v < m) → p.length ≤ m := by
  induction m with
  | zero =>
    intro p hp h
    cases p with
    | nil => simp
    | cons v p => have := h v (by simp); omega
  | succ m ih =>
    intro p hp h
    have h1 := ih (p := p.filter (fun x => decide (x ≠ (m : Int)))) (List.Nodup.sublist List.filter_sublist hp) (fun v hv => by
      have h2 := (List.mem_filter.1 hv)
      have h3 := h v h2.1
      have h4 : v ≠ (m : Int) := by simpa using h2.2
      omega)
    have h2 : p.length ≤ (p.filter (fun x => decide (x ≠ (m : Int)))).length + 1 := by
      clear h1 h ih
      induction p with
      | nil => simp
      | cons x p ih =>
        have hp' := List.nodup_cons.1 hp
        by_cases hx : x = (m : Int)
        · subst hx
          have : p.filter (fun x => decide (x ≠ (m : Int))) = p := List.filter_eq_self.2 (fun y hy => by
            have : y ≠ (m : Int) := fun e => hp'.1 (e ▸ hy)
            simpa using this)
          rw [List.filter_cons_of_neg (by simp), this]
          simp
        · rw [List.filter_cons_of_pos (by simpa using hx)]
          have := ih hp'.2
          simp at this ⊢
          omega
    omega
theorem Wk.short (hf : Fit n ls) (hs : 0 ≤ s ∧ s < n) {v c : Int} {k : Nat} (hw : Wk ls s v c k) : ∃ c' k', Wk ls s v c' k' ∧ c' ≤ c ∧ (k' : Int) < n := by
  obtain ⟨p, c', h1, h2, h3⟩ := hw.simple hf
  refine ⟨c', _, h1.wk, h2, ?_⟩
  have := nodup_len (m := n.toNat) h3 (fun v hv => by have := h1.mem hf hs v hv; omega)
  simp at this
  omega

/-! ### Rounds of relaxing -/
def upd (f : Int → Int) (v x : Int) : Int → Int := fun y => if y = v then x else f y
def lower (f : Int → Int) (u v c : Int) : Int → Int := if 0 ≤ f u ∧ (f v < 0 ∨ f u + c < f v) then upd f v (f u + c) else f
def relax (f : Int → Int) (l : Lk) : Int → Int := lower (lower f l.a l.b l.c) l.b l.a l.c
def Ub (f : Int → Int) (v c : Int) : Prop := 0 ≤ f v ∧ f v ≤ c
theorem Ub.lower {f : Int → Int} {v c : Int} (h : Ub f v c) (u w e : Int) (he : 0 ≤ e) : Ub (lower f u w e) v c := by
  unfold Ub at *
  unfold Go.Proofs.Ytigamnnboojiiaa.lower
  split
  · rename_i hc
    unfold upd
    split
    · rename_i e; subst e; omega
    · exact h
  · exact h
theorem lower_edge {f : Int → Int} {u v c e : Int} (h : Ub f u c) (he : 0 ≤ e) : Ub (lower f u v e) v (c + e) := by
  unfold Ub at *
  unfold lower
  split
  · unfold upd
    simp
    omega
  · omega
theorem Ub.relax {f : Int → Int} {v c : Int} (h : Ub f v c) (l : Lk) (he : 0 ≤ l.c) : Ub (relax f l) v c := (h.lower _ _ _ he).lower _ _ _ he
theorem relax_edge {f : Int → Int} {u v c : Int} {l : Lk} (h : Ub f u c) (he : 0 ≤ l.c) (hl : (l.a = u ∧ l.b = v) ∨ (l.b = u ∧ l.a = v)) : Ub (relax f l) v (c + l.c) := by
  rcases hl with ⟨rfl, rfl⟩ | ⟨rfl, rfl⟩
  · exact (lower_edge h he).lower _ _ _ he
  · exact lower_edge (h.lower _ _ _ he) he
def rnd (ls : List Lk) (f : Int → Int) : Int → Int := ls.foldl relax f
theorem Ub.rnd {v c : Int} : ∀ (ls : List Lk) (f : Int → Int), (∀ l ∈ ls, 0 ≤ l.c) → Ub f v c → Ub (rnd ls f) v c
  | [], _, _, h => h
  | l :: ls, f, hc, h => Ub.rnd ls (Go.Proofs.Ytigamnnboojiiaa.relax f l) (fun m hm => hc m (by simp [hm])) (h.relax l (hc l (by simp)))
theorem rnd_edge {u v e c : Int} : ∀ (ls : List Lk) (f : Int → Int), (∀ l ∈ ls, 0 ≤ l.c) → Adj ls u v e → Ub f u c → Ub (rnd ls f) v (c + e)
  | [], _, _, ha, _ => by obtain ⟨l, hl, _⟩ := ha; simp at hl
  | l :: ls, f, hc, ha, h => by
    obtain ⟨m, hm, hh, rfl⟩ := ha
    rcases List.mem_cons.1 hm with rfl | hm
    · have := relax_edge h (hc m (by simp)) hh
      exact Ub.rnd ls _ (fun m hm => hc m (by simp [hm])) this
    · exact rnd_edge ls (relax f l) (fun m hm => hc m (by simp [hm])) ⟨m, hm, hh, rfl⟩ (h.relax l (hc l (by simp)))
def rnds (ls : List Lk) (f : Int → Int) : Nat → Int → Int
  | 0 => f
  | r + 1 => rnd ls (rnds ls f r)
def d0 (s : Int) : Int → Int := upd (fun _ => -1) s 0
theorem rnds_ub (hc : ∀ l ∈ ls, 0 ≤ l.c) {v c : Int} {k : Nat} (hw : Wk ls s v c k) : ∀ r, k ≤ r → Ub (rnds ls (d0 s) r) v c := by
  have hk : ∀ (f : Int → Int) v c, Ub f v c → Ub (rnd ls f) v c := fun f v c h => Ub.rnd ls f hc h
  induction hw with
  | nil =>
    intro r _
    induction r with
    | zero => simp [rnds, d0, Ub, upd]
    | succ r ih => exact hk _ _ _ (ih (by omega))
  | snoc h ha ih =>
    intro r hr
    cases r with
    | zero => omega
    | succ r => exact rnd_edge ls _ hc ha (ih r (by omega))
/-- What is reached is reached by a walk. -/
def Snd (ls : List Lk) (s : Int) (f : Int → Int) : Prop := ∀ v, (0 ≤ f v ∧ ∃ k, Wk ls s v (f v) k) ∨ f v = -1
theorem Snd.lower {f : Int → Int} (h : Snd ls s f) {u v e : Int} (ha : Adj ls u v e) (he : 0 ≤ e) : Snd ls s (lower f u v e) := by
  intro x
  unfold Go.Proofs.Ytigamnnboojiiaa.lower
  split
  · rename_i hc
    unfold upd
    split
    · rename_i e; subst e
      rcases h u with ⟨h0, k, hw⟩ | h0
      · exact .inl ⟨by omega, k + 1, hw.snoc ha⟩
      · omega
    · exact h x
  · exact h x
theorem Snd.rnd : ∀ (ms : List Lk) (f : Int → Int), (∀ l ∈ ms, l ∈ ls ∧ 0 ≤ l.c) → Snd ls s f → Snd ls s (rnd ms f)
  | [], _, _, h => h
  | l :: ms, f, hc, h => Snd.rnd ms (relax f l) (fun m hm => hc m (by simp [hm])) ((h.lower ⟨l, (hc l (by simp)).1, .inl ⟨rfl, rfl⟩, rfl⟩ (hc l (by simp)).2).lower ⟨l, (hc l (by simp)).1, .inr ⟨rfl, rfl⟩, rfl⟩ (hc l (by simp)).2)
theorem Snd.rnds (hc : ∀ l ∈ ls, 0 ≤ l.c) (r : Nat) : Snd ls s (rnds ls (d0 s) r) := by
  induction r with
  | zero =>
    intro v
    unfold Go.Proofs.Ytigamnnboojiiaa.rnds d0 upd
    split
    · rename_i e; subst e; exact .inl ⟨by omega, 0, .nil⟩
    · exact .inr rfl
  | succ r ih => exact Snd.rnd ls _ (fun l hl => ⟨hl, hc l hl⟩) ih

/-- The distances: as many rounds as nodes. -/
def bf (n : Int) (ls : List Lk) (s : Int) : Int → Int := rnds ls (d0 s) n.toNat
theorem bf_isD (hf : Fit n ls) (hs : 0 ≤ s ∧ s < n) (v : Int) : IsD ls s v (bf n ls s v) := by
  have hc : ∀ l ∈ ls, 0 ≤ l.c := fun l hl => by have := hf.c1 l hl; omega
  have hub : ∀ c k, Wk ls s v c k → Ub (bf n ls s) v c := fun c k hw => by
    obtain ⟨c', k', hw', hle, hk⟩ := hw.short hf hs
    have := rnds_ub hc hw' n.toNat (by omega)
    exact ⟨this.1, Int.le_trans this.2 hle⟩
  rcases Snd.rnds (s := s) hc n.toNat v with ⟨h0, k, hw⟩ | h
  · exact .inl ⟨h0, ⟨k, hw⟩, fun c k hw => (hub c k hw).2⟩
  · refine .inr ⟨h, fun c k hw => ?_⟩
    have := (hub c k hw).1
    unfold bf at this
    omega
end

end Go.Proofs.Ytigamnnboojiiaa
