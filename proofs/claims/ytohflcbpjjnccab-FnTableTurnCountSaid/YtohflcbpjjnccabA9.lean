/-
  Plain facts: walks over links, distances, and that the rounds of relaxing find them.
-/
import Derived.Test.YtohflcbpjjnccabA1
namespace Go.Proofs.Ytohflcbpjjnccab

/-! ### Walks -/
/-- A link between u and v of cost e. -/
def Adj (ls : List Lk) (u v e : Int) : Prop := ∃ l ∈ ls, ((l.a = u ∧ l.b = v) ∨ (l.b = u ∧ l.a = v)) ∧ l.c = e
theorem Adj.symm {ls : List Lk} {u v e : Int} (h : Adj ls u v e) : Adj ls v u e := by
  obtain ⟨l, hl, h, hc⟩ := h
  exact ⟨l, hl, h.symm.imp And.symm And.symm, hc⟩

/-- A walk from s of this cost and this many links. -/
inductive Wk (ls : List Lk) (s : Int) : Int → Int → Nat → Prop
  | nil : Wk ls s s 0 0
  | snoc {u v c e : Int} {k : Nat} : Wk ls s u c k → Adj ls u v e → Wk ls s v (c + e) (k + 1)

/-- The links are within the nodes and have positive costs. -/
structure Fit (n : Int) (ls : List Lk) : Prop where
  a0 : ∀ l ∈ ls, 0 ≤ l.a
  ab : ∀ l ∈ ls, l.a < l.b
  bn : ∀ l ∈ ls, l.b < n
  c1 : ∀ l ∈ ls, 1 ≤ l.c
  c20 : ∀ l ∈ ls, l.c ≤ 20

section
variable {n : Int} {ls : List Lk} {s : Int}
theorem Fit.adj (h : Fit n ls) {u v e : Int} (ha : Adj ls u v e) : 0 ≤ u ∧ u < n ∧ 0 ≤ v ∧ v < n ∧ 1 ≤ e ∧ e ≤ 20 ∧ u ≠ v := by
  obtain ⟨l, hl, hh, hc⟩ := ha
  have := h.a0 l hl
  have := h.ab l hl
  have := h.bn l hl
  have := h.c1 l hl
  have := h.c20 l hl
  omega
theorem Wk.pos (h : Fit n ls) {v c : Int} {k : Nat} (hw : Wk ls s v c k) : 0 ≤ c := by
  induction hw with
  | nil => omega
  | snoc _ ha ih => have := h.adj ha; omega
theorem Wk.le (h : Fit n ls) {v c : Int} {k : Nat} (hw : Wk ls s v c k) : (k : Int) ≤ c ∧ c ≤ 20 * k := by
  induction hw with
  | nil => simp
  | snoc _ ha ih => have := h.adj ha; omega
theorem Wk.node (h : Fit n ls) (hs : 0 ≤ s ∧ s < n) {v c : Int} {k : Nat} (hw : Wk ls s v c k) : 0 ≤ v ∧ v < n := by
  cases hw with
  | nil => exact hs
  | snoc _ ha => have := h.adj ha; omega
theorem Wk.trans {v c : Int} {k : Nat} (hw : Wk ls s v c k) {t d : Int} {m : Nat} (h2 : Wk ls v t d m) : Wk ls s t (c + d) (k + m) := by
  induction h2 with
  | nil => simpa using hw
  | snoc _ ha ih => have := ih.snoc ha; rwa [Int.add_assoc, Nat.add_assoc] at this
theorem Wk.one {u v e : Int} (h : Adj ls u v e) : Wk ls u v e 1 := by
  have := (Wk.nil (ls := ls) (s := u)).snoc h
  simpa using this
theorem Wk.symm {v c : Int} {k : Nat} (hw : Wk ls s v c k) : Wk ls v s c k := by
  induction hw with
  | nil => exact .nil
  | snoc _ ha ih =>
    have := (Wk.one ha.symm).trans ih
    rwa [Int.add_comm, Nat.add_comm] at this

/-- The distance of v from s. -/
def IsD (ls : List Lk) (s v d : Int) : Prop :=
  (0 ≤ d ∧ (∃ k, Wk ls s v d k) ∧ ∀ c k, Wk ls s v c k → d ≤ c) ∨ (d = -1 ∧ ∀ c k, ¬ Wk ls s v c k)
theorem IsD.uniq {v d d' : Int} (h : IsD ls s v d) (h' : IsD ls s v d') : d = d' := by
  rcases h with ⟨h0, ⟨k, hk⟩, hm⟩ | ⟨rfl, hn⟩ <;> rcases h' with ⟨h0', ⟨k', hk'⟩, hm'⟩ | ⟨rfl, hn'⟩
  · have := hm _ _ hk'
    have := hm' _ _ hk
    omega
  · exact absurd hk (hn' _ _)
  · exact absurd hk' (hn _ _)
  · rfl

/-! ### Walks without a node twice -/
/-- The nodes of a walk from s, the last one first. -/
inductive Sp (ls : List Lk) (s : Int) : List Int → Int → Prop
  | nil : Sp ls s [s] 0
  | cons {u v c e : Int} {p : List Int} : Sp ls s (u :: p) c → Adj ls u v e → Sp ls s (v :: u :: p) (c + e)
theorem Sp.wk {p : List Int} {v c : Int} (h : Sp ls s (v :: p) c) : Wk ls s v c p.length := by
  generalize hq : v :: p = q at h
  induction h generalizing v p with
  | nil => cases hq; exact .nil
  | cons h ha ih => cases hq; exact (ih rfl).snoc ha
theorem Sp.cut (hf : Fit n ls) {p : List Int} {c : Int} (h : Sp ls s p c) (hn : p.Nodup) {v : Int} (hv : v ∈ p) : ∃ p' c', Sp ls s (v :: p') c' ∧ c' ≤ c ∧ (v :: p').Nodup := by
  induction h with
  | nil =>
    obtain rfl : v = s := by simpa using hv
    exact ⟨[], 0, .nil, Int.le_refl _, hn⟩
  | @cons u x c e q h ha ih =>
    rcases List.mem_cons.1 hv with rfl | hv
    · exact ⟨_, _, h.cons ha, Int.le_refl _, hn⟩
    · obtain ⟨p', c', h1, h2, h3⟩ := ih (List.nodup_cons.1 hn).2 hv
      have := hf.adj ha
      exact ⟨p', c', h1, by omega, h3⟩
theorem Sp.mem (hf : Fit n ls) (hs : 0 ≤ s ∧ s < n) {p : List Int} {c : Int} (h : Sp ls s p c) : ∀ v ∈ p, 0 ≤ v ∧ v < n := by
  induction h with
  | nil =>
    intro v hv
    obtain rfl : v = s := by simpa using hv
    exact hs
  | cons h ha ih =>
    intro v hv
    rcases List.mem_cons.1 hv with rfl | hv
    · have := hf.adj ha; omega
    · exact ih v hv
theorem Wk.simple (hf : Fit n ls) {v c : Int} {k : Nat} (hw : Wk ls s v c k) : ∃ p c', Sp ls s (v :: p) c' ∧ c' ≤ c ∧ (v :: p).Nodup := by
  induction hw with
  | nil => exact ⟨[], 0, .nil, Int.le_refl _, by simp⟩
  | @snoc u v c e k h ha ih =>
    obtain ⟨p, c', h1, h2, h3⟩ := ih
    have := hf.adj ha
    by_cases hv : v ∈ u :: p
    · obtain ⟨p', c'', g1, g2, g3⟩ := h1.cut hf h3 hv
      exact ⟨p', c'', g1, by omega, g3⟩
    · exact ⟨_, _, h1.cons ha, by omega, List.nodup_cons.2 ⟨hv, h3⟩⟩
theorem nodup_len {m : Nat} : ∀ {p : List Int}, p.Nodup → (∀ v ∈ p, 0 ≤ v ∧ v < m) → p.length ≤ m := by
  induction m with
  | zero =>
    intro p hp h
    cases p with
    | nil => simp
    | cons v p => have := h v (by simp); omega
  | succ m ih =>
    intro p hp h
    have h1 := ih (p := p.filter (fun x => decide (x ≠ (m : Int)))) (List.Nodup.sublist List.filter_sublist hp) (fun v hv => by
      have h2 := (List.mem_filter.1 hv)
      have h3 := h v h2.1
      have h4 : v ≠ (m : Int) := by simpa using h2.2
      omega)
    have h2 : p.length ≤ (p.filter (fun x => decide (x ≠ (m : Int)))).length + 1 := by
      clear h1 h ih
      induction p with
      | nil => simp
      | cons x p ih =>
        have hp' := List.nodup_cons.1 hp
        by_cases hx : x = (m : Int)
        · subst hx
          have : p.filter (fun x => decide (x ≠ (m : Int))) = p := List.filter_eq_self.2 (fun y hy => by
            have : y ≠ (m : Int) := fun e => hp'.1 (e ▸ hy)
            simpa using this)
          rw [List.filter_cons_of_neg (by simp), this]
          simp
        · rw [List.filter_cons_of_pos (by simpa using hx)]
          have := ih hp'.2
          simp at this ⊢
          omega
    omega
theorem Wk.short (hf : Fit n ls) (hs : 0 ≤ s ∧ s < n) {v c : Int} {k : Nat} (hw : Wk ls s v c k) : ∃ c' k', Wk ls s v c' k' ∧ c' ≤ c ∧ (k' : Int) < n := by
  obtain ⟨p, c', h1, h2, h3⟩ := hw.simple hf
  refine ⟨c', _, h1.wk, h2, ?_⟩
  have := nodup_len (m := n.toNat) h3 (fun v hv => by have := h1.mem hf hs v hv; omega)
  simp at this
  omega

/-! ### Rounds of relaxing -/
def upd (f : Int → Int) (v x : Int) : Int → Int := fun y => if y = v then x else f y
def lower (f : Int → Int) (u v c : Int) : Int → Int := if 0 ≤ f u ∧ (f v < 0 ∨ f u + c < f v) then upd f v (f u + c) else f
def relax (f : Int → Int) (l : Lk) : Int → Int := lower (lower f l.a l.b l.c) l.b l.a l.c
def Ub (f : Int → Int) (v c : Int) : Prop := 0 ≤ f v ∧ f v ≤ c
theorem Ub.lower {f : Int → Int} {v c : Int} (h : Ub f v c) (u w e : Int) (he : 0 ≤ e) : Ub (lower f u w e) v c := by
  unfold Ub at *
  unfold Go.Proofs.Ytohflcbpjjnccab.lower
  split
  · rename_i hc
    unfold upd
    split
    · rename_i e; subst e; omega
    · exact h
  · exact h
theorem lower_edge {f : Int → Int} {u v c e : Int} (h : Ub f u c) (he : 0 ≤ e) : Ub (lower f u v e) v (c + e) := by
  unfold Ub at *
  unfold lower
  split
  · unfold upd
    simp
    omega
  · omega
theorem Ub.relax {f : Int → Int} {v c : Int} (h : Ub f v c) (l : Lk) (he : 0 ≤ l.c) : Ub (relax f l) v c := (h.lower _ _ _ he).lower _ _ _ he
theorem relax_edge {f : Int → Int} {u v c : Int} {l : Lk} (h : Ub f u c) (he : 0 ≤ l.c) (hl : (l.a = u ∧ l.b = v) ∨ (l.b = u ∧ l.a = v)) : Ub (relax f l) v (c + l.c) := by
  rcases hl with ⟨rfl, rfl⟩ | ⟨rfl, rfl⟩
  · exact (lower_edge h he).lower _ _ _ he
  · exact lower_edge (h.lower _ _ _ he) he
def rnd (ls : List Lk) (f : Int → Int) : Int → Int := ls.foldl relax f
theorem Ub.rnd {v c : Int} : ∀ (ls : List Lk) (f : Int → Int), (∀ l ∈ ls, 0 ≤ l.c) → Ub f v c → Ub (rnd ls f) v c
  | [], _, _, h => h
  | l :: ls, f, hc, h => Ub.rnd ls (Go.Proofs.Ytohflcbpjjnccab.relax f l) (fun m hm => hc m (by simp [hm])) (h.relax l (hc l (by simp)))
theorem rnd_edge {u v e c : Int} : ∀ (ls : List Lk) (f : Int → Int), (∀ l ∈ ls, 0 ≤ l.c) → Adj ls u v e → Ub f u c → Ub (rnd ls f) v (c + e)
  | [], _, _, ha, _ => by obtain ⟨l, hl, _⟩ := ha; simp at hl
  | l :: ls, f, hc, ha, h => by
    obtain ⟨m, hm, hh, rfl⟩ := ha
    rcases List.mem_cons.1 hm with rfl | hm
    · have := relax_edge h (hc m (by simp)) hh
      exact Ub.rnd ls _ (fun m hm => hc m (by simp [hm])) this
    · exact rnd_edge ls (relax f l) (fun m hm => hc m (by simp [hm])) ⟨m, hm, hh, rfl⟩ (h.relax l (hc l (by simp)))
def rnds (ls : List Lk) (f : Int → Int) : Nat → Int → Int
  | 0 => f
  | r + 1 => rnd ls (rnds ls f r)
def d0 (s : Int) : Int → Int := upd (fun _ => -1) s 0
theorem rnds_ub (hc : ∀ l ∈ ls, 0 ≤ l.c) {v c : Int} {k : Nat} (hw : Wk ls s v c k) : ∀ r, k ≤ r → Ub (rnds ls (d0 s) r) v c := by
  have hk : ∀ (f : Int → Int) v c, Ub f v c → Ub (rnd ls f) v c := fun f v c h => Ub.rnd ls f hc h
  induction hw with
  | nil =>
    intro r _
    induction r with
    | zero => simp [rnds, d0, Ub, upd]
    | succ r ih => exact hk _ _ _ (ih (by omega))
  | snoc h ha ih =>
    intro r hr
    cases r with
    | zero => omega
    | succ r => exact rnd_edge ls _ hc ha (ih r (by omega))
/-- What is reached is reached by a walk. -/
def Snd (ls : List Lk) (s : Int) (f : Int → Int) : Prop := ∀ v, (0 ≤ f v ∧ ∃ k, Wk ls s v (f v) k) ∨ f v = -1
theorem Snd.lower {f : Int → Int} (h : Snd ls s f) {u v e : Int} (ha : Adj ls u v e) (he : 0 ≤ e) : Snd ls s (lower f u v e) := by
  intro x
  unfold Go.Proofs.Ytohflcbpjjnccab.lower
  split
  · rename_i hc
    unfold upd
    split
    · rename_i e; subst e
      rcases h u with ⟨h0, k, hw⟩ | h0
      · exact .inl ⟨by omega, k + 1, hw.snoc ha⟩
      · omega
    · exact h x
  · exact h x
theorem Snd.rnd : ∀ (ms : List Lk) (f : Int → Int), (∀ l ∈ ms, l ∈ ls ∧ 0 ≤ l.c) → Snd ls s f → Snd ls s (rnd ms f)
  | [], _, _, h => h
  | l :: ms, f, hc, h => Snd.rnd ms (relax f l) (fun m hm => hc m (by simp [hm])) ((h.lower ⟨l, (hc l (by simp)).1, .inl ⟨rfl, rfl⟩, rfl⟩ (hc l (by simp)).2).lower ⟨l, (hc l (by simp)).1, .inr ⟨rfl, rfl⟩, rfl⟩ (hc l (by simp)).2)
theorem Snd.rnds (hc : ∀ l ∈ ls, 0 ≤ l.c) (r : Nat) : Snd ls s (rnds ls (d0 s) r) := by
  induction r with
  | zero =>
    intro v
    unfold Go.Proofs.Ytohflcbpjjnccab.rnds d0 upd
    split
    · rename_i e; subst e; exact .inl ⟨by omega, 0, .nil⟩
    · exact .inr rfl
  | succ r ih => exact Snd.rnd ls _ (fun l hl => ⟨hl, hc l hl⟩) ih

/-- The distances: as many rounds as nodes. -/
def bf (n : Int) (ls : List Lk) (s : Int) : Int → Int := rnds ls (d0 s) n.toNat
theorem bf_isD (hf : Fit n ls) (hs : 0 ≤ s ∧ s < n) (v : Int) : IsD ls s v (bf n ls s v) := by
  have hc : ∀ l ∈ ls, 0 ≤ l.c := fun l hl => by have := hf.c1 l hl; omega
  have hub : ∀ c k, Wk ls s v c k → Ub (bf n ls s) v c := fun c k hw => by
    obtain ⟨c', k', hw', hle, hk⟩ := hw.short hf hs
    have := rnds_ub hc hw' n.toNat (by omega)
    exact ⟨this.1, Int.le_trans this.2 hle⟩
  rcases Snd.rnds (s := s) hc n.toNat v with ⟨h0, k, hw⟩ | h
  · exact .inl ⟨h0, ⟨k, hw⟩, fun c k hw => (hub c k hw).2⟩
  · refine .inr ⟨h, fun c k hw => ?_⟩
    have := (hub c k hw).1
    unfold bf at this
    omega
end

end Go.Proofs.Ytohflcbpjjnccab

/-
  Plain facts: a heap of waiting nodes, and that taking the nearest one first finds the distances.
-/
namespace Go.Proofs.Ytohflcbpjjnccab

/-! ### Heaps -/
def sw (h : Nat → Int) (i j : Nat) : Nat → Int := fun k => if k = j then h i else if k = i then h j else h k
def HeapF (n : Nat) (h : Nat → Int) : Prop := ∀ k, 0 < k → k < n → h ((k - 1) / 2) ≤ h k
def UpF (n : Nat) (h : Nat → Int) (j : Nat) : Prop :=
  (∀ k, 0 < k → k < n → k ≠ j → h ((k - 1) / 2) ≤ h k) ∧ ∀ k, 0 < k → k < n → (k - 1) / 2 = j → 0 < j → h ((j - 1) / 2) ≤ h k
def DnF (n : Nat) (h : Nat → Int) (i : Nat) : Prop :=
  (∀ k, 0 < k → k < n → (k - 1) / 2 ≠ i → h ((k - 1) / 2) ≤ h k) ∧ ∀ k, 0 < k → k < n → (k - 1) / 2 = i → 0 < i → h ((i - 1) / 2) ≤ h k
theorem HeapF.root {n : Nat} {h : Nat → Int} (hh : HeapF n h) : ∀ k, k < n → h 0 ≤ h k := by
  intro k
  induction k using Nat.strongRecOn with
  | ind k ih =>
    intro hk
    by_cases h0 : k = 0
    · subst h0; exact Int.le_refl _
    · exact Int.le_trans (ih ((k - 1) / 2) (by omega) (by omega)) (hh k (by omega) hk)
theorem UpF.step {n : Nat} {h : Nat → Int} {j : Nat} (hu : UpF n h j) (hj : 0 < j) (hn : j < n) (hl : h j < h ((j - 1) / 2)) : UpF n (sw h ((j - 1) / 2) j) ((j - 1) / 2) := by
  obtain ⟨h1, h2⟩ := hu
  generalize hi : (j - 1) / 2 = i at *
  refine ⟨fun k hk hkn hki => ?_, fun k hk hkn hp hi0 => ?_⟩
  · unfold sw
    by_cases hkj : k = j
    · subst hkj
      rw [if_neg (by omega), if_pos (by omega), if_pos rfl]
      omega
    · rw [if_neg (show k ≠ j from hkj), if_neg hki]
      by_cases hpj : (k - 1) / 2 = j
      · rw [if_pos hpj]
        exact h2 k hk hkn hpj hj
      · rw [if_neg hpj]
        by_cases hpi : (k - 1) / 2 = i
        · rw [if_pos hpi]
          have := h1 k hk hkn hkj
          rw [hpi] at this
          omega
        · rw [if_neg hpi]
          exact h1 k hk hkn hkj
  · unfold sw
    have h3 := h1 i hi0 (by omega) (by omega)
    rw [if_neg (show (i - 1) / 2 ≠ j by omega), if_neg (show (i - 1) / 2 ≠ i by omega)]
    by_cases hkj : k = j
    · rw [if_pos hkj]; exact h3
    · rw [if_neg hkj, if_neg (show k ≠ i by omega)]
      have := h1 k hk hkn hkj
      rw [hp] at this
      omega
theorem UpF.done {n : Nat} {h : Nat → Int} {j : Nat} (hu : UpF n h j) (hd : j = 0 ∨ ¬ h j < h ((j - 1) / 2)) : HeapF n h := by
  intro k hk hkn
  by_cases hkj : k = j
  · subst hkj
    rcases hd with hd | hd
    · omega
    · omega
  · exact hu.1 k hk hkn hkj
theorem DnF.step {n : Nat} {h : Nat → Int} {i j : Nat} (hu : DnF n h i) (hj0 : 0 < j) (hjn : j < n) (hp : (j - 1) / 2 = i) (hl : h j < h i)
    (hmin : ∀ k, 0 < k → k < n → (k - 1) / 2 = i → h j ≤ h k) : DnF n (sw h i j) j := by
  obtain ⟨h1, h2⟩ := hu
  refine ⟨fun k hk hkn hki => ?_, fun k hk hkn hpk _ => ?_⟩
  · unfold sw
    rw [if_neg hki]
    by_cases hkj : k = j
    · subst hkj
      rw [if_pos hp, if_pos rfl]; omega
    · rw [if_neg hkj]
      by_cases hpi : (k - 1) / 2 = i
      · rw [if_pos hpi, if_neg (show k ≠ i by omega)]
        exact hmin k hk hkn hpi
      · rw [if_neg hpi]
        by_cases hki' : k = i
        · rw [if_pos hki']
          subst hki'
          exact h2 j hj0 hjn hp hk
        · rw [if_neg hki']
          exact h1 k hk hkn hpi
  · unfold sw
    rw [hp, if_neg (show i ≠ j by omega), if_pos rfl, if_neg (show k ≠ j by omega), if_neg (show k ≠ i by omega)]
    have := h1 k hk hkn (by omega)
    rwa [hpk] at this
theorem DnF.done {n : Nat} {h : Nat → Int} {i : Nat} (hu : DnF n h i) (hd : ∀ k, 0 < k → k < n → (k - 1) / 2 = i → h i ≤ h k) : HeapF n h := by
  intro k hk hkn
  by_cases hp : (k - 1) / 2 = i
  · rw [hp]; exact hd k hk hkn hp
  · exact hu.1 k hk hkn hp

/-! ### Lists of waiting nodes -/
structure Vs where
  nd : Int
  ct : Int
def ctf (a : List Vs) (i : Nat) : Int := match a[i]? with
  | some x => x.ct
  | none => 0
theorem ctf_at {a : List Vs} {i : Nat} {x : Vs} (h : a[i]? = some x) : ctf a i = x.ct := by unfold ctf; rw [h]
def swp (a : List Vs) (i j : Nat) : List Vs := match a[i]?, a[j]? with
  | some x, some y => (a.set i y).set j x
  | _, _ => a
theorem swp_eq {a : List Vs} {i j : Nat} {x y : Vs} (hi : a[i]? = some x) (hj : a[j]? = some y) : swp a i j = (a.set i y).set j x := by unfold swp; rw [hi, hj]
theorem swp_len (a : List Vs) (i j : Nat) : (swp a i j).length = a.length := by
  unfold swp; split <;> simp
theorem swp_at {a : List Vs} {i j : Nat} (hi : i < a.length) (hj : j < a.length) (k : Nat) : (swp a i j)[k]? = if k = j then a[i]? else if k = i then a[j]? else a[k]? := by
  rw [swp_eq (List.getElem?_eq_getElem hi) (List.getElem?_eq_getElem hj), List.getElem?_set, List.getElem?_set]
  by_cases h1 : k = j
  · subst h1
    rw [if_pos rfl, if_pos rfl, List.length_set, if_pos hj, List.getElem?_eq_getElem hi]
  · rw [if_neg (Ne.symm h1), if_neg h1]
    by_cases h2 : k = i
    · subst h2
      rw [if_pos rfl, if_pos rfl, if_pos hi, List.getElem?_eq_getElem hj]
    · rw [if_neg (Ne.symm h2), if_neg h2]
theorem swp_ctf {a : List Vs} {i j : Nat} (hi : i < a.length) (hj : j < a.length) : ctf (swp a i j) = sw (ctf a) i j := by
  funext k
  have e := swp_at hi hj k
  have g : ∀ (b : List Vs) (m : Nat), ctf b m = match b[m]? with
    | some x => x.ct
    | none => 0 := fun _ _ => rfl
  rw [g, e]
  unfold sw
  by_cases h1 : k = j
  · rw [if_pos h1, if_pos h1]; rfl
  · rw [if_neg h1, if_neg h1]
    by_cases h2 : k = i
    · rw [if_pos h2, if_pos h2]; rfl
    · rw [if_neg h2, if_neg h2]; rfl
theorem swp_mem {a : List Vs} {i j : Nat} (hi : i < a.length) (hj : j < a.length) (x : Vs) : x ∈ swp a i j ↔ x ∈ a := by
  constructor
  · intro h
    obtain ⟨k, hk⟩ := List.getElem?_of_mem h
    rw [swp_at hi hj] at hk
    split at hk
    · exact List.mem_of_getElem? hk
    · split at hk
      · exact List.mem_of_getElem? hk
      · exact List.mem_of_getElem? hk
  · intro h
    obtain ⟨k, hk⟩ := List.getElem?_of_mem h
    have hs := swp_at hi hj
    by_cases h1 : k = i
    · subst h1
      exact List.mem_of_getElem? ((hs j).trans (by rw [if_pos rfl]; exact hk))
    · by_cases h2 : k = j
      · subst h2
        exact List.mem_of_getElem? ((hs i).trans (by rw [if_neg (Ne.symm h1), if_pos rfl]; exact hk))
      · exact List.mem_of_getElem? ((hs k).trans (by rw [if_neg h2, if_neg h1]; exact hk))

def Hp (a : List Vs) : Prop := HeapF a.length (ctf a)
/-- b is a in another order. -/
def Re (a b : List Vs) : Prop := b.length = a.length ∧ ∀ x, x ∈ b ↔ x ∈ a
theorem Re.refl (a : List Vs) : Re a a := ⟨rfl, fun _ => .rfl⟩
theorem Re.swp {a b : List Vs} (h : Re a b) {i j : Nat} (hi : i < b.length) (hj : j < b.length) : Re a (swp b i j) :=
  ⟨(swp_len b i j).trans h.1, fun x => (swp_mem hi hj x).trans (h.2 x)⟩

/-- What pushing x leaves. -/
def PushR (a : List Vs) (x : Vs) (b : List Vs) : Prop := Hp b ∧ b.length = a.length + 1 ∧ ∀ y, y ∈ b ↔ y ∈ a ∨ y = x
theorem push_start {a : List Vs} (h : Hp a) (x : Vs) : UpF (a ++ [x]).length (ctf (a ++ [x])) a.length := by
  have e : ∀ k, k < a.length → ctf (a ++ [x]) k = ctf a k := fun k hk => by
    unfold ctf; rw [List.getElem?_append_left hk]
  constructor
  · intro k hk hkn hne
    simp at hkn
    rw [e _ (by omega), e _ (by omega)]
    exact h k hk (by omega)
  · intro k hk hkn hp hj
    simp at hkn
    omega
theorem push_end {a b : List Vs} {x : Vs} (hr : Re (a ++ [x]) b) (hh : Hp b) : PushR a x b :=
  ⟨hh, by rw [hr.1]; simp, fun y => by rw [hr.2 y]; simp⟩

/-- What popping v leaves. -/
def PopR (a : List Vs) (v : Vs) (b : List Vs) : Prop := Hp b ∧ a.length = b.length + 1 ∧ (∀ y, y ∈ a ↔ y ∈ b ∨ y = v) ∧ ∀ y ∈ a, v.ct ≤ y.ct
theorem pop_start {a : List Vs} (h : Hp a) (h0 : 0 < a.length) : DnF (a.length - 1) (ctf (swp a 0 (a.length - 1))) 0 := by
  rw [swp_ctf h0 (by omega)]
  constructor
  · intro k hk hkn hp
    unfold sw
    rw [if_neg (by omega), if_neg hp, if_neg (by omega), if_neg (by omega)]
    exact h k hk (by omega)
  · intro k _ _ _ hj; omega
/-- The last one stays, and the others are in another order. -/
def ReB (a : List Vs) (n : Nat) (b : List Vs) : Prop := b.length = a.length ∧ (∀ x, x ∈ b ↔ x ∈ a) ∧ ∀ k, n ≤ k → b[k]? = a[k]?
theorem ReB.refl (a : List Vs) (n : Nat) : ReB a n a := ⟨rfl, fun _ => .rfl, fun _ _ => rfl⟩
theorem ReB.swp {a b : List Vs} {n : Nat} (h : ReB a n b) {i j : Nat} (hi : i < n) (hj : j < n) (hn : n ≤ a.length) : ReB a n (swp b i j) := by
  have hb := h.1
  refine ⟨(swp_len b i j).trans h.1, fun x => (swp_mem (by omega) (by omega) x).trans (h.2.1 x), fun k hk => ?_⟩
  rw [swp_at (by omega) (by omega), if_neg (by omega), if_neg (by omega)]
  exact h.2.2 k hk
theorem pop_end {a b : List Vs} {v : Vs} (h : Hp a) (h0 : 0 < a.length) (hv : a[0]? = some v) (hr : ReB (swp a 0 (a.length - 1)) (a.length - 1) b) (hh : HeapF (a.length - 1) (ctf b)) :
    b[a.length - 1]? = some v ∧ PopR a v (b.take (a.length - 1)) := by
  have hlen : b.length = a.length := by rw [hr.1, swp_len]
  have hl : b[a.length - 1]? = some v := by
    rw [hr.2.2 _ (Nat.le_refl _), swp_at h0 (by omega), if_pos rfl, hv]
  have e : ∀ k, k < a.length - 1 → ctf (b.take (a.length - 1)) k = ctf b k := fun k hk => by
    unfold ctf; rw [List.getElem?_take_of_lt hk]
  refine ⟨hl, ?_, by simp; omega, fun y => ?_, fun y hy => ?_⟩
  · intro k hk hkn
    have hkn' : k < a.length - 1 := by simp at hkn; omega
    rw [e _ (by omega), e _ (by omega)]
    exact hh k hk hkn'
  · rw [← swp_mem h0 (show a.length - 1 < a.length by omega) y, ← hr.2.1 y]
    constructor
    · intro hy
      obtain ⟨k, hk⟩ := List.getElem?_of_mem hy
      have hkb := (List.getElem?_eq_some_iff.1 hk).1
      by_cases hkl : k < a.length - 1
      · exact .inl (List.mem_of_getElem? ((List.getElem?_take_of_lt hkl).trans hk))
      · obtain rfl : k = a.length - 1 := by omega
        rw [hl] at hk
        exact .inr (Option.some.inj hk).symm
    · rintro (hy | rfl)
      · exact List.mem_of_mem_take hy
      · exact List.mem_of_getElem? hl
  · obtain ⟨k, hk⟩ := List.getElem?_of_mem hy
    have hkb := (List.getElem?_eq_some_iff.1 hk).1
    have := h.root k hkb
    rwa [ctf_at hv, ctf_at hk] at this

/-! ### Taking the nearest one first -/
structure DjI (n : Int) (ls : List Lk) (s : Int) (f : Int → Int) (H : List Vs) : Prop where
  dist : ∀ v, 0 ≤ f v → IsD ls s v (f v)
  none : ∀ v, f v < 0 → f v = -1
  walk : ∀ x ∈ H, (∃ k, Wk ls s x.nd x.ct k) ∧ x.ct ≤ 160
  next : ∀ u v e, 0 ≤ f u → Adj ls u v e → 0 ≤ f v ∨ ⟨v, f u + e⟩ ∈ H
  start : 0 ≤ f s ∨ ⟨s, 0⟩ ∈ H

section
variable {n : Int} {ls : List Lk} {s : Int}
theorem DjI.init : DjI n ls s (fun _ => -1) [⟨s, 0⟩] where
  dist := fun v h => by simp at h
  none := fun v _ => rfl
  walk := fun x hx => by
    obtain rfl : x = ⟨s, 0⟩ := by simpa using hx
    exact ⟨⟨0, .nil⟩, by simp⟩
  next := fun u v e h => by simp at h
  start := .inr (by simp)
theorem isD_bound (hf : Fit n ls) (hs : 0 ≤ s ∧ s < n) (hn : n ≤ 8) {v d : Int} (h : IsD ls s v d) : d ≤ 140 := by
  rcases h with ⟨h0, ⟨k, hk⟩, hm⟩ | ⟨rfl, _⟩
  · obtain ⟨c', k', hw, hc, hk'⟩ := hk.short hf hs
    have := hm _ _ hw
    have := hw.le hf
    omega
  · omega
theorem DjI.reach (hf : Fit n ls) {f : Int → Int} {H : List Vs} (h : DjI n ls s f H) {b : Int} (hb : ∀ x ∈ H, b ≤ x.ct) {y c : Int} {k : Nat} (hw : Wk ls s y c k) : (0 ≤ f y ∧ f y ≤ c) ∨ b ≤ c := by
  have hdist : ∀ y c k, 0 ≤ f y → Wk ls s y c k → f y ≤ c := fun y c k h0 hw => by
    rcases h.dist y h0 with ⟨_, _, hm⟩ | ⟨e, _⟩
    · exact hm _ _ hw
    · omega
  induction hw with
  | nil =>
    rcases h.start with h1 | h1
    · exact .inl ⟨h1, hdist _ _ _ h1 .nil⟩
    · exact .inr (hb _ h1)
  | @snoc u v c e k hw ha ih =>
    have hp := hf.adj ha
    rcases ih with ⟨h1, h2⟩ | h1
    · rcases h.next u v e h1 ha with h3 | h3
      · exact .inl ⟨h3, hdist _ _ _ h3 (hw.snoc ha)⟩
      · have := hb _ h3
        exact .inr (by simp at this; omega)
    · exact .inr (by omega)
/-- Nothing waits: all distances are there. -/
theorem DjI.done (hf : Fit n ls) {f : Int → Int} (h : DjI n ls s f []) (v : Int) : IsD ls s v (f v) := by
  by_cases h0 : 0 ≤ f v
  · exact h.dist v h0
  · have e := h.none v (by omega)
    refine .inr ⟨e, fun c k hw => ?_⟩
    rcases h.reach hf (b := c + 1) (fun x hx => by simp at hx) hw with h1 | h1
    · omega
    · omega
/-- A node that has its distance already. -/
theorem DjI.skip {f : Int → Int} {H H' : List Vs} {v : Vs} (h : DjI n ls s f H) (hp : PopR H v H') (hv : 0 ≤ f v.nd) : DjI n ls s f H' where
  dist := h.dist
  none := h.none
  walk := fun x hx => h.walk x ((hp.2.2.1 x).2 (.inl hx))
  next := fun u w e hu ha => by
    rcases h.next u w e hu ha with h1 | h1
    · exact .inl h1
    · rcases (hp.2.2.1 _).1 h1 with h2 | h2
      · exact .inr h2
      · exact .inl (by rw [← h2] at hv; exact hv)
  start := by
    rcases h.start with h1 | h1
    · exact .inl h1
    · rcases (hp.2.2.1 _).1 h1 with h2 | h2
      · exact .inr h2
      · exact .inl (by rw [← h2] at hv; exact hv)
theorem DjI.near (hf : Fit n ls) {f : Int → Int} {H H' : List Vs} {v : Vs} (h : DjI n ls s f H) (hp : PopR H v H') (hv : f v.nd < 0) : IsD ls s v.nd v.ct := by
  obtain ⟨⟨k, hk⟩, _⟩ := h.walk v ((hp.2.2.1 v).2 (.inr rfl))
  refine .inl ⟨hk.pos hf, ⟨k, hk⟩, fun c k hw => ?_⟩
  rcases h.reach hf hp.2.2.2 hw with h1 | h1
  · omega
  · exact h1
/-- A node gets its distance, and its neighbours wait. -/
theorem DjI.settle (hf : Fit n ls) (hs : 0 ≤ s ∧ s < n) (hn : n ≤ 8) {f : Int → Int} {H H' H'' : List Vs} {v : Vs} (h : DjI n ls s f H) (hp : PopR H v H') (hv : f v.nd < 0)
    (hm : ∀ y, y ∈ H'' ↔ y ∈ H' ∨ ∃ w e, Adj ls v.nd w e ∧ y = ⟨w, v.ct + e⟩) : DjI n ls s (upd f v.nd v.ct) H'' := by
  have hd := h.near hf hp hv
  obtain ⟨⟨k, hk⟩, _⟩ := h.walk v ((hp.2.2.1 v).2 (.inr rfl))
  have h0 := hk.pos hf
  have hb := isD_bound hf hs hn hd
  have hin : ∀ y, y ∈ H → y ∈ H'' ∨ y = v := fun y hy => by
    rcases (hp.2.2.1 y).1 hy with h1 | h1
    · exact .inl ((hm y).2 (.inl h1))
    · exact .inr h1
  have hu : 0 ≤ upd f v.nd v.ct v.nd := by unfold upd; simp; exact h0
  have hmono : ∀ w, 0 ≤ f w → 0 ≤ upd f v.nd v.ct w := fun w hw => by
    unfold upd; split <;> assumption
  refine ⟨fun w hw => ?_, fun w hw => ?_, fun x hx => ?_, fun u w e h1 ha => ?_, ?_⟩
  · unfold upd at hw ⊢
    split
    · rename_i e; subst e; exact hd
    · rename_i e; rw [if_neg e] at hw; exact h.dist w hw
  · unfold upd at hw ⊢
    split
    · rename_i e; rw [if_pos e] at hw; omega
    · rename_i e; rw [if_neg e] at hw; exact h.none w hw
  · rcases (hm x).1 hx with h1 | ⟨w, e, ha, rfl⟩
    · exact h.walk x ((hp.2.2.1 x).2 (.inl h1))
    · have := hf.adj ha
      exact ⟨⟨_, hk.snoc ha⟩, by simp; omega⟩
  · by_cases hun : u = v.nd
    · subst hun
      refine .inr ((hm _).2 (.inr ⟨w, e, ha, ?_⟩))
      unfold upd; simp
    · have hfu : upd f v.nd v.ct u = f u := by unfold upd; rw [if_neg hun]
      rw [hfu] at h1 ⊢
      rcases h.next u w e h1 ha with h2 | h2
      · exact .inl (hmono _ h2)
      · rcases hin _ h2 with h3 | h3
        · exact .inr h3
        · exact .inl (by rw [← h3] at hu ⊢; exact hu)
  · rcases h.start with h1 | h1
    · exact .inl (hmono _ h1)
    · rcases hin _ h1 with h3 | h3
      · exact .inr h3
      · exact .inl (by rw [← h3] at hu ⊢; exact hu)

/-- How many nodes have no distance. -/
def uns (f : Int → Int) : Nat → Nat
  | 0 => 0
  | k + 1 => uns f k + (if f k < 0 then 1 else 0)
theorem uns_le (f : Int → Int) (k : Nat) : uns f k ≤ k := by
  induction k with
  | zero => simp [uns]
  | succ k ih => unfold uns; split <;> omega
theorem uns_far {f : Int → Int} {v x : Int} {k : Nat} (h : (k : Int) ≤ v) : uns (upd f v x) k = uns f k := by
  induction k with
  | zero => rfl
  | succ k ih =>
    unfold uns
    rw [ih (by omega)]
    have : upd f v x (k : Int) = f k := by unfold upd; rw [if_neg (by omega)]
    rw [this]
theorem uns_upd {f : Int → Int} {v x : Int} (h0 : 0 ≤ v) (hv : f v < 0) (hx : 0 ≤ x) {k : Nat} (h : v < (k : Int)) : uns (upd f v x) k + 1 = uns f k := by
  induction k with
  | zero => omega
  | succ k ih =>
    unfold uns
    by_cases hk : v = (k : Int)
    · subst hk
      rw [uns_far (Int.le_refl _), if_neg (by unfold upd; simp; exact hx), if_pos hv]
    · have := ih (by omega)
      have e : upd f v x (k : Int) = f k := by unfold upd; rw [if_neg (by omega)]
      rw [e]
      omega
end

end Go.Proofs.Ytohflcbpjjnccab
