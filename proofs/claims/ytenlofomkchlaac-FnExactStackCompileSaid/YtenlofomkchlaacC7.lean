/-
  Plain facts: a row is cut into parts, each as long as it may be: no other way of cutting needs fewer parts.
-/
import Derived.Test.YtenlofomkchlaacC6
namespace Go.Proofs.Ytenlofomkchlaac

/-- How far a part that begins at i goes: on from e, as long as it may. -/
def growN (ok : Nat → Nat → Bool) (m i : Nat) : Nat → Nat → Nat
  | 0, e => e
  | f + 1, e => if e + 1 ≤ m ∧ ok i (e + 1) = true then growN ok m i f (e + 1) else e
def nxtN (ok : Nat → Nat → Bool) (m i : Nat) : Nat := growN ok m i m (i + 1)
/-- How many parts. -/
def gN (ok : Nat → Nat → Bool) (m : Nat) : Nat → Nat → Nat
  | 0, _ => 0
  | f + 1, i => if i + 1 ≤ m then gN ok m f (nxtN ok m i) + 1 else 0
/-- A piece of a part that may be is one that may be. -/
def Her (ok : Nat → Nat → Bool) (m : Nat) : Prop := ∀ i j i' j', i ≤ i' → i' < j' → j' ≤ j → j ≤ m → ok i j = true → ok i' j' = true
/-- Some way of cutting from i to j into so many parts; a part of one step always may be. -/
inductive Cov (ok : Nat → Nat → Bool) : Nat → Nat → Nat → Prop
  | nil {i : Nat} : Cov ok i i 0
  | step {i j m k : Nat} : i < j → (j = i + 1 ∨ ok i j = true) → Cov ok j m k → Cov ok i m (k + 1)

section
variable {ok : Nat → Nat → Bool} {m i j k : Nat}
theorem growN_ge (f : Nat) : ∀ e : Nat, e ≤ growN ok m i f e := by
  induction f with
  | zero => intro e; exact Nat.le_refl _
  | succ f ih =>
    intro e
    unfold growN
    split
    · have := ih (e + 1); omega
    · exact Nat.le_refl _
theorem growN_le : ∀ (f e : Nat), e ≤ m → growN ok m i f e ≤ m
  | 0, e, h => h
  | f + 1, e, h => by
    unfold growN
    split
    · rename_i hc; exact growN_le f (e + 1) hc.1
    · exact h
theorem growN_ok : ∀ (f e : Nat), growN ok m i f e = e ∨ ok i (growN ok m i f e) = true
  | 0, e => .inl rfl
  | f + 1, e => by
    unfold growN
    split
    · rename_i hc
      rcases growN_ok f (e + 1) with h | h
      · right; rw [h]; exact hc.2
      · exact .inr h
    · exact .inl rfl
theorem growN_to : ∀ (f e : Nat), (∀ e', e < e' → e' ≤ j → ok i e' = true) → j ≤ m → j ≤ e + f → e ≤ j → j ≤ growN ok m i f e
  | 0, e, _, _, h, _ => by unfold growN; omega
  | f + 1, e, hok, hm, hf, he => by
    unfold growN
    by_cases hj : e = j
    · subst hj
      split
      · have := growN_ge (ok := ok) (m := m) (i := i) f (e + 1); omega
      · exact Nat.le_refl _
    · rw [if_pos ⟨by omega, hok (e + 1) (by omega) (by omega)⟩]
      exact growN_to f (e + 1) (fun e' h1 h2 => hok e' (by omega) h2) hm (by omega) (by omega)
theorem nxtN_gt (ok : Nat → Nat → Bool) (m i : Nat) : i < nxtN ok m i := growN_ge (ok := ok) (m := m) (i := i) m (i + 1)
theorem nxtN_le (h : i + 1 ≤ m) : nxtN ok m i ≤ m := growN_le m (i + 1) h
theorem nxtN_ok (ok : Nat → Nat → Bool) (m i : Nat) : nxtN ok m i = i + 1 ∨ ok i (nxtN ok m i) = true := growN_ok m (i + 1)
theorem Cov.le (h : Cov ok i j k) : i ≤ j := by
  induction h with
  | nil => exact Nat.le_refl _
  | step h1 _ _ ih => omega
theorem Cov.join {a b : Nat} (h : Cov ok i j a) (h2 : Cov ok j m b) : Cov ok i m (a + b) := by
  induction h with
  | nil => rw [Nat.zero_add]; exact h2
  | @step i j m' k h1 h3 _ ih => rw [Nat.add_right_comm]; exact .step h1 h3 (ih h2)
theorem Cov.one (h1 : i < j) (h2 : j = i + 1 ∨ ok i j = true) : Cov ok i j 1 := .step h1 h2 .nil
/-- No way of cutting is shorter. -/
theorem greedy_le (hh : Her ok m) {i' : Nat} (h : Cov ok i' m k) : ∀ {i f : Nat}, i' ≤ i → i ≤ m → gN ok m f i ≤ k := by
  induction h with
  | nil =>
    intro i f h1 h2
    cases f with
    | zero => exact Nat.zero_le _
    | succ f => unfold gN; rw [if_neg (by omega)]; exact Nat.le_refl _
  | @step a j m k haj hst hc ih =>
    intro i f h1 h2
    by_cases hji : j ≤ i
    · exact Nat.le_trans (ih hh hji h2) (Nat.le_succ _)
    · cases f with
      | zero => exact Nat.zero_le _
      | succ f =>
        have hjm := hc.le
        unfold gN
        rw [if_pos (by omega)]
        have hn : j ≤ nxtN ok m i := by
          rcases hst with e | e
          · have := nxtN_gt ok m i; omega
          · exact growN_to m (i + 1) (fun e' h3 h4 => hh a j i e' h1 (by omega) h4 hjm e) hjm (by omega) (by omega)
        exact Nat.succ_le_succ (ih hh hn (nxtN_le (by omega)))
theorem greedy_cov : ∀ (f : Nat) {i : Nat}, i ≤ m → m ≤ i + f → Cov ok i m (gN ok m f i)
  | 0, i, h1, h2 => by
    obtain rfl : i = m := by omega
    exact .nil
  | f + 1, i, h1, h2 => by
    unfold gN
    by_cases h : i + 1 ≤ m
    · rw [if_pos h]
      have := nxtN_gt ok m i
      exact .step this (nxtN_ok ok m i) (greedy_cov f (nxtN_le h) (by omega))
    · rw [if_neg h]
      obtain rfl : i = m := by omega
      exact .nil
/-- A way of cutting cuts the beginning, too. -/
theorem Cov.front (hh : Her ok m) (h : Cov ok i m k) : ∀ {p : Nat}, i ≤ p → p ≤ m → ∃ k', k' ≤ k ∧ Cov ok i p k' := by
  induction h with
  | nil => intro p h1 h2; obtain rfl := Nat.le_antisymm h1 h2; exact ⟨0, Nat.le_refl _, .nil⟩
  | @step i j m k hij hst hc ih =>
    intro p h1 h2
    by_cases hjp : j ≤ p
    · obtain ⟨k', hk, hc'⟩ := ih hh hjp h2
      exact ⟨k' + 1, by omega, .step hij hst hc'⟩
    · by_cases hip : i = p
      · subst hip; exact ⟨0, Nat.zero_le _, .nil⟩
      · refine ⟨1, by omega, .one (by omega) ?_⟩
        rcases hst with e | e
        · omega
        · exact .inr (hh i j i p (Nat.le_refl _) (by omega) (by omega) hc.le e)
theorem Cov.all (h : i ≤ j) : Cov ok i j (j - i) := by
  obtain ⟨d, rfl⟩ : ∃ d, j = i + d := ⟨j - i, by omega⟩
  rw [Nat.add_sub_cancel_left]
  clear h
  induction d generalizing i with
  | zero => exact .nil
  | succ d ih => exact .step (j := i + 1) (by omega) (.inl rfl) (by have := @ih (i + 1); rwa [show i + 1 + d = i + (d + 1) by omega] at this)
theorem Cov.shift {ok' : Nat → Nat → Bool} {q : Nat} (ho : ∀ a b, a < b → ok (a + q) (b + q) = true → ok' a b = true) (h : Cov ok i m k) : ∀ {i' m' : Nat}, i = i' + q → m = m' + q → Cov ok' i' m' k := by
  induction h with
  | nil =>
    intro i' m' h1 h2
    have e : i' = m' := by omega
    subst e; exact .nil
  | @step i j m k hij hst _ ih =>
    intro i' m' h1 h2
    refine .step (j := j - q) (by omega) ?_ (ih (by omega) h2)
    rcases hst with e | e
    · left; omega
    · right; exact ho _ _ (by omega) (by rw [show j - q + q = j by omega, ← h1]; exact e)
theorem Cov.back {ok' : Nat → Nat → Bool} {q : Nat} (ho : ∀ a b, a < b → b ≤ q → ok a b = true → ok' (q - b) (q - a) = true) (h : Cov ok i m k) : m ≤ q → Cov ok' (q - m) (q - i) k := by
  induction h with
  | nil => intro _; exact .nil
  | @step i j m k hij hst hc ih =>
    intro hm
    have hjm := hc.le
    refine (ih hm).join (.one (by omega) ?_)
    rcases hst with e | e
    · left; omega
    · right; exact ho _ _ hij (by omega) e
end
end Go.Proofs.Ytenlofomkchlaac

/-
  Plain facts: a way that is the only shortest one between its ends; so is each piece of it, and the way back.
-/
namespace Go.Proofs.Ytenlofomkchlaac

/-- p is a way from a to b, as short as may be, and there is no other. -/
structure On (n : Nat) (ls : List Lk) (a b : Int) (p : List Int) : Prop where
  hd : p.head? = some a
  lst : p.getLast? = some b
  way : Way ls p
  rng : ∀ x ∈ p, 0 ≤ x ∧ x < (n : Int)
  len : along (n : Int) ls p = bf (n : Int) ls b a
  one : cntL n ls a b = 1
theorem Way.rev {ls : List Lk} {p : List Int} (h : Way ls p) : Way ls p.reverse := fun k x y hx hy => by
  have h1 := (List.getElem?_eq_some_iff.1 hy).1
  rw [List.length_reverse] at h1
  rw [List.getElem?_reverse (by omega)] at hx hy
  obtain ⟨e, ha⟩ := h (p.length - 1 - (k + 1)) y x hy (by rw [show p.length - 1 - (k + 1) + 1 = p.length - 1 - k by omega]; exact hx)
  exact ⟨e, ha.symm⟩
section
variable {n : Nat} {ls : List Lk}
theorem lcost_back (hv : gvB (n : Int) ls = true) {a b e : Int} (h : Adj ls a b e) : lcost (n : Int) ls b a = lcost (n : Int) ls a b := by
  rw [lcost_eq hv h, lcost_eq hv h.symm]
theorem along_rev (hv : gvB (n : Int) ls = true) : ∀ {p : List Int}, Way ls p → along (n : Int) ls p.reverse = along (n : Int) ls p := by
  intro p
  induction p with
  | nil => intro _; rfl
  | cons a r ih =>
    intro hw
    cases r with
    | nil => rfl
    | cons b r =>
      obtain ⟨e, ha⟩ := hw 0 a b rfl rfl
      have h1 := ih hw.tail
      rw [List.reverse_cons, List.reverse_cons, List.append_assoc, List.singleton_append, along_join, ← List.reverse_cons, h1]
      simp only [along]
      rw [lcost_back hv ha]
      omega
theorem On.node_a {a b : Int} {p : List Int} (h : On n ls a b p) : 0 ≤ a ∧ a < (n : Int) := h.rng a (List.mem_of_head? h.hd)
theorem On.node_b {a b : Int} {p : List Int} (h : On n ls a b p) : 0 ≤ b ∧ b < (n : Int) := h.rng b (List.mem_of_getLast? h.lst)
theorem On.rev (hv : gvB (n : Int) ls = true) {a b : Int} {p : List Int} (h : On n ls a b p) : On n ls b a p.reverse :=
  ⟨by rw [List.head?_reverse]; exact h.lst, by rw [List.getLast?_reverse]; exact h.hd, h.way.rev, fun x hx => h.rng x (List.mem_reverse.1 hx), by rw [along_rev hv h.way, h.len, bf_symm (gvB_fit hv).1 h.node_b h.node_a], by rw [cntL_back hv h.node_b h.node_a]; exact h.one⟩
theorem sum_ge {xs : List Nat} {x : Nat} (h : x ∈ xs) : x ≤ xs.sum := by
  induction xs with
  | nil => cases h
  | cons y xs ih =>
    rw [List.sum_cons]
    rcases List.mem_cons.1 h with rfl | h
    · omega
    · have := ih h; omega
/-- The first step of the only shortest way. -/
theorem On.first (hv : gvB (n : Int) ls = true) {a b y : Int} {r : List Int} (h : On n ls a b (a :: y :: r)) : a ≠ b ∧ hopsL (n : Int) ls a b = [y] ∧ 0 ≤ bf (n : Int) ls b a ∧ On n ls y b (y :: r) := by
  obtain ⟨hf, _⟩ := gvB_fit hv
  have ha := h.node_a
  have hb := h.node_b
  have hy := h.rng y (by simp)
  obtain ⟨e, hadj⟩ := h.way 0 a y rfl rfl
  have hlst : (y :: r).getLast? = some b := by have := h.lst; simpa using this
  obtain ⟨k, hk⟩ := way_wk hv h.way.tail hlst
  have hle := bf_le hf hy hk
  rw [bf_symm hf hy hb] at hle
  have hE := bf_edge hf hb hadj.symm hle.1
  have hr := hf.adj hadj
  have hlen := h.len
  simp only [along] at hlen
  rw [lcost_eq hv hadj] at hlen
  have hab : a ≠ b := by
    intro e1
    subst e1
    rw [bf_self hf ha] at hlen
    omega
  have hm : y ∈ hopsL (n : Int) ls a b := (hops_mem (vwB_of hv ha hb)).2 ⟨e, hadj, hle.1, by omega⟩
  have hone := h.one
  rw [cntL_step hv hb ha hab] at hone
  have hpos : ∀ z ∈ hopsL (n : Int) ls a b, 0 < cntL n ls z b := fun z hz => by
    obtain ⟨h1, _, h3, _⟩ := hops_node (vwB_of hv ha hb) hz
    exact (cntL_pos hv hb _ z h1 (Nat.le_refl _)).2 h3
  have hh : hopsL (n : Int) ls a b = [y] := by
    generalize hopsL (n : Int) ls a b = xs at hm hone hpos
    cases xs with
    | nil => cases hm
    | cons z zs =>
      rw [List.map_cons, List.sum_cons] at hone
      have hz := hpos z (by simp)
      cases zs with
      | nil => simp at hm; rw [hm]
      | cons u zs =>
        have hu := hpos u (by simp)
        rw [List.map_cons, List.sum_cons] at hone
        omega
  rw [hh, List.map_cons, List.sum_cons] at hone
  simp at hone
  exact ⟨hab, hh, by omega, rfl, hlst, h.way.tail, fun x hx => h.rng x (List.mem_cons_of_mem _ hx), by omega, hone⟩
theorem On.isP (hv : gvB (n : Int) ls = true) : ∀ {p : List Int} {a b : Int}, On n ls a b p → IsP n ls b a p := by
  intro p
  induction p with
  | nil => intro a b h; have := h.hd; cases this
  | cons x r ih =>
    intro a b h
    obtain rfl : x = a := by simpa using h.hd
    cases r with
    | nil =>
      obtain rfl : x = b := by simpa using h.lst
      exact .last
    | cons y r =>
      obtain ⟨h1, h2, h3, h4⟩ := h.first hv
      exact .step h1 h2 h.node_a h3 (ih h4)
theorem IsP.on (hv : gvB (n : Int) ls = true) {a b : Int} {p : List Int} (hb : 0 ≤ b ∧ b < (n : Int)) (h : IsP n ls b a p) (hc : cntL n ls a b = 1) : On n ls a b p :=
  ⟨by rw [List.head?_eq_getElem?]; exact h.head.1, by rw [List.getLast?_eq_getElem?]; exact h.end, h.way hv hb, fun x hx => by
    obtain ⟨k, hk⟩ := List.getElem?_of_mem hx
    exact (h.rest hk).node hb, isP_along hv hb h, hc⟩
theorem On.suffix (hv : gvB (n : Int) ls = true) : ∀ {x : List Int} {a b : Int} {y : List Int}, On n ls a b (x ++ y) → y ≠ [] → ∃ c, On n ls c b y := by
  intro x
  induction x with
  | nil => intro a b y h _; exact ⟨a, h⟩
  | cons u x ih =>
    intro a b y h hy
    obtain rfl : u = a := by simpa using h.hd
    cases hxy : x ++ y with
    | nil => simp at hxy; exact absurd hxy.2 hy
    | cons v r =>
      rw [List.cons_append, hxy] at h
      obtain ⟨-, -, -, h4⟩ := h.first hv
      rw [← hxy] at h4
      exact ih h4 hy
theorem On.prefix (hv : gvB (n : Int) ls = true) {x : List Int} {a b : Int} {y : List Int} (h : On n ls a b (x ++ y)) (hx : x ≠ []) : ∃ c, On n ls a c x := by
  have h1 := h.rev hv
  rw [List.reverse_append] at h1
  obtain ⟨c, h2⟩ := h1.suffix hv (by simpa using hx)
  have h3 := h2.rev hv
  rw [List.reverse_reverse] at h3
  exact ⟨c, h3⟩
end

/-! ### The pieces of a path -/
/-- The nodes from place i to place j. -/
def subP (xs : List Int) (i j : Nat) : List Int := (xs.drop i).take (j + 1 - i)
/-- Is this piece the only shortest way? -/
def okP (nn : Int) (ls : List Lk) (xs : List Int) (i j : Nat) : Bool := decide (along nn ls (subP xs i j) = bf nn ls (xs.getD j 0) (xs.getD i 0)) && decide (cntL nn.toNat ls (xs.getD i 0) (xs.getD j 0) = 1)
theorem subP_at (xs : List Int) {i j : Nat} (k : Nat) : (subP xs i j)[k]? = if k < j + 1 - i then xs[i + k]? else none := by
  unfold subP
  rw [List.getElem?_take]
  split
  · rw [List.getElem?_drop]
  · rfl
theorem subP_len {xs : List Int} {i j : Nat} (h : j < xs.length) : (subP xs i j).length = j + 1 - i := by
  unfold subP; simp; omega
theorem subP_ends {xs : List Int} {i j : Nat} {a b : Int} (hij : i ≤ j) (ha : xs[i]? = some a) (hb : xs[j]? = some b) : (subP xs i j).head? = some a ∧ (subP xs i j).getLast? = some b := by
  have hj := (List.getElem?_eq_some_iff.1 hb).1
  rw [List.head?_eq_getElem?, List.getLast?_eq_getElem?, subP_len hj, subP_at, subP_at, if_pos (by omega), if_pos (by omega), show i + (j + 1 - i - 1) = j by omega]
  exact ⟨ha, hb⟩
theorem subP_in (xs : List Int) {i j i' j' : Nat} (h1 : i ≤ i') (h2 : i' ≤ j') (h3 : j' ≤ j) : ∃ x y, subP xs i j = x ++ (subP xs i' j' ++ y) := by
  refine ⟨(subP xs i j).take (i' - i), ((subP xs i j).drop (i' - i)).drop (j' + 1 - i'), ?_⟩
  have e : subP xs i' j' = ((subP xs i j).drop (i' - i)).take (j' + 1 - i') := by
    unfold subP
    rw [List.drop_take, List.drop_drop, List.take_take, show i + (i' - i) = i' by omega, show min (j' + 1 - i') (j + 1 - i - (i' - i)) = j' + 1 - i' by omega]
  rw [e, List.take_append_drop, List.take_append_drop]
section
variable {n : Nat} {ls : List Lk} {xs : List Int}
theorem okP_on (hw : Way ls xs) (hr : ∀ x ∈ xs, 0 ≤ x ∧ x < (n : Int)) {i j : Nat} {a b : Int} (hij : i ≤ j) (ha : xs[i]? = some a) (hb : xs[j]? = some b) : okP (n : Int) ls xs i j = true ↔ On n ls a b (subP xs i j) := by
  have e1 : xs.getD i 0 = a := by rw [List.getD_eq_getElem?_getD, ha]; rfl
  have e2 : xs.getD j 0 = b := by rw [List.getD_eq_getElem?_getD, hb]; rfl
  unfold okP
  rw [e1, e2, Int.toNat_natCast, Bool.and_eq_true, decide_eq_true_eq, decide_eq_true_eq]
  constructor
  · rintro ⟨h1, h2⟩
    refine ⟨(subP_ends hij ha hb).1, (subP_ends hij ha hb).2, fun k u v hu hv => ?_, fun x hx => hr x ?_, h1, h2⟩
    · rw [subP_at] at hu hv
      split at hu
      · split at hv
        · exact hw (i + k) u v hu hv
        · cases hv
      · cases hu
    · exact List.mem_of_mem_drop (List.mem_of_mem_take hx)
  · intro h; exact ⟨h.len, h.one⟩
theorem okP_her (hv : gvB (n : Int) ls = true) (hw : Way ls xs) (hr : ∀ x ∈ xs, 0 ≤ x ∧ x < (n : Int)) {m : Nat} (hm : m < xs.length) : Her (okP (n : Int) ls xs) m := fun i j i' j' h1 h2 h3 h4 h => by
  have g := fun (k : Nat) (hk : k ≤ m) => (List.getElem?_eq_getElem (show k < xs.length by omega) : xs[k]? = _)
  rw [okP_on hw hr (by omega) (g i (by omega)) (g j h4)] at h
  rw [okP_on hw hr (by omega) (g i' (by omega)) (g j' (by omega))]
  obtain ⟨x, y, e⟩ := subP_in xs h1 (Nat.le_of_lt h2) h3
  rw [e] at h
  have hl : (subP xs i' j').length = j' + 1 - i' := subP_len (by omega)
  have hne : subP xs i' j' ≠ [] := fun e => by rw [e] at hl; simp at hl; omega
  obtain ⟨c, h5⟩ := h.suffix hv (by simp [hne])
  obtain ⟨d, h6⟩ := h5.prefix hv hne
  have hE := subP_ends (Nat.le_of_lt h2) (g i' (by omega)) (g j' (by omega))
  have e1 := h6.hd
  have e2 := h6.lst
  rw [hE.1] at e1
  rw [hE.2] at e2
  injection e1 with e1
  injection e2 with e2
  subst e1 e2
  exact h6
end
end Go.Proofs.Ytenlofomkchlaac

/-
  Plain facts: the labels of a path: they lead over it without choice, and no other labels do with fewer.
-/
namespace Go.Proofs.Ytenlofomkchlaac

/-- The label of a piece. -/
def mkL (nn : Int) (ls : List Lk) (xs : List Int) (i j : Nat) : Lb := if okP nn ls xs i j = true then ⟨1, xs.getD j 0⟩ else ⟨2, linkI nn ls (xs.getD i 0) (xs.getD (i + 1) 0)⟩
/-- The labels from place i on. -/
def cmpL (nn : Int) (ls : List Lk) (xs : List Int) : Nat → Nat → List Lb
  | 0, _ => []
  | f + 1, i => if i + 1 ≤ xs.length - 1 then mkL nn ls xs i (nxtN (okP nn ls xs) (xs.length - 1) i) :: cmpL nn ls xs f (nxtN (okP nn ls xs) (xs.length - 1) i) else []
theorem cmpL_len (nn : Int) (ls : List Lk) (xs : List Int) : ∀ f i, (cmpL nn ls xs f i).length = gN (okP nn ls xs) (xs.length - 1) f i
  | 0, i => rfl
  | f + 1, i => by
    unfold cmpL gN
    split
    · rw [List.length_cons, cmpL_len]
    · rfl
section
variable {n : Nat} {ls : List Lk} {xs : List Int}
theorem getD_at {i : Nat} {a : Int} (h : xs[i]? = some a) : xs.getD i 0 = a := by rw [List.getD_eq_getElem?_getD, h]; rfl
/-- One label of a piece. -/
theorem mkL_leg (hv : gvB (n : Int) ls = true) (hw : Way ls xs) (hr : ∀ x ∈ xs, 0 ≤ x ∧ x < (n : Int)) {i j : Nat} {a b : Int} (hij : i < j) (ha : xs[i]? = some a) (hb : xs[j]? = some b) (hj : j = i + 1 ∨ okP (n : Int) ls xs i j = true) :
    legP (n : Int) ls a (mkL (n : Int) ls xs i j) = subP xs i j ∧ legU (n : Int) ls (mkL (n : Int) ls xs i j, subP xs i j) = false := by
  by_cases hok : okP (n : Int) ls xs i j = true
  · have hO := (okP_on hw hr (Nat.le_of_lt hij) ha hb).1 hok
    have e : mkL (n : Int) ls xs i j = ⟨1, b⟩ := by unfold mkL; rw [if_pos hok, getD_at hb]
    have h0 : 0 ≤ bf (n : Int) ls b a := (hO.isP hv).dist hv hO.node_b
    have hp : IsP n ls b a (pathI (n : Int) ls a b) := by
      unfold pathI
      rw [Int.toNat_natCast]
      exact pathL_isP hv hO.node_b _ a hO.node_a h0 (Nat.le_refl _)
    rw [e]
    constructor
    · unfold legP
      rw [if_pos rfl]
      exact hp.uniq (hO.isP hv)
    · rw [legU_count hv hO.node_a hO.node_b (by rw [bf_symm (gvB_fit hv).1 hO.node_a hO.node_b]; exact h0) (g := (⟨1, b⟩, subP xs i j)) rfl rfl (by
        have := hO.hd
        rw [List.headD_eq_head?_getD]
        show ((subP xs i j).head?).getD 0 = a
        rw [this]; rfl), hO.one]
      rfl
  · obtain rfl : j = i + 1 := by
      rcases hj with e | e
      · exact e
      · exact absurd e hok
    have e : mkL (n : Int) ls xs i (i + 1) = ⟨2, linkI (n : Int) ls a b⟩ := by unfold mkL; rw [if_neg hok, getD_at ha, getD_at hb]
    obtain ⟨c, hadj⟩ := hw i a b ha hb
    obtain ⟨k, l, e1, e2, _⟩ := way_link hv ⟨c, hadj⟩
    have he := adj_link hv hadj e1 e2
    have hlb := gvB_at hv e2
    have hs : subP xs i (i + 1) = [a, b] := by
      refine List.ext_getElem? fun q => ?_
      rw [subP_at]
      rcases Nat.lt_or_ge q 2 with h | h
      · rw [if_pos (by omega)]
        obtain rfl | rfl : q = 0 ∨ q = 1 := by omega
        · exact ha
        · exact hb
      · rw [if_neg (by omega), List.getElem?_eq_none (by simpa using h)]
    rw [e, hs]
    constructor
    · unfold legP
      rw [if_neg (by show ¬ (2 : Int) = 1; decide), if_pos rfl]
      show (if 0 ≤ linkI (n : Int) ls a b then match ls[(linkI (n : Int) ls a b).toNat]? with
        | some x => if touchB x a = true then [a, acrossI x a] else []
        | none => [] else []) = [a, b]
      rw [e1, if_pos (by omega), Int.toNat_natCast, e2]
      unfold endsB at he
      have ht : touchB l a = true := by
        unfold touchB
        simp only [Bool.or_eq_true, decide_eq_true_eq]
        omega
      have hc : acrossI l a = b := by
        unfold acrossI
        split <;> omega
      show (if touchB l a = true then [a, acrossI l a] else []) = [a, b]
      rw [if_pos ht, hc]
    · unfold legU
      rw [if_neg (by show ¬ (2 : Int) = 1; decide)]
theorem cmp_run (hv : gvB (n : Int) ls = true) (hw : Way ls xs) (hr : ∀ x ∈ xs, 0 ≤ x ∧ x < (n : Int)) : ∀ (f i : Nat) (a z : Int), i ≤ xs.length - 1 → xs.length - 1 ≤ i + f → xs[i]? = some a → xs[xs.length - 1]? = some z →
    endO (n : Int) ls a (cmpL (n : Int) ls xs f i) = some z ∧ a :: pthO (n : Int) ls a (cmpL (n : Int) ls xs f i) = xs.drop i ∧ (legsO (n : Int) ls a (cmpL (n : Int) ls xs f i)).any (legU (n : Int) ls) = false := by
  intro f
  induction f with
  | zero =>
    intro i a z h1 h2 ha hz
    obtain rfl : i = xs.length - 1 := by omega
    rw [ha] at hz; cases hz
    have hl := (List.getElem?_eq_some_iff.1 ha).1
    refine ⟨rfl, ?_, rfl⟩
    show [a] = xs.drop (xs.length - 1)
    rw [List.drop_eq_getElem_cons hl, List.drop_eq_nil_of_le (by omega)]
    rw [List.getElem?_eq_getElem hl] at ha
    injection ha with ha
    rw [ha]
  | succ f ih =>
    intro i a z h1 h2 ha hz
    have hl := (List.getElem?_eq_some_iff.1 ha).1
    unfold cmpL
    by_cases h : i + 1 ≤ xs.length - 1
    · rw [if_pos h]
      have hj1 := nxtN_gt (okP (n : Int) ls xs) (xs.length - 1) i
      have hj2 := nxtN_le (ok := okP (n : Int) ls xs) h
      have hj3 := nxtN_ok (okP (n : Int) ls xs) (xs.length - 1) i
      generalize nxtN (okP (n : Int) ls xs) (xs.length - 1) i = j at *
      obtain ⟨b, hb⟩ : ∃ b, xs[j]? = some b := ⟨_, List.getElem?_eq_getElem (by omega)⟩
      obtain ⟨g1, g2⟩ := mkL_leg hv hw hr hj1 ha hb hj3
      obtain ⟨i1, i2, i3⟩ := ih j b z hj2 (by omega) hb hz
      generalize mkL (n : Int) ls xs i j = l at *
      have hs : stepO (n : Int) ls a l = some b := by unfold stepO; rw [g1]; exact (subP_ends (Nat.le_of_lt hj1) ha hb).2
      simp only [endO, pthO, legsO, hs, List.any_cons, g1, g2, i1, i3, Bool.or_false]
      refine ⟨trivial, ?_, trivial⟩
      have hd : subP xs i j = a :: (subP xs i j).drop 1 := by
        have := (subP_ends (Nat.le_of_lt hj1) ha hb).1
        cases hp : subP xs i j with
        | nil => rw [hp] at this; cases this
        | cons u r => rw [hp] at this; simp at this; rw [this]; rfl
      have e1 : xs.drop i = subP xs i j ++ xs.drop (j + 1) := by
        unfold subP
        rw [show xs.drop (j + 1) = (xs.drop i).drop (j + 1 - i) by rw [List.drop_drop, show i + (j + 1 - i) = j + 1 by omega], List.take_append_drop]
      have e2 : xs.drop j = b :: xs.drop (j + 1) := by
        have hlj := (List.getElem?_eq_some_iff.1 hb).1
        rw [List.drop_eq_getElem_cons hlj]
        rw [List.getElem?_eq_getElem hlj] at hb
        injection hb with hb
        rw [hb]
      rw [e2] at i2
      injection i2 with _ i2
      rw [i2, e1, ← List.cons_append, ← hd]
    · rw [if_neg h]
      obtain rfl : i = xs.length - 1 := by omega
      rw [ha] at hz; cases hz
      refine ⟨rfl, ?_, rfl⟩
      show [a] = xs.drop (xs.length - 1)
      rw [List.drop_eq_getElem_cons hl, List.drop_eq_nil_of_le (by omega)]
      rw [List.getElem?_eq_getElem hl] at ha
      injection ha with ha
      rw [ha]
end
end Go.Proofs.Ytenlofomkchlaac

/-
  Plain facts: what the laws of compiled paths ask for.
-/
namespace Go.Proofs.Ytenlofomkchlaac

/-- A path that is one. -/
structure PV (n : Nat) (ls : List Lk) (xs : List Int) : Prop where
  gv : gvB (n : Int) ls = true
  pos : 0 < xs.length
  len : xs.length ≤ 9
  rng : ∀ x ∈ xs, 0 ≤ x ∧ x < (n : Int)
  way : Way ls xs
section
variable {n : Nat} {ls : List Lk} {xs : List Int}
theorem PV.her (h : PV n ls xs) : Her (okP (n : Int) ls xs) (xs.length - 1) := okP_her h.gv h.way h.rng (by have := h.pos; omega)
theorem PV.few (h : PV n ls xs) (f : Nat) : (cmpL (n : Int) ls xs f 0).length ≤ xs.length - 1 := by
  rw [cmpL_len]
  have := greedy_le h.her (Cov.all (Nat.zero_le (xs.length - 1))) (f := f) (Nat.le_refl 0) (Nat.zero_le _)
  simpa using this
/-- The labels of a path lead over it without choice. -/
theorem PV.main (h : PV n ls xs) {f : Nat} {x z : Int} (hf : xs.length - 1 ≤ f) (hx : xs[0]? = some x) (hz : xs[xs.length - 1]? = some z) :
    endI (n : Int) ls x (cmpL (n : Int) ls xs f 0) = some z ∧ pathS (n : Int) ls x (cmpL (n : Int) ls xs f 0) = xs ∧ uniqS (n : Int) ls x (cmpL (n : Int) ls xs f 0) = true ∧ costS (n : Int) ls x (cmpL (n : Int) ls xs f 0) = along (n : Int) ls xs := by
  obtain ⟨h1, h2, h3⟩ := cmp_run h.gv h.way h.rng f 0 x z (Nat.zero_le _) (by omega) hx hz
  have hl := h.few f
  have h9 := h.len
  have hb : stB (n : Int) ls x (cmpL (n : Int) ls xs f 0) = true := by
    unfold stB
    rw [vwB_one h.gv (h.rng x (List.mem_of_getElem? hx)), Bool.true_and, decide_eq_true_eq]
    omega
  have hi : endI (n : Int) ls x (cmpL (n : Int) ls xs f 0) = some z := by unfold endI; rw [if_pos hb, h1]
  have hs : (endI (n : Int) ls x (cmpL (n : Int) ls xs f 0)).isSome = true := by rw [hi]; rfl
  rw [List.drop_zero] at h2
  refine ⟨hi, ?_, ?_, ?_⟩
  · unfold pathS; rw [if_pos hs, h2]
  · unfold uniqS; rw [hs, h3]; rfl
  · unfold costS; rw [if_pos hs, h2]
/-- Labels without choice are a way of cutting. -/
theorem cov_stack (hv : gvB (n : Int) ls = true) (hw : Way ls xs) (hr : ∀ x ∈ xs, 0 ≤ x ∧ x < (n : Int)) : ∀ (st : List Lb) (i : Nat) (s z : Int), endO (n : Int) ls s st = some z → (legsO (n : Int) ls s st).any (legU (n : Int) ls) = false → s :: pthO (n : Int) ls s st = xs.drop i →
    ∃ k, k ≤ st.length ∧ Cov (okP (n : Int) ls xs) i (xs.length - 1) k := by
  intro st
  induction st with
  | nil =>
    intro i s z _ _ hd
    have hl := congrArg List.length hd
    simp [pthO] at hl
    obtain rfl : i = xs.length - 1 := by omega
    exact ⟨0, Nat.le_refl _, .nil⟩
  | cons b st ih =>
    intro i s z he hu hd
    cases hs : stepO (n : Int) ls s b with
    | none => simp only [endO, hs] at he; cases he
    | some u =>
      simp only [endO, hs] at he
      simp only [legsO, hs, List.any_cons, Bool.or_eq_false_iff] at hu
      simp only [pthO, hs] at hd
      have hsi : xs[i]? = some s := by
        have := congrArg (fun l => l[0]?) hd
        simpa using this.symm
      have hsr := hr s (List.mem_of_getElem? hsi)
      have hne := stepO_leg hs
      obtain ⟨u', e1, hur, _, _, _, hlst, h7⟩ := leg_fact hv hsr hne
      rw [e1] at hs; cases hs
      have hcons := leg_cons hv hsr hne
      generalize hp : legP (n : Int) ls s b = p at *
      have hpl : 0 < p.length := by rw [hcons]; simp
      have hd2 : p ++ pthO (n : Int) ls u st = xs.drop i := by rw [hcons, List.cons_append]; exact hd
      have hle := congrArg List.length hd2
      rw [List.length_append, List.length_drop] at hle
      have hj : xs.drop (i + (p.length - 1)) = u :: pthO (n : Int) ls u st := by
        rw [← List.drop_drop, ← hd2, List.drop_append_of_le_length (by omega)]
        have : p.drop (p.length - 1) = [u] := by
          rw [List.drop_eq_getElem_cons (by omega), List.drop_eq_nil_of_le (by omega)]
          rw [List.getElem?_eq_getElem (by omega)] at hlst
          injection hlst with hlst
          rw [hlst]
        rw [this, List.singleton_append]
      obtain ⟨k, hk, hc⟩ := ih (i + (p.length - 1)) u z he hu.2 hj.symm
      by_cases h1 : p.length = 1
      · rw [h1, Nat.sub_self, Nat.add_zero] at hc
        exact ⟨k, by simp; omega, hc⟩
      · refine ⟨k + 1, by simp; omega, .step (j := i + (p.length - 1)) (by omega) ?_ hc⟩
        have huj : xs[i + (p.length - 1)]? = some u := by
          have := congrArg (fun l => l[0]?) hj
          simpa using this
        have hsub : subP xs i (i + (p.length - 1)) = p := by
          unfold subP
          rw [← hd2, show i + (p.length - 1) + 1 - i = p.length by omega, List.take_left']
          rfl
        rcases leg_kind (by rw [hp]; exact hne) with hk1 | hk2
        · right
          obtain ⟨ha, h0, hP⟩ := h7 hk1
          rw [okP_on hw hr (by omega) hsi huj, hsub]
          refine hP.on hv hur ?_
          have hu1 := hu.1
          rw [legU_count hv hsr hur h0 (g := (b, p)) hk1 ha.symm (by rw [hcons]; rfl)] at hu1
          simp at hu1
          omega
        · left
          obtain ⟨_, _, _, _, _, e⟩ := leg_link hk2 (by rw [hp]; exact hne)
          rw [hp] at e
          rw [e]; rfl
/-- No labels without choice are fewer. -/
theorem PV.least (h : PV n ls xs) {st : List Lb} {x z : Int} (f : Nat) (he : endO (n : Int) ls x st = some z) (hu : (legsO (n : Int) ls x st).any (legU (n : Int) ls) = false) (hd : x :: pthO (n : Int) ls x st = xs) : (cmpL (n : Int) ls xs f 0).length ≤ st.length := by
  obtain ⟨k, hk, hc⟩ := cov_stack h.gv h.way h.rng st 0 x z he hu (by rw [List.drop_zero]; exact hd)
  rw [cmpL_len]
  exact Nat.le_trans (greedy_le h.her hc (Nat.le_refl 0) (Nat.zero_le _)) hk
end
end Go.Proofs.Ytenlofomkchlaac

/-
  Plain facts: the labels of parts of a path, of the way back, of a path that is the only shortest one.
-/
namespace Go.Proofs.Ytenlofomkchlaac
section
variable {n : Nat} {ls : List Lk} {xs : List Int}
theorem PV.take (h : PV n ls xs) (k : Nat) : PV n ls (xs.take (k + 1)) where
  gv := h.gv
  pos := by have := h.pos; simp; omega
  len := by have := h.len; simp; omega
  rng := fun x hx => h.rng x (List.mem_of_mem_take hx)
  way := fun i a b ha hb => by
    rw [List.getElem?_take] at ha hb
    split at ha
    · split at hb
      · exact h.way i a b ha hb
      · cases hb
    · cases ha
theorem PV.drop (h : PV n ls xs) {k : Nat} (hk : k < xs.length) : PV n ls (xs.drop k) where
  gv := h.gv
  pos := by simp; omega
  len := by have := h.len; simp; omega
  rng := fun x hx => h.rng x (List.mem_of_mem_drop hx)
  way := fun i a b ha hb => by
    rw [List.getElem?_drop] at ha hb
    exact h.way (k + i) a b ha hb
theorem PV.back (h : PV n ls xs) : PV n ls xs.reverse where
  gv := h.gv
  pos := by have := h.pos; simpa using this
  len := by have := h.len; simpa using this
  rng := fun x hx => h.rng x (List.mem_reverse.1 hx)
  way := h.way.rev
theorem okP_take (nn : Int) (ls : List Lk) (xs : List Int) {i j q : Nat} (hi : i ≤ j) (hj : j < q) : okP nn ls (xs.take q) i j = okP nn ls xs i j := by
  have e : subP (xs.take q) i j = subP xs i j := by
    refine List.ext_getElem? fun k => ?_
    rw [subP_at, subP_at]
    split
    · rw [List.getElem?_take, if_pos (by omega)]
    · rfl
  have e1 : ∀ k, k ≤ j → (xs.take q).getD k 0 = xs.getD k 0 := fun k hk => by
    rw [List.getD_eq_getElem?_getD, List.getD_eq_getElem?_getD, List.getElem?_take, if_pos (by omega)]
  unfold okP
  rw [e, e1 i hi, e1 j (Nat.le_refl _)]
theorem okP_drop (nn : Int) (ls : List Lk) (xs : List Int) (i j q : Nat) : okP nn ls (xs.drop q) i j = okP nn ls xs (i + q) (j + q) := by
  have e : subP (xs.drop q) i j = subP xs (i + q) (j + q) := by
    refine List.ext_getElem? fun k => ?_
    rw [subP_at, subP_at, show j + q + 1 - (i + q) = j + 1 - i by omega]
    split
    · rw [List.getElem?_drop, show q + (i + k) = i + q + k by omega]
    · rfl
  have e1 : ∀ k, (xs.drop q).getD k 0 = xs.getD (k + q) 0 := fun k => by
    rw [List.getD_eq_getElem?_getD, List.getD_eq_getElem?_getD, List.getElem?_drop, Nat.add_comm]
  unfold okP
  rw [e, e1, e1]
/-- Two parts together need no fewer labels than the whole, and each no more. -/
theorem PV.parts (h : PV n ls xs) {k : Nat} (hk : k < xs.length) {f f1 f2 : Nat} (hf : xs.length - 1 ≤ f) (hf1 : k ≤ f1) (hf2 : xs.length - 1 - k ≤ f2) :
    (cmpL (n : Int) ls xs f 0).length ≤ (cmpL (n : Int) ls (xs.take (k + 1)) f1 0).length + (cmpL (n : Int) ls (xs.drop k) f2 0).length ∧
      (cmpL (n : Int) ls (xs.take (k + 1)) f1 0).length ≤ (cmpL (n : Int) ls xs f 0).length ∧ (cmpL (n : Int) ls (xs.drop k) f2 0).length ≤ (cmpL (n : Int) ls xs f 0).length := by
  have ht := h.take k
  have hd := h.drop hk
  have lt : (xs.take (k + 1)).length - 1 = k := by simp; omega
  have ld : (xs.drop k).length - 1 = xs.length - 1 - k := by simp; omega
  have g0 := greedy_cov (ok := okP (n : Int) ls xs) (m := xs.length - 1) f (i := 0) (Nat.zero_le _) (by omega)
  have g1 := greedy_cov (ok := okP (n : Int) ls (xs.take (k + 1))) (m := k) f1 (i := 0) (Nat.zero_le _) (by omega)
  have g2 := greedy_cov (ok := okP (n : Int) ls (xs.drop k)) (m := xs.length - 1 - k) f2 (i := 0) (Nat.zero_le _) (by omega)
  have hh := h.her
  have hht := ht.her
  have hhd := hd.her
  rw [lt] at hht
  rw [ld] at hhd
  rw [cmpL_len, cmpL_len, cmpL_len, lt, ld]
  have up : ∀ {a b c : Nat}, Cov (okP (n : Int) ls (xs.drop k)) a b c → b ≤ xs.length - 1 - k → Cov (okP (n : Int) ls xs) (a + k) (b + k) c := fun hc => by
    induction hc with
    | nil => intro _; exact .nil
    | @step i j m c hij hst _ ih =>
      intro hb
      refine .step (j := j + k) (by omega) ?_ (ih hb)
      rcases hst with e | e
      · left; omega
      · right; rw [okP_drop] at e; exact e
  have upt : ∀ {a b c : Nat}, Cov (okP (n : Int) ls (xs.take (k + 1))) a b c → b ≤ k → Cov (okP (n : Int) ls xs) a b c := fun hc => by
    induction hc with
    | nil => intro _; exact .nil
    | @step i j m c hij hst hc ih =>
      intro hb
      have := hc.le
      refine .step hij ?_ (ih hb)
      rcases hst with e | e
      · left; exact e
      · right; rw [okP_take _ _ _ (Nat.le_of_lt hij) (by omega)] at e; exact e
  have dnt : ∀ {a b c : Nat}, Cov (okP (n : Int) ls xs) a b c → b ≤ k → Cov (okP (n : Int) ls (xs.take (k + 1))) a b c := fun hc => by
    induction hc with
    | nil => intro _; exact .nil
    | @step i j m c hij hst hc ih =>
      intro hb
      have := hc.le
      refine .step hij ?_ (ih hb)
      rcases hst with e | e
      · left; exact e
      · right; rw [okP_take _ _ _ (Nat.le_of_lt hij) (by omega)]; exact e
  refine ⟨?_, ?_, ?_⟩
  · have c1 := upt g1 (Nat.le_refl _)
    have c2 := up g2 (Nat.le_refl _)
    rw [Nat.zero_add, show xs.length - 1 - k + k = xs.length - 1 by omega] at c2
    exact greedy_le hh (c1.join c2) (Nat.le_refl _) (Nat.zero_le _)
  · obtain ⟨k', hk', c⟩ := g0.front hh (p := k) (Nat.zero_le _) (by omega)
    exact Nat.le_trans (greedy_le hht (dnt c (Nat.le_refl _)) (Nat.le_refl _) (Nat.zero_le _)) hk'
  · have c := greedy_cov (ok := okP (n : Int) ls xs) (m := xs.length - 1) (xs.length - 1) (i := k) (by omega) (by omega)
    have h1 := greedy_le hh g0 (i := k) (f := xs.length - 1) (Nat.zero_le _) (by omega)
    have c' := c.shift (ok' := okP (n : Int) ls (xs.drop k)) (q := k) (fun a b _ e => by rw [okP_drop]; exact e) (i' := 0) (m' := xs.length - 1 - k) (by omega) (by omega)
    exact Nat.le_trans (greedy_le hhd c' (Nat.le_refl _) (Nat.zero_le _)) h1
theorem okP_rev (h : PV n ls xs) {i j : Nat} (hij : i ≤ j) (hj : j < xs.length) (hok : okP (n : Int) ls xs i j = true) : okP (n : Int) ls xs.reverse (xs.length - 1 - j) (xs.length - 1 - i) = true := by
  obtain ⟨a, ha⟩ : ∃ a, xs[i]? = some a := ⟨_, List.getElem?_eq_getElem (by omega)⟩
  obtain ⟨b, hb⟩ : ∃ b, xs[j]? = some b := ⟨_, List.getElem?_eq_getElem hj⟩
  have hO := ((okP_on h.way h.rng hij ha hb).1 hok).rev h.gv
  have e1 : xs.reverse[xs.length - 1 - j]? = some b := by rw [List.getElem?_reverse (by omega), show xs.length - 1 - (xs.length - 1 - j) = j by omega]; exact hb
  have e2 : xs.reverse[xs.length - 1 - i]? = some a := by rw [List.getElem?_reverse (by omega), show xs.length - 1 - (xs.length - 1 - i) = i by omega]; exact ha
  rw [okP_on h.back.way h.back.rng (by omega) e1 e2]
  have hs : subP xs.reverse (xs.length - 1 - j) (xs.length - 1 - i) = (subP xs i j).reverse := by
    refine List.ext_getElem? fun k => ?_
    have hl := subP_len (xs := xs) (i := i) hj
    rw [subP_at]
    by_cases hk : k < j + 1 - i
    · rw [if_pos (by omega), List.getElem?_reverse (by omega), List.getElem?_reverse (by omega), hl, subP_at, if_pos (by omega)]
      congr 1
      omega
    · rw [if_neg (by omega), List.getElem?_eq_none (by simp; omega)]
  rw [hs]
  exact hO
/-- The way back needs no more labels. -/
theorem PV.back_le (h : PV n ls xs) {f f' : Nat} (hf : xs.length - 1 ≤ f) : (cmpL (n : Int) ls xs.reverse f' 0).length ≤ (cmpL (n : Int) ls xs f 0).length := by
  have g0 := greedy_cov (ok := okP (n : Int) ls xs) (m := xs.length - 1) f (i := 0) (Nat.zero_le _) (by omega)
  have hp := h.pos
  have c := g0.back (ok' := okP (n : Int) ls xs.reverse) (q := xs.length - 1) (fun a b hab hb e => okP_rev h (Nat.le_of_lt hab) (by omega) e) (Nat.le_refl _)
  rw [Nat.sub_self, Nat.sub_zero] at c
  have hh := h.back.her
  rw [List.length_reverse] at hh
  rw [cmpL_len, cmpL_len, List.length_reverse]
  exact greedy_le hh c (Nat.le_refl _) (Nat.zero_le _)
theorem PV.back_eq (h : PV n ls xs) {f f' : Nat} (hf : xs.length - 1 ≤ f) (hf' : xs.length - 1 ≤ f') : (cmpL (n : Int) ls xs.reverse f' 0).length = (cmpL (n : Int) ls xs f 0).length := by
  refine Nat.le_antisymm (h.back_le hf) ?_
  have := h.back.back_le (f := f') (f' := f) (by rw [List.length_reverse]; exact hf')
  rwa [List.reverse_reverse] at this
/-- The only shortest path needs one label. -/
theorem PV.only (h : PV n ls xs) {f : Nat} (h2 : 2 ≤ xs.length) (hok : okP (n : Int) ls xs 0 (xs.length - 1) = true) : cmpL (n : Int) ls xs (f + 1) 0 = [⟨1, xs.getD (xs.length - 1) 0⟩] := by
  have hn : nxtN (okP (n : Int) ls xs) (xs.length - 1) 0 = xs.length - 1 := by
    refine Nat.le_antisymm (nxtN_le (by omega)) ?_
    exact growN_to _ _ (fun e' h3 h4 => h.her 0 (xs.length - 1) 0 e' (Nat.le_refl _) (by omega) h4 (Nat.le_refl _) hok) (Nat.le_refl _) (by omega) (by omega)
  unfold cmpL
  rw [if_pos (by omega), hn]
  have e : cmpL (n : Int) ls xs f (xs.length - 1) = [] := by
    cases f with
    | zero => rfl
    | succ f => unfold cmpL; rw [if_neg (by omega)]
  rw [e]
  unfold mkL
  rw [if_pos hok]
theorem PV.other (h2 : 2 ≤ xs.length) {f : Nat} (hf : xs.length - 1 ≤ f) (hok : okP (n : Int) ls xs 0 (xs.length - 1) = false) : 1 < (cmpL (n : Int) ls xs f 0).length ∨ ∃ a, (cmpL (n : Int) ls xs f 0)[0]? = some ⟨2, a⟩ := by
  obtain ⟨f, rfl⟩ : ∃ q, f = q + 1 := ⟨f - 1, by omega⟩
  unfold cmpL
  rw [if_pos (by omega)]
  have hj1 := nxtN_gt (okP (n : Int) ls xs) (xs.length - 1) 0
  have hj2 := nxtN_le (ok := okP (n : Int) ls xs) (m := xs.length - 1) (i := 0) (by omega)
  generalize nxtN (okP (n : Int) ls xs) (xs.length - 1) 0 = j at *
  by_cases hj : j = xs.length - 1
  · right
    subst hj
    refine ⟨linkI (n : Int) ls (xs.getD 0 0) (xs.getD (0 + 1) 0), ?_⟩
    rw [List.getElem?_cons_zero]
    unfold mkL
    rw [hok, if_neg Bool.false_ne_true]
  · left
    obtain ⟨q, rfl⟩ : ∃ q, f = q + 1 := ⟨f - 1, by omega⟩
    rw [List.length_cons]
    unfold cmpL
    rw [if_pos (by omega), List.length_cons]
    omega
end
end Go.Proofs.Ytenlofomkchlaac

/-
  Plain facts: when a path is one, and what it costs.
-/
namespace Go.Proofs.Ytenlofomkchlaac

/-- Is the k-th node the first, or linked with the one ahead of it? -/
def lkB (nn : Int) (ls : List Lk) (xs : List Int) (k : Nat) : Bool := decide (k = 0) || decide (0 ≤ linkI nn ls (xs.getD (k - 1) 0) (xs.getD k 0))
/-- Is this a path? -/
def pvB (nn : Int) (ls : List Lk) (xs : List Int) : Bool := decide (1 ≤ xs.length) && decide (xs.length ≤ 9) && vwB nn ls xs && (List.range xs.length).all (lkB nn ls xs)
def costP (nn : Int) (ls : List Lk) (xs : List Int) : Int := if pvB nn ls xs = true then along nn ls xs else -1
section
variable {nn : Int} {ls : List Lk} {xs : List Int}
theorem vwB_parts (h : vwB nn ls xs = true) : gvB nn ls = true ∧ ∀ x ∈ xs, 0 ≤ x ∧ x < nn := by
  unfold vwB at h
  simp only [Bool.and_eq_true, List.all_eq_true] at h
  refine ⟨h.1, fun x hx => ?_⟩
  have := h.2 x hx
  unfold inB at this
  simp at this
  omega
theorem vwB_join (h : gvB nn ls = true) (hr : ∀ x ∈ xs, 0 ≤ x ∧ x < nn) : vwB nn ls xs = true := by
  unfold vwB
  simp only [Bool.and_eq_true, List.all_eq_true]
  refine ⟨h, fun x hx => ?_⟩
  have := hr x hx
  unfold inB
  simp
  omega
theorem linkI_neg (nn : Int) (ls : List Lk) (a b : Int) : 0 ≤ linkI nn ls a b ∨ linkI nn ls a b = -1 := by
  rw [← linkI_eq]
  split
  · unfold l1I
    split
    · left; omega
    · right; rfl
  · right; rfl
theorem lkB_at {k : Nat} {a b : Int} (ha : xs[k]? = some a) (hb : xs[k + 1]? = some b) : lkB nn ls xs (k + 1) = decide (0 ≤ linkI nn ls a b) := by
  unfold lkB
  rw [Nat.add_sub_cancel, getD_at ha, getD_at hb]
  simp
theorem lkB_zero : lkB nn ls xs 0 = true := rfl
theorem pvB_no {k : Nat} (hk : k < xs.length) (h : lkB nn ls xs k = false) : pvB nn ls xs = false := by
  apply Bool.eq_false_iff.2
  intro hp
  unfold pvB at hp
  simp only [Bool.and_eq_true, List.all_eq_true, List.mem_range] at hp
  rw [hp.2 k hk] at h
  cases h
theorem pvB_yes (h1 : 1 ≤ xs.length) (h9 : xs.length ≤ 9) (hv : vwB nn ls xs = true) (h : ∀ k, k < xs.length → lkB nn ls xs k = true) : pvB nn ls xs = true := by
  unfold pvB
  simp only [Bool.and_eq_true, List.all_eq_true, List.mem_range, decide_eq_true_eq]
  exact ⟨⟨⟨h1, h9⟩, hv⟩, h⟩
theorem pvB_bad (h : ¬ (1 ≤ xs.length ∧ xs.length ≤ 9)) : pvB nn ls xs = false := by
  apply Bool.eq_false_iff.2
  intro hp
  unfold pvB at hp
  simp only [Bool.and_eq_true, decide_eq_true_eq] at hp
  exact h hp.1.1
theorem pvB_vw (h : vwB nn ls xs = false) : pvB nn ls xs = false := by
  unfold pvB
  rw [h]
  simp
/-- The k-th node is none, or not linked with the one ahead of it. -/
theorem pvB_node {k : Nat} {x : Int} (hk : xs[k]? = some x) (h : ¬ (0 ≤ x ∧ x < nn)) : pvB nn ls xs = false := by
  apply pvB_vw
  apply Bool.eq_false_iff.2
  intro hv
  exact h ((vwB_parts hv).2 x (List.mem_of_getElem? hk))
theorem pvB_gv (h : gvB nn ls = false) : pvB nn ls xs = false := by
  apply pvB_vw
  unfold vwB
  rw [h]
  rfl
theorem pvB_PV (h : pvB nn ls xs = true) : ∃ n : Nat, nn = (n : Int) ∧ PV n ls xs := by
  unfold pvB at h
  simp only [Bool.and_eq_true, decide_eq_true_eq, List.all_eq_true, List.mem_range] at h
  obtain ⟨⟨⟨h1, h9⟩, hv⟩, hl⟩ := h
  obtain ⟨hg, hr⟩ := vwB_parts hv
  obtain ⟨hf, hn1, hn8, hl14⟩ := gvB_fit hg
  obtain ⟨n, rfl⟩ : ∃ q : Nat, nn = (q : Int) := ⟨nn.toNat, by omega⟩
  refine ⟨n, rfl, hg, h1, h9, hr, fun k a b ha hb => ?_⟩
  have hk := hl (k + 1) (List.getElem?_eq_some_iff.1 hb).1
  rw [lkB_at ha hb, decide_eq_true_eq] at hk
  have ha' := hr a (List.mem_of_getElem? ha)
  have hb' := hr b (List.mem_of_getElem? hb)
  have hb'' : ((b.toNat : Nat) : Int) = b := by omega
  have := nbI_has hg a b.toNat (by omega)
  rw [hb'', decide_eq_true hk, decide_eq_true_eq] at this
  exact (nbI_adj hg).1 this
theorem PV.link {n : Nat} (h : PV n ls xs) {k : Nat} {a b : Int} (ha : xs[k]? = some a) (hb : xs[k + 1]? = some b) : 0 ≤ linkI (n : Int) ls a b := by
  obtain ⟨j, l, e, _⟩ := way_link h.gv (h.way k a b ha hb)
  omega
theorem PV.pvB {n : Nat} (h : PV n ls xs) : pvB (n : Int) ls xs = true := by
  refine pvB_yes h.pos h.len (vwB_join h.gv h.rng) fun k hk => ?_
  cases k with
  | zero => exact lkB_zero
  | succ k =>
    rw [lkB_at (List.getElem?_eq_getElem (show k < xs.length by omega)) (List.getElem?_eq_getElem hk), decide_eq_true_eq]
    exact h.link (List.getElem?_eq_getElem (by omega)) (List.getElem?_eq_getElem hk)
theorem costP_PV {n : Nat} (h : PV n ls xs) : costP (n : Int) ls xs = along (n : Int) ls xs := by unfold costP; rw [if_pos h.pvB]
theorem costP_no (h : Go.Proofs.Ytenlofomkchlaac.pvB nn ls xs = false) : costP nn ls xs = -1 := by unfold costP; rw [h]; rfl
end
end Go.Proofs.Ytenlofomkchlaac

/-
  Plain facts: the labels of a path, whatever fuel; of a path's rest; how far the first label goes.
-/
namespace Go.Proofs.Ytenlofomkchlaac

section
variable {ok ok' : Nat → Nat → Bool} {m i : Nat}
theorem growN_fuel : ∀ (f f' e : Nat), m ≤ e + f → m ≤ e + f' → growN ok m i f e = growN ok m i f' e
  | 0, 0, e, _, _ => rfl
  | 0, f' + 1, e, h, _ => by
    unfold growN
    rw [if_neg (by omega)]
  | f + 1, 0, e, _, h => by
    unfold growN
    rw [if_neg (by omega)]
  | f + 1, f' + 1, e, h, h' => by
    unfold growN
    split
    · exact growN_fuel f f' (e + 1) (by omega) (by omega)
    · rfl
theorem growN_stop {f e : Nat} (h : ¬ (e + 1 ≤ m ∧ ok i (e + 1) = true)) : growN ok m i f e = e := by
  cases f with
  | zero => rfl
  | succ f => unfold growN; rw [if_neg h]
theorem growN_go {f e : Nat} (hf : m ≤ e + f) (h : e + 1 ≤ m ∧ ok i (e + 1) = true) : growN ok m i f (e + 1) = growN ok m i f e := by
  rw [growN_fuel f (f + 1) e (by omega) (by omega)]
  conv => rhs; unfold growN
  rw [if_pos h]
theorem growN_shift {q : Nat} (ho : ∀ a b, a ≤ b → b ≤ m → ok' a b = ok (a + q) (b + q)) : ∀ (f e : Nat), i ≤ e → growN ok' m i f e + q = growN ok (m + q) (i + q) f (e + q)
  | 0, e, _ => rfl
  | f + 1, e, h => by
    unfold growN
    by_cases hc : e + 1 ≤ m
    · rw [ho i (e + 1) (by omega) hc]
      by_cases hk : ok (i + q) (e + 1 + q) = true
      · rw [if_pos ⟨hc, hk⟩, if_pos ⟨by omega, by rwa [show e + q + 1 = e + 1 + q by omega]⟩]
        have := growN_shift ho f (e + 1) (by omega)
        rwa [show e + 1 + q = e + q + 1 by omega] at this
      · rw [if_neg (fun h => hk h.2), if_neg (fun h => hk (by have := h.2; rwa [show e + q + 1 = e + 1 + q by omega] at this))]
    · rw [if_neg (fun h => hc h.1), if_neg (fun h => hc (by have := h.1; omega))]
theorem nxtN_shift {q : Nat} (ho : ∀ a b, a ≤ b → b ≤ m → ok' a b = ok (a + q) (b + q)) : nxtN ok' m i + q = nxtN ok (m + q) (i + q) := by
  unfold nxtN
  rw [growN_shift ho m (i + 1) (by omega), show i + 1 + q = i + q + 1 by omega]
  exact growN_fuel _ _ _ (by omega) (by omega)
/-- The greatest place that may be. -/
theorem nxtN_most (hh : Her ok m) {e : Nat} (h0 : i < e) (hm : e ≤ m) (hok : ok i e = true) (hno : ∀ e', e < e' → e' ≤ m → ok i e' = false) : nxtN ok m i = e := by
  have h1 : e ≤ nxtN ok m i := growN_to m (i + 1) (fun e' h3 h4 => hh i e i e' (Nat.le_refl _) (by omega) h4 hm hok) hm (by omega) (by omega)
  have h2 := nxtN_le (ok := ok) (m := m) (i := i) (by omega)
  rcases nxtN_ok ok m i with h | h
  · omega
  · by_cases hlt : e < nxtN ok m i
    · rw [hno _ hlt h2] at h; cases h
    · omega
theorem nxtN_none (hno : ∀ e', i < e' → e' ≤ m → ok i e' = false) (hm : i + 1 ≤ m) : nxtN ok m i = i + 1 := by
  rcases nxtN_ok ok m i with h | h
  · exact h
  · rw [hno _ (nxtN_gt ok m i) (nxtN_le hm)] at h; cases h
end

section
variable {nn : Int} {ls : List Lk} {xs : List Int}
theorem cmpL_fuel : ∀ (f f' i : Nat), xs.length - 1 ≤ i + f → xs.length - 1 ≤ i + f' → cmpL nn ls xs f i = cmpL nn ls xs f' i
  | 0, 0, i, _, _ => rfl
  | 0, f' + 1, i, h, _ => by
    unfold cmpL
    rw [if_neg (by omega)]
  | f + 1, 0, i, _, h => by
    unfold cmpL
    rw [if_neg (by omega)]
  | f + 1, f' + 1, i, h, h' => by
    unfold cmpL
    have := nxtN_gt (okP nn ls xs) (xs.length - 1) i
    split
    · rw [cmpL_fuel f f' _ (by omega) (by omega)]
    · rfl
theorem getD_drop (xs : List Int) (q i : Nat) : (xs.drop q).getD i 0 = xs.getD (i + q) 0 := by
  rw [List.getD_eq_getElem?_getD, List.getD_eq_getElem?_getD, List.getElem?_drop, Nat.add_comm]
theorem mkL_drop (q i j : Nat) : mkL nn ls (xs.drop q) i j = mkL nn ls xs (i + q) (j + q) := by
  unfold mkL
  rw [okP_drop, getD_drop, getD_drop, getD_drop, show i + 1 + q = i + q + 1 by omega]
theorem cmpL_drop {q : Nat} (hq : q < xs.length) : ∀ (f i : Nat), cmpL nn ls (xs.drop q) f i = cmpL nn ls xs f (i + q)
  | 0, i => rfl
  | f + 1, i => by
    unfold cmpL
    have hl : (xs.drop q).length - 1 + q = xs.length - 1 := by rw [List.length_drop]; omega
    have hs : nxtN (okP nn ls (xs.drop q)) ((xs.drop q).length - 1) i + q = nxtN (okP nn ls xs) (xs.length - 1) (i + q) := by
      rw [← hl]
      exact nxtN_shift (fun a b _ _ => okP_drop nn ls xs a b q)
    by_cases hc : i + 1 ≤ (xs.drop q).length - 1
    · rw [if_pos hc, if_pos (by omega), mkL_drop, cmpL_drop hq f, hs]
    · rw [if_neg hc, if_neg (by omega)]
/-- The labels of a path. -/
def cmpA (nn : Int) (ls : List Lk) (xs : List Int) : List Lb := cmpL nn ls xs xs.length 0
def cmpI (nn : Int) (ls : List Lk) (xs : List Int) : List Lb := if pvB nn ls xs = true then cmpA nn ls xs else []
theorem cmpA_one (h : xs.length ≤ 1) : cmpA nn ls xs = [] := by
  unfold cmpA
  cases hx : xs.length with
  | zero => rfl
  | succ f => unfold cmpL; rw [if_neg (by omega)]
/-- The first label, and those of the rest. -/
theorem cmpA_cons (h : 2 ≤ xs.length) : cmpA nn ls xs = mkL nn ls xs 0 (nxtN (okP nn ls xs) (xs.length - 1) 0) :: cmpA nn ls (xs.drop (nxtN (okP nn ls xs) (xs.length - 1) 0)) := by
  have h1 := nxtN_gt (okP nn ls xs) (xs.length - 1) 0
  have h2 := nxtN_le (ok := okP nn ls xs) (m := xs.length - 1) (i := 0) (by omega)
  unfold cmpA
  obtain ⟨f, hf⟩ : ∃ f, xs.length = f + 1 := ⟨xs.length - 1, by omega⟩
  conv => lhs; rw [hf]; unfold cmpL
  rw [if_pos (by omega), cmpL_drop (by omega), Nat.zero_add]
  congr 1
  exact cmpL_fuel _ _ _ (by omega) (by rw [List.length_drop]; omega)
theorem cmpA_next {i : Nat} (h : i + 1 ≤ xs.length - 1) : cmpL nn ls xs xs.length i = mkL nn ls xs i (nxtN (okP nn ls xs) (xs.length - 1) i) :: cmpL nn ls xs xs.length (nxtN (okP nn ls xs) (xs.length - 1) i) := by
  have h1 := nxtN_gt (okP nn ls xs) (xs.length - 1) i
  rw [cmpL_fuel xs.length (xs.length + 1) i (by omega) (by omega)]
  conv => lhs; unfold cmpL
  rw [if_pos h]
theorem cmpA_end {i : Nat} (h : ¬ i + 1 ≤ xs.length - 1) : cmpL nn ls xs xs.length i = [] := by
  cases hx : xs.length with
  | zero => rfl
  | succ f => unfold cmpL; rw [if_neg (by omega)]
end

/-! ### The only shortest way, as the program asks -/
/-- Is it the only shortest path, and this one? -/
def onlyB (nn : Int) (ls : List Lk) (p : List Int) : Bool := decide (countI nn ls (p.getD 0 0) (p.getD (p.length - 1) 0) = 1) && decide (p = pathI nn ls (p.getD 0 0) (p.getD (p.length - 1) 0))
section
variable {n : Nat} {ls : List Lk} {xs : List Int}
theorem onlyB_on (hv : gvB (n : Int) ls = true) {a b : Int} {p : List Int} (hn : p ≠ []) (ha : 0 ≤ a ∧ a < (n : Int)) (hb : 0 ≤ b ∧ b < (n : Int)) : (countI (n : Int) ls a b = 1 ∧ p = pathI (n : Int) ls a b) ↔ (On n ls a b p) := by
  have hvw := vwB_of hv ha hb
  have hc : countI (n : Int) ls a b = (cntL n ls a b : Nat) := by unfold countI; rw [if_pos hvw, Int.toNat_natCast]
  rw [hc]
  constructor
  · rintro ⟨h1, h2⟩
    obtain ⟨m, hm, _, _, hp⟩ := pathI_some (by rw [← h2]; exact hn)
    obtain rfl : n = m := by omega
    rw [← h2] at hp
    exact IsP.on hv hb hp (by omega)
  · intro h
    have hp := h.isP hv
    have h0 : 0 ≤ bf (n : Int) ls b a := hp.dist hv hb
    have hq := path_isP hvw h0
    refine ⟨?_, ?_⟩
    · have := h.one
      omega
    · have e : pathI (n : Int) ls a b = pathL n ls a b := by unfold pathI; rw [Int.toNat_natCast]
      rw [e]
      exact hp.uniq hq
theorem onlyB_okP (h : PV n ls xs) {i j : Nat} (hij : i ≤ j) (hj : j < xs.length) : onlyB (n : Int) ls (subP xs i j) = okP (n : Int) ls xs i j := by
  obtain ⟨a, ha⟩ : ∃ a, xs[i]? = some a := ⟨_, List.getElem?_eq_getElem (by omega)⟩
  obtain ⟨b, hb⟩ : ∃ b, xs[j]? = some b := ⟨_, List.getElem?_eq_getElem hj⟩
  have hl := subP_len (i := i) hj
  have e1 : (subP xs i j).getD 0 0 = a := getD_at (by rw [subP_at, if_pos (by omega)]; exact ha)
  have e2 : (subP xs i j).getD ((subP xs i j).length - 1) 0 = b := getD_at (by rw [hl, subP_at, if_pos (by omega), show i + (j + 1 - i - 1) = j by omega]; exact hb)
  have hne : subP xs i j ≠ [] := fun e => by rw [e] at hl; simp at hl; omega
  have ho := onlyB_on h.gv hne (h.rng a (List.mem_of_getElem? ha)) (h.rng b (List.mem_of_getElem? hb))
  have hk := okP_on h.way h.rng hij ha hb
  unfold onlyB
  rw [e1, e2]
  cases hc : okP (n : Int) ls xs i j with
  | true =>
    obtain ⟨h1, h2⟩ := ho.2 (hk.1 hc)
    rw [decide_eq_true h1, decide_eq_true h2]
    rfl
  | false =>
    apply Bool.eq_false_iff.2
    intro ht
    simp only [Bool.and_eq_true, decide_eq_true_eq] at ht
    rw [hk.2 (ho.1 ht)] at hc
    cases hc
theorem subP_zero {e : Nat} : subP xs 0 e = xs.take (e + 1) := by unfold subP; rw [List.drop_zero, Nat.sub_zero]
end
end Go.Proofs.Ytenlofomkchlaac
