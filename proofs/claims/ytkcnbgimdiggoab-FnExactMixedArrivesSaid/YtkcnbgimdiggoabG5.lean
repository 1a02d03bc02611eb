/-
  Plain facts: packets that are followed a number of times; a list that is sorted by insertion.
-/
import Derived.Test.YtkcnbgimdiggoabG1
import Derived.Test.YtkcnbgimdiggoabC2
import Derived.Test.YtkcnbgimdiggoabC1
import Derived.Lib.SliceRun
namespace Go.Proofs.Ytkcnbgimdiggoab

section
variable {H : Int → List Int} {t : Int}
/-- From x every packet arrives at t, forwarded at most j times. -/
def dlvB (H : Int → List Int) (t : Int) : Nat → Int → Bool
  | 0, x => decide (x = t)
  | j + 1, x => if (H x).isEmpty then decide (x = t) else (H x).all (dlvB H t j)
theorem dlv_more (hH : H t = []) : ∀ (j : Nat) (x : Int), dlvB H t j x = true → dlvB H t (j + 1) x = true
  | 0, x, h => by
    obtain rfl : x = t := of_decide_eq_true h
    show (if (H x).isEmpty then decide (x = x) else (H x).all (dlvB H x 0)) = true
    rw [hH]
    simp
  | j + 1, x, h => by
    have h : (if (H x).isEmpty then decide (x = t) else (H x).all (dlvB H t j)) = true := h
    show (if (H x).isEmpty then decide (x = t) else (H x).all (dlvB H t (j + 1))) = true
    by_cases he : (H x).isEmpty = true
    · rw [if_pos he] at h ⊢
      exact h
    · rw [if_neg he] at h ⊢
      rw [List.all_eq_true] at h ⊢
      exact fun y hy => dlv_more hH j y (h y hy)
theorem dlv_arr (hH : H t = []) : ∀ (j : Nat) (x : Int), dlvB H t j x = arrB H t j x
  | 0, x => rfl
  | j + 1, x => by
    show (if (H x).isEmpty then decide (x = t) else (H x).all (dlvB H t j)) = (arrB H t j x || (!(H x).isEmpty && (H x).all (arrB H t j)))
    have hall : (H x).all (arrB H t j) = (H x).all (dlvB H t j) := by
      congr 1
      funext y
      exact (dlv_arr hH j y).symm
    rw [← dlv_arr hH j x, hall]
    by_cases he : (H x).isEmpty = true
    · rw [if_pos he, he]
      cases j with
      | zero => simp [dlvB]
      | succ j =>
        have : dlvB H t (j + 1) x = decide (x = t) := by
          show (if (H x).isEmpty then decide (x = t) else (H x).all (dlvB H t j)) = _
          rw [if_pos he]
        rw [this]
        simp
    · rw [if_neg he]
      cases hd : dlvB H t j x with
      | false => simp [he]
      | true =>
        have h : (if (H x).isEmpty then decide (x = t) else (H x).all (dlvB H t j)) = true := dlv_more hH j x hd
        rw [if_neg he] at h
        rw [h]
        rfl
end

/-! ### Sorting by insertion -/
theorem pw_ext {R : Int → Int → Prop} (ir : ∀ a b, R a b → R b a → False) : ∀ l1 l2 : List Int, l1.Pairwise R → l2.Pairwise R → (∀ x, x ∈ l1 ↔ x ∈ l2) → l1 = l2
  | [], [], _, _, _ => rfl
  | [], b :: l2, _, _, h => absurd ((h b).2 (List.mem_cons_self ..)) (by simp)
  | a :: l1, [], _, _, h => absurd ((h a).1 (List.mem_cons_self ..)) (by simp)
  | a :: l1, b :: l2, h1, h2, h => by
    obtain ⟨p1, q1⟩ := List.pairwise_cons.1 h1
    obtain ⟨p2, q2⟩ := List.pairwise_cons.1 h2
    have hab : a = b := by
      rcases List.mem_cons.1 ((h a).1 (List.mem_cons_self ..)) with e | ha
      · exact e
      · rcases List.mem_cons.1 ((h b).2 (List.mem_cons_self ..)) with e | hb
        · exact e.symm
        · exact (ir _ _ (p2 a ha) (p1 b hb)).elim
    subst hab
    rw [pw_ext ir l1 l2 q1 q2 fun x => ⟨fun hx => ?_, fun hx => ?_⟩]
    · rcases List.mem_cons.1 ((h x).1 (List.mem_cons_of_mem _ hx)) with e | h'
      · subst e
        exact (ir _ _ (p1 x hx) (p1 x hx)).elim
      · exact h'
    · rcases List.mem_cons.1 ((h x).2 (List.mem_cons_of_mem _ hx)) with e | h'
      · subst e
        exact (ir _ _ (p2 x hx) (p2 x hx)).elim
      · exact h'

section
variable {n : Nat} {ls : List Lk} {t : Int}
theorem ordR_irr (a b : Int) (h1 : OrdR n ls t a b) (h2 : OrdR n ls t b a) : False := by
  unfold OrdR at h1 h2
  omega
/-- The first i are in order. -/
def Srtd (n : Nat) (ls : List Lk) (t : Int) (xs : List Int) (i : Nat) (cur : List Int) : Prop :=
  ∃ p, cur = p ++ xs.drop i ∧ p.Pairwise (OrdR n ls t) ∧ p.Perm (xs.take i)
/-- The number of place i is on its way down, now at j. -/
def Insd (n : Nat) (ls : List Lk) (t : Int) (xs : List Int) (i j : Nat) (cur : List Int) : Prop :=
  ∃ p v s, cur = p ++ v :: (s ++ xs.drop (i + 1)) ∧ xs[i]? = some v ∧ j = p.length ∧ (p ++ s).Pairwise (OrdR n ls t) ∧ (∀ u ∈ s, bf (n : Int) ls t u < bf (n : Int) ls t v) ∧ (p ++ s).Perm (xs.take i)
theorem Srtd.start (xs : List Int) (h : 0 < xs.length) : Srtd n ls t xs 1 xs := by
  cases xs with
  | nil => simp at h
  | cons a r => exact ⟨[a], rfl, List.pairwise_singleton _ _, by simp⟩
theorem Srtd.len {xs cur : List Int} {i : Nat} (h : Srtd n ls t xs i cur) (hi : i ≤ xs.length) : cur.length = xs.length := by
  obtain ⟨p, rfl, -, hp⟩ := h
  have := hp.length_eq
  rw [List.length_take] at this
  rw [List.length_append, List.length_drop]
  omega
theorem Insd.len {xs cur : List Int} {i j : Nat} (h : Insd n ls t xs i j cur) : cur.length = xs.length ∧ j ≤ i ∧ i < xs.length := by
  obtain ⟨p, v, s, rfl, hv, rfl, -, -, hp⟩ := h
  have hi := (List.getElem?_eq_some_iff.1 hv).1
  have := hp.length_eq
  rw [List.length_take, List.length_append] at this
  simp only [List.length_append, List.length_cons, List.length_drop]
  omega
theorem Srtd.insd {xs cur : List Int} {i : Nat} (h : Srtd n ls t xs i cur) (hi : i < xs.length) : Insd n ls t xs i i cur := by
  obtain ⟨p, rfl, hs, hp⟩ := h
  have hl := hp.length_eq
  rw [List.length_take] at hl
  refine ⟨p, xs[i], [], ?_, List.getElem?_eq_getElem hi, by omega, by rwa [List.append_nil], fun u hu => by simp at hu, by rwa [List.append_nil]⟩
  rw [List.nil_append, List.drop_eq_getElem_cons hi]
theorem Insd.here {xs cur : List Int} {i j : Nat} (h : Insd n ls t xs i j cur) : ∃ v, cur[j]? = some v ∧ v ∈ xs := by
  obtain ⟨p, v, s, rfl, hv, rfl, -, -, hp⟩ := h
  exact ⟨v, by rw [List.getElem?_append_right (Nat.le_refl _), Nat.sub_self]; rfl, List.mem_of_getElem? hv⟩
theorem Insd.before {xs cur : List Int} {i j : Nat} (h : Insd n ls t xs i j cur) (hj : 0 < j) : ∃ u, cur[j - 1]? = some u ∧ u ∈ xs := by
  obtain ⟨p, v, s, rfl, hv, rfl, -, -, hp⟩ := h
  have hlt : p.length - 1 < p.length := by omega
  refine ⟨p[p.length - 1], by rw [List.getElem?_append_left hlt, List.getElem?_eq_getElem hlt], ?_⟩
  exact List.mem_of_mem_take (hp.mem_iff.1 (List.mem_append_left _ (List.getElem_mem hlt)))
theorem Insd.swap {xs cur : List Int} {i j : Nat} (h : Insd n ls t xs i j cur) (hj : 0 < j) {u v : Int} (hv : cur[j]? = some v) (hu : cur[j - 1]? = some u) (hlt : bf (n : Int) ls t u < bf (n : Int) ls t v) : Insd n ls t xs i (j - 1) ((cur.set j u).set (j - 1) v) := by
  obtain ⟨p, v', s, rfl, hv', rfl, hpw, hs, hp⟩ := h
  obtain rfl : v' = v := by
    rw [List.getElem?_append_right (Nat.le_refl _), Nat.sub_self] at hv
    exact Option.some.inj hv
  have hne : p ≠ [] := fun e => by subst e; simp at hj
  obtain ⟨q, u', rfl⟩ : ∃ q u', p = q ++ [u'] := ⟨p.dropLast, p.getLast hne, (List.dropLast_concat_getLast hne).symm⟩
  have hl : (q ++ [u']).length = q.length + 1 := by simp
  rw [hl] at hu ⊢
  obtain rfl : u' = u := by
    rw [Nat.add_sub_cancel, List.append_assoc, List.getElem?_append_right (Nat.le_refl _), Nat.sub_self] at hu
    exact Option.some.inj hu
  refine ⟨q, v', u' :: s, ?_, hv', by omega, ?_, ?_, ?_⟩
  · rw [List.append_assoc, List.set_append_right _ _ (by omega), Nat.add_sub_cancel, List.set_append_right _ _ (by omega), Nat.sub_self, show q.length + 1 - q.length = 1 by omega]
    rfl
  · rwa [List.append_assoc] at hpw
  · intro w hw
    rcases List.mem_cons.1 hw with rfl | hw
    · exact hlt
    · exact hs w hw
  · rwa [List.append_assoc] at hp
theorem Insd.done {xs cur : List Int} {i j : Nat} (h : Insd n ls t xs i j cur) (hx : xs.Pairwise (· < ·)) (he : j = 0 ∨ ∃ u v, cur[j]? = some v ∧ cur[j - 1]? = some u ∧ ¬ bf (n : Int) ls t u < bf (n : Int) ls t v) : Srtd n ls t xs (i + 1) cur := by
  obtain ⟨p, v, s, rfl, hv, rfl, hpw, hs, hp⟩ := h
  have hi := (List.getElem?_eq_some_iff.1 hv).1
  have hvx : xs[i] = v := (List.getElem?_eq_some_iff.1 hv).2
  have hless : ∀ u ∈ p ++ s, u < v := fun u hu => by
    have h1 : u ∈ xs.take i := hp.mem_iff.1 hu
    have h2 : v ∈ xs.drop i := by rw [List.drop_eq_getElem_cons hi, hvx]; exact List.mem_cons_self ..
    rw [← List.take_append_drop i xs, List.pairwise_append] at hx
    exact hx.2.2 u h1 v h2
  refine ⟨p ++ v :: s, by simp, ?_, ?_⟩
  · rw [List.pairwise_append] at hpw ⊢
    obtain ⟨w1, w2, w3⟩ := hpw
    have hp2 : ∀ u ∈ p, bf (n : Int) ls t v ≤ bf (n : Int) ls t u := by
      rcases he with he | ⟨u, v', e1, e2, hn⟩
      · intro u hu
        rw [List.eq_nil_of_length_eq_zero he] at hu
        simp at hu
      · obtain rfl : v = v' := by
          rw [List.getElem?_append_right (Nat.le_refl _), Nat.sub_self] at e1
          exact Option.some.inj e1
        intro y hy
        have hne : p ≠ [] := fun e => by subst e; simp at hy
        obtain ⟨q, u', rfl⟩ : ∃ q u', p = q ++ [u'] := ⟨p.dropLast, p.getLast hne, (List.dropLast_concat_getLast hne).symm⟩
        obtain rfl : u' = u := by
          rw [show (q ++ [u']).length - 1 = q.length by simp, List.append_assoc, List.getElem?_append_right (Nat.le_refl _), Nat.sub_self] at e2
          exact Option.some.inj e2
        rcases List.mem_append.1 hy with hy | hy
        · have := (List.pairwise_append.1 w1).2.2 y hy u' (by simp)
          unfold OrdR at this
          omega
        · rw [List.mem_singleton.1 hy]
          omega
    refine ⟨w1, List.pairwise_cons.2 ⟨fun u hu => ?_, w2⟩, fun a ha b hb => ?_⟩
    · exact .inl (hs u hu)
    · rcases List.mem_cons.1 hb with rfl | hb
      · have h1 := hp2 a ha
        have h2 := hless a (List.mem_append_left _ ha)
        unfold OrdR
        omega
      · exact w3 a ha b hb
  · rw [List.take_add_one, hv]
    refine List.perm_middle.trans ?_
    refine (List.Perm.cons v hp).trans ?_
    exact (List.perm_append_comm (l₁ := [v]) (l₂ := xs.take i))
/-- What is in order all through is the order of updates. -/
theorem Srtd.ord {xs cur : List Int} {x : Int} (h : Srtd n ls t xs xs.length cur) (hm : ∀ y, y ∈ ordT n ls x t (n * 20) ↔ y ∈ xs) : cur = ordT n ls x t (n * 20) := by
  obtain ⟨p, rfl, hs, hp⟩ := h
  rw [List.drop_length, List.append_nil]
  rw [List.take_length] at hp
  exact pw_ext ordR_irr _ _ hs (ordT_sort _) fun y => (hp.mem_iff).trans (hm y).symm
end
/-- Nobody needs an update: nothing is in order. -/
theorem ordA_need (nn : Int) (ls : List Lk) (x t : Int) : (rokB nn ls t x = false ∧ needA nn ls t x = [] ∧ ordA nn ls x t = []) ∨ (∃ n : Nat, nn = (n : Int) ∧ gvB nn ls = true ∧ (0 ≤ t ∧ t < nn) ∧ idxB ls x = true ∧ ordA nn ls x t = ordT n ls x t (n * 20) ∧ (∀ y, y ∈ ordT n ls x t (n * 20) ↔ y ∈ needA nn ls t x) ∧ (needA nn ls t x).Pairwise (· < ·) ∧ ∀ y ∈ needA nn ls t x, 0 ≤ y ∧ y < nn) := by
  cases hr : rokB nn ls t x with
  | false =>
    refine .inl ⟨rfl, by unfold needA; rw [hr]; rfl, ?_⟩
    unfold ordA
    rw [if_neg]
    intro h
    rw [Bool.and_eq_true] at h
    obtain ⟨hg, h0, ht⟩ := vwB_two h.1
    unfold rokB at hr
    rw [vwB_single.2 ⟨hg, ht⟩, h.2] at hr
    cases hr
  | true =>
    have hp := hr
    unfold rokB at hp
    rw [Bool.and_eq_true] at hp
    obtain ⟨hg, ht⟩ := vwB_single.1 hp.1
    obtain ⟨n, rfl⟩ : ∃ n : Nat, nn = (n : Int) := ⟨nn.toNat, by omega⟩
    have hA := ordA_ok (x := x) hg ht hp.2
    rw [show ((n : Int)).toNat = n by omega] at hA
    refine .inr ⟨n, rfl, hg, ht, hp.2, hA, fun y => ?_, ?_, fun y hy => ?_⟩
    · rw [← hA, ord_mem hg ht hp.2, need_mem hr, usedB_back]
    · unfold needA
      rw [if_pos hr]
      exact (nodL_asc _).sublist (List.filter_sublist ..)
    · exact ((need_mem hr).1 hy).1
end Go.Proofs.Ytkcnbgimdiggoab

/-
  Forwarders in memory: nodes with pointers to their next hops; rows of pointers.
-/
namespace Go.Proofs.Ytkcnbgimdiggoab
open Go.RowKit Go.Maps

section
abbrev ptrV (b : Nat) : Value := .pointer (some ⟨b, 0, none⟩)
/-- A row of one-cell values in memory of its own, read. -/
theorem own_row {w : World} {base n : Nat} {e : TypeId} {v : Value} {us : List Value} (h : w.ownsRow base e 1 v n us) :
    ∃ A c, v = .slice A n c ∧ us.length = n ∧ ∀ (k : Nat) (u : Value), us[k]? = some u → ∃ g, A = some ⟨g, 0, none⟩ ∧ base ≤ g ∧ g < w.heap.size ∧ w.cell? ⟨g, k, none⟩ = some u := by
  have hn : us.length = n := by have := h.1; omega
  rcases h.2 with ⟨rfl, h0⟩ | ⟨g, cap, cur, rfl, hbg, hh, hn', _, hs, ht⟩
  · refine ⟨none, 0, by rw [h0], hn, fun k u hk => ?_⟩
    have := (List.getElem?_eq_some_iff.1 hk).1
    omega
  · refine ⟨_, cap, rfl, hn, fun k u hk => ⟨g, rfl, hbg, heap_lt hh, ?_⟩⟩
    have hkl : k < us.length := (List.getElem?_eq_some_iff.1 hk).1
    rw [← ht, List.getElem?_take_of_lt (by omega), Array.getElem?_toList] at hk
    rw [cell_of_row w g k cur e (0, 0) hh]
    exact hk
end
section
def nxV (fs : List Nat) (hs : List Int) : List Value := hs.map (fun y => ptrV (fs.getD y.toNat 0))
theorem nxV_len (fs : List Nat) (hs : List Int) : (nxV fs hs).length = hs.length := by unfold nxV; simp
/-- The forwarder in block b, with pointers to the nodes hs. -/
def FNode (W : World) (base b : Nat) (fs : List Nat) (gl : Bool) (hs : List Int) : Prop :=
  ∃ v, Box W b 100 #[.bool gl, v] ∧ W.ownsRow base 63 1 v hs.length (nxV fs hs)
theorem FNode.below {W W' : World} {base b : Nat} {fs : List Nat} {gl : Bool} {hs : List Int} (h : FNode W base b fs gl hs) (hb : Below W.heap.size W W') : FNode W' base b fs gl hs := by
  obtain ⟨v, h1, h2⟩ := h
  exact ⟨v, h1.below hb h1.lt, owns_kept h2 hb⟩
/-- All nodes' forwarders. -/
def FNet (W : World) (base : Nat) (fs : List Nat) (t : Int) (H : Int → List Int) : Prop :=
  ∀ (i b : Nat), fs[i]? = some b → FNode W base b fs (decide ((i : Int) = t)) (H (i : Int))
theorem FNet.below {W W' : World} {base : Nat} {fs : List Nat} {t : Int} {H : Int → List Int} (h : FNet W base fs t H) (hb : Below W.heap.size W W') : FNet W' base fs t H := fun i b hi => (h i b hi).below hb
theorem nxV_at {fs : List Nat} {H : Int → List Int} (hr : InR fs.length H) {i : Nat} (hi : i < fs.length) {k : Nat} {y : Int} (hy : (H (i : Int))[k]? = some y) : ∃ j b : Nat, y = (j : Int) ∧ fs[j]? = some b ∧ (nxV fs (H (i : Int)))[k]? = some (ptrV b) := by
  have := hr (i : Int) y (by omega) (by omega) (List.mem_of_getElem? hy)
  have hlt : y.toNat < fs.length := by omega
  refine ⟨y.toNat, fs[y.toNat], by omega, List.getElem?_eq_getElem hlt, ?_⟩
  unfold nxV
  rw [List.getElem?_map, hy]
  show some (ptrV (fs.getD y.toNat 0)) = _
  rw [List.getD_eq_getElem?_getD, List.getElem?_eq_getElem hlt]
  rfl
end
end Go.Proofs.Ytkcnbgimdiggoab

/-
  Rows of numbers of one's own that are changed in place: plain facts of deleting, cells that are set.
-/
namespace Go.Proofs.Ytkcnbgimdiggoab
open Go.RowKit Go.Maps

section
theorem Arri.setAt {w : World} {g : Nat} {xs : List Int} (h : Arri w g xs) (i : Nat) (x : Int) : Arri (w.setCell ⟨g, i, none⟩ (.int .i64 x)) g (xs.set i x) := by
  obtain ⟨cs, hh, hc⟩ := h
  refine ⟨_, heap_set hh i _, fun k y hy => ?_⟩
  by_cases e : i = k
  · subst e
    have hl : i < xs.length := by
      have := (List.getElem?_eq_some_iff.1 hy).1
      rwa [List.length_set] at this
    rw [List.getElem?_set_self hl] at hy
    cases hy
    have hi := hc i xs[i] (List.getElem?_eq_getElem hl)
    have hz := (Array.getElem?_eq_some_iff.1 hi).1
    rw [Array.getElem?_setIfInBounds_self_of_lt hz]
  · rw [List.getElem?_set_ne e] at hy
    rw [Array.getElem?_setIfInBounds_ne e]
    exact hc k y hy
theorem Own1i.setAt {w : World} {A : Option Addr} {g : Nat} {xs : List Int} (h : Own1i w A g xs) (i : Nat) (x : Int) : Own1i (w.setCell ⟨g, i, none⟩ (.int .i64 x)) A g (xs.set i x) := fun hp => by
  rw [List.length_set] at hp
  exact ⟨(h hp).1, (h hp).2.setAt i x⟩
theorem Own1i.frozen {w : World} {A : Option Addr} {g : Nat} {xs : List Int} (h : Own1i w A g xs) {i : Nat} {x : Int} (hx : xs[i]? = some x) (k : Nat := i) : w.frozen? ⟨g, k, none⟩ = false := by
  have := (List.getElem?_eq_some_iff.1 hx).1
  obtain ⟨-, cs, hh, -⟩ := h (by omega)
  exact heap_frozen hh k
theorem Own1i.cut {w : World} {A : Option Addr} {g : Nat} {xs : List Int} (h : Own1i w A g xs) (k : Nat) : Own1i w A g (xs.take k) := fun hp => by
  have : 0 < xs.length := by rw [List.length_take] at hp; omega
  obtain ⟨e, cs, hh, hc⟩ := h this
  refine ⟨e, cs, hh, fun j x hj => hc j x ?_⟩
  have hj' := (List.getElem?_eq_some_iff.1 hj).1
  rw [List.length_take] at hj'
  rwa [List.getElem?_take_of_lt (by omega)] at hj
/-- Zeros behind the first i, in the same block. -/
theorem Own1i.zeros {A : Option Addr} {g : Nat} : ∀ (m i : Nat) {w : World} {xs : List Int}, Own1i w A g xs → Own1i (w.setCells g i (List.replicate m (.int .i64 0))) A g (xs.take i)
  | 0, i, w, xs, h => h.cut i
  | m + 1, i, w, xs, h => by
    have h1 := Own1i.zeros m (i + 1) (h.setAt i 0)
    have h2 := h1.cut i
    rw [List.take_take, Nat.min_eq_left (by omega)] at h2
    have he : (xs.set i 0).take i = xs.take i := by
      rw [List.take_set_of_le (Nat.le_refl _)]
    rw [he] at h2
    exact h2
theorem Kx.setCells {X : Nat → Prop} {a : World} {g : Nat} (hx : X g) : ∀ (us : List Value) (i : Nat) {w : World}, Kx X a w → Kx X a (w.setCells g i us)
  | [], _, _, h => h
  | u :: us, i, _, h => Kx.setCells hx us (i + 1) (h.setCell (p := ⟨g, i, none⟩) hx u)
theorem Own1i.kx {X : Nat → Prop} {w w' : World} {A : Option Addr} {g : Nat} {xs : List Int} (h : Own1i w A g xs) (hk : Kx X w w') (hx : ¬ X g) : Own1i w' A g xs := fun hp => by
  obtain ⟨e, cs, hh, hc⟩ := h hp
  exact ⟨e, cs, (hk.block g (heap_lt hh) hx).trans hh, hc⟩

/-- The first i are what is kept of the first j, and from j on nothing has been touched. -/
def DelI (p : Int → Bool) (xs : List Int) (i j : Nat) (cur : List Int) : Prop :=
  cur.length = xs.length ∧ i < j ∧ cur.take i = (xs.take j).filter (fun x => !p x) ∧ cur.drop j = xs.drop j
variable {p : Int → Bool} {xs cur : List Int} {i j : Nat}
theorem DelI.at (h : DelI p xs i j cur) {x : Int} (hx : xs[j]? = some x) : cur[j]? = some x := by
  have := congrArg (fun l : List Int => l[0]?) h.2.2.2
  simpa [hx] using this
theorem take_next {α : Type} (xs : List α) {j : Nat} {x : α} (hx : xs[j]? = some x) : xs.take (j + 1) = xs.take j ++ [x] := by
  rw [List.take_add_one, hx]
  rfl
theorem drop_next {a b : List Int} (h : a.drop j = b.drop j) : a.drop (j + 1) = b.drop (j + 1) := by
  rw [← List.drop_drop, ← List.drop_drop, h]
theorem DelI.keep (h : DelI p xs i j cur) {x : Int} (hx : xs[j]? = some x) (hp : p x = false) : DelI p xs (i + 1) (j + 1) (cur.set i x) := by
  obtain ⟨h1, h2, h3, h4⟩ := h
  have hj := (List.getElem?_eq_some_iff.1 hx).1
  refine ⟨by rw [List.length_set, h1], by omega, ?_, ?_⟩
  · have hs : (cur.set i x)[i]? = some x := List.getElem?_set_self (by omega)
    rw [take_next _ hs, List.take_set_of_le (Nat.le_refl _), h3, take_next xs hx, List.filter_append]
    simp [hp]
  · rw [List.drop_set_of_lt (by omega)]
    exact drop_next h4
theorem DelI.skip (h : DelI p xs i j cur) {x : Int} (hx : xs[j]? = some x) (hp : p x = true) : DelI p xs i (j + 1) cur := by
  obtain ⟨h1, h2, h3, h4⟩ := h
  refine ⟨h1, by omega, ?_, drop_next h4⟩
  rw [h3, take_next xs hx, List.filter_append]
  simp [hp]
theorem DelI.start {k : Nat} {x : Int} (hall : ∀ (m : Nat) (y : Int), m < k → xs[m]? = some y → p y = false) (hx : xs[k]? = some x) (hp : p x = true) : DelI p xs k (k + 1) xs := by
  refine ⟨rfl, Nat.lt_succ_self _, ?_, rfl⟩
  rw [take_next xs hx, List.filter_append]
  have h0 : [x].filter (fun x => !p x) = [] := by simp [hp]
  rw [h0, List.append_nil]
  refine (List.filter_eq_self.2 fun y hy => ?_).symm
  obtain ⟨m, hm, e⟩ := List.mem_iff_getElem.1 hy
  rw [List.length_take] at hm
  have : xs[m]? = some y := by
    rw [List.getElem_take] at e
    rw [List.getElem?_eq_getElem (by omega), e]
  rw [hall m y (by omega) this]
  rfl
theorem DelI.done (h : DelI p xs i xs.length cur) : cur.take i = xs.filter (fun x => !p x) ∧ (xs.filter (fun x => !p x)).length = i := by
  obtain ⟨h1, h2, h3, h4⟩ := h
  rw [List.take_length] at h3
  refine ⟨h3, ?_⟩
  rw [← h3, List.length_take]
  omega
theorem filter_none (hall : ∀ (m : Nat) (y : Int), m < xs.length → xs[m]? = some y → p y = false) : xs.filter (fun x => !p x) = xs := by
  refine List.filter_eq_self.2 fun y hy => ?_
  obtain ⟨m, hm, e⟩ := List.mem_iff_getElem.1 hy
  rw [hall m y hm (by rw [List.getElem?_eq_getElem hm, e])]
  rfl
end
end Go.Proofs.Ytkcnbgimdiggoab
