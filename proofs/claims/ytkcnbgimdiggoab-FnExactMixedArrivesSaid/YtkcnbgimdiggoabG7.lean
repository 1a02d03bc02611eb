/-
  Contracts over this seat: the four of chapter 22 (the order of updates), together.
-/
import Derived.Test.YtkcnbgimdiggoabG4
import Derived.Test.YtkcnbgimdiggoabYr
import Derived.Test.YtkcnbgimdiggoabG6
import Derived.Test.YtkcnbgimdiggoabVz
namespace Go.Proofs.Ytkcnbgimdiggoab
end Go.Proofs.Ytkcnbgimdiggoab

/-
  Plain facts for the walks of the laws of the order of updates.
-/
namespace Go.Proofs.Ytkcnbgimdiggoab

section
variable {n : Nat} {ls : List Lk} {k : Nat} {t : Int} {ch : List Int}
/-- The arguments are valid. -/
def Vok (n : Nat) (ls : List Lk) (k : Nat) (t : Int) : Prop := gvB (n : Int) ls = true ∧ k < ls.length ∧ 0 ≤ t ∧ t < (n : Int)
theorem Vok.idx (h : Vok n ls k t) : idxB ls (k : Int) = true := by
  have := h.2.1
  unfold idxB
  simp
  omega
theorem Vok.all (h : Vok n ls k t) : (vwB (n : Int) ls [0, t] && idxB ls (k : Int)) = true := by
  have hn := (gvB_fit h.1).2.1
  rw [vwB_of h.1 ⟨Int.le_refl _, by omega⟩ h.2.2, h.idx]
  rfl
theorem vok_of {nn x t : Int} (h : (vwB nn ls [0, t] && idxB ls x) = true) : ∃ n k : Nat, nn = (n : Int) ∧ x = (k : Int) ∧ Vok n ls k t := by
  rw [Bool.and_eq_true] at h
  obtain ⟨hg, h0, ht⟩ := vwB_two h.1
  obtain ⟨k, l, rfl, hl⟩ := idx_at h.2
  exact ⟨nn.toNat, k, by omega, rfl, by rw [show ((nn.toNat : Nat) : Int) = nn by omega]; exact hg, (List.getElem?_eq_some_iff.1 hl).1, ht.1, by omega⟩
theorem loop_ok (h : Vok n ls k t) : loopA (n : Int) ls (k : Int) t ch = (nodL n).filter (walkB (mixH (n : Int) ls k t ch) n) := by
  unfold loopA
  rw [if_pos h.all, show ((n : Int)).toNat = n by omega, show ((k : Int)).toNat = k by omega]
theorem arr_ok (h : Vok n ls k t) : arrA (n : Int) ls (k : Int) t ch = (nodL n).filter (arrB (mixH (n : Int) ls k t ch) t n) := by
  unfold arrA
  rw [if_pos h.all, show ((n : Int)).toNat = n by omega, show ((k : Int)).toNat = k by omega]
theorem loop_mem (h : Vok n ls k t) {y : Int} : y ∈ loopA (n : Int) ls (k : Int) t ch ↔ (0 ≤ y ∧ y < (n : Int)) ∧ walkB (mixH (n : Int) ls k t ch) n y = true := by rw [loop_ok h, List.mem_filter, mem_nodL]
theorem arr_mem (h : Vok n ls k t) {y : Int} : y ∈ arrA (n : Int) ls (k : Int) t ch ↔ (0 ≤ y ∧ y < (n : Int)) ∧ arrB (mixH (n : Int) ls k t ch) t n y = true := by rw [arr_ok h, List.mem_filter, mem_nodL]
theorem mixA_ok (h : Vok n ls k t) {y : Int} (hy : 0 ≤ y ∧ y < (n : Int)) : mixA (n : Int) ls (k : Int) t ch y = mixH (n : Int) ls k t ch y := by
  unfold mixA
  rw [vwB_of h.1 hy h.2.2, h.idx, if_pos (by rfl), show ((k : Int)).toNat = k by omega]
theorem mixH_len8 (n : Int) (ls : List Lk) (k : Nat) (t : Int) (ch : List Int) (y : Int) : (mixH n ls k t ch y).length ≤ 8 := by
  unfold mixH
  split
  · exact hops_len _ _ _ _
  · exact Nat.le_trans (List.length_filter_le _ _) (hops_len _ _ _ _)
theorem mixA_len8 (nn : Int) (ls : List Lk) (x t : Int) (ch : List Int) (y : Int) : (mixA nn ls x t ch y).length ≤ 8 := by
  unfold mixA
  split
  · exact mixH_len8 _ _ _ _ _ _
  · exact Nat.zero_le _
theorem loopA_len8 (nn : Int) (ls : List Lk) (x t : Int) (ch : List Int) : (loopA nn ls x t ch).length ≤ 8 := by
  unfold loopA
  split
  · rename_i h
    rw [Bool.and_eq_true] at h
    have h8 := (gvB_fit (vwB_two h.1).1).2.2.1
    exact Nat.le_trans (List.length_filter_le _ _) (by rw [nodL_len]; omega)
  · exact Nat.zero_le _
theorem arrA_len8 (nn : Int) (ls : List Lk) (x t : Int) (ch : List Int) : (arrA nn ls x t ch).length ≤ 8 := by
  unfold arrA
  split
  · rename_i h
    rw [Bool.and_eq_true] at h
    have h8 := (gvB_fit (vwB_two h.1).1).2.2.1
    exact Nat.le_trans (List.length_filter_le _ _) (by rw [nodL_len]; omega)
  · exact Nat.zero_le _
theorem arrA_asc (nn : Int) (ls : List Lk) (x t : Int) (ch : List Int) : (arrA nn ls x t ch).Pairwise (· < ·) := by
  unfold arrA
  split
  · exact (nodL_asc _).sublist (List.filter_sublist ..)
  · exact List.Pairwise.nil
theorem ord_empty {nn x t : Int} (h : (vwB nn ls [0, t] && idxB ls x) = false) : ordA nn ls x t = [] := by
  unfold ordA
  rw [h]
  rfl
/-- P123. -/
theorem none_law {n x t : Int} {ls : List Lk} (hg : gvB n ls = true) (hx : 0 ≤ x ∧ x < (ls.length : Int)) (ht : 0 ≤ t ∧ t < n) : (ordA n ls x t).length + (safeA n ls t x).length = (reachL n ls t).length := by
  have e : ((n.toNat : Nat) : Int) = n := by omega
  have := ord_none (n := n.toNat) (by rw [e]; exact hg) (by omega) (by unfold idxB; simp; omega) (t := t) (x := x)
  rw [e] at this
  exact this
/-- How many of the first k nodes use the link. -/
def usedN (n : Int) (ls : List Lk) (t x : Int) (k : Nat) : Nat := ((List.range k).filter fun i : Nat => usedB n ls (i : Int) t x).length
theorem usedN_succ (n : Int) (ls : List Lk) (t x : Int) (k : Nat) : usedN n ls t x (k + 1) = usedN n ls t x k + (if usedB n ls (k : Int) t x = true then 1 else 0) := by
  unfold usedN
  rw [List.range_succ, List.filter_append, List.length_append]
  congr 1
  cases h : usedB n ls (k : Int) t x <;> simp [h]
theorem usedN_len (n : Int) (ls : List Lk) (t x : Int) (k : Nat) : usedN n ls t x k ≤ k := by
  have := List.length_filter_le (fun i : Nat => usedB n ls (i : Int) t x) (List.range k)
  rw [List.length_range] at this
  exact this
/-- P112. -/
theorem nodes_law {n x t : Int} {ls : List Lk} (hg : gvB n ls = true) (hx : 0 ≤ x ∧ x < (ls.length : Int)) (ht : 0 ≤ t ∧ t < n) : (∀ y : Int, 0 ≤ y → y < n → decide (y ∈ ordA n ls x t) = usedB n ls y t x) ∧ ∀ k : Nat, (k : Int) = n → usedN n ls t x k = (ordA n ls x t).length := by
  obtain ⟨m, rfl⟩ : ∃ m : Nat, n = (m : Int) := ⟨n.toNat, by omega⟩
  have hi : idxB ls x = true := by unfold idxB; simp; omega
  have hm := fun y => ord_mem (y := y) hg ht hi
  refine ⟨fun y h0 h1 => ?_, fun k hk => ?_⟩
  · rw [Bool.eq_iff_iff, decide_eq_true_eq, hm]
    exact ⟨fun h => h.2, fun h => ⟨⟨h0, h1⟩, h⟩⟩
  · obtain rfl : k = m := by omega
    rw [ord_need hg ht hi]
    have hr : rokB (k : Int) ls t x = true := by
      unfold rokB
      rw [vwB_single.2 ⟨hg, ht⟩, hi]
      rfl
    unfold usedN needA
    rw [if_pos hr]
    unfold nodL
    rw [List.filter_map, List.length_map]
    refine congrArg List.length (List.filter_congr fun i _ => ?_)
    simp only [Function.comp]
    exact usedB_back _ _ _ _ _
/-- P117. -/
theorem noloop_law (nn : Int) (ls : List Lk) (x t : Int) (j : Nat) : loopA nn ls x t ((ordA nn ls x t).take j) = [] := by
  cases h : (vwB nn ls [0, t] && idxB ls x) with
  | false => unfold loopA; rw [h]; rfl
  | true =>
    obtain ⟨n, k, rfl, rfl, hv⟩ := vok_of h
    rw [loop_ok hv, List.filter_eq_nil_iff]
    intro y hy
    have hyr := mem_nodL.1 hy
    rw [mix_none hv.1 (List.getElem?_eq_getElem hv.2.1) hv.2.2 (ord_clo hv.1 hv.2.2 (List.getElem?_eq_getElem hv.2.1) j) hyr.1 hyr.2]
    simp
/-- P118. -/
theorem loop_law (hv : Vok n ls k t) {y : Int} (h0 : 0 ≤ y) (h1 : y < (n : Int)) : (mixA (n : Int) ls (k : Int) t ch y).any (fun z => decide (z ∈ loopA (n : Int) ls (k : Int) t ch)) = decide (y ∈ loopA (n : Int) ls (k : Int) t ch) := by
  rw [mixA_ok hv ⟨h0, h1⟩]
  have hr := mix_range (k := k) (ch := ch) hv.1 hv.2.2
  rw [Bool.eq_iff_iff, decide_eq_true_eq, loop_mem hv, List.any_eq_true, ← walk_goes hr h0 h1, List.any_eq_true]
  constructor
  · rintro ⟨z, hz, e⟩
    rw [decide_eq_true_eq, loop_mem hv] at e
    exact ⟨⟨h0, h1⟩, z, hz, e.2⟩
  · rintro ⟨-, z, hz, e⟩
    exact ⟨z, hz, by rw [decide_eq_true_eq, loop_mem hv]; exact ⟨hr y z h0 h1 hz, e⟩⟩
/-- P119. -/
theorem arrall_law (hv : Vok n ls k t) : arrA (n : Int) ls (k : Int) t (ordA (n : Int) ls (k : Int) t) = reachL (n : Int) (ls.eraseIdx k) t := by
  have hl := List.getElem?_eq_getElem hv.2.1
  have hg' := er_gv hv.1 k
  refine asc_ext _ _ (arrA_asc _ _ _ _ _) (reachL_asc _ _ _) fun y => ?_
  rw [arr_mem hv, reach_mem (vwB_one hg' hv.2.2) (gvB_fit hg').1 hv.2.2]
  constructor
  · rintro ⟨h, ha⟩
    exact ⟨h, (mix_all hv.1 hl hv.2.2 (fun z a b hu => (ord_mem hv.1 hv.2.2 hv.idx).2 ⟨⟨a, b⟩, by rw [used_at (vwB_of hv.1 ⟨a, b⟩ hv.2.2) hl]; exact hu⟩) h.1 h.2).1 ha⟩
  · rintro ⟨h, ha⟩
    exact ⟨h, (mix_all hv.1 hl hv.2.2 (fun z a b hu => (ord_mem hv.1 hv.2.2 hv.idx).2 ⟨⟨a, b⟩, by rw [used_at (vwB_of hv.1 ⟨a, b⟩ hv.2.2) hl]; exact hu⟩) h.1 h.2).2 ha⟩
/-- P120. -/
theorem arrsome_law (hv : Vok n ls k t) : (∀ y ∈ safeA (n : Int) ls t (k : Int), decide (y ∈ arrA (n : Int) ls (k : Int) t ch) = true) ∧ decide (t ∈ arrA (n : Int) ls (k : Int) t ch) = true := by
  have hl := List.getElem?_eq_getElem hv.2.1
  have hr : rokB (n : Int) ls t (k : Int) = true := by
    unfold rokB
    rw [vwB_single.2 ⟨hv.1, hv.2.2⟩, hv.idx]
    rfl
  constructor
  · intro y hy
    obtain ⟨⟨h0, h1⟩, h2, h3⟩ := (safe_mem hr).1 hy
    rw [decide_eq_true_eq, arr_mem hv]
    rw [← usedB_back, used_at (vwB_of hv.1 ⟨h0, h1⟩ hv.2.2) hl] at h3
    exact ⟨⟨h0, h1⟩, mix_arrives hv.1 hl hv.2.2 _ y h0 h1 (Nat.le_refl _) h2 h3⟩
  · rw [decide_eq_true_eq, arr_mem hv]
    exact ⟨hv.2.2, arr_self (mix_range hv.1 hv.2.2) hv.2.2⟩
/-- P121. -/
theorem arrno_law (nn : Int) (ls : List Lk) (x t : Int) (ch : List Int) : ∀ y ∈ arrA nn ls x t ch, decide (y ∈ loopA nn ls x t ch) = false := fun y hy => by
  cases h : (vwB nn ls [0, t] && idxB ls x) with
  | false =>
    unfold arrA at hy
    rw [h] at hy
    simp at hy
  | true =>
    obtain ⟨n, k, rfl, rfl, hv⟩ := vok_of h
    obtain ⟨hyr, ha⟩ := (arr_mem hv).1 hy
    rw [decide_eq_false_iff_not, loop_mem hv]
    rintro ⟨-, e⟩
    rw [arr_walk (mix_range hv.1 hv.2.2) (mix_own hv.1 hv.2.2) hyr.1 hyr.2 ha] at e
    cases e
/-- P122. -/
theorem arrmore_law (nn : Int) (ls : List Lk) (x t : Int) (j : Nat) (hj : j < (ordA nn ls x t).length) : ∀ y ∈ arrA nn ls x t ((ordA nn ls x t).take j), decide (y ∈ arrA nn ls x t ((ordA nn ls x t).take (j + 1))) = true := fun y hy => by
  cases h : (vwB nn ls [0, t] && idxB ls x) with
  | false =>
    rw [ord_empty h] at hj
    simp at hj
  | true =>
    obtain ⟨n, k, rfl, rfl, hv⟩ := vok_of h
    have hl := List.getElem?_eq_getElem hv.2.1
    obtain ⟨hyr, ha⟩ := (arr_mem hv).1 hy
    obtain ⟨m, hm⟩ : ∃ m, (ordA (n : Int) ls (k : Int) t)[j]? = some m := ⟨_, List.getElem?_eq_getElem hj⟩
    have hmm := (ord_mem hv.1 hv.2.2 hv.idx).1 (List.mem_of_getElem? hm)
    rw [used_at (vwB_of hv.1 hmm.1 hv.2.2) hl] at hmm
    have hnd := ord_nodup (n : Int) ls (k : Int) t
    have hnot : m ∉ (ordA (n : Int) ls (k : Int) t).take j := fun e => by
      obtain ⟨i, hi⟩ := List.getElem?_of_mem e
      rw [List.getElem?_take] at hi
      split at hi
      · rename_i hij
        obtain ⟨a, b⟩ := List.getElem?_eq_some_iff.1 hi
        obtain ⟨c, d⟩ := List.getElem?_eq_some_iff.1 hm
        exact (List.pairwise_iff_getElem.1 hnd) i j a c hij (by rw [b, d])
      · cases hi
    rw [decide_eq_true_eq, arr_mem hv, List.take_add_one, hm]
    exact ⟨hyr, mix_more hv.1 hl hv.2.2 (ord_clo hv.1 hv.2.2 hl j) hmm.1 hmm.2 hnot hyr.1 hyr.2 ha⟩
theorem Own1i.takeU {w : World} {A : Option Addr} {g : Nat} {xs : List Int} (h : Own1i w A g xs) (k : Nat) : Own1i w A g (xs.take k) := fun hp => by
  obtain ⟨e, cs, hh, hc⟩ := h (by simp at hp; omega)
  exact ⟨e, cs, hh, fun j x hx => hc j x (by rw [List.getElem?_take] at hx; split at hx; exact hx; cases hx)⟩
theorem vok_int {n x t : Int} {ls : List Lk} (hg : gvB n ls = true) (hx : 0 ≤ x ∧ x < (ls.length : Int)) (ht : 0 ≤ t ∧ t < n) : ∃ m k : Nat, n = (m : Int) ∧ x = (k : Int) ∧ Vok m ls k t :=
  ⟨n.toNat, x.toNat, by omega, by omega, by rw [show ((n.toNat : Nat) : Int) = n by omega]; exact hg, by omega, ht.1, by omega⟩
theorem arrall_int {n x t : Int} {ls : List Lk} (hg : gvB n ls = true) (hx : 0 ≤ x ∧ x < (ls.length : Int)) (ht : 0 ≤ t ∧ t < n) : arrA n ls x t (ordA n ls x t) = reachL n (ls.eraseIdx x.toNat) t := by
  obtain ⟨m, k, rfl, rfl, hv⟩ := vok_int hg hx ht
  rw [show ((k : Int)).toNat = k by omega]
  exact arrall_law hv
theorem arrsome_int {n x t : Int} {ls : List Lk} (ch : List Int) (hg : gvB n ls = true) (hx : 0 ≤ x ∧ x < (ls.length : Int)) (ht : 0 ≤ t ∧ t < n) : (∀ y ∈ safeA n ls t x, decide (y ∈ arrA n ls x t ch) = true) ∧ decide (t ∈ arrA n ls x t ch) = true := by
  obtain ⟨m, k, rfl, rfl, hv⟩ := vok_int hg hx ht
  exact arrsome_law hv
theorem loop_int {n x t : Int} {ls : List Lk} (ch : List Int) (hg : gvB n ls = true) (hx : 0 ≤ x ∧ x < (ls.length : Int)) (ht : 0 ≤ t ∧ t < n) : ∀ y : Int, 0 ≤ y → y < n → (mixA n ls x t ch y).any (fun z => decide (z ∈ loopA n ls x t ch)) = decide (y ∈ loopA n ls x t ch) := by
  obtain ⟨m, k, rfl, rfl, hv⟩ := vok_int hg hx ht
  exact fun y h0 h1 => loop_law hv h0 h1
/-- P113. -/
theorem far_law (nn : Int) (ls : List Lk) (x t : Int) (h : ordA nn ls x t ≠ []) : ∃ m tn : Nat, nn = (m : Int) ∧ t = (tn : Int) ∧ gvB (m : Int) ls = true ∧ tn < m ∧ (∀ a ∈ ordA nn ls x t, 0 ≤ a ∧ a < (m : Int)) ∧ ∀ (p : Nat) (a b : Int), (ordA nn ls x t)[p]? = some a → (ordA nn ls x t)[p + 1]? = some b → bf (m : Int) ls b (tn : Int) < bf (m : Int) ls a (tn : Int) ∨ (bf (m : Int) ls a (tn : Int) = bf (m : Int) ls b (tn : Int) ∧ a < b) := by
  cases hc : (vwB nn ls [0, t] && idxB ls x) with
  | false => exact absurd (ord_empty hc) h
  | true =>
    obtain ⟨n, k, rfl, rfl, hv⟩ := vok_of hc
    obtain ⟨tn, rfl⟩ : ∃ tn : Nat, t = (tn : Int) := ⟨t.toNat, by have := hv.2.2; omega⟩
    have hm := fun y (hy : y ∈ ordA (n : Int) ls (k : Int) (tn : Int)) => ((ord_mem hv.1 hv.2.2 hv.idx).1 hy).1
    refine ⟨n, tn, rfl, rfl, hv.1, by have := hv.2.2; omega, hm, fun p a b ha hb => ?_⟩
    obtain ⟨a1, a2⟩ := List.getElem?_eq_some_iff.1 ha
    obtain ⟨b1, b2⟩ := List.getElem?_eq_some_iff.1 hb
    have := (List.pairwise_iff_getElem.1 (ord_sort (n : Int) ls (k : Int) (tn : Int))) p (p + 1) a1 b1 (by omega)
    rw [a2, b2, show ((n : Int)).toNat = n by omega] at this
    have ra := hm a (List.mem_of_getElem? ha)
    have rb := hm b (List.mem_of_getElem? hb)
    have hf := (gvB_fit hv.1).1
    unfold OrdR at this
    rw [bf_symm hf hv.2.2 ra, bf_symm hf hv.2.2 rb] at this
    exact this
theorem mixA_old {n x t y : Int} {ls : List Lk} {ch : List Int} (hx : 0 ≤ x ∧ x < (ls.length : Int)) (hc : y ∉ ch) : mixA n ls x t ch y = (hopsL n ls y t).filter (fun z => !decide (linkI n ls y z = x)) := by
  have hi : idxB ls x = true := by unfold idxB; simp; omega
  unfold mixA
  cases hv : vwB n ls [y, t] with
  | false => unfold hopsL; rw [hv]; rfl
  | true => rw [hi, if_pos (by rfl)]; unfold mixH; rw [if_neg hc, show ((x.toNat : Nat) : Int) = x by omega]
theorem mixA_new {n x t y : Int} {ls : List Lk} {ch : List Int} (hg : gvB n ls = true) (hx : 0 ≤ x ∧ x < (ls.length : Int)) (hc : y ∈ ch) : mixA n ls x t ch y = hopsL n (ls.eraseIdx x.toNat) y t := by
  have hi : idxB ls x = true := by unfold idxB; simp; omega
  unfold mixA
  cases hv : vwB n ls [y, t] with
  | false =>
    cases h2 : vwB n (ls.eraseIdx x.toNat) [y, t] with
    | false => unfold hopsL; rw [h2]; rfl
    | true =>
      obtain ⟨-, a, b⟩ := vwB_two h2
      obtain ⟨m, rfl⟩ : ∃ m : Nat, n = (m : Int) := ⟨n.toNat, by omega⟩
      rw [vwB_of hg a b] at hv
      cases hv
  | true => rw [hi, if_pos (by rfl)]; unfold mixH; rw [if_pos hc]
theorem mixA_unused {n x t y : Int} {ls : List Lk} (ch : List Int) (hg : gvB n ls = true) (hx : 0 ≤ x ∧ x < (ls.length : Int)) (ht : 0 ≤ t ∧ t < n) (hy : 0 ≤ y ∧ y < n) (hu : usedB n ls y t x = false) : hopsL n (ls.eraseIdx x.toNat) y t = hopsL n ls y t ∧ mixA n ls x t ch y = hopsL n ls y t := by
  obtain ⟨m, k, rfl, rfl, hv⟩ := vok_int hg hx ht
  have hl := List.getElem?_eq_getElem hv.2.1
  rw [used_at (vwB_of hv.1 hy hv.2.2) hl] at hu
  refine ⟨?_, ?_⟩
  · rw [← mix_unused (ch := [y]) hv.1 hl hv.2.2 hy hu, mix_new (by simp), show ((k : Int)).toNat = k by omega]
  · rw [mixA_ok hv hy]
    exact mix_unused hv.1 hl hv.2.2 hy hu
end
end Go.Proofs.Ytkcnbgimdiggoab

/-
  What the exact laws of the order of updates ask of both sides.
-/
namespace Go.Proofs.Ytkcnbgimdiggoab
open Go.RowKit

theorem updateOrder_both (n : Int) (ls : List Lk) (x y : Int) (hm : ls.length ≤ 2000000) (hnu : n ≤ 9223372036854775807) :
    ∃ (rs : List Int), rs.length ≤ 1000 ∧
      (∀ (g c : Nat) (w : World), Sl w w.heap.size (some ⟨g, 0, none⟩) ls → Calls Try.prog 12 #[gval n (some ⟨g, 0, none⟩) ls.length c, .int .i64 x, .int .i64 y] w (NewI rs w)) ∧
      (∀ (g c : Nat) (w : World), Sl w w.heap.size (some ⟨g, 0, none⟩) ls → Calls Try.prog 13 #[gval n (some ⟨g, 0, none⟩) ls.length c, .int .i64 x, .int .i64 y] w (NewI rs w)) :=
  ⟨ordA n ls x y, by have := ordA_len8 n ls x y; omega, fun g c w hs => (updOrder_impl n _ ls c x y w hm hs).mono fun _ _ h => h.newI, fun g c w hs => updOrder_spec n _ ls c x y w hm hnu hs⟩
end Go.Proofs.Ytkcnbgimdiggoab
