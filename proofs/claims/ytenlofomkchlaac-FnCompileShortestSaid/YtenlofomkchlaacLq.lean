/-
  Plain facts that the laws of compiled paths ask for.
-/
import Derived.Test.YtenlofomkchlaacD2
namespace Go.Proofs.Ytenlofomkchlaac
open Go.RowKit Go.Maps

theorem own_lab {w : World} {A : Option Addr} {g : Nat} {st : List Lb} (h : Ownb w A g st) {l : Lb} (h0 : st[0]? = some l) : A = some ⟨g, 0, none⟩ ∧ g < w.heap.size ∧ w.cell? ⟨g, 0, none⟩ = some (.int .i64 l.k) ∧ w.cell? ⟨g, 1, none⟩ = some (.int .i64 l.a) := by
  have hlt := (List.getElem?_eq_some_iff.1 h0).1
  obtain ⟨e, cs, hh, hc⟩ := h (by omega)
  obtain ⟨h1, h2⟩ := hc 0 l h0
  exact ⟨e, heap_lt hh, by rw [cell_of_row w g _ cs _ _ hh]; exact h1, by rw [cell_of_row w g _ cs _ _ hh]; exact h2⟩

section
variable {n : Nat} {ls : List Lk} {xs : List Int}
theorem PV.whole (h : PV n ls xs) {a b : Int} (ha : xs[0]? = some a) (hb : xs[xs.length - 1]? = some b) : okP (n : Int) ls xs 0 (xs.length - 1) = (decide (costP (n : Int) ls xs = bf (n : Int) ls a b) && decide (countI (n : Int) ls a b = 1)) := by
  have hp := h.pos
  have har := h.rng a (List.mem_of_getElem? ha)
  have hbr := h.rng b (List.mem_of_getElem? hb)
  have hs : subP xs 0 (xs.length - 1) = xs := by rw [subP_zero, show xs.length - 1 + 1 = xs.length by omega, List.take_length]
  have hc : countI (n : Int) ls a b = (cntL n ls a b : Nat) := by unfold countI; rw [if_pos (vwB_of h.gv har hbr), Int.toNat_natCast]
  unfold okP
  rw [hs, getD_at ha, getD_at hb, costP_PV h, bf_symm (gvB_fit h.gv).1 har hbr, hc, Int.toNat_natCast]
  congr 1
  rw [decide_eq_decide]
  omega
theorem PV.cmpI_len1 (h : PV n ls xs) : (cmpI (n : Int) ls xs).length ≤ xs.length - 1 := by rw [cmpI_PV h]; exact h.few xs.length
theorem PV.one (h : PV n ls xs) (h2 : 2 ≤ xs.length) {a b : Int} (ha : xs[0]? = some a) (hb : xs[xs.length - 1]? = some b) (hc : countI (n : Int) ls a b = 1) (hd : costP (n : Int) ls xs = bf (n : Int) ls a b) : cmpI (n : Int) ls xs = [⟨1, b⟩] := by
  have hw := h.whole ha hb
  rw [decide_eq_true hc, decide_eq_true hd] at hw
  rw [cmpI_PV h]
  unfold cmpA
  rw [cmpL_fuel xs.length (xs.length + 1) 0 (by omega) (by omega), h.only h2 hw, getD_at hb]
theorem PV.more (h : PV n ls xs) (h2 : 2 ≤ xs.length) {a b : Int} (ha : xs[0]? = some a) (hb : xs[xs.length - 1]? = some b) (hc : ¬ (countI (n : Int) ls a b = 1 ∧ costP (n : Int) ls xs = bf (n : Int) ls a b)) : 1 < (cmpI (n : Int) ls xs).length ∨ ∃ q, (cmpI (n : Int) ls xs)[0]? = some ⟨2, q⟩ := by
  have hw : okP (n : Int) ls xs 0 (xs.length - 1) = false := by
    rw [h.whole ha hb]
    apply Bool.eq_false_iff.2
    intro ht
    simp only [Bool.and_eq_true, decide_eq_true_eq] at ht
    exact hc ⟨ht.2, ht.1⟩
  rw [cmpI_PV h]
  exact PV.other h2 (by omega) hw
theorem PV.cut (h : PV n ls xs) {k : Nat} (hk : k < xs.length) : Go.Proofs.Ytenlofomkchlaac.pvB (n : Int) ls (xs.take (k + 1)) = true ∧ Go.Proofs.Ytenlofomkchlaac.pvB (n : Int) ls (xs.drop k) = true ∧
    (cmpI (n : Int) ls xs).length ≤ (cmpI (n : Int) ls (xs.take (k + 1))).length + (cmpI (n : Int) ls (xs.drop k)).length ∧ (cmpI (n : Int) ls (xs.take (k + 1))).length ≤ (cmpI (n : Int) ls xs).length ∧ (cmpI (n : Int) ls (xs.drop k)).length ≤ (cmpI (n : Int) ls xs).length := by
  refine ⟨(h.take k).pvB, (h.drop hk).pvB, ?_⟩
  rw [cmpI_PV h, cmpI_PV (h.take k), cmpI_PV (h.drop hk)]
  exact h.parts hk (by omega) (by simp; omega) (by simp; omega)
theorem PV.turn (h : PV n ls xs) : Go.Proofs.Ytenlofomkchlaac.pvB (n : Int) ls xs.reverse = true ∧ (cmpI (n : Int) ls xs.reverse).length = (cmpI (n : Int) ls xs).length := by
  refine ⟨h.back.pvB, ?_⟩
  rw [cmpI_PV h, cmpI_PV h.back]
  exact h.back_eq (by omega) (by simp)
end
/-- Labels without choice are no fewer than those of their path. -/
theorem uniq_least {n : Int} {ls : List Lk} {x : Int} {st : List Lb} (hu : uniqS n ls x st = true) (hv : pvB n ls (pathS n ls x st) = true) : (cmpI n ls (pathS n ls x st)).length ≤ st.length := by
  unfold uniqS at hu
  simp only [Bool.and_eq_true, Bool.not_eq_true'] at hu
  obtain ⟨hs, ha⟩ := hu
  obtain ⟨m, z, rfl, _, _, _, he, _⟩ := endI_inv hs
  obtain ⟨m', hm, hp⟩ := pvB_PV hv
  obtain rfl : m = m' := by omega
  rw [cmpI_PV hp]
  exact hp.least _ he ha (by unfold pathS; rw [if_pos hs])
/-- A shortest path needs a label only where it has a choice. -/
theorem short_one {n : Int} {ls : List Lk} {x y : Int} (h : pathI n ls x y ≠ []) : pvB n ls (pathI n ls x y) = true ∧ ((pathI n ls x y).length ≤ 9) ∧ (1 < countI n ls x y ∨ (countI n ls x y = 1 ∧ (((pathI n ls x y).length = 1 ∧ (cmpI n ls (pathI n ls x y)).length = 0) ∨ (2 ≤ (pathI n ls x y).length ∧ (cmpI n ls (pathI n ls x y)).length = 1)))) := by
  obtain ⟨m, rfl, hv, h0, hp⟩ := pathI_some h
  obtain ⟨hg, hx, hy⟩ := vwB_two hv
  have h8 := pathI_len (m : Int) ls x y
  have hpv := hp.pv hg hy (by omega)
  have hpos := hpv.pos
  refine ⟨hpv.pvB, by omega, ?_⟩
  have hc : countI (m : Int) ls x y = (cntL m ls x y : Nat) := by unfold countI; rw [if_pos hv, Int.toNat_natCast]
  have hc1 : 1 ≤ cntL m ls x y := (cntL_pos hg hy _ x hx (Nat.le_refl _)).2 h0
  by_cases h1 : 1 < countI (m : Int) ls x y
  · exact .inl h1
  · have h1' : countI (m : Int) ls x y = 1 := by omega
    refine .inr ⟨h1', ?_⟩
    by_cases hl : (pathI (m : Int) ls x y).length = 1
    · left
      have := hpv.cmpI_len1
      exact ⟨hl, by omega⟩
    · right
      refine ⟨by omega, ?_⟩
      rw [hpv.one (by omega) hp.head.1 hp.end h1' (by rw [costP_PV hpv, isP_along hg hy hp, bf_symm (gvB_fit hg).1 hx hy])]
      rfl

end Go.Proofs.Ytenlofomkchlaac
