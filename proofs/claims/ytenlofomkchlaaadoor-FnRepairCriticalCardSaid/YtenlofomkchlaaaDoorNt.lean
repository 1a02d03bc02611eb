/-
  Plain facts: labels that do not cross a link lead the same way without it.
-/
import Derived.Test.YtenlofomkchlaaaDoorC5
import Derived.Test.YtenlofomkchlaaaDoorC6
namespace Go.Proofs.YtenlofomkchlaaaDoor

/-- A label after link k has gone. -/
def dn (k : Nat) (l : Lb) : Lb := ⟨l.k, if l.k = 2 ∧ (k : Int) < l.a then l.a - 1 else l.a⟩
section
variable {n : Nat} {ls : List Lk} {k : Nat} {l : Lk}
theorem er_isP (hv : gvB (n : Int) ls = true) (h : ls[k]? = some l) {t : Int} (ht : 0 ≤ t ∧ t < (n : Int)) {s : Int} {p : List Int} (hp : IsP n ls t s p) (hnu : usedL (n : Int) ls s t l = false) : IsP n (ls.eraseIdx k) t s p := by
  induction hp with
  | last => exact .last
  | @step s y zs p hst hh hs h0 hp ih =>
    have hm : y ∈ hopsL (n : Int) ls s t := by rw [hh]; simp
    refine .step (zs := zs) hst ?_ hs ?_ (ih (er_hop hv h ht hs hnu hm).2)
    · rw [er_hops hv h ht hs hnu]; exact hh
    · rw [er_bf hv h ht hs hnu]; exact h0
/-- One label that does not cross the link. -/
theorem er_leg (hv : gvB (n : Int) ls = true) (h : ls[k]? = some l) {s : Int} (hs : 0 ≤ s ∧ s < (n : Int)) {b : Lb} {z : Int} (hz : stepO (n : Int) ls s b = some z) (hx : legX (n : Int) ls (k : Int) (b, legP (n : Int) ls s b) = false) :
    legP (n : Int) (ls.eraseIdx k) s (dn k b) = legP (n : Int) ls s b ∧ legC (n : Int) (ls.eraseIdx k) s z (dn k b) = legC (n : Int) ls s z b := by
  have hne := stepO_leg hz
  have hv' := er_gv hv k
  obtain ⟨z', e1, hzr, _, _, _, _, h7⟩ := leg_fact hv hs hne
  rw [e1] at hz; cases hz
  have hhd : (legP (n : Int) ls s b).headD 0 = s := by
    rw [leg_cons hv hs hne]; rfl
  rcases leg_kind hne with hk | hk
  · obtain ⟨rfl, h0, hp⟩ := h7 hk
    have hd : dn k b = b := by
      obtain ⟨bk, ba⟩ := b
      simp only [dn] at hk ⊢
      subst hk
      simp
    rw [hd]
    unfold legX at hx
    dsimp only at hx
    rw [if_pos hk, hhd, used_at (vwB_of hv hs hzr) h] at hx
    have hp' := er_isP hv h hzr hp hx
    have hd0 := hp'.dist hv' hzr
    constructor
    · have e : legP (n : Int) (ls.eraseIdx k) s b = pathI (n : Int) (ls.eraseIdx k) s b.a := by unfold legP; rw [if_pos hk]
      rw [e]
      have h2 : IsP n (ls.eraseIdx k) b.a s (pathI (n : Int) (ls.eraseIdx k) s b.a) := by
        unfold pathI
        rw [Int.toNat_natCast]
        exact pathL_isP hv' hzr _ s hs hd0 (Nat.le_refl _)
      exact h2.uniq hp'
    · unfold legC
      rw [if_neg (by omega), if_neg (by omega)]
      rw [bf_symm (gvB_fit hv').1 hs hzr, bf_symm (gvB_fit hv).1 hs hzr]
      exact er_bf hv h hzr hs hx
  · obtain ⟨j, x, hj, hjx, ht, e⟩ := leg_link hk hne
    unfold legX at hx
    dsimp only at hx
    rw [if_neg (by omega)] at hx
    have hjk : j ≠ k := by
      intro e
      rw [hj, e] at hx
      simp at hx
    obtain ⟨i, hi, hix⟩ : ∃ i : Nat, (dn k b).a = (i : Int) ∧ (ls.eraseIdx k)[i]? = some x := by
      by_cases hlt : k < j
      · refine ⟨j - 1, ?_, ?_⟩
        · unfold dn
          dsimp only
          rw [if_pos ⟨hk, by omega⟩]; omega
        · rw [List.getElem?_eraseIdx, if_neg (by omega), Nat.sub_add_cancel (by omega)]; exact hjx
      · refine ⟨j, ?_, ?_⟩
        · unfold dn
          dsimp only
          rw [if_neg (by omega)]; omega
        · rw [List.getElem?_eraseIdx, if_pos (by omega)]; exact hjx
    have hdk : (dn k b).k = 2 := hk
    constructor
    · rw [e]
      unfold legP
      rw [if_neg (by omega), if_pos hdk, hi, if_pos (by omega), Int.toNat_natCast, hix]
      dsimp only
      rw [if_pos ht]
    · unfold legC
      rw [if_pos hdk, if_pos hk, hi, hj, Int.toNat_natCast, Int.toNat_natCast, costAt_at hix, costAt_at hjx]
theorem er_stack (hv : gvB (n : Int) ls = true) (h : ls[k]? = some l) : ∀ {st : List Lb} {s z : Int}, 0 ≤ s ∧ s < (n : Int) → endO (n : Int) ls s st = some z → (legsO (n : Int) ls s st).any (legX (n : Int) ls (k : Int)) = false →
    endO (n : Int) (ls.eraseIdx k) s (st.map (dn k)) = some z ∧ pthO (n : Int) (ls.eraseIdx k) s (st.map (dn k)) = pthO (n : Int) ls s st ∧ legsC (n : Int) (ls.eraseIdx k) s (st.map (dn k)) = legsC (n : Int) ls s st := by
  intro st
  induction st with
  | nil => intro s z _ he _; exact ⟨he, rfl, rfl⟩
  | cons b st ih =>
    intro s z hs he hx
    cases hu : stepO (n : Int) ls s b with
    | none => simp only [endO, hu] at he; cases he
    | some u =>
      simp only [endO, hu] at he
      simp only [legsO, hu, List.any_cons, Bool.or_eq_false_iff] at hx
      obtain ⟨e1, e2⟩ := er_leg hv h hs hu hx.1
      have hu' : stepO (n : Int) (ls.eraseIdx k) s (dn k b) = some u := by
        unfold stepO at hu ⊢
        rw [e1]; exact hu
      obtain ⟨i1, i2, i3⟩ := ih (stepO_node hv hs hu) he hx.2
      simp only [List.map_cons, endO, pthO, legsC, hu, hu', e1, e2, i1, i2, i3]
      exact ⟨trivial, trivial, trivial⟩
end
/-- A link that is not crossed is not needed. -/
theorem not_needed {n : Int} {ls : List Lk} {x : Int} {st : List Lb} {k : Nat} {l : Lk} (h : ls[k]? = some l) (hs : (endI n ls x st).isSome = true) (hx : crossS n ls x st (k : Int) = false) :
    pathS n (ls.eraseIdx k) x (st.map (dn k)) = pathS n ls x st ∧ costS n (ls.eraseIdx k) x (st.map (dn k)) = costS n ls x st := by
  obtain ⟨m, z, rfl, hg, hxr, h8, he, hi⟩ := endI_inv hs
  unfold crossS at hx
  rw [hs, Bool.true_and] at hx
  obtain ⟨i1, i2, i3⟩ := er_stack hg h hxr he hx
  have hg' := er_gv hg k
  have hi' : endI (m : Int) (ls.eraseIdx k) x (st.map (dn k)) = some z := by
    have hb : stB (m : Int) (ls.eraseIdx k) x (st.map (dn k)) = true := by
      unfold endI at hi
      split at hi
      · rename_i hb
        unfold stB at hb ⊢
        rw [Bool.and_eq_true] at hb ⊢
        exact ⟨vwB_one hg' hxr, by simp; omega⟩
      · cases hi
    unfold endI
    rw [if_pos hb]; exact i1
  have hs' : (endI (m : Int) (ls.eraseIdx k) x (st.map (dn k))).isSome = true := by rw [hi']; rfl
  constructor
  · unfold pathS
    rw [if_pos hs, if_pos hs', i2]
  · rw [costS_legs hs, costS_legs hs']
    unfold cstK
    rw [List.take_length, List.take_length]
    exact i3
