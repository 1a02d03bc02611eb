/-
  Plain facts: the links of a graph without one of them.
-/
import Derived.Test.YtjponnfnofpdgaaCq
import Derived.Test.YtjponnfnofpdgaaA8
namespace Go.Proofs.Ytjponnfnofpdgaa

theorem er_gone {n : Int} {ls : List Lk} (hv : gvB n ls = true) {k : Nat} {l : Lk} (h : ls[k]? = some l) : linkI n (ls.eraseIdx k) l.a l.b < 0 := by
  apply Classical.byContradiction
  intro hn
  have hgl := gvB_at hv h
  obtain ⟨j, l', _, hl', ha, hb⟩ := linkI_at (show 0 ≤ linkI n (ls.eraseIdx k) l.a l.b by omega)
  have hadj : Adj (ls.eraseIdx k) l'.a l'.b l'.c := ⟨l', List.mem_of_getElem? hl', .inl ⟨rfl, rfl⟩, rfl⟩
  rw [ha, hb, Int.min_eq_left (by omega), Int.max_eq_right (by omega)] at hadj
  exact ((er_adj hv h).1 hadj).2 (.inl ⟨rfl, rfl⟩)
theorem er_left {n : Int} {ls : List Lk} (hv : gvB n ls = true) {k i : Nat} {l : Lk} (hk : k < ls.length) (h : ls[i]? = some l) (hik : i ≠ k) : ∃ j : Nat, linkI n (ls.eraseIdx k) l.a l.b = (j : Int) ∧ (ls.eraseIdx k)[j]? = some l := by
  have hgl := gvB_at hv h
  obtain ⟨lk, hlk⟩ : ∃ lk, ls[k]? = some lk := ⟨_, List.getElem?_eq_getElem hk⟩
  have hgk := gvB_at hv hlk
  have hv' := er_gv hv k
  have hne : ¬ endsB lk l.a l.b := fun he => by
    unfold endsB at he
    rcases Nat.lt_or_gt_of_ne hik with hlt | hlt
    · have := gvB_lex hv h k lk hlt hlk
      omega
    · have := gvB_lex hv hlk i l hlt h
      omega
  have hadj : Adj (ls.eraseIdx k) l.a l.b l.c := (er_adj hv hlk).2 ⟨⟨l, List.mem_of_getElem? h, .inl ⟨rfl, rfl⟩, rfl⟩, hne⟩
  obtain ⟨j, l', hj, hl', had', ha', hb'⟩ := nbI_link hv' ((nbI_adj hv').2 ⟨l.c, hadj⟩)
  refine ⟨j, hj, ?_⟩
  rw [hl']
  have e3 := adj_uniq hv' had' hadj
  rw [Int.min_eq_left (by omega)] at ha'
  rw [Int.max_eq_right (by omega)] at hb'
  obtain ⟨a, b, c⟩ := l
  obtain ⟨a', b', c'⟩ := l'
  dsimp only at *
  subst ha'; subst hb'; subst e3
  rfl
theorem withoutOk_inv {n : Int} {ls : List Lk} {x : Int} (h : withoutOk n ls x = true) : gvB n ls = true ∧ 0 ≤ x ∧ x < (ls.length : Int) := by
  unfold withoutOk inB at h
  simp only [Bool.and_eq_true, decide_eq_true_eq] at h
  exact ⟨h.1, by omega⟩
end Go.Proofs.Ytjponnfnofpdgaa
