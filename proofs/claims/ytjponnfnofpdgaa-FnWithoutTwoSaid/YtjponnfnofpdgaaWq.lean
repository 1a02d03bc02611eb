/-
  Plain facts: two links removed, in either order; worlds behind a draw.
-/
import Derived.Test.YtjponnfnofpdgaaWp
import Derived.Test.YtjponnfnofpdgaaWs
namespace Go.Proofs.Ytjponnfnofpdgaa

open Go Go.RowKit in
theorem below_dl {B : Nat} {a b : World} (h : Below B a b) : Below B a.drew b := ⟨h.os, h.tape, h.output, h.size, h.block⟩
theorem er_filter {n : Int} {ls : List Lk} (hv : gvB n ls = true) {k : Nat} {l : Lk} (h : ls[k]? = some l) : ls.eraseIdx k = ls.filter (fun m => !eqLinkB m l) := by
  have hk := (List.getElem?_eq_some_iff.1 h).1
  have hkl : ls[k] = l := (List.getElem?_eq_some_iff.1 h).2
  have hd : ls.drop k = l :: ls.drop (k + 1) := by rw [List.drop_eq_getElem_cons hk, hkl]
  have hs : ls = ls.take k ++ l :: ls.drop (k + 1) := by rw [← hd, List.take_append_drop]
  have h1 : (ls.take k).filter (fun m => !eqLinkB m l) = ls.take k := List.filter_eq_self.2 fun m hm => by
    obtain ⟨j, hj⟩ := List.getElem?_of_mem hm
    rw [List.getElem?_take] at hj
    split at hj
    · rename_i hlt
      have := gvB_lex hv hj k l hlt h
      cases he : eqLinkB m l with
      | false => rfl
      | true =>
        rw [eqLinkB_iff] at he
        subst he
        omega
    · cases hj
  have h2 : (ls.drop (k + 1)).filter (fun m => !eqLinkB m l) = ls.drop (k + 1) := List.filter_eq_self.2 fun m hm => by
    obtain ⟨j, hj⟩ := List.getElem?_of_mem hm
    rw [List.getElem?_drop] at hj
    have := gvB_lex hv h (k + 1 + j) m (by omega) hj
    cases he : eqLinkB m l with
    | false => rfl
    | true =>
      rw [eqLinkB_iff] at he
      subst he
      omega
  have h3 : eqLinkB l l = true := (eqLinkB_iff l l).2 rfl
  rw [List.eraseIdx_eq_take_drop_succ]
  conv => rhs; rw [hs]
  rw [List.filter_append, h1, List.filter_cons, h3, h2]
  rfl
theorem er_two {n : Int} {ls : List Lk} (hv : gvB n ls = true) {k q : Nat} {lk lq : Lk} (hk : ls[k]? = some lk) (hq : ls[q]? = some lq) (hne : q ≠ k) :
    ∃ j1 j2 : Nat, linkI n (ls.eraseIdx k) lq.a lq.b = (j1 : Int) ∧ linkI n (ls.eraseIdx q) lk.a lk.b = (j2 : Int) ∧ j1 < (ls.eraseIdx k).length ∧ j2 < (ls.eraseIdx q).length ∧ (ls.eraseIdx k).eraseIdx j1 = (ls.eraseIdx q).eraseIdx j2 := by
  obtain ⟨j1, e1, h1⟩ := er_left hv (List.getElem?_eq_some_iff.1 hk).1 hq hne
  obtain ⟨j2, e2, h2⟩ := er_left hv (List.getElem?_eq_some_iff.1 hq).1 hk (Ne.symm hne)
  refine ⟨j1, j2, e1, e2, (List.getElem?_eq_some_iff.1 h1).1, (List.getElem?_eq_some_iff.1 h2).1, ?_⟩
  rw [er_filter (er_gv hv k) h1, er_filter (er_gv hv q) h2, er_filter hv hk, er_filter hv hq, List.filter_filter, List.filter_filter]
  refine List.filter_congr fun m _ => Bool.and_comm _ _
end Go.Proofs.Ytjponnfnofpdgaa
