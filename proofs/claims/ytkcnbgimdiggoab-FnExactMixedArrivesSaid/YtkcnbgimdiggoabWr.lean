/-
  A contract over this seat: the graph without a link, as the laws use it.
-/
import Derived.Test.YtkcnbgimdiggoabA7
import Derived.Test.YtkcnbgimdiggoabB7
import Derived.Test.YtkcnbgimdiggoabA8
namespace Go.Proofs.Ytkcnbgimdiggoab
open Go.RowKit

theorem keep_but' (ls : List Lk) (x : Nat) : ∀ k, keepTo (fun j _ => !decide ((j : Int) = (x : Int))) ls k = (ls.take k).eraseIdx x
  | 0 => by simp [keepTo]
  | k + 1 => by
    simp only [keepTo, keep_but' ls x k]
    rw [List.take_add_one]
    by_cases hk : k < ls.length
    · rw [List.getElem?_eq_getElem hk]
      have hlen : (ls.take k).length = k := by rw [List.length_take]; omega
      generalize ls.take k = zs at hlen ⊢
      generalize ls[k] = l
      rcases Nat.lt_trichotomy k x with h | h | h
      · have e : (!decide ((k : Int) = (x : Int))) = true := by simp; omega
        simp only [e, if_true, Option.toList_some]
        rw [List.eraseIdx_of_length_le (by omega), List.eraseIdx_of_length_le (by simp; omega)]
      · subst h
        simp only [decide_true, Bool.not_true, Bool.false_eq_true, if_false, Option.toList_some, List.append_nil]
        rw [List.eraseIdx_of_length_le (by omega), List.eraseIdx_append_of_length_le (by omega)]
        simp [hlen]
      · have e : (!decide ((k : Int) = (x : Int))) = true := by simp; omega
        simp only [e, if_true, Option.toList_some]
        rw [List.eraseIdx_append_of_lt_length (by omega)]
    · rw [List.getElem?_eq_none (by omega)]
      simp
theorem keep_erase (ls : List Lk) (x : Nat) : keepTo (fun j _ => !decide ((j : Int) = (x : Int))) ls ls.length = ls.eraseIdx x := by
  rw [keep_but', List.take_length]
theorem wo_res (n : Int) (g : Nat) (ls : List Lk) (c : Nat) (k : Nat) (w : World) (hm : ls.length ≤ 2000000) (hg : gvB n ls = true) (hk : k < ls.length) (hs : Sl w w.heap.size (some ⟨g, 0, none⟩) ls) :
    Calls Try.prog 21 #[gval n (some ⟨g, 0, none⟩) ls.length c, .int .i64 (k : Int)] w (GRes n (ls.eraseIdx k) true w) := by
  have h : withoutOk n ls (k : Int) = true := by unfold withoutOk inB; simp [hg]; omega
  have := without_impl n g ls c (k : Int) w hm hs
  rw [if_pos h, keep_erase] at this
  exact this
theorem LB.drewN2 {w w1 : World} {G : Nat} {n : Int} {ls : List Lk} {A' : Option Addr} {g' c' : Nat} (h : LB w G n ls A' g' c' w1) (q : Nat) : LB w G n ls A' g' c' (w1.drewN q) :=
  ⟨h.1, h.2.1, ⟨h.2.2.os, h.2.2.tape, h.2.2.output, h.2.2.size, h.2.2.block⟩⟩
theorem Own1i.drewN2 {w : World} {A : Option Addr} {g : Nat} {xs : List Int} (h : Own1i w A g xs) (q : Nat) : Own1i (w.drewN q) A g xs := h
end Go.Proofs.Ytkcnbgimdiggoab
