/-
  The walk of FnLinkBoth over this seat.
-/
import Derived.Test.YtbogpcnjniadfaaDrawU
import Derived.Test.YtbogpcnjniadfaaLink
namespace Go.Proofs.Ytbogpcnjniadfaa
open Go.RowKit

theorem linkI_swap (nn : Int) (ls : List Lk) (a b : Int) : linkI nn ls b a = linkI nn ls a b := by
  rw [← linkI_eq, ← linkI_eq, Int.min_comm, Int.max_comm]
theorem linkI_at {nn : Int} {ls : List Lk} {a b : Int} (h : 0 ≤ linkI nn ls a b) : ∃ (k : Nat) (l : Lk), linkI nn ls a b = k ∧ ls[k]? = some l ∧ l.a = min a b ∧ l.b = max a b := by
  rw [← linkI_eq] at h ⊢
  split at h
  · rename_i hv
    rw [if_pos hv]
    unfold l1I at h ⊢
    split at h
    · rename_i i hi
      rw [List.findIdx?_eq_some_iff_getElem] at hi
      obtain ⟨hlt, hp, _⟩ := hi
      exact ⟨i, ls[i], rfl, List.getElem?_eq_getElem hlt, by simpa using hp⟩
    · omega
  · omega

/-- The state of a law over a drawn graph: the graph's box, its links. -/
def LB (w : World) (G : Nat) (n : Int) (ls : List Lk) (A' : Option Addr) (g' c' : Nat) (wx : World) : Prop :=
  Box wx G 29 #[.int .i64 n, .slice A' ls.length c'] ∧ Own1 wx A' g' ls ∧ Below w.heap.size w wx
theorem LB.call {w w1 w2 : World} {G : Nat} {n : Int} {ls : List Lk} {A' : Option Addr} {g' c' : Nat} (h : LB w G n ls A' g' c' w1) (hb : Below w1.heap.size w1 w2) : LB w G n ls A' g' c' w2 :=
  ⟨h.1.below hb h.1.lt, h.2.1.below hb, h.2.2.trans (hb.mono h.2.2.size)⟩
theorem LB.alloc {w w1 : World} {G : Nat} {n : Int} {ls : List Lk} {A' : Option Addr} {g' c' : Nat} (h : LB w G n ls A' g' c' w1) (o : Obj) : LB w G n ls A' g' c' (w1.alloc o) :=
  ⟨h.1.alloc o, h.2.1.alloc o, h.2.2.alloc h.2.2.size o⟩
theorem LB.link {w w1 : World} {G : Nat} {n : Int} {ls : List Lk} {A' : Option Addr} {g' c' : Nat} (h : LB w G n ls A' g' c' w1) {k : Nat} {l : Lk} (hk : ls[k]? = some l) :
    A' = some ⟨g', 0, none⟩ ∧ w1.cell? ⟨g', k * 3, none⟩ = some (.int .i64 l.a) ∧ w1.cell? ⟨g', k * 3 + 1, none⟩ = some (.int .i64 l.b) ∧ w1.cell? ⟨g', k * 3 + 2, none⟩ = some (.int .i64 l.c) := by
  have hlt := (List.getElem?_eq_some_iff.1 hk).1
  obtain ⟨e, -⟩ := h.2.1 (by omega)
  subst e
  obtain ⟨b, off, e, -, h1, h2, h3⟩ := h.2.1.sl k l hk
  injection e with e
  injection e with e1 e2
  subst e1; subst e2
  rw [Nat.zero_add] at h1 h2 h3
  exact ⟨rfl, h1, h2, h3⟩

set_option maxRecDepth 100000 in
set_option maxHeartbeats 800000 in
theorem linkBoth_walk (A : Option Addr) (len c : Nat) (f : Nat → Int) (w : World) (hlc : len ≤ c) (hc : c ≤ maxLen) (hB : Byt w w.heap.size A len f) :
   Calls Try.prog 10 #[.slice A len c] w fun e w' => e = .returned (.bool true) ∧ Below w.heap.size w w' := by
  have HB := Lib.hid hB
  clear hB
  by_cases hl : len ≤ 1048576
  · go_enter Try.func10, Try.ntmps10
    go_wp2_with fail
    refine (drawLink_any A len c f w hlc hc HB.out).mono ?_
    rintro e w1 ⟨n, ls, A1, g1, c1, x, y, rfl, ⟨hn0, hn1, hls, hg1, ho1, hb1⟩, hx0, hx1, hy0, hy1⟩
    have L1 := Lib.hid (show LB w w1.heap.size n ls A1 g1 c1 (w1.alloc (.cells #[.int .i64 n, .slice A1 ls.length c1] 29)) from ⟨Box.new w1 _ _, ho1.alloc _, hb1.alloc hb1.size _⟩)
    clear ho1 hb1 HB
    generalize hG : w1.heap.size = G at *
    go_wp2_with fail
    refine (link_impl n A1 ls c1 x y _ (by omega) L1.out.2.1.sl).mono ?_
    rintro e w2 ⟨rfl, hb2⟩
    have L2 := Lib.hid (L1.out.call hb2)
    clear hb2 L1 hG
    obtain ⟨z2, c20, c21, -, -⟩ := L2.out.1.two
    go_wp2_with fail
    have CS := link_spec n A1 ls c1 x y w2 (by omega) (by omega) L2.out.2.1.sl
    rw [linkI_eq] at CS
    refine CS.mono ?_
    rintro e w3 ⟨rfl, hb3⟩
    have L3 := Lib.hid (L2.out.call hb3)
    clear hb3 L2 z2 c20 c21
    obtain ⟨z3, c30, c31, -, -⟩ := L3.out.1.two
    have hsw := Lib.hid (linkI_swap n ls x y)
    have hat : 0 ≤ linkI n ls x y → _ := linkI_at
    generalize linkI n ls x y = o at hsw hat ⊢
    by_cases ho : 0 ≤ o
    · obtain ⟨k, l, rfl, hk, ha, hb⟩ := hat ho
      clear ho hat
      go_wp2_with fail
      have CI := link_impl n A1 ls c1 y x w3 (by omega) L3.out.2.1.sl
      rw [hsw.out] at CI
      refine CI.mono ?_
      rintro e w4 ⟨rfl, hb4⟩
      have L4 := Lib.hid (L3.out.call hb4)
      clear hb4 CI L3 z3 c30 c31
      obtain ⟨z4, c40, c41, -, -⟩ := L4.out.1.two
      obtain ⟨eA, d0, d1, d2⟩ := L4.out.link hk
      subst eA
      have hlt := (List.getElem?_eq_some_iff.1 hk).1
      rw [ha] at d0
      rw [hb] at d1
      go_wp2_with fail
      all_goals
        go_ret
        exact ⟨ret_bool (by simp; omega), L4.out.2.2⟩
    · clear hat
      go_wp2_with fail
      have CI := link_impl n A1 ls c1 y x w3 (by omega) L3.out.2.1.sl
      rw [hsw.out] at CI
      refine CI.mono ?_
      rintro e w4 ⟨rfl, hb4⟩
      have L4 := Lib.hid (L3.out.call hb4)
      clear hb4 CI L3 z3 c30 c31
      go_wp2_with fail
      go_ret
      exact ⟨ret_bool (by simp), L4.out.2.2⟩
  · go_enter Try.func10, Try.ntmps10
    go_wp2
    go_ret
    exact ⟨rfl, by (repeat (first | exact Below.refl _ _ | (refine Below.alloc ?_ (by first | exact Nat.le_refl _ | omega | (simp; done) | (simp; omega)) _) | (refine Below.setCell ?_ (by first | exact Nat.le_refl _ | omega | (simp; done) | (simp; omega)) _) | exact Below.drew ‹_›))⟩
end Go.Proofs.Ytbogpcnjniadfaa
