/-
  The walk of FnLinkBoth over this seat.
-/
import Derived.Test.YtigamnnboojiiaaDrawU
import Derived.Test.YtigamnnboojiiaaLink
namespace Go.Proofs.Ytigamnnboojiiaa
open Go.RowKit

theorem linkI_swap (nn : Int) (ls : List Lk) (a b : Int) : linkI nn ls b a = linkI nn ls a b := by
  rw [← linkI_eq, ← linkI_eq, Int.min_comm, Int.max_comm]
theorem linkI_at {nn : Int} {ls : List Lk} {a b : Int} (h : 0 ≤ linkI nn ls a b) : ∃ (k : Nat) (l : Lk), linkI nn ls a b = k ∧ ls[k]? = some l ∧ l.a = min a b ∧ l.b = max a b := by
  rw [← linkI_eq] at h ⊢
  split at h
  · rename_i hv
    rw [if_pos hv]
    unfold l1I at h ⊢
    split at h
    · rename_i i hi
      rw [List.findIdx?_eq_some_iff_getElem] at hi
      obtain ⟨hlt, hp, _⟩ := hi
      exact ⟨i, ls[i], rfl, List.getElem?_eq_getElem hlt, by simpa using hp⟩
    · omega
  · omega

/-- The state of a law over a drawn graph: the graph's box, its links. -/
def LB (w : World) (G : Nat) (n : Int) (ls : List Lk) (A' : Option Addr) (g' c' : Nat) (wx : World) : Prop :=
  Box wx G 30 #[.int .i64 n, .slice A' ls.length c'] ∧ Own1 wx A' g' ls ∧ Below w.heap.size w wx
theorem LB.call {w w1 w2 : World} {G : Nat} {n : Int} {ls : List Lk} {A' : Option Addr} {g' c' : Nat} (h : LB w G n ls A' g' c' w1) (hb : Below w1.heap.size w1 w2) : LB w G n ls A' g' c' w2 :=
  ⟨h.1.below hb h.1.lt, h.2.1.below hb, h.2.2.trans (hb.mono h.2.2.size)⟩
theorem LB.alloc {w w1 : World} {G : Nat} {n : Int} {ls : List Lk} {A' : Option Addr} {g' c' : Nat} (h : LB w G n ls A' g' c' w1) (o : Obj) : LB w G n ls A' g' c' (w1.alloc o) :=
  ⟨h.1.alloc o, h.2.1.alloc o, h.2.2.alloc h.2.2.size o⟩
theorem LB.link {w w1 : World} {G : Nat} {n : Int} {ls : List Lk} {A' : Option Addr} {g' c' : Nat} (h : LB w G n ls A' g' c' w1) {k : Nat} {l : Lk} (hk : ls[k]? = some l) :
    A' = some ⟨g', 0, none⟩ ∧ w1.cell? ⟨g', k * 3, none⟩ = some (.int .i64 l.a) ∧ w1.cell? ⟨g', k * 3 + 1, none⟩ = some (.int .i64 l.b) ∧ w1.cell? ⟨g', k * 3 + 2, none⟩ = some (.int .i64 l.c) := by
  have hlt := (List.getElem?_eq_some_iff.1 hk).1
  obtain ⟨e, -⟩ := h.2.1 (by omega)
  subst e
  obtain ⟨b, off, e, -, h1, h2, h3⟩ := h.2.1.sl k l hk
  injection e with e
  injection e with e1 e2
  subst e1; subst e2
  rw [Nat.zero_add] at h1 h2 h3
  exact ⟨rfl, h1, h2, h3⟩

theorem LB.drew {w w1 : World} {G : Nat} {n : Int} {ls : List Lk} {A' : Option Addr} {g' c' : Nat} (h : LB w G n ls A' g' c' w1) : LB w G n ls A' g' c' w1.drew :=
  ⟨h.1, h.2.1, h.2.2.drew⟩
theorem Own1i.drew {w : World} {A : Option Addr} {g : Nat} {xs : List Int} (h : Own1i w A g xs) : Own1i w.drew A g xs := h


end Go.Proofs.Ytigamnnboojiiaa
