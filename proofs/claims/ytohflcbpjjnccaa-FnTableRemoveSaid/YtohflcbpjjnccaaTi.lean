/-
  Contracts over this seat: TableTurn of the specification.
-/
import Derived.Test.YtohflcbpjjnccaaTh
namespace Go.Proofs.Ytohflcbpjjnccaa
open Go.RowKit Go.Maps

/-- Routes of the call's own, or none. -/
def OwT (w : World) (A : Option Addr) (g : Nat) (ls : List Lk) : Prop := 0 < ls.length → A = some ⟨g, 0, none⟩ ∧ Arrt w g ls
theorem OwT.below {w w' : World} {A : Option Addr} {g : Nat} {ls : List Lk} (h : OwT w A g ls) (hb : Below w.heap.size w w') : OwT w' A g ls := fun hp => by
  obtain ⟨e, ha⟩ := h hp
  exact ⟨e, ha.below hb ha.lt⟩
theorem OwT.sl {w : World} {A : Option Addr} {g : Nat} {ls : List Lk} (h : OwT w A g ls) : Sl w w.heap.size A ls := fun k l hl => by
  obtain ⟨rfl, ha⟩ := h (by have := (List.getElem?_eq_some_iff.1 hl).1; omega)
  exact ha.sl ha.lt k l hl
theorem OwT.alloc {w : World} {A : Option Addr} {g : Nat} {ls : List Lk} (h : OwT w A g ls) (o : Obj) : OwT (w.alloc o) A g ls := h.below ((Below.refl _ _).alloc (Nat.le_refl _) o)
/-- A table in memory of the call's own, or one without routes and hops. -/
def NewTU (rs : List Lk) (hs : List Int) (w : World) (v : Value) (w' : World) : Prop :=
  ∃ A c g B d g', v = tbV A rs.length c B hs.length d ∧ w.heap.size ≤ g ∧ w.heap.size ≤ g' ∧ OwT w' A g rs ∧ Own1i w' B g' hs ∧ Below w.heap.size w w' ∧ rs.length ≤ c ∧ hs.length ≤ d
def TrnRes (rs : List Lk) (hs : List Int) (h node : Int) (w : World) (e : Ending) (w' : World) : Prop :=
  ∃ v, e = .returned (.tuple #[v, .int .i64 (trnN rs hs h node)]) ∧ NewTU (trnR rs hs h node) (trnH rs hs h node) w v w'
theorem trn_no {rs : List Lk} {hs : List Int} {h node : Int} (hb : trnB rs hs h node = false) : trnR rs hs h node = [] ∧ trnH rs hs h node = [] ∧ trnN rs hs h node = -1 := by
  unfold trnR trnH trnN
  rw [hb]
  exact ⟨rfl, rfl, rfl⟩
theorem Arri.setL {W : World} {g : Nat} {xs : List Int} (h : Arri W g xs) {i : Nat} (x : Int) (hi : i < xs.length) : Arri (W.setCell ⟨g, i, none⟩ (.int .i64 x)) g (xs.set i x) := by
  obtain ⟨cs, hh, hc⟩ := h
  refine ⟨_, heap_set hh i _, fun k y hk => ?_⟩
  have hsz := (Array.getElem?_eq_some_iff.1 (hc i _ (List.getElem?_eq_getElem hi))).1
  rw [Array.getElem?_setIfInBounds]
  rw [List.getElem?_set] at hk
  by_cases hki : i = k
  · subst hki
    rw [if_pos rfl, if_pos hi] at hk
    cases hk
    rw [if_pos rfl, if_pos hsz]
  · rw [if_neg hki] at hk
    rw [if_neg hki]
    exact hc k y hk
theorem Box.setFar {w : World} {b t : Nat} {cs : Array Value} (h : Box w b t cs) {p : Addr} (hne : b ≠ p.block) (u : Value) : Box (w.setCell p u) b t cs := (Below.heap_setCell w p u b hne).trans h
theorem cntR_next {rs : List Lk} {k : Nat} {x : Lk} (hx : rs[k]? = some x) (h : Int) : cntR (rs.take (k + 1)) h = cntR (rs.take k) h + (if x.c = h then 1 else 0) := by
  unfold cntR
  rw [List.take_add_one, hx, List.filter_append, List.length_append]
  by_cases e : x.c = h <;> simp [e]
theorem cntR_le (rs : List Lk) (h : Int) : cntR rs h ≤ rs.length := List.length_filter_le _ _


end Go.Proofs.Ytohflcbpjjnccaa
