/-
  Contracts over this seat: a table that a call answers: marked, and found marked.
-/
import Derived.Test.YtohflcbpjjnccabTy
import Derived.Test.YtohflcbpjjnccabTi
import Derived.Test.YtohflcbpjjnccabTk
namespace Go.Proofs.Ytohflcbpjjnccab
open Go.RowKit Go.Maps

/-- A table in blocks of its own, or one without routes and hops; X: these blocks. -/
def TabM (w : World) (A B : Option Addr) (rs : List Lk) (hs : List Int) (X : Nat → Prop) : Prop :=
  (∃ g g', A = some ⟨g, 0, none⟩ ∧ B = some ⟨g', 0, none⟩ ∧ Arrt w g rs ∧ Arri w g' hs ∧ ∀ b, X b ↔ b = g ∨ b = g') ∨ (rs = [] ∧ hs = [] ∧ ∀ b, ¬ X b)
/-- A table that is marked. -/
def TabK (w : World) (A B : Option Addr) (n m : Nat) (k : Int) : Prop := ∃ g g', Own1t w A g (marks k n) ∧ Own1i w B g' (markis (k + 3 * n) m)
/-- What a call answers: a table of its own. -/
def ImpT (rs : List Lk) (hs : List Int) (w : World) (v : Value) (w' : World) : Prop :=
  ∃ A c B d X, v = tbV A rs.length c B hs.length d ∧ TabM w' A B rs hs X ∧ (∀ b, X b → w.heap.size ≤ b) ∧ Below w.heap.size w w'
section
variable {w w' : World} {A B : Option Addr} {rs : List Lk} {hs : List Int} {X : Nat → Prop} {n m : Nat} {k : Int}
theorem TabM.sl (h : TabM w A B rs hs X) : Sl w w.heap.size A rs := by
  rcases h with ⟨g, g', rfl, rfl, h1, h2, _⟩ | ⟨rfl, rfl, _⟩
  · exact h1.sl h1.lt
  · intro k l hl
    simp at hl
theorem TabM.sli (h : TabM w A B rs hs X) : Sli w w.heap.size B hs := by
  rcases h with ⟨g, g', rfl, rfl, h1, h2, _⟩ | ⟨rfl, rfl, _⟩
  · exact h2.sli h2.lt
  · intro k l hl
    simp at hl
theorem TabM.lt (h : TabM w A B rs hs X) {b : Nat} (hb : X b) : b < w.heap.size := by
  rcases h with ⟨g, g', rfl, rfl, h1, h2, hx⟩ | ⟨rfl, rfl, hx⟩
  · rcases (hx b).1 hb with rfl | rfl
    · exact h1.lt
    · exact h2.lt
  · exact absurd hb (hx b)
theorem TabM.kept (h : TabM w A B rs hs X) (hk : ∀ b, X b → w'.heap[b]? = w.heap[b]?) : TabM w' A B rs hs X := by
  rcases h with ⟨g, g', rfl, rfl, h1, h2, hx⟩ | h
  · exact .inl ⟨g, g', rfl, rfl, h1.block (hk g ((hx g).2 (.inl rfl))), h2.block (hk g' ((hx g').2 (.inr rfl))), hx⟩
  · exact .inr h
theorem TabM.below (h : TabM w A B rs hs X) (hb : Below w.heap.size w w') : TabM w' A B rs hs X := h.kept fun b hx => hb.block b (h.lt hx)
theorem TabK.below (h : TabK w A B n m k) (hb : Below w.heap.size w w') : TabK w' A B n m k := by
  obtain ⟨g, g', h1, h2⟩ := h
  exact ⟨g, g', h1.below hb, h2.below hb⟩
theorem tabM_of {g g' : Nat} (h1 : Arrt w g rs) (h2 : Arri w g' hs) : TabM w (some ⟨g, 0, none⟩) (some ⟨g', 0, none⟩) rs hs (fun b => b = g ∨ b = g') := .inl ⟨g, g', rfl, rfl, h1, h2, fun _ => Iff.rfl⟩
theorem below_free {g : Nat} (hg : w.grownBy w' (some g)) (h : w.heap.size ≤ g) : Below w.heap.size w w' := ⟨hg.os, hg.tape, hg.output, hg.size, fun k hk => hg.block k hk (fun e => by have := Option.some.inj e; omega)⟩
end

set_option maxHeartbeats 400000 in
theorem markNone_any (A B : Option Addr) (c d : Nat) (k : Int) (w : World) (hk0 : 0 ≤ k) (hk1 : k ≤ 1000000) :
   Calls Try.prog 20 #[tbV A 0 c B 0 d, .int .i64 k] w fun e w' => e = .returned (.int .i64 k) ∧ Below w.heap.size w w' := by
  have B0 : Below w.heap.size w (w.alloc (.cells #[.slice A 0 c, .slice B 0 d] 30)) := by (repeat (first | exact Below.refl _ _ | (refine Below.alloc ?_ (by first | exact Nat.le_refl _ | omega | (simp; done) | (simp; omega)) _) | (refine Below.setCell ?_ (by first | exact Nat.le_refl _ | omega | (simp; done) | (simp; omega)) _) | exact Below.drew ‹_›))
  have I0 := Box.new w 30 #[.slice A 0 c, .slice B 0 d]
  have C1 : ∀ W : World, Calls Try.prog 52 #[.slice A 0 c, .int .i64 k] W fun e w' => e = .returned (.int .i64 k) ∧ Below W.heap.size W w' := fun W => by
    refine (markRouteS_any A W.heap.size [] c k W (by simp) hk0 (by omega) (fun hp => by simp at hp)).mono ?_
    rintro e w1 ⟨rfl, _, hg⟩
    exact ⟨by simp, below_free hg (Nat.le_refl _)⟩
  have C2 : ∀ W : World, Calls Try.prog 53 #[.slice B 0 d, .int .i64 k] W fun e w' => e = .returned (.int .i64 k) ∧ Below W.heap.size W w' := fun W => by
    refine (markIntS_any B W.heap.size [] d k W (by simp) hk0 (by omega) (fun hp => by simp at hp)).mono ?_
    rintro e w1 ⟨rfl, _, hg⟩
    exact ⟨by simp, below_free hg (Nat.le_refl _)⟩
  have HB := Lib.hid B0
  have HI := Lib.hid I0
  clear B0 I0
  go_enter Try.func20, Try.ntmps20
  go_wp2_with fail
  refine (C1 _).mono ?_
  clear C1
  rintro e w1 ⟨rfl, hb1⟩
  have B1 := Lib.hid (HB.out.trans (hb1.mono HB.out.size))
  have I1 := Lib.hid (HI.out.below hb1 HI.out.lt)
  obtain ⟨zi, i0, i1, -, -⟩ := I1.out.two
  clear hb1 HB HI
  go_wp2_with fail
  refine (C2 _).mono ?_
  clear C2
  rintro e w2 ⟨rfl, hb2⟩
  have B2 := Lib.hid (B1.out.trans (hb2.mono B1.out.size))
  clear hb2 zi i0 i1
  go_wp2_with fail
  go_ret
  exact ⟨rfl, B2.out⟩
theorem markTabM_any (A B : Option Addr) (rs : List Lk) (c : Nat) (hs : List Int) (d : Nat) (X : Nat → Prop) (k : Int) (w : World) (hm : rs.length ≤ 2000000) (hmh : hs.length ≤ 2000000) (hk0 : 0 ≤ k) (hk1 : k ≤ 1000000) (h : TabM w A B rs hs X) :
   Calls Try.prog 20 #[tbV A rs.length c B hs.length d, .int .i64 k] w fun e w' => e = .returned (.int .i64 (k + 3 * rs.length + hs.length)) ∧ TabK w' A B rs.length hs.length k ∧ Kx X w w' := by
  rcases h with ⟨g, g', rfl, rfl, h1, h2, hx⟩ | ⟨rfl, rfl, hx⟩
  · refine (markTable_any g rs c g' hs d k w hm hmh hk0 hk1 h1 h2).mono ?_
    rintro e w1 ⟨rfl, o1, o2, hk⟩
    exact ⟨rfl, ⟨g, g', o1, o2⟩, hk.mono fun i _ h => (hx i).2 h⟩
  · refine (markNone_any A B c d k w hk0 hk1).mono ?_
    rintro e w1 ⟨rfl, hb⟩
    exact ⟨by simp, ⟨0, 0, fun hp => by simp [marks] at hp, fun hp => by simp [markis] at hp⟩, Kx.of_below hb⟩
theorem heldTabK_any (A B : Option Addr) (n c m d : Nat) (k : Int) (w : World) (hm : n ≤ 2000000) (hmh : m ≤ 2000000) (hk0 : 0 ≤ k) (hk1 : k ≤ 1000000) (h : TabK w A B n m k) :
   Calls Try.prog 21 #[tbV A n c B m d, .int .i64 k] w fun e w' => e = .returned (.int .i64 (k + 3 * n + m)) ∧ Below w.heap.size w w' := by
  obtain ⟨g, g', h1, h2⟩ := h
  exact heldTable_any A g n c B g' m d k w hm hmh hk0 hk1 h1 h2
end Go.Proofs.Ytohflcbpjjnccab
