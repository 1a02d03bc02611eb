/-
  What the laws of adjacencies ask for.
-/
import Derived.Test.YtnkohgdfipgdoaaJc
namespace Go.Proofs.Ytnkohgdfipgdoaa
open Go.RowKit Go.Maps

/-- The state of a law of hellos: the adjacency's box, the list. -/
structure HL (w : World) (G : Nat) (s g : Int) (B : Option Addr) (xs : List Int) (W : World) : Prop where
  box : Box W G 25 #[.int .i64 s, .int .i64 g]
  sl : Sli W W.heap.size B xs
  bel : Below w.heap.size w W
theorem HL.call {w w1 w2 : World} {G : Nat} {s g : Int} {B : Option Addr} {xs : List Int} (h : HL w G s g B xs w1) (hb : Below w1.heap.size w1 w2) : HL w G s g B xs w2 :=
  ⟨h.box.below hb h.box.lt, (h.sl.below hb).more hb.size, h.bel.trans (hb.mono h.bel.size)⟩
theorem HL.start {w w1 : World} {A : Option Addr} {xs : List Int} (h : Sli w1 w1.heap.size A xs) (hb : Below w.heap.size w w1) (s g : Int) : HL w w1.heap.size s g A xs (w1.alloc (.cells #[.int .i64 s, .int .i64 g] 25)) := by
  have h1 : Below w1.heap.size w1 (w1.alloc (.cells #[.int .i64 s, .int .i64 g] 25)) := by (repeat (first | exact Below.refl _ _ | (refine Below.alloc ?_ (by first | exact Nat.le_refl _ | omega | (simp; done) | (simp; omega)) _) | (refine Below.setCell ?_ (by first | exact Nat.le_refl _ | omega | (simp; done) | (simp; omega)) _) | exact Below.drew ‹_›))
  exact ⟨Box.new w1 _ _, (h.below h1).more h1.size, hb.trans (h1.mono hb.size)⟩
theorem onA_one (s g : Int) : onA 1 s g = if s = 3 then (3, 0) else (2, 0) := rfl
theorem onA_zero (s g : Int) : onA 0 s g = (1, 0) := rfl
theorem onA_two (s g : Int) : onA 2 s g = if s = 0 then (s, g) else if g = 3 then (0, 0) else (s, g + 1) := rfl
theorem adjB_of {s g : Int} (h1 : 1 ≤ s) (h2 : s ≤ 3) (h3 : 0 ≤ g) (h4 : g ≤ 3) : adjB s g = true := by
  unfold adjB inB
  rw [if_neg (by omega)]
  simp
  omega
/-- What a hello that is right leaves. -/
theorem hello_facts {s g me : Int} {xs : List Int} (h : helloB s g me xs = true) :
    ∃ u : Int, onA (if me ∈ xs then 1 else 0) s g = (u, 0) ∧ 1 ≤ u ∧ u ≤ 3 ∧ (s = 3 → me ∈ xs → u = 3) ∧ (me ∈ xs → 2 ≤ u ∧ s ≤ u) ∧ (¬ me ∈ xs → u = 1) ∧ adjB u 0 = true ∧ helloA u 0 me xs = (u, 0) ∧ helloB u 0 me xs = true := by
  have h0 := h
  unfold helloB at h
  simp only [Bool.and_eq_true] at h
  obtain ⟨n, rfl, hn, hg0, hg3, -⟩ := adjB_cases h.1.1
  have again : ∀ u : Int, 1 ≤ u → u ≤ 3 → helloB u 0 me xs = true := fun u h1 h2 => by
    unfold helloB
    rw [adjB_of h1 h2 (by omega) (by omega), h.1.2, h.2]
    rfl
  by_cases hm : me ∈ xs
  · rw [if_pos hm, onA_one]
    by_cases h3 : (n : Int) = 3
    · rw [if_pos h3]
      refine ⟨3, rfl, by omega, by omega, fun _ _ => rfl, fun _ => by omega, fun x => absurd hm x, adjB_of (by omega) (by omega) (by omega) (by omega), ?_, again 3 (by omega) (by omega)⟩
      rw [hello_yes (again 3 (by omega) (by omega)), if_pos hm, onA_one, if_pos rfl]
    · rw [if_neg h3]
      refine ⟨2, rfl, by omega, by omega, fun x => absurd x h3, fun _ => by omega, fun x => absurd hm x, adjB_of (by omega) (by omega) (by omega) (by omega), ?_, again 2 (by omega) (by omega)⟩
      rw [hello_yes (again 2 (by omega) (by omega)), if_pos hm, onA_one, if_neg (by omega)]
  · rw [if_neg hm, onA_zero]
    refine ⟨1, rfl, by omega, by omega, fun _ x => absurd x hm, fun x => absurd x hm, fun _ => rfl, adjB_of (by omega) (by omega) (by omega) (by omega), ?_, again 1 (by omega) (by omega)⟩
    rw [hello_yes (again 1 (by omega) (by omega)), if_neg hm, onA_zero]
theorem tick_facts {s g : Int} (h : adjB s g = true) : ∃ u v : Int, tickA s g = (u, v) ∧ adjB u v = true ∧ ((u = 0 ∧ v = 0 ∧ s = 0 ∧ g = 0) ∨ (s ≠ 0 ∧ u = s ∧ v = g + 1 ∧ g ≤ 2) ∨ (s ≠ 0 ∧ u = 0 ∧ v = 0)) := by
  have ht : tickA s g = onA 2 s g := by unfold tickA; rw [h]; rfl
  obtain ⟨n, rfl, hn, hg0, hg3, hz⟩ := adjB_cases h
  rw [ht, onA_two]
  by_cases h0 : n = 0
  · rw [if_pos (by omega)]
    obtain rfl := hz h0
    exact ⟨(n : Int), 0, rfl, h, .inl ⟨by omega, rfl, by omega, rfl⟩⟩
  · rw [if_neg (by omega)]
    by_cases h3 : g = 3
    · rw [if_pos h3]
      exact ⟨0, 0, rfl, rfl, .inr (.inr ⟨by omega, rfl, rfl⟩)⟩
    · rw [if_neg h3]
      exact ⟨(n : Int), g + 1, rfl, adjB_of (by omega) (by omega) (by omega) (by omega), .inr (.inl ⟨by omega, rfl, rfl, by omega⟩)⟩
theorem tick_at {s : Int} {k : Nat} (h1 : 1 ≤ s) (h3 : s ≤ 3) (hk : k < 3) (w : World) :
   Calls Try.prog 15 #[adjV s (k : Int)] w fun e w' => e = .returned (adjV s ((k + 1 : Nat) : Int)) ∧ Below w.heap.size w w' := by
  have := tick_impl s (k : Int) w
  have ht : tickA s (k : Int) = (s, ((k + 1 : Nat) : Int)) := by
    unfold tickA
    rw [adjB_of h1 h3 (by omega) (by omega), if_pos rfl, onA_two, if_neg (by omega), if_neg (by omega)]
    rfl
  rwa [ht] at this
theorem tick_end {s : Int} (h1 : 1 ≤ s) (h3 : s ≤ 3) (w : World) :
   Calls Try.prog 15 #[adjV s 3] w fun e w' => e = .returned (adjV 0 0) ∧ Below w.heap.size w w' := by
  have := tick_impl s 3 w
  have ht : tickA s 3 = (0, 0) := by
    unfold tickA
    rw [adjB_of h1 h3 (by omega) (by omega), if_pos rfl, onA_two, if_neg (by omega), if_pos rfl]
  rwa [ht] at this
end Go.Proofs.Ytnkohgdfipgdoaa
