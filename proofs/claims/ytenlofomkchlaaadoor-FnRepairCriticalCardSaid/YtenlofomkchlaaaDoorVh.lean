/-
  Contracts over this seat: RepairStack of the specification.
-/
import Derived.Test.YtenlofomkchlaaaDoorVe
import Derived.Test.YtenlofomkchlaaaDoorVf
import Derived.Test.YtenlofomkchlaaaDoorVg
namespace Go.Proofs.YtenlofomkchlaaaDoor
open Go.RowKit Go.Maps

theorem RB.drew {w : World} {gv : Array Value} {g3 : Nat} {A3 : Option Addr} {xs : List Int} {v : Value} {out : List Lb} {W : World} (h : RB w gv g3 A3 xs v out W) : RB w gv g3 A3 xs v out W.drew :=
  ⟨h.row, h.far, h.own, h.bel.drew, h.box, h.lt3⟩
/-- All blocks that a row of labels beside a path may change. -/
def XR (B g3 : Nat) (b : Nat) : Prop := B < b ∧ b ≠ g3
theorem RB.keeps {w : World} {gv : Array Value} {g3 : Nat} {A3 : Option Addr} {xs : List Int} {v : Value} {out : List Lb} {W W' : World} {o : Obj} (h : RB w gv g3 A3 xs v out W) (hg : (W.alloc o).grownBy W' v.ownBlock) : Kx (XR w.heap.size g3) (W.alloc o) W' :=
  ⟨hg.os, hg.tape, hg.output, hg.size, fun k hk hx => hg.block k hk (fun e => by
    have h1 := h.row.lt k e.symm
    exact hx ⟨by omega, h.far k e.symm⟩)⟩
theorem RB.append' {w : World} {gv : Array Value} {g3 : Nat} {A3 : Option Addr} {xs : List Int} {v : Value} {out : List Lb} {W W' : World} (h : RB w gv g3 A3 xs v out W) (hp : 0 < xs.length) {x : Lb} {v' : Value} {o : Obj}
    (hown : W'.ownsRow (w.heap.size + 1) 97 2 v' (out.length + 1) (flatB out ++ [.int .i64 x.k, .int .i64 x.a])) (hg : (W.alloc o).grownBy W' v.ownBlock) : RB w gv g3 A3 xs v' (out ++ [x]) W' := by
  have hl := h.row.lt
  have z3 := h.lt3 hp
  have zb := h.box.lt
  have hO : Own1i W' A3 g3 xs := fun hq => by
    obtain ⟨e, cs, hh, hc⟩ := h.own hq
    exact ⟨e, cs, (hg.block g3 (by simp; omega) (fun e => h.far g3 e.symm rfl)).trans ((Below.heap_alloc W _ _ z3).trans hh), hc⟩
  refine ⟨by rw [List.length_append, flatB_append]; exact hown, fun g e e' => ?_, hO, ?_, ?_, fun _ => ?_⟩
  · subst e'
    obtain ⟨-, cs, hh, -⟩ := hO hp
    rcases hown.2 with ⟨rfl, -⟩ | ⟨g', cap, cur, rfl, -, hh', -⟩
    · simp [Value.ownBlock] at e
    · simp [Value.ownBlock] at e
      subst e
      rw [hh] at hh'
      simp at hh'
  · exact (h.bel.alloc (by omega) _).grown hg (by simp; omega) (fun j e => by have := (hl j e).1; omega)
  · exact (hg.block _ (by simp; omega) (fun e => by have := (hl _ e.symm).1; omega)).trans (h.box.alloc _)
  · have := hg.size
    simp at this
    omega
/-- Whether there is a repair. -/
def repB (nn : Int) (ls : List Lk) (s x t : Int) : Bool := !(rpP nn ls s x t).isEmpty
/-- What RepairStack answers. -/
def RepR (nn : Int) (ls : List Lk) (s x t : Int) (w : World) (e : Ending) (w' : World) : Prop :=
  ∃ A g c, e = .returned (.tuple #[.slice A (repA nn ls s x t).length c, .bool (repB nn ls s x t)]) ∧ w.heap.size ≤ g ∧ Ownb w' A g (repA nn ls s x t) ∧ Below w.heap.size w w' ∧ (repA nn ls s x t).length ≤ c
theorem rep_none {nn : Int} {ls : List Lk} {s x t : Int} (h : rpP nn ls s x t = []) : repA nn ls s x t = [] ∧ repB nn ls s x t = false := by
  unfold repA repB
  rw [h]
  exact ⟨rfl, rfl⟩
theorem rep_go {R out : List Lb} {nn : Int} {ls : List Lk} {x : Int} {p : List Int} {i : Nat} (h : ∃ m, p.length ≤ i + m + 1 ∧ R = out ++ repU nn ls x m (p.drop i)) (hi : i + 1 < p.length) : ∃ m, p.length ≤ i + m + 2 ∧ R = out ++ repU nn ls x (m + 1) (p.drop i) := by
  obtain ⟨m, hm, he⟩ := h
  match m, hm, he with
  | 0, hm, _ => omega
  | m + 1, hm, he => exact ⟨m, by omega, he⟩


end Go.Proofs.YtenlofomkchlaaaDoor
