/-
  What the exact laws of repairs ask of both sides.
-/
import Derived.Test.YtenlofomkchlaabDoorVp
namespace Go.Proofs.YtenlofomkchlaabDoor
open Go.RowKit



theorem repairPath_both (n : Int) (ls : List Lk) (x y z : Int) (hm : ls.length ≤ 2000000) (hnu : n ≤ 9223372036854775807) :
    ∃ (rs : List Int), rs.length ≤ 1000 ∧
      (∀ (g c : Nat) (w : World), Sl w w.heap.size (some ⟨g, 0, none⟩) ls → Calls Tryd.prog 27 #[gval n (some ⟨g, 0, none⟩) ls.length c, .int .i64 x, .int .i64 y, .int .i64 z] w (NewI rs w)) ∧
      (∀ (g : Nat) (w : World), Sl w w.heap.size (some ⟨g, 0, none⟩) ls → Calls Tryd.prog 31 #[gval n (some ⟨g, 0, none⟩) ls.length ls.length, .int .i64 x, .int .i64 y, .int .i64 z] w (NewI rs w)) :=
  ⟨rpP n ls x y z, by have := rpP_len n ls x y z; omega, fun g c w hs => repPath_impl n _ ls c x y z w hm (fun _ => ⟨g, rfl⟩) hs, fun g w hs => repPath_spec n _ ls _ x y z w hm hnu (fun _ => ⟨g, rfl⟩) (Nat.le_refl _) hs⟩
/-- New labels and a bool. -/
def NewLB (rs : List Lb) (bb : Bool) (w : World) (e : Ending) (w' : World) : Prop :=
  ∃ A g c, e = .returned (.tuple #[.slice A rs.length c, .bool bb]) ∧ w.heap.size ≤ g ∧ Ownb w' A g rs ∧ Below w.heap.size w w'
theorem RepR.newLB {nn : Int} {ls : List Lk} {s x t : Int} {w : World} {e : Ending} {w' : World} (h : RepR nn ls s x t w e w') : NewLB (repA nn ls s x t) (repB nn ls s x t) w e w' := by
  obtain ⟨A, g, c, h1, h2, h3, h4, -⟩ := h
  exact ⟨A, g, c, h1, h2, h3, h4⟩
theorem repairStack_both (n : Int) (ls : List Lk) (x y z : Int) (hm : ls.length ≤ 2000000) (hnu : n ≤ 9223372036854775807) :
    ∃ (rs : List Lb) (bb : Bool), rs.length ≤ 1000 ∧
      (∀ (g c : Nat) (w : World), Sen w → Sl w w.heap.size (some ⟨g, 0, none⟩) ls → Calls Tryd.prog 14 #[gval n (some ⟨g, 0, none⟩) ls.length c, .int .i64 x, .int .i64 y, .int .i64 z] w (NewLB rs bb w)) ∧
      (∀ (g : Nat) (w : World), Sl w w.heap.size (some ⟨g, 0, none⟩) ls → Calls Tryd.prog 12 #[gval n (some ⟨g, 0, none⟩) ls.length ls.length, .int .i64 x, .int .i64 y, .int .i64 z] w (NewLB rs bb w)) :=
  ⟨repA n ls x y z, repB n ls x y z, by have := repA_len8 n ls x y z; omega, fun g c w he hs => (repStack_impl n _ ls c x y z w hm (fun _ => ⟨g, rfl⟩) hs he).mono fun _ _ h => h.newLB, fun g w hs => (repStack_spec n _ ls _ x y z w hm hnu (fun _ => ⟨g, rfl⟩) (Nat.le_refl _) hs).mono fun _ _ h => h.newLB⟩
end Go.Proofs.YtenlofomkchlaabDoor
