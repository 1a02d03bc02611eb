/-
  Contracts over this seat: a drawn cost; what the laws of changed costs draw.
-/
import Derived.Test.YtkcnbgimdiggoabDraw3
namespace Go.Proofs.Ytkcnbgimdiggoab
open Go.RowKit

theorem three_at {w : World} {b k t : Nat} {x y z : Int} (h : Box w b t #[.int .i64 x, .int .i64 y, .int .i64 z]) (hk : k < 3) :
    ∃ v : Int, w.cell? ⟨b, k, none⟩ = some (.int .i64 v) ∧ (v = x ∨ v = y ∨ v = z) ∧ (#[.int .i64 x, .int .i64 y, .int .i64 z] : Array Value)[k]? = some (.int .i64 v) := by
  have h := h.cell k
  rcases (show k = 0 ∨ k = 1 ∨ k = 2 by omega) with rfl | rfl | rfl
  · exact ⟨x, h, .inl rfl, rfl⟩
  · exact ⟨y, h, .inr (.inl rfl), rfl⟩
  · exact ⟨z, h, .inr (.inr rfl), rfl⟩




end Go.Proofs.Ytkcnbgimdiggoab
