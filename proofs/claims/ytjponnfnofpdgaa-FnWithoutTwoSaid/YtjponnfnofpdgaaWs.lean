/-
  A graph that a call answered, stored in a box made ahead of the call.
-/
import Derived.Test.YtjponnfnofpdgaaWr
import Derived.Test.YtjponnfnofpdgaaA8
namespace Go.Proofs.Ytjponnfnofpdgaa
open Go.RowKit

theorem wo_box {w4 w5 : World} (B0 : Array Value) (hb5 : Below (w4.alloc (.cells B0 30)).drew.heap.size (w4.alloc (.cells B0 30)).drew w5) :
    Box w5 w4.heap.size 30 B0 :=
  (show Box (w4.alloc (.cells B0 30)).drew w4.heap.size 30 B0 from Box.new w4 _ _).below hb5 (by show w4.heap.size < (w4.alloc _).heap.size; simp)
theorem wo_below {w4 w5 : World} (B0 : Array Value) (hb5 : Below (w4.alloc (.cells B0 30)).drew.heap.size (w4.alloc (.cells B0 30)).drew w5) (v0 v1 : Value) :
    Below w4.heap.size w4 ((w5.setCell ⟨w4.heap.size, 0, none⟩ v0).setCell ⟨w4.heap.size, 1, none⟩ v1) := by
  have h1 : Below w4.heap.size w4 (w4.alloc (.cells B0 30)).drew := ((Below.refl w4.heap.size w4).alloc (Nat.le_refl _) _).drew
  have h2 : Below w4.heap.size w4 w5 := h1.trans (hb5.mono h1.size)
  exact (h2.setCell (Nat.le_refl _) _).setCell (Nat.le_refl _) _
theorem wo_store {w w4 w5 : World} {m : Int} {rs : List Lk} {A5 : Option Addr} {g5 c5 : Nat} (hw : Below w.heap.size w w4) (v0 v1 : Value)
    (hb5 : Below (w4.alloc (.cells #[v0, v1] 30)).drew.heap.size (w4.alloc (.cells #[v0, v1] 30)).drew w5)
    (hg5 : (w4.alloc (.cells #[v0, v1] 30)).drew.heap.size ≤ g5) (ho5 : Own1 w5 A5 g5 rs) :
    LB w w4.heap.size m rs A5 g5 c5 ((w5.setCell ⟨w4.heap.size, 0, none⟩ (.int .i64 m)).setCell ⟨w4.heap.size, 1, none⟩ (.slice A5 rs.length c5)) := by
  have hb := wo_below #[v0, v1] hb5 (.int .i64 m) (.slice A5 rs.length c5)
  have hg : w4.heap.size < g5 := by
    have : w4.heap.size < (w4.alloc (.cells #[v0, v1] 30)).drew.heap.size := by show w4.heap.size < (w4.alloc _).heap.size; simp
    omega
  refine ⟨?_, (ho5.set_far (by show g5 ≠ w4.heap.size; omega) _).set_far (by show g5 ≠ w4.heap.size; omega) _, hw.trans (hb.mono hw.size)⟩
  exact heap_set (heap_set (wo_box #[v0, v1] hb5) 0 _) 1 _
end Go.Proofs.Ytjponnfnofpdgaa
