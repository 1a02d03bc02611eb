/-
  A contract over this seat: sameGraph of the same graphs.
-/
import Derived.Test.YtigamnnboojiiaaIsoS
namespace Go.Proofs.Ytigamnnboojiiaa
open Go.RowKit

set_option maxRecDepth 100000 in
theorem sameGraph_same (n : Int) (A1 A2 : Option Addr) (ls : List Lk) (c1 c2 : Nat) (w : World) (hm : ls.length ≤ 2000000)
    (h1 : Sl w w.heap.size A1 ls) (h2 : Sl w w.heap.size A2 ls) :
   Calls Try.prog 32 #[gval n A1 ls.length c1, gval n A2 ls.length c2] w fun e w' => e = .returned (.bool true) ∧ Below w.heap.size w w' := by
  have R1 := Lib.hid h1
  have R2 := Lib.hid h2
  clear h1 h2
  go_enter Try.func32, Try.ntmps32
  go_wp2
  go_loopw [5] (fun i wr => ∃ k : Nat, k ≤ ls.length ∧ i = .int .i64 k ∧ Below w.heap.size w wr ∧ Box wr w.heap.size 30 #[.int .i64 n, .slice A1 ls.length c1] ∧ Box wr (w.heap.size + 1) 30 #[.int .i64 n, .slice A2 ls.length c2]) (fun i _ => ls.length - (intOf i).toNat)
  case atStart => exact ⟨0, Nat.zero_le _, rfl, by (repeat (first | exact Below.refl _ _ | (refine Below.alloc ?_ (by first | exact Nat.le_refl _ | omega | (simp; done) | (simp; omega)) _) | (refine Below.setCell ?_ (by first | exact Nat.le_refl _ | omega | (simp; done) | (simp; omega)) _) | exact Below.drew ‹_›)), (Box.new w _ _).alloc _, by have := Box.new (w.alloc (.cells #[.int .i64 n, .slice A1 ls.length c1] 30)) 30 #[.int .i64 n, .slice A2 ls.length c2]; rwa [World.size_alloc] at this⟩
  case round =>
    obtain ⟨k, hk, rfl, hb, hx, hy⟩ := hrel
    have HX := Lib.hid hx
    have HY := Lib.hid hy
    obtain ⟨z1, d0, d1, -, -⟩ := hx.two
    obtain ⟨z2, e0, e1, -, -⟩ := hy.two
    clear hx hy
    by_cases hlt : k < ls.length
    · obtain ⟨l, hl⟩ : ∃ l, ls[k]? = some l := ⟨_, List.getElem?_eq_getElem hlt⟩
      obtain ⟨b, off, rfl, hbb, p0, p1, p2⟩ := (R1.out.below hb) k l hl
      obtain ⟨b', off', rfl, hbb', q0, q1, q2⟩ := (R2.out.below hb) k l hl
      clear hl
      go_wp2
      go_quiet (fail)
      go_wp2
      go_roundw
      case rel => exact ⟨k + 1, hlt, by go_num, by first | exact hb.drew | exact ⟨hb.os, hb.tape, hb.output, hb.size, hb.block⟩, HX.out, HY.out⟩
      case measure => simp [intOf]; omega
    · have hge : ls.length ≤ k := by omega
      go_wp2
      go_ret
      exact ⟨rfl, hb⟩

end Go.Proofs.Ytigamnnboojiiaa
