/-
  Contracts over this seat: a drawn cost; what the laws of changed costs draw.
-/
import Derived.Test.YtjponnfnofpdgaaDraw3
namespace Go.Proofs.Ytjponnfnofpdgaa
open Go.RowKit

theorem three_at {w : World} {b k t : Nat} {x y z : Int} (h : Box w b t #[.int .i64 x, .int .i64 y, .int .i64 z]) (hk : k < 3) :
    ∃ v : Int, w.cell? ⟨b, k, none⟩ = some (.int .i64 v) ∧ (v = x ∨ v = y ∨ v = z) ∧ (#[.int .i64 x, .int .i64 y, .int .i64 z] : Array Value)[k]? = some (.int .i64 v) := by
  have h := h.cell k
  rcases (show k = 0 ∨ k = 1 ∨ k = 2 by omega) with rfl | rfl | rfl
  · exact ⟨x, h, .inl rfl, rfl⟩
  · exact ⟨y, h, .inr (.inl rfl), rfl⟩
  · exact ⟨z, h, .inr (.inr rfl), rfl⟩

set_option maxRecDepth 100000 in
theorem costn_any (R : Nat) (A : Option Addr) (len c P : Nat) (f : Nat → Int) (w : World) (hlen : len ≤ 2000) (hP : P ≤ 10000) (hR : RD R A len c f P w) :
   Calls Try.prog 56 #[.pointer (some ⟨R, 0, none⟩)] w fun e w' => ∃ k : Int, e = .returned (.int .i64 k) ∧ 0 ≤ k ∧ k ≤ 21 ∧ RD R A len c f (P + 2) w' ∧ w.grownBy w' (some R) := by
  have zR := hR.lt
  have HR := Lib.hid hR
  clear hR
  go_enter Try.func56, Try.ntmps56
  go_wp2_with fail
  refine (pick_rd R A len c P 12 f _ hlen (by omega) (by omega) (by omega) HR.out).mono ?_
  rintro e w1 ⟨k1, rfl, hk1, hR1, hg1, hs1, hb1⟩
  have H1 := Lib.hid hR1
  have G1 := Lib.hid hg1
  have z1 := hR1.lt
  clear hR1 hg1 hb1 HR
  by_cases h0 : k1 = 0
  · subst h0
    go_wp2_with fail
    refine (pick_rd R A len c _ _ f _ hlen (by omega) (by omega) (by omega) (H1.out.alloc _)).mono ?_
    rintro e w2 ⟨k2, rfl, hk2, hR2, hg2, hs2, hb2⟩
    obtain ⟨v2, e2, hv2, -⟩ := three_at ((Box.new w1 3 #[.int .i64 0, .int .i64 20, .int .i64 21]).grown hg2 (by omega)) (k := k2) (by omega)
    have H2 := Lib.hid hR2
    have G2 := Lib.hid (grown_trans (grown_alloc G1.out (.cells #[.int .i64 0, .int .i64 20, .int .i64 21] 3)) hg2)
    have q2 : w1.heap.size < w2.heap.size := by rw [hs2, World.size_alloc]; omega
    rw [hs1] at e2 q2
    clear hR2 hg2 hs2 hb2
    go_wp2_with fail
    go_ret
    exact ⟨v2, rfl, by omega, by omega, H2.out, G2.out⟩
  · have h0' : ((k1 : Int) == 0) = false := by simpa using h0
    go_wp2_with fail
    refine (pick_rd R A len c (P + 1) 9 f _ hlen (by omega) (by omega) (by omega) H1.out).mono ?_
    rintro e w2 ⟨k2, rfl, hk2, hR2, hg2, hs2, hb2⟩
    have H2 := Lib.hid hR2
    have G2 := Lib.hid (grown_trans G1.out hg2)
    clear hR2 hg2 hs2 hb2
    go_wp2_with fail
    go_ret
    exact ⟨1 + (k2 : Int), ret_int (by omega), by omega, by omega, H2.out, G2.out⟩



end Go.Proofs.Ytjponnfnofpdgaa
