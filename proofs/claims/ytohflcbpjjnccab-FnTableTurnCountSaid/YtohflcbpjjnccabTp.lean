/-
  Contracts over this seat: a drawn address.
-/
import Derived.Test.YtohflcbpjjnccabTo
namespace Go.Proofs.Ytohflcbpjjnccab
open Go.RowKit Go.Maps

theorem four_at {k : Nat} (hk : (k : Int) < 4) : ∃ v : Int, (#[.int .i64 (-1), .int .i64 0, .int .i64 255, .int .i64 256] : Array Value)[k]? = some (.int .i64 v) ∧ -1 ≤ v ∧ v ≤ 256 := by
  rcases (show k = 0 ∨ k = 1 ∨ k = 2 ∨ k = 3 by omega) with rfl | rfl | rfl | rfl
  · exact ⟨-1, rfl, by omega, by omega⟩
  · exact ⟨0, rfl, by omega, by omega⟩
  · exact ⟨255, rfl, by omega, by omega⟩
  · exact ⟨256, rfl, by omega, by omega⟩
/-- What 'l92Address' leaves. -/
def AddrD (R : Nat) (A : Option Addr) (len c P : Nat) (f : Nat → Int) (w : World) (e : Ending) (w' : World) : Prop :=
  ∃ a : Int, e = .returned (.int .i64 a) ∧ (-1 ≤ a ∧ a ≤ 256) ∧ RD R A len c f (P + 2) w' ∧ w.grownBy w' (some R)

set_option maxRecDepth 100000 in
set_option maxHeartbeats 4000000 in
theorem l92address_any (R : Nat) (A : Option Addr) (len c P : Nat) (f : Nat → Int) (w : World) (hlen : len ≤ 2000) (hP : P ≤ 900000) (hR : RD R A len c f P w) :
   Calls Try.prog 77 #[.pointer (some ⟨R, 0, none⟩)] w (AddrD R A len c P f w) := by
  have hRw := hR.lt
  have S0 := Lib.hid hR
  clear hR
  go_enter Try.func77, Try.ntmps77
  go_wp2_with fail
  refine (pick_rd R A len c P 16 f _ hlen (by omega) (by omega) (by omega) S0.out).mono ?_
  rintro e w1 ⟨k1, rfl, hk1, hR1, hg1, hs1, -⟩
  have S1 := Lib.hid hR1
  have G1 := Lib.hid hg1
  have hR2 : R < w1.heap.size := by omega
  clear hR1 hg1 S0 hs1
  by_cases h1 : k1 = 0
  · subst h1
    go_wp2_with fail
    refine (pick_rd R A len c _ 4 f _ hlen (by omega) (by omega) (by omega) (S1.out.alloc _)).mono ?_
    rintro e w4 ⟨k4, rfl, hk4, hR4, hg4, hs4, hb4⟩
    obtain ⟨v4, e4, hv0, hv1⟩ := four_at hk4
    have E4 : w4.cell? ⟨w1.heap.size, k4, none⟩ = some (.int .i64 v4) := (((Box.new w1 3 #[.int .i64 (-1), .int .i64 0, .int .i64 255, .int .i64 256]).grown hg4 (by omega)).cell k4).trans e4
    have GZ := Lib.hid (grown_trans (grown_alloc G1.out _) hg4)
    clear e4 hg4 hs4 hb4
    go_wp2_with fail
    go_ret
    exact ⟨_, rfl, ⟨by omega, by omega⟩, hR4, GZ.out⟩
  · have h1' : ((k1 : Int) == 0) = false := by simpa using h1
    go_wp2_with fail
    refine (pick_rd R A len c _ 256 f _ hlen (by omega) (by omega) (by omega) S1.out).mono ?_
    rintro e w4 ⟨k4, rfl, hk4, hR4, hg4, hs4, hb4⟩
    go_wp2_with fail
    go_ret
    exact ⟨_, rfl, ⟨by omega, by omega⟩, hR4, grown_trans G1.out hg4⟩
end Go.Proofs.Ytohflcbpjjnccab
