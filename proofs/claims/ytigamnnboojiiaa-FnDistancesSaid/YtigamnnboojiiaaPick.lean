/-
  A contract over this seat: the reader of the drawn inputs gives a number from 0 to n-1 and only moves its place.
-/
import Derived.Test.YtigamnnboojiiaaCost
import Derived.Laws.BitsAllLaws
namespace Go.Proofs.Ytigamnnboojiiaa
open Go.RowKit

/-- The code's bytes lie in memory below block B. -/
def Byt (w : World) (B : Nat) (A : Option Addr) (len : Nat) (f : Nat → Int) : Prop :=
  0 < len → ∃ b off, A = some ⟨b, off, none⟩ ∧ b < B ∧ ∀ i, i < len → w.cell? ⟨b, off + i, none⟩ = some (.int .u8 (f i)) ∧ 0 ≤ f i ∧ f i ≤ 255

theorem i64_xor_nat (a b : Nat) (ha : a < 4611686018427387904) (hb : b < 4611686018427387904) : bits .xor .i64 (a : Int) (b : Int) = ((a ^^^ b : Nat) : Int) := by
  have hx : a ^^^ b < 2 ^ 62 := Nat.xor_lt_two_pow (by omega) (by omega)
  show IntKind.i64.wrap ((BitVec.ofInt 64 (a : Int) ^^^ BitVec.ofInt 64 (b : Int)).toNat : Int) = _
  rw [BitVec.toNat_xor, ofInt_u64 a (by omega), ofInt_u64 b (by omega)]
  simp [IntKind.wrap, IntKind.bits, IntKind.signed]
  omega
theorem xor_nonneg {x : Int} (h0 : 0 ≤ x) (h1 : x < 4611686018427387904) : 0 ≤ bits .xor .i64 x (x / 64) := by
  obtain ⟨a, rfl⟩ : ∃ a : Nat, x = a := ⟨x.toNat, by omega⟩
  have e : ((a : Int) / 64) = ((a / 64 : Nat) : Int) := by omega
  rw [e, i64_xor_nat a (a / 64) (by omega) (by omega)]
  omega

/-- What 'pick' leaves: the reader's place has moved by one; all else is as it was. -/
def Picked (R : Nat) (A : Option Addr) (len c : Nat) (p : Nat) (n : Int) (w : World) (e : Ending) (w' : World) : Prop :=
  ∃ k : Nat, e = .returned (.int .i64 k) ∧ (k : Int) < n ∧ Box w' R 101 #[.slice A len c, .int .i64 ((p + 1 : Nat) : Int)] ∧ w.grownBy w' (some R) ∧ w'.heap.size = w.heap.size

theorem picked {R : Nat} {A : Option Addr} {len c p : Nat} {n v q : Int} {w : World} {d : Nat} (hR : Box w R 101 #[.slice A len c, .int .i64 (p : Int)]) (h0 : 0 ≤ v) (h1 : v < n) (hq : q = (p : Int) + 1) :
    Picked R A len c p n w (.returned (.int .i64 v)) ((w.setCell ⟨R, 1, none⟩ (.int .i64 q)).drewN d) := by
  refine ⟨v.toNat, by rw [Int.toNat_of_nonneg h0], by omega, ?_, ?_, ?_⟩
  · have := heap_set hR 1 (.int .i64 q)
    have e : ((p + 1 : Nat) : Int) = q := by omega
    rw [e]
    exact this
  · have h := grown_set (World.grownBy.refl w (some R)) 1 (.int .i64 q)
    exact ⟨h.os, h.tape, h.output, h.size, h.block⟩
  · show (w.setCell ⟨R, 1, none⟩ (.int .i64 q)).heap.size = w.heap.size
    simp

set_option maxRecDepth 100000 in
set_option maxHeartbeats 1600000 in
theorem pick_any (R : Nat) (A : Option Addr) (len c p : Nat) (n : Int) (f : Nat → Int) (w : World) (hlen : len ≤ 2000) (hp : p ≤ 1000000) (hn1 : 1 ≤ n) (hn2 : n ≤ 1000)
    (hR : Box w R 101 #[.slice A len c, .int .i64 (p : Int)]) (hB : Byt w R A len f) :
   Calls Try.prog 73 #[.pointer (some ⟨R, 0, none⟩), .int .i64 n] w (Picked R A len c p n w) := by
  have HR := Lib.hid hR
  have HB := Lib.hid hB
  obtain ⟨z0, e0, e1, q0, q1⟩ := hR.two
  clear hR hB
  by_cases hl0 : len = 0
  · subst hl0
    go_enter Try.func73, Try.ntmps73
    go_wp2_with fail
    go_ret
    exact picked (d := 0) HR.out (by omega) (by omega) rfl
  · obtain ⟨b, off, rfl, hbR, hcell⟩ := HB.out (by omega)
    have hle : ((len : Int) == 0) = false := by simp; omega
    have hlp : 0 < len := by omega
    have HF := Lib.hid hcell
    by_cases hk : p < len
    · obtain ⟨hc, hf0, hf1⟩ := hcell p hk
      go_enter Try.func73, Try.ntmps73
      clear hcell
      go_wp2_with fail
      go_ret
      exact picked (d := 0) HR.out (Int.emod_nonneg _ (by omega)) (Int.emod_lt_of_pos _ (by omega)) rfl
    · obtain ⟨hc, hf0, hf1⟩ := hcell (p % len) (Nat.mod_lt _ (by omega))
      obtain ⟨hd, hg0, hg1⟩ := hcell ((p * 7 + 3) % len) (Nat.mod_lt _ (by omega))
      go_enter Try.func73, Try.ntmps73
      clear hcell
      go_wp2_with fail
      have d0 : 0 ≤ (p : Int) / (len : Int) := Int.ediv_nonneg (by omega) (by omega)
      have d1 : (p : Int) / (len : Int) ≤ 1000000 := Int.le_trans (Int.ediv_le_self _ (by omega)) (by omega)
      have m0 : 0 ≤ (p : Int) % (len : Int) := Int.emod_nonneg _ (by omega)
      have m1 : (p : Int) % (len : Int) < (len : Int) := Int.emod_lt_of_pos _ (by omega)
      have m2 : 0 ≤ ((p : Int) * 7 + 3) % (len : Int) := Int.emod_nonneg _ (by omega)
      have m3 : ((p : Int) * 7 + 3) % (len : Int) < (len : Int) := Int.emod_lt_of_pos _ (by omega)
      refine wp_region_quiet_lit (by kernel_rfl) (by kernel_rfl) ?_
      repeat (go_big_quiet_step (fail))
      refine wpQuiet_nil ?_
      intro _ hw'
      obtain ⟨nq, hw''⟩ := hw'
      subst hw''
      go_wp2_with fail
      go_ret
      have hX := xor_nonneg (x := f (p % len) * 131 + f ((p * 7 + 3) % len) * 1117 + (p : Int) * 29 + (p : Int) / (len : Int) * 53) (by omega) (by omega)
      exact picked HR.out (Int.tmod_nonneg _ hX) (Int.tmod_lt_of_pos _ (by omega)) rfl

end Go.Proofs.Ytigamnnboojiiaa
