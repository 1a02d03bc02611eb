/-
  A contract over this seat: the reader of the drawn inputs gives a number from 0 to n-1 and only moves its place.
-/
import Derived.Test.YtohflcbpjjnccabA2
import Derived.Laws.BitsAllLaws
import Derived.Deep.RegionHeld3
import Derived.Deep.DeepCutAuto
namespace Go.Proofs.Ytohflcbpjjnccab
open Go.RowKit

/-- The code's bytes lie in memory below block B. -/
def Byt (w : World) (B : Nat) (A : Option Addr) (len : Nat) (f : Nat → Int) : Prop :=
  0 < len → ∃ b off, A = some ⟨b, off, none⟩ ∧ b < B ∧ ∀ i, i < len → w.cell? ⟨b, off + i, none⟩ = some (.int .u8 (f i)) ∧ 0 ≤ f i ∧ f i ≤ 255

theorem i64_xor_nat (a b : Nat) (ha : a < 4611686018427387904) (hb : b < 4611686018427387904) : bits .xor .i64 (a : Int) (b : Int) = ((a ^^^ b : Nat) : Int) := by
  have hx : a ^^^ b < 2 ^ 62 := Nat.xor_lt_two_pow (by omega) (by omega)
  show IntKind.i64.wrap ((BitVec.ofInt 64 (a : Int) ^^^ BitVec.ofInt 64 (b : Int)).toNat : Int) = _
  rw [BitVec.toNat_xor, ofInt_u64 a (by omega), ofInt_u64 b (by omega)]
  simp [IntKind.wrap, IntKind.bits, IntKind.signed]
  omega
theorem xor_nonneg {x : Int} (h0 : 0 ≤ x) (h1 : x < 4611686018427387904) : 0 ≤ bits .xor .i64 x (x / 64) := by
  obtain ⟨a, rfl⟩ : ∃ a : Nat, x = a := ⟨x.toNat, by omega⟩
  have e : ((a : Int) / 64) = ((a / 64 : Nat) : Int) := by omega
  rw [e, i64_xor_nat a (a / 64) (by omega) (by omega)]
  omega

/-- What 'pick' leaves: the reader's place has moved by one; all else is as it was. -/
def Picked (R : Nat) (A : Option Addr) (len c : Nat) (p : Nat) (n : Int) (w : World) (e : Ending) (w' : World) : Prop :=
  ∃ k : Nat, e = .returned (.int .i64 k) ∧ (k : Int) < n ∧ Box w' R 82 #[.slice A len c, .int .i64 ((p + 1 : Nat) : Int)] ∧ w.grownBy w' (some R) ∧ w'.heap.size = w.heap.size

theorem picked {R : Nat} {A : Option Addr} {len c p : Nat} {n v q : Int} {w : World} {d : Nat} (hR : Box w R 82 #[.slice A len c, .int .i64 (p : Int)]) (h0 : 0 ≤ v) (h1 : v < n) (hq : q = (p : Int) + 1) :
    Picked R A len c p n w (.returned (.int .i64 v)) ((w.setCell ⟨R, 1, none⟩ (.int .i64 q)).drewN d) := by
  refine ⟨v.toNat, by rw [Int.toNat_of_nonneg h0], by omega, ?_, ?_, ?_⟩
  · have := heap_set hR 1 (.int .i64 q)
    have e : ((p + 1 : Nat) : Int) = q := by omega
    rw [e]
    exact this
  · have h := grown_set (World.grownBy.refl w (some R)) 1 (.int .i64 q)
    exact ⟨h.os, h.tape, h.output, h.size, h.block⟩
  · show (w.setCell ⟨R, 1, none⟩ (.int .i64 q)).heap.size = w.heap.size
    simp

set_option maxRecDepth 100000 in
set_option maxHeartbeats 1600000 in
theorem pick_any (R : Nat) (A : Option Addr) (len c p : Nat) (n : Int) (f : Nat → Int) (w : World) (hlen : len ≤ 2000) (hp : p ≤ 1000000) (hn1 : 1 ≤ n) (hn2 : n ≤ 1000)
    (hR : Box w R 82 #[.slice A len c, .int .i64 (p : Int)]) (hB : Byt w R A len f) :
   Calls Try.prog 67 #[.pointer (some ⟨R, 0, none⟩), .int .i64 n] w (Picked R A len c p n w) := by
  have HR := Lib.hid hR
  have HB := Lib.hid hB
  obtain ⟨z0, e0, e1, q0, q1⟩ := hR.two
  clear hR hB
  by_cases hl0 : len = 0
  · subst hl0
    go_enter Try.func67, Try.ntmps67
    go_wp2_with fail
    go_ret
    exact picked (d := 0) HR.out (by omega) (by omega) rfl
  · obtain ⟨b, off, rfl, hbR, hcell⟩ := HB.out (by omega)
    have hle : ((len : Int) == 0) = false := by simp; omega
    have hlp : 0 < len := by omega
    have HF := Lib.hid hcell
    by_cases hk : p < len
    · obtain ⟨hc, hf0, hf1⟩ := hcell p hk
      go_enter Try.func67, Try.ntmps67
      clear hcell
      go_wp2_with fail
      go_ret
      exact picked (d := 0) HR.out (Int.emod_nonneg _ (by omega)) (Int.emod_lt_of_pos _ (by omega)) rfl
    · obtain ⟨hc, hf0, hf1⟩ := hcell (p % len) (Nat.mod_lt _ (by omega))
      obtain ⟨hd, hg0, hg1⟩ := hcell ((p * 7 + 3) % len) (Nat.mod_lt _ (by omega))
      go_enter Try.func67, Try.ntmps67
      clear hcell
      go_wp2_with fail
      have d0 : 0 ≤ (p : Int) / (len : Int) := Int.ediv_nonneg (by omega) (by omega)
      have d1 : (p : Int) / (len : Int) ≤ 1000000 := Int.le_trans (Int.ediv_le_self _ (by omega)) (by omega)
      have m0 : 0 ≤ (p : Int) % (len : Int) := Int.emod_nonneg _ (by omega)
      have m1 : (p : Int) % (len : Int) < (len : Int) := Int.emod_lt_of_pos _ (by omega)
      have m2 : 0 ≤ ((p : Int) * 7 + 3) % (len : Int) := Int.emod_nonneg _ (by omega)
      have m3 : ((p : Int) * 7 + 3) % (len : Int) < (len : Int) := Int.emod_lt_of_pos _ (by omega)
      refine wp_region_quiet_lit (by kernel_rfl) (by kernel_rfl) ?_
      repeat (go_big_quiet_step (fail))
      refine wpQuiet_nil ?_
      intro _ hw'
      obtain ⟨nq, hw''⟩ := hw'
      subst hw''
      go_wp2_with fail
      go_ret
      have hX := xor_nonneg (x := f (p % len) * 131 + f ((p * 7 + 3) % len) * 1117 + (p : Int) * 29 + (p : Int) / (len : Int) * 53) (by omega) (by omega)
      exact picked HR.out (Int.tmod_nonneg _ hX) (Int.tmod_lt_of_pos _ (by omega)) rfl

end Go.Proofs.Ytohflcbpjjnccab

/-
  A contract over this seat: the drawn graph: a number of nodes, and links in memory of their own.
-/
namespace Go.Proofs.Ytohflcbpjjnccab
open Go.RowKit

theorem own_box_ne {w : World} {base e size n : Nat} {v : Value} {xs : List Value} {g t : Nat} {cs : Array Value} (h : w.ownsRow base e size v n xs) (hg : Box w g t cs) (hne : e ≠ t) : v.ownBlock ≠ some g := by
  rcases h.2 with ⟨rfl, _⟩ | ⟨g', cap, cur, rfl, _, hh, _⟩
  · simp [Value.ownBlock]
  · intro he
    have : g' = g := by simpa [Value.ownBlock] using he
    subst this
    unfold Box at hg
    rw [hh] at hg
    injection hg with hg
    injection hg with _ ht
    exact hne ht

/-- The reader at some place, at most P; its bytes. -/
def RD (R : Nat) (A : Option Addr) (len c : Nat) (f : Nat → Int) (P : Nat) (w : World) : Prop :=
  ∃ p : Nat, p ≤ P ∧ Box w R 82 #[.slice A len c, .int .i64 (p : Int)] ∧ Byt w R A len f
theorem RD.box {R : Nat} {A : Option Addr} {len c : Nat} {f : Nat → Int} {P : Nat} {w : World} (h : RD R A len c f P w) : ∃ cs, Box w R 82 cs := by
  obtain ⟨p, _, h, _⟩ := h
  exact ⟨_, h⟩
theorem RD.lt {R : Nat} {A : Option Addr} {len c : Nat} {f : Nat → Int} {P : Nat} {w : World} (h : RD R A len c f P w) : R < w.heap.size := by
  obtain ⟨cs, h⟩ := h.box
  exact h.lt
theorem Byt.below {w w' : World} {B : Nat} {A : Option Addr} {len : Nat} {f : Nat → Int} (h : Byt w B A len f) (hb : Below B w w') : Byt w' B A len f := fun hl => by
  obtain ⟨b, off, e, hb', hc⟩ := h hl
  exact ⟨b, off, e, hb', fun i hi => ⟨(hb.cell (p := ⟨b, off + i, none⟩) hb').trans (hc i hi).1, (hc i hi).2⟩⟩
/-- The reader abides whatever lies beyond it. -/
theorem RD.below {R : Nat} {A : Option Addr} {len c : Nat} {f : Nat → Int} {P : Nat} {w w' : World} (h : RD R A len c f P w) (hb : Below (R + 1) w w') : RD R A len c f P w' := by
  obtain ⟨p, hp, hx, hB⟩ := h
  exact ⟨p, hp, hx.below hb (Nat.lt_succ_self _), hB.below (hb.mono (Nat.le_succ _))⟩
theorem RD.alloc {R : Nat} {A : Option Addr} {len c : Nat} {f : Nat → Int} {P : Nat} {w : World} (h : RD R A len c f P w) (o : Obj) : RD R A len c f P (w.alloc o) :=
  h.below ((Below.refl _ _).alloc h.lt _)
theorem RD.grown {R g : Nat} {A : Option Addr} {len c : Nat} {f : Nat → Int} {P : Nat} {w w' : World} (h : RD R A len c f P w) (hg : w.grownBy w' (some g)) (hR : R < g) : RD R A len c f P w' :=
  h.below ((Below.refl _ _).grown hg h.lt (fun j e => by cases e; exact hR))
theorem RD.set {R : Nat} {A : Option Addr} {len c : Nat} {f : Nat → Int} {P : Nat} {w : World} (h : RD R A len c f P w) {q : Addr} (hq : R < q.block) (u : Value) : RD R A len c f P (w.setCell q u) :=
  h.below ((Below.refl _ _).setCell hq u)
theorem RD.mono {R : Nat} {A : Option Addr} {len c : Nat} {f : Nat → Int} {P P' : Nat} {w : World} (h : RD R A len c f P w) (hP : P ≤ P') : RD R A len c f P' w := by
  obtain ⟨p, hp, hx, hB⟩ := h
  exact ⟨p, Nat.le_trans hp hP, hx, hB⟩

theorem pick_rd (R : Nat) (A : Option Addr) (len c P : Nat) (n : Int) (f : Nat → Int) (w : World) (hlen : len ≤ 2000) (hP : P ≤ 1000000) (hn1 : 1 ≤ n) (hn2 : n ≤ 1000) (h : RD R A len c f P w) :
   Calls Try.prog 67 #[.pointer (some ⟨R, 0, none⟩), .int .i64 n] w fun e w' => ∃ k : Nat, e = .returned (.int .i64 k) ∧ (k : Int) < n ∧ RD R A len c f (P + 1) w' ∧ w.grownBy w' (some R) ∧ w'.heap.size = w.heap.size ∧ Below R w w' := by
  obtain ⟨p, hp, hx, hB⟩ := h
  refine (pick_any R A len c p n f w hlen (by omega) hn1 hn2 hx hB).mono ?_
  rintro e w' ⟨k, rfl, hk, hx', hg, hs⟩
  have hb : Below R w w' := (Below.refl R w).grown hg (Nat.le_of_lt hx.lt) (fun j e => by cases e; exact Nat.le_refl _)
  exact ⟨k, rfl, hk, ⟨p + 1, by omega, hx', hB.below hb⟩, hg, hs, hb⟩

theorem owns_picked {w w' : World} {R base e size n : Nat} {v : Value} {xs : List Value} {cs : Array Value} (h : w.ownsRow base e size v n xs) (hx : Box w R 82 cs) (hne : e ≠ 82) (hg : w.grownBy w' (some R)) : w'.ownsRow base e size v n xs :=
  h.kept hg (.inr (own_box_ne h hx hne))

theorem grown_setFar {w wx : World} {row : Option Nat} (h : w.grownBy wx row) {p : Addr} (hp : w.heap.size ≤ p.block) (u : Value) : w.grownBy (wx.setCell p u) row :=
  ⟨h.os, h.tape, h.output, by simpa using h.size, fun k hk hne => (Below.heap_setCell wx p u k (by omega)).trans (h.block k hk hne)⟩
theorem grown_far {w wx w8 : World} {row row' : Option Nat} (h : w.grownBy wx row) (hg : wx.grownBy w8 row') (hr : ∀ j, row' = some j → w.heap.size ≤ j) : w.grownBy w8 row :=
  ⟨hg.os.trans h.os, hg.tape.trans h.tape, hg.output.trans h.output, Nat.le_trans h.size hg.size, fun k hk hne => (hg.block k (Nat.lt_of_lt_of_le hk h.size) (fun e => by have := hr k e.symm; omega)).trans (h.block k hk hne)⟩




theorem new3 (w : World) (x y z : Value) (t : TypeId) : ∀ j u, [x, y, z][j]? = some u → (w.alloc (.cells #[x, y, z] t)).cell? ((⟨w.heap.size, 0, none⟩ : Addr).add j) = some u := by
  intro j u h
  have e : (⟨w.heap.size, 0, none⟩ : Addr).add j = ⟨w.heap.size, j, none⟩ := by
    unfold Addr.add
    by_cases hj : j = 0 <;> simp [hj]
  rw [e, (Box.new w t #[x, y, z]).cell j]
  simpa using h
theorem one3 (x y z : Int) : ∀ u ∈ [Value.int .i64 x, Value.int .i64 y, Value.int .i64 z], u.oneCell' = true := by
  intro u hu
  simp at hu
  rcases hu with rfl | rfl | rfl <;> rfl







end Go.Proofs.Ytohflcbpjjnccab
