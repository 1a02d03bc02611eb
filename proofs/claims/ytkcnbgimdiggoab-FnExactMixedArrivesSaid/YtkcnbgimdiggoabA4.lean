/-
  A contract over this seat: the reader of the drawn inputs gives a number from 0 to n-1 and only moves its place.
-/
import Derived.Test.YtkcnbgimdiggoabA2
import Derived.Laws.BitsAllLaws
import Derived.Deep.RegionHeld3
import Derived.Deep.DeepCutAuto
namespace Go.Proofs.Ytkcnbgimdiggoab
open Go.RowKit

/-- The code's bytes lie in memory below block B. -/
def Byt (w : World) (B : Nat) (A : Option Addr) (len : Nat) (f : Nat → Int) : Prop :=
  0 < len → ∃ b off, A = some ⟨b, off, none⟩ ∧ b < B ∧ ∀ i, i < len → w.cell? ⟨b, off + i, none⟩ = some (.int .u8 (f i)) ∧ 0 ≤ f i ∧ f i ≤ 255

theorem i64_xor_nat (a b : Nat) (ha : a < 4611686018427387904) (hb : b < 4611686018427387904) : bits .xor .i64 (a : Int) (b : Int) = ((a ^^^ b : Nat) : Int) := by
  have hx : a ^^^ b < 2 ^ 62 := Nat.xor_lt_two_pow (by omega) (by omega)
  show IntKind.i64.wrap ((BitVec.ofInt 64 (a : Int) ^^^ BitVec.ofInt 64 (b : Int)).toNat : Int) = _
  rw [BitVec.toNat_xor, ofInt_u64 a (by omega), ofInt_u64 b (by omega)]
  simp [IntKind.wrap, IntKind.bits, IntKind.signed]
  omega
theorem xor_nonneg {x : Int} (h0 : 0 ≤ x) (h1 : x < 4611686018427387904) : 0 ≤ bits .xor .i64 x (x / 64) := by
  obtain ⟨a, rfl⟩ : ∃ a : Nat, x = a := ⟨x.toNat, by omega⟩
  have e : ((a : Int) / 64) = ((a / 64 : Nat) : Int) := by omega
  rw [e, i64_xor_nat a (a / 64) (by omega) (by omega)]
  omega

/-- What 'pick' leaves: the reader's place has moved by one; all else is as it was. -/
def Picked (R : Nat) (A : Option Addr) (len c : Nat) (p : Nat) (n : Int) (w : World) (e : Ending) (w' : World) : Prop :=
  ∃ k : Nat, e = .returned (.int .i64 k) ∧ (k : Int) < n ∧ Box w' R 80 #[.slice A len c, .int .i64 ((p + 1 : Nat) : Int)] ∧ w.grownBy w' (some R) ∧ w'.heap.size = w.heap.size

theorem picked {R : Nat} {A : Option Addr} {len c p : Nat} {n v q : Int} {w : World} {d : Nat} (hR : Box w R 80 #[.slice A len c, .int .i64 (p : Int)]) (h0 : 0 ≤ v) (h1 : v < n) (hq : q = (p : Int) + 1) :
    Picked R A len c p n w (.returned (.int .i64 v)) ((w.setCell ⟨R, 1, none⟩ (.int .i64 q)).drewN d) := by
  refine ⟨v.toNat, by rw [Int.toNat_of_nonneg h0], by omega, ?_, ?_, ?_⟩
  · have := heap_set hR 1 (.int .i64 q)
    have e : ((p + 1 : Nat) : Int) = q := by omega
    rw [e]
    exact this
  · have h := grown_set (World.grownBy.refl w (some R)) 1 (.int .i64 q)
    exact ⟨h.os, h.tape, h.output, h.size, h.block⟩
  · show (w.setCell ⟨R, 1, none⟩ (.int .i64 q)).heap.size = w.heap.size
    simp

set_option maxRecDepth 100000 in
set_option maxHeartbeats 1600000 in
theorem pick_any (R : Nat) (A : Option Addr) (len c p : Nat) (n : Int) (f : Nat → Int) (w : World) (hlen : len ≤ 2000) (hp : p ≤ 1000000) (hn1 : 1 ≤ n) (hn2 : n ≤ 1000)
    (hR : Box w R 80 #[.slice A len c, .int .i64 (p : Int)]) (hB : Byt w R A len f) :
   Calls Try.prog 70 #[.pointer (some ⟨R, 0, none⟩), .int .i64 n] w (Picked R A len c p n w) := by
  have HR := Lib.hid hR
  have HB := Lib.hid hB
  obtain ⟨z0, e0, e1, q0, q1⟩ := hR.two
  clear hR hB
  by_cases hl0 : len = 0
  · subst hl0
    go_enter Try.func70, Try.ntmps70
    go_wp2_with fail
    go_ret
    exact picked (d := 0) HR.out (by omega) (by omega) rfl
  · obtain ⟨b, off, rfl, hbR, hcell⟩ := HB.out (by omega)
    have hle : ((len : Int) == 0) = false := by simp; omega
    have hlp : 0 < len := by omega
    have HF := Lib.hid hcell
    by_cases hk : p < len
    · obtain ⟨hc, hf0, hf1⟩ := hcell p hk
      go_enter Try.func70, Try.ntmps70
      clear hcell
      go_wp2_with fail
      go_ret
      exact picked (d := 0) HR.out (Int.emod_nonneg _ (by omega)) (Int.emod_lt_of_pos _ (by omega)) rfl
    · obtain ⟨hc, hf0, hf1⟩ := hcell (p % len) (Nat.mod_lt _ (by omega))
      obtain ⟨hd, hg0, hg1⟩ := hcell ((p * 7 + 3) % len) (Nat.mod_lt _ (by omega))
      go_enter Try.func70, Try.ntmps70
      clear hcell
      go_wp2_with fail
      have d0 : 0 ≤ (p : Int) / (len : Int) := Int.ediv_nonneg (by omega) (by omega)
      have d1 : (p : Int) / (len : Int) ≤ 1000000 := Int.le_trans (Int.ediv_le_self _ (by omega)) (by omega)
      have m0 : 0 ≤ (p : Int) % (len : Int) := Int.emod_nonneg _ (by omega)
      have m1 : (p : Int) % (len : Int) < (len : Int) := Int.emod_lt_of_pos _ (by omega)
      have m2 : 0 ≤ ((p : Int) * 7 + 3) % (len : Int) := Int.emod_nonneg _ (by omega)
      have m3 : ((p : Int) * 7 + 3) % (len : Int) < (len : Int) := Int.emod_lt_of_pos _ (by omega)
      refine wp_region_quiet_lit (by kernel_rfl) (by kernel_rfl) ?_
      repeat (go_big_quiet_step (fail))
      refine wpQuiet_nil ?_
      intro _ hw'
      obtain ⟨nq, hw''⟩ := hw'
      subst hw''
      go_wp2_with fail
      go_ret
      have hX := xor_nonneg (x := f (p % len) * 131 + f ((p * 7 + 3) % len) * 1117 + (p : Int) * 29 + (p : Int) / (len : Int) * 53) (by omega) (by omega)
      exact picked HR.out (Int.tmod_nonneg _ hX) (Int.tmod_lt_of_pos _ (by omega)) rfl

end Go.Proofs.Ytkcnbgimdiggoab

/-
  A contract over this seat: the drawn graph: a number of nodes, and links in memory of their own.
-/
namespace Go.Proofs.Ytkcnbgimdiggoab
open Go.RowKit

theorem own_box_ne {w : World} {base e size n : Nat} {v : Value} {xs : List Value} {g t : Nat} {cs : Array Value} (h : w.ownsRow base e size v n xs) (hg : Box w g t cs) (hne : e ≠ t) : v.ownBlock ≠ some g := by
  rcases h.2 with ⟨rfl, _⟩ | ⟨g', cap, cur, rfl, _, hh, _⟩
  · simp [Value.ownBlock]
  · intro he
    have : g' = g := by simpa [Value.ownBlock] using he
    subst this
    unfold Box at hg
    rw [hh] at hg
    injection hg with hg
    injection hg with _ ht
    exact hne ht

/-- The reader at some place, at most P; its bytes. -/
def RD (R : Nat) (A : Option Addr) (len c : Nat) (f : Nat → Int) (P : Nat) (w : World) : Prop :=
  ∃ p : Nat, p ≤ P ∧ Box w R 80 #[.slice A len c, .int .i64 (p : Int)] ∧ Byt w R A len f
theorem RD.box {R : Nat} {A : Option Addr} {len c : Nat} {f : Nat → Int} {P : Nat} {w : World} (h : RD R A len c f P w) : ∃ cs, Box w R 80 cs := by
  obtain ⟨p, _, h, _⟩ := h
  exact ⟨_, h⟩
theorem RD.lt {R : Nat} {A : Option Addr} {len c : Nat} {f : Nat → Int} {P : Nat} {w : World} (h : RD R A len c f P w) : R < w.heap.size := by
  obtain ⟨cs, h⟩ := h.box
  exact h.lt
theorem Byt.below {w w' : World} {B : Nat} {A : Option Addr} {len : Nat} {f : Nat → Int} (h : Byt w B A len f) (hb : Below B w w') : Byt w' B A len f := fun hl => by
  obtain ⟨b, off, e, hb', hc⟩ := h hl
  exact ⟨b, off, e, hb', fun i hi => ⟨(hb.cell (p := ⟨b, off + i, none⟩) hb').trans (hc i hi).1, (hc i hi).2⟩⟩
/-- The reader abides whatever lies beyond it. -/
theorem RD.below {R : Nat} {A : Option Addr} {len c : Nat} {f : Nat → Int} {P : Nat} {w w' : World} (h : RD R A len c f P w) (hb : Below (R + 1) w w') : RD R A len c f P w' := by
  obtain ⟨p, hp, hx, hB⟩ := h
  exact ⟨p, hp, hx.below hb (Nat.lt_succ_self _), hB.below (hb.mono (Nat.le_succ _))⟩
theorem RD.alloc {R : Nat} {A : Option Addr} {len c : Nat} {f : Nat → Int} {P : Nat} {w : World} (h : RD R A len c f P w) (o : Obj) : RD R A len c f P (w.alloc o) :=
  h.below ((Below.refl _ _).alloc h.lt _)
theorem RD.grown {R g : Nat} {A : Option Addr} {len c : Nat} {f : Nat → Int} {P : Nat} {w w' : World} (h : RD R A len c f P w) (hg : w.grownBy w' (some g)) (hR : R < g) : RD R A len c f P w' :=
  h.below ((Below.refl _ _).grown hg h.lt (fun j e => by cases e; exact hR))
theorem RD.set {R : Nat} {A : Option Addr} {len c : Nat} {f : Nat → Int} {P : Nat} {w : World} (h : RD R A len c f P w) {q : Addr} (hq : R < q.block) (u : Value) : RD R A len c f P (w.setCell q u) :=
  h.below ((Below.refl _ _).setCell hq u)
theorem RD.mono {R : Nat} {A : Option Addr} {len c : Nat} {f : Nat → Int} {P P' : Nat} {w : World} (h : RD R A len c f P w) (hP : P ≤ P') : RD R A len c f P' w := by
  obtain ⟨p, hp, hx, hB⟩ := h
  exact ⟨p, Nat.le_trans hp hP, hx, hB⟩

theorem pick_rd (R : Nat) (A : Option Addr) (len c P : Nat) (n : Int) (f : Nat → Int) (w : World) (hlen : len ≤ 2000) (hP : P ≤ 1000000) (hn1 : 1 ≤ n) (hn2 : n ≤ 1000) (h : RD R A len c f P w) :
   Calls Try.prog 70 #[.pointer (some ⟨R, 0, none⟩), .int .i64 n] w fun e w' => ∃ k : Nat, e = .returned (.int .i64 k) ∧ (k : Int) < n ∧ RD R A len c f (P + 1) w' ∧ w.grownBy w' (some R) ∧ w'.heap.size = w.heap.size ∧ Below R w w' := by
  obtain ⟨p, hp, hx, hB⟩ := h
  refine (pick_any R A len c p n f w hlen (by omega) hn1 hn2 hx hB).mono ?_
  rintro e w' ⟨k, rfl, hk, hx', hg, hs⟩
  have hb : Below R w w' := (Below.refl R w).grown hg (Nat.le_of_lt hx.lt) (fun j e => by cases e; exact Nat.le_refl _)
  exact ⟨k, rfl, hk, ⟨p + 1, by omega, hx', hB.below hb⟩, hg, hs, hb⟩

theorem owns_picked {w w' : World} {R base e size n : Nat} {v : Value} {xs : List Value} {cs : Array Value} (h : w.ownsRow base e size v n xs) (hx : Box w R 80 cs) (hne : e ≠ 80) (hg : w.grownBy w' (some R)) : w'.ownsRow base e size v n xs :=
  h.kept hg (.inr (own_box_ne h hx hne))

theorem grown_setFar {w wx : World} {row : Option Nat} (h : w.grownBy wx row) {p : Addr} (hp : w.heap.size ≤ p.block) (u : Value) : w.grownBy (wx.setCell p u) row :=
  ⟨h.os, h.tape, h.output, by simpa using h.size, fun k hk hne => (Below.heap_setCell wx p u k (by omega)).trans (h.block k hk hne)⟩
theorem grown_far {w wx w8 : World} {row row' : Option Nat} (h : w.grownBy wx row) (hg : wx.grownBy w8 row') (hr : ∀ j, row' = some j → w.heap.size ≤ j) : w.grownBy w8 row :=
  ⟨hg.os.trans h.os, hg.tape.trans h.tape, hg.output.trans h.output, Nat.le_trans h.size hg.size, fun k hk hne => (hg.block k (Nat.lt_of_lt_of_le hk h.size) (fun e => by have := hr k e.symm; omega)).trans (h.block k hk hne)⟩

/-- The state while the graph is drawn: the reader, the result's box, the graph's box, the row of links. -/
def GI (w : World) (R Q G : Nat) (A : Option Addr) (len c : Nat) (f : Nat → Int) (n : Int) (P : Nat) (ls : List Lk) (v : Value) (wx : World) : Prop :=
  RD R A len c f P wx ∧ Box wx Q 25 #[.int .i64 0, .slice none 0 0] ∧ Box wx G 25 #[.int .i64 n, v] ∧
  wx.ownsRow w.heap.size 68 3 v ls.length (flat ls) ∧ w.grownBy wx (some R) ∧ w.heap.size ≤ wx.heap.size
theorem GI.picked {w w1 w2 : World} {R Q G : Nat} {A : Option Addr} {len c : Nat} {f : Nat → Int} {n : Int} {P P' : Nat} {ls : List Lk} {v : Value} (h : GI w R Q G A len c f n P ls v w1) (hQ : R < Q) (hG : R < G)
    (hr : RD R A len c f P' w2) (hg : w1.grownBy w2 (some R)) (_hb : Below R w1 w2) : GI w R Q G A len c f n P' ls v w2 := by
  obtain ⟨h1, h2, h3, h4, h5, h6⟩ := h
  obtain ⟨cs, hx⟩ := h1.box
  exact ⟨hr, h2.grown hg (by omega), h3.grown hg (by omega), owns_picked h4 hx (by decide) hg, grown_trans h5 hg, Nat.le_trans h6 hg.size⟩

theorem GI.drew {w w1 : World} {R Q G : Nat} {A : Option Addr} {len c : Nat} {f : Nat → Int} {n : Int} {P : Nat} {ls : List Lk} {v : Value} (h : GI w R Q G A len c f n P ls v w1) : GI w R Q G A len c f n P ls v w1.drew := by
  obtain ⟨⟨p, hp, hx, hB⟩, h2, h3, h4, h5, h6⟩ := h
  exact ⟨⟨p, hp, hx, hB⟩, h2, h3, h4, ⟨h5.os, h5.tape, h5.output, h5.size, h5.block⟩, h6⟩
theorem new3 (w : World) (x y z : Value) (t : TypeId) : ∀ j u, [x, y, z][j]? = some u → (w.alloc (.cells #[x, y, z] t)).cell? ((⟨w.heap.size, 0, none⟩ : Addr).add j) = some u := by
  intro j u h
  have e : (⟨w.heap.size, 0, none⟩ : Addr).add j = ⟨w.heap.size, j, none⟩ := by
    unfold Addr.add
    by_cases hj : j = 0 <;> simp [hj]
  rw [e, (Box.new w t #[x, y, z]).cell j]
  simpa using h
theorem one3 (x y z : Int) : ∀ u ∈ [Value.int .i64 x, Value.int .i64 y, Value.int .i64 z], u.oneCell' = true := by
  intro u hu
  simp at hu
  rcases hu with rfl | rfl | rfl <;> rfl
/-- Behind an append onto the row, ahead of the store of the new slice. -/
theorem GI.appended {w w7 w8 : World} {R Q G : Nat} {A : Option Addr} {len c : Nat} {f : Nat → Int} {n : Int} {P k : Nat} {ls : List Lk} {v v' : Value} {o : Obj} {ys : List Value} (h : GI w R Q G A len c f n P ls v w7) (hRw : R < w.heap.size)
    (hown : w8.ownsRow w.heap.size 68 3 v' k ys) (hg : (w7.alloc o).grownBy w8 v.ownBlock) :
    RD R A len c f P w8 ∧ Box w8 Q 25 #[.int .i64 0, .slice none 0 0] ∧ Box w8 G 25 #[.int .i64 n, v] ∧
      w8.ownsRow w.heap.size 68 3 v' k ys ∧ w.grownBy w8 (some R) ∧ w.heap.size ≤ w8.heap.size := by
  obtain ⟨h1, h2, h3, h4, h5, h6⟩ := h
  have hbase := h4.lt
  refine ⟨?_, ?_, ?_, hown, ?_, ?_⟩
  · exact h1.below (((Below.refl (R + 1) w7).alloc h1.lt o).grown hg (by have := h1.lt; simp; omega) (fun j e => by have := (hbase j e).1; omega))
  · exact (hg.block Q (by have := h2.lt; simp; omega) (fun e => own_box_ne h4 h2 (by decide) e.symm)).trans (h2.alloc o)
  · exact (hg.block G (by have := h3.lt; simp; omega) (fun e => own_box_ne h4 h3 (by decide) e.symm)).trans (h3.alloc o)
  · exact grown_far (grown_alloc h5 o) hg (fun j e => (hbase j e).1)
  · have := hg.size; simp at this; omega
theorem GI.stored {w w8 : World} {R Q G : Nat} {A : Option Addr} {len c : Nat} {f : Nat → Int} {n : Int} {P : Nat} {ls : List Lk} {v v' : Value} {x y z : Int}
    (h : RD R A len c f P w8 ∧ Box w8 Q 25 #[.int .i64 0, .slice none 0 0] ∧ Box w8 G 25 #[.int .i64 n, v] ∧
      w8.ownsRow w.heap.size 68 3 v' (ls.length + 1) (flat ls ++ [.int .i64 x, .int .i64 y, .int .i64 z]) ∧ w.grownBy w8 (some R) ∧ w.heap.size ≤ w8.heap.size) (hG : R < G) (hQ : Q ≠ G) (hwG : w.heap.size ≤ G) :
    GI w R Q G A len c f n P (ls ++ [⟨x, y, z⟩]) v' (w8.setCell ⟨G, 1, none⟩ v') := by
  obtain ⟨h1, h2, h3, h4, h5, h6⟩ := h
  refine ⟨h1.set hG _, (Below.heap_setCell w8 ⟨G, 1, none⟩ _ Q hQ).trans h2, heap_set h3 1 _, ?_, grown_setFar h5 hwG _, by simpa using h6⟩
  have hk := h4.kept (grown_set (World.grownBy.refl w8 (some G)) 1 v') (.inr (own_box_ne h4 h3 (by decide)))
  rw [flat_append, List.length_append]
  exact hk
theorem GI.mono {w w1 : World} {R Q G : Nat} {A : Option Addr} {len c : Nat} {f : Nat → Int} {n : Int} {P P' : Nat} {ls : List Lk} {v : Value} (h : GI w R Q G A len c f n P ls v w1) (hP : P ≤ P') : GI w R Q G A len c f n P' ls v w1 :=
  ⟨h.1.mono hP, h.2⟩
theorem GI.setN {w w1 : World} {R Q G : Nat} {A : Option Addr} {len c : Nat} {f : Nat → Int} {n : Int} {P : Nat} {ls : List Lk} {v : Value} (h : GI w R Q G A len c f n P ls v w1) (hG : R < G) (hQ : Q ≠ G) (hwG : w.heap.size ≤ G) (m : Int) :
    GI w R Q G A len c f m P ls v (w1.setCell ⟨G, 0, none⟩ (.int .i64 m)) := by
  obtain ⟨h1, h2, h3, h4, h5, h6⟩ := h
  refine ⟨h1.set hG _, (Below.heap_setCell w1 ⟨G, 0, none⟩ _ Q hQ).trans h2, heap_set h3 0 _, ?_, grown_setFar h5 hwG _, by simpa using h6⟩
  exact h4.kept (grown_set (World.grownBy.refl w1 (some G)) 0 _) (.inr (own_box_ne h4 h3 (by decide)))

theorem Own1.set_box {w : World} {A : Option Addr} {g Q t : Nat} {ls : List Lk} {cs : Array Value} (h : Own1 w A g ls) (hb : Box w Q t cs) (ht : t ≠ 68) (i : Nat) (u : Value) : Own1 (w.setCell ⟨Q, i, none⟩ u) A g ls := fun hp => by
  obtain ⟨e, ks, hh, hc⟩ := h hp
  have hne : g ≠ Q := by
    rintro rfl
    unfold Box at hb
    rw [hh] at hb
    injection hb with hb
    injection hb with _ h2
    exact ht h2.symm
  exact ⟨e, ks, (Below.heap_setCell w ⟨Q, i, none⟩ u g hne).trans hh, hc⟩

/-- A drawn graph. -/
def Drawn (R : Nat) (A : Option Addr) (len c : Nat) (f : Nat → Int) (P : Nat) (w : World) (e : Ending) (w' : World) : Prop :=
  ∃ (n : Int) (ls : List Lk) (A' : Option Addr) (c' : Nat), e = .returned (gval n A' ls.length c') ∧ 0 ≤ n ∧ n ≤ 10 ∧ ls.length ≤ 15 ∧ w'.ownsRow w.heap.size 68 3 (.slice A' ls.length c') ls.length (flat ls) ∧ RD R A len c f P w' ∧ w.grownBy w' (some R)

set_option maxRecDepth 100000 in
set_option maxHeartbeats 4000000 in
theorem drawG_any (R : Nat) (A : Option Addr) (len c P : Nat) (f : Nat → Int) (w : World) (hlen : len ≤ 2000) (hP : P ≤ 1000) (hR : RD R A len c f P w) :
   Calls Try.prog 69 #[.pointer (some ⟨R, 0, none⟩)] w (Drawn R A len c f (P + 1000) w) := by
  obtain ⟨i0, hi, hz0, hz1, hz2⟩ := info_parts infoLink
  have HR := Lib.hid hR
  have zR := hR.lt
  clear hR
  go_enter Try.func69, Try.ntmps69
  go_wp2_with fail
  have Q0 := Box.new w 25 #[.int .i64 0, .slice none 0 0]
  refine (pick_rd R A len c P 7 f _ hlen (by omega) (by omega) (by omega) (HR.out.alloc _)).mono ?_
  rintro e w1 ⟨k1, rfl, hk1, hR1, hg1, hs1, hb1⟩
  have Q1 := Q0.grown hg1 (by omega)
  rw [World.size_alloc] at hs1
  have GI1 : GI w R w.heap.size (w1.heap.size + 1) A len c f (2 + k1) (P + 1) [] (.slice (some ⟨w1.heap.size, 0, none⟩) 0 0) ((w1.alloc (.cells #[] 68)).alloc (.cells #[.int .i64 (2 + k1), .slice (some ⟨w1.heap.size, 0, none⟩) 0 0] 25)) := by
    refine ⟨(hR1.alloc _).alloc _, (Q1.alloc _).alloc _, ?_, ?_, ?_, ?_⟩
    · have := Box.new (w1.alloc (.cells #[] 68)) 25 #[.int .i64 (2 + k1), .slice (some ⟨w1.heap.size, 0, none⟩) 0 0]
      rwa [World.size_alloc] at this
    · exact (World.ownsRow_made (base := w.heap.size) (e := 68) (size := 3) w1 #[] 0 (by omega) (by unfold maxLen; omega) rfl).alloc (.cells #[.int .i64 (2 + k1), .slice (some ⟨w1.heap.size, 0, none⟩) 0 0] 25)
    · exact grown_alloc (grown_alloc (grown_trans (World.grownBy_alloc w _ _) hg1) _) _
    · simp; omega
  have hGR : R < w1.heap.size + 1 ∧ w.heap.size < w1.heap.size + 1 := by omega
  generalize hW : (w1.alloc (.cells #[] 68)).alloc (.cells #[.int .i64 (2 + k1), .slice (some ⟨w1.heap.size, 0, none⟩) 0 0] 25) = W2 at GI1
  generalize hGG : w1.heap.size + 1 = G at *
  have GH := Lib.hid GI1
  obtain ⟨hGR, hGQ⟩ := hGR
  clear GI1 Q0 Q1 hR1 hg1 hb1 hs1
  go_wp2_with fail
  refine (pick_rd R A len c (P + 1) 3 f _ hlen (by omega) (by omega) (by omega) GH.out.1).mono ?_
  rintro e w2 ⟨k2, rfl, hk2, hR2, hg2, hs2, hb2⟩
  have GI2 := Lib.hid (GH.out.picked (by omega) hGR hR2 hg2 hb2)
  clear GH hR2 hg2 hs2 hb2 hW
  go_upto_if 15 with fail
  go_cut [] (fun wx => ∃ (n : Int), 2 ≤ n ∧ n ≤ 8 ∧ GI w R w.heap.size G A len c f n (P + 3) [] (.slice (some ⟨w1.heap.size, 0, none⟩) 0 0) wx)
  case first =>
    by_cases h2 : 0 < k2
    · go_wp2_with fail
      refine (pick_rd R A len c (P + 2) 4 f _ hlen (by omega) (by omega) (by omega) GI2.out.1).mono ?_
      rintro e w3 ⟨k3, rfl, hk3, hR3, hg3, hs3, hb3⟩
      have GI3 := Lib.hid (GI2.out.picked (by omega) hGR hR3 hg3 hb3)
      obtain ⟨zg, c0, c1, q0, q1⟩ := GI3.out.2.2.1.two
      clear GI2 hR3 hg3 hs3 hb3
      go_wp2_with fail
      go_meet
      case rel => exact ⟨4 + k3, by omega, by omega, GI3.out.setN hGR (by omega) (by omega) _⟩
    · go_wp2_with fail
      go_meet
      case rel => exact ⟨2 + k1, by omega, by omega, GI2.out.mono (by omega)⟩
  case rest =>
    clear GI2
    obtain ⟨n, hn1, hn2, hcut⟩ := hcut
    have GC := Lib.hid hcut
    clear hcut
    go_wp2_with fail
    refine (pick_rd R A len c (P + 3) 3 f _ hlen (by omega) (by omega) (by omega) GC.out.1).mono ?_
    rintro e w4 ⟨k4, rfl, hk4, hR4, hg4, hs4, hb4⟩
    have GI4 := Lib.hid (GC.out.picked (by omega) hGR hR4 hg4 hb4)
    clear GC hR4 hg4 hs4 hb4
    go_wp2_with fail
    obtain ⟨m, rfl⟩ : ∃ m : Nat, n = (m : Int) := ⟨n.toNat, by omega⟩
    have hm2 : 2 ≤ m := by omega
    have hm8 : m ≤ 8 := by omega
    clear hn1 hn2
    go_loopg [5] 8 (fun g s5 wx => ∃ (a : Nat) (ls : List Lk) (v : Value), a ≤ m ∧ g = 8 - a ∧ s5 = .int .i64 a ∧ ls.length ≤ 14 ∧ GI w R w.heap.size G A len c f m (P + 4 + 60 * a) ls v wx)
    case atStart => exact ⟨0, [], _, Nat.zero_le _, rfl, rfl, by simp, GI4.out⟩
    case round =>
      obtain ⟨a, ls, v, ha, rfl, rfl, hls, hgi⟩ := hrel
      have S := Lib.hid hgi
      obtain ⟨zg, c0, c1, q0, q1⟩ := hgi.2.2.1.two
      clear hgi GI4
      by_cases ham : a < m
      · go_wp2_with fail
        go_loopg [6] (8 - (a + 1)) (fun g s6 wx => ∃ (b : Nat) (ls : List Lk) (v : Value), b ≤ m ∧ g = 8 - b ∧ s6 = .int .i64 b ∧ ls.length ≤ 14 ∧ GI w R w.heap.size G A len c f m (P + 4 + 60 * a + 5 * b) ls v wx)
        case atStart => exact ⟨a + 1, ls, v, by omega, by omega, by go_num, hls, S.out.mono (by omega)⟩
        case round =>
          clear c0 c1 q0 q1 zg S
          obtain ⟨b, ls, v, hb, rfl, rfl, hls, hgi⟩ := hrel
          obtain ⟨A', g', c', rfl, _, _, _⟩ := own_slice hgi.2.2.2.1 hgi.2.2.2.2.2
          have S := Lib.hid hgi
          obtain ⟨zg, c0, c1, q0, q1⟩ := hgi.2.2.1.two
          clear hgi
          by_cases hbm : b < m
          · have hbm' : (b : Int) < (m : Int) := by omega
            go_upto_region 11 with fail
            go_cut [7] (fun s7 wx => wx = wr ∧ ∃ nb : Bool, s7 = .bool nb)
            case first =>
              cases hq1 : ((b : Int) == (a : Int) + 1) <;> cases hq2 : ((a : Int) == 0) <;> cases hq3 : ((b : Int) == (m : Int) - 1)
              all_goals
                go_wp2_with fail
                go_meet
                case rel => exact ⟨rfl, _, rfl⟩
            case rest =>
              obtain ⟨rfl, nb, rfl⟩ := hcut
              go_upto_region 12 with fail
              go_cut [69] (fun s69 wx => ∃ bl : Bool, s69 = .bool bl ∧ (bl = true → ls.length < 14) ∧ GI w R w.heap.size G A len c f m (P + 4 + 60 * a + 5 * b + 2) ls (.slice A' ls.length c') wx)
              case first =>
                by_cases hl14 : ls.length < 14
                · cases nb
                  all_goals
                    go_wp2_with (first
                      | (go_at_call 70; refine (pick_rd R A len c _ _ f _ hlen (by omega) (by omega) (by omega) S.out.1).mono ?_; rintro e w5 ⟨k5, rfl, hk5, hR5, hg5, hs5, hb5⟩; have S5 := Lib.hid (S.out.picked (by omega) hGR hR5 hg5 hb5); clear S hR5 hg5 hs5 hb5)
                      | (go_at_call 70; refine (pick_rd R A len c _ _ f _ hlen (by omega) (by omega) (by omega) S5.out.1).mono ?_; rintro e w6 ⟨k6, rfl, hk6, hR6, hg6, hs6, hb6⟩; have S6 := Lib.hid (S5.out.picked (by omega) hGR hR6 hg6 hb6); clear S5 hR6 hg6 hs6 hb6))
                    all_goals
                      go_meet
                      case rel => first | exact ⟨_, rfl, fun _ => hl14, S6.out.mono (by omega)⟩ | exact ⟨_, rfl, fun _ => hl14, S5.out.mono (by omega)⟩
                · go_wp2_with fail
                  go_meet
                  case rel => exact ⟨_, rfl, fun h => absurd h (by simp), S.out.mono (by omega)⟩
              case rest =>
                obtain ⟨bl, rfl, hl14, hgi⟩ := hcut
                clear S c0 c1 q0 q1 zg
                cases bl with
                | false =>
                  have S := Lib.hid hgi
                  clear hgi hl14
                  go_wp2_with fail
                  go_roundg (8 - (b + 1))
                  case measure => omega
                  case rel => exact ⟨b + 1, ls, _, by omega, rfl, by go_num, hls, S.out.mono (by omega)⟩
                | true =>
                  have hl14' := hl14 rfl
                  have S := Lib.hid hgi
                  obtain ⟨zg, c0, c1, q0, q1⟩ := hgi.2.2.1.two
                  clear hgi hl14
                  have SD := Lib.hid S.out.drew
                  clear S
                  go_wp2_with fail
                  go_region_law (first
                      | (go_simp; go_at_call 70; refine (pick_rd R A len c _ _ f _ hlen (by omega) (by omega) (by omega) SD.out.1).mono ?_; rintro e w5 ⟨k5, rfl, hk5, hR5, hg5, hs5, hb5⟩; have S5 := Lib.hid (SD.out.picked (by omega) hGR hR5 hg5 hb5); have e5 : w5.cell? ⟨G, 1, none⟩ = _ := S5.out.2.2.1.cell 1; clear SD hR5 hg5 hs5 hb5)
                      | (go_simp; go_at_call 70; refine (pick_rd R A len c _ _ f _ hlen (by omega) (by omega) (by omega) S5.out.1).mono ?_; rintro e w6 ⟨k6, rfl, hk6, hR6, hg6, hs6, hb6⟩; have S6 := Lib.hid (S5.out.picked (by omega) hGR hR6 hg6 hb6); have e6 : w6.cell? ⟨G, 1, none⟩ = _ := S6.out.2.2.1.cell 1; clear S5 hR6 hg6 hs6 hb6)
                      | (go_simp; go_at_call 70; refine (pick_rd R A len c _ _ f _ hlen (by omega) (by omega) (by omega) S6.out.1).mono ?_; rintro e w7 ⟨k7, rfl, hk7, hR7, hg7, hs7, hb7⟩; have S7 := Lib.hid (S6.out.picked (by omega) hGR hR7 hg7 hb7); have e7 : w7.cell? ⟨G, 1, none⟩ = _ := S7.out.2.2.1.cell 1; have z7 := S7.out.2.2.1.lt; clear S6 hR7 hg7 hs7 hb7)
                      | (refine step_append_lies _ rfl _ _ 23 rfl w.heap.size 68 i0 _ 3 24 Try.underlying23 hi hz0 hz1 hz2 rfl (by decide) _ ls.length (flat ls) rfl (S7.out.2.2.2.1.alloc _) ⟨w7.heap.size, 0, none⟩ 1 1 _ rfl rfl (new3 _ _ _ _ _) (one3 _ _ _) (by decide) (by unfold maxLen; omega) (by omega) (by have := S7.out.2.2.2.2.2; simp; omega) _ rfl ?_; intro g8 cap8 w8 hown8 hgrow8 hat8 hlt8; have S8 := Lib.hid (S7.out.appended zR hown8 hgrow8); have e8 : w8.cell? ⟨G, 1, none⟩ = _ := S8.out.2.2.1.cell 1; have q8 : w8.frozen? ⟨G, 1, none⟩ = false := S8.out.2.2.1.frozen 1; clear S7 hown8 hgrow8 hat8 hlt8))
                  all_goals
                    go_wp2_with fail
                    go_roundg (8 - (b + 1))
                    case measure => omega
                    case rel => exact ⟨b + 1, ls ++ [⟨_, _, _⟩], _, by omega, rfl, by go_num, by simp; omega, (GI.stored S8.out hGR (by omega) (by omega)).mono (by omega)⟩
          · have hbm' : ¬ (b : Int) < (m : Int) := by omega
            go_wp2_with fail
            go_roundg (8 - (a + 1))
            case measure => omega
            case rel => exact ⟨a + 1, ls, _, by omega, rfl, by go_num, hls, S.out.mono (by omega)⟩
      · obtain rfl : a = m := by omega
        obtain ⟨A', g', c', rfl, hg', _, ho'⟩ := own_slice S.out.2.2.2.1 S.out.2.2.2.2.2
        clear ho' hg'
        go_wp2_with fail
        refine (pick_rd R A len c _ 24 f _ hlen (by omega) (by omega) (by omega) S.out.1).mono ?_
        rintro e w9 ⟨k9, rfl, hk9, hR9, hg9, hs9, hb9⟩
        have S9 := Lib.hid (S.out.picked (by omega) hGR hR9 hg9 hb9)
        clear c0 c1 q0 q1 zg
        obtain ⟨zg, c0, c1, q0, q1⟩ := S9.out.2.2.1.two
        obtain ⟨zq, d0, d1, p0, p1⟩ := S9.out.2.1.two
        have hQG : w.heap.size ≠ G := by omega
        clear S hR9 hg9 hs9 hb9 
        by_cases h9 : k9 = 0
        · subst h9
          go_wp2_with fail
          have hs := S9.out
          have b1 : Box ((w9.setCell ⟨G, 0, none⟩ (.int .i64 1)).setCell ⟨G, 1, none⟩ (.slice (some ⟨w9.heap.size, 0, none⟩) 0 0)) w.heap.size 25 #[.int .i64 0, .slice none 0 0] :=
            (Below.heap_setCell _ ⟨G, 1, none⟩ _ _ hQG).trans ((Below.heap_setCell w9 ⟨G, 0, none⟩ _ _ hQG).trans hs.2.1)
          have b2 := Box.alloc (heap_set (heap_set b1 0 (.int .i64 1)) 1 (.slice (some ⟨w9.heap.size, 0, none⟩) 0 0)) (.cells #[] 68)
          have r0 := b2.cell 0
          have r1 := b2.cell 1
          have hG' : w.heap.size ≤ G := Nat.le_of_lt hGQ
          refine bodyPost_ret (v := gval 1 (some ⟨w9.heap.size, 0, none⟩) 0 0) (by simp [results, Try.results69, go_sem, r0, r1]) rfl ⟨1, [], some ⟨w9.heap.size, 0, none⟩, 0, rfl, by omega, by omega, by simp, ?_, ?_, ?_⟩
          · have := World.ownsRow_made (base := w.heap.size) (e := 68) (size := 3) ((((w9.setCell ⟨G, 0, none⟩ (.int .i64 1)).setCell ⟨G, 1, none⟩ (.slice (some ⟨w9.heap.size, 0, none⟩) 0 0)).setCell ⟨w.heap.size, 0, none⟩ (.int .i64 1)).setCell ⟨w.heap.size, 1, none⟩ (.slice (some ⟨w9.heap.size, 0, none⟩) 0 0)) #[] 0 (by simp; exact hs.2.2.2.2.2) (by unfold maxLen; omega) rfl
            simp only [World.size_setCell] at this
            exact this
          · exact RD.mono (((((hs.1.set (q := ⟨G, 0, none⟩) hGR _).set (q := ⟨G, 1, none⟩) hGR _).set (q := ⟨w.heap.size, 0, none⟩) zR _).set (q := ⟨w.heap.size, 1, none⟩) zR _).alloc _) (by omega)
          · exact grown_alloc (grown_setFar (grown_setFar (grown_setFar (grown_setFar hs.2.2.2.2.1 (p := ⟨G, 0, none⟩) hG' _) (p := ⟨G, 1, none⟩) hG' _) (p := ⟨w.heap.size, 0, none⟩) (Nat.le_refl _) _) (p := ⟨w.heap.size, 1, none⟩) (Nat.le_refl _) _) _
        · have h9' : ((k9 : Int) == 0) = false := by simpa using h9
          go_wp2_with fail
          have hs := S9.out
          have b2 : Box _ _ _ _ := heap_set (heap_set hs.2.1 0 (.int .i64 (a : Int))) 1 (.slice A' ls.length c')
          have r0 := b2.cell 0
          have r1 := b2.cell 1
          refine bodyPost_ret (v := gval (a : Int) A' ls.length c') (by simp [results, Try.results69, go_sem, r0, r1]) rfl ⟨(a : Int), ls, A', c', rfl, by omega, by omega, by omega, ?_, ?_, ?_⟩
          · have k1 := hs.2.2.2.1.kept (grown_set (World.grownBy.refl w9 (some w.heap.size)) 0 (.int .i64 (a : Int))) (.inr (own_box_ne hs.2.2.2.1 hs.2.1 (by decide)))
            exact k1.kept (grown_set (World.grownBy.refl _ (some w.heap.size)) 1 _) (.inr (own_box_ne k1 (heap_set hs.2.1 0 _) (by decide)))
          · exact RD.mono ((hs.1.set (q := ⟨w.heap.size, 0, none⟩) zR _).set (q := ⟨w.heap.size, 1, none⟩) zR _) (by omega)
          · exact grown_setFar (grown_setFar hs.2.2.2.2.1 (p := ⟨w.heap.size, 0, none⟩) (Nat.le_refl _) _) (p := ⟨w.heap.size, 1, none⟩) (Nat.le_refl _) _

end Go.Proofs.Ytkcnbgimdiggoab
