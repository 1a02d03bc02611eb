/-
  Contracts over this seat: marks into one announcement, and whether it holds them; the state of the exact law of LsaOf.
-/
import Derived.Test.YtimebipgiicmiacZz
import Derived.Test.YtimebipgiicmiacB1
namespace Go.Proofs.Ytimebipgiicmiac
open Go.RowKit Go.Maps

theorem markLsa_marks (z : Lz) (g : Nat) (k : Int) (w : World) (hm : z.es.length ≤ 2000000) (hk0 : 0 ≤ k) (hk1 : k ≤ 10000000) (h : Owne w z.A g z.es) :
   Calls Try.prog 16 #[z.v, .int .i64 k] w fun e w' => e = .returned (.int .i64 (k + 2 * z.es.length)) ∧ Owne w' z.A g (markLs k z.es.length) ∧ Kx (fun b => b = g) w w' := by
  have CM := markEndS_marks z.A g z.es z.c k (w.alloc (.cells #[.int .i64 z.o, .int .i64 z.q, .slice z.A z.es.length z.c] 28)) hm hk0 hk1 (h.alloc _)
  have HK : Hid (∀ {w4 : World}, (w.alloc (.cells #[.int .i64 z.o, .int .i64 z.q, .slice z.A z.es.length z.c] 28)).grownBy w4 (some g) → Kx (fun b => b = g) w w4) := Lib.hid (fun hg => ((Kx.refl (fun b => b = g) w).alloc _).grown hg (fun _ => rfl))
  obtain ⟨zo, zq, zes, zA, zc, zg⟩ := z
  dsimp only at *
  clear h
  go_enter Try.func16, Try.ntmps16
  go_wp2_with fail
  refine CM.mono ?_
  clear CM
  rintro e w4 ⟨rfl, ho4, hg4⟩
  have K4 := Lib.hid (HK.out hg4)
  have O4 := Lib.hid ho4
  clear hg4 ho4
  go_wp2_with fail
  go_ret
  exact ⟨rfl, O4.out, K4.out⟩
theorem heldLsa_any (o q : Int) (A : Option Addr) (n c g : Nat) (k : Int) (w : World) (hm : n ≤ 2000000) (hk0 : 0 ≤ k) (hk1 : k ≤ 10000000) (h : Owne w A g (markLs k n)) :
   Calls Try.prog 17 #[.agg #[.int .i64 o, .int .i64 q, .slice A n c], .int .i64 k] w fun e w' => e = .returned (.int .i64 (k + 2 * n)) ∧ Below w.heap.size w w' := by
  have CM := heldEndS_any A g n c k (w.alloc (.cells #[.int .i64 o, .int .i64 q, .slice A n c] 28)) hm hk0 hk1 (h.alloc _)
  have hb0 := Lib.hid (show Below w.heap.size w (w.alloc (.cells #[.int .i64 o, .int .i64 q, .slice A n c] 28)) by (repeat (first | exact Below.refl _ _ | (refine Below.alloc ?_ (by first | exact Nat.le_refl _ | omega | (simp; done) | (simp; omega)) _) | (refine Below.setCell ?_ (by first | exact Nat.le_refl _ | omega | (simp; done) | (simp; omega)) _) | exact Below.drew ‹_›)))
  have hpos : ¬ (k + 2 * (n : Int)) < 0 := by omega
  clear h
  go_enter Try.func17, Try.ntmps17
  go_wp2_with fail
  refine CM.mono ?_
  clear CM
  rintro e w4 ⟨rfl, rfl⟩
  go_wp2_with fail
  go_ret
  exact ⟨rfl, hb0.out⟩

/-- The argument's box, the specification's answer in its box. -/
structure S1 (w : World) (n : Int) (A : Option Addr) (ls : List Lk) (c : Nat) (T : Nat) (z : Lz) (W : World) : Prop where
  kbx : Box W w.heap.size 24 #[.int .i64 n, .slice A ls.length c]
  tbx : Box W T 28 #[.int .i64 z.o, .int .i64 z.q, .slice z.A z.es.length z.c]
  own : Owne W z.A z.g z.es
  bel : Below w.heap.size w W
section
variable {w : World} {n : Int} {A : Option Addr} {ls : List Lk} {c T : Nat} {z : Lz} {W W' : World}
theorem S1.kx {X : Nat → Prop} (h : S1 w n A ls c T z W) (hk : Kx X W W') (hx : ∀ k, X k → w.heap.size < k ∧ k ≠ T ∧ (0 < z.es.length → k ≠ z.g)) : S1 w n A ls c T z W' :=
  ⟨hk.box h.kbx (fun e => by have := (hx _ e).1; omega), hk.box h.tbx (fun e => (hx _ e).2.1 rfl),
    fun hp => by
      obtain ⟨e, cs, hh, hc⟩ := h.own hp
      exact ⟨e, cs, (hk.block z.g (heap_lt hh) (fun e => (hx _ e).2.2 hp rfl)).trans hh, hc⟩,
    h.bel.trans (hk.below h.bel.size (fun k e => Nat.le_of_lt (hx k e).1))⟩
theorem S1.call (h : S1 w n A ls c T z W) (hb : Below W.heap.size W W') : S1 w n A ls c T z W' := h.kx (X := fun _ => False) (Kx.of_below hb) (fun _ e => e.elim)
theorem S1.drew (h : S1 w n A ls c T z W) : S1 w n A ls c T z W.drew := ⟨h.kbx, h.tbx, h.own, h.bel.drew⟩
end
/-- The program's answer in its box, its neighbours (or marks) in block g. -/
structure LY (Y g : Nat) (z : Lz) (es : List Lb) (W : World) : Prop where
  box : Box W Y 28 #[.int .i64 z.o, .int .i64 z.q, .slice z.A z.es.length z.c]
  own : Owne W z.A g es
section
variable {Y g : Nat} {z : Lz} {es : List Lb} {W W' : World}
theorem LY.kx {X : Nat → Prop} (h : LY Y g z es W) (hk : Kx X W W') (hx : ∀ k, X k → k ≠ Y ∧ (0 < es.length → k ≠ g)) : LY Y g z es W' :=
  ⟨hk.box h.box (fun e => (hx _ e).1 rfl), fun hp => by
    obtain ⟨e, cs, hh, hc⟩ := h.own hp
    exact ⟨e, cs, (hk.block g (heap_lt hh) (fun e => (hx _ e).2 hp rfl)).trans hh, hc⟩⟩
theorem LY.call (h : LY Y g z es W) (hb : Below W.heap.size W W') : LY Y g z es W' := h.kx (X := fun _ => False) (Kx.of_below hb) (fun _ e => e.elim)
theorem LY.drew (h : LY Y g z es W) : LY Y g z es W.drew := ⟨h.box, h.own⟩
theorem LY.lt (h : LY Y g z es W) (hp : 0 < es.length) : g < W.heap.size := (h.own hp).2.lt
end
end Go.Proofs.Ytimebipgiicmiac
