/-
  Contracts over this seat: GraphIsolate and GraphWithout, of the program: 'keep' with the two tests.
-/
import Derived.Test.YtnkohgdfipgdoabA2
import Derived.Deep.AppendLies
namespace Go.Proofs.Ytnkohgdfipgdoab
open Go.RowKit

theorem touches_any2 (l : Lk) (n : Int) (w : World) :
   Calls Try.prog 76 #[l.v, .int .i64 n] w fun e w' => e = .returned (.bool (decide (l.a = n) || decide (l.b = n))) ∧ Below w.heap.size w w' := by
  go_enter Try.func76, Try.ntmps76
  go_wp2
  all_goals
    go_ret
    exact ⟨ret_bool (by rw [Bool.eq_iff_iff]; simp_all), by (repeat (first | exact Below.refl _ _ | (refine Below.alloc ?_ (by first | exact Nat.le_refl _ | omega | (simp; done) | (simp; omega)) _) | (refine Below.setCell ?_ (by first | exact Nat.le_refl _ | omega | (simp; done) | (simp; omega)) _) | exact Below.drew ‹_›))⟩



/-- The links that pass, among the first k. -/
def keepTo (T : Nat → Lk → Bool) (ls : List Lk) : Nat → List Lk
  | 0 => []
  | k + 1 => keepTo T ls k ++ (match ls[k]? with
    | some l => if T k l = true then [l] else []
    | none => [])
theorem keepTo_len (T : Nat → Lk → Bool) (ls : List Lk) (k : Nat) : (keepTo T ls k).length ≤ k := by
  induction k with
  | zero => simp [keepTo]
  | succ k ih =>
    simp only [keepTo, List.length_append]
    split
    · split <;> simp <;> omega
    · simp; omega
theorem keepTo_hit {T : Nat → Lk → Bool} {ls : List Lk} {k : Nat} {l : Lk} (h : ls[k]? = some l) (ht : T k l = true) : keepTo T ls (k + 1) = keepTo T ls k ++ [l] := by
  simp [keepTo, h, ht]
theorem keepTo_miss {T : Nat → Lk → Bool} {ls : List Lk} {k : Nat} {l : Lk} (h : ls[k]? = some l) (ht : T k l = false) : keepTo T ls (k + 1) = keepTo T ls k := by
  simp [keepTo, h, ht]

theorem new3l (w : World) (x y z : Value) (t : TypeId) : ∀ j u, [x, y, z][j]? = some u → (w.alloc (.cells #[x, y, z] t)).cell? ((⟨w.heap.size, 0, none⟩ : Addr).add j) = some u := by
  intro j u h
  have e : (⟨w.heap.size, 0, none⟩ : Addr).add j = ⟨w.heap.size, j, none⟩ := by
    unfold Addr.add
    by_cases hj : j = 0 <;> simp [hj]
  rw [e, (Box.new w t #[x, y, z]).cell j]
  simpa using h
theorem one3l (x y z : Int) : ∀ u ∈ [Value.int .i64 x, Value.int .i64 y, Value.int .i64 z], u.oneCell' = true := by
  intro u hu
  simp at hu
  rcases hu with rfl | rfl | rfl <;> rfl
theorem owns_below {w w' : World} {base e size n : Nat} {v : Value} {xs : List Value} (h : w.ownsRow base e size v n xs) (hb : Below w.heap.size w w') : w'.ownsRow base e size v n xs :=
  h.kept ⟨hb.os, hb.tape, hb.output, hb.size, fun k hk _ => hb.block k hk⟩ (row := none) (by
    by_cases h : v.ownBlock = none
    · exact .inl h
    · exact .inr h)



/-- Whether the graph is valid and has the link. -/
def withoutOk (n : Int) (ls : List Lk) (x : Int) : Bool := gvB n ls && inB x 0 ((ls.length : Int) - 1)


/-- Whether the graph is valid and has the node. -/
def isolateOk (n : Int) (ls : List Lk) (x : Int) : Bool := gvB n ls && inB x 0 (n - 1)


end Go.Proofs.Ytnkohgdfipgdoab

/-
  Contracts over this seat: the specification's GraphIsolate.
-/
namespace Go.Proofs.Ytnkohgdfipgdoab
open Go.RowKit

theorem own_box_ne2 {w : World} {base e size n : Nat} {v : Value} {xs : List Value} {g t : Nat} {cs : Array Value} (h : w.ownsRow base e size v n xs) (hg : Box w g t cs) (hne : e ≠ t) : v.ownBlock ≠ some g := by
  rcases h.2 with ⟨rfl, _⟩ | ⟨g', cap, cur, rfl, _, hh, _⟩
  · simp [Value.ownBlock]
  · intro he
    have : g' = g := by simpa [Value.ownBlock] using he
    subst this
    unfold Box at hg
    rw [hh] at hg
    injection hg with hg
    injection hg with _ ht
    exact hne ht


theorem gvB_n {n : Int} {ls : List Lk} (h : gvB n ls = true) : 1 ≤ n ∧ n ≤ 8 ∧ ls.length ≤ 14 := by
  unfold gvB inB at h
  simp at h
  omega

/-- The state while the graph is filled: the argument's box, the result's, the new graph's box and its row. -/
def IS (w : World) (b0 : Nat) (n : Int) (A : Option Addr) (len c : Nat) (ks : List Lk) (v : Value) (wx : World) : Prop :=
  Box wx w.heap.size 48 #[.int .i64 n, .slice A len c] ∧ Box wx (w.heap.size + 1) 48 #[.int .i64 0, .slice none 0 0] ∧ Box wx (b0 + 1) 48 #[.int .i64 n, v] ∧
  wx.ownsRow b0 59 3 v ks.length (flat ks) ∧ Below w.heap.size w wx ∧ w.heap.size + 1 < b0 ∧ b0 ≤ wx.heap.size
theorem IS.drew {w wx : World} {b0 : Nat} {n : Int} {A : Option Addr} {len c : Nat} {ks : List Lk} {v : Value} (h : IS w b0 n A len c ks v wx) : IS w b0 n A len c ks v wx.drew :=
  ⟨h.1, h.2.1, h.2.2.1, h.2.2.2.1, h.2.2.2.2.1.drew, h.2.2.2.2.2⟩
theorem IS.stored {w wx w8 : World} {b0 : Nat} {n : Int} {A : Option Addr} {len c : Nat} {ks : List Lk} {v v' : Value} {o : Obj} {x y z : Int} (h : IS w b0 n A len c ks v wx)
    (hown : w8.ownsRow b0 59 3 v' (ks.length + 1) (flat ks ++ [.int .i64 x, .int .i64 y, .int .i64 z])) (hg : (wx.alloc o).grownBy w8 v.ownBlock) :
    Box w8 (b0 + 1) 48 #[.int .i64 n, v] ∧ IS w b0 n A len c (ks ++ [⟨x, y, z⟩]) v' (w8.setCell ⟨b0 + 1, 1, none⟩ v') := by
  obtain ⟨h1, h2, h3, h4, h5, h6, h7⟩ := h
  have hbase := h4.lt
  have k1 : Box w8 w.heap.size 48 #[.int .i64 n, .slice A len c] := (hg.block _ (by have := h1.lt; simp; omega) (fun e => own_box_ne2 h4 h1 (by decide) e.symm)).trans (h1.alloc o)
  have k2 : Box w8 (w.heap.size + 1) 48 #[.int .i64 0, .slice none 0 0] := (hg.block _ (by have := h2.lt; simp; omega) (fun e => own_box_ne2 h4 h2 (by decide) e.symm)).trans (h2.alloc o)
  have k3 : Box w8 (b0 + 1) 48 #[.int .i64 n, v] := (hg.block _ (by have := h3.lt; simp; omega) (fun e => own_box_ne2 h4 h3 (by decide) e.symm)).trans (h3.alloc o)
  refine ⟨k3, (Below.heap_setCell w8 ⟨b0 + 1, 1, none⟩ _ _ (by dsimp only; omega)).trans k1, (Below.heap_setCell w8 ⟨b0 + 1, 1, none⟩ _ _ (by dsimp only; omega)).trans k2, heap_set k3 1 _, ?_, ?_, h6, ?_⟩
  · have hk := hown.kept (grown_set (World.grownBy.refl w8 (some (b0 + 1))) 1 v') (.inr (own_box_ne2 hown k3 (by decide)))
    rw [flat_append, List.length_append]
    exact hk
  · exact ((h5.alloc (by omega) o).grown hg (by simp; omega) (fun j e => by have := (hbase j e).1; omega)).setCell (by dsimp only; omega) _
  · have := hg.size; simp at this ⊢; omega



end Go.Proofs.Ytnkohgdfipgdoab

/-
  Contracts over this seat: GraphIsolate, the program's and the specification's, wherever the links lie.
-/
namespace Go.Proofs.Ytnkohgdfipgdoab
open Go.RowKit



end Go.Proofs.Ytnkohgdfipgdoab

/-
  A contract over this seat: sameGraph of the same graphs.
-/
namespace Go.Proofs.Ytnkohgdfipgdoab
open Go.RowKit

set_option maxRecDepth 100000 in
theorem sameGraph_same (n : Int) (A1 A2 : Option Addr) (ls : List Lk) (c1 c2 : Nat) (w : World) (hm : ls.length ≤ 2000000)
    (h1 : Sl w w.heap.size A1 ls) (h2 : Sl w w.heap.size A2 ls) :
   Calls Try.prog 24 #[gval n A1 ls.length c1, gval n A2 ls.length c2] w fun e w' => e = .returned (.bool true) ∧ Below w.heap.size w w' := by
  have R1 := Lib.hid h1
  have R2 := Lib.hid h2
  clear h1 h2
  go_enter Try.func24, Try.ntmps24
  go_wp2
  go_loopw [5] (fun i wr => ∃ k : Nat, k ≤ ls.length ∧ i = .int .i64 k ∧ Below w.heap.size w wr ∧ Box wr w.heap.size 48 #[.int .i64 n, .slice A1 ls.length c1] ∧ Box wr (w.heap.size + 1) 48 #[.int .i64 n, .slice A2 ls.length c2]) (fun i _ => ls.length - (intOf i).toNat)
  case atStart => exact ⟨0, Nat.zero_le _, rfl, by (repeat (first | exact Below.refl _ _ | (refine Below.alloc ?_ (by first | exact Nat.le_refl _ | omega | (simp; done) | (simp; omega)) _) | (refine Below.setCell ?_ (by first | exact Nat.le_refl _ | omega | (simp; done) | (simp; omega)) _) | exact Below.drew ‹_›)), (Box.new w _ _).alloc _, by have := Box.new (w.alloc (.cells #[.int .i64 n, .slice A1 ls.length c1] 48)) 48 #[.int .i64 n, .slice A2 ls.length c2]; rwa [World.size_alloc] at this⟩
  case round =>
    obtain ⟨k, hk, rfl, hb, hx, hy⟩ := hrel
    have HX := Lib.hid hx
    have HY := Lib.hid hy
    obtain ⟨z1, d0, d1, -, -⟩ := hx.two
    obtain ⟨z2, e0, e1, -, -⟩ := hy.two
    clear hx hy
    by_cases hlt : k < ls.length
    · obtain ⟨l, hl⟩ : ∃ l, ls[k]? = some l := ⟨_, List.getElem?_eq_getElem hlt⟩
      obtain ⟨b, off, rfl, hbb, p0, p1, p2⟩ := (R1.out.below hb) k l hl
      obtain ⟨b', off', rfl, hbb', q0, q1, q2⟩ := (R2.out.below hb) k l hl
      clear hl
      go_wp2
      go_quiet (fail)
      go_wp2
      go_roundw
      case rel => exact ⟨k + 1, hlt, by go_num, by first | exact hb.drew | exact ⟨hb.os, hb.tape, hb.output, hb.size, hb.block⟩, HX.out, HY.out⟩
      case measure => simp [intOf]; omega
    · have hge : ls.length ≤ k := by omega
      go_wp2
      go_ret
      exact ⟨rfl, hb⟩

end Go.Proofs.Ytnkohgdfipgdoab
