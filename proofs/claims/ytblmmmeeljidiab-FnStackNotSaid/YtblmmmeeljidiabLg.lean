/-
  Contracts over this seat: what a label says, and the way that it stands for, called through the interface.
-/
import Derived.Test.YtblmmmeeljidiabLb
import Derived.Test.YtblmmmeeljidiabPth
import Derived.Handy
namespace Go.Proofs.Ytblmmmeeljidiab
open Go.RowKit Go.Maps

theorem instr_node (l : Lb) (h : l.k = 1) (w : World) :
   Calls Try.prog 65 #[l.v] w fun e w' => e = .returned (.tuple #[.iface 97 (.int .i64 l.a), .bool true]) ∧ Below w.heap.size w w' := by
  obtain ⟨k, a⟩ := l
  dsimp only at h ⊢
  subst h
  go_enter Try.func65, Try.ntmps65
  go_wp2_with fail
  go_returns
  exact ⟨rfl, by (repeat (first | exact Below.refl _ _ | (refine Below.alloc ?_ (by first | exact Nat.le_refl _ | omega | (simp; done) | (simp; omega)) _) | (refine Below.setCell ?_ (by first | exact Nat.le_refl _ | omega | (simp; done) | (simp; omega)) _) | exact Below.drew ‹_›))⟩
theorem instr_link (l : Lb) (h : l.k = 2) (w : World) :
   Calls Try.prog 65 #[l.v] w fun e w' => e = .returned (.tuple #[.iface 98 (.int .i64 l.a), .bool true]) ∧ Below w.heap.size w w' := by
  obtain ⟨k, a⟩ := l
  dsimp only at h ⊢
  subst h
  go_enter Try.func65, Try.ntmps65
  go_wp2_with fail
  go_returns
  exact ⟨rfl, by (repeat (first | exact Below.refl _ _ | (refine Below.alloc ?_ (by first | exact Nat.le_refl _ | omega | (simp; done) | (simp; omega)) _) | (refine Below.setCell ?_ (by first | exact Nat.le_refl _ | omega | (simp; done) | (simp; omega)) _) | exact Below.drew ‹_›))⟩
theorem instr_none (l : Lb) (h1 : l.k ≠ 1) (h2 : l.k ≠ 2) (w : World) :
   Calls Try.prog 65 #[l.v] w fun e w' => e = .returned (.tuple #[.nilIface, .bool false]) ∧ Below w.heap.size w w' := by
  obtain ⟨k, a⟩ := l
  dsimp only at h1 h2 ⊢
  have h1' : (k == 1) = false := by simpa using h1
  have h2' : (k == 2) = false := by simpa using h2
  clear h1 h2
  go_enter Try.func65, Try.ntmps65
  go_wp2_with fail
  go_returns
  exact ⟨rfl, by (repeat (first | exact Below.refl _ _ | (refine Below.alloc ?_ (by first | exact Nat.le_refl _ | omega | (simp; done) | (simp; omega)) _) | (refine Below.setCell ?_ (by first | exact Nat.le_refl _ | omega | (simp; done) | (simp; omega)) _) | exact Below.drew ‹_›))⟩

/-- The value that a label's instruction is. -/
def byV (l : Lb) : Value := if l.k = 1 then .iface 97 (.int .i64 l.a) else .iface 98 (.int .i64 l.a)
theorem byV_node {l : Lb} (h : l.k = 1) : byV l = .iface 97 (.int .i64 l.a) := by unfold byV; rw [if_pos h]
theorem byV_link {l : Lb} (h : l.k = 2) : byV l = .iface 98 (.int .i64 l.a) := by unfold byV; rw [if_neg (by omega)]
theorem byV_one (l : Lb) : (byV l).oneCell' = true := by unfold byV; split <;> rfl

theorem newC_alloc {xs : List Int} {w : World} {o : Obj} {e : Ending} {w' : World} (h : NewC xs (w.alloc o) e w') : NewC xs w e w' := by
  obtain ⟨A, g, c, h1, h2, h3, h4, h5⟩ := h
  simp only [World.size_alloc] at h2 h4
  exact ⟨A, g, c, h1, by omega, h3, Below.trans (by (repeat (first | exact Below.refl _ _ | (refine Below.alloc ?_ (by first | exact Nat.le_refl _ | omega | (simp; done) | (simp; omega)) _) | (refine Below.setCell ?_ (by first | exact Nat.le_refl _ | omega | (simp; done) | (simp; omega)) _) | exact Below.drew ‹_›))) (h4.mono (by omega)), h5⟩

theorem toNode_any (nn : Int) (A : Option Addr) (ls : List Lk) (c : Nat) (s a : Int) (w : World) (hm : ls.length ≤ 2000000) (hS : Sl w w.heap.size A ls) :
   Calls Try.prog 110 #[.int .i64 a, gval nn A ls.length c, .int .i64 s] w (NewC (legP nn ls s ⟨1, a⟩) w) := by
  have e : legP nn ls s ⟨1, a⟩ = pathI nn ls s a := by unfold legP; rw [if_pos rfl]
  rw [e]
  have C1 := path_implC nn A ls c s a (w.alloc (.cells #[.int .i64 nn, .slice A ls.length c] 25)) hm ((hS.below (B := w.heap.size) (by (repeat (first | exact Below.refl _ _ | (refine Below.alloc ?_ (by first | exact Nat.le_refl _ | omega | (simp; done) | (simp; omega)) _) | (refine Below.setCell ?_ (by first | exact Nat.le_refl _ | omega | (simp; done) | (simp; omega)) _) | exact Below.drew ‹_›)))).more (by simp))
  clear hS e
  go_enter Try.func110, Try.ntmps110
  go_wp2_with (go_at_call 111; refine C1.mono ?_; clear C1; rintro e w1 h1; have H1 := Lib.hid (newC_alloc h1); obtain ⟨A1, g1, c1, rfl, -, -, -, -⟩ := h1)
  go_ret
  exact H1.out

set_option maxRecDepth 100000 in
set_option maxHeartbeats 800000 in
theorem overLink_any (nn : Int) (A : Option Addr) (ls : List Lk) (c : Nat) (s a : Int) (w : World) (hm : ls.length ≤ 2000000) (hS : Sl w w.heap.size A ls) :
   Calls Try.prog 115 #[.int .i64 a, gval nn A ls.length c, .int .i64 s] w (NewC (legP nn ls s ⟨2, a⟩) w) := by
  have B0 : Below w.heap.size w (w.alloc (.cells #[.int .i64 nn, .slice A ls.length c] 25)) := by (repeat (first | exact Below.refl _ _ | (refine Below.alloc ?_ (by first | exact Nat.le_refl _ | omega | (simp; done) | (simp; omega)) _) | (refine Below.setCell ?_ (by first | exact Nat.le_refl _ | omega | (simp; done) | (simp; omega)) _) | exact Below.drew ‹_›))
  have G0 := Lib.hid (Box.new w 25 #[.int .i64 nn, .slice A ls.length c])
  have C1 := hasLink_any nn A ls.length c a (w.alloc (.cells #[.int .i64 nn, .slice A ls.length c] 25)) hm
  have HS := Lib.hid hS
  have HB := Lib.hid B0
  clear hS B0
  have eL : legP nn ls s ⟨2, a⟩ = (if 0 ≤ a then match ls[a.toNat]? with
    | some x => if touchB x s = true then [s, acrossI x s] else []
    | none => [] else []) := by unfold legP; dsimp only; rw [if_neg (by decide), if_pos rfl]; rfl
  rw [eL]
  clear eL
  cases hx : inB a 0 ((ls.length : Int) - 1) with
  | false =>
    rw [hx] at C1
    have e : (if 0 ≤ a then match ls[a.toNat]? with
    | some x => if touchB x s = true then [s, acrossI x s] else []
    | none => [] else []) = [] := by
      split
      · rw [List.getElem?_eq_none]
        unfold inB at hx
        simp at hx
        omega
      · rfl
    rw [e]
    clear e hx
    go_enter Try.func115, Try.ntmps115
    go_wp2_with (go_at_call 50; refine C1.mono ?_; clear C1; rintro e w1 ⟨rfl, hb1⟩; have B1 := Lib.hid (HB.out.trans (hb1.mono (by simp))); clear hb1)
    go_ret
    exact ⟨_, w1.heap.size, _, rfl, B1.out.size, fun h => absurd h (by simp), B1.out.alloc B1.out.size _, by simp⟩
  | true =>
    rw [hx] at C1
    unfold inB at hx
    simp at hx
    obtain ⟨j, rfl⟩ : ∃ j : Nat, a = (j : Int) := ⟨a.toNat, by omega⟩
    have hj : j < ls.length := by omega
    obtain ⟨x, hxj⟩ : ∃ x, ls[j]? = some x := ⟨_, List.getElem?_eq_getElem hj⟩
    rw [if_pos (by omega), Int.toNat_natCast, hxj]
    dsimp only
    obtain ⟨b, off, rfl, hbb, hc1, hc2, hc3⟩ := HS.out j x hxj
    have HC := Lib.hid hc1
    have HC2 := Lib.hid hc2
    have HC3 := Lib.hid hc3
    clear hx hxj hc1 hc2 hc3
    go_enter Try.func115, Try.ntmps115
    cases ht : touchB x s with
    | false =>
      rw [if_neg (by decide)]
      have C2 : ∀ V : World, Calls Try.prog 69 #[x.v, .int .i64 s] V fun e w' => e = .returned (.bool false) ∧ Below V.heap.size V w' := fun V => by
        have := touches_any x s V
        rwa [ht] at this
      clear ht
      go_wp2_with (first
        | (go_at_call 50; refine C1.mono ?_; clear C1; rintro e w1 ⟨rfl, hb1⟩; have G1 := Lib.hid (G0.out.below hb1 (by simp)); have B1 := Lib.hid (HB.out.trans (hb1.mono (by simp))); have d1 : w1.cell? ⟨b, off + j * 3, none⟩ = some (.int .i64 x.a) := (B1.out.cell (p := ⟨b, off + j * 3, none⟩) hbb).trans HC.out; have d2 : w1.cell? ⟨b, off + j * 3 + 1, none⟩ = some (.int .i64 x.b) := (B1.out.cell (p := ⟨b, off + j * 3 + 1, none⟩) hbb).trans HC2.out; have d3 : w1.cell? ⟨b, off + j * 3 + 2, none⟩ = some (.int .i64 x.c) := (B1.out.cell (p := ⟨b, off + j * 3 + 2, none⟩) hbb).trans HC3.out; obtain ⟨z1, e10, e11, -, -⟩ := G1.out.two; clear hb1)
        | (go_at_call 69; refine (C2 _).mono ?_; rintro e w2 ⟨rfl, hb2⟩; have B2 := Lib.hid (B1.out.trans (hb2.mono B1.out.size)); clear hb2))
      go_ret
      exact ⟨_, w2.heap.size, _, rfl, B2.out.size, fun h => absurd h (by simp), B2.out.alloc B2.out.size _, by simp⟩
    | true =>
      rw [if_pos rfl]
      have C2 : ∀ V : World, Calls Try.prog 69 #[x.v, .int .i64 s] V fun e w' => e = .returned (.bool true) ∧ Below V.heap.size V w' := fun V => by
        have := touches_any x s V
        rwa [ht] at this
      clear ht
      go_wp2_with (first
        | (go_at_call 50; refine C1.mono ?_; clear C1; rintro e w1 ⟨rfl, hb1⟩; have G1 := Lib.hid (G0.out.below hb1 (by simp)); have B1 := Lib.hid (HB.out.trans (hb1.mono (by simp))); have d1 : w1.cell? ⟨b, off + j * 3, none⟩ = some (.int .i64 x.a) := (B1.out.cell (p := ⟨b, off + j * 3, none⟩) hbb).trans HC.out; have d2 : w1.cell? ⟨b, off + j * 3 + 1, none⟩ = some (.int .i64 x.b) := (B1.out.cell (p := ⟨b, off + j * 3 + 1, none⟩) hbb).trans HC2.out; have d3 : w1.cell? ⟨b, off + j * 3 + 2, none⟩ = some (.int .i64 x.c) := (B1.out.cell (p := ⟨b, off + j * 3 + 2, none⟩) hbb).trans HC3.out; obtain ⟨z1, e10, e11, -, -⟩ := G1.out.two; clear hb1)
        | (go_at_call 69; refine (C2 _).mono ?_; rintro e w2 ⟨rfl, hb2⟩; have G2 := Lib.hid (G1.out.below hb2 z1); have B2 := Lib.hid (B1.out.trans (hb2.mono B1.out.size)); clear d1 d2 d3 e10 e11 hb2; have d1 : w2.cell? ⟨b, off + j * 3, none⟩ = some (.int .i64 x.a) := (B2.out.cell (p := ⟨b, off + j * 3, none⟩) hbb).trans HC.out; have d2 : w2.cell? ⟨b, off + j * 3 + 1, none⟩ = some (.int .i64 x.b) := (B2.out.cell (p := ⟨b, off + j * 3 + 1, none⟩) hbb).trans HC2.out; have d3 : w2.cell? ⟨b, off + j * 3 + 2, none⟩ = some (.int .i64 x.c) := (B2.out.cell (p := ⟨b, off + j * 3 + 2, none⟩) hbb).trans HC3.out; obtain ⟨z2, e20, e21, -, -⟩ := G2.out.two)
        | (go_at_call 70; refine (across_any x s _).mono ?_; rintro e w3 ⟨rfl, hb3⟩; have B3 := Lib.hid (B2.out.trans (hb3.mono B2.out.size)); clear hb3))
      go_ret
      exact ⟨_, w3.heap.size, _, rfl, B3.out.size, own_listH (Box.new w3 _ _), B3.out.alloc B3.out.size _, by simp⟩

/-- A way through the interface: what both kinds answer. -/
theorem by_path (nn : Int) (A : Option Addr) (ls : List Lk) (c : Nat) (s : Int) (l : Lb) (w : World) (hm : ls.length ≤ 2000000) (hS : Sl w w.heap.size A ls) (f : FuncId) (hf : (l.k = 1 ∧ f = 110) ∨ (l.k = 2 ∧ f = 115)) :
   Calls Try.prog f #[.int .i64 l.a, gval nn A ls.length c, .int .i64 s] w (NewC (legP nn ls s l) w) := by
  obtain ⟨k, a⟩ := l
  dsimp only at hf ⊢
  rcases hf with ⟨rfl, rfl⟩ | ⟨rfl, rfl⟩
  · exact toNode_any nn A ls c s a w hm hS
  · exact overLink_any nn A ls c s a w hm hS

end Go.Proofs.Ytblmmmeeljidiab
