/-
  Contracts over this seat: the specification's stacks: the step of a label, the nodes of a stack.
-/
import Derived.Test.YtenlofomkchlaabGreatDoorC1
import Derived.Test.YtenlofomkchlaabGreatDoorC2
import Derived.Handy
namespace Go.Proofs.YtenlofomkchlaabGreatDoor
open Go.RowKit Go.Maps

def stepV (o : Option Int) : Value := match o with
  | some z => .tuple #[.int .i64 z, .bool true]
  | none => .tuple #[.int .i64 0, .bool false]
theorem stepO_node1 {n : Nat} {ls : List Lk} {s : Int} (hg : gvB (n : Int) ls = true) (hs : 0 ≤ s ∧ s < (n : Int)) {a : Int} : stepO (n : Int) ls s ⟨1, a⟩ = if (0 ≤ a ∧ a < (n : Int)) ∧ 0 ≤ bf (n : Int) ls s a then some a else none := by
  obtain ⟨hf, _⟩ := gvB_fit hg
  have e : legP (n : Int) ls s ⟨1, a⟩ = pathI (n : Int) ls s a := by unfold legP; rw [if_pos rfl]
  split
  · rename_i h
    obtain ⟨ha, h0⟩ := h
    have hne : legP (n : Int) ls s ⟨1, a⟩ ≠ [] := by
      rw [e]
      have hp := path_isP (vwB_of hg hs ha) (by rw [bf_symm hf ha hs]; exact h0)
      unfold pathI
      rw [Int.toNat_natCast]
      intro he
      have := hp.head.2
      rw [he] at this
      simp at this
    obtain ⟨z, h1, _, _, _, _, _, h2⟩ := leg_fact hg hs hne
    rw [h1, (h2 rfl).1]
  · rename_i h
    rw [stepO_none, e]
    apply Classical.byContradiction
    intro hne
    obtain ⟨m, hm, hv, h0, _⟩ := pathI_some hne
    obtain rfl : n = m := by omega
    obtain ⟨_, _, ht⟩ := vwB_two hv
    exact h ⟨ht, by rw [bf_symm hf hs ht]; exact h0⟩
theorem stepO_link2 {nn : Int} {ls : List Lk} {s : Int} {j : Nat} {x : Lk} (hx : ls[j]? = some x) : stepO nn ls s ⟨2, (j : Int)⟩ = if x.a = s then some x.b else if x.b = s then some x.a else none := by
  unfold stepO legP
  dsimp only
  rw [if_neg (by decide), if_pos rfl, if_pos (by omega), Int.toNat_natCast, hx]
  dsimp only
  unfold touchB acrossI
  by_cases h1 : x.a = s
  · simp [h1]
  · by_cases h2 : x.b = s
    · simp [h1, h2]
    · simp [h1, h2]
theorem stepO_out {nn : Int} {ls : List Lk} {s a : Int} (h : inB a 0 ((ls.length : Int) - 1) = false) : stepO nn ls s ⟨2, a⟩ = none := by
  rw [stepO_none]
  unfold legP
  dsimp only
  rw [if_neg (by decide), if_pos rfl]
  split
  · unfold inB at h
    simp at h
    rw [List.getElem?_eq_none (by omega)]
  · rfl
theorem stepO_other {nn : Int} {ls : List Lk} {s k a : Int} (h1 : k ≠ 1) (h2 : k ≠ 2) : stepO nn ls s ⟨k, a⟩ = none := by
  rw [stepO_none]
  unfold legP
  rw [if_neg h1, if_neg h2]


end Go.Proofs.YtenlofomkchlaabGreatDoor

/-
  Contracts over this seat: what a label says, and the way that it stands for, called through the interface.
-/
namespace Go.Proofs.YtenlofomkchlaabGreatDoor
open Go.RowKit Go.Maps

theorem instr_node (l : Lb) (h : l.k = 1) (w : World) :
   Calls Tryz.prog 41 #[l.v] w fun e w' => e = .returned (.tuple #[.iface 82 (.int .i64 l.a), .bool true]) ∧ Below w.heap.size w w' := by
  obtain ⟨k, a⟩ := l
  dsimp only at h ⊢
  subst h
  go_enter Tryz.func41, Tryz.ntmps41
  go_wp2_with fail
  go_returns
  exact ⟨rfl, by (repeat (first | exact Below.refl _ _ | (refine Below.alloc ?_ (by first | exact Nat.le_refl _ | omega | (simp; done) | (simp; omega)) _) | (refine Below.setCell ?_ (by first | exact Nat.le_refl _ | omega | (simp; done) | (simp; omega)) _) | exact Below.drew ‹_›))⟩
theorem instr_link (l : Lb) (h : l.k = 2) (w : World) :
   Calls Tryz.prog 41 #[l.v] w fun e w' => e = .returned (.tuple #[.iface 83 (.int .i64 l.a), .bool true]) ∧ Below w.heap.size w w' := by
  obtain ⟨k, a⟩ := l
  dsimp only at h ⊢
  subst h
  go_enter Tryz.func41, Tryz.ntmps41
  go_wp2_with fail
  go_returns
  exact ⟨rfl, by (repeat (first | exact Below.refl _ _ | (refine Below.alloc ?_ (by first | exact Nat.le_refl _ | omega | (simp; done) | (simp; omega)) _) | (refine Below.setCell ?_ (by first | exact Nat.le_refl _ | omega | (simp; done) | (simp; omega)) _) | exact Below.drew ‹_›))⟩
theorem instr_none (l : Lb) (h1 : l.k ≠ 1) (h2 : l.k ≠ 2) (w : World) :
   Calls Tryz.prog 41 #[l.v] w fun e w' => e = .returned (.tuple #[.nilIface, .bool false]) ∧ Below w.heap.size w w' := by
  obtain ⟨k, a⟩ := l
  dsimp only at h1 h2 ⊢
  have h1' : (k == 1) = false := by simpa using h1
  have h2' : (k == 2) = false := by simpa using h2
  clear h1 h2
  go_enter Tryz.func41, Tryz.ntmps41
  go_wp2_with fail
  go_returns
  exact ⟨rfl, by (repeat (first | exact Below.refl _ _ | (refine Below.alloc ?_ (by first | exact Nat.le_refl _ | omega | (simp; done) | (simp; omega)) _) | (refine Below.setCell ?_ (by first | exact Nat.le_refl _ | omega | (simp; done) | (simp; omega)) _) | exact Below.drew ‹_›))⟩

/-- The value that a label's instruction is. -/
def byV (l : Lb) : Value := if l.k = 1 then .iface 82 (.int .i64 l.a) else .iface 83 (.int .i64 l.a)
theorem byV_node {l : Lb} (h : l.k = 1) : byV l = .iface 82 (.int .i64 l.a) := by unfold byV; rw [if_pos h]
theorem byV_link {l : Lb} (h : l.k = 2) : byV l = .iface 83 (.int .i64 l.a) := by unfold byV; rw [if_neg (by omega)]
theorem byV_one (l : Lb) : (byV l).oneCell' = true := by unfold byV; split <;> rfl

theorem newC_alloc {xs : List Int} {w : World} {o : Obj} {e : Ending} {w' : World} (h : NewC xs (w.alloc o) e w') : NewC xs w e w' := by
  obtain ⟨A, g, c, h1, h2, h3, h4, h5⟩ := h
  simp only [World.size_alloc] at h2 h4
  exact ⟨A, g, c, h1, by omega, h3, Below.trans (by (repeat (first | exact Below.refl _ _ | (refine Below.alloc ?_ (by first | exact Nat.le_refl _ | omega | (simp; done) | (simp; omega)) _) | (refine Below.setCell ?_ (by first | exact Nat.le_refl _ | omega | (simp; done) | (simp; omega)) _) | exact Below.drew ‹_›))) (h4.mono (by omega)), h5⟩

theorem toNode_any (nn : Int) (A : Option Addr) (ls : List Lk) (c : Nat) (s a : Int) (w : World) (hm : ls.length ≤ 2000000) (hS : Sl w w.heap.size A ls) :
   Calls Tryz.prog 98 #[.int .i64 a, gval nn A ls.length c, .int .i64 s] w (NewC (legP nn ls s ⟨1, a⟩) w) := by
  have e : legP nn ls s ⟨1, a⟩ = pathI nn ls s a := by unfold legP; rw [if_pos rfl]
  rw [e]
  have C1 := path_implC nn A ls c s a (w.alloc (.cells #[.int .i64 nn, .slice A ls.length c] 25)) hm ((hS.below (B := w.heap.size) (by (repeat (first | exact Below.refl _ _ | (refine Below.alloc ?_ (by first | exact Nat.le_refl _ | omega | (simp; done) | (simp; omega)) _) | (refine Below.setCell ?_ (by first | exact Nat.le_refl _ | omega | (simp; done) | (simp; omega)) _) | exact Below.drew ‹_›)))).more (by simp))
  clear hS e
  go_enter Tryz.func98, Tryz.ntmps98
  go_wp2_with (go_at_call 48; refine C1.mono ?_; clear C1; rintro e w1 h1; have H1 := Lib.hid (newC_alloc h1); obtain ⟨A1, g1, c1, rfl, -, -, -, -⟩ := h1)
  go_ret
  exact H1.out

set_option maxRecDepth 100000 in
set_option maxHeartbeats 800000 in
theorem overLink_any (nn : Int) (A : Option Addr) (ls : List Lk) (c : Nat) (s a : Int) (w : World) (hm : ls.length ≤ 2000000) (hS : Sl w w.heap.size A ls) :
   Calls Tryz.prog 99 #[.int .i64 a, gval nn A ls.length c, .int .i64 s] w (NewC (legP nn ls s ⟨2, a⟩) w) := by
  have B0 : Below w.heap.size w (w.alloc (.cells #[.int .i64 nn, .slice A ls.length c] 25)) := by (repeat (first | exact Below.refl _ _ | (refine Below.alloc ?_ (by first | exact Nat.le_refl _ | omega | (simp; done) | (simp; omega)) _) | (refine Below.setCell ?_ (by first | exact Nat.le_refl _ | omega | (simp; done) | (simp; omega)) _) | exact Below.drew ‹_›))
  have G0 := Lib.hid (Box.new w 25 #[.int .i64 nn, .slice A ls.length c])
  have C1 := hasLink_any nn A ls.length c a (w.alloc (.cells #[.int .i64 nn, .slice A ls.length c] 25)) hm
  have HS := Lib.hid hS
  have HB := Lib.hid B0
  clear hS B0
  have eL : legP nn ls s ⟨2, a⟩ = (if 0 ≤ a then match ls[a.toNat]? with
    | some x => if touchB x s = true then [s, acrossI x s] else []
    | none => [] else []) := by unfold legP; dsimp only; rw [if_neg (by decide), if_pos rfl]; rfl
  rw [eL]
  clear eL
  cases hx : inB a 0 ((ls.length : Int) - 1) with
  | false =>
    rw [hx] at C1
    have e : (if 0 ≤ a then match ls[a.toNat]? with
    | some x => if touchB x s = true then [s, acrossI x s] else []
    | none => [] else []) = [] := by
      split
      · rw [List.getElem?_eq_none]
        unfold inB at hx
        simp at hx
        omega
      · rfl
    rw [e]
    clear e hx
    go_enter Tryz.func99, Tryz.ntmps99
    go_wp2_with (go_at_call 49; refine C1.mono ?_; clear C1; rintro e w1 ⟨rfl, hb1⟩; have B1 := Lib.hid (HB.out.trans (hb1.mono (by simp))); clear hb1)
    go_ret
    exact ⟨_, w1.heap.size, _, rfl, B1.out.size, fun h => absurd h (by simp), B1.out.alloc B1.out.size _, by simp⟩
  | true =>
    rw [hx] at C1
    unfold inB at hx
    simp at hx
    obtain ⟨j, rfl⟩ : ∃ j : Nat, a = (j : Int) := ⟨a.toNat, by omega⟩
    have hj : j < ls.length := by omega
    obtain ⟨x, hxj⟩ : ∃ x, ls[j]? = some x := ⟨_, List.getElem?_eq_getElem hj⟩
    rw [if_pos (by omega), Int.toNat_natCast, hxj]
    dsimp only
    obtain ⟨b, off, rfl, hbb, hc1, hc2, hc3⟩ := HS.out j x hxj
    have HC := Lib.hid hc1
    have HC2 := Lib.hid hc2
    have HC3 := Lib.hid hc3
    clear hx hxj hc1 hc2 hc3
    go_enter Tryz.func99, Tryz.ntmps99
    cases ht : touchB x s with
    | false =>
      rw [if_neg (by decide)]
      have C2 : ∀ V : World, Calls Tryz.prog 74 #[x.v, .int .i64 s] V fun e w' => e = .returned (.bool false) ∧ Below V.heap.size V w' := fun V => by
        have := touches_any x s V
        rwa [ht] at this
      clear ht
      go_wp2_with (first
        | (go_at_call 49; refine C1.mono ?_; clear C1; rintro e w1 ⟨rfl, hb1⟩; have G1 := Lib.hid (G0.out.below hb1 (by simp)); have B1 := Lib.hid (HB.out.trans (hb1.mono (by simp))); have d1 : w1.cell? ⟨b, off + j * 3, none⟩ = some (.int .i64 x.a) := (B1.out.cell (p := ⟨b, off + j * 3, none⟩) hbb).trans HC.out; have d2 : w1.cell? ⟨b, off + j * 3 + 1, none⟩ = some (.int .i64 x.b) := (B1.out.cell (p := ⟨b, off + j * 3 + 1, none⟩) hbb).trans HC2.out; have d3 : w1.cell? ⟨b, off + j * 3 + 2, none⟩ = some (.int .i64 x.c) := (B1.out.cell (p := ⟨b, off + j * 3 + 2, none⟩) hbb).trans HC3.out; obtain ⟨z1, e10, e11, -, -⟩ := G1.out.two; clear hb1)
        | (go_at_call 74; refine (C2 _).mono ?_; rintro e w2 ⟨rfl, hb2⟩; have B2 := Lib.hid (B1.out.trans (hb2.mono B1.out.size)); clear hb2))
      go_ret
      exact ⟨_, w2.heap.size, _, rfl, B2.out.size, fun h => absurd h (by simp), B2.out.alloc B2.out.size _, by simp⟩
    | true =>
      rw [if_pos rfl]
      have C2 : ∀ V : World, Calls Tryz.prog 74 #[x.v, .int .i64 s] V fun e w' => e = .returned (.bool true) ∧ Below V.heap.size V w' := fun V => by
        have := touches_any x s V
        rwa [ht] at this
      clear ht
      go_wp2_with (first
        | (go_at_call 49; refine C1.mono ?_; clear C1; rintro e w1 ⟨rfl, hb1⟩; have G1 := Lib.hid (G0.out.below hb1 (by simp)); have B1 := Lib.hid (HB.out.trans (hb1.mono (by simp))); have d1 : w1.cell? ⟨b, off + j * 3, none⟩ = some (.int .i64 x.a) := (B1.out.cell (p := ⟨b, off + j * 3, none⟩) hbb).trans HC.out; have d2 : w1.cell? ⟨b, off + j * 3 + 1, none⟩ = some (.int .i64 x.b) := (B1.out.cell (p := ⟨b, off + j * 3 + 1, none⟩) hbb).trans HC2.out; have d3 : w1.cell? ⟨b, off + j * 3 + 2, none⟩ = some (.int .i64 x.c) := (B1.out.cell (p := ⟨b, off + j * 3 + 2, none⟩) hbb).trans HC3.out; obtain ⟨z1, e10, e11, -, -⟩ := G1.out.two; clear hb1)
        | (go_at_call 74; refine (C2 _).mono ?_; rintro e w2 ⟨rfl, hb2⟩; have G2 := Lib.hid (G1.out.below hb2 z1); have B2 := Lib.hid (B1.out.trans (hb2.mono B1.out.size)); clear d1 d2 d3 e10 e11 hb2; have d1 : w2.cell? ⟨b, off + j * 3, none⟩ = some (.int .i64 x.a) := (B2.out.cell (p := ⟨b, off + j * 3, none⟩) hbb).trans HC.out; have d2 : w2.cell? ⟨b, off + j * 3 + 1, none⟩ = some (.int .i64 x.b) := (B2.out.cell (p := ⟨b, off + j * 3 + 1, none⟩) hbb).trans HC2.out; have d3 : w2.cell? ⟨b, off + j * 3 + 2, none⟩ = some (.int .i64 x.c) := (B2.out.cell (p := ⟨b, off + j * 3 + 2, none⟩) hbb).trans HC3.out; obtain ⟨z2, e20, e21, -, -⟩ := G2.out.two)
        | (go_at_call 75; refine (across_any x s _).mono ?_; rintro e w3 ⟨rfl, hb3⟩; have B3 := Lib.hid (B2.out.trans (hb3.mono B2.out.size)); clear hb3))
      go_ret
      exact ⟨_, w3.heap.size, _, rfl, B3.out.size, own_listH (Box.new w3 _ _), B3.out.alloc B3.out.size _, by simp⟩

/-- A way through the interface: what both kinds answer. -/
theorem by_path (nn : Int) (A : Option Addr) (ls : List Lk) (c : Nat) (s : Int) (l : Lb) (w : World) (hm : ls.length ≤ 2000000) (hS : Sl w w.heap.size A ls) (f : FuncId) (hf : (l.k = 1 ∧ f = 98) ∨ (l.k = 2 ∧ f = 99)) :
   Calls Tryz.prog f #[.int .i64 l.a, gval nn A ls.length c, .int .i64 s] w (NewC (legP nn ls s l) w) := by
  obtain ⟨k, a⟩ := l
  dsimp only at hf ⊢
  rcases hf with ⟨rfl, rfl⟩ | ⟨rfl, rfl⟩
  · exact toNode_any nn A ls c s a w hm hS
  · exact overLink_any nn A ls c s a w hm hS

end Go.Proofs.YtenlofomkchlaabGreatDoor

/-
  Contracts over this seat: legs: the way of a packet, label by label.
-/
namespace Go.Proofs.YtenlofomkchlaabGreatDoor
open Go.RowKit Go.Maps

theorem infoLeg : (Tryz.prog.info? 55).map (fun i => (i.zero, i.size, i.bytes)) = some (some (.agg #[.nilIface, .slice none 0 0]), 2, 40) := by kernel_rfl

/-- The ways of labels, one after the other. -/
def legsO (nn : Int) (ls : List Lk) : Int → List Lb → List (Lb × List Int)
  | _, [] => []
  | s, l :: st => match stepO nn ls s l with
    | some z => (l, legP nn ls s l) :: legsO nn ls z st
    | none => []
theorem legsO_append {nn : Int} {ls : List Lk} {s z : Int} {x : List Lb} (y : List Lb) (h : endO nn ls s x = some z) : legsO nn ls s (x ++ y) = legsO nn ls s x ++ legsO nn ls z y := by
  induction x generalizing s with
  | nil => simp only [endO, Option.some.injEq] at h; subst h; rfl
  | cons l x ih =>
    simp only [endO] at h
    simp only [List.cons_append, legsO]
    cases hs : stepO nn ls s l with
    | none => rw [hs] at h; cases h
    | some u =>
      rw [hs] at h
      dsimp only at h ⊢
      rw [ih h]; rfl
theorem legsO_next {nn : Int} {ls : List Lk} {s x z : Int} {st : List Lb} {k : Nat} {l : Lb} (h : endO nn ls s (st.take k) = some x) (hl : st[k]? = some l) (hz : stepO nn ls x l = some z) :
    legsO nn ls s (st.take (k + 1)) = legsO nn ls s (st.take k) ++ [(l, legP nn ls x l)] := by
  rw [take_succ' hl, legsO_append _ h]
  simp [legsO, hz]

/-- A leg in memory: its label, its nodes and where they lie. -/
structure Lg where
  l : Lb
  p : List Int
  A : Option Addr
  g : Nat
  c : Nat
abbrev Lg.lp (x : Lg) : Lb × List Int := (x.l, x.p)
def flatG : List Lg → List Value
  | [] => []
  | x :: xs => byV x.l :: .slice x.A x.p.length x.c :: flatG xs
theorem flatG_len (gs : List Lg) : (flatG gs).length = gs.length * 2 := by
  induction gs with
  | nil => rfl
  | cons x xs ih => simp [flatG, ih]; omega
theorem flatG_append (xs ys : List Lg) : flatG (xs ++ ys) = flatG xs ++ flatG ys := by
  induction xs with
  | nil => rfl
  | cons l ls ih => simp [flatG, ih]
theorem flatG_at (gs : List Lg) : ∀ (k : Nat) (x : Lg), gs[k]? = some x → (flatG gs)[k * 2]? = some (byV x.l) ∧ (flatG gs)[k * 2 + 1]? = some (.slice x.A x.p.length x.c) := by
  induction gs with
  | nil => intro k l h; simp at h
  | cons x ls ih =>
    intro k l h
    cases k with
    | zero =>
      simp at h
      subst h
      exact ⟨rfl, rfl⟩
    | succ k =>
      obtain ⟨h1, h2⟩ := ih k l (by simpa using h)
      rw [show (k + 1) * 2 = k * 2 + 1 + 1 by omega]
      exact ⟨h1, h2⟩
/-- The slice of address A reads as the legs gs, below block B; the nodes of each lie in memory of the call's own. -/
def Slg (w : World) (B : Nat) (A : Option Addr) (gs : List Lg) : Prop :=
  ∀ k x, gs[k]? = some x → ∃ b off, A = some ⟨b, off, none⟩ ∧ b < B ∧ w.cell? ⟨b, off + k * 2, none⟩ = some (byV x.l) ∧ w.cell? ⟨b, off + k * 2 + 1, none⟩ = some (.slice x.A x.p.length x.c) ∧ Sli w B x.A x.p ∧ x.p.length ≤ x.c
theorem Slg.below {w w' : World} {B : Nat} {A : Option Addr} {gs : List Lg} (h : Slg w B A gs) (hb : Below B w w') : Slg w' B A gs := by
  intro k l hl
  obtain ⟨b, off, e, hb', h1, h2, h3, h4⟩ := h k l hl
  exact ⟨b, off, e, hb', (hb.cell (p := ⟨b, _, none⟩) hb').trans h1, (hb.cell (p := ⟨b, _, none⟩) hb').trans h2, h3.below hb, h4⟩
theorem Slg.more {w : World} {B B' : Nat} {A : Option Addr} {gs : List Lg} (h : Slg w B A gs) (hb : B ≤ B') : Slg w B' A gs := by
  intro k l hl
  obtain ⟨b, off, e, hb', h1, h2, h3, h4⟩ := h k l hl
  exact ⟨b, off, e, by omega, h1, h2, h3.more hb, h4⟩
theorem Slg.grow {w w' : World} {A : Option Addr} {gs : List Lg} (h : Slg w w.heap.size A gs) (hb : Below w.heap.size w w') : Slg w' w'.heap.size A gs := (h.below hb).more hb.size

theorem new2v (w : World) (x y : Value) (t : TypeId) : ∀ j u, [x, y][j]? = some u → (w.alloc (.cells #[x, y] t)).cell? ((⟨w.heap.size, 0, none⟩ : Addr).add j) = some u := by
  intro j u h
  have e : (⟨w.heap.size, 0, none⟩ : Addr).add j = ⟨w.heap.size, j, none⟩ := by
    unfold Addr.add
    by_cases hj : j = 0 <;> simp [hj]
  rw [e, (Box.new w t #[x, y]).cell j]
  simpa using h
theorem one2v (x y : Value) (hx : x.oneCell' = true) (hy : y.oneCell' = true) : ∀ u ∈ [x, y], u.oneCell' = true := by
  intro u hu
  simp at hu
  rcases hu with rfl | rfl
  · exact hx
  · exact hy
/-- Numbers lie where they lay behind an append onto a row of legs. -/
theorem Own1i.row {W W' : World} {base n : Nat} {v : Value} {xs : List Value} {o : Obj} {A : Option Addr} {g : Nat} {p : List Int} (h : Own1i W A g p) (hr : W.ownsRow base 55 2 v n xs) (hg : (W.alloc o).grownBy W' v.ownBlock) : Own1i W' A g p := fun hp => by
  obtain ⟨e, cs, hh, hc⟩ := h hp
  have hne := own_box_ne hr (g := g) (t := 3) hh (by decide)
  exact ⟨e, cs, (hg.block g (by have := heap_lt hh; simp; omega) (fun e => hne e.symm)).trans ((Below.heap_alloc W o g (heap_lt hh)).trans hh), hc⟩
theorem own_keep {W W' : World} {base n : Nat} {v : Value} {xs : List Value} {o : Obj} {A : Option Addr} {g i : Nat} {p : List Int} {u : Value} (hg : (W.alloc o).grownBy W' v.ownBlock) (hr : W.ownsRow base 55 2 v n xs) (h : Own1i W A g p) (hc : W.cell? ⟨g, i, none⟩ = some u) (hp : 0 < p.length := by omega) : W'.cell? ⟨g, i, none⟩ = some u := by
  obtain ⟨e, cs, hh, _⟩ := h hp
  have h2 := Own1i.row h hr hg hp
  obtain ⟨_, cs', hh', _⟩ := h2
  have hne := own_box_ne hr (g := g) (t := 3) hh (by decide)
  have hk : W'.heap[g]? = W.heap[g]? := (hg.block g (by have := heap_lt hh; simp; omega) (fun e => hne e.symm)).trans (Below.heap_alloc W o g (heap_lt hh))
  rw [hh] at hk
  rw [cell_of_row W' g i cs _ _ hk]
  rw [cell_of_row W g i cs _ _ hh] at hc
  exact hc

/-- The state while legs are found: the row of legs, the graph's box. -/
structure LI (w : World) (gv : Array Value) (v : Value) (gs : List Lg) (W : World) : Prop where
  row : W.ownsRow (w.heap.size + 1) 55 2 v gs.length (flatG gs)
  bel : Below w.heap.size w W
  box : Box W w.heap.size 25 gv
  own : ∀ x ∈ gs, w.heap.size < x.g ∧ x.p.length ≤ x.c ∧ Own1i W x.A x.g x.p
theorem LI.call {w : World} {gv : Array Value} {v : Value} {gs : List Lg} {W W' : World} (h : LI w gv v gs W) (hb : Below W.heap.size W W') : LI w gv v gs W' :=
  ⟨owns_kept h.row hb, h.bel.trans (hb.mono h.bel.size), h.box.below hb h.box.lt, fun x hx => ⟨(h.own x hx).1, (h.own x hx).2.1, (h.own x hx).2.2.below hb⟩⟩
theorem LI.alloc {w : World} {gv : Array Value} {v : Value} {gs : List Lg} {W : World} (h : LI w gv v gs W) (o : Obj) : LI w gv v gs (W.alloc o) := h.call ((Below.refl _ _).alloc (Nat.le_refl _) o)
theorem LI.append {w : World} {gv : Array Value} {v : Value} {gs : List Lg} {W : World} (h : LI w gv v gs W) {x : Lg} {v' : Value} {W' : World} {o : Obj}
    (hown : W'.ownsRow (w.heap.size + 1) 55 2 v' (gs.length + 1) (flatG gs ++ [byV x.l, .slice x.A x.p.length x.c])) (hg : (W.alloc o).grownBy W' v.ownBlock) (hx : w.heap.size < x.g) (hc : x.p.length ≤ x.c) (ho : Own1i W x.A x.g x.p) :
    LI w gv v' (gs ++ [x]) W' := by
  have hl := h.row.lt
  have zb := h.box.lt
  refine ⟨by rw [List.length_append, flatG_append]; exact hown, ?_, ?_, ?_⟩
  · exact (h.bel.alloc (by omega) _).grown hg (by simp; omega) (fun j e => by have := (hl j e).1; omega)
  · exact (hg.block _ (by simp; omega) (fun e => by have := (hl _ e.symm).1; omega)).trans (h.box.alloc _)
  · intro y hy
    rcases List.mem_append.1 hy with hy | hy
    · exact ⟨(h.own y hy).1, (h.own y hy).2.1, (h.own y hy).2.2.row h.row hg⟩
    · simp at hy
      subst hy
      exact ⟨hx, hc, ho.row h.row hg⟩
theorem LI.done {w : World} {gv : Array Value} {v : Value} {gs : List Lg} {W : World} (h : LI w gv v gs W) : ∃ A c, v = .slice A gs.length c ∧ Slg W W.heap.size A gs := by
  have hs : ∀ (k : Nat) (x : Lg), gs[k]? = some x → Sli W W.heap.size x.A x.p ∧ x.p.length ≤ x.c := fun k x hx => ⟨((h.own x (List.mem_of_getElem? hx)).2.2).sli, (h.own x (List.mem_of_getElem? hx)).2.1⟩
  rcases h.row.2 with ⟨rfl, h0⟩ | ⟨g, cap, cur, rfl, hbg, hh, hn, _, hsz, ht⟩
  · exact ⟨none, 0, by rw [h0], fun k x hk => by have := (List.getElem?_eq_some_iff.1 hk).1; omega⟩
  · refine ⟨_, cap, rfl, fun k x hk => ?_⟩
    have hkl : k < gs.length := (List.getElem?_eq_some_iff.1 hk).1
    obtain ⟨h1, h2⟩ := flatG_at gs k x hk
    rw [← ht] at h1 h2
    rw [List.getElem?_take_of_lt (by omega), Array.getElem?_toList] at h1 h2
    refine ⟨g, 0, rfl, heap_lt hh, ?_, ?_, hs k x hk⟩
    · rw [cell_of_row W g _ cur _ _ hh]; simpa using h1
    · rw [cell_of_row W g _ cur _ _ hh]; simpa using h2

/-- What 'legs' leaves. -/
def LegsR (nn : Int) (ls : List Lk) (s : Int) (st : List Lb) (w : World) (e : Ending) (w' : World) : Prop :=
  ((endI nn ls s st).isSome = true ∧ ∃ A gs c, e = .returned (.tuple #[.slice A gs.length c, .bool true]) ∧ gs.map Lg.lp = legsO nn ls s st ∧ Slg w' w'.heap.size A gs ∧ Below w.heap.size w w') ∨
  ((endI nn ls s st).isSome = false ∧ e = .returned (.tuple #[.slice none 0 0, .bool false]) ∧ Below w.heap.size w w')

theorem stB_inv {nn : Int} {ls : List Lk} {s : Int} {st : List Lb} (h : stB nn ls s st = true) : gvB nn ls = true ∧ (0 ≤ s ∧ s < nn) ∧ st.length ≤ 8 := by
  unfold stB at h
  simp only [Bool.and_eq_true, decide_eq_true_eq] at h
  exact ⟨(vwB_inv h.1).1, (vwB_inv h.1).2, h.2⟩

set_option maxRecDepth 100000 in
set_option maxHeartbeats 3200000 in
theorem legs_any (nn : Int) (A : Option Addr) (ls : List Lk) (c : Nat) (s : Int) (B : Option Addr) (st : List Lb) (cb : Nat) (w : World) (hm : ls.length ≤ 2000000) (hmb : st.length ≤ 2000000) (hS : Sl w w.heap.size A ls) (hT : Slb w w.heap.size B st) :
   Calls Tryz.prog 17 #[gval nn A ls.length c, .int .i64 s, .slice B st.length cb] w (LegsR nn ls s st w) := by
  obtain ⟨i0, hi, hz0, hz10, hz20⟩ := info_parts infoLeg
  by_cases h8 : st.length ≤ 8
  · have B0 : Below w.heap.size w ((w.alloc (.cells #[.int .i64 nn, .slice A ls.length c] 25)).alloc (.cells #[.int .i64 s] 3)) := by (repeat (first | exact Below.refl _ _ | (refine Below.alloc ?_ (by first | exact Nat.le_refl _ | omega | (simp; done) | (simp; omega)) _) | (refine Below.setCell ?_ (by first | exact Nat.le_refl _ | omega | (simp; done) | (simp; omega)) _) | exact Below.drew ‹_›))
    have G0 := Lib.hid ((Box.new w 25 #[.int .i64 nn, .slice A ls.length c]).alloc (.cells #[.int .i64 s] 3))
    have L0 := Box.new (w.alloc (.cells #[.int .i64 nn, .slice A ls.length c] 25)) 3 #[.int .i64 s]
    rw [World.size_alloc] at L0
    have S0 := (hS.below B0).more B0.size
    have X0 : Own1i ((w.alloc (.cells #[.int .i64 nn, .slice A ls.length c] 25)).alloc (.cells #[.int .i64 s] 3)) (some ⟨w.heap.size + 1, 0, none⟩) (w.heap.size + 1) [s] := own_listH (by simpa using L0)
    have C1 := vw_any nn A ls c (some ⟨w.heap.size + 1, 0, none⟩) [s] 1 _ hm (by simp) S0 X0.sli
    have HS := Lib.hid hS
    have HT := Lib.hid hT
    have HB := Lib.hid B0
    clear hS hT B0 L0 S0 X0
    cases hv : vwB nn ls [s] with
    | false =>
      rw [hv] at C1
      have HE : Hid ((endI nn ls s st).isSome = false) := Lib.hid (by unfold endI stB; rw [hv]; simp)
      clear hv
      go_enter Tryz.func17, Tryz.ntmps17
      go_wp2_with (go_at_call 40; refine C1.mono ?_; clear C1; rintro e w1 ⟨rfl, hb1⟩; have B1 := Lib.hid (HB.out.trans (hb1.mono HB.out.size)); clear hb1)
      go_returns
      exact .inr ⟨HE.out, rfl, B1.out⟩
    | true =>
      rw [hv] at C1
      obtain ⟨hg, hs⟩ := vwB_inv hv
      obtain ⟨n, rfl⟩ : ∃ q : Nat, nn = (q : Int) := ⟨nn.toNat, by omega⟩
      have HST : Hid (stB (n : Int) ls s st = true) := Lib.hid (by unfold stB; rw [hv]; simp [h8])
      clear hv
      go_enter Tryz.func17, Tryz.ntmps17
      go_wp2_with fail
      refine C1.mono ?_
      clear C1
      rintro e w1 ⟨rfl, hb1⟩
      have G1 := Lib.hid (G0.out.below hb1 G0.out.lt)
      have B1 := Lib.hid (HB.out.trans (hb1.mono HB.out.size))
      have z1 := G1.out.lt
      clear hb1 HB G0
      have P1 : Hid (LI w #[.int .i64 (n : Int), .slice A ls.length c] (.slice (some ⟨w1.heap.size, 0, none⟩) 0 0) [] (w1.alloc (.cells #[] 55))) :=
        Lib.hid ⟨⟨by simp [flatG], .inr ⟨w1.heap.size, 0, #[], rfl, by omega, Box.new w1 55 #[], Nat.le_refl _, by omega, rfl, by simp [flatG]⟩⟩, B1.out.alloc B1.out.size _, G1.out.alloc _, fun x hx => absurd hx (by simp)⟩
      go_wp2_with fail
      go_loopw [8, 9, 29] (fun v q i wr => ∃ (k : Nat) (x : Int) (gs : List Lg), k ≤ st.length ∧ i = .int .i64 k ∧ q = .int .i64 x ∧ endO (n : Int) ls s (st.take k) = some x ∧ (0 ≤ x ∧ x < (n : Int)) ∧ gs.map Lg.lp = legsO (n : Int) ls s (st.take k) ∧ gs.length = k ∧ LI w #[.int .i64 (n : Int), .slice A ls.length c] v gs wr) (fun _ _ i _ => st.length - (intOf i).toNat)
      case atStart => exact ⟨0, s, [], Nat.zero_le _, rfl, rfl, rfl, hs, rfl, rfl, P1.out⟩
      case round =>
        obtain ⟨k, x, gs, hk, rfl, rfl, hend, hx, hmap, hgl, hP⟩ := hrel
        have HP := Lib.hid hP
        have HEND := Lib.hid hend
        have HM := Lib.hid hmap
        clear hP hend hmap P1 G1 B1 z1
        by_cases hlt : k < st.length
        · obtain ⟨l, hl⟩ : ∃ l, st[k]? = some l := ⟨_, List.getElem?_eq_getElem hlt⟩
          obtain ⟨b, off, rfl, hbb, d1, d2⟩ := (HT.out.below HP.out.bel) k l hl
          have HL := Lib.hid hl
          have hbw : b < wr.heap.size := Nat.lt_of_lt_of_le hbb HP.out.bel.size
          have HP0 := Lib.hid (HP.out.alloc (.cells #[.int .i64 l.k, .int .i64 l.a] 45))
          have hk3 : l.k = 1 ∨ l.k = 2 ∨ (l.k ≠ 1 ∧ l.k ≠ 2) := by omega
          clear hl
          rcases hk3 with hk | hk | ⟨hk1, hk2⟩
          · have hkx : l.k = 1 := hk
            have CI := instr_node l hkx (wr.alloc (.cells #[.int .i64 l.k, .int .i64 l.a] 45))
            have CP : ∀ V : World, Sl V V.heap.size A ls → Calls Tryz.prog 98 #[.int .i64 l.a, gval (n : Int) A ls.length c, .int .i64 x] V (NewC (legP (n : Int) ls x l) V) := fun V hV => by_path (n : Int) A ls c x l V hm hV _ (.inl ⟨hkx, rfl⟩)
            have HBY := Lib.hid (byV_node hkx)
            clear hk hkx
            go_wp2_with fail
            refine CI.mono ?_
            clear CI
            rintro e w1 ⟨rfl, hb1⟩
            have P1 := Lib.hid (HP0.out.call hb1)
            clear hb1 HP0 HP d1 d2
            have e10 : w1.cell? ⟨w.heap.size, 0, none⟩ = some (.int .i64 (n : Int)) := P1.out.box.cell 0
            have e11 : w1.cell? ⟨w.heap.size, 1, none⟩ = some (.slice A ls.length c) := P1.out.box.cell 1
            have z1 := P1.out.box.lt
            go_wp2_with fail
            refine (CP w1 ((HS.out.below P1.out.bel).more P1.out.bel.size)).mono ?_
            clear CP
            rintro e w2 ⟨A2, g2, c2, rfl, hg2, ho2, hb2, hcp⟩
            have P2 := Lib.hid (P1.out.call hb2)
            have hgw : w.heap.size < g2 := Nat.lt_of_lt_of_le z1 hg2
            have O2 := Lib.hid ho2
            clear hb2 P1 e10 e11 z1 ho2 hg2
            by_cases hp0 : legP (n : Int) ls x l = []
            · have HF := Lib.hid (endO_fail HEND.out HL.out (stepO_none.2 hp0))
              rw [hp0]
              clear hp0
              go_wp2_with fail
              go_returns
              exact .inr ⟨by unfold endI; rw [HF.out]; simp, rfl, P2.out.bel⟩
            · obtain ⟨z, hz1, hz2, hz3, hz4, hz5, hz6, hz7⟩ := leg_fact hg hx hp0
              have hpl : 0 < (legP (n : Int) ls x l).length := List.length_pos_iff.2 hp0
              obtain ⟨q, hq⟩ : ∃ q, (legP (n : Int) ls x l).length = q + 1 := ⟨(legP (n : Int) ls x l).length - 1, by omega⟩
              rw [hq, Nat.add_sub_cancel] at hz6
              have hsub : ((legP (n : Int) ls x l).length : Int) - 1 = (q : Int) := by omega
              have hql : q < (legP (n : Int) ls x l).length := by omega
              have hwp : IntKind.i64.wrap (q : Int) = (q : Int) := IntWalk.i64_in _ (by omega)
              have HN1 := Lib.hid (endO_next HEND.out HL.out)
              have HN2 := Lib.hid (legsO_next HEND.out HL.out hz1)
              have HZ1 := Lib.hid hz1
              have HZ2 := Lib.hid hz2
              clear hz1 hz2 hz3 hz4 hz7 hp0 hq
              generalize hgp : legP (n : Int) ls x l = p at *
              obtain ⟨rfl, zg2, hc2⟩ := O2.out.at hz6
              have hpe : ((p.length : Int) == 0) = false := by rw [beq_eq_false_iff_ne]; omega
              have zw2 := P2.out.box.lt
              clear hgp hz6
              go_wp2_with (at_builtin; refine wpList_append_own_at _ rfl _ _ 48 rfl (w.heap.size + 1) 55 i0 _ 2 40 Tryz.underlying48 hi hz0 hz10 hz20 rfl (by decide) _ gs.length _ rfl (P2.out.row.alloc _) ⟨w2.heap.size, 0, none⟩ 1 1 [.iface 82 (.int .i64 l.a), .slice (some ⟨g2, 0, none⟩) p.length c2] rfl rfl (new2v _ _ _ _) (one2v _ _ rfl rfl) (by unfold maxLen; omega) (by omega) (by simp; omega) ?_; intro v' w3 hown' hgrow _ hat; have P3 := Lib.hid (P2.out.append (x := ⟨l, p, some ⟨g2, 0, none⟩, g2, c2⟩) (by rw [HBY.out]; exact hown') hgrow hgw hcp O2.out); have e30 := P3.out.box.cell 0; have e31 := P3.out.box.cell 1; have z3 := P3.out.box.lt; have hc3 : w3.cell? ⟨g2, q, none⟩ = some (.int .i64 z) := own_keep hgrow P2.out.row O2.out hc2; clear hown' hgrow hat hc2)
              go_roundw
              case rel => exact ⟨k + 1, z, gs ++ [⟨l, p, some ⟨g2, 0, none⟩, g2, c2⟩], hlt, by go_num, rfl, by rw [HN1.out]; exact HZ1.out, HZ2.out, by rw [HN2.out, List.map_append, HM.out]; rfl, by simp [hgl], P3.out⟩
              case measure => simp [intOf]; omega
          · have hkx : l.k = 2 := hk
            have CI := instr_link l hkx (wr.alloc (.cells #[.int .i64 l.k, .int .i64 l.a] 45))
            have CP : ∀ V : World, Sl V V.heap.size A ls → Calls Tryz.prog 99 #[.int .i64 l.a, gval (n : Int) A ls.length c, .int .i64 x] V (NewC (legP (n : Int) ls x l) V) := fun V hV => by_path (n : Int) A ls c x l V hm hV _ (.inr ⟨hkx, rfl⟩)
            have HBY := Lib.hid (byV_link hkx)
            clear hk hkx
            go_wp2_with fail
            refine CI.mono ?_
            clear CI
            rintro e w1 ⟨rfl, hb1⟩
            have P1 := Lib.hid (HP0.out.call hb1)
            clear hb1 HP0 HP d1 d2
            have e10 : w1.cell? ⟨w.heap.size, 0, none⟩ = some (.int .i64 (n : Int)) := P1.out.box.cell 0
            have e11 : w1.cell? ⟨w.heap.size, 1, none⟩ = some (.slice A ls.length c) := P1.out.box.cell 1
            have z1 := P1.out.box.lt
            go_wp2_with fail
            refine (CP w1 ((HS.out.below P1.out.bel).more P1.out.bel.size)).mono ?_
            clear CP
            rintro e w2 ⟨A2, g2, c2, rfl, hg2, ho2, hb2, hcp⟩
            have P2 := Lib.hid (P1.out.call hb2)
            have hgw : w.heap.size < g2 := Nat.lt_of_lt_of_le z1 hg2
            have O2 := Lib.hid ho2
            clear hb2 P1 e10 e11 z1 ho2 hg2
            by_cases hp0 : legP (n : Int) ls x l = []
            · have HF := Lib.hid (endO_fail HEND.out HL.out (stepO_none.2 hp0))
              rw [hp0]
              clear hp0
              go_wp2_with fail
              go_returns
              exact .inr ⟨by unfold endI; rw [HF.out]; simp, rfl, P2.out.bel⟩
            · obtain ⟨z, hz1, hz2, hz3, hz4, hz5, hz6, hz7⟩ := leg_fact hg hx hp0
              have hpl : 0 < (legP (n : Int) ls x l).length := List.length_pos_iff.2 hp0
              obtain ⟨q, hq⟩ : ∃ q, (legP (n : Int) ls x l).length = q + 1 := ⟨(legP (n : Int) ls x l).length - 1, by omega⟩
              rw [hq, Nat.add_sub_cancel] at hz6
              have hsub : ((legP (n : Int) ls x l).length : Int) - 1 = (q : Int) := by omega
              have hql : q < (legP (n : Int) ls x l).length := by omega
              have hwp : IntKind.i64.wrap (q : Int) = (q : Int) := IntWalk.i64_in _ (by omega)
              have HN1 := Lib.hid (endO_next HEND.out HL.out)
              have HN2 := Lib.hid (legsO_next HEND.out HL.out hz1)
              have HZ1 := Lib.hid hz1
              have HZ2 := Lib.hid hz2
              clear hz1 hz2 hz3 hz4 hz7 hp0 hq
              generalize hgp : legP (n : Int) ls x l = p at *
              obtain ⟨rfl, zg2, hc2⟩ := O2.out.at hz6
              have hpe : ((p.length : Int) == 0) = false := by rw [beq_eq_false_iff_ne]; omega
              have zw2 := P2.out.box.lt
              clear hgp hz6
              go_wp2_with (at_builtin; refine wpList_append_own_at _ rfl _ _ 48 rfl (w.heap.size + 1) 55 i0 _ 2 40 Tryz.underlying48 hi hz0 hz10 hz20 rfl (by decide) _ gs.length _ rfl (P2.out.row.alloc _) ⟨w2.heap.size, 0, none⟩ 1 1 [.iface 83 (.int .i64 l.a), .slice (some ⟨g2, 0, none⟩) p.length c2] rfl rfl (new2v _ _ _ _) (one2v _ _ rfl rfl) (by unfold maxLen; omega) (by omega) (by simp; omega) ?_; intro v' w3 hown' hgrow _ hat; have P3 := Lib.hid (P2.out.append (x := ⟨l, p, some ⟨g2, 0, none⟩, g2, c2⟩) (by rw [HBY.out]; exact hown') hgrow hgw hcp O2.out); have e30 := P3.out.box.cell 0; have e31 := P3.out.box.cell 1; have z3 := P3.out.box.lt; have hc3 : w3.cell? ⟨g2, q, none⟩ = some (.int .i64 z) := own_keep hgrow P2.out.row O2.out hc2; clear hown' hgrow hat hc2)
              go_roundw
              case rel => exact ⟨k + 1, z, gs ++ [⟨l, p, some ⟨g2, 0, none⟩, g2, c2⟩], hlt, by go_num, rfl, by rw [HN1.out]; exact HZ1.out, HZ2.out, by rw [HN2.out, List.map_append, HM.out]; rfl, by simp [hgl], P3.out⟩
              case measure => simp [intOf]; omega
          · have CI := instr_none l hk1 hk2 (wr.alloc (.cells #[.int .i64 l.k, .int .i64 l.a] 45))
            have HF := Lib.hid (endO_fail HEND.out HL.out (stepO_none.2 (show legP (n : Int) ls x l = [] by unfold legP; rw [if_neg hk1, if_neg hk2])))
            clear hk1 hk2
            go_wp2_with fail
            refine CI.mono ?_
            clear CI
            rintro e w1 ⟨rfl, hb1⟩
            have P1 := Lib.hid (HP0.out.call hb1)
            clear hb1 HP0 HP d1 d2
            go_wp2_with fail
            go_returns
            exact .inr ⟨by unfold endI; rw [HF.out]; simp, rfl, P1.out.bel⟩
        · obtain rfl : k = st.length := by omega
          obtain ⟨A9, c9, rfl, hsl⟩ := HP.out.done
          have HSL := Lib.hid hsl
          clear hsl
          go_wp2_with fail
          go_returns
          refine .inl ⟨?_, A9, gs, c9, rfl, ?_, HSL.out, HP.out.bel⟩
          · have := HEND.out
            rw [List.take_length] at this
            unfold endI
            rw [if_pos HST.out, this]; rfl
          · have := HM.out
            rwa [List.take_length] at this
  · have h8' : 8 < st.length := by omega
    have HE : Hid ((endI nn ls s st).isSome = false) := Lib.hid (by unfold endI stB; simp [h8])
    clear h8 hS hT
    go_enter Tryz.func17, Tryz.ntmps17
    go_wp2_with fail
    go_returns
    exact .inr ⟨HE.out, rfl, by (repeat (first | exact Below.refl _ _ | (refine Below.alloc ?_ (by first | exact Nat.le_refl _ | omega | (simp; done) | (simp; omega)) _) | (refine Below.setCell ?_ (by first | exact Nat.le_refl _ | omega | (simp; done) | (simp; omega)) _) | exact Below.drew ‹_›))⟩

end Go.Proofs.YtenlofomkchlaabGreatDoor

/-
  Contracts over this seat: the specification's nodes of a stack, and the nodes of one label.
-/
namespace Go.Proofs.YtenlofomkchlaabGreatDoor
open Go.RowKit Go.Maps

/-- The nodes at the beginning of the first k labels, and the next one. -/
def ndsL (nn : Int) (ls : List Lk) (s : Int) (st : List Lb) (k : Nat) : List Int := (List.range (k + 1)).map fun j => (endO nn ls s (st.take j)).getD 0
theorem ndsL_len (nn : Int) (ls : List Lk) (s : Int) (st : List Lb) (k : Nat) : (ndsL nn ls s st k).length = k + 1 := by simp [ndsL]
theorem ndsL_at {nn : Int} {ls : List Lk} {s x : Int} {st : List Lb} {j k : Nat} (hj : j ≤ k) (h : endO nn ls s (st.take j) = some x) : (ndsL nn ls s st k)[j]? = some x := by
  unfold ndsL
  rw [List.getElem?_map, List.getElem?_range (by omega)]
  simp [h]
theorem ndsL_succ {nn : Int} {ls : List Lk} {s z : Int} {st : List Lb} {k : Nat} (h : endO nn ls s (st.take (k + 1)) = some z) : ndsL nn ls s st (k + 1) = ndsL nn ls s st k ++ [z] := by
  unfold ndsL
  rw [List.range_succ, List.map_append]
  simp [h]
theorem stB_inv' {nn : Int} {ls : List Lk} {s : Int} {st : List Lb} (h : stB nn ls s st = true) : gvB nn ls = true ∧ (0 ≤ s ∧ s < nn) ∧ st.length ≤ 8 := by
  unfold stB at h
  simp only [Bool.and_eq_true, decide_eq_true_eq] at h
  exact ⟨(vwB_inv h.1).1, (vwB_inv h.1).2, h.2⟩

/-- What 'l4Nodes' leaves. -/
def NdsR (nn : Int) (ls : List Lk) (s : Int) (st : List Lb) (w : World) (e : Ending) (w' : World) : Prop :=
  ((endI nn ls s st).isSome = true ∧ ∃ A g c, e = .returned (.tuple #[.slice A (st.length + 1) c, .bool true]) ∧ w.heap.size ≤ g ∧ Own1i w' A g (ndsL nn ls s st st.length) ∧ Below w.heap.size w w') ∨
  ((endI nn ls s st).isSome = false ∧ ∃ v, e = .returned (.tuple #[v, .bool false]) ∧ Below w.heap.size w w')


end Go.Proofs.YtenlofomkchlaabGreatDoor

/-
  Contracts over this seat: the program's StackPath, StackEnd and StackCost.
-/
namespace Go.Proofs.YtenlofomkchlaabGreatDoor
open Go.RowKit Go.Maps

/-! ### Facts about the legs of a stack -/
def tails (xs : List (Lb × List Int)) : List Int := xs.flatMap fun x => x.2.drop 1
theorem tails_snoc (xs : List (Lb × List Int)) (x : Lb × List Int) : tails (xs ++ [x]) = tails xs ++ x.2.drop 1 := by simp [tails]
theorem pthO_tails {nn : Int} {ls : List Lk} {s z : Int} {st : List Lb} (h : endO nn ls s st = some z) : pthO nn ls s st = tails (legsO nn ls s st) := by
  induction st generalizing s with
  | nil => rfl
  | cons l st ih =>
    simp only [endO] at h
    simp only [pthO, legsO]
    cases hz : stepO nn ls s l with
    | none => rw [hz] at h; cases h
    | some u =>
      rw [hz] at h
      dsimp only at h ⊢
      rw [ih h]
      simp [tails]
theorem legsO_mem {n : Nat} {ls : List Lk} (hg : gvB (n : Int) ls = true) {st : List Lb} : ∀ {s : Int}, 0 ≤ s ∧ s < (n : Int) → ∀ x ∈ legsO (n : Int) ls s st, ∃ u, (0 ≤ u ∧ u < (n : Int)) ∧ x.2 = legP (n : Int) ls u x.1 ∧ x.2 ≠ [] := by
  induction st with
  | nil => intro s _ x hx; simp [legsO] at hx
  | cons l st ih =>
    intro s hs x hx
    simp only [legsO] at hx
    cases hz : stepO (n : Int) ls s l with
    | none => rw [hz] at hx; simp at hx
    | some u =>
      rw [hz] at hx
      dsimp only at hx
      rcases List.mem_cons.1 hx with rfl | hx
      · exact ⟨s, hs, rfl, stepO_leg hz⟩
      · exact ih (stepO_node hg hs hz) x hx
theorem legsO_len (nn : Int) (ls : List Lk) (st : List Lb) : ∀ s : Int, (legsO nn ls s st).length ≤ st.length := by
  induction st with
  | nil => intro s; simp [legsO]
  | cons l st ih =>
    intro s
    simp only [legsO]
    cases stepO nn ls s l with
    | none => simp
    | some u => have := ih u; simp; omega
theorem tails_len {xs : List (Lb × List Int)} (h : ∀ x ∈ xs, x.2.length ≤ 8) : (tails xs).length ≤ 7 * xs.length := by
  induction xs with
  | nil => simp [tails]
  | cons x xs ih =>
    have h1 := ih fun y hy => h y (List.mem_cons_of_mem _ hy)
    have h2 := h x (by simp)
    simp only [tails, List.flatMap_cons, List.length_append, List.length_drop, List.length_cons] at h1 ⊢
    omega
theorem endI_inv {nn : Int} {ls : List Lk} {s : Int} {st : List Lb} (h : (endI nn ls s st).isSome = true) : ∃ (n : Nat) (z : Int), nn = (n : Int) ∧ gvB (n : Int) ls = true ∧ (0 ≤ s ∧ s < (n : Int)) ∧ st.length ≤ 8 ∧ endO (n : Int) ls s st = some z ∧ endI nn ls s st = some z := by
  unfold endI at h ⊢
  by_cases hb : stB nn ls s st = true
  · rw [if_pos hb] at h ⊢
    obtain ⟨hg, hs, h8⟩ := stB_inv hb
    obtain ⟨n, rfl⟩ : ∃ q : Nat, nn = (q : Int) := ⟨nn.toNat, by omega⟩
    cases he : endO (n : Int) ls s st with
    | none => rw [he] at h; cases h
    | some z => exact ⟨n, z, rfl, hg, hs, h8, he, rfl⟩
  · rw [if_neg hb] at h; cases h
theorem pathS_some {nn : Int} {ls : List Lk} {s : Int} {st : List Lb} (h : (endI nn ls s st).isSome = true) : pathS nn ls s st = s :: tails (legsO nn ls s st) := by
  obtain ⟨n, z, rfl, hg, hs, h8, he, hi⟩ := endI_inv h
  unfold pathS
  rw [if_pos h, pthO_tails he]
theorem pathS_none {nn : Int} {ls : List Lk} {s : Int} {st : List Lb} (h : (endI nn ls s st).isSome = false) : pathS nn ls s st = [] := by
  unfold pathS
  rw [h]; rfl
theorem pathS_end {nn : Int} {ls : List Lk} {s z : Int} {st : List Lb} (h : endI nn ls s st = some z) : (pathS nn ls s st)[(pathS nn ls s st).length - 1]? = some z ∧ 0 < (pathS nn ls s st).length := by
  obtain ⟨n, z', rfl, hg, hs, h8, he, hi⟩ := endI_inv (by rw [h]; rfl)
  rw [hi] at h
  cases h
  unfold pathS
  rw [hi, Option.isSome_some, if_pos rfl]
  have := (pth_way hg hs he).2.1
  rw [List.getLast?_eq_getElem?] at this
  exact ⟨this, by simp⟩
theorem pathS_way {nn : Int} {ls : List Lk} {s : Int} {st : List Lb} : Way ls (pathS nn ls s st) := by
  cases h : (endI nn ls s st).isSome with
  | false => rw [pathS_none h]; intro k a b ha; simp at ha
  | true =>
    obtain ⟨n, z', rfl, hg, hs, h8, he, hi⟩ := endI_inv h
    unfold pathS
    rw [if_pos h]
    exact (pth_way hg hs he).1

/-! ### A list of numbers in memory that is newer than a world -/
structure PS (w1 : World) (v : Value) (out : List Int) (W : World) : Prop where
  row : W.ownsRow w1.heap.size 3 1 v out.length (out.map (Value.int .i64))
  bel : Below w1.heap.size w1 W
theorem PS.call {w1 : World} {v : Value} {out : List Int} {W W' : World} (h : PS w1 v out W) (hb : Below W.heap.size W W') : PS w1 v out W' :=
  ⟨owns_kept h.row hb, h.bel.trans (hb.mono h.bel.size)⟩
theorem PS.alloc {w1 : World} {v : Value} {out : List Int} {W : World} (h : PS w1 v out W) (o : Obj) : PS w1 v out (W.alloc o) := h.call ((Below.refl _ _).alloc (Nat.le_refl _) o)
theorem PS.append {w1 : World} {v v' : Value} {out news : List Int} {m : Nat} {W W' : World} (h : PS w1 v out W) (hown : W'.ownsRow w1.heap.size 3 1 v' (out.length + m) (out.map (Value.int .i64) ++ news.map (Value.int .i64))) (hm : m = news.length) (hg : W.grownBy W' v.ownBlock) : PS w1 v' (out ++ news) W' := by
  subst hm
  exact ⟨by rw [List.length_append, List.map_append]; exact hown, h.bel.grown hg h.bel.size (fun j e => (h.row.lt j e).1)⟩
theorem PS.newC {w w1 : World} {v : Value} {out : List Int} {W : World} (h : PS w1 v out W) (hb : Below w.heap.size w w1) : NewC out w (.returned v) W := by
  obtain ⟨A, g, c, e, hg, hc, ho⟩ := own_slicec h.row h.bel.size
  exact ⟨A, g, c, by rw [e], by have := hb.size; omega, ho, hb.trans (h.bel.mono hb.size), hc⟩
theorem Slg.at {w : World} {B : Nat} {A : Option Addr} {gs : List Lg} (h : Slg w B A gs) {k : Nat} {x : Lg} (hk : gs[k]? = some x) (hp : 0 < x.p.length) :
    ∃ b off g o, A = some ⟨b, off, none⟩ ∧ b < B ∧ w.cell? ⟨b, off + k * 2, none⟩ = some (byV x.l) ∧ w.cell? ⟨b, off + k * 2 + 1, none⟩ = some (.slice (some ⟨g, o, none⟩) x.p.length x.c) ∧ g < B ∧ x.p.length ≤ x.c ∧ ∀ i u, x.p[i]? = some u → w.cell? ⟨g, o + i, none⟩ = some (.int .i64 u) := by
  obtain ⟨b, off, e, hb, h1, h2, h3, h4⟩ := h k x hk
  obtain ⟨g, o, eA, hg, hc⟩ := h3 0 _ (List.getElem?_eq_getElem hp)
  rw [eA] at h2
  refine ⟨b, off, g, o, e, hb, h1, h2, hg, h4, fun i u hu => ?_⟩
  obtain ⟨g', o', e', _, hc'⟩ := h3 i u hu
  rw [eA] at e'
  cases e'
  exact hc'

theorem add_at (g o j : Nat) : (⟨g, o, none⟩ : Addr).add j = ⟨g, o + j, none⟩ := by
  unfold Addr.add
  by_cases hj : j = 0 <;> simp [hj]

theorem byV_iface (l : Lb) : ∃ T v, byV l = .iface T v := by unfold byV; split <;> exact ⟨_, _, rfl⟩
theorem news_at {w : World} {g o : Nat} {r : List Int} (h : ∀ (i : Nat) (u : Int), r[i]? = some u → w.cell? ⟨g, o + i, none⟩ = some (.int .i64 u)) : ∀ j u, (r.map (Value.int .i64))[j]? = some u → w.cell? ((⟨g, o, none⟩ : Addr).add j) = some u := by
  intro j u hj
  rw [List.getElem?_map] at hj
  cases hr : r[j]? with
  | none => rw [hr] at hj; cases hj
  | some y =>
    rw [hr] at hj
    cases hj
    rw [add_at]
    exact h j y hr
theorem news_one (r : List Int) : ∀ u ∈ r.map (Value.int .i64), u.oneCell' = true := by
  intro u hu
  obtain ⟨y, _, rfl⟩ := List.mem_map.1 hu
  rfl

set_option maxRecDepth 100000 in
set_option maxHeartbeats 1600000 in
theorem stackPath_impl (nn : Int) (A : Option Addr) (ls : List Lk) (c : Nat) (s : Int) (B : Option Addr) (st : List Lb) (cb : Nat) (w : World) (hm : ls.length ≤ 2000000) (hmb : st.length ≤ 2000000) (hS : Sl w w.heap.size A ls) (hT : Slb w w.heap.size B st) :
   Calls Tryz.prog 16 #[gval nn A ls.length c, .int .i64 s, .slice B st.length cb] w (NewC (pathS nn ls s st) w) := by
  obtain ⟨i0, hi, hz0, hz10, hz20⟩ := info_parts infoInt
  have B0 : Below w.heap.size w (w.alloc (.cells #[.int .i64 nn, .slice A ls.length c] 25)) := by (repeat (first | exact Below.refl _ _ | (refine Below.alloc ?_ (by first | exact Nat.le_refl _ | omega | (simp; done) | (simp; omega)) _) | (refine Below.setCell ?_ (by first | exact Nat.le_refl _ | omega | (simp; done) | (simp; omega)) _) | exact Below.drew ‹_›))
  have C1 := legs_any nn A ls c s B st cb _ hm hmb ((hS.below B0).more B0.size) (hT.grow B0)
  have HB := Lib.hid B0
  clear hS hT B0
  go_enter Tryz.func16, Tryz.ntmps16
  go_wp2_with fail
  refine C1.mono ?_
  clear C1
  rintro e w1 (⟨hok, A1, gs, c1, rfl, hmap, hsl, hb1⟩ | ⟨hok, rfl, hb1⟩)
  · have HPS := Lib.hid (pathS_some hok)
    obtain ⟨n, z, rfl, hg, hs, h8, -, -⟩ := endI_inv hok
    have B1 := Lib.hid (HB.out.trans (hb1.mono HB.out.size))
    have HSL := Lib.hid hsl
    have hgl : gs.length ≤ 8 := by
      have := congrArg List.length hmap
      rw [List.length_map] at this
      have := legsO_len (n : Int) ls st s
      omega
    have HM := Lib.hid hmap
    have HMEM : Hid (∀ x ∈ gs, 0 < x.p.length ∧ x.p.length ≤ 8) := Lib.hid (fun x hx => by
      obtain ⟨u, hu, e1, e2⟩ := legsO_mem hg hs x.lp (by rw [← hmap]; exact List.mem_map_of_mem hx)
      obtain ⟨_, _, _, _, _, h8', _⟩ := leg_fact hg hu (by rw [← e1]; exact e2)
      rw [← e1] at h8'
      exact ⟨List.length_pos_iff.2 e2, h8'⟩)
    clear hok hsl hb1 hmap HB hg
    have P1 : Hid (PS w1 (.slice (some ⟨w1.heap.size, 0, none⟩) 1 1) [s] (w1.alloc (.cells #[.int .i64 s] 3))) :=
      Lib.hid ⟨⟨by simp, .inr ⟨w1.heap.size, 1, #[.int .i64 s], rfl, Nat.le_refl _, Box.new w1 3 #[.int .i64 s], Nat.le_refl _, by unfold maxLen; omega, rfl, by simp⟩⟩, (Below.refl _ _).alloc (Nat.le_refl _) _⟩
    go_wp2_with fail
    go_loopw [9, 26] (fun v i wr => ∃ k : Nat, k ≤ gs.length ∧ i = .int .i64 k ∧ PS w1 v (s :: tails ((gs.take k).map Lg.lp)) wr) (fun _ i _ => gs.length - (intOf i).toNat)
    case atStart => exact ⟨0, Nat.zero_le _, rfl, P1.out⟩
    case round =>
      obtain ⟨k, hk, rfl, hP⟩ := hrel
      have HP := Lib.hid hP
      clear hP P1
      by_cases hlt : k < gs.length
      · obtain ⟨x, hx⟩ : ∃ x, gs[k]? = some x := ⟨_, List.getElem?_eq_getElem hlt⟩
        obtain ⟨hp0, hp8⟩ := HMEM.out x (List.mem_of_getElem? hx)
        obtain ⟨b, off, g, o, rfl, hb, hc1, hc2, hgB, hcp, hcell⟩ := (HSL.out.below HP.out.bel).at hx hp0
        have hbw : b < wr.heap.size := Nat.lt_of_lt_of_le hb HP.out.bel.size
        have htl : (tails ((gs.take k).map Lg.lp)).length ≤ 7 * 8 := by
          refine Nat.le_trans (tails_len fun y hy => ?_) ?_
          · obtain ⟨y', hy', rfl⟩ := List.mem_map.1 hy
            exact (HMEM.out y' (List.mem_of_mem_take hy')).2
          · simp; omega
        have HT : Hid (tails ((gs.take (k + 1)).map Lg.lp) = tails ((gs.take k).map Lg.lp) ++ x.p.drop 1) := Lib.hid (by
          rw [List.take_add_one, hx]
          simp only [Option.toList_some, List.map_append, List.map_cons, List.map_nil]
          rw [tails_snoc])
        have HC := Lib.hid hcell
        have hww := HP.out.bel.size
        have HP0 := Lib.hid (HP.out.alloc (.cells #[byV x.l, .slice (some ⟨g, o, none⟩) x.p.length x.c] 55))
        obtain ⟨l, p, A', g', c'⟩ := x
        dsimp only at *
        clear hx hcell HP
        have hbv := byV_iface l
        generalize byV l = bv at *
        obtain ⟨T, v0, rfl⟩ := hbv
        generalize tails ((gs.take k).map Lg.lp) = ts at *
        obtain ⟨u, r, rfl⟩ : ∃ u r, p = u :: r := by
          cases p with
          | nil => simp at hp0
          | cons u r => exact ⟨u, r, rfl⟩
        simp only [List.length_cons, List.drop_succ_cons, List.drop_zero] at *
        have HN : Hid (∀ (i : Nat) (y : Int), r[i]? = some y → (wr.alloc (.cells #[.iface T v0, .slice (some ⟨g, o, none⟩) (r.length + 1) c'] 55)).cell? ⟨g, o + 1 + i, none⟩ = some (.int .i64 y)) := Lib.hid (fun i y hy => by
          rw [show o + 1 + i = o + (i + 1) by omega]
          exact (World.cell?_alloc_lt wr _ ⟨g, _, none⟩ (Nat.lt_of_lt_of_le hgB hww)).trans (HC.out (i + 1) y (by simpa using hy)))
        by_cases hc1 : c' = 1
        · obtain rfl : r = [] := List.eq_nil_of_length_eq_zero (by omega)
          subst hc1
          simp only [List.length_nil, Nat.zero_add] at *
          go_wp2_with (at_builtin; refine wpList_append_own_at _ rfl _ _ 41 rfl w1.heap.size 3 i0 _ 1 8 Tryz.underlying41 hi hz0 hz10 hz20 rfl (by decide) _ (s :: ts).length _ rfl HP0.out.row ⟨g, o, none⟩ 0 0 ([].map (Value.int .i64)) rfl rfl (fun j u h => by simp at h) (fun u h => by simp at h) (by unfold maxLen; simp; omega) (by simp; omega) (by have := HP0.out.bel.size; omega) ?_; intro v' w3 hown' hgrow _ hat; have P3 := Lib.hid (HP0.out.append hown' rfl hgrow); clear hown' hgrow hat)
          go_roundw
          case rel => exact ⟨k + 1, hlt, by go_num, by rw [HT.out]; exact P3.out⟩
          case measure => simp [intOf]; omega
        · have hc2 : 1 < c' := by omega
          go_wp2_with (at_builtin; refine wpList_append_own_at _ rfl _ _ 41 rfl w1.heap.size 3 i0 _ 1 8 Tryz.underlying41 hi hz0 hz10 hz20 rfl (by decide) _ (s :: ts).length _ rfl HP0.out.row ⟨g, o + 1, none⟩ r.length (c' - 1) (r.map (Value.int .i64)) rfl (by simp) (news_at HN.out) (news_one r) (by unfold maxLen; simp; omega) (by simp; omega) (by have := HP0.out.bel.size; omega) ?_; intro v' w3 hown' hgrow _ hat; have P3 := Lib.hid (HP0.out.append hown' rfl hgrow); clear hown' hgrow hat)
          go_roundw
          case rel => exact ⟨k + 1, hlt, by go_num, by rw [HT.out]; exact P3.out⟩
          case measure => simp [intOf]; omega
      · obtain rfl : k = gs.length := by omega
        have hfin := HP.out.newC B1.out
        rw [List.take_length] at hfin
        go_wp2_with fail
        go_ret
        rw [HPS.out, ← HM.out]
        exact hfin
  · have HPS := Lib.hid (pathS_none hok)
    have B1 := Lib.hid (HB.out.trans (hb1.mono HB.out.size))
    clear hok hb1 HB
    go_wp2_with fail
    go_ret
    rw [HPS.out]
    exact ⟨_, w1.heap.size, _, rfl, B1.out.size, fun h => absurd h (by simp), B1.out.alloc B1.out.size _, by simp⟩

set_option maxRecDepth 100000 in
theorem stackEnd_impl (nn : Int) (A : Option Addr) (ls : List Lk) (c : Nat) (s : Int) (B : Option Addr) (st : List Lb) (cb : Nat) (w : World) (hm : ls.length ≤ 2000000) (hmb : st.length ≤ 2000000) (hS : Sl w w.heap.size A ls) (hT : Slb w w.heap.size B st) :
   Calls Tryz.prog 8 #[gval nn A ls.length c, .int .i64 s, .slice B st.length cb] w fun e w' => e = .returned (stepV (endI nn ls s st)) ∧ Below w.heap.size w w' := by
  have B0 : Below w.heap.size w (w.alloc (.cells #[.int .i64 nn, .slice A ls.length c] 25)) := by (repeat (first | exact Below.refl _ _ | (refine Below.alloc ?_ (by first | exact Nat.le_refl _ | omega | (simp; done) | (simp; omega)) _) | (refine Below.setCell ?_ (by first | exact Nat.le_refl _ | omega | (simp; done) | (simp; omega)) _) | exact Below.drew ‹_›))
  have C1 := stackPath_impl nn A ls c s B st cb _ hm hmb ((hS.below B0).more B0.size) (hT.grow B0)
  have HB := Lib.hid B0
  clear hS hT B0
  have hpl := pathS_len nn ls s st
  cases he : endI nn ls s st with
  | none =>
    rw [pathS_none (by rw [he]; rfl)] at C1
    clear he hpl
    go_enter Tryz.func8, Tryz.ntmps8
    go_wp2_with fail
    refine C1.mono ?_
    clear C1
    rintro e w1 ⟨A1, g1, c1, rfl, hg1, ho1, hb1, hcp⟩
    have B1 := Lib.hid (HB.out.trans (hb1.mono HB.out.size))
    clear hb1 ho1
    go_wp2_with fail
    go_returns
    exact ⟨rfl, B1.out⟩
  | some z =>
    obtain ⟨hz, hp0⟩ := pathS_end he
    generalize pathS nn ls s st = p at *
    obtain ⟨q, hq⟩ : ∃ q, p.length = q + 1 := ⟨p.length - 1, by omega⟩
    rw [hq, Nat.add_sub_cancel] at hz
    have hsub : (p.length : Int) - 1 = (q : Int) := by omega
    have hwp : IntKind.i64.wrap (q : Int) = (q : Int) := IntWalk.i64_in _ (by omega)
    have hql : q < p.length := by omega
    have hpe : ((p.length : Int) == 0) = false := by rw [beq_eq_false_iff_ne]; omega
    have HZ := Lib.hid hz
    clear he hz hq
    go_enter Tryz.func8, Tryz.ntmps8
    go_wp2_with fail
    refine C1.mono ?_
    clear C1
    rintro e w1 ⟨A1, g1, c1, rfl, hg1, ho1, hb1, hcp⟩
    have B1 := Lib.hid (HB.out.trans (hb1.mono HB.out.size))
    obtain ⟨rfl, zg, hcx⟩ := ho1.at HZ.out
    clear hb1 ho1
    go_wp2_with fail
    go_returns
    exact ⟨rfl, B1.out⟩

end Go.Proofs.YtenlofomkchlaabGreatDoor
