/-
  A contract over this seat: the drawn stack: labels in memory of their own.
-/
import Derived.Test.YtenlofomkchlaaaDoorA5
import Derived.Test.YtenlofomkchlaaaDoorC3
import Derived.Test.YtenlofomkchlaaaDoorC1
import Derived.Test.YtenlofomkchlaaaDoorC4
import Derived.Test.YtenlofomkchlaaaDoorA8
namespace Go.Proofs.YtenlofomkchlaaaDoor
open Go.RowKit Go.Maps

/-- The state while labels are drawn: the reader, the graph's box and links, the row of labels. -/
structure SI (w : World) (R : Nat) (A : Option Addr) (len c : Nat) (f : Nat → Int) (P : Nat) (n : Int) (ls : List Lk) (A' : Option Addr) (g' c' : Nat) (v : Value) (st : List Lb) (wx : World) : Prop where
  rd : RD R A len c f P wx
  box : Box wx w.heap.size 25 #[.int .i64 n, .slice A' ls.length c']
  own : Own1 wx A' g' ls
  row : wx.ownsRow (w.heap.size + 1) 97 2 v st.length (flatB st)
  gr : w.grownBy wx (some R)
  nn : v ≠ .slice none 0 0
section
variable {w w1 w2 : World} {R : Nat} {A : Option Addr} {len c : Nat} {f : Nat → Int} {P P' : Nat} {n : Int} {ls : List Lk} {A' : Option Addr} {g' c' : Nat} {v : Value} {st : List Lb}
theorem SI.picked (h : SI w R A len c f P n ls A' g' c' v st w1) (hr : RD R A len c f P' w2) (hg : w1.grownBy w2 (some R)) (hRw : R < w.heap.size) (hgR : g' ≠ R) : SI w R A len c f P' n ls A' g' c' v st w2 := by
  obtain ⟨cs, hx⟩ := h.rd.box
  exact ⟨hr, h.box.grown hg (by omega), h.own.grownFar hg hgR, owns_picked h.row hx (by decide) hg, grown_trans h.gr hg, h.nn⟩
theorem SI.call (h : SI w R A len c f P n ls A' g' c' v st w1) (hb : Below w1.heap.size w1 w2) : SI w R A len c f P n ls A' g' c' v st w2 :=
  ⟨h.rd.below (hb.mono h.rd.lt), h.box.below hb h.box.lt, h.own.below hb, owns_kept h.row hb,
    ⟨hb.os.trans h.gr.os, hb.tape.trans h.gr.tape, hb.output.trans h.gr.output, Nat.le_trans h.gr.size hb.size, fun k hk hne => (hb.block k (Nat.lt_of_lt_of_le hk h.gr.size)).trans (h.gr.block k hk hne)⟩, h.nn⟩
theorem SI.alloc (h : SI w R A len c f P n ls A' g' c' v st w1) (o : Obj) : SI w R A len c f P n ls A' g' c' v st (w1.alloc o) := h.call ((Below.refl _ _).alloc (Nat.le_refl _) o)
theorem SI.drew (h : SI w R A len c f P n ls A' g' c' v st w1) : SI w R A len c f P n ls A' g' c' v st w1.drew := by
  obtain ⟨⟨p, hp, hx, hB⟩, h2, h3, h4, h5, h6⟩ := h
  exact ⟨⟨p, hp, hx, hB⟩, h2, h3, h4, ⟨h5.os, h5.tape, h5.output, h5.size, h5.block⟩, h6⟩
theorem SI.mono (h : SI w R A len c f P n ls A' g' c' v st w1) (hP : P ≤ P') : SI w R A len c f P' n ls A' g' c' v st w1 := ⟨h.rd.mono hP, h.box, h.own, h.row, h.gr, h.nn⟩
theorem SI.setL (h : SI w R A len c f P n ls A' g' c' v st w1) {L : Nat} {cs : Array Value} (hL : Box w1 L 97 cs) (hw : w.heap.size < L) (hRw : R < w.heap.size) (hv : ∀ j, v.ownBlock = some j → j ≠ L) (i : Nat) (u : Value) :
    SI w R A len c f P n ls A' g' c' v st (w1.setCell ⟨L, i, none⟩ u) :=
  ⟨h.rd.set (q := ⟨L, i, none⟩) (by show R < L; omega) u, (Below.heap_setCell w1 ⟨L, i, none⟩ u _ (by show w.heap.size ≠ L; omega)).trans h.box, h.own.set_box hL (by decide) i u,
    h.row.kept (grown_set (World.grownBy.refl w1 (some L)) i u) (.inr (fun e => hv L e rfl)), grown_setFar h.gr (p := ⟨L, i, none⟩) (by show w.heap.size ≤ L; omega) u, h.nn⟩
theorem SI.append (h : SI w R A len c f P n ls A' g' c' v st w1) {l : Lb} {v' : Value} {o : Obj} (hRw : R < w.heap.size)
    (hown : w2.ownsRow (w.heap.size + 1) 97 2 v' (st.length + 1) (flatB st ++ [.int .i64 l.k, .int .i64 l.a])) (hg : (w1.alloc o).grownBy w2 v.ownBlock) (hnn : v' ≠ .slice none 0 0) : SI w R A len c f P n ls A' g' c' v' (st ++ [l]) w2 := by
  have hl := h.row.lt
  have zb := h.box.lt
  refine ⟨?_, ?_, fun hp => ?_, ?_, ?_, hnn⟩
  · exact h.rd.below (((Below.refl (R + 1) w1).alloc h.rd.lt o).grown hg (by have := h.rd.lt; simp; omega) (fun j e => by have := (hl j e).1; omega))
  · exact (hg.block _ (by simp; omega) (fun e => by have := (hl _ e.symm).1; omega)).trans (h.box.alloc o)
  · obtain ⟨e, cs, hh, hc⟩ := h.own hp
    have hne := own_box_ne h.row (g := g') (t := 35) hh (by decide)
    exact ⟨e, cs, (hg.block g' (by have := heap_lt hh; simp; omega) (fun e => hne e.symm)).trans ((Below.heap_alloc w1 o g' (heap_lt hh)).trans hh), hc⟩
  · rw [List.length_append, flatB_append]
    exact hown
  · exact grown_far (grown_alloc h.gr o) hg (fun j e => by have := (hl j e).1; omega)
end

theorem box_row {W W' : World} {base n L : Nat} {v : Value} {xs : List Value} {o : Obj} {cs : Array Value} {t : TypeId} (h : Box W L t cs) (_hr : W.ownsRow base 97 2 v n xs) (hv : ∀ j, v.ownBlock = some j → j ≠ L) (hg : (W.alloc o).grownBy W' v.ownBlock) : Box W' L t cs :=
  (hg.block L (by have := h.lt; simp; omega) (fun e => hv L e.symm rfl)).trans (h.alloc o)
theorem l1I_bound (mn mx : Int) (ls : List Lk) : -1 ≤ l1I mn mx ls ∧ l1I mn mx ls ≤ ls.length := by
  unfold l1I
  split
  · rename_i k hk
    have := (List.findIdx?_eq_some_iff_getElem.1 hk).1
    omega
  · omega
def LbOk (l : Lb) : Prop := -1 ≤ l.k ∧ l.k ≤ 16 ∧ -1 ≤ l.a ∧ l.a ≤ 16

/-- What 'l91Stack' leaves. -/
def StackD (R : Nat) (A : Option Addr) (len c : Nat) (f : Nat → Int) (P : Nat) (w : World) (e : Ending) (w' : World) : Prop :=
  ∃ (st : List Lb) (Ax : Option Addr) (cx : Nat), e = .returned (.slice Ax st.length cx) ∧ st.length ≤ 9 ∧ (∀ l ∈ st, LbOk l) ∧ w'.ownsRow (w.heap.size + 1) 97 2 (.slice Ax st.length cx) st.length (flatB st) ∧ RD R A len c f P w' ∧ w.grownBy w' (some R) ∧ w.heap.size < w'.heap.size ∧ Ax ≠ none


end Go.Proofs.YtenlofomkchlaaaDoor

/-
  Contracts over this seat: what the laws of stacks draw.
-/
namespace Go.Proofs.YtenlofomkchlaaaDoor
open Go.RowKit Go.Maps

theorem Ownb.set_far {w : World} {A : Option Addr} {g : Nat} {ls : List Lb} (h : Ownb w A g ls) {p : Addr} (hp : g ≠ p.block) (u : Value) : Ownb (w.setCell p u) A g ls := fun hl => by
  obtain ⟨e, cs, hh, hc⟩ := h hl
  exact ⟨e, cs, (Below.heap_setCell w p u g hp).trans hh, hc⟩

theorem own_some {w : World} {base cx : Nat} {Ax : Option Addr} {ls : List Lb} (h : w.ownsRow base 97 2 (.slice Ax ls.length cx) ls.length (flatB ls)) (hn : Ax ≠ none) :
    ∃ g, Ax = some ⟨g, 0, none⟩ ∧ base ≤ g ∧ g < w.heap.size ∧ Ownb w (some ⟨g, 0, none⟩) g ls ∧ ls.length ≤ cx := by
  rcases h.2 with ⟨h0, _⟩ | ⟨g, cap, cur, h0, hbg, hh, hl, _, hs, ht⟩
  · injection h0 with h0
    exact absurd h0 hn
  · injection h0 with h1 h2 h3
    subst h1 h3
    refine ⟨g, rfl, hbg, heap_lt hh, fun _ => ⟨rfl, cur, hh, fun k l hl => ?_⟩, hl⟩
    have hk : k < ls.length := (List.getElem?_eq_some_iff.1 hl).1
    obtain ⟨h1, h2⟩ := flatB_at ls k l hl
    rw [← ht] at h1 h2
    rw [List.getElem?_take_of_lt (by omega), Array.getElem?_toList] at h1 h2
    exact ⟨h1, h2⟩

/-- What a law of stacks is drawn. -/
def DStk (w : World) (e : Ending) (w' : World) : Prop :=
  ∃ (n : Int) (ls : List Lk) (A' : Option Addr) (g' c' : Nat) (x : Int) (st : List Lb) (Ax : Option Addr) (gx cx : Nat), e = .returned (.tuple #[gval n A' ls.length c', .int .i64 x, .slice Ax st.length cx]) ∧ DG w n ls A' g' w' ∧ -1 ≤ x ∧ x ≤ 10 ∧
    st.length ≤ 9 ∧ (∀ l ∈ st, LbOk l) ∧ Ownb w' Ax gx st ∧ w.heap.size ≤ gx ∧ st.length ≤ cx ∧ Ax = some ⟨gx, 0, none⟩ ∧ gx < w'.heap.size





end Go.Proofs.YtenlofomkchlaaaDoor

/-
  The state of a law of stacks, and plain facts that the laws ask for.
-/
namespace Go.Proofs.YtenlofomkchlaaaDoor
open Go.RowKit Go.Maps

/-- The state of a law over a drawn graph and drawn labels. -/
def LC (w : World) (G : Nat) (n : Int) (ls : List Lk) (A' : Option Addr) (g' c' : Nat) (Ax : Option Addr) (gx : Nat) (st : List Lb) (wx : World) : Prop := LB w G n ls A' g' c' wx ∧ Ownb wx Ax gx st
section
variable {w w1 w2 : World} {G : Nat} {n : Int} {ls : List Lk} {A' : Option Addr} {g' c' : Nat} {Ax : Option Addr} {gx : Nat} {st : List Lb}
theorem LC.call (h : LC w G n ls A' g' c' Ax gx st w1) (hb : Below w1.heap.size w1 w2) : LC w G n ls A' g' c' Ax gx st w2 := ⟨h.1.call hb, h.2.below hb⟩
theorem LC.alloc (h : LC w G n ls A' g' c' Ax gx st w1) (o : Obj) : LC w G n ls A' g' c' Ax gx st (w1.alloc o) := ⟨h.1.alloc o, h.2.alloc o⟩
theorem LC.drew (h : LC w G n ls A' g' c' Ax gx st w1) : LC w G n ls A' g' c' Ax gx st w1.drew := ⟨h.1.drew, h.2⟩
theorem LC.sl (h : LC w G n ls A' g' c' Ax gx st w1) : Sl w1 w1.heap.size A' ls := h.1.2.1.sl
theorem LC.slb (h : LC w G n ls A' g' c' Ax gx st w1) : Slb w1 w1.heap.size Ax st := h.2.slb
theorem LC.lab (h : LC w G n ls A' g' c' Ax gx st w1) {k : Nat} {l : Lb} (hk : st[k]? = some l) :
    Ax = some ⟨gx, 0, none⟩ ∧ gx < w1.heap.size ∧ w1.cell? ⟨gx, k * 2, none⟩ = some (.int .i64 l.k) ∧ w1.cell? ⟨gx, k * 2 + 1, none⟩ = some (.int .i64 l.a) := by
  have hlt := (List.getElem?_eq_some_iff.1 hk).1
  obtain ⟨e, ha⟩ := h.2 (by omega)
  obtain ⟨cs, hh, hc⟩ := ha
  obtain ⟨h1, h2⟩ := hc k l hk
  exact ⟨e, heap_lt hh, by rw [cell_of_row w1 gx _ cs _ _ hh]; exact h1, by rw [cell_of_row w1 gx _ cs _ _ hh]; exact h2⟩
end

theorem end_nil {n : Int} {ls : List Lk} {x z : Int} (h : endI n ls x [] = some z) : x = z := by
  obtain ⟨m, z', rfl, _, _, _, he, hi⟩ := endI_inv (by rw [h]; rfl)
  rw [hi] at h; cases h
  simpa [endO] using he
theorem end_last {n : Int} {ls : List Lk} {x z : Int} {st : List Lb} (h : endI n ls x st = some z) {q : Nat} {l : Lb} (hl : st[q]? = some l) (hq : st.length = q + 1) :
    (l.k = 1 ∧ z = l.a) ∨ (l.k = 2 ∧ ∃ (j : Nat) (y : Lk), l.a = (j : Int) ∧ ls[j]? = some y ∧ (z = y.a ∨ z = y.b)) := by
  obtain ⟨m, z', rfl, hg, hs, _, he, hi⟩ := endI_inv (by rw [h]; rfl)
  rw [hi] at h; cases h
  obtain ⟨u, hu⟩ := endO_upto he q
  have hn := endO_next hu hl
  rw [show st.take (q + 1) = st by rw [← hq, List.take_length], he] at hn
  have hun := endO_node hg hs hu
  have hne := stepO_leg hn.symm
  rcases leg_kind hne with hk | hk
  · obtain ⟨z', h1, _, _, _, _, _, h7⟩ := leg_fact hg hun hne
    rw [← hn] at h1
    cases h1
    exact .inl ⟨hk, (h7 hk).1⟩
  · obtain ⟨j, y, ha, hy, ht, e⟩ := leg_link hk hne
    refine .inr ⟨hk, j, y, ha, hy, ?_⟩
    have h3 : stepO (m : Int) ls u l = some (acrossI y u) := by unfold stepO; rw [e]; rfl
    rw [h3] at hn
    cases hn
    unfold acrossI
    split
    · exact .inr rfl
    · exact .inl rfl
theorem pathS_facts {n : Int} {ls : List Lk} {x : Int} {st : List Lb} (h : 0 < (pathS n ls x st).length) :
    ∃ (m : Nat) (z : Int), n = (m : Int) ∧ gvB (m : Int) ls = true ∧ endI (m : Int) ls x st = some z ∧ (pathS n ls x st)[0]? = some x ∧ (pathS n ls x st)[(pathS n ls x st).length - 1]? = some z ∧ Way ls (pathS n ls x st) := by
  cases hs : (endI n ls x st).isSome with
  | false => rw [pathS_none hs] at h; simp at h
  | true =>
    obtain ⟨m, z, rfl, hg, _, _, _, hi⟩ := endI_inv hs
    exact ⟨m, z, rfl, hg, hi, by rw [pathS_some hs]; rfl, (pathS_end hi).1, pathS_way⟩
theorem cost_sign (n : Int) (ls : List Lk) (x : Int) (st : List Lb) : ((endI n ls x st).isSome = true → 0 ≤ costS n ls x st) ∧ (endI n ls x st = none → costS n ls x st = -1) := by
  refine ⟨fun h => ?_, fun h => costS_none (by rw [h]; rfl)⟩
  obtain ⟨m, z, rfl, hg, _⟩ := endI_inv h
  rw [costS_some h]
  exact (along_bound hg pathS_way).1

end Go.Proofs.YtenlofomkchlaaaDoor
