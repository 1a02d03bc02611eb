/-
  Contracts over this seat: a drawn table.
-/
import Derived.Test.YtohflcbpjjnccabTp
import Derived.Test.YtohflcbpjjnccabTk
namespace Go.Proofs.Ytohflcbpjjnccab
open Go.RowKit Go.Maps

/-- The state while a table's hops are drawn: the reader, the result, the table, its two rows. -/
structure TD (w : World) (R : Nat) (A : Option Addr) (len c : Nat) (f : Nat → Int) (P T : Nat) (rs : List Lk) (hs : List Int) (v u : Value) (W : World) : Prop where
  rd : RD R A len c f P W
  kL : Box W w.heap.size 30 #[.slice none 0 0, .slice none 0 0]
  kT : Box W T 30 #[v, u]
  ow : W.ownsRow w.heap.size 38 3 v rs.length (flat rs)
  on : W.ownsRow w.heap.size 3 1 u hs.length (hs.map (Value.int .i64))
  gr : w.grownBy W (some R)
  far : R < w.heap.size
  old : w.heap.size < T
section
variable {w w1 w2 : World} {R : Nat} {A : Option Addr} {len c : Nat} {f : Nat → Int} {P P' T : Nat} {rs : List Lk} {hs : List Int} {v u u' : Value}
theorem TD.mono (h : TD w R A len c f P T rs hs v u w1) (hP : P ≤ P') : TD w R A len c f P' T rs hs v u w1 := ⟨h.rd.mono hP, h.kL, h.kT, h.ow, h.on, h.gr, h.far, h.old⟩
theorem TD.picked (h : TD w R A len c f P T rs hs v u w1) (hr : RD R A len c f P' w2) (hg : w1.grownBy w2 (some R)) : TD w R A len c f P' T rs hs v u w2 := by
  obtain ⟨cs, hx⟩ := h.rd.box
  have h1 := h.far
  have h2 := h.old
  exact ⟨hr, h.kL.grown hg (by omega), h.kT.grown hg (by omega), owns_picked h.ow hx (by decide) hg, owns_picked h.on hx (by decide) hg, grown_trans h.gr hg, h.far, h.old⟩
theorem TD.drew (h : TD w R A len c f P T rs hs v u w1) : TD w R A len c f P T rs hs v u w1.drew := by
  obtain ⟨⟨p, hp, hx, hB⟩, h2, h3, h4, h5, h6, h7, h8⟩ := h
  exact ⟨⟨p, hp, hx, hB⟩, h2, h3, h4, h5, ⟨h6.os, h6.tape, h6.output, h6.size, h6.block⟩, h7, h8⟩
/-- A hop is appended and stored. -/
theorem TD.hop (h : TD w R A len c f P T rs hs v u w1) {y : Int} {o : Obj} (hown : w2.ownsRow w.heap.size 3 1 u' (hs.length + 1) (hs.map (Value.int .i64) ++ [.int .i64 y])) (hg : (w1.alloc o).grownBy w2 u.ownBlock) :
    Box w2 T 30 #[v, u] ∧ TD w R A len c f P T rs (hs ++ [y]) v u' (w2.setCell ⟨T, 1, none⟩ u') := by
  have h1 := h.far
  have h2 := h.old
  have hb := h.on.lt
  have kL : Box w2 w.heap.size 30 #[.slice none 0 0, .slice none 0 0] := (hg.block _ (by have := h.kL.lt; simp; omega) (fun e => own_box_ne h.on h.kL (by decide) e.symm)).trans (h.kL.alloc o)
  have kT : Box w2 T 30 #[v, u] := (hg.block T (by have := h.kT.lt; simp; omega) (fun e => own_box_ne h.on h.kT (by decide) e.symm)).trans (h.kT.alloc o)
  have ow : w2.ownsRow w.heap.size 38 3 v rs.length (flat rs) := own_other (h.ow.alloc o) (h.on.alloc o) (by decide) hg
  have rd : RD R A len c f P w2 := h.rd.below (((Below.refl (R + 1) w1).alloc h.rd.lt o).grown hg (by have := h.rd.lt; simp; omega) (fun j e => by have := (hb j e).1; omega))
  have gr : w.grownBy w2 (some R) := grown_far (grown_alloc h.gr o) hg (fun j e => (hb j e).1)
  refine ⟨kT, rd.set (q := ⟨T, 1, none⟩) (Nat.lt_trans h1 h2) _, (Below.heap_setCell w2 ⟨T, 1, none⟩ _ _ (Nat.ne_of_lt h2)).trans kL, heap_set kT 1 _, ?_, ?_, grown_setFar gr (p := ⟨T, 1, none⟩) (Nat.le_of_lt h2) _, h1, h2⟩
  · exact ow.kept (grown_set (World.grownBy.refl w2 (some T)) 1 u') (.inr (own_box_ne ow kT (by decide)))
  · rw [List.length_append, List.length_singleton, List.map_append]
    exact hown.kept (grown_set (World.grownBy.refl w2 (some T)) 1 u') (.inr (own_box_ne hown kT (by decide)))
end
/-- The state while a table's routes are drawn: the reader, the result, the table, its routes with room, its hops. -/
structure TE (w : World) (R : Nat) (A : Option Addr) (len c : Nat) (f : Nat → Int) (P T : Nat) (rs : List Lk) (hs : List Int) (g cr gh d : Nat) (W : World) : Prop where
  rd : RD R A len c f P W
  kL : Box W w.heap.size 30 #[.slice none 0 0, .slice none 0 0]
  kT : Box W T 30 #[.slice (some ⟨g, 0, none⟩) rs.length cr, .slice (some ⟨gh, 0, none⟩) hs.length d]
  ow : W.ownsRow w.heap.size 38 3 (.slice (some ⟨g, 0, none⟩) rs.length cr) rs.length (flat rs)
  ah : Arri W gh hs
  gr : w.grownBy W (some R)
  far : R < w.heap.size
  old : w.heap.size < T
  hg : w.heap.size ≤ gh
  hd : hs.length ≤ d
section
variable {w w1 w2 : World} {R : Nat} {A : Option Addr} {len c : Nat} {f : Nat → Int} {P P' T : Nat} {rs ys : List Lk} {hs : List Int} {g cr gh d g2 c2 gh2 d2 : Nat}
theorem TD.e (h : TD w R A len c f P T rs hs (.slice (some ⟨g, 0, none⟩) rs.length cr) (.slice (some ⟨gh, 0, none⟩) hs.length d) w1) : TE w R A len c f P T rs hs g cr gh d w1 := by
  obtain ⟨g', c', e, h1, -, h3, h4⟩ := own_nodes h.on (by simp)
  simp only [Value.slice.injEq, Option.some.injEq, Addr.mk.injEq, and_true, true_and] at e
  obtain ⟨rfl, rfl⟩ := e
  exact ⟨h.rd, h.kL, h.kT, h.ow, h3, h.gr, h.far, h.old, h1, h4⟩
theorem TE.mono (h : TE w R A len c f P T rs hs g cr gh d w1) (hP : P ≤ P') : TE w R A len c f P' T rs hs g cr gh d w1 := ⟨h.rd.mono hP, h.kL, h.kT, h.ow, h.ah, h.gr, h.far, h.old, h.hg, h.hd⟩
theorem TE.picked (h : TE w R A len c f P T rs hs g cr gh d w1) (hr : RD R A len c f P' w2) (hg2 : w1.grownBy w2 (some R)) : TE w R A len c f P' T rs hs g cr gh d w2 := by
  obtain ⟨cs, hx⟩ := h.rd.box
  have h1 := h.far
  have h2 := h.old
  have h3 := h.hg
  exact ⟨hr, h.kL.grown hg2 (by omega), h.kT.grown hg2 (by omega), owns_picked h.ow hx (by decide) hg2, h.ah.block (hg2.block gh h.ah.lt (by simp; omega)), grown_trans h.gr hg2, h.far, h.old, h.hg, h.hd⟩
theorem TE.call (h : TE w R A len c f P T rs hs g cr gh d w1) (hb : Below w1.heap.size w1 w2) : TE w R A len c f P T rs hs g cr gh d w2 :=
  ⟨h.rd.below (hb.mono h.rd.lt), h.kL.below hb h.kL.lt, h.kT.below hb h.kT.lt, rt_keep h.ow hb, h.ah.below hb h.ah.lt, grown_trans h.gr (rx_grown _ hb), h.far, h.old, h.hg, h.hd⟩
theorem TE.alloc (h : TE w R A len c f P T rs hs g cr gh d w1) (o : Obj) : TE w R A len c f P T rs hs g cr gh d (w1.alloc o) := h.call ((Below.refl _ _).alloc (Nat.le_refl _) o)
theorem TE.drew (h : TE w R A len c f P T rs hs g cr gh d w1) : TE w R A len c f P T rs hs g cr gh d w1.drew := by
  obtain ⟨⟨p, hp, hx, hB⟩, h2, h3, h4, h5, h6, h7, h8, h9, h10⟩ := h
  exact ⟨⟨p, hp, hx, hB⟩, h2, h3, h4, h5, ⟨h6.os, h6.tape, h6.output, h6.size, h6.block⟩, h7, h8, h9, h10⟩
theorem TE.row (h : TE w R A len c f P T rs hs g cr gh d w1) : Arrt w1 g rs ∧ rs.length ≤ cr ∧ w.heap.size ≤ g := by
  obtain ⟨g', c', e, h1, -, h3, h4⟩ := own_routes h.ow (by simp)
  simp only [Value.slice.injEq, Option.some.injEq, Addr.mk.injEq, and_true, true_and] at e
  obtain ⟨rfl, rfl⟩ := e
  exact ⟨h3, h4, h1⟩
theorem TE.sl (h : TE w R A len c f P T rs hs g cr gh d w1) : Sl w1 w1.heap.size (some ⟨g, 0, none⟩) rs := h.row.1.sl h.row.1.lt
theorem TE.sli (h : TE w R A len c f P T rs hs g cr gh d w1) : Sli w1 w1.heap.size (some ⟨gh, 0, none⟩) hs := h.ah.sli h.ah.lt
/-- A cell of another table is stored. -/
theorem TE.setX (h : TE w R A len c f P T rs hs g cr gh d w1) {X : Nat} {cs : Array Value} (hX : Box w1 X 30 cs) (hXT : T < X) (i : Nat) (u : Value) : TE w R A len c f P T rs hs g cr gh d (w1.setCell ⟨X, i, none⟩ u) := by
  have h1 := h.far
  have h2 := h.old
  refine ⟨h.rd.set (q := ⟨X, i, none⟩) (by dsimp only; omega) _, (Below.heap_setCell w1 ⟨X, i, none⟩ _ _ (by dsimp only; omega)).trans h.kL, (Below.heap_setCell w1 ⟨X, i, none⟩ _ _ (by dsimp only; omega)).trans h.kT, h.ow.kept (grown_set (World.grownBy.refl w1 (some X)) i u) (.inr (own_box_ne h.ow hX (by decide))), h.ah.setFar (p := ⟨X, i, none⟩) (fun e => ?_) _, grown_setFar h.gr (p := ⟨X, i, none⟩) (by dsimp only; omega) _, h1, h2, h.hg, h.hd⟩
  obtain ⟨cs', hh, _⟩ := h.ah
  have := hh.symm.trans ((show gh = X from e) ▸ hX)
  simp at this
/-- Another table is stored. -/
theorem TE.put (h : TE w R A len c f P T rs hs g cr gh d w1) (hrm : Room w1 g2 c2) (har : Arrt w1 g2 ys) (hah : Arri w1 gh2 hs) (hc : ys.length ≤ c2) (hd : hs.length ≤ d2) (hg2 : w.heap.size ≤ g2) (hgh : w.heap.size ≤ gh2) :
    TE w R A len c f P T ys hs g2 c2 gh2 d2 ((w1.setCell ⟨T, 0, none⟩ (.slice (some ⟨g2, 0, none⟩) ys.length c2)).setCell ⟨T, 1, none⟩ (.slice (some ⟨gh2, 0, none⟩) hs.length d2)) := by
  have h1 := h.far
  have h2 := h.old
  have hne : g2 ≠ T := by
    rintro rfl
    obtain ⟨cs, hh, _⟩ := har
    have := hh.symm.trans h.kT
    simp at this
  have hne2 : gh2 ≠ T := by
    rintro rfl
    obtain ⟨cs, hh, _⟩ := hah
    have := hh.symm.trans h.kT
    simp at this
  refine ⟨(h.rd.set (q := ⟨T, 0, none⟩) (by dsimp only; omega) _).set (q := ⟨T, 1, none⟩) (by dsimp only; omega) _, ?_, heap_set (heap_set h.kT 0 _) 1 _, ?_, (hah.setFar (p := ⟨T, 0, none⟩) hne2 _).setFar (p := ⟨T, 1, none⟩) hne2 _, grown_setFar (grown_setFar h.gr (p := ⟨T, 0, none⟩) (by dsimp only; omega) _) (p := ⟨T, 1, none⟩) (by dsimp only; omega) _, h1, h2, hgh, hd⟩
  · exact (Below.heap_setCell _ ⟨T, 1, none⟩ _ _ (by dsimp only; omega)).trans ((Below.heap_setCell w1 ⟨T, 0, none⟩ _ _ (by dsimp only; omega)).trans h.kL)
  · exact ((hrm.far (p := ⟨T, 0, none⟩) hne _).far (p := ⟨T, 1, none⟩) hne _).own ((har.far (p := ⟨T, 0, none⟩) hne _).far (p := ⟨T, 1, none⟩) hne _) hc hg2
end
/-- What TableAdd has answered, in memory. -/
structure PK (w0 : World) (A : Option Addr) (g c : Nat) (B : Option Addr) (gh d : Nat) (ys : List Lk) (zs : List Int) (W : World) : Prop where
  ow : OwT W A g ys
  oh : Own1i W B gh zs
  rm : 0 < ys.length → Room W g c
  hg : w0.heap.size ≤ g
  hgh : w0.heap.size ≤ gh
  hc : ys.length ≤ c
  hd : zs.length ≤ d
theorem PK.alloc {w0 W : World} {A B : Option Addr} {g c gh d : Nat} {ys : List Lk} {zs : List Int} (h : PK w0 A g c B gh d ys zs W) (o : Obj) : PK w0 A g c B gh d ys zs (W.alloc o) :=
  ⟨h.ow.alloc o, h.oh.alloc o, fun hp => (h.rm hp).below ((Below.refl _ _).alloc (Nat.le_refl _) o) (h.rm hp).lt, h.hg, h.hgh, h.hc, h.hd⟩
theorem PK.setX {w0 W : World} {A B : Option Addr} {g c gh d X : Nat} {ys : List Lk} {zs : List Int} {cs : Array Value} (h : PK w0 A g c B gh d ys zs W) (hX : Box W X 30 cs) (i : Nat) (u : Value) : PK w0 A g c B gh d ys zs (W.setCell ⟨X, i, none⟩ u) := by
  have n1 : 0 < ys.length → g ≠ X := by
    rintro hp rfl
    obtain ⟨-, cs', hh, _⟩ := h.ow hp
    have := hh.symm.trans hX
    simp at this
  have n2 : 0 < zs.length → gh ≠ X := by
    rintro hp rfl
    obtain ⟨-, cs', hh, _⟩ := h.oh hp
    have := hh.symm.trans hX
    simp at this
  exact ⟨fun hp => ⟨(h.ow hp).1, (h.ow hp).2.far (p := ⟨X, i, none⟩) (n1 hp) u⟩, fun hp => ⟨(h.oh hp).1, (h.oh hp).2.setFar (p := ⟨X, i, none⟩) (n2 hp) u⟩, fun hp => (h.rm hp).far (p := ⟨X, i, none⟩) (n1 hp) u, h.hg, h.hgh, h.hc, h.hd⟩
theorem TE.hop {w w1 : World} {R : Nat} {A : Option Addr} {len c : Nat} {f : Nat → Int} {P T : Nat} {rs : List Lk} {hs : List Int} {g cr gh d : Nat} (h : TE w R A len c f P T rs hs g cr gh d w1) {i : Nat} (hi : i < hs.length) (y : Int) : TE w R A len c f P T rs (hs.set i y) g cr gh d (w1.setCell ⟨gh, i, none⟩ (.int .i64 y)) := by
  have h1 := h.far
  have h3 := h.hg
  obtain ⟨cs, hh, _⟩ := h.ah
  have hB : Box w1 gh 3 cs := hh
  have n1 : w.heap.size ≠ gh := by
    intro e
    have := hh.symm.trans (e ▸ h.kL)
    simp at this
  have n2 : T ≠ gh := by
    intro e
    have := hh.symm.trans (e ▸ h.kT)
    simp at this
  refine ⟨h.rd.set (q := ⟨gh, i, none⟩) (by dsimp only; omega) _, (Below.heap_setCell w1 ⟨gh, i, none⟩ _ _ n1).trans h.kL, ?_, h.ow.kept (grown_set (World.grownBy.refl w1 (some gh)) i _) (.inr (own_box_ne h.ow hB (by decide))), h.ah.setL y hi, grown_setFar h.gr (p := ⟨gh, i, none⟩) h3 _, h1, h.old, h3, by rw [List.length_set]; exact h.hd⟩
  rw [List.length_set]
  exact (Below.heap_setCell w1 ⟨gh, i, none⟩ _ _ n2).trans h.kT
/-- The hops are cut off. -/
theorem TE.cut {w w1 : World} {R : Nat} {A : Option Addr} {len c : Nat} {f : Nat → Int} {P T : Nat} {rs : List Lk} {hs : List Int} {g cr gh d : Nat} (h : TE w R A len c f P T rs hs g cr gh d w1) : TE w R A len c f P T rs [] g cr gh d (w1.setCell ⟨T, 1, none⟩ (.slice (some ⟨gh, 0, none⟩) 0 d)) := by
  have h1 := h.far
  have h2 := h.old
  obtain ⟨cs, hh, _⟩ := h.ah
  have n2 : gh ≠ T := by
    intro e
    rw [e] at hh
    have := hh.symm.trans h.kT
    simp at this
  have hA : Arri w1 gh [] := ⟨cs, hh, fun k x hk => by simp at hk⟩
  exact ⟨h.rd.set (q := ⟨T, 1, none⟩) (by dsimp only; omega) _, (Below.heap_setCell w1 ⟨T, 1, none⟩ _ _ (Nat.ne_of_lt h2)).trans h.kL, heap_set h.kT 1 _, h.ow.kept (grown_set (World.grownBy.refl w1 (some T)) 1 _) (.inr (own_box_ne h.ow h.kT (by decide))), hA.setFar (p := ⟨T, 1, none⟩) n2 _, grown_setFar h.gr (p := ⟨T, 1, none⟩) (Nat.le_of_lt h2) _, h1, h2, h.hg, Nat.zero_le _⟩
/-- A route is appended and stored. -/
theorem TE.app {w w1 w2 : World} {R : Nat} {A : Option Addr} {len c : Nat} {f : Nat → Int} {P T : Nat} {rs : List Lk} {hs : List Int} {g cr gh d g2 c2 : Nat} (h : TE w R A len c f P T rs hs g cr gh d w1) {x : Lk} {o : Obj}
    (hown : w2.ownsRow w.heap.size 38 3 (.slice (some ⟨g2, 0, none⟩) (rs.length + 1) c2) (rs.length + 1) (flat rs ++ [.int .i64 x.a, .int .i64 x.b, .int .i64 x.c])) (hg : (w1.alloc o).grownBy w2 (some g)) :
    Box w2 T 30 #[.slice (some ⟨g, 0, none⟩) rs.length cr, .slice (some ⟨gh, 0, none⟩) hs.length d] ∧ TE w R A len c f P T (rs ++ [x]) hs g2 c2 gh d (w2.setCell ⟨T, 0, none⟩ (.slice (some ⟨g2, 0, none⟩) (rs.length + 1) c2)) := by
  have h1 := h.far
  have h2 := h.old
  have hb := h.ow.lt
  have hne : ∀ {b t : Nat} {cs : Array Value}, Box w1 b t cs → 38 ≠ t → some b ≠ some g := fun hB ht e => own_box_ne h.ow hB ht (show _ = some _ from by rw [e]; rfl)
  have kL : Box w2 w.heap.size 30 #[.slice none 0 0, .slice none 0 0] := (hg.block _ (by have := h.kL.lt; simp; omega) (hne h.kL (by decide))).trans (h.kL.alloc o)
  have kT : Box w2 T 30 #[.slice (some ⟨g, 0, none⟩) rs.length cr, .slice (some ⟨gh, 0, none⟩) hs.length d] := (hg.block T (by have := h.kT.lt; simp; omega) (hne h.kT (by decide))).trans (h.kT.alloc o)
  have ah : Arri w2 gh hs := by
    obtain ⟨cs, hh, hp⟩ := h.ah
    exact ⟨cs, (hg.block gh (by have := heap_lt hh; simp; omega) (hne (show Box w1 gh 3 cs from hh) (by decide))).trans ((show Box w1 gh 3 cs from hh).alloc o), hp⟩
  have n2 : gh ≠ T := by
    obtain ⟨cs, hh, _⟩ := ah
    intro e
    rw [e] at hh
    have := hh.symm.trans kT
    simp at this
  have rd : RD R A len c f P w2 := h.rd.below (((Below.refl (R + 1) w1).alloc h.rd.lt o).grown hg (by have := h.rd.lt; simp; omega) (fun j e => by have := (hb g rfl).1; cases e; omega))
  have gr : w.grownBy w2 (some R) := grown_far (grown_alloc h.gr o) hg (fun j e => by cases e; exact (hb g rfl).1)
  refine ⟨kT, rd.set (q := ⟨T, 0, none⟩) (Nat.lt_trans h1 h2) _, (Below.heap_setCell w2 ⟨T, 0, none⟩ _ _ (Nat.ne_of_lt h2)).trans kL, ?_, ?_, ah.setFar (p := ⟨T, 0, none⟩) n2 _, grown_setFar gr (p := ⟨T, 0, none⟩) (Nat.le_of_lt h2) _, h1, h2, h.hg, h.hd⟩
  · rw [List.length_append, List.length_singleton]
    exact heap_set kT 0 _
  · rw [List.length_append, List.length_singleton, flat_append]
    exact hown.kept (grown_set (World.grownBy.refl w2 (some T)) 0 _) (.inr (own_box_ne hown kT (by decide)))
/-- A drawn table. -/
def TableD (R : Nat) (A : Option Addr) (len c P : Nat) (f : Nat → Int) (w : World) (e : Ending) (w' : World) : Prop :=
  ∃ (rs : List Lk) (hs : List Int) (g cr gh d : Nat), e = .returned (tbV (some ⟨g, 0, none⟩) rs.length cr (some ⟨gh, 0, none⟩) hs.length d) ∧ rs.length ≤ 31 ∧ hs.length ≤ 4 ∧ Arrt w' g rs ∧ w.heap.size ≤ g ∧ Arri w' gh hs ∧ w.heap.size ≤ gh ∧ rs.length ≤ cr ∧ hs.length ≤ d ∧ RD R A len c f (P + 300) w' ∧ w.grownBy w' (some R)
theorem TE.done {w w1 : World} {R : Nat} {A : Option Addr} {len c : Nat} {f : Nat → Int} {P P' T : Nat} {rs : List Lk} {hs : List Int} {g cr gh d : Nat} (h : TE w R A len c f P' T rs hs g cr gh d w1) (hP : P' ≤ P + 300) (hr : rs.length ≤ 31) (hh : hs.length ≤ 4) {v : Value} (u0 u1 : Value) (hv : v = tbV (some ⟨g, 0, none⟩) rs.length cr (some ⟨gh, 0, none⟩) hs.length d) :
    TableD R A len c P f w (.returned v) ((w1.setCell ⟨w.heap.size, 0, none⟩ u0).setCell ⟨w.heap.size, 1, none⟩ u1) := by
  subst hv
  obtain ⟨har, hc, hgg⟩ := h.row
  have h1 := h.far
  have n1 : g ≠ w.heap.size := by
    obtain ⟨cs, hh, _⟩ := har
    intro e
    have := hh.symm.trans (e ▸ h.kL)
    simp at this
  have n2 : gh ≠ w.heap.size := by
    obtain ⟨cs, hh, _⟩ := h.ah
    intro e
    have := hh.symm.trans (e ▸ h.kL)
    simp at this
  exact ⟨rs, hs, g, cr, gh, d, rfl, hr, hh, (har.far (p := ⟨w.heap.size, 0, none⟩) n1 _).far (p := ⟨w.heap.size, 1, none⟩) n1 _, hgg, (h.ah.setFar (p := ⟨w.heap.size, 0, none⟩) n2 _).setFar (p := ⟨w.heap.size, 1, none⟩) n2 _, h.hg, hc, h.hd, ((h.rd.mono hP).set (q := ⟨w.heap.size, 0, none⟩) h1 _).set (q := ⟨w.heap.size, 1, none⟩) h1 _, grown_setFar (grown_setFar h.gr (p := ⟨w.heap.size, 0, none⟩) (Nat.le_refl _) _) (p := ⟨w.heap.size, 1, none⟩) (Nat.le_refl _) _⟩

set_option maxRecDepth 100000 in
set_option maxHeartbeats 4000000 in
theorem l92table_any (R : Nat) (A : Option Addr) (len c P : Nat) (f : Nat → Int) (w : World) (hlen : len ≤ 2000) (hP : P ≤ 50000) (hR : RD R A len c f P w) :
   Calls Try.prog 66 #[.pointer (some ⟨R, 0, none⟩)] w (TableD R A len c P f w) := by
  obtain ⟨i0, hi, hz0, hz1, hz2⟩ := info_parts infoRoute
  obtain ⟨j0, hj, hy0, hy1, hy2⟩ := info_parts infoInt
  have hRw := hR.lt
  have L0 := Box.new w 30 #[.slice none 0 0, .slice none 0 0]
  have G0 : w.grownBy (w.alloc (.cells #[.slice none 0 0, .slice none 0 0] 30)) (some R) := grown_alloc (World.grownBy.refl w _) _
  have D0 := hR.alloc (.cells #[.slice none 0 0, .slice none 0 0] 30)
  have O1 := World.ownsRow_made (base := w.heap.size) (e := 38) (size := 3) (w.alloc (.cells #[.slice none 0 0, .slice none 0 0] 30)) #[] 0 (by simp) (by unfold maxLen; omega) rfl
  have O2 := World.ownsRow_made (base := w.heap.size) (e := 3) (size := 1) ((w.alloc (.cells #[.slice none 0 0, .slice none 0 0] 30)).alloc (.cells #[] 38)) #[] 0 (by simp; omega) (by unfold maxLen; omega) rfl
  have T0 := Box.new (((w.alloc (.cells #[.slice none 0 0, .slice none 0 0] 30)).alloc (.cells #[] 38)).alloc (.cells #[] 3)) 30 #[.slice (some ⟨w.heap.size + 1, 0, none⟩) 0 0, .slice (some ⟨w.heap.size + 1 + 1, 0, none⟩) 0 0]
  simp only [World.size_alloc] at O1 O2 T0
  have S0 := Lib.hid (show TD w R A len c f P (w.heap.size + 1 + 1 + 1) [] [] (.slice (some ⟨w.heap.size + 1, 0, none⟩) 0 0) (.slice (some ⟨w.heap.size + 1 + 1, 0, none⟩) 0 0) _ from
    ⟨((D0.alloc (.cells #[] 38)).alloc (.cells #[] 3)).alloc _, ((L0.alloc (.cells #[] 38)).alloc (.cells #[] 3)).alloc _, T0, (O1.alloc (.cells #[] 3)).alloc _, O2.alloc _, grown_alloc (grown_alloc (grown_alloc G0 _) _) _, hRw, by omega⟩)
  clear hR L0 G0 D0 O1 O2 T0
  go_enter Try.func66, Try.ntmps66
  go_wp2_with fail
  generalize (((w.alloc (.cells #[.slice none 0 0, .slice none 0 0] 30)).alloc (.cells #[] 38)).alloc (.cells #[] 3)).alloc (.cells #[.slice (some ⟨w.heap.size + 1, 0, none⟩) 0 0, .slice (some ⟨w.heap.size + 1 + 1, 0, none⟩) 0 0] 30) = W0 at *
  have hT : w.heap.size < w.heap.size + 1 + 1 + 1 := by omega
  generalize hTT : w.heap.size + 1 + 1 + 1 = T at *
  refine (pick_rd R A len c P 4 f _ hlen (by omega) (by omega) (by omega) S0.out.rd).mono ?_
  rintro e w1 ⟨k1, rfl, hk1, hR1, hg1, hs1, -⟩
  have S1 := Lib.hid (S0.out.picked hR1 hg1)
  clear hR1 hg1 hs1 S0
  have hw1 : IntKind.i64.wrap (1 + (k1 : Int)) = 1 + (k1 : Int) := IntWalk.i64_in _ (by omega)
  go_wp2_with fail
  obtain ⟨n, hn⟩ : ∃ n : Nat, n = 1 + k1 := ⟨_, rfl⟩
  have hni : 1 + (k1 : Int) = (n : Int) := by omega
  rw [hni]
  have hn1 : 1 ≤ n := by omega
  have hn4 : n ≤ 4 := by omega
  clear hn hni hw1
  go_loopw [5] (fun i wr => ∃ (k : Nat) (hs : List Int) (gu cu : Nat), k ≤ n ∧ i = .int .i64 (k : Int) ∧ Hid (hs.length = k) ∧ Hid (TD w R A len c f (P + 1 + k) T [] hs (.slice (some ⟨w.heap.size + 1, 0, none⟩) 0 0) (.slice (some ⟨gu, 0, none⟩) hs.length cu) wr)) (fun i _ => n - (intOf i).toNat)
  case atStart => exact ⟨0, [], _, _, Nat.zero_le _, rfl, Lib.hid rfl, S1⟩
  case round =>
    obtain ⟨k, hs, gu, cu, hk, rfl, hl, S⟩ := hrel
    clear S1
    have hl1 : hs.length ≤ k := by rw [hl.out]; exact Nat.le_refl _
    by_cases hlt : k < n
    · obtain ⟨z5, e50, e51, q50, q51⟩ := S.out.kT.two
      have hzb := S.out.gr.size
      have SD := Lib.hid S.out.drew
      go_wp2_with fail
      go_region_law (first
        | (go_simp; go_at_call 67; refine (pick_rd R A len c _ 8 f _ hlen (by omega) (by omega) (by omega) SD.out.rd).mono ?_; rintro e w4 ⟨k4, rfl, hk4, hR4, hg4, -, -⟩; have S4 := Lib.hid (SD.out.picked hR4 hg4); obtain ⟨z6, e60, e61, q60, q61⟩ := S4.out.kT.two; clear hR4 hg4)
        | (refine step_appo _ rfl _ _ 23 rfl w.heap.size 3 j0 _ 1 8 Try.underlying23 hj hy0 hy1 hy2 rfl (by decide) _ hs.length (hs.map (Value.int .i64)) rfl (S4.out.on.alloc _) ⟨w4.heap.size, 0, none⟩ 1 1 [.int .i64 (k4 : Int)] rfl rfl (cell_one_new _ _ _) (fun u hu => by simp at hu; subst hu; rfl) (by unfold maxLen; omega) (by omega) (by simp; have := S4.out.gr.size; omega) ?_; intro v' w9 hown hgrow hnil; obtain ⟨g9, c9, e9, -, -, -, -⟩ := own_nodes (xs := hs ++ [(k4 : Int)]) (by rw [List.map_append]; exact hown) (fun e => by have := (hnil.1 e).2; omega); rw [List.length_append, List.length_singleton] at e9; subst e9; obtain ⟨kT9, S9⟩ := S4.out.hop (y := (k4 : Int)) hown hgrow; have S9 := Lib.hid S9; have KT9 := Lib.hid kT9; obtain ⟨z9, e90, e91, q90, q91⟩ := kT9.two; clear hown hgrow hnil kT9))
      all_goals
        go_wp2_with fail
        go_roundw
        case rel => exact ⟨k + 1, hs ++ [(k4 : Int)], g9, c9, hlt, by go_num, Lib.hid (by rw [List.length_append, hl.out]; rfl), by rw [List.length_append, List.length_singleton]; exact S9⟩
        case measure => simp [intOf]; omega
    · obtain rfl : k = n := by omega
      have hge : ¬ ((k : Int) < (k : Int)) := by omega
      go_wp2_with fail
      refine (pick_rd R A len c _ 10 f _ hlen (by omega) (by omega) (by omega) S.out.rd).mono ?_
      rintro e w2 ⟨k2, rfl, hk2, hR2, hg2, -, -⟩
      have S2 := Lib.hid (S.out.picked hR2 hg2)
      clear hR2 hg2 S
      go_wp2_with fail
      refine (pick_rd R A len c _ 6 f _ hlen (by omega) (by omega) (by omega) S2.out.rd).mono ?_
      rintro e w3 ⟨k3, rfl, hk3, hR3, hg3, -, -⟩
      have S3 := Lib.hid ((S2.out.picked hR3 hg3).e)
      clear hR3 hg3 S2
      go_upto_if 32 with fail
      go_cut [6] (fun s6 wx => ∃ q : Nat, q ≤ 30 ∧ s6 = .int .i64 (q : Int) ∧ Hid (TE w R A len c f (P + 1 + k + 1 + 1) T [] hs (w.heap.size + 1) 0 gu cu wx))
      case first =>
        by_cases h3 : k3 = 0
        · subst h3
          go_wp2_with fail
          go_meet
          case rel => exact ⟨30, by omega, rfl, S3⟩
        · have h3' : ((k3 : Int) == 0) = false := by simpa using h3
          go_wp2_with fail
          go_meet
          case rel => exact ⟨k2, by omega, rfl, S3⟩
      case rest =>
        clear S3
        obtain ⟨q, hq, rfl, S⟩ := hcut
        have hh4 : hs.length ≤ 4 := by omega
        go_wp2_with fail
        go_loopw [7] (fun i wr => ∃ (j : Nat) (rs : List Lk) (g cr gh d : Nat), j ≤ q ∧ i = .int .i64 (j : Int) ∧ rs.length ≤ j ∧ Hid (TE w R A len c f (P + 1 + k + 1 + 1 + 8 * j) T rs hs g cr gh d wr)) (fun i _ => q - (intOf i).toNat)
        case atStart => exact ⟨0, [], _, _, _, _, Nat.zero_le _, rfl, Nat.le_refl _, S⟩
        case round =>
          obtain ⟨j, rs, g, cr, gh, d, hj, rfl, hrl, S⟩ := hrel
          by_cases hlt : j < q
          · obtain ⟨z5, e50, e51, q50, q51⟩ := S.out.kT.two
            have SD := Lib.hid S.out.drew
            go_wp2_with fail
            go_region_law (first
              | (go_simp; go_at_call 78; refine (l92route_any R A len c _ f _ hlen (by omega) SD.out.rd).mono ?_; rintro e w4 ⟨x, rfl, hxa, hxb, hxc, hR4, hg4⟩; have S4 := Lib.hid (SD.out.picked hR4 hg4); obtain ⟨z6, e60, e61, q60, q61⟩ := S4.out.kT.two; clear hR4 hg4)
              | (go_simp; go_at_call 78; refine (l92route_any R A len c _ f _ hlen (by omega) (SD.out.alloc (.cells #[.slice none 0 0, .slice none 0 0] 30)).rd).mono ?_; rintro e w4 ⟨x, rfl, hxa, hxb, hxc, hR4, hg4⟩; have S4 := Lib.hid ((SD.out.alloc (.cells #[.slice none 0 0, .slice none 0 0] 30)).picked hR4 hg4); have XB4 := Lib.hid (show Box w4 wr.heap.size 30 #[.slice none 0 0, .slice none 0 0] from (Box.new wr.drew 30 #[.slice none 0 0, .slice none 0 0]).grown hg4 (by have := hRw; have := S.out.gr.size; show wr.heap.size ≠ R; omega)); obtain ⟨z6, e60, e61, q60, q61⟩ := S4.out.kT.two; clear hR4 hg4)
              | (go_simp; go_at_call 17; refine (tableAdd_spec _ _ rs cr _ _ hs d x w4 (by omega) (by omega) S4.out.row.2.1 S4.out.sl S4.out.sli).mono ?_; rintro e w5 ⟨v5, rfl, A5, c5, g5, B5, d5, gh5, rfl, hg5, hgh5, how, hoh, hb5, hc5, hd5, hrm⟩; have S5 := Lib.hid (S4.out.call hb5); have hwz := S4.out.gr.size; have hzT := S4.out.kT.lt; have PK5 := Lib.hid (show PK w A5 g5 c5 B5 gh5 d5 _ _ w5 from ⟨how, hoh, hrm, by first | omega | (simp at hg5; omega), by first | omega | (simp at hgh5; omega), hc5, hd5⟩); obtain ⟨XB5, zx, x0, x1, xf0, xf1⟩ : Box w5 wr.heap.size 30 #[.slice none 0 0, .slice none 0 0] ∧ _ := ⟨XB4.out.below hb5 XB4.out.lt, (XB4.out.below hb5 XB4.out.lt).two⟩; clear hb5 how hoh hrm)
              | (go_simp; go_at_call 17; refine (tableAdd_spec _ _ rs cr _ _ hs d x w4 (by omega) (by omega) S4.out.row.2.1 S4.out.sl S4.out.sli).mono ?_; rintro e w5 ⟨v5, rfl, A5, c5, g5, B5, d5, gh5, rfl, hg5, hgh5, how, hoh, hb5, hc5, hd5, hrm⟩; have S5 := Lib.hid (S4.out.call hb5); have hwz := S4.out.gr.size; have hzT := S4.out.kT.lt; have PK5 := Lib.hid (show PK w A5 g5 c5 B5 gh5 d5 _ _ w5 from ⟨how, hoh, hrm, by first | omega | (simp at hg5; omega), by first | omega | (simp at hgh5; omega), hc5, hd5⟩); clear hb5 how hoh hrm)
              | (go_simp; go_at_call 17; refine (tableAdd_spec _ _ rs cr _ _ hs d x (w4.alloc (.cells #[.slice none 0 0, .slice none 0 0] 30)) (by omega) (by omega) S4.out.row.2.1 (S4.out.alloc (.cells #[.slice none 0 0, .slice none 0 0] 30)).sl (S4.out.alloc (.cells #[.slice none 0 0, .slice none 0 0] 30)).sli).mono ?_; rintro e w5 ⟨v5, rfl, A5, c5, g5, B5, d5, gh5, rfl, hg5, hgh5, how, hoh, hb5, hc5, hd5, hrm⟩; have S5 := Lib.hid ((S4.out.alloc (.cells #[.slice none 0 0, .slice none 0 0] 30)).call hb5); have hwz := S4.out.gr.size; have hzT := S4.out.kT.lt; have PK5 := Lib.hid (show PK w A5 g5 c5 B5 gh5 d5 _ _ w5 from ⟨how, hoh, hrm, by first | omega | (simp at hg5; omega), by first | omega | (simp at hgh5; omega), hc5, hd5⟩); obtain ⟨XB5, zx, x0, x1, xf0, xf1⟩ : Box w5 w4.heap.size 30 #[.slice none 0 0, .slice none 0 0] ∧ _ := ⟨(Box.new w4 30 #[.slice none 0 0, .slice none 0 0]).below hb5 (by simp), ((Box.new w4 30 #[.slice none 0 0, .slice none 0 0]).below hb5 (by simp)).two⟩; clear hb5 how hoh hrm))
            all_goals
              clear S S4 SD
              first
              | (have XB6 := (show Box w5 w4.heap.size 30 #[.slice none 0 0, .slice none 0 0] from XB5)
                 have XF := Lib.hid (show Box ((w5.setCell ⟨w4.heap.size, 0, none⟩ (.slice A5 (addR rs hs x).length c5)).setCell ⟨w4.heap.size, 1, none⟩ (.slice B5 (addH rs hs x).length d5)) w4.heap.size 30 #[.slice A5 (addR rs hs x).length c5, .slice B5 (addH rs hs x).length d5] from heap_set (heap_set XB6 0 _) 1 _)
                 have XB7 : Box (w5.setCell ⟨w4.heap.size, 0, none⟩ (.slice A5 (addR rs hs x).length c5)) w4.heap.size 30 #[.slice A5 (addR rs hs x).length c5, .slice none 0 0] := heap_set XB6 0 _
                 have SF := Lib.hid ((S5.out.setX XB6 (by omega) 0 (.slice A5 (addR rs hs x).length c5)).setX XB7 (by omega) 1 (.slice B5 (addH rs hs x).length d5))
                 have PF := Lib.hid ((PK5.out.setX XB6 0 (.slice A5 (addR rs hs x).length c5)).setX XB7 1 (.slice B5 (addH rs hs x).length d5))
                 generalize (w5.setCell ⟨w4.heap.size, 0, none⟩ (.slice A5 (addR rs hs x).length c5)).setCell ⟨w4.heap.size, 1, none⟩ (.slice B5 (addH rs hs x).length d5) = W6 at *
                 have hX6 : T < w4.heap.size := by omega
                 clear XB6 XB7 XB5
                 generalize w4.heap.size = X6 at *)
              | (have XB6 := (show Box w5 wr.heap.size 30 #[.slice none 0 0, .slice none 0 0] from XB5)
                 have XF := Lib.hid (show Box ((w5.setCell ⟨wr.heap.size, 0, none⟩ (.slice A5 (addR rs hs x).length c5)).setCell ⟨wr.heap.size, 1, none⟩ (.slice B5 (addH rs hs x).length d5)) wr.heap.size 30 #[.slice A5 (addR rs hs x).length c5, .slice B5 (addH rs hs x).length d5] from heap_set (heap_set XB6 0 _) 1 _)
                 have XB7 : Box (w5.setCell ⟨wr.heap.size, 0, none⟩ (.slice A5 (addR rs hs x).length c5)) wr.heap.size 30 #[.slice A5 (addR rs hs x).length c5, .slice none 0 0] := heap_set XB6 0 _
                 have SF := Lib.hid ((S5.out.setX XB6 (by omega) 0 (.slice A5 (addR rs hs x).length c5)).setX XB7 (by omega) 1 (.slice B5 (addH rs hs x).length d5))
                 have PF := Lib.hid ((PK5.out.setX XB6 0 (.slice A5 (addR rs hs x).length c5)).setX XB7 1 (.slice B5 (addH rs hs x).length d5))
                 generalize (w5.setCell ⟨wr.heap.size, 0, none⟩ (.slice A5 (addR rs hs x).length c5)).setCell ⟨wr.heap.size, 1, none⟩ (.slice B5 (addH rs hs x).length d5) = W6 at *
                 have hX6 : T < wr.heap.size := by omega
                 clear XB6 XB7 XB5
                 generalize wr.heap.size = X6 at *)
              | (have XF := Lib.hid (Box.new w5 30 #[.slice A5 (addR rs hs x).length c5, .slice B5 (addH rs hs x).length d5])
                 have SF := Lib.hid (S5.out.alloc (.cells #[.slice A5 (addR rs hs x).length c5, .slice B5 (addH rs hs x).length d5] 30))
                 have PF := Lib.hid (PK5.out.alloc (.cells #[.slice A5 (addR rs hs x).length c5, .slice B5 (addH rs hs x).length d5] 30))
                 have hX6 : T < w5.heap.size := S5.out.kT.lt
                 generalize w5.alloc (.cells #[.slice A5 (addR rs hs x).length c5, .slice B5 (addH rs hs x).length d5] 30) = W6 at *
                 generalize w5.heap.size = X6 at *)
              have HA := Lib.hid (show addB rs hs x = true → addR rs hs x = insR x rs ∧ addH rs hs x = hs from add_yes)
              clear S5 PK5 z5 e50 e51 q50 q51 z6 e60 e61 q60 q61
              generalize addR rs hs x = ys at *
              generalize addH rs hs x = zs at *
              generalize addB rs hs x = bb at *
              obtain ⟨z5, e50, e51, q50, q51⟩ := SF.out.kT.two
              obtain ⟨z6, e60, e61, q60, q61⟩ := XF.out.two
              cases bb with
              | false =>
                go_wp2_with fail
                go_roundw
                case rel => exact ⟨j + 1, rs, g, cr, gh, d, hlt, by go_num, by omega, Lib.hid (SF.out.mono (by omega))⟩
                case measure => simp [intOf]; omega
              | true =>
                obtain ⟨ey, ez⟩ := HA.out rfl
                have hyl : 0 < (insR x rs).length := List.length_pos_of_mem insR_self
                have hyl2 := insR_len (r := x) (rs := rs)
                have hzl : 0 < hs.length := by rw [hl.out]; omega
                subst ey
                subst ez
                obtain ⟨rfl, hay⟩ := PF.out.ow hyl
                obtain ⟨rfl, haz⟩ := PF.out.oh hzl
                have SG := Lib.hid ((SF.out.put (PF.out.rm hyl) hay haz PF.out.hc PF.out.hd PF.out.hg PF.out.hgh).mono (P' := P + 1 + k + 1 + 1 + 8 * (j + 1)) (by omega))
                clear hay haz HA
                go_wp2_with fail
                go_roundw
                case rel => exact ⟨j + 1, insR x rs, g5, c5, gh5, d5, hlt, by go_num, by omega, SG⟩
                case measure => simp [intOf]; omega
          · obtain rfl : j = q := by omega
            have hge : ¬ ((j : Int) < (j : Int)) := by omega
            go_wp2_with fail
            refine (pick_rd R A len c _ 20 f _ hlen (by omega) (by omega) (by omega) S.out.rd).mono ?_
            rintro e w7 ⟨k7, rfl, hk7, hR7, hg7, -, -⟩
            have S7 := Lib.hid (S.out.picked hR7 hg7)
            clear hR7 hg7 S
            have hzw := S7.out.gr.size
            have hTw := S7.out.old
            obtain ⟨z5, e50, e51, q50, q51⟩ := S7.out.kT.two
            obtain ⟨z6, e60, e61, q60, q61⟩ := S7.out.kL.two
            by_cases h70 : k7 = 0
            · subst h70
              have SD := Lib.hid S7.out.drew
              have hk1i : (1 : Int) ≤ (k : Int) := by omega
              go_wp2_with fail
              go_region_law (first
                | (go_simp; go_at_call 67; refine (pick_rd R A len c _ 2 f _ hlen (by omega) (by omega) (by omega) SA.out.rd).mono ?_; rintro e wb ⟨kb, rfl, hkb, hRb, hgb, -, -⟩; have SB := Lib.hid (SA.out.picked hRb hgb); obtain ⟨y5, c50, c51, t50, t51⟩ := SB.out.kT.two; have g50 := SB.out.ah.cell (List.getElem?_eq_getElem hki); have g51 := SB.out.ah.frozen ka; have hw1 : IntKind.i64.wrap ((kb : Int) * 9) = (kb : Int) * 9 := IntWalk.i64_in _ (by omega); have hw2 : IntKind.i64.wrap ((kb : Int) * 9 - 1) = (kb : Int) * 9 - 1 := IntWalk.i64_in _ (by omega); clear hRb hgb)
                | (go_simp; go_at_call 67; refine (pick_rd R A len c _ (k : Int) f _ hlen (by omega) (by omega) (by omega) SD.out.rd).mono ?_; rintro e wa ⟨ka, rfl, hka, hRa, hga, -, -⟩; have SA := Lib.hid (SD.out.picked hRa hga); obtain ⟨y4, c40, c41, t40, t41⟩ := SA.out.kT.two; have hki : ka < hs.length := (by rw [hl.out]; omega); clear hRa hga))
              all_goals
                have SF := Lib.hid (SB.out.hop hki ((kb : Int) * 9 - 1))
                clear z5 e50 e51 q50 q51 z6 e60 e61 q60 q61 y5 c50 c51 t50 t51 y4 c40 c41 t40 t41 g50 g51
                generalize wb.setCell ⟨gh, ka, none⟩ (.int .i64 ((kb : Int) * 9 - 1)) = W6 at *
                obtain ⟨z5, e50, e51, q50, q51⟩ := SF.out.kT.two
                obtain ⟨z6, e60, e61, q60, q61⟩ := SF.out.kL.two
                have hsl : (hs.set ka ((kb : Int) * 9 - 1)).length = hs.length := List.length_set
                rw [hsl] at e51
                go_wp2_with fail
                obtain ⟨b2, r0, r1⟩ := ret_two SF.out.kL (.slice (some ⟨g, 0, none⟩) rs.length cr) (.slice (some ⟨gh, 0, none⟩) hs.length d)
                refine bodyPost_ret (v := tbV (some ⟨g, 0, none⟩) rs.length cr (some ⟨gh, 0, none⟩) hs.length d) (by simp [results, Try.results66, go_sem, r0, r1]) rfl ?_
                exact SF.out.done (by omega) (by first | omega | (simp; done) | (simp; omega)) (by first | omega | (simp; done) | (simp; omega)) _ _ (by simp)
            · have h70' : ((k7 : Int) == 0) = false := by simpa using h70
              by_cases h71 : k7 = 1
              · subst h71
                have SD := Lib.hid S7.out.drew
                have hkn := S7.out.row.2.1
                go_wp2_with fail
                go_region_law (first
                  | (go_simp; go_at_call 78; refine (l92route_any R A len c _ f _ hlen (by omega) SD.out.rd).mono ?_; rintro e wa ⟨x, rfl, hxa, hxb, hxc, hRa, hga⟩; have SA := Lib.hid (SD.out.picked hRa hga); obtain ⟨y4, c40, c41, t40, t41⟩ := SA.out.kT.two; obtain ⟨xa, xb, xc⟩ := x; clear hRa hga)
                  | (refine step_appo _ rfl _ _ 28 rfl w.heap.size 38 i0 _ 3 24 Try.underlying28 hi hz0 hz1 hz2 rfl (by decide) _ rs.length (flat rs) rfl (SA.out.ow.alloc _) ⟨wa.heap.size, 0, none⟩ 1 1 [.int .i64 xa, .int .i64 xb, .int .i64 xc] rfl rfl (new3 _ _ _ _ _) (one3 _ _ _) (by unfold maxLen; omega) (by omega) (by simp; have := SA.out.gr.size; omega) ?_; intro v' w9 hown hgrow hnil; obtain ⟨g9, c9, e9, -, -, -, -⟩ := own_routes (ls := rs ++ [(⟨xa, xb, xc⟩ : Lk)]) (by rw [flat_append]; exact hown) (fun e => by have := (hnil.1 e).2; omega); rw [List.length_append, List.length_singleton] at e9; subst e9; obtain ⟨kT9, S9⟩ := SA.out.app (x := ⟨xa, xb, xc⟩) hown hgrow; have S9 := Lib.hid S9; have KT9 := Lib.hid kT9; obtain ⟨z9, e90, e91, q90, q91⟩ := kT9.two; clear hown hgrow hnil kT9))
                all_goals
                  clear z5 e50 e51 q50 q51 z6 e60 e61 q60 q61 y4 c40 c41 t40 t41 z9 e90 e91 q90 q91
                  generalize w9.setCell ⟨T, 0, none⟩ (.slice (some ⟨g9, 0, none⟩) (rs.length + 1) c9) = W6 at *
                  obtain ⟨z5, e50, e51, q50, q51⟩ := S9.out.kT.two
                  obtain ⟨z6, e60, e61, q60, q61⟩ := S9.out.kL.two
                  have hsl : (rs ++ [(⟨xa, xb, xc⟩ : Lk)]).length = rs.length + 1 := by rw [List.length_append, List.length_singleton]
                  rw [hsl] at e50
                  go_wp2_with fail
                  obtain ⟨b2, r0, r1⟩ := ret_two S9.out.kL (.slice (some ⟨g9, 0, none⟩) (rs.length + 1) c9) (.slice (some ⟨gh, 0, none⟩) hs.length d)
                  refine bodyPost_ret (v := tbV (some ⟨g9, 0, none⟩) (rs.length + 1) c9 (some ⟨gh, 0, none⟩) hs.length d) (by simp [results, Try.results66, go_sem, r0, r1]) rfl ?_
                  exact S9.out.done (by omega) (by first | omega | (simp; done) | (simp; omega)) (by first | omega | (simp; done) | (simp; omega)) _ _ (by simp)
              · have h71' : ((k7 : Int) == 1) = false := beq_eq_false_iff_ne.2 (by omega)
                by_cases h72 : k7 = 2
                · subst h72
                  have S8 := Lib.hid S7.out.cut
                  have hzd : (0 : Int) ≤ (d : Int) := by omega
                  go_wp2_with fail
                  obtain ⟨b2, r0, r1⟩ := ret_two S8.out.kL (.slice (some ⟨g, 0, none⟩) rs.length cr) (.slice (some ⟨gh, 0, none⟩) 0 d)
                  refine bodyPost_ret (v := tbV (some ⟨g, 0, none⟩) rs.length cr (some ⟨gh, 0, none⟩) 0 d) (by simp [results, Try.results66, go_sem, r0, r1]) rfl ?_
                  exact S8.out.done (by omega) (by first | omega | (simp; done) | (simp; omega)) (by first | omega | (simp; done) | (simp; omega)) _ _ (by simp)
                · have h72' : ((k7 : Int) == 2) = false := beq_eq_false_iff_ne.2 (by omega)
                  go_wp2_with fail
                  obtain ⟨b2, r0, r1⟩ := ret_two S7.out.kL (.slice (some ⟨g, 0, none⟩) rs.length cr) (.slice (some ⟨gh, 0, none⟩) hs.length d)
                  refine bodyPost_ret (v := tbV (some ⟨g, 0, none⟩) rs.length cr (some ⟨gh, 0, none⟩) hs.length d) (by simp [results, Try.results66, go_sem, r0, r1]) rfl ?_
                  exact S7.out.done (by omega) (by first | omega | (simp; done) | (simp; omega)) (by first | omega | (simp; done) | (simp; omega)) _ _ (by simp)
end Go.Proofs.Ytohflcbpjjnccab
