/-
  The state while the announcements of a graph are drawn (for l91Close).
-/
import Derived.Test.YtnkohgdfipgdoabZq
import Derived.Test.YtnkohgdfipgdoabOg
import Derived.Test.YtnkohgdfipgdoabC1
namespace Go.Proofs.Ytnkohgdfipgdoab
open Go.RowKit Go.Maps

/-- The state while the announcements of a graph are drawn: the reader and the row (ZL), the graph's box, its links. -/
structure ZC (w : World) (R : Nat) (A : Option Addr) (len c : Nat) (f : Nat → Int) (P : Nat) (v : Value) (zs : List Lz) (n : Int) (Ag : Option Addr) (gg cg : Nat) (ls : List Lk) (W : World) : Prop where
  zl : ZL w R A len c f P v zs W
  gbx : Box W w.heap.size 48 #[.int .i64 n, .slice Ag ls.length cg]
  gow : Own1 W Ag gg ls
section
variable {w w1 w2 : World} {R : Nat} {A : Option Addr} {len c : Nat} {f : Nat → Int} {P P' : Nat} {v : Value} {zs : List Lz} {n : Int} {Ag : Option Addr} {gg cg : Nat} {ls : List Lk}
theorem ZC.mono (h : ZC w R A len c f P v zs n Ag gg cg ls w1) (hP : P ≤ P') : ZC w R A len c f P' v zs n Ag gg cg ls w1 := ⟨h.zl.mono hP, h.gbx, h.gow⟩
theorem ZC.picked (h : ZC w R A len c f P v zs n Ag gg cg ls w1) (hr : RD R A len c f P' w2) (hg : w1.grownBy w2 (some R)) (hRw : R < w.heap.size) (hRg : 0 < ls.length → gg ≠ R) : ZC w R A len c f P' v zs n Ag gg cg ls w2 :=
  ⟨h.zl.picked hr hg hRw, h.gbx.grown hg (by omega), fun hp => by
    obtain ⟨e, cs, hh, hc⟩ := h.gow hp
    exact ⟨e, cs, (hg.block gg (heap_lt hh) (fun e => hRg hp (Option.some.inj e))).trans hh, hc⟩⟩
theorem ZC.call (h : ZC w R A len c f P v zs n Ag gg cg ls w1) (hb : Below w1.heap.size w1 w2) : ZC w R A len c f P v zs n Ag gg cg ls w2 :=
  ⟨h.zl.call hb, h.gbx.below hb h.gbx.lt, h.gow.below hb⟩
theorem ZL.drew (h : ZL w R A len c f P v zs w1) : ZL w R A len c f P v zs w1.drew := by
  obtain ⟨⟨p, hp, hx, hB⟩, h2, h3⟩ := h
  exact ⟨⟨p, hp, hx, hB⟩, ⟨h2.row, h2.inn, h2.dis⟩, ⟨h3.os, h3.tape, h3.output, h3.size, h3.block⟩⟩
theorem ZC.drew (h : ZC w R A len c f P v zs n Ag gg cg ls w1) : ZC w R A len c f P v zs n Ag gg cg ls w1.drew := ⟨h.zl.drew, h.gbx, h.gow⟩
/-- What comes later keeps the state, where all of it lies below B. -/
theorem ZC.far {B : Nat} (h : ZC w R A len c f P v zs n Ag gg cg ls w1) (hb : Below B w1 w2) (hw : w.heap.size < B) (hR : R < B) (hv : ∀ j, v.ownBlock = some j → j < B) (hz : ∀ z ∈ zs, 0 < z.es.length → z.g < B) (hg : 0 < ls.length → gg < B) : ZC w R A len c f P v zs n Ag gg cg ls w2 := by
  obtain ⟨⟨h1, ⟨hrow, hinn, hdis⟩, h3⟩, h4, h5⟩ := h
  refine ⟨⟨h1.below (hb.mono hR), ⟨?_, fun z hzm => ?_, hdis⟩, ⟨hb.os.trans h3.os, hb.tape.trans h3.tape, hb.output.trans h3.output, Nat.le_trans h3.size hb.size, fun k hk hne => (hb.block k (by omega)).trans (h3.block k hk hne)⟩⟩, h4.below hb hw, fun hp => ?_⟩
  · obtain ⟨h6, h7⟩ := hrow
    refine ⟨h6, ?_⟩
    rcases h7 with h7 | ⟨g, cap, cur, rfl, hbg, hh, r⟩
    · exact .inl h7
    · exact .inr ⟨g, cap, cur, rfl, hbg, (hb.block g (hv g rfl)).trans hh, r⟩
  · obtain ⟨h6, h7, h8⟩ := hinn z hzm
    refine ⟨fun hp => ?_, h7, h8⟩
    obtain ⟨e, cs, hh, hc⟩ := h6 hp
    exact ⟨e, cs, (hb.block _ (hz z hzm hp)).trans hh, hc⟩
  · obtain ⟨e, cs, hh, hc⟩ := h5 hp
    exact ⟨e, cs, (hb.block _ (hg hp)).trans hh, hc⟩
end
end Go.Proofs.Ytnkohgdfipgdoab
