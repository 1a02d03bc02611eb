/-
  Contracts over this seat: the reader opened, a node, and what the laws of chapter 1 draw.
-/
import Derived.Test.YtigamnnboojiiaaDrawS
namespace Go.Proofs.Ytigamnnboojiiaa
open Go.RowKit

theorem Byt.less {w : World} {B : Nat} {A : Option Addr} {len len' : Nat} {f : Nat → Int} (h : Byt w B A len f) (hl : len' ≤ len) : Byt w B A len' f := fun hp => by
  obtain ⟨b, off, e, hb, hc⟩ := h (by omega)
  exact ⟨b, off, e, hb, fun i hi => hc i (by omega)⟩

set_option maxRecDepth 100000 in
theorem open_any (A : Option Addr) (len c : Nat) (f : Nat → Int) (w : World) (hlc : len ≤ c) (hc : c ≤ maxLen) (hB : Byt w w.heap.size A len f) :
   Calls Try.prog 64 #[.slice A len c] w fun e w' => ∃ len' : Nat, len' ≤ 2000 ∧ e = .returned (.pointer (some ⟨w.heap.size, 0, none⟩)) ∧ RD w.heap.size A len' c f 0 w' ∧ Below w.heap.size w w' ∧ w'.heap.size = w.heap.size + 1 := by
  have HB := Lib.hid hB
  clear hB
  unfold maxLen at hc
  by_cases h : len ≤ 2000
  · go_enter Try.func64, Try.ntmps64
    go_wp2
    go_ret
    exact ⟨len, h, rfl, ⟨0, Nat.le_refl _, Box.new w 101 _, HB.out.below ((Below.refl w.heap.size w).alloc (Nat.le_refl _) _)⟩, by (repeat (first | exact Below.refl _ _ | (refine Below.alloc ?_ (by first | exact Nat.le_refl _ | omega | (simp; done) | (simp; omega)) _) | (refine Below.setCell ?_ (by first | exact Nat.le_refl _ | omega | (simp; done) | (simp; omega)) _) | exact Below.drew ‹_›)), by simp⟩
  · obtain ⟨b, off, rfl, hb, hcc⟩ := HB.out (by omega)
    clear hcc
    go_enter Try.func64, Try.ntmps64
    go_wp2
    go_ret
    exact ⟨2000, Nat.le_refl _, rfl, ⟨0, Nat.le_refl _, Box.new w 101 _, (HB.out.less (by omega)).below ((Below.refl w.heap.size w).alloc (Nat.le_refl _) _)⟩, by (repeat (first | exact Below.refl _ _ | (refine Below.alloc ?_ (by first | exact Nat.le_refl _ | omega | (simp; done) | (simp; omega)) _) | (refine Below.setCell ?_ (by first | exact Nat.le_refl _ | omega | (simp; done) | (simp; omega)) _) | exact Below.drew ‹_›)), by simp⟩

set_option maxRecDepth 100000 in
theorem node_any (R : Nat) (A : Option Addr) (len c P : Nat) (f : Nat → Int) (n : Int) (A' : Option Addr) (l' c' : Nat) (w : World) (hlen : len ≤ 2000) (hP : P ≤ 10000) (hn0 : 0 ≤ n) (hn : n ≤ 10) (hR : RD R A len c f P w) :
   Calls Try.prog 66 #[.pointer (some ⟨R, 0, none⟩), gval n A' l' c'] w fun e w' => ∃ k : Int, e = .returned (.int .i64 k) ∧ -1 ≤ k ∧ k ≤ 10 ∧ RD R A len c f (P + 2) w' ∧ w.grownBy w' (some R) := by
  have HR := Lib.hid (hR.alloc (.cells #[.int .i64 n, .slice A' l' c'] 30))
  have zR := hR.lt
  have HK := Lib.hid (Box.new w 30 #[.int .i64 n, .slice A' l' c'])
  have HG := Lib.hid (World.grownBy_alloc w (.cells #[.int .i64 n, .slice A' l' c'] 30) (some R))
  clear hR
  go_enter Try.func66, Try.ntmps66
  go_wp2_with fail
  refine (pick_rd R A len c P 20 f _ hlen (by omega) (by omega) (by omega) HR.out).mono ?_
  rintro e w1 ⟨k1, rfl, hk1, hR1, hg1, hs1, hb1⟩
  have H1 := Lib.hid hR1
  have G1 := Lib.hid (grown_trans HG.out hg1)
  have K1 := Lib.hid (HK.out.grown hg1 (by omega))
  clear hR1 hg1 hs1 hb1 HR HG HK
  by_cases h0 : k1 = 0
  · subst h0
    go_wp2_with fail
    refine (pick_rd R A len c (P + 1) 11 f _ hlen (by omega) (by omega) (by omega) H1.out).mono ?_
    rintro e w2 ⟨k2, rfl, hk2, hR2, hg2, hs2, hb2⟩
    have H2 := Lib.hid hR2
    have G2 := Lib.hid (grown_trans G1.out hg2)
    clear hR2 hg2 hs2 hb2
    go_wp2_with fail
    go_ret
    exact ⟨(k2 : Int) - 1, ret_int (by omega), by omega, by omega, H2.out, G2.out⟩
  · have h0' : ((k1 : Int) == 0) = false := by simpa using h0
    obtain ⟨zk, c0, c1, q0, q1⟩ := K1.out.two
    by_cases hn1 : 1 ≤ n
    · go_wp2_with fail
      refine (pick_rd R A len c (P + 1) _ f _ hlen (by omega) (by omega) (by omega) H1.out).mono ?_
      rintro e w2 ⟨k2, rfl, hk2, hR2, hg2, hs2, hb2⟩
      have H2 := Lib.hid hR2
      have G2 := Lib.hid (grown_trans G1.out hg2)
      clear hR2 hg2 hs2 hb2
      go_wp2_with fail
      go_ret
      exact ⟨(k2 : Int), rfl, by omega, by omega, H2.out, G2.out⟩
    · go_wp2_with fail
      refine (pick_rd R A len c (P + 1) _ f _ hlen (by omega) (by omega) (by omega) H1.out).mono ?_
      rintro e w2 ⟨k2, rfl, hk2, hR2, hg2, hs2, hb2⟩
      have H2 := Lib.hid hR2
      have G2 := Lib.hid (grown_trans G1.out hg2)
      clear hR2 hg2 hs2 hb2
      go_wp2_with fail
      go_ret
      exact ⟨(k2 : Int), rfl, by omega, by omega, H2.out, G2.out⟩
/-- What a law of chapter 1 is drawn: a graph in memory of the draw's own. -/
def DG (w : World) (n : Int) (ls : List Lk) (A' : Option Addr) (g' : Nat) (w' : World) : Prop :=
  0 ≤ n ∧ n ≤ 10 ∧ ls.length ≤ 16 ∧ w.heap.size ≤ g' ∧ Own1 w' A' g' ls ∧ Below w.heap.size w w'

theorem draw_tail {w w1 w2 : World} {R len : Nat} {g' : Nat} {A' : Option Addr} {ls : List Lk} (hb : Below w.heap.size w w1) (hs : w1.heap.size = w.heap.size + 1) (hR : R = w.heap.size) (hg : w1.grownBy w2 (some R)) (_h : len = len) (hg' : w1.heap.size ≤ g') (ho : Own1 w2 A' g' ls) :
    w.heap.size ≤ g' ∧ Own1 w2 A' g' ls ∧ Below w.heap.size w w2 :=
  ⟨by omega, ho, hb.grown hg (by omega) (fun k e => by injection e with e; omega)⟩

theorem Byt.alloc {w : World} {A : Option Addr} {len : Nat} {f : Nat → Int} (h : Byt w w.heap.size A len f) (o : Obj) : Byt (w.alloc o) (w.alloc o).heap.size A len f := fun hl => by
  obtain ⟨b, off, e, hb, hc⟩ := (h.below ((Below.refl w.heap.size w).alloc (Nat.le_refl _) o)) hl
  exact ⟨b, off, e, by simp; omega, hc⟩

/-- The state while nodes are drawn: the reader, the result's box, the graph's box, its links. -/
def DI (w : World) (R Q G : Nat) (A : Option Addr) (len c : Nat) (f : Nat → Int) (P : Nat) (n : Int) (ls : List Lk) (A' : Option Addr) (g' c' : Nat) (wx : World) : Prop :=
  RD R A len c f P wx ∧ Box wx Q 30 #[.int .i64 0, .slice none 0 0] ∧ Box wx G 30 #[.int .i64 n, .slice A' ls.length c'] ∧ Own1 wx A' g' ls ∧ Below w.heap.size w wx ∧
    w.heap.size ≤ R ∧ w.heap.size ≤ Q ∧ w.heap.size ≤ g' ∧ Q ≠ R ∧ G ≠ R ∧ g' ≠ R ∧ Q ≠ G
theorem DI.node {w w1 w2 : World} {R Q G : Nat} {A : Option Addr} {len c : Nat} {f : Nat → Int} {P P' : Nat} {n : Int} {ls : List Lk} {A' : Option Addr} {g' c' : Nat} (h : DI w R Q G A len c f P n ls A' g' c' w1) (hr : RD R A len c f P' w2) (hg : w1.grownBy w2 (some R)) :
    DI w R Q G A len c f P' n ls A' g' c' w2 := by
  obtain ⟨h1, h2, h3, h4, h5, h6, h7, h8, h9, h10, h11, h12⟩ := h
  exact ⟨hr, h2.grown hg h9, h3.grown hg h10, h4.grownFar hg h11, h5.grown hg h5.size (fun k e => by injection e with e; omega), h6, h7, h8, h9, h10, h11, h12⟩
theorem DI.alloc {w w1 : World} {R Q G : Nat} {A : Option Addr} {len c : Nat} {f : Nat → Int} {P : Nat} {n : Int} {ls : List Lk} {A' : Option Addr} {g' c' : Nat} (h : DI w R Q G A len c f P n ls A' g' c' w1) (o : Obj) :
    DI w R Q G A len c f P n ls A' g' c' (w1.alloc o) := by
  obtain ⟨h1, h2, h3, h4, h5, h6, h7, h8, h9, h10, h11, h12⟩ := h
  exact ⟨h1.alloc o, h2.alloc o, h3.alloc o, h4.alloc o, h5.alloc h5.size o, h6, h7, h8, h9, h10, h11, h12⟩
theorem DI.drew {w w1 : World} {R Q G : Nat} {A : Option Addr} {len c : Nat} {f : Nat → Int} {P : Nat} {n : Int} {ls : List Lk} {A' : Option Addr} {g' c' : Nat} (h : DI w R Q G A len c f P n ls A' g' c' w1) :
    DI w R Q G A len c f P n ls A' g' c' w1.drew := by
  obtain ⟨⟨p, hp, hx, hB⟩, h2, h3, h4, h5, h⟩ := h
  exact ⟨⟨p, hp, hx, hB⟩, h2, h3, h4, ⟨h5.os, h5.tape, h5.output, h5.size, h5.block⟩, h⟩
theorem DI.dg {w w1 : World} {R Q G : Nat} {A : Option Addr} {len c : Nat} {f : Nat → Int} {P : Nat} {n : Int} {ls : List Lk} {A' : Option Addr} {g' c' : Nat} (h : DI w R Q G A len c f P n ls A' g' c' w1) (hn0 : 0 ≤ n) (hn : n ≤ 10) (hl : ls.length ≤ 16) (u0 u1 : Value) :
    DG w n ls A' g' ((w1.setCell ⟨Q, 0, none⟩ u0).setCell ⟨Q, 1, none⟩ u1) := by
  obtain ⟨h1, h2, h3, h4, h5, h6, h7, h8, h9, h10, h11, h12⟩ := h
  exact ⟨hn0, hn, hl, h8, (h4.set_box h2 (by decide) 0 u0).set_box (heap_set h2 0 u0) (by decide) 1 u1, (h5.setCell (p := ⟨Q, 0, none⟩) h7 u0).setCell (p := ⟨Q, 1, none⟩) h7 u1⟩


end Go.Proofs.Ytigamnnboojiiaa
