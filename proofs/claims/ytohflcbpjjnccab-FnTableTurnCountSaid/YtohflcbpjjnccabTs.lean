/-
  Contracts over this seat: what the laws of tables draw.
-/
import Derived.Test.YtohflcbpjjnccabTq
import Derived.Test.YtohflcbpjjnccabA5
namespace Go.Proofs.Ytohflcbpjjnccab
open Go.RowKit Go.Maps

/-- A drawn table in memory. -/
structure DT (w : World) (rs : List Lk) (hs : List Int) (g cr gh d : Nat) (W : World) : Prop where
  ar : Arrt W g rs
  an : Arri W gh hs
  bel : Below w.heap.size w W
  hg : w.heap.size ≤ g
  hgh : w.heap.size ≤ gh
  hc : rs.length ≤ cr
  hd : hs.length ≤ d
  hr : rs.length ≤ 31
  hh : hs.length ≤ 4
theorem DT.sl {w W : World} {rs : List Lk} {hs : List Int} {g cr gh d : Nat} (h : DT w rs hs g cr gh d W) : Sl W W.heap.size (some ⟨g, 0, none⟩) rs := h.ar.sl h.ar.lt
theorem DT.sli {w W : World} {rs : List Lk} {hs : List Int} {g cr gh d : Nat} (h : DT w rs hs g cr gh d W) : Sli W W.heap.size (some ⟨gh, 0, none⟩) hs := h.an.sli h.an.lt
theorem DT.call {w W W' : World} {rs : List Lk} {hs : List Int} {g cr gh d : Nat} (h : DT w rs hs g cr gh d W) (hb : Below W.heap.size W W') : DT w rs hs g cr gh d W' :=
  ⟨h.ar.below hb h.ar.lt, h.an.below hb h.an.lt, h.bel.trans (hb.mono h.bel.size), h.hg, h.hgh, h.hc, h.hd, h.hr, h.hh⟩
/-- A drawn table while more is drawn: the reader, the result, the table's own box. -/
structure DTs (w : World) (R : Nat) (A : Option Addr) (len c : Nat) (f : Nat → Int) (P G : Nat) (rs : List Lk) (hs : List Int) (g cr gh d : Nat) (W : World) : Prop where
  dt : DT w rs hs g cr gh d W
  rd : RD R A len c f P W
  far : w.heap.size < R
  kL : Box W w.heap.size 30 #[.slice none 0 0, .slice none 0 0]
  kT : Box W G 30 #[.slice (some ⟨g, 0, none⟩) rs.length cr, .slice (some ⟨gh, 0, none⟩) hs.length d]
  old : R < G
theorem DTs.picked {w W W' : World} {R : Nat} {A : Option Addr} {len c P P' G : Nat} {f : Nat → Int} {rs : List Lk} {hs : List Int} {g cr gh d : Nat} (h : DTs w R A len c f P G rs hs g cr gh d W) (hr : RD R A len c f P' W') (hg : W.grownBy W' (some R)) : DTs w R A len c f P' G rs hs g cr gh d W' := by
  obtain ⟨cs, hx⟩ := h.rd.box
  have h1 := h.old
  have h2 := h.far
  have n1 : g ≠ R := by
    obtain ⟨cs', hh, _⟩ := h.dt.ar
    intro e
    rw [e] at hh
    have := hh.symm.trans hx
    simp at this
  have n2 : gh ≠ R := by
    obtain ⟨cs', hh, _⟩ := h.dt.an
    intro e
    rw [e] at hh
    have := hh.symm.trans hx
    simp at this
  have b1 := hg.block g h.dt.ar.lt (by simp; omega)
  have b2 := hg.block gh h.dt.an.lt (by simp; omega)
  exact ⟨⟨h.dt.ar.block b1, h.dt.an.block b2, h.dt.bel.grown hg h.dt.bel.size (fun k e => by cases e; omega), h.dt.hg, h.dt.hgh, h.dt.hc, h.dt.hd, h.dt.hr, h.dt.hh⟩, hr, h2, h.kL.grown hg (by omega), h.kT.grown hg (by omega), h1⟩
theorem DTs.drew {w W : World} {R : Nat} {A : Option Addr} {len c P G : Nat} {f : Nat → Int} {rs : List Lk} {hs : List Int} {g cr gh d : Nat} (h : DTs w R A len c f P G rs hs g cr gh d W) : DTs w R A len c f P G rs hs g cr gh d W.drew := by
  obtain ⟨hd, ⟨p, hp, hx, hB⟩, h1, h2, h3, h4⟩ := h
  exact ⟨hd.call (Below.refl _ _).drew, ⟨p, hp, hx, hB⟩, h1, h2, h3, h4⟩
theorem DTs.done {w W : World} {R : Nat} {A : Option Addr} {len c P G : Nat} {f : Nat → Int} {rs : List Lk} {hs : List Int} {g cr gh d : Nat} (h : DTs w R A len c f P G rs hs g cr gh d W) (u0 u1 : Value) : DT w rs hs g cr gh d ((W.setCell ⟨w.heap.size, 0, none⟩ u0).setCell ⟨w.heap.size, 1, none⟩ u1) := by
  have n1 : g ≠ w.heap.size := by
    obtain ⟨cs', hh, _⟩ := h.dt.ar
    intro e
    rw [e] at hh
    have := hh.symm.trans h.kL
    simp at this
  have n2 : gh ≠ w.heap.size := by
    obtain ⟨cs', hh, _⟩ := h.dt.an
    intro e
    rw [e] at hh
    have := hh.symm.trans h.kL
    simp at this
  exact ⟨(h.dt.ar.far (p := ⟨w.heap.size, 0, none⟩) n1 _).far (p := ⟨w.heap.size, 1, none⟩) n1 _, (h.dt.an.setFar (p := ⟨w.heap.size, 0, none⟩) n2 _).setFar (p := ⟨w.heap.size, 1, none⟩) n2 _, (h.dt.bel.setCell (p := ⟨w.heap.size, 0, none⟩) (Nat.le_refl _) _).setCell (p := ⟨w.heap.size, 1, none⟩) (Nat.le_refl _) _, h.dt.hg, h.dt.hgh, h.dt.hc, h.dt.hd, h.dt.hr, h.dt.hh⟩

set_option maxRecDepth 100000 in
set_option maxHeartbeats 3200000 in
theorem drawTF_any (A : Option Addr) (len c : Nat) (f : Nat → Int) (w : World) (hlc : len ≤ c) (hc : c ≤ maxLen) (hB : Byt w w.heap.size A len f) :
   Calls Try.prog 64 #[.slice A len c] w fun e w' => ∃ (rs : List Lk) (hs : List Int) (g cr gh d : Nat) (a : Int), e = .returned (.tuple #[tbV (some ⟨g, 0, none⟩) rs.length cr (some ⟨gh, 0, none⟩) hs.length d, .int .i64 a]) ∧ DT w rs hs g cr gh d w' ∧ -1 ≤ a ∧ a ≤ 256 := by
  have HB := Lib.hid (hB.alloc (.cells #[.slice none 0 0, .slice none 0 0] 30))
  have HQ := Lib.hid (Box.new w 30 #[.slice none 0 0, .slice none 0 0])
  clear hB
  go_enter Try.func64, Try.ntmps64
  go_wp2_with fail
  refine (open_any A len c f _ hlc hc HB.out).mono ?_
  rintro e w1 ⟨l1, hl1, rfl, hr1, hb1, hs1⟩
  rw [World.size_alloc] at hr1 hb1 hs1
  have H1 := Lib.hid hr1
  have B1 := Lib.hid (Below.trans (B := w.heap.size) (a := w) (by (repeat (first | exact Below.refl _ _ | (refine Below.alloc ?_ (by first | exact Nat.le_refl _ | omega | (simp; done) | (simp; omega)) _) | (refine Below.setCell ?_ (by first | exact Nat.le_refl _ | omega | (simp; done) | (simp; omega)) _) | exact Below.drew ‹_›))) (hb1.mono (by omega)))
  have Q1 := Lib.hid (HQ.out.below hb1 (by omega))
  clear hr1 hb1 HQ HB
  have hq := World.size_alloc w (.cells #[.slice none 0 0, .slice none 0 0] 30)
  rw [hq]
  go_wp2_with fail
  refine (l92table_any _ A l1 c 0 f w1 hl1 (by omega) H1.out).mono ?_
  rintro e w2 ⟨rs, hs, g, cr, gh, d, rfl, hrl, hhl, har, hgg, han, hghg, hcr, hdd, hr2, hg2⟩
  have hz2 := hg2.size
  have S2 := Lib.hid (show DTs w (w.heap.size + 1) A l1 c f (0 + 300) w2.heap.size rs hs g cr gh d (w2.alloc (.cells #[.slice (some ⟨g, 0, none⟩) rs.length cr, .slice (some ⟨gh, 0, none⟩) hs.length d] 30)) from
    ⟨⟨har.below ((Below.refl _ _).alloc (Nat.le_refl _) _) har.lt, han.below ((Below.refl _ _).alloc (Nat.le_refl _) _) han.lt, (B1.out.grown hg2 (by omega) (fun k e => by injection e with e; omega)).alloc (by omega) _, by omega, by omega, hcr, hdd, hrl, hhl⟩,
      hr2.alloc _, by omega, (Q1.out.grown hg2 (by omega)).alloc _, Box.new w2 _ _, by omega⟩)
  clear hr2 hg2 H1 B1 Q1 har han
  go_wp2_with fail
  generalize w2.alloc (.cells #[.slice (some ⟨g, 0, none⟩) rs.length cr, .slice (some ⟨gh, 0, none⟩) hs.length d] 30) = W3 at *
  generalize w2.heap.size = G at *
  have hG := S2.out.old
  obtain ⟨z5, e50, e51, q50, q51⟩ := S2.out.kT.two
  obtain ⟨z6, e60, e61, q60, q61⟩ := S2.out.kL.two
  have SD := Lib.hid S2.out.drew

  go_region_law (go_simp; go_at_call 77; refine (l92address_any _ A l1 c _ f _ hl1 (by omega) SD.out.rd).mono ?_; rintro e w4 ⟨a, rfl, ha, hR4, hg4⟩; have S4 := Lib.hid (SD.out.picked hR4 hg4); obtain ⟨y5, c50, c51, t50, t51⟩ := S4.out.kT.two; obtain ⟨y6, c60, c61, t60, t61⟩ := S4.out.kL.two; clear hR4 hg4)
  all_goals
    go_wp2_with fail
    obtain ⟨b2, r0, r1⟩ := ret_two S4.out.kL (.slice (some ⟨g, 0, none⟩) rs.length cr) (.slice (some ⟨gh, 0, none⟩) hs.length d)
    refine bodyPost_ret (v := .tuple #[tbV (some ⟨g, 0, none⟩) rs.length cr (some ⟨gh, 0, none⟩) hs.length d, .int .i64 a]) (by simp [results, Try.results64, go_sem, r0, r1]) rfl ?_
    exact ⟨rs, hs, g, cr, gh, d, a, rfl, S4.out.done _ _, ha.1, ha.2⟩

set_option maxRecDepth 100000 in
set_option maxHeartbeats 3200000 in
theorem drawTH_any (A : Option Addr) (len c : Nat) (f : Nat → Int) (w : World) (hlc : len ≤ c) (hc : c ≤ maxLen) (hB : Byt w w.heap.size A len f) :
   Calls Try.prog 30 #[.slice A len c] w fun e w' => ∃ (rs : List Lk) (hs : List Int) (g cr gh d : Nat) (a : Int), e = .returned (.tuple #[tbV (some ⟨g, 0, none⟩) rs.length cr (some ⟨gh, 0, none⟩) hs.length d, .int .i64 a]) ∧ DT w rs hs g cr gh d w' ∧ -1 ≤ a ∧ a ≤ 256 := by
  have HB := Lib.hid (hB.alloc (.cells #[.slice none 0 0, .slice none 0 0] 30))
  have HQ := Lib.hid (Box.new w 30 #[.slice none 0 0, .slice none 0 0])
  clear hB
  go_enter Try.func30, Try.ntmps30
  go_wp2_with fail
  refine (drawTF_any A len c f _ hlc hc HB.out).mono ?_
  rintro e w1 ⟨rs, hs, g, cr, gh, d, a, rfl, hdt, ha0, ha1⟩
  have B0 := (hdt.bel)
  rw [World.size_alloc] at B0
  have hz1 := hdt.hg
  have hz2 := hdt.hgh
  rw [World.size_alloc] at hz1 hz2
  have Q1 := HQ.out.below B0 (by omega)
  have B1 := Lib.hid (Below.trans (B := w.heap.size) (a := w) (by (repeat (first | exact Below.refl _ _ | (refine Below.alloc ?_ (by first | exact Nat.le_refl _ | omega | (simp; done) | (simp; omega)) _) | (refine Below.setCell ?_ (by first | exact Nat.le_refl _ | omega | (simp; done) | (simp; omega)) _) | exact Below.drew ‹_›))) (B0.mono (by omega)))
  have HD := Lib.hid hdt
  clear HQ HB B0 hdt
  obtain ⟨zq, e0, e1, q0, q1⟩ := Q1.two
  go_wp2_with fail
  obtain ⟨b2, r0, r1⟩ := ret_two Q1 (.slice (some ⟨g, 0, none⟩) rs.length cr) (.slice (some ⟨gh, 0, none⟩) hs.length d)
  refine bodyPost_ret (v := .tuple #[tbV (some ⟨g, 0, none⟩) rs.length cr (some ⟨gh, 0, none⟩) hs.length d, .int .i64 a]) (by simp [results, Try.results30, go_sem, r0, r1]) rfl ?_
  exact ⟨rs, hs, g, cr, gh, d, a, rfl, ⟨(HD.out.ar.far (p := ⟨w.heap.size, 0, none⟩) (by dsimp only; omega) _).far (p := ⟨w.heap.size, 1, none⟩) (by dsimp only; omega) _, (HD.out.an.setFar (p := ⟨w.heap.size, 0, none⟩) (by dsimp only; omega) _).setFar (p := ⟨w.heap.size, 1, none⟩) (by dsimp only; omega) _, (B1.out.setCell (p := ⟨w.heap.size, 0, none⟩) (Nat.le_refl _) _).setCell (p := ⟨w.heap.size, 1, none⟩) (Nat.le_refl _) _, by omega, by omega, HD.out.hc, HD.out.hd, HD.out.hr, HD.out.hh⟩, ha0, ha1⟩


end Go.Proofs.Ytohflcbpjjnccab
