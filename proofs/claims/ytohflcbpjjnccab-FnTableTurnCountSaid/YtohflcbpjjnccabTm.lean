/-
  Contracts over this seat: the laws' equality of tables, and what a route matches.
-/
import Derived.Test.YtohflcbpjjnccabTi
namespace Go.Proofs.Ytohflcbpjjnccab
open Go.RowKit

set_option maxRecDepth 100000 in
set_option maxHeartbeats 800000 in
theorem sameTable_same (A1 A2 B1 B2 : Option Addr) (rs : List Lk) (hs : List Int) (c1 c2 d1 d2 : Nat) (w : World) (hm : rs.length ≤ 2000000) (hmh : hs.length ≤ 2000000)
    (h1 : Sl w w.heap.size A1 rs) (h2 : Sl w w.heap.size A2 rs) (i1 : Sli w w.heap.size B1 hs) (i2 : Sli w w.heap.size B2 hs) :
   Calls Try.prog 32 #[tbV A1 rs.length c1 B1 hs.length d1, tbV A2 rs.length c2 B2 hs.length d2] w fun e w' => e = .returned (.bool true) ∧ Below w.heap.size w w' := by
  have R1 := Lib.hid h1
  have R2 := Lib.hid h2
  have I1 := Lib.hid i1
  have I2 := Lib.hid i2
  have CS := fun W g1 g2 => sameInts_same B1 B2 hs d1 d2 W hmh g1 g2
  clear h1 h2 i1 i2
  have HB := Lib.hid (show Below w.heap.size w ((w.alloc (.cells #[.slice A1 rs.length c1, .slice B1 hs.length d1] 30)).alloc (.cells #[.slice A2 rs.length c2, .slice B2 hs.length d2] 30)) by (repeat (first | exact Below.refl _ _ | (refine Below.alloc ?_ (by first | exact Nat.le_refl _ | omega | (simp; done) | (simp; omega)) _) | (refine Below.setCell ?_ (by first | exact Nat.le_refl _ | omega | (simp; done) | (simp; omega)) _) | exact Below.drew ‹_›)))
  have X1 := Lib.hid ((Box.new w 30 #[.slice A1 rs.length c1, .slice B1 hs.length d1]).alloc (.cells #[.slice A2 rs.length c2, .slice B2 hs.length d2] 30))
  have Y0 := Box.new (w.alloc (.cells #[.slice A1 rs.length c1, .slice B1 hs.length d1] 30)) 30 #[.slice A2 rs.length c2, .slice B2 hs.length d2]
  rw [World.size_alloc] at Y0
  have X2 := Lib.hid Y0
  clear Y0
  go_enter Try.func32, Try.ntmps32
  go_wp2_with fail
  refine (CS _ ((I1.out.below HB.out).more HB.out.size) ((I2.out.below HB.out).more HB.out.size)).mono ?_
  clear CS
  rintro e w1 ⟨rfl, hb1⟩
  have B1' := Lib.hid (HB.out.trans (hb1.mono HB.out.size))
  have K1 := Lib.hid (X1.out.below hb1 X1.out.lt)
  have K2 := Lib.hid (X2.out.below hb1 X2.out.lt)
  clear hb1 HB X1 X2
  obtain ⟨y1, a0, a1, -, -⟩ := K1.out.two
  obtain ⟨y2, b0, b1, -, -⟩ := K2.out.two
  go_wp2_with fail
  go_loopw [5] (fun i wr => ∃ k : Nat, k ≤ rs.length ∧ i = .int .i64 k ∧ Below w.heap.size w wr ∧ Box wr w.heap.size 30 #[.slice A1 rs.length c1, .slice B1 hs.length d1] ∧ Box wr (w.heap.size + 1) 30 #[.slice A2 rs.length c2, .slice B2 hs.length d2]) (fun i _ => rs.length - (intOf i).toNat)
  case atStart => exact ⟨0, Nat.zero_le _, rfl, B1'.out, K1.out, K2.out⟩
  case round =>
    obtain ⟨k, hk, rfl, hb, hx, hy⟩ := hrel
    have HX := Lib.hid hx
    have HY := Lib.hid hy
    obtain ⟨z1, d0, d1, -, -⟩ := hx.two
    obtain ⟨z2, e0, e1, -, -⟩ := hy.two
    clear hx hy
    by_cases hlt : k < rs.length
    · obtain ⟨l, hl⟩ : ∃ l, rs[k]? = some l := ⟨_, List.getElem?_eq_getElem hlt⟩
      obtain ⟨b, off, rfl, hbb, p0, p1, p2⟩ := (R1.out.below hb) k l hl
      obtain ⟨b', off', rfl, hbb', q0, q1, q2⟩ := (R2.out.below hb) k l hl
      clear hl
      go_wp2_with fail
      go_quiet (fail)
      go_wp2_with fail
      go_roundw
      case rel => exact ⟨k + 1, hlt, by go_num, by first | exact hb.drew | exact ⟨hb.os, hb.tape, hb.output, hb.size, hb.block⟩, HX.out, HY.out⟩
      case measure => simp [intOf]; omega
    · have hge : rs.length ≤ k := by omega
      go_wp2_with fail
      go_ret
      exact ⟨rfl, hb⟩

/-- What a route matches, as the laws say it. -/
def rgB (x : Lk) (a : Int) : Bool := decide (x.a ≤ a) && decide (a < x.a + lowB x.b)
theorem rgB_mt {x : Lk} {h a : Int} (hx : rtB h x = true) : rgB x a = mtB x a := (mt_range hx).symm


end Go.Proofs.Ytohflcbpjjnccab
