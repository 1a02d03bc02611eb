/-
  The walk of FnExactTableHop over this seat: whatever table comes in, the law returns true and changes nothing that was there.
-/
import Derived.Test.YtohflcbpjjnccabTy
import Derived.Test.YtohflcbpjjnccabTf
import Derived.Test.YtohflcbpjjnccabWt
import Derived.Test.YtohflcbpjjnccabC1
namespace Go.Proofs.Ytohflcbpjjnccab
open Go.RowKit Go.Maps

set_option maxRecDepth 100000 in
set_option maxHeartbeats 1600000 in
theorem exactTableHop_walk (A : Option Addr) (rs : List Lk) (c : Nat) (B : Option Addr) (hs : List Int) (d : Nat) (a : Int) (w : World) (hmax : rs.length ≤ maxLen) (hmaxh : hs.length ≤ maxLen) (h1 : Sl w w.heap.size A rs) (h2 : Sli w w.heap.size B hs) :
   Calls Try.prog 7 #[tbV A rs.length c B hs.length d, .int .i64 a] w fun e w' => e = .returned (.bool true) ∧ Below w.heap.size w w' := by
  have B0 : Below w.heap.size w (w.alloc (.cells #[.slice A rs.length c, .slice B hs.length d] 25)) := by (repeat (first | exact Below.refl _ _ | (refine Below.alloc ?_ (by first | exact Nat.le_refl _ | omega | (simp; done) | (simp; omega)) _) | (refine Below.setCell ?_ (by first | exact Nat.le_refl _ | omega | (simp; done) | (simp; omega)) _) | exact Below.drew ‹_›))
  have HB := Lib.hid B0
  have HI := Lib.hid (Box.new w 25 #[.slice A rs.length c, .slice B hs.length d])
  have H1 := Lib.hid h1
  have H2 := Lib.hid h2
  clear h1 h2 B0
  go_enter Try.func7, Try.ntmps7
  go_wp2_with fail
  refine (szTable_any A rs.length c B hs.length d _ hmax hmaxh).mono ?_
  rintro e w1 ⟨r, rfl, hr | ⟨h0, hn, hm⟩, hb1⟩
  · have B1 := Lib.hid (HB.out.trans (hb1.mono HB.out.size))
    clear hb1
    go_wp2_with fail
    go_ret
    exact ⟨rfl, B1.out⟩
  · have B1 := Lib.hid (HB.out.trans (hb1.mono HB.out.size))
    have I1 := Lib.hid (HI.out.below hb1 HI.out.lt)
    obtain ⟨z1, e10, e11, -, -⟩ := I1.out.two
    have hneg : ¬ r < 0 := by omega
    have CT := fun W (h : Sl W W.heap.size A rs) (h' : Sli W W.heap.size B hs) => toTable_any A rs c B hs d W (by omega) (by omega) h h'
    have CS := fun g c2 g' d2 W (h : Sl W W.heap.size (some ⟨g, 0, none⟩) rs) (h' : Sli W W.heap.size (some ⟨g', 0, none⟩) hs) => tableHop_spec (some ⟨g, 0, none⟩) rs c2 (some ⟨g', 0, none⟩) hs d2 a W hn hm h h'
    have CI := fun g c2 g' d2 W (h : Sl W W.heap.size (some ⟨g, 0, none⟩) rs) (h' : Sli W W.heap.size (some ⟨g', 0, none⟩) hs) => tableHop_impl (some ⟨g, 0, none⟩) rs c2 (some ⟨g', 0, none⟩) hs d2 a W hn hm h h'
    generalize hopA rs hs a = res at *
    clear hb1 HI HB hmax hmaxh
    go_wp2_with fail
    refine (CT w1 ((H1.out.below B1.out).more B1.out.size) ((H2.out.below B1.out).more B1.out.size)).mono ?_
    rintro e w2 ⟨v, rfl, g, c2, g', d2, rfl, hg, hg', ha, ha', hb2, -, -, -⟩
    have B2 := Lib.hid (B1.out.trans (hb2.mono B1.out.size))
    have I2 := Lib.hid (I1.out.below hb2 I1.out.lt)
    have C2 := CS g c2 g' d2 w2 (ha.sl ha.lt) (ha'.sli ha'.lt)
    clear hb2 ha ha' hg hg' B1 I1 z1 e10 e11
    go_wp2_with fail
    refine C2.mono ?_
    clear C2 CS
    rintro e w3 ⟨rfl, hb3⟩
    have B3 := Lib.hid (B2.out.trans (hb3.mono B2.out.size))
    have I3 := Lib.hid (I2.out.below hb3 I2.out.lt)
    obtain ⟨z3, e30, e31, -, -⟩ := I3.out.two
    clear hb3 B2 I2
    go_wp2_with fail
    refine (CT w3 ((H1.out.below B3.out).more B3.out.size) ((H2.out.below B3.out).more B3.out.size)).mono ?_
    rintro e w4 ⟨v, rfl, g4, c4, g5, d4, rfl, hg, hg', ha, ha', hb4, -, -, -⟩
    have hb5 : Below w4.heap.size w4 (w4.alloc (.cells #[.slice (some ⟨g4, 0, none⟩) rs.length c4, .slice (some ⟨g5, 0, none⟩) hs.length d4] 30)) := by (repeat (first | exact Below.refl _ _ | (refine Below.alloc ?_ (by first | exact Nat.le_refl _ | omega | (simp; done) | (simp; omega)) _) | (refine Below.setCell ?_ (by first | exact Nat.le_refl _ | omega | (simp; done) | (simp; omega)) _) | exact Below.drew ‹_›))
    have B5 := Lib.hid ((B3.out.trans (hb4.mono B3.out.size)).trans (hb5.mono (Nat.le_trans B3.out.size hb4.size)))
    have I5 := Lib.hid ((I3.out.below hb4 I3.out.lt).below hb5 (Nat.lt_of_lt_of_le I3.out.lt hb4.size))
    have L5 := Lib.hid (Box.new w4 30 #[.slice (some ⟨g4, 0, none⟩) rs.length c4, .slice (some ⟨g5, 0, none⟩) hs.length d4])
    have A5 := Lib.hid (ha.below hb5 ha.lt)
    have N5 := Lib.hid (ha'.below hb5 ha'.lt)
    clear hb4 hb5 ha ha' hg hg' B3 I3 z3 e30 e31
    go_wp2_with fail
    refine (CI g4 c4 g5 d4 _ (A5.out.sl A5.out.lt) (N5.out.sli N5.out.lt)).mono ?_
    clear CI
    rintro e w6 ⟨rfl, hb6⟩
    have B6 := Lib.hid (B5.out.trans (hb6.mono B5.out.size))
    have I6 := Lib.hid (I5.out.below hb6 I5.out.lt)
    have L6 := Lib.hid (L5.out.below hb6 L5.out.lt)
    have A6 := Lib.hid (A5.out.below hb6 A5.out.lt)
    have N6 := Lib.hid (N5.out.below hb6 N5.out.lt)
    obtain ⟨z6, e60, e61, -, -⟩ := I6.out.two
    obtain ⟨z7, f60, f61, -, -⟩ := L6.out.two
    have C6 := CT w6.drew ((H1.out.below B6.out.drew).more B6.out.size) ((H2.out.below B6.out.drew).more B6.out.size)
    have hX := fun (x : Ext w6.drew) (bb o : Nat) (h : bb < w6.heap.size) => (show x.w.cell? ⟨bb, o, none⟩ = w6.cell? ⟨bb, o, none⟩ from x.cell bb o h)
    clear hb6 B5 I5 L5 A5 N5 CT
    go_wp2_with fail
    refine wp_region_staged 5 (by kernel_rfl) (by kernel_rfl) ?_
    refine stage_seg _ 3 [0, 1] (by kernel_rfl) (by kernel_rfl) (by kernel_rfl) (by kernel_rfl) ?_
    (simp only [List.map_cons, List.map_nil, List.getElem?_cons_zero, List.getElem?_cons_succ, Option.getD_some]); (repeat (go_big_quiet_step (fail))); (refine wpQuiet_nil ?_)
    clear hX z6 e60 e61 z7 f60 f61
    refine stage_call _ 2 2 (by kernel_rfl) (by rfl) (by kernel_rfl) (by rfl) ?_
    go_wp2_with fail
    refine C6.mono ?_
    clear C6
    rintro e w8 ⟨v, rfl, g8, c8, g9, d8, rfl, hg, hg', ha, ha', hb8, -, -, -⟩
    refine ⟨hb8, ?_⟩
    have B8 := Lib.hid (B6.out.drew.trans (hb8.mono B6.out.size))
    have A8 := A6.out.below (w := w6.drew) hb8 A6.out.lt
    have N8 := N6.out.below (w := w6.drew) hb8 N6.out.lt
    have C8 := eqTable_same (some ⟨g4, 0, none⟩) (some ⟨g8, 0, none⟩) rs c4 c8 (some ⟨g5, 0, none⟩) (some ⟨g9, 0, none⟩) hs d4 d8 w8 (by omega) (by omega) (A8.sl A8.lt) (ha.sl ha.lt) (N8.sli N8.lt) (ha'.sli ha'.lt)
    clear hb8 ha ha' hg hg' A8 N8 B6 I6 L6 A6 N6
    refine stage_call _ 1 3 (by kernel_rfl) (by rfl) (by kernel_rfl) (by rfl) ?_
    go_wp2_with fail
    refine C8.mono ?_
    clear C8
    rintro e w9 ⟨rfl, hb9⟩
    refine ⟨hb9, ?_⟩
    have B9 := Lib.hid (B8.out.trans (hb9.mono B8.out.size))
    clear hb9 B8
    refine stage_seg _ 0 [4] (by kernel_rfl) (by kernel_rfl) (by kernel_rfl) (by kernel_rfl) ?_
    (simp only [List.map_cons, List.map_nil, List.getElem?_cons_zero, List.getElem?_cons_succ, Option.getD_some]); (repeat (go_big_quiet_step (fail))); (refine wpQuiet_nil ?_)
    refine stage_end (by kernel_rfl) ?_
    go_wp2_with fail
    go_ret
    exact ⟨rfl, B9.out⟩
end Go.Proofs.Ytohflcbpjjnccab
