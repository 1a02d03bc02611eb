/-
  Contracts over this seat: the specification's LsaOf.
-/
import Derived.Test.YtnkohgdfipgdoabZj
namespace Go.Proofs.Ytnkohgdfipgdoab
open Go.RowKit Go.Maps

/-- The announcement under way: the graph's box, the result's, its own, its neighbours in memory of their own. -/
structure OB (w : World) (gs rs : Array Value) (o q : Int) (v : Value) (out : List Lb) (W : World) : Prop where
  gbx : Box W w.heap.size 48 gs
  res : Box W (w.heap.size + 1) 54 rs
  box : Box W (w.heap.size + 3) 54 #[.int .i64 o, .int .i64 q, v]
  row : W.ownsRow (w.heap.size + 2) 56 2 v out.length (flatB out)
  bel : Below w.heap.size w W
theorem OB.call {w : World} {gs rs : Array Value} {o q : Int} {v : Value} {out : List Lb} {W W' : World} (h : OB w gs rs o q v out W) (hb : Below W.heap.size W W') : OB w gs rs o q v out W' :=
  ⟨h.gbx.below hb h.gbx.lt, h.res.below hb h.res.lt, h.box.below hb h.box.lt, owns_kept h.row hb, h.bel.trans (hb.mono h.bel.size)⟩
theorem OB.drew {w : World} {gs rs : Array Value} {o q : Int} {v : Value} {out : List Lb} {W : World} (h : OB w gs rs o q v out W) : OB w gs rs o q v out W.drew :=
  ⟨h.gbx, h.res, h.box, h.row, h.bel.drew⟩
/-- Behind an append onto the row, ahead of the store of the new slice. -/
theorem OB.grown {w : World} {gs rs : Array Value} {o q : Int} {v v' : Value} {out : List Lb} {W W' : World} {ob : Obj} {l : Lb} (h : OB w gs rs o q v out W)
    (hown : W'.ownsRow (w.heap.size + 2) 56 2 v' (out.length + 1) (flatB out ++ [.int .i64 l.k, .int .i64 l.a])) (hg : (W.alloc ob).grownBy W' v.ownBlock) :
    Box W' (w.heap.size + 3) 54 #[.int .i64 o, .int .i64 q, v] ∧ OB w gs rs o q v' (out ++ [l]) (W'.setCell ⟨w.heap.size + 3, 2, none⟩ v') := by
  obtain ⟨h0, h1, h2, h3, h4⟩ := h
  have hbase := h3.lt
  have b0 : Box W' w.heap.size 48 gs := (hg.block _ (by have := h0.lt; simp; omega) (fun e => own_box_ne h3 h0 (by decide) e.symm)).trans (h0.alloc ob)
  have b1 : Box W' (w.heap.size + 1) 54 rs := (hg.block _ (by have := h1.lt; simp; omega) (fun e => own_box_ne h3 h1 (by decide) e.symm)).trans (h1.alloc ob)
  have b2 : Box W' (w.heap.size + 3) 54 #[.int .i64 o, .int .i64 q, v] := (hg.block _ (by have := h2.lt; simp; omega) (fun e => own_box_ne h3 h2 (by decide) e.symm)).trans (h2.alloc ob)
  have b4 : Below w.heap.size w W' := (h4.alloc h4.size _).grown hg (by have := h4.size; simp; omega) (fun j e => by have := (hbase j e).1; omega)
  refine ⟨b2, (Below.heap_setCell W' ⟨w.heap.size + 3, 2, none⟩ _ w.heap.size (by show w.heap.size ≠ w.heap.size + 3; omega)).trans b0, (Below.heap_setCell W' ⟨w.heap.size + 3, 2, none⟩ _ (w.heap.size + 1) (by show w.heap.size + 1 ≠ w.heap.size + 3; omega)).trans b1, heap_set b2 2 _, ?_, b4.setCell (by show w.heap.size ≤ w.heap.size + 3; omega) _⟩
  have hk := hown.kept (grown_set (World.grownBy.refl W' (some (w.heap.size + 3))) 2 v') (.inr (own_box_ne hown b2 (by decide)))
  rw [flatB_append, List.length_append]
  exact hk

theorem l1I_link2 {m : Int} {ls : List Lk} (hv : gvB m ls = true) (a b : Int) : l1I (min a b) (max a b) ls = linkI m ls a b := by
  rw [← linkI_eq, if_pos hv]

set_option maxRecDepth 100000 in
set_option maxHeartbeats 4000000 in
theorem l11of_any (m : Nat) (A : Option Addr) (ls : List Lk) (c : Nat) (o q : Int) (w : World) (hm8 : m ≤ 8) (hv : gvB (m : Int) ls = true) (hm : ls.length ≤ 2000000) (hS : Sl w w.heap.size A ls) :
   Calls Try.prog 72 #[gval (m : Int) A ls.length c, .int .i64 o, .int .i64 q] w (OneZ (ofL (m : Int) ls o q) w) := by
  obtain ⟨i0, hi, hz0, hz10, hz20⟩ := info_parts infoEnd
  have HS := Lib.hid hS
  have CL := fun (b : Int) W (h : Sl W W.heap.size A ls) => l1Link_any (m : Int) A ls c o b W hm h
  simp only [l1I_link2 hv] at CL
  have h0 := (((Box.new w 48 #[.int .i64 (m : Int), .slice A ls.length c]).alloc (.cells #[.int .i64 0, .int .i64 0, .slice none 0 0] 54)).alloc (.cells #[] 56)).alloc (.cells #[.int .i64 o, .int .i64 q, .slice (some ⟨w.heap.size + 2, 0, none⟩) 0 0] 54)
  have h1 := ((Box.new (w.alloc (.cells #[.int .i64 (m : Int), .slice A ls.length c] 48)) 54 #[.int .i64 0, .int .i64 0, .slice none 0 0]).alloc (.cells #[] 56)).alloc (.cells #[.int .i64 o, .int .i64 q, .slice (some ⟨w.heap.size + 2, 0, none⟩) 0 0] 54)
  have h2 := Box.new (((w.alloc (.cells #[.int .i64 (m : Int), .slice A ls.length c] 48)).alloc (.cells #[.int .i64 0, .int .i64 0, .slice none 0 0] 54)).alloc (.cells #[] 56)) 54 #[.int .i64 o, .int .i64 q, .slice (some ⟨w.heap.size + 2, 0, none⟩) 0 0]
  have h3 := (World.ownsRow_made (base := w.heap.size + 2) (e := 56) (size := 2) ((w.alloc (.cells #[.int .i64 (m : Int), .slice A ls.length c] 48)).alloc (.cells #[.int .i64 0, .int .i64 0, .slice none 0 0] 54)) #[] 0 (by simp) (by unfold maxLen; omega) rfl).alloc (.cells #[.int .i64 o, .int .i64 q, .slice (some ⟨w.heap.size + 2, 0, none⟩) 0 0] 54)
  have h4 : Below w.heap.size w ((((w.alloc (.cells #[.int .i64 (m : Int), .slice A ls.length c] 48)).alloc (.cells #[.int .i64 0, .int .i64 0, .slice none 0 0] 54)).alloc (.cells #[] 56)).alloc (.cells #[.int .i64 o, .int .i64 q, .slice (some ⟨w.heap.size + 2, 0, none⟩) 0 0] 54)) := by (repeat (first | exact Below.refl _ _ | (refine Below.alloc ?_ (by first | exact Nat.le_refl _ | omega | (simp; done) | (simp; omega)) _) | (refine Below.setCell ?_ (by first | exact Nat.le_refl _ | omega | (simp; done) | (simp; omega)) _) | exact Below.drew ‹_›))
  simp only [World.size_alloc] at h0 h1 h2 h3
  have G0 := Lib.hid (show OB w #[.int .i64 (m : Int), .slice A ls.length c] #[.int .i64 0, .int .i64 0, .slice none 0 0] o q _ [] _ from ⟨h0, h1, h2, h3, h4⟩)
  clear hS h0 h1 h2 h3 h4
  go_enter Try.func72, Try.ntmps72
  go_wp2_with fail
  go_loopw [8] (fun i wr => ∃ (k : Nat) (v : Value) (out : List Lb), k ≤ m ∧ i = .int .i64 (k : Int) ∧ Hid (out = ofT (m : Int) ls o k) ∧ Hid (OB w #[.int .i64 (m : Int), .slice A ls.length c] #[.int .i64 0, .int .i64 0, .slice none 0 0] o q v out wr)) (fun i _ => m - (intOf i).toNat)
  case atStart => exact ⟨0, _, [], Nat.zero_le _, rfl, Lib.hid rfl, G0⟩
  case round =>
    obtain ⟨k, v, out, hk, rfl, HO, G1⟩ := hrel
    clear G0
    obtain ⟨zg, g0, g1, -, -⟩ := G1.out.gbx.two
    by_cases hlt : k < m
    · have hlti : (k : Int) < (m : Int) := by omega
      go_wp2_with fail
      refine (CL (k : Int) _ ((HS.out.below G1.out.bel).more G1.out.bel.size)).mono ?_
      rintro e w1 ⟨rfl, hb1⟩
      have G2 := Lib.hid (G1.out.call hb1)
      have HN : Hid (ofT (m : Int) ls o (k + 1) = ofT (m : Int) ls o k ++ (if 0 ≤ linkI (m : Int) ls o (k : Int) then [⟨(k : Int), lcost (m : Int) ls o (k : Int)⟩] else [])) := Lib.hid rfl
      have hle : out.length ≤ 8 := by
        rw [HO.out]
        have := ofT_len (nn := (m : Int)) (ls := ls) (o := o) k
        omega
      clear hb1 G1 zg g0 g1
      by_cases h0 : 0 ≤ linkI (m : Int) ls o (k : Int)
      · obtain ⟨j, l, hj, hl, -, -⟩ := linkI_at h0
        have HC : Hid (lcost (m : Int) ls o (k : Int) = l.c) := Lib.hid (by
          unfold lcost
          rw [hj, Int.toNat_natCast]
          exact costAt_at hl)
        rw [if_pos h0] at HN
        rw [hj]
        clear hj h0
        obtain ⟨bb, off, rfl, hbb, hc1, hc2, hc3⟩ := (HS.out.below G2.out.bel) j l hl
        have hjl : j < ls.length := (List.getElem?_eq_some_iff.1 hl).1
        have hz := G2.out.bel.size
        have zbb : bb < w1.heap.size := by omega
        obtain ⟨zg, g0, g1, -, -⟩ := G2.out.gbx.two
        obtain ⟨zx, x0, x1, x2, -, -, -⟩ := G2.out.box.three
        obtain ⟨A9, g9, c9, rfl, -, -, -, -⟩ := own_slicee G2.out.row (by omega)
        have SD := Lib.hid G2.out.drew
        clear hl HS
        go_wp2_with fail
        go_region_law (first
          | (refine step_append_lies _ rfl _ _ 52 rfl (w.heap.size + 2) 56 i0 _ 2 16 Try.underlying52 hi hz0 hz10 hz20 rfl (by decide) _ out.length (flatB out) rfl (SD.out.row.alloc _) ⟨w1.heap.size, 0, none⟩ 1 1 _ rfl rfl (new2 _ _ _ _) (one2 _ _) (by decide) (by unfold maxLen; omega) (by omega) (by simp; omega) _ rfl ?_; intro g8 cap8 w8 hown8 hgrow8 hat8 hlt8; have S8 := SD.out.grown (l := ⟨(k : Int), l.c⟩) hown8 hgrow8; have e8 := S8.1.cell 2; have q8 := S8.1.frozen 2; have R8 := Lib.hid S8.2; clear S8 hown8 hgrow8 hat8 hlt8))
        all_goals
          go_wp2_with fail
          go_roundw
          case rel => exact ⟨k + 1, _, out ++ [⟨(k : Int), l.c⟩], hlt, by go_num, Lib.hid (by rw [HN.out, ← HO.out, HC.out]), R8⟩
          case measure => simp [intOf]; omega
      · rw [if_neg h0, List.append_nil] at HN
        generalize linkI (m : Int) ls o (k : Int) = li at *
        go_wp2_with fail
        go_roundw
        case rel => exact ⟨k + 1, v, out, hlt, by go_num, Lib.hid (by rw [HN.out, ← HO.out]), G2⟩
        case measure => simp [intOf]; omega
    · have hlti : ¬ (k : Int) < (m : Int) := by omega
      obtain rfl : k = m := by omega
      have hz := G1.out.bel.size
      have hzb := G1.out.box.lt
      obtain ⟨A', g', c', rfl, hg', -, ho, hc'⟩ := own_slicee G1.out.row (by omega)
      have O1 := Lib.hid ho
      obtain ⟨zx, x0, x1, x2, -, -, -⟩ := G1.out.box.three
      obtain ⟨zr, r0, r1, r2, q0, q1, q2⟩ := G1.out.res.three
      have HF : Hid (ofL (k : Int) ls o q = ⟨o, q, out⟩) := Lib.hid (by unfold ofL; rw [Int.toNat_natCast, ← HO.out])
      obtain ⟨b3, y0, y1, y2⟩ := ret_three G1.out.res (.int .i64 o) (.int .i64 q) (.slice A' out.length c')
      clear ho
      go_wp2_with fail
      refine bodyPost_ret (v := (⟨o, q, out, A', c', g'⟩ : Lz).v) (by simp [results, Try.results72, go_sem, y0, y1, y2]) rfl ?_
      refine ⟨⟨o, q, out, A', c', g'⟩, rfl, HF.out.symm, ⟨((O1.out.set_far ?_ _).set_far ?_ _).set_far ?_ _, ?_, hc'⟩, ?_⟩
      · show g' ≠ w.heap.size + 1; omega
      · show g' ≠ w.heap.size + 1; omega
      · show g' ≠ w.heap.size + 1; omega
      · show w.heap.size ≤ g'; omega
      · exact ((G1.out.bel.setCell (p := ⟨w.heap.size + 1, 0, none⟩) (Nat.le_succ _) _).setCell (p := ⟨w.heap.size + 1, 1, none⟩) (Nat.le_succ _) _).setCell (p := ⟨w.heap.size + 1, 2, none⟩) (Nat.le_succ _) _
end Go.Proofs.Ytnkohgdfipgdoab
