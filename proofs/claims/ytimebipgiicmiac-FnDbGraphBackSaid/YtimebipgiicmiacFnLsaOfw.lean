/-
  The walk of FnLsaOf over this seat.
-/
import Derived.Test.YtimebipgiicmiacIo
import Derived.Test.YtimebipgiicmiacLu
import Derived.Test.YtimebipgiicmiacZu
namespace Go.Proofs.Ytimebipgiicmiac
open Go.RowKit Go.Maps

/-- A law over a drawn graph: its box and its links. -/
structure LO (w : World) (G : Nat) (n : Int) (A : Option Addr) (ls : List Lk) (c : Nat) (W : World) : Prop where
  gbx : Box W G 33 #[.int .i64 n, .slice A ls.length c]
  sl : Sl W W.heap.size A ls
  bel : Below w.heap.size w W
theorem LO.call {w : World} {G : Nat} {n : Int} {A : Option Addr} {ls : List Lk} {c : Nat} {W W' : World} (h : LO w G n A ls c W) (hb : Below W.heap.size W W') : LO w G n A ls c W' :=
  ⟨h.gbx.below hb h.gbx.lt, (h.sl.below hb).more hb.size, h.bel.trans (hb.mono h.bel.size)⟩
/-- An announcement in its box. -/
structure LZ (H : Nat) (z : Lz) (W : World) : Prop where
  box : Box W H 28 #[.int .i64 z.o, .int .i64 z.q, .slice z.A z.es.length z.c]
  le : Slb W W.heap.size z.A z.es
theorem LZ.call {H : Nat} {z : Lz} {W W' : World} (h : LZ H z W) (hb : Below W.heap.size W W') : LZ H z W' := ⟨h.box.below hb h.box.lt, (h.le.below hb).more hb.size⟩
theorem LZ.new {B : Nat} {z : Lz} {W : World} (h : InnZ W B z) : LZ W.heap.size z (W.alloc (.cells #[.int .i64 z.o, .int .i64 z.q, .slice z.A z.es.length z.c] 28)) :=
  ⟨Box.new W _ _, (h.slb.below (by (repeat (first | exact Below.refl _ _ | (refine Below.alloc ?_ (by first | exact Nat.le_refl _ | omega | (simp; done) | (simp; omega)) _) | (refine Below.setCell ?_ (by first | exact Nat.le_refl _ | omega | (simp; done) | (simp; omega)) _) | exact Below.drew ‹_›)))).more (by simp)⟩
theorem Sli.step {w w' : World} {A : Option Addr} {xs : List Int} (h : Sli w w.heap.size A xs) (hb : Below w.heap.size w w') : Sli w' w'.heap.size A xs := (h.below hb).more hb.size

theorem lof_val {n : Int} {ls : List Lk} {o q : Int} (h : lofB n ls o q = true) : gvB n ls = true ∧ laB (ofL n ls o q) = true := by
  unfold lofB at h
  simp only [Bool.and_eq_true] at h
  obtain ⟨⟨h1, h2⟩, h3⟩ := h
  unfold inB at h2 h3
  simp at h2 h3
  exact ⟨h1, ofL_valid h1 ⟨by omega, by omega⟩ ⟨by omega, by omega⟩⟩
theorem of_node {n : Int} {ls : List Lk} (hg : gvB n ls = true) (o : Int) {es : List Lb} (he : es = ofT n ls o n.toNat) {k : Nat} (hk : k < es.length) :
    ∃ (x a : Int) (j : Nat) (l : Lk), es[k]? = some ⟨x, a⟩ ∧ (nbI n ls o)[k]? = some x ∧ linkI n ls o x = (j : Int) ∧ ls[j]? = some l ∧ l.c = a := by
  have h1 : es[k]? = some es[k] := List.getElem?_eq_getElem hk
  have h2 : (nbI n ls o)[k]? = some es[k].k := by rw [← ofT_map hg, ← he, List.getElem?_map, h1]; rfl
  have hm : es[k] ∈ ofT n ls o n.toNat := by rw [← he]; exact List.getElem_mem hk
  obtain ⟨j0, _, _, e0⟩ := ofT_mem.1 hm
  obtain ⟨j, l, h3, h4, _, _, _⟩ := nbI_link hg (List.mem_of_getElem? h2)
  refine ⟨es[k].k, es[k].a, j, l, h1, h2, h3, h4, ?_⟩
  have : es[k].a = lcost n ls o es[k].k := by rw [e0]
  rw [this]
  unfold lcost
  rw [h3, Int.toNat_natCast, costAt_at h4]

set_option maxRecDepth 100000 in
set_option maxHeartbeats 1600000 in
theorem fnLsaOf_walk (A : Option Addr) (len c : Nat) (f : Nat → Int) (w : World) (hlc : len ≤ c) (hc : c ≤ maxLen) (hB : Byt w w.heap.size A len f) :
   Calls Try.prog 4 #[.slice A len c] w fun e w' => e = .returned (.bool true) ∧ Below w.heap.size w w' := by
  have HB := Lib.hid hB
  clear hB
  by_cases hl : len ≤ 1048576
  · go_enter Try.func4, Try.ntmps4
    go_wp2_with fail
    refine (drawLsaOf_any A len c f w hlc hc HB.out).mono ?_
    rintro e w1 ⟨n, ls, A1, g1, c1, x, q, rfl, ⟨hn0, hn1, hls, hg1, ho, hb1⟩, hx0, hx1, hq0, hq1⟩
    have hb1a : Below w1.heap.size w1 (w1.alloc (.cells #[.int .i64 n, .slice A1 ls.length c1] 33)) := by (repeat (first | exact Below.refl _ _ | (refine Below.alloc ?_ (by first | exact Nat.le_refl _ | omega | (simp; done) | (simp; omega)) _) | (refine Below.setCell ?_ (by first | exact Nat.le_refl _ | omega | (simp; done) | (simp; omega)) _) | exact Below.drew ‹_›))
    have L1 := Lib.hid (show LO w w1.heap.size n A1 ls c1 _ from ⟨Box.new w1 33 #[.int .i64 n, .slice A1 ls.length c1], (ho.sl.below hb1a).more hb1a.size, hb1.trans (hb1a.mono hb1.size)⟩)
    have CI := fun W (h : Sl W W.heap.size A1 ls) => lsaOf_impl n A1 ls c1 x q W (by omega) h
    have CS := fun W (h : Sl W W.heap.size A1 ls) => lsaOf_spec n A1 ls c1 x q W (by omega) (by omega) h
    have CN := fun W (h : Sl W W.heap.size A1 ls) => nb_impl n A1 ls c1 x W (by omega) h
    have CL := fun (b : Int) W (h : Sl W W.heap.size A1 ls) => link_impl n A1 ls c1 x b W (by omega) h
    clear hb1 hb1a ho HB hg1
    go_wp2_with fail
    refine (CI _ L1.out.sl).mono ?_
    clear CI
    rintro e w2 ⟨z, rfl, hd, hin, hb2⟩
    have L2 := Lib.hid ((L1.out.call hb2).call (W' := w2.alloc (.cells #[.int .i64 z.o, .int .i64 z.q, .slice z.A z.es.length z.c] 28)) (by (repeat (first | exact Below.refl _ _ | (refine Below.alloc ?_ (by first | exact Nat.le_refl _ | omega | (simp; done) | (simp; omega)) _) | (refine Below.setCell ?_ (by first | exact Nat.le_refl _ | omega | (simp; done) | (simp; omega)) _) | exact Below.drew ‹_›))))
    have Z2 := Lib.hid (LZ.new hin)
    have HD := Lib.hid hd
    have M2 := Lib.hid (L1.out.call hb2)
    clear hb2 hd hin L1
    generalize w1.heap.size = G at *
    obtain ⟨zg, g0, g1', -, -⟩ := M2.out.gbx.two
    go_wp2_with fail
    refine (CS _ L2.out.sl).mono ?_
    clear CS
    rintro e w3 ⟨y, rfl, hd, hin, hb3⟩
    have L3 := Lib.hid ((L2.out.call hb3).call (W' := w3.alloc (.cells #[.int .i64 y.o, .int .i64 y.q, .slice y.A y.es.length y.c] 28)) (by (repeat (first | exact Below.refl _ _ | (refine Below.alloc ?_ (by first | exact Nat.le_refl _ | omega | (simp; done) | (simp; omega)) _) | (refine Below.setCell ?_ (by first | exact Nat.le_refl _ | omega | (simp; done) | (simp; omega)) _) | exact Below.drew ‹_›))))
    have Z3 := Lib.hid ((Z2.out.call hb3).call (W' := w3.alloc (.cells #[.int .i64 y.o, .int .i64 y.q, .slice y.A y.es.length y.c] 28)) (by (repeat (first | exact Below.refl _ _ | (refine Below.alloc ?_ (by first | exact Nat.le_refl _ | omega | (simp; done) | (simp; omega)) _) | (refine Below.setCell ?_ (by first | exact Nat.le_refl _ | omega | (simp; done) | (simp; omega)) _) | exact Below.drew ‹_›))))
    have Y3 := Lib.hid (LZ.new hin)
    have hs := hd.trans HD.out.symm
    have HE := Lib.hid hs
    have HZ3 := Lib.hid (Z2.out.call hb3)
    clear hb3 hd hin hs L2 Z2 zg g0 g1' M2
    generalize w2.heap.size = H at *
    have hle : z.es.length ≤ 2000000 := by
      have h1 := HD.out
      have : z.es = (lofL n ls x q).es := by rw [← h1]
      rw [this]
      unfold lofL
      split
      · have := ofT_len (nn := n) (ls := ls) (o := x) n.toNat
        show (ofT n ls x n.toNat).length ≤ _
        omega
      · simp
    have CE := fun W (h1 : Slb W W.heap.size z.A z.es) (h2 : Slb W W.heap.size y.A y.es) => sameLsa_any z y W hle h1 h2
    have CV := fun W (h1 : Slb W W.heap.size z.A z.es) => lsaValid_impl z W hle h1
    rw [show decide (z.d = y.d) = true from decide_eq_true HE.out.symm] at CE
    cases hv : lofB n ls x q with
    | false =>
      clear CV
      obtain ⟨zo, zq, zes, zA, zc, zg⟩ := z
      obtain ⟨yo, yq, yes, yA, yc, yg⟩ := y
      dsimp only at *
      obtain ⟨zx, x0, x1, x2, -, -, -⟩ := HZ3.out.box.three
      go_wp2_with fail
      refine (CE _ Z3.out.le Y3.out.le).mono ?_
      rintro e w4 ⟨rfl, hb4⟩
      have L4 := Lib.hid (L3.out.call hb4)
      have Z4 := Lib.hid (Z3.out.call hb4)
      have Y4 := Lib.hid (Y3.out.call hb4)
      clear hb4 L3 Z3 Y3 zx x0 x1 x2 HZ3
      generalize w3.heap.size = I at *
      obtain ⟨zx, x0, x1, x2, -, -, -⟩ := Z4.out.box.three
      obtain ⟨zy, y0, y1, y2, -, -, -⟩ := Y4.out.box.three
      go_wp2_with fail
      refine (CE _ Z4.out.le Y4.out.le).mono ?_
      rintro e w5 ⟨rfl, hb5⟩
      have L5 := Lib.hid (L4.out.call hb5)
      clear hb5
      go_wp2_with fail
      go_ret
      exact ⟨ret_bool (by simp), L5.out.bel⟩
    | true =>
      obtain ⟨hgv, hlv⟩ := lof_val hv
      have hdd : z.d = ofL n ls x q := by rw [HD.out]; unfold lofL; rw [hv]; rfl
      rw [show laB z.d = true by rw [hdd]; exact hlv] at CV
      obtain ⟨zo, zq, zes, zA, zc, zg⟩ := z
      obtain ⟨yo, yq, yes, yA, yc, yg⟩ := y
      have HP : zo = x ∧ zq = q ∧ zes = ofT n ls x n.toNat := by
        have : (⟨zo, zq, zes⟩ : La) = ofL n ls x q := hdd
        unfold ofL at this
        injection this with h1 h2 h3
        exact ⟨h1, h2, h3⟩
      obtain ⟨rfl, rfl, hes⟩ := HP
      have HF := Lib.hid (fun (k : Nat) (h : k < zes.length) => of_node hgv zo hes h)
      have hnl : (nbI n ls zo).length = zes.length := by rw [← ofT_map hgv, ← hes, List.length_map]
      have HNL := Lib.hid hnl
      dsimp only at *
      clear hes hdd hlv hgv hv HD HE hnl
      obtain ⟨zx, x0, x1, x2, -, -, -⟩ := Z3.out.box.three
      obtain ⟨zy, y0, y1, y2, -, -, -⟩ := Y3.out.box.three
      go_wp2_with fail
      refine (CE _ Z3.out.le Y3.out.le).mono ?_
      rintro e w4 ⟨rfl, hb4⟩
      have L4 := Lib.hid (L3.out.call hb4)
      have Z4 := Lib.hid (Z3.out.call hb4)
      clear hb4 L3 Z3 Y3 zx x0 x1 x2 CE HZ3
      obtain ⟨zg, g0, g1', -, -⟩ := L4.out.gbx.two
      go_wp2_with fail
      refine (CN _ L4.out.sl).mono ?_
      clear CN
      rintro e w5 ⟨A5, g5, c5, rfl, hg5, ho5, hb5⟩
      have L5 := Lib.hid (L4.out.call hb5)
      have Z5 := Lib.hid (Z4.out.call hb5)
      have N5 := Lib.hid ho5.sli
      have hnl : (nbI n ls zo).length ≤ zes.length ∧ zes.length ≤ (nbI n ls zo).length := ⟨Nat.le_of_eq HNL.out, Nat.le_of_eq HNL.out.symm⟩
      clear hb5 ho5 L4 Z4 zg g0 g1' hg5
      generalize nbI n ls zo = ns at *
      have hns : ns.length ≤ 2000000 := by omega
      go_wp2_with fail
      go_loopw [11] (fun i wr => ∃ k : Nat, k ≤ zes.length ∧ i = .int .i64 (k : Int) ∧ LO w G n A1 ls c1 wr ∧ LZ H ⟨zo, zq, zes, zA, zc, zg⟩ wr ∧ Sli wr wr.heap.size A5 ns) (fun i _ => zes.length - (intOf i).toNat)
      case atStart => exact ⟨0, Nat.zero_le _, rfl, L5.out, Z5.out, N5.out⟩
      case round =>
        obtain ⟨k, hk, rfl, hL, hZ, hN⟩ := hrel
        have L6 := Lib.hid hL
        have Z6 := Lib.hid hZ
        have N6 := Lib.hid hN
        clear hL hZ hN L5 Z5 N5
        obtain ⟨zx, x0, x1, x2, -, -, -⟩ := Z6.out.box.three
        by_cases hlt : k < zes.length
        · obtain ⟨xx, aa, j, l, h1, h2, h3, h4, rfl⟩ := HF.out k hlt
          obtain ⟨eb, eo, rfl, heb, hc1, hc2⟩ := Z6.out.le k _ h1
          obtain ⟨nb, no, rfl, hnb, hn1⟩ := N6.out k xx h2
          obtain ⟨lb, lo, rfl, hlb, -, -, hl3⟩ := L6.out.sl j l h4
          have hlt2 : k < ns.length := by omega
          have hjl : j < ls.length := (List.getElem?_eq_some_iff.1 h4).1
          have CK := fun W (h : Sl W W.heap.size (some ⟨lb, lo, none⟩) ls) => CL xx W h
          simp only [h3] at CK
          obtain ⟨zg, g0, g1', -, -⟩ := L6.out.gbx.two
          dsimp only at *
          clear h1 h2 h3 h4 CL
          go_wp2_with fail
          have hX0 := fun (y : Ext wr.drew) => (y.cell H 2 zx).trans (show wr.drew.cell? ⟨H, 2, none⟩ = _ from x2)
          have hX1 := fun (y : Ext wr.drew) => (y.cell G 0 zg).trans (show wr.drew.cell? ⟨G, 0, none⟩ = _ from g0)
          have hX2 := fun (y : Ext wr.drew) => (y.cell G 1 zg).trans (show wr.drew.cell? ⟨G, 1, none⟩ = _ from g1')
          have hX3 := fun (y : Ext wr.drew) => (y.cell eb (eo + k * 2) heb).trans (show wr.drew.cell? ⟨eb, eo + k * 2, none⟩ = _ from hc1)
          have hX4 := fun (y : Ext wr.drew) => (y.cell eb (eo + k * 2 + 1) heb).trans (show wr.drew.cell? ⟨eb, eo + k * 2 + 1, none⟩ = _ from hc2)
          have hX5 := fun (y : Ext wr.drew) => (y.cell nb (no + k) hnb).trans (show wr.drew.cell? ⟨nb, no + k, none⟩ = _ from hn1)
          refine wp_region_staged 32 (by kernel_rfl) (by kernel_rfl) ?_
          refine stage_seg _ 6 [0, 1, 2, 3, 4, 5, 6, 7, 8, 9, 10, 11, 12, 13, 14, 15, 16, 17, 18, 19, 20, 21, 22, 23, 24, 25] (by kernel_rfl) (by kernel_rfl) (by kernel_rfl) (by kernel_rfl) ?_
          (simp only [List.map_cons, List.map_nil, List.getElem?_cons_zero, List.getElem?_cons_succ, Option.getD_some]); (repeat (go_big_quiet_step (fail))); (refine wpQuiet_nil ?_)
          clear hX0 hX1 hX2 hX3 hX4 hX5 hc1 hc2 hn1 g0 g1' x0 x1 x2
          refine stage_call _ 5 26 (by kernel_rfl) (by rfl) (by kernel_rfl) (by rfl) ?_
          go_wp2_with fail
          refine (CK wr.drew L6.out.sl).mono ?_
          clear CK
          rintro e w7 ⟨rfl, hb7⟩
          refine ⟨hb7, ?_⟩
          have L7 := Lib.hid (LO.call (W := wr.drew) ⟨L6.out.gbx, L6.out.sl, L6.out.bel.drew⟩ hb7)
          have Z7 := Lib.hid (LZ.call (W := wr.drew) ⟨Z6.out.box, Z6.out.le⟩ hb7)
          have N7 := Lib.hid (Sli.step (w := wr.drew) N6.out hb7)
          have hl7 := (hb7.cell (p := ⟨lb, lo + j * 3 + 2, none⟩) hlb).trans (show wr.drew.cell? ⟨lb, lo + j * 3 + 2, none⟩ = _ from hl3)
          have hz7 : lb < w7.heap.size := Nat.lt_of_lt_of_le hlb hb7.size
          have hX := fun (y : Ext w7) => (y.cell lb (lo + j * 3 + 2) hz7).trans hl7
          clear hb7 hl3 L6 Z6 N6 zx zg heb hnb hlb
          refine stage_seg _ 0 [27, 28, 29, 30, 31] (by kernel_rfl) (by kernel_rfl) (by kernel_rfl) (by kernel_rfl) ?_
          (simp only [List.map_cons, List.map_nil, List.getElem?_cons_zero, List.getElem?_cons_succ, Option.getD_some]); (repeat (go_big_quiet_step (fail))); (refine wpQuiet_nil ?_)
          refine stage_end (by kernel_rfl) ?_
          clear hX hl7
          go_wp2_with fail
          go_roundw
          case rel => exact ⟨k + 1, hlt, by go_num, L7.out, Z7.out, N7.out⟩
          case measure => simp [intOf]; omega
        · have hge : zes.length ≤ k := by omega
          obtain rfl : k = zes.length := by omega
          go_wp2_with fail
          refine (CV _ Z6.out.le).mono ?_
          rintro e w7 ⟨rfl, hb7⟩
          have L7 := Lib.hid (L6.out.call hb7)
          have Z7 := Lib.hid (Z6.out.call hb7)
          clear hb7 L6 Z6 N6 zx x0 x1 x2
          obtain ⟨zx, x0, x1, x2, -, -, -⟩ := Z7.out.box.three
          have hnn : (zes.length : Int) = (ns.length : Int) := by omega
          dsimp only at *
          go_wp2_with fail
          go_ret
          exact ⟨ret_bool (by simp), L7.out.bel⟩
  · go_enter Try.func4, Try.ntmps4
    go_wp2
    go_ret
    exact ⟨rfl, by (repeat (first | exact Below.refl _ _ | (refine Below.alloc ?_ (by first | exact Nat.le_refl _ | omega | (simp; done) | (simp; omega)) _) | (refine Below.setCell ?_ (by first | exact Nat.le_refl _ | omega | (simp; done) | (simp; omega)) _) | exact Below.drew ‹_›))⟩
end Go.Proofs.Ytimebipgiicmiac
