/-
  The walk of FnExactLsaOf over this seat: whatever comes in, the law returns true and changes nothing that was there.
-/
import Derived.Test.YtimebipgiicmiacMk
import Derived.Test.YtimebipgiicmiacZx
import Derived.Test.YtimebipgiicmiacIo
namespace Go.Proofs.Ytimebipgiicmiac
open Go.RowKit Go.Maps

theorem lofL_len {n : Int} {ls : List Lk} {o q : Int} (hn : n ≤ 9223372036854775807) : (lofL n ls o q).es.length ≤ 8 := by
  unfold lofL
  cases h : lofB n ls o q with
  | false => simp
  | true =>
    have hg : gvB n ls = true := by
      rw [lofB_eq] at h
      unfold vwB at h
      simp at h
      exact h.1.1
    obtain ⟨_, _, h8, _⟩ := gvB_fit hg
    have := ofT_len (nn := n) (ls := ls) (o := o) n.toNat
    show (ofT n ls o n.toNat).length ≤ 8
    omega

set_option maxRecDepth 100000 in
set_option maxHeartbeats 3200000 in
theorem exactLsaOf_walk (n : Int) (A : Option Addr) (ls : List Lk) (c : Nat) (o q : Int) (w : World) (hnu : n ≤ 9223372036854775807) (hmax : ls.length ≤ maxLen)
    (h1 : Sl w w.heap.size A ls) :
   Calls Try.prog 3 #[gval n A ls.length c, .int .i64 o, .int .i64 q] w fun e w' => e = .returned (.bool true) ∧ Below w.heap.size w w' := by
  unfold maxLen at hmax
  have H1 := Lib.hid h1
  clear h1
  by_cases hl : ls.length ≤ 1048576
  · have hm : ls.length ≤ 2000000 := by omega
    obtain ⟨b, hbb⟩ : ∃ b, lofB n ls o q = b := ⟨_, rfl⟩
    obtain ⟨d, hdd⟩ : ∃ d, lofL n ls o q = d := ⟨_, rfl⟩
    have hlen : d.es.length ≤ 8 := by rw [← hdd]; exact lofL_len hnu
    have CI := fun (g : Nat) W (h : Sl W W.heap.size (some ⟨g, 0, none⟩) ls) => lsaOf_impl n (some ⟨g, 0, none⟩) ls ls.length o q W hm h
    have CS := fun (g : Nat) W (h : Sl W W.heap.size (some ⟨g, 0, none⟩) ls) => lsaOf_spec n (some ⟨g, 0, none⟩) ls ls.length o q W hm hnu h
    rw [hbb, hdd] at CI CS
    have hneq : (b != b) = false := by cases b <;> rfl
    clear hbb hdd
    go_enter Try.func3, Try.ntmps3
    go_wp2_with (first
      | (go_at_call 9; go_in)
      | (go_at_call 36; go_in))
    -- the specification's copy and answer
    refine (toGraph_any n A ls c _ hm ((H1.out.below (by (repeat (first | exact Below.refl _ _ | (refine Below.alloc ?_ (by first | exact Nat.le_refl _ | omega | (simp; done) | (simp; omega)) _) | (refine Below.setCell ?_ (by first | exact Nat.le_refl _ | omega | (simp; done) | (simp; omega)) _) | exact Below.drew ‹_›)))).more (by simp; omega))).mono ?_
    rintro e w1 ⟨g1, rfl, hg1, harr1, hb1⟩
    have K1 := Box.below ((Box.new w 24 #[.int .i64 n, .slice A ls.length c]).alloc (.cells #[.int .i64 n, .slice A ls.length c] 24)) hb1 (by simp; omega)
    have B1 := Lib.hid (Below.trans (B := w.heap.size) (a := w) (by (repeat (first | exact Below.refl _ _ | (refine Below.alloc ?_ (by first | exact Nat.le_refl _ | omega | (simp; done) | (simp; omega)) _) | (refine Below.setCell ?_ (by first | exact Nat.le_refl _ | omega | (simp; done) | (simp; omega)) _) | exact Below.drew ‹_›))) (hb1.mono (by simp; omega)))
    have R1 := Lib.hid (harr1.sl harr1.lt)
    clear hb1 harr1
    go_wp2_with fail
    refine (CS g1 _ R1.out).mono ?_
    clear CS
    rintro e w2 ⟨z0, rfl, hd0, hin0, hb2⟩
    have K2 := K1.below hb2 K1.lt
    have hz0 : w.heap.size < w1.heap.size := K1.lt
    have hz1 : w1.heap.size ≤ w2.heap.size := hb2.size
    have hzg0 : w1.heap.size ≤ z0.g := hin0.2.1
    have hzl0 : 0 < z0.es.length → z0.g < w2.heap.size := fun hp => (hin0.1 hp).2.lt
    have HZL := Lib.hid hzl0
    have S2 := Lib.hid (show S1 w n A ls c w2.heap.size z0 (w2.alloc (.cells #[.int .i64 z0.o, .int .i64 z0.q, .slice z0.A z0.es.length z0.c] 28)) from ⟨K2.alloc _, Box.new w2 _ _, hin0.1.alloc _, (B1.out.trans (hb2.mono (Nat.le_of_lt K1.lt))).alloc (by omega) _⟩)
    have D0 := Lib.hid hd0
    have hl0 : z0.es.length ≤ 2000000 := by
      have : z0.es = d.es := by rw [← hd0]
      rw [this]; omega
    clear hb2 hin0 hd0 R1 B1 hg1 K1 hzl0
    obtain ⟨zk, e20, e21, _, _⟩ := K2.two
    clear K2
    obtain ⟨zo, zq, zes, zA, zc, zg⟩ := z0
    dsimp only at *
    go_wp2_with fail
    -- the program's copy and answer
    refine (toGraph_any n A ls c _ hm ((H1.out.below S2.out.bel).more S2.out.bel.size)).mono ?_
    rintro e w3 ⟨g3, rfl, hg3, harr3, hb3⟩
    have S3 := Lib.hid (S2.out.call hb3)
    have hz3 : w2.heap.size < w3.heap.size := S3.out.tbx.lt
    simp only [World.size_alloc] at hg3
    have hgl3 : g3 < w3.heap.size := harr3.lt
    have S3' := Lib.hid (S3.out.call (W' := w3.alloc (.cells #[.int .i64 n, .slice (some ⟨g3, 0, none⟩) ls.length ls.length] 33)) (by (repeat (first | exact Below.refl _ _ | (refine Below.alloc ?_ (by first | exact Nat.le_refl _ | omega | (simp; done) | (simp; omega)) _) | (refine Below.setCell ?_ (by first | exact Nat.le_refl _ | omega | (simp; done) | (simp; omega)) _) | exact Below.drew ‹_›))))
    have X3 := Lib.hid (Box.new w3 33 #[.int .i64 n, .slice (some ⟨g3, 0, none⟩) ls.length ls.length])
    have A3 := Lib.hid (harr3.below ((Below.refl w3.heap.size w3).alloc (Nat.le_refl _) (.cells #[.int .i64 n, .slice (some ⟨g3, 0, none⟩) ls.length ls.length] 33)) hgl3)
    clear hb3 harr3 S2 e20 e21 zk S3
    go_wp2_with fail
    refine (CI g3 _ (A3.out.sl A3.out.lt)).mono ?_
    rintro e w4 ⟨z1, rfl, hd1, hin1, hb4⟩
    have T4 := Lib.hid (S3'.out.call hb4)
    have hz4 : w3.heap.size < w4.heap.size := (X3.out.below hb4 X3.out.lt).lt
    have X4 := Lib.hid ((X3.out.below hb4 X3.out.lt).alloc (.cells #[.int .i64 z1.o, .int .i64 z1.q, .slice z1.A z1.es.length z1.c] 28))
    have S4 := Lib.hid (T4.out.call (W' := w4.alloc (.cells #[.int .i64 z1.o, .int .i64 z1.q, .slice z1.A z1.es.length z1.c] 28)) (by (repeat (first | exact Below.refl _ _ | (refine Below.alloc ?_ (by first | exact Nat.le_refl _ | omega | (simp; done) | (simp; omega)) _) | (refine Below.setCell ?_ (by first | exact Nat.le_refl _ | omega | (simp; done) | (simp; omega)) _) | exact Below.drew ‹_›))))
    have A4 := Lib.hid ((A3.out.below hb4 A3.out.lt).below ((Below.refl w4.heap.size w4).alloc (Nat.le_refl _) (.cells #[.int .i64 z1.o, .int .i64 z1.q, .slice z1.A z1.es.length z1.c] 28)) (by omega))
    have hzg1 : w3.heap.size + 1 ≤ z1.g := by have := hin1.2.1; simpa using this
    have hzl1 : 0 < z1.es.length → z1.g < w4.heap.size := fun hp => (hin1.1 hp).2.lt
    have HZL1 := Lib.hid hzl1
    have Y4 := Lib.hid (show LY w4.heap.size z1.g z1 z1.es (w4.alloc (.cells #[.int .i64 z1.o, .int .i64 z1.q, .slice z1.A z1.es.length z1.c] 28)) from ⟨Box.new w4 _ _, hin1.1.alloc _⟩)
    have hl1 : z1.es.length ≤ 2000000 := by
      have : z1.es = d.es := by rw [← hd1]
      rw [this]; omega
    have D1 := Lib.hid hd1
    have CE := fun W (h1 : Slb W W.heap.size z1.A z1.es) (h2 : Slb W W.heap.size zA zes) => eqLsa_same z1 ⟨zo, zq, zes, zA, zc, zg⟩ W (D1.out.trans D0.out.symm) hl1 h1 h2
    clear hb4 hin1 hd1 S3' X3 A3 hzl1
    obtain ⟨zt, t40, t41, t42, _, _, _⟩ := T4.out.tbx.three
    obtain ⟨yo, yq, yes, yA, yc, yg⟩ := z1
    dsimp only at *
    go_wp2_with fail
    -- both answers are equal
    refine (CE _ Y4.out.own.slb S4.out.own.slb).mono ?_
    rintro e w5 ⟨rfl, hb5⟩
    have S5 := Lib.hid (S4.out.call hb5)
    have Y5 := Lib.hid (Y4.out.call hb5)
    have X5 := Lib.hid (X4.out.below hb5 X4.out.lt)
    have A5 := Lib.hid (A4.out.below hb5 A4.out.lt)
    have hz5 : w4.heap.size < w5.heap.size := Y5.out.box.lt
    clear hb5 S4 Y4 X4 A4 T4 zt t40 t41 t42
    obtain ⟨zk5, k50, k51, _, _⟩ := S5.out.kbx.two
    obtain ⟨zx5, x50, x51, _, _⟩ := X5.out.two
    go_wp2_with fail
    -- the argument is as it was
    have hX0 := fun (y : Ext w5.drew) => (y.cell w3.heap.size 0 zx5).trans (show w5.drew.cell? ⟨w3.heap.size, 0, none⟩ = _ from x50)
    have hX1 := fun (y : Ext w5.drew) => (y.cell w3.heap.size 1 zx5).trans (show w5.drew.cell? ⟨w3.heap.size, 1, none⟩ = _ from x51)
    have hX2 := fun (y : Ext w5.drew) => (y.cell w.heap.size 0 zk5).trans (show w5.drew.cell? ⟨w.heap.size, 0, none⟩ = _ from k50)
    have hX3 := fun (y : Ext w5.drew) => (y.cell w.heap.size 1 zk5).trans (show w5.drew.cell? ⟨w.heap.size, 1, none⟩ = _ from k51)
    refine wp_region_staged 5 (by kernel_rfl) (by kernel_rfl) ?_
    refine stage_seg _ 3 [0, 1] (by kernel_rfl) (by kernel_rfl) (by kernel_rfl) (by kernel_rfl) ?_
    (simp only [List.map_cons, List.map_nil, List.getElem?_cons_zero, List.getElem?_cons_succ, Option.getD_some]); (repeat (go_big_quiet_step (fail))); (refine wpQuiet_nil ?_)
    clear hX0 hX1 hX2 hX3 k50 k51 x50 x51
    refine stage_call _ 2 2 (by kernel_rfl) (by rfl) (by kernel_rfl) (by rfl) ?_
    go_wp2_with fail
    refine (toGraph_any n A ls c w5.drew hm ((H1.out.below S5.out.bel.drew).more (Nat.le_of_lt zk5))).mono ?_
    rintro e w6 ⟨g6, rfl, hg6, harr6, hb6⟩
    refine ⟨hb6, ?_⟩
    have S6 := Lib.hid (S5.out.drew.call hb6)
    have Y6 := Lib.hid (Y5.out.drew.call hb6)
    have X6 := Lib.hid (Box.below (w := w5.drew) X5.out hb6 X5.out.lt)
    have A6 := Lib.hid (A5.out.below (w := w5.drew) hb6 A5.out.lt)
    have Z6 := Lib.hid (harr6.sl harr6.lt)
    clear hb6 harr6 hg6 S5 Y5 X5 A5 zk5 zx5
    refine stage_call _ 1 3 (by kernel_rfl) (by rfl) (by kernel_rfl) (by rfl) ?_
    go_wp2_with fail
    refine (eqGraph_same n _ _ ls _ _ _ hm (A6.out.sl A6.out.lt) Z6.out).mono ?_
    rintro e w7 ⟨rfl, hb7⟩
    refine ⟨hb7, ?_⟩
    have S7 := Lib.hid (S6.out.call hb7)
    have Y7 := Lib.hid (Y6.out.call hb7)
    have X7 := Lib.hid (X6.out.below hb7 X6.out.lt)
    have A7 := Lib.hid (A6.out.below hb7 A6.out.lt)
    clear hb7 S6 Y6 X6 A6 Z6
    refine stage_seg _ 0 [4] (by kernel_rfl) (by kernel_rfl) (by kernel_rfl) (by kernel_rfl) ?_
    (simp only [List.map_cons, List.map_nil, List.getElem?_cons_zero, List.getElem?_cons_succ, Option.getD_some]); (repeat (go_big_quiet_step (fail))); (refine wpQuiet_nil ?_)
    refine stage_end (by kernel_rfl) ?_
    obtain ⟨zx7, x70, x71, _, _⟩ := X7.out.two
    go_wp2_with fail
    -- marks into the argument
    refine (markGraph_any n _ g3 ls _ 1 _ hm (by omega) (by omega) (fun _ => ⟨rfl, A7.out⟩)).mono ?_
    rintro e w8 ⟨rfl, _, hg8⟩
    have hk8 : Kx (fun k => k = g3) w7 w8 := (Kx.refl _ w7).grown hg8 (fun _ => rfl)
    have S8 := Lib.hid (S7.out.kx hk8 (fun k e => by subst e; exact ⟨by omega, by omega, fun hp => by have := HZL.out hp; dsimp only; omega⟩))
    have Y8 := Lib.hid (Y7.out.kx hk8 (fun k e => by subst e; exact ⟨by omega, fun hp => by omega⟩))
    clear hk8 hg8 S7 Y7 X7 A7 zx7 x70 x71
    obtain ⟨zt8, t80, t81, t82, _, _, _⟩ := S8.out.tbx.three
    obtain ⟨zy8, y80, y81, y82, _, _, _⟩ := Y8.out.box.three
    go_wp2_with fail
    refine (CE _ Y8.out.own.slb S8.out.own.slb).mono ?_
    rintro e w9 ⟨rfl, hb9⟩
    have S9 := Lib.hid (S8.out.call hb9)
    have Y9 := Lib.hid (Y8.out.call hb9)
    have hz9 : w4.heap.size < w9.heap.size := Y9.out.box.lt
    clear hb9 S8 Y8 zt8 t80 t81 t82 zy8 y80 y81 y82
    obtain ⟨g5, hown5, hg5⟩ : ∃ g5, Owne w9 yA g5 yes ∧ w3.heap.size + 1 ≤ g5 ∧ g5 ≠ w4.heap.size ∧ (0 < yes.length → g5 = yg) := by
      by_cases hp : 0 < yes.length
      · exact ⟨yg, Y9.out.own, hzg1, by have := HZL1.out hp; omega, fun _ => rfl⟩
      · exact ⟨w9.heap.size, fun h => absurd h hp, by omega, by omega, fun h => absurd h hp⟩
    obtain ⟨hg5a, hg5b, -⟩ := hg5
    have O9 := Lib.hid hown5
    have HYS : Hid (yes.length ≤ zes.length ∧ zes.length ≤ yes.length) := Lib.hid (by
      have h1 : (⟨yo, yq, yes⟩ : La) = ⟨zo, zq, zes⟩ := D1.out.trans D0.out.symm
      injection h1 with _ _ h1
      rw [h1]
      exact ⟨Nat.le_refl _, Nat.le_refl _⟩)
    clear hown5
    obtain ⟨zy9, y90, y91, y92, _, _, _⟩ := Y9.out.box.three
    go_wp2_with fail
    -- marks into the answer
    refine (markLsa_marks ⟨yo, yq, yes, yA, yc, yg⟩ g5 1 _ hl1 (by omega) (by omega) O9.out).mono ?_
    rintro e w10 ⟨rfl, hm10, hk10⟩
    have S10 := Lib.hid (S9.out.kx hk10 (fun k e => by subst e; exact ⟨by omega, by omega, fun hp => by have := HZL.out hp; dsimp only; omega⟩))
    have Y10 := Lib.hid (show LY w4.heap.size g5 ⟨yo, yq, yes, yA, yc, yg⟩ (markLs 1 yes.length) w10 from ⟨hk10.box Y9.out.box (fun e => hg5b e.symm), hm10⟩)
    clear hm10 hk10 S9 Y9 O9 zy9 y90 y91 y92
    obtain ⟨zy10, y100, y101, y102, _, _, _⟩ := Y10.out.box.three
    dsimp only at *
    go_wp2_with fail
    refine (heldLsa_any yo yq yA yes.length yc g5 1 _ hl1 (by omega) (by omega) Y10.out.own).mono ?_
    rintro e w11 ⟨rfl, hb11⟩
    have S11 := Lib.hid (S10.out.call hb11)
    have Y11 := Lib.hid (Y10.out.call hb11)
    clear hb11 S10 Y10 zy10 y100 y101 y102
    obtain ⟨zk11, k110, k111, _, _⟩ := S11.out.kbx.two
    go_wp2_with fail
    -- a second call
    refine (toGraph_any n A ls c _ hm ((H1.out.below S11.out.bel).more (Nat.le_of_lt zk11))).mono ?_
    rintro e w12 ⟨g12, rfl, hg12, harr12, hb12⟩
    have S12 := Lib.hid (S11.out.call hb12)
    have Y12 := Lib.hid (Y11.out.call hb12)
    have R12 := Lib.hid (harr12.sl harr12.lt)
    clear S11 Y11 hb12 harr12 k110 k111 zk11 hg12
    go_wp2_with fail
    refine (CI g12 _ R12.out).mono ?_
    rintro e w13 ⟨z2, rfl, hd2, hin2, hb13⟩
    have M13 := Lib.hid (S12.out.call hb13)
    have N13 := Lib.hid (Y12.out.call hb13)
    have S13 := Lib.hid (M13.out.call (W' := w13.alloc (.cells #[.int .i64 z2.o, .int .i64 z2.q, .slice z2.A z2.es.length z2.c] 28)) (by (repeat (first | exact Below.refl _ _ | (refine Below.alloc ?_ (by first | exact Nat.le_refl _ | omega | (simp; done) | (simp; omega)) _) | (refine Below.setCell ?_ (by first | exact Nat.le_refl _ | omega | (simp; done) | (simp; omega)) _) | exact Below.drew ‹_›))))
    have Y13 := Lib.hid (N13.out.call (W' := w13.alloc (.cells #[.int .i64 z2.o, .int .i64 z2.q, .slice z2.A z2.es.length z2.c] 28)) (by (repeat (first | exact Below.refl _ _ | (refine Below.alloc ?_ (by first | exact Nat.le_refl _ | omega | (simp; done) | (simp; omega)) _) | (refine Below.setCell ?_ (by first | exact Nat.le_refl _ | omega | (simp; done) | (simp; omega)) _) | exact Below.drew ‹_›))))
    have L13 := Lib.hid (show Slb (w13.alloc (.cells #[.int .i64 z2.o, .int .i64 z2.q, .slice z2.A z2.es.length z2.c] 28)) _ z2.A z2.es from (hin2.1.alloc _).slb)
    have CE2 := fun W (h1 : Slb W W.heap.size z2.A z2.es) (h2 : Slb W W.heap.size zA zes) => eqLsa_same z2 ⟨zo, zq, zes, zA, zc, zg⟩ W (hd2.trans D0.out.symm) (by
      have : z2.es = d.es := by rw [← hd2]
      rw [this]; omega) h1 h2
    clear hb13 hin2 hd2 S12 Y12 R12 CI CE
    obtain ⟨zt, t130, t131, t132, _, _, _⟩ := M13.out.tbx.three
    obtain ⟨xo, xq, xes, xA, xc, xg⟩ := z2
    dsimp only at *
    go_wp2_with fail
    refine (CE2 _ L13.out S13.out.own.slb).mono ?_
    clear CE2
    rintro e w14 ⟨rfl, hb14⟩
    have S14 := Lib.hid (S13.out.call hb14)
    have Y14 := Lib.hid (Y13.out.call hb14)
    clear hb14 S13 Y13 L13 M13 N13 zt t130 t131 t132
    obtain ⟨zy14, y140, y141, y142, _, _, _⟩ := Y14.out.box.three
    dsimp only at *
    go_wp2_with fail
    refine (heldLsa_any yo yq yA yes.length yc g5 1 _ hl1 (by omega) (by omega) Y14.out.own).mono ?_
    rintro e w15 ⟨rfl, hb15⟩
    have S15 := Lib.hid (S14.out.call hb15)
    clear hb15 y140 y141 y142 zy14
    go_wp2_with fail
    go_ret
    exact ⟨rfl, S15.out.bel⟩
  · go_enter Try.func3, Try.ntmps3
    go_wp2
    go_ret
    exact ⟨rfl, by (repeat (first | exact Below.refl _ _ | (refine Below.alloc ?_ (by first | exact Nat.le_refl _ | omega | (simp; done) | (simp; omega)) _) | (refine Below.setCell ?_ (by first | exact Nat.le_refl _ | omega | (simp; done) | (simp; omega)) _) | exact Below.drew ‹_›))⟩
end Go.Proofs.Ytimebipgiicmiac
