/-
  The walk of the exact law of AdjacencySync over this seat.
-/
import Derived.Test.YtnkohgdfipgdoabJd
import Derived.Test.YtnkohgdfipgdoabJs
import Derived.Test.YtnkohgdfipgdoabE8
namespace Go.Proofs.Ytnkohgdfipgdoab
open Go.RowKit Go.Maps

/-- What an exact law of AdjacencySync keeps: the adjacency's box, both lists. -/
structure SE (w : World) (s g : Int) (A : Option Addr) (zs : List Lz) (B : Option Addr) (os : List Lz) (W : World) : Prop where
  box : Box W w.heap.size 23 #[.int .i64 s, .int .i64 g]
  sl : Slz W W.heap.size A zs
  so : Slz W W.heap.size B os
  bel : Below w.heap.size w W
theorem SE.call {w w1 w2 : World} {s g : Int} {A B : Option Addr} {zs os : List Lz} (h : SE w s g A zs B os w1) (hb : Below w1.heap.size w1 w2) : SE w s g A zs B os w2 :=
  ⟨h.box.below hb h.box.lt, h.sl.grow hb, h.so.grow hb, h.bel.trans (hb.mono h.bel.size)⟩

set_option maxRecDepth 100000 in
set_option maxHeartbeats 3200000 in
theorem exactAdjSync_walk (s g : Int) (A : Option Addr) (zs : List Lz) (c : Nat) (B : Option Addr) (os : List Lz) (cb : Nat) (w : World) (hmax : zs.length ≤ maxLen) (hmes : ∀ z ∈ zs, z.es.length ≤ maxLen) (hS : Slz w w.heap.size A zs) (hmax2 : os.length ≤ maxLen) (hmes2 : ∀ z ∈ os, z.es.length ≤ maxLen) (hO : Slz w w.heap.size B os) :
   Calls Try.prog 3 #[adjV s g, .slice A zs.length c, .slice B os.length cb] w fun e w' => e = .returned (.bool true) ∧ Below w.heap.size w w' := by
  have hb0 : Below w.heap.size w (w.alloc (.cells #[.int .i64 s, .int .i64 g] 23)) := by (repeat (first | exact Below.refl _ _ | (refine Below.alloc ?_ (by first | exact Nat.le_refl _ | omega | (simp; done) | (simp; omega)) _) | (refine Below.setCell ?_ (by first | exact Nat.le_refl _ | omega | (simp; done) | (simp; omega)) _) | exact Below.drew ‹_›))
  have E0 := Lib.hid (show SE w s g A zs B os _ from ⟨Box.new w 23 #[.int .i64 s, .int .i64 g], hS.grow hb0, hO.grow hb0, hb0⟩)
  have CZ1 := fun W (h : Slz W W.heap.size A zs) => szLsaS_any A zs c 1048576 W hmax hmes (by omega) h
  clear hS hO hb0
  go_enter Try.func3, Try.ntmps3
  go_wp2_with fail
  refine (CZ1 _ E0.out.sl).mono ?_
  clear CZ1
  rintro e w1 ⟨r, rfl, hr, hb1⟩
  have E1 := Lib.hid (E0.out.call hb1)
  clear hb1 E0
  rcases hr with rfl | ⟨h0, hrl, hm, hes, hcn⟩
  · go_wp2_with fail
    go_ret
    exact ⟨rfl, E1.out.bel⟩
  have h0' : ¬ r < 0 := by omega
  have CZ2 := fun W (h : Slz W W.heap.size B os) => szLsaS_any B os cb r W hmax2 hmes2 (by omega) h
  go_wp2_with fail
  refine (CZ2 _ E1.out.so).mono ?_
  clear CZ2
  rintro e w2 ⟨r2, rfl, hr2, hb2⟩
  have E2 := Lib.hid (E1.out.call hb2)
  clear hb2 E1
  rcases hr2 with rfl | ⟨h02, hrl2, hm2, hes2, hcn2⟩
  · go_wp2_with fail
    go_ret
    exact ⟨rfl, E2.out.bel⟩
  have h02' : ¬ r2 < 0 := by omega
  have HS1 := Lib.hid (fun (xs : List Lz) (hd : datL xs = datL zs) => same_short2 hd hm hes)
  have HS2 := Lib.hid (fun (xs : List Lz) (hd : datL xs = datL os) => same_short2 hd hm2 hes2)
  have hzl : zs.length ≤ 1048576 := by omega
  have hol : os.length ≤ 1048576 := by omega
  have TA := fun W => toAdj_any s g W
  have T1 := fun W (h : Slz W W.heap.size A zs) => toLsaS_any A zs c W (by omega) (fun z hz => by have := hes z hz; omega) h
  have T2 := fun W (h : Slz W W.heap.size B os) => toLsaS_any B os cb W (by omega) (fun z hz => by have := hes2 z hz; omega) h
  have CI := fun (Xa : Option Addr) (xs : List Lz) (xc : Nat) (Ya : Option Addr) (ys : List Lz) (yc : Nat) (hdx : datL xs = datL zs) (hdy : datL ys = datL os) W (h1 : Slz W W.heap.size Xa xs) (h2 : Slz W W.heap.size Ya ys) => sync_impl s g Xa xs xc Ya ys yc W (by have := congrArg List.length hdx; simp [datL] at this; omega) (HS1.out xs hdx).2 (by have := congrArg List.length hdy; simp [datL] at this; omega) (HS2.out ys hdy).2 h1 h2
  have CS := fun (Xa : Option Addr) (xs : List Lz) (xc : Nat) (Ya : Option Addr) (ys : List Lz) (yc : Nat) (hdx : datL xs = datL zs) (hdy : datL ys = datL os) W (h1 : Slz W W.heap.size Xa xs) (h2 : Slz W W.heap.size Ya ys) => sync_spec s g Xa xs xc Ya ys yc W (by have := congrArg List.length hdx; simp [datL] at this; omega) (HS1.out xs hdx).2 (by have := congrArg List.length hdy; simp [datL] at this; omega) (HS2.out ys hdy).2 h1 h2
  obtain ⟨u, v, huv⟩ : ∃ u v, syncA s g (datL zs) (datL os) = (u, v) := ⟨_, _, rfl⟩
  have HUV := Lib.hid huv
  have CE := fun W => eqAdj_same u v W
  clear hrl hcn hrl2 hcn2 huv
  obtain ⟨zx, x0, x1, -, -⟩ := E2.out.box.two
  go_wp2_with fail
  refine (TA _).mono ?_
  rintro e w3 ⟨rfl, hb3⟩
  have E3 := Lib.hid (E2.out.call hb3)
  clear hb3 E2 zx x0 x1
  go_wp2_with fail
  refine (T1 _ E3.out.sl).mono ?_
  rintro e w4 ⟨xs, Xa, xc, rfl, hdx, hzx, hb4⟩
  have E4 := Lib.hid (E3.out.call hb4)
  have X4 := Lib.hid (hzx.slz hb4.size)
  clear hzx hb4 E3
  go_wp2_with fail
  refine (T2 _ E4.out.so).mono ?_
  rintro e w5 ⟨ys, Ya, yc, rfl, hdy, hzy, hb5⟩
  have E5 := Lib.hid (E4.out.call hb5)
  have X5 := Lib.hid (X4.out.grow hb5)
  have Y5 := Lib.hid (hzy.slz hb5.size)
  have C1 := CS Xa xs xc Ya ys yc hdx hdy
  rw [hdx, hdy, HUV.out] at C1
  clear hzy hb5 E4 X4 CS hdx hdy
  go_wp2_with fail
  refine (C1 _ X5.out Y5.out).mono ?_
  clear C1
  rintro e w6 ⟨rfl, hb6⟩
  have E6 := Lib.hid (E5.out.call (hb6.alloc hb6.size (.cells #[.int .i64 u, .int .i64 v] 26)))
  have W6 := Lib.hid (Box.new w6 26 #[.int .i64 u, .int .i64 v])
  clear hb6 E5 X5 Y5
  go_wp2_with fail
  generalize w6.heap.size = X at *
  generalize w6.alloc (.cells #[.int .i64 u, .int .i64 v] 26) = V6 at *
  refine (T1 _ E6.out.sl).mono ?_
  rintro e w7 ⟨xs, Xa, xc, rfl, hdx, hzx, hb7⟩
  have E7 := Lib.hid (E6.out.call hb7)
  have W7 := Lib.hid (W6.out.below hb7 W6.out.lt)
  have X7 := Lib.hid (hzx.slz hb7.size)
  clear hzx hb7 E6 W6
  go_wp2_with fail
  refine (T2 _ E7.out.so).mono ?_
  rintro e w8 ⟨ys, Ya, yc, rfl, hdy, hzy, hb8⟩
  have E8 := Lib.hid (E7.out.call hb8)
  have W8 := Lib.hid (W7.out.below hb8 W7.out.lt)
  have X8 := Lib.hid (X7.out.grow hb8)
  have Y8 := Lib.hid (hzy.slz hb8.size)
  clear hzy hb8 E7 W7 X7
  obtain ⟨zx, x0, x1, -, -⟩ := E8.out.box.two
  go_wp2_with fail
  refine (TA _).mono ?_
  rintro e w9 ⟨rfl, hb9⟩
  have E9 := Lib.hid (E8.out.call hb9)
  have W9 := Lib.hid (W8.out.below hb9 W8.out.lt)
  have X9 := Lib.hid (X8.out.grow hb9)
  have Y9 := Lib.hid (Y8.out.grow hb9)
  have C1 := CI Xa xs xc Ya ys yc hdx hdy
  rw [hdx, hdy, HUV.out] at C1
  clear hb9 E8 W8 X8 Y8 CI zx x0 x1
  go_wp2_with fail
  refine (C1 _ X9.out Y9.out).mono ?_
  clear C1
  rintro e wa ⟨rfl, hba⟩
  have hbb := hba.alloc hba.size (.cells #[.int .i64 u, .int .i64 v] 26)
  have Ea := Lib.hid (E9.out.call hbb)
  have Wa := Lib.hid (W9.out.below hbb W9.out.lt)
  have Xb := Lib.hid (X9.out.grow hbb)
  have Yb := Lib.hid (Y9.out.grow hbb)
  clear hba hbb E9 W9 X9 Y9
  obtain ⟨zy, y0, y1, -, -⟩ := Wa.out.two
  go_wp2_with fail
  generalize wa.heap.size = Y at *
  generalize wa.alloc (.cells #[.int .i64 u, .int .i64 v] 26) = Va at *
  refine (CE _).mono ?_
  rintro e wc ⟨rfl, hbc⟩
  have Ec := Lib.hid (Ea.out.call hbc)
  have Xc := Lib.hid (Xb.out.grow hbc)
  have Yc := Lib.hid (Yb.out.grow hbc)
  have hsx := HS1.out xs hdx
  have hsy := HS2.out ys hdy
  clear hbc Ea Xb Yb Wa zy y0 y1
  have EX1 := fun (Z : Option Addr) (ts : List Lz) (tc : Nat) W (hd : datL ts = datL zs) (h1 : Slz W W.heap.size Xa xs) (h2 : Slz W W.heap.size Z ts) => eqLsaS_same Xa Z xs ts xc tc W (hdx.trans hd.symm) hsx.1 hsx.2 h1 h2
  have EX2 := fun (Z : Option Addr) (ts : List Lz) (tc : Nat) W (hd : datL ts = datL os) (h1 : Slz W W.heap.size Ya ys) (h2 : Slz W W.heap.size Z ts) => eqLsaS_same Ya Z ys ts yc tc W (hdy.trans hd.symm) hsy.1 hsy.2 h1 h2
  go_wp2_with fail
  refine (T1 _ Ec.out.sl).mono ?_
  rintro e wd ⟨ts, Ta, tc, rfl, hdt, hzt, hbd⟩
  have Ed := Lib.hid (Ec.out.call hbd)
  have Xd := Lib.hid (Xc.out.grow hbd)
  have Yd := Lib.hid (Yc.out.grow hbd)
  have Td := Lib.hid (hzt.slz hbd.size)
  have E1' := EX1 Ta ts tc wd hdt
  clear hzt hbd Ec Xc Yc EX1 hdt
  go_wp2_with fail
  refine (E1' Xd.out Td.out).mono ?_
  clear E1'
  rintro e we ⟨rfl, hbe⟩
  have Ee := Lib.hid (Ed.out.call hbe)
  have Ye := Lib.hid (Yd.out.grow hbe)
  clear hbe Ed Xd Yd Td
  go_wp2_with fail
  refine (T2 _ Ee.out.so).mono ?_
  rintro e wf ⟨ts, Ta, tc, rfl, hdt, hzt, hbf⟩
  have Ef := Lib.hid (Ee.out.call hbf)
  have Yf := Lib.hid (Ye.out.grow hbf)
  have Tf := Lib.hid (hzt.slz hbf.size)
  have E1' := EX2 Ta ts tc wf hdt
  clear hzt hbf Ee Ye EX2 hdt
  go_wp2_with fail
  refine (E1' Yf.out Tf.out).mono ?_
  clear E1'
  rintro e wg ⟨rfl, hbg⟩
  have Eg := Lib.hid (Ef.out.call hbg)
  go_wp2_with fail
  go_ret
  exact ⟨rfl, Eg.out.bel⟩
end Go.Proofs.Ytnkohgdfipgdoab
