/-
  The walk of FnExactDbPut over this seat.
-/
import Derived.Test.YtimebipgiicmiaaEx
import Derived.Test.YtimebipgiicmiaaBgp
namespace Go.Proofs.Ytimebipgiicmiaa
open Go.RowKit Go.Maps

theorem InnZ.keepL {B B1 Bx : Nat} {z : Lz} {W W' : World} (h : InnZ W Bx z) (hk : KeepO B B1 W W') (hl : B1 ≤ Bx) : InnZ W' Bx z :=
  h.keepO (B := B) (B1 := Bx) ⟨hk.os, hk.tape, hk.output, hk.size, fun i hi ho => hk.block i hi (by omega)⟩
theorem Box.keepL {B B1 b : Nat} {t : TypeId} {cs : Array Value} {W W' : World} (h : Box W b t cs) (hk : KeepO B B1 W W') (hl : B1 ≤ b) : Box W' b t cs := (hk.block b h.lt (.inr hl)).trans h
theorem putD_short3 {db : List La} {l : La} {ys : List Lz} (h : datL ys = putD db l) : ys.length ≤ 8 ∧ (∀ y ∈ ys, y.es.length ≤ 8) := by
  have hv : dbB (datL ys) = true := by
    rw [h]
    unfold putD
    split
    · rename_i h
      simp only [Bool.and_eq_true] at h
      obtain ⟨h1, h2⟩ := dbB_inv h.1
      exact dbB_of (putL_val h2 h1 h.2) (putL_srt h2)
    · rfl
  exact db_short hv
/-- A list that came in, and an announcement in its box. -/
def Q3 (w : World) (A : Option Addr) (zs : List Lz) (z : Lz) (W : World) : Prop := Slz W w.heap.size A zs ∧ Slb W w.heap.size z.A z.es ∧ Box W w.heap.size 24 #[.int .i64 z.o, .int .i64 z.q, .slice z.A z.es.length z.c]
theorem Q3.b {w X Y : World} {A : Option Addr} {zs : List Lz} {z : Lz} {B0 : Nat} (h : Q3 w A zs z X) (hb : Below B0 X Y) (hl : w.heap.size < B0) : Q3 w A zs z Y := ⟨h.1.below (hb.mono (Nat.le_of_lt hl)), h.2.1.below (hb.mono (Nat.le_of_lt hl)), h.2.2.below hb hl⟩
theorem Q3.s1 {w X : World} {A : Option Addr} {zs : List Lz} {z : Lz} (h : Q3 w A zs z X) : Slz X X.heap.size A zs := h.1.more (Nat.le_of_lt h.2.2.lt)
theorem Q3.s2 {w X : World} {A : Option Addr} {zs : List Lz} {z : Lz} (h : Q3 w A zs z X) : Slb X X.heap.size z.A z.es := h.2.1.more (Nat.le_of_lt h.2.2.lt)

set_option maxRecDepth 100000 in
set_option maxHeartbeats 3200000 in
theorem exactDbPut_walk (A : Option Addr) (zs : List Lz) (c : Nat) (z : Lz) (w : World) (hmax : zs.length ≤ maxLen) (hmes : ∀ z ∈ zs, z.es.length ≤ maxLen) (hS : Slz w w.heap.size A zs) (hmaxz : z.es.length ≤ maxLen) (hL : Slb w w.heap.size z.A z.es) :
   Calls Try.prog 5 #[.slice A zs.length c, z.v] w fun e w' => e = .returned (.bool true) ∧ Below w.heap.size w w' := by
  have hba : Below w.heap.size w (w.alloc (.cells #[.int .i64 z.o, .int .i64 z.q, .slice z.A z.es.length z.c] 24)) := by (repeat (first | exact Below.refl _ _ | (refine Below.alloc ?_ (by first | exact Nat.le_refl _ | omega | (simp; done) | (simp; omega)) _) | (refine Below.setCell ?_ (by first | exact Nat.le_refl _ | omega | (simp; done) | (simp; omega)) _) | exact Below.drew ‹_›))
  have E0 := Lib.hid (show Q3 w A zs z (w.alloc (.cells #[.int .i64 z.o, .int .i64 z.q, .slice z.A z.es.length z.c] 24)) from ⟨hS.below hba, hL.below hba, Box.new w _ _⟩)
  have Bl0 := Lib.hid hba
  have CZ1 := fun W (h : Slz W W.heap.size A zs) => szLsaS_any A zs c 1048576 W hmax hmes (by omega) h
  obtain ⟨zo, zq, zes, zA, zc, zg⟩ := z
  dsimp only at *
  clear hS hL hba
  go_enter Try.func5, Try.ntmps5
  go_wp2_with fail
  refine (CZ1 _ E0.out.s1).mono ?_
  clear CZ1
  rintro e w1 ⟨r, rfl, hr, hb1⟩
  have E1 := Lib.hid (E0.out.b hb1 E0.out.2.2.lt)
  have Bl1 := Lib.hid (Bl0.out.trans (hb1.mono Bl0.out.size))
  clear hb1 E0 Bl0
  rcases hr with rfl | ⟨h0, hrl, hm, hes, hcn⟩
  · go_wp2_with fail
    go_ret
    exact ⟨rfl, Bl1.out⟩
  have h0' : ¬ r < 0 := by omega
  have CZ2 := fun W => szLsa_any ⟨zo, zq, zes, zA, zc, zg⟩ r W hmaxz (by omega)
  have HC2 := Lib.hid (leftI_cases r zes.length h0)
  obtain ⟨r2, hr2⟩ : ∃ r2, leftI r zes.length = r2 := ⟨_, rfl⟩
  dsimp only at CZ2
  rw [hr2] at CZ2 HC2
  clear hr2
  obtain ⟨zx, x0, x1, x2, -, -, -⟩ := E1.out.2.2.three
  go_wp2_with fail
  refine (CZ2 _).mono ?_
  clear CZ2
  rintro e w2 ⟨rfl, hb2⟩
  have E2 := Lib.hid (E1.out.b hb2 E1.out.2.2.lt)
  have Bl2 := Lib.hid (Bl1.out.trans (hb2.mono Bl1.out.size))
  clear hb2 E1 Bl1 zx x0 x1 x2
  rcases HC2.out with rfl | ⟨h02, -, h22⟩
  · go_wp2_with fail
    go_ret
    exact ⟨rfl, Bl2.out⟩
  have h02' : ¬ r2 < 0 := by omega
  have hzz : zes.length ≤ 1048576 := by omega
  have hzz2 : zes.length ≤ 2000000 := by omega
  have HCN := Lib.hid (show cntZ zs ≤ 2097152 by omega)
  have HS1 := Lib.hid (fun (xs : List Lz) (hd : datL xs = datL zs) => same_short2 hd hm hes)
  have HZ1 : Hid (∀ a : Lz, a.d = ⟨zo, zq, zes⟩ → a.es.length = zes.length) := Lib.hid (fun a h => congrArg (fun d : La => d.es.length) h)
  have hzl : zs.length ≤ 2000000 := by omega
  have T1 := fun W (h : Slz W W.heap.size A zs) => toLsaS_any A zs c W hzl (fun z hz => by have := hes z hz; omega) h
  have T2 := fun W (h : Slb W W.heap.size zA zes) => toLsa_any ⟨zo, zq, zes, zA, zc, zg⟩ W hzz2 h
  clear hrl hcn h22
  have hw2 : w.heap.size < w2.heap.size := E2.out.2.2.lt
  have F2 := Lib.hid (show EW w (Q3 w A zs ⟨zo, zq, zes, zA, zc, zg⟩) w2.heap.size (fun _ => True) w2 from ⟨E2.out, trivial, Nat.le_of_lt hw2, Nat.le_refl _, Bl2.out, fun hb h => h.b hb hw2, fun _ _ => trivial⟩)
  clear E2 Bl2
  obtain ⟨zx, x0, x1, x2, -, -, -⟩ := F2.out.ex.2.2.three
  go_wp2_with fail
  have hX := fun (x : Ext w2.drew) (bb oo : Nat) (h : bb < w2.heap.size) => (show x.w.cell? ⟨bb, oo, none⟩ = w2.cell? ⟨bb, oo, none⟩ from x.cell bb oo h)
  refine wp_region_staged 10 (by kernel_rfl) (by kernel_rfl) ?_
  refine stage_seg _ 8 [0, 2] (by kernel_rfl) (by kernel_rfl) (by kernel_rfl) (by kernel_rfl) ?_
  (simp only [List.map_cons, List.map_nil, List.getElem?_cons_zero, List.getElem?_cons_succ, Option.getD_some]); (repeat (go_big_quiet_step (fail))); (refine wpQuiet_nil ?_)
  clear hX
  clear zx x0 x1 x2
  have F3 := Lib.hid F2.out.drew
  have s3 : w2.heap.size ≤ w2.drew.heap.size := Nat.le_refl _
  clear F2
  generalize w2.drew = w3 at *
  refine stage_call _ 7 1 (by kernel_rfl) (by rfl) (by kernel_rfl) (by rfl) ?_
  go_wp2_with fail
  refine (T1 _ F3.out.ex.s1).mono ?_
  rintro e w4 ⟨xs, Xa, xc, rfl, hdx, hzx, hb4⟩
  refine ⟨hb4, ?_⟩
  have F4 := Lib.hid (F3.out.call hb4)
  have X4 := Lib.hid (hzx.slz hb4.size)
  clear hzx
  have s4 := hb4.size
  clear hb4 F3
  refine stage_call _ 6 3 (by kernel_rfl) (by rfl) (by kernel_rfl) (by rfl) ?_
  go_wp2_with fail
  refine (T2 _ F4.out.ex.s2).mono ?_
  rintro e w5 ⟨a, rfl, hda, hia, hb5⟩
  refine ⟨hb5, ?_⟩
  have F5 := Lib.hid (F4.out.call hb5)
  have X5 := Lib.hid (X4.out.grow hb5)
  have A5 := Lib.hid (hia.1.slb)
  clear hia
  have s5 := hb5.size
  clear hb5 F4 X4
  have CS := fun W (h1 : Slz W W.heap.size Xa xs) (h2 : Slb W W.heap.size a.A a.es) => dbPut_specB Xa xs xc a W (by have := congrArg List.length hdx; simp [datL] at this; omega) (HS1.out xs hdx).2 (by have := HZ1.out a hda; omega) h1 h2
  rw [hdx, hda] at CS
  obtain ⟨nn, hnn⟩ : ∃ nn, putN (datL zs) ⟨zo, zq, zes⟩ = nn := ⟨_, rfl⟩
  obtain ⟨ds, hds⟩ : ∃ ds, putD (datL zs) ⟨zo, zq, zes⟩ = ds := ⟨_, rfl⟩
  have HDV := Lib.hid (fun (ys : List Lz) (h : datL ys = ds) => putD_short3 (db := datL zs) (l := ⟨zo, zq, zes⟩) (h.trans hds.symm))
  rw [hnn, hds] at CS
  have HNN := Lib.hid hnn
  have HDS := Lib.hid hds
  obtain ⟨ao, aq, aes, aA, ac, ag⟩ := a
  dsimp only at *
  clear hnn hds
  refine stage_call _ 5 4 (by kernel_rfl) (by rfl) (by kernel_rfl) (by rfl) ?_
  go_wp2_with fail
  refine (CS _ X5.out A5.out).mono ?_
  rintro e w6 ⟨ws, Aw, wc, rfl, hdw, hzw, hb6⟩
  refine ⟨hb6, ?_⟩
  have F6 := Lib.hid (F5.out.call hb6)
  have W6 := Lib.hid (hzw.slz hb6.size)
  clear hzw hdx hda CS
  have s6 := hb6.size
  clear hb6 F5 X5 A5
  have hwn := Nat.lt_of_lt_of_le hw2 F6.out.le
  have Fb := Lib.hid (show EW w (Q3 w A zs ⟨zo, zq, zes, zA, zc, zg⟩) w6.heap.size (fun W => Slz W w6.heap.size Aw ws) w6 from ⟨F6.out.ex, W6.out, Nat.le_of_lt hwn, Nat.le_refl _, F6.out.bel, fun hb h => h.b hb hwn, fun hb h => h.below hb⟩)
  clear F6 W6
  have F6 := Fb
  clear Fb
  refine stage_seg _ 0 [5, 6, 7, 8, 9] (by kernel_rfl) (by kernel_rfl) (by kernel_rfl) (by kernel_rfl) ?_
  (simp only [List.map_cons, List.map_nil, List.getElem?_cons_zero, List.getElem?_cons_succ, Option.getD_some]); (repeat (go_big_quiet_step (fail))); (refine wpQuiet_nil ?_)
  refine stage_end (by kernel_rfl) ?_
  go_wp2_with fail
  refine (T1 _ F6.out.ex.s1).mono ?_
  rintro e w7 ⟨xs, Xa, xc, rfl, hdx, hzx, hb7⟩
  have F7 := Lib.hid (F6.out.call hb7)
  have X7 := Lib.hid (hzx)
  have UX := Lib.hid hzx.up
  clear hzx
  have s7 := hb7.size
  clear hb7 F6
  obtain ⟨zx, x0, x1, x2, -, -, -⟩ := F7.out.ex.2.2.three
  go_wp2_with fail
  refine (T2 _ F7.out.ex.s2).mono ?_
  rintro e w8 ⟨a, rfl, hda, hia, hb8⟩
  have F8 := Lib.hid (F7.out.call hb8)
  have X8 := Lib.hid (X7.out.call hb8)
  have A8 := Lib.hid (hia)
  have HIA : Hid (0 < a.es.length → a.g < w8.heap.size) := Lib.hid (fun hp => (hia.1 hp).2.lt)
  clear hia
  have s8 := hb8.size
  clear hb8 F7 X7
  clear zx x0 x1 x2
  have hsx := HS1.out xs hdx
  have hsa := HZ1.out a hda
  have CI := fun (Xa : Option Addr) (xs : List Lz) (xc : Nat) (a : Lz) (hdx : datL xs = datL zs) (hda : a.d = ⟨zo, zq, zes⟩) W (h1 : Slz W W.heap.size Xa xs) (h2 : Slb W W.heap.size a.A a.es) => dbPut_implB Xa xs xc a W (by have := congrArg List.length hdx; simp [datL] at this; omega) (HS1.out xs hdx).2 (by have := HZ1.out a hda; omega) h1 h2
  have CI2 := CI Xa xs xc a hdx hda
  have CXE := fun (y : Lz) W (hd : y.d = ⟨zo, zq, zes⟩) (h1 : Slb W W.heap.size a.A a.es) (h2 : Slb W W.heap.size y.A y.es) => eqLsa_same a y W (hda.trans hd.symm) (by omega) h1 h2
  have CMA := fun (k : Int) W (h0 : 0 ≤ k) (h1 : k ≤ 10000000 ) (h : InnZ W w7.heap.size a) => markLsa_any w7.heap.size w8.heap.size a k W (by omega) h0 h1 h HIA.out
  rw [hdx, hda, HNN.out, HDS.out] at CI2
  rw [hsa] at CMA
  clear hsa hda
  obtain ⟨ao, aq, aes, aA, ac, ag⟩ := a
  dsimp only at *
  have hb9 : Below w8.heap.size w8 (w8.alloc (.cells #[.int .i64 ao, .int .i64 aq, .slice aA aes.length ac] 29)) := by (repeat (first | exact Below.refl _ _ | (refine Below.alloc ?_ (by first | exact Nat.le_refl _ | omega | (simp; done) | (simp; omega)) _) | (refine Below.setCell ?_ (by first | exact Nat.le_refl _ | omega | (simp; done) | (simp; omega)) _) | exact Below.drew ‹_›))
  have V9 := Lib.hid (Box.new w8 29 #[.int .i64 ao, .int .i64 aq, .slice aA aes.length ac])
  have F9 := Lib.hid (F8.out.call hb9)
  have X9 := Lib.hid (X8.out.call hb9)
  have A9 := Lib.hid (A8.out.below hb9)
  have s9 : w8.heap.size < (w8.alloc (.cells #[.int .i64 ao, .int .i64 aq, .slice aA aes.length ac] 29)).heap.size := by simp
  clear hb9 F8 X8 A8
  go_upto_region 11 with fail
  generalize w8.alloc (.cells #[.int .i64 ao, .int .i64 aq, .slice aA aes.length ac] 29) = w9 at *
  obtain ⟨zv, v0, v1, v2, -, -, -⟩ := V9.out.three
  go_wp2_with fail
  refine (CI2 _ (X9.out.slz (by omega)) A9.out.1.slb).mono ?_
  rintro e w10 ⟨gs, Ga, gc, rfl, hdg, hzg, hb10⟩
  have F10 := Lib.hid (F9.out.call hb10)
  have X10 := Lib.hid (X9.out.call hb10)
  have A10 := Lib.hid (A9.out.below hb10)
  have V10 := Lib.hid (V9.out.below hb10 V9.out.lt)
  have G10 := Lib.hid (hzg)
  have UG := Lib.hid hzg.up
  clear hzg CI2
  have s10 := hb10.size
  clear hb10 F9 X9 A9 V9
  clear zv v0 v1 v2
  obtain ⟨hgl, hge⟩ := HDV.out gs hdg
  have CE := fun W (h1 : Slz W W.heap.size Ga gs) (h2 : Slz W W.heap.size Aw ws) => eqLsaS_same Ga Aw gs ws gc wc W (hdg.trans hdw.symm) (by omega) (fun z hz => by have := hge z hz; omega) h1 h2
  have hnn2 : (nn != nn) = false := by simp
  go_wp2_with fail
  refine (CE _ (G10.out.slz (by omega)) (F10.out.wn.more F10.out.le)).mono ?_
  rintro e w11 ⟨rfl, hb11⟩
  have F11 := Lib.hid (F10.out.call hb11)
  have X11 := Lib.hid (X10.out.call hb11)
  have A11 := Lib.hid (A10.out.below hb11)
  have V11 := Lib.hid (V10.out.below hb11 V10.out.lt)
  have G11 := Lib.hid (G10.out.call hb11)
  have s11 := hb11.size
  clear hb11 F10 X10 A10 V10 G10
  have EX1 := fun (Y : Option Addr) (ts : List Lz) (tc : Nat) W (hd : datL ts = datL zs) (h1 : Slz W W.heap.size Xa xs) (h2 : Slz W W.heap.size Y ts) => eqLsaS_same Xa Y xs ts xc tc W (hdx.trans hd.symm) hsx.1 hsx.2 h1 h2
  go_wp2_with fail
  refine (T1 _ F11.out.ex.s1).mono ?_
  rintro e w12 ⟨ts, Ta, tc, rfl, hdt, hzt, hb12⟩
  have F12 := Lib.hid (F11.out.call hb12)
  have X12 := Lib.hid (X11.out.call hb12)
  have A12 := Lib.hid (A11.out.below hb12)
  have V12 := Lib.hid (V11.out.below hb12 V11.out.lt)
  have G12 := Lib.hid (G11.out.call hb12)
  have T12 := Lib.hid (hzt.slz hb12.size)
  clear hzt
  have s12 := hb12.size
  clear hb12 F11 X11 A11 V11 G11
  have EX1 := EX1 Ta ts tc w12 hdt
  go_wp2_with fail
  refine (EX1 (X12.out.slz (by omega)) T12.out).mono ?_
  rintro e w13 ⟨rfl, hb13⟩
  have F13 := Lib.hid (F12.out.call hb13)
  have X13 := Lib.hid (X12.out.call hb13)
  have A13 := Lib.hid (A12.out.below hb13)
  have V13 := Lib.hid (V12.out.below hb13 V12.out.lt)
  have G13 := Lib.hid (G12.out.call hb13)
  clear EX1 hdt
  have s13 := hb13.size
  clear hb13 F12 X12 A12 V12 G12 T12
  obtain ⟨zx, x0, x1, x2, -, -, -⟩ := F13.out.ex.2.2.three
  obtain ⟨zv, v0, v1, v2, -, -, -⟩ := V13.out.three
  go_wp2_with fail
  have hX := fun (x : Ext w13.drew) (bb oo : Nat) (h : bb < w13.heap.size) => (show x.w.cell? ⟨bb, oo, none⟩ = w13.cell? ⟨bb, oo, none⟩ from x.cell bb oo h)
  refine wp_region_staged 5 (by kernel_rfl) (by kernel_rfl) ?_
  refine stage_seg _ 3 [0, 1] (by kernel_rfl) (by kernel_rfl) (by kernel_rfl) (by kernel_rfl) ?_
  (simp only [List.map_cons, List.map_nil, List.getElem?_cons_zero, List.getElem?_cons_succ, Option.getD_some]); (repeat (go_big_quiet_step (fail))); (refine wpQuiet_nil ?_)
  clear hX
  clear zx x0 x1 x2 zv v0 v1 v2
  have F14 := Lib.hid F13.out.drew
  have X14 := Lib.hid X13.out.drew
  have A14 := Lib.hid (show InnZ w13.drew _ _ from A13.out)
  have V14 := Lib.hid (show Box w13.drew _ _ _ from V13.out)
  have G14 := Lib.hid G13.out.drew
  have s14 : w13.heap.size ≤ w13.drew.heap.size := Nat.le_refl _
  clear F13 X13 A13 V13 G13
  generalize w13.drew = w14 at *
  refine stage_call _ 2 2 (by kernel_rfl) (by rfl) (by kernel_rfl) (by rfl) ?_
  go_wp2_with fail
  refine (T2 _ F14.out.ex.s2).mono ?_
  rintro e w15 ⟨y, rfl, hdy, hiy, hb15⟩
  refine ⟨hb15, ?_⟩
  have F15 := Lib.hid (F14.out.call hb15)
  have X15 := Lib.hid (X14.out.call hb15)
  have A15 := Lib.hid (A14.out.below hb15)
  have V15 := Lib.hid (V14.out.below hb15 V14.out.lt)
  have G15 := Lib.hid (G14.out.call hb15)
  have Y15 := Lib.hid (hiy.1.slb)
  clear hiy
  have s15 := hb15.size
  clear hb15 F14 X14 A14 V14 G14
  have CXE := CXE y w15 hdy A15.out.1.slb
  obtain ⟨yo, yq, yes, yA, yc, yg⟩ := y
  dsimp only at *
  refine stage_call _ 1 3 (by kernel_rfl) (by rfl) (by kernel_rfl) (by rfl) ?_
  go_wp2_with fail
  refine (CXE Y15.out).mono ?_
  rintro e w16 ⟨rfl, hb16⟩
  refine ⟨hb16, ?_⟩
  have F16 := Lib.hid (F15.out.call hb16)
  have X16 := Lib.hid (X15.out.call hb16)
  have A16 := Lib.hid (A15.out.below hb16)
  have V16 := Lib.hid (V15.out.below hb16 V15.out.lt)
  have G16 := Lib.hid (G15.out.call hb16)
  clear CXE hdy
  have s16 := hb16.size
  clear hb16 F15 X15 A15 V15 G15 Y15
  refine stage_seg _ 0 [4] (by kernel_rfl) (by kernel_rfl) (by kernel_rfl) (by kernel_rfl) ?_
  (simp only [List.map_cons, List.map_nil, List.getElem?_cons_zero, List.getElem?_cons_succ, Option.getD_some]); (repeat (go_big_quiet_step (fail))); (refine wpQuiet_nil ?_)
  refine stage_end (by kernel_rfl) ?_
  have hcx := same_cnt hdx
  have hcl := HCN.out
  have CM1 := fun W (h : ZI w6.heap.size (.slice Xa xs.length xc) xs W) (hl : w6.heap.size ≤ W.heap.size) => markLsaS_marks w6.heap.size w7.heap.size Xa xs xc 1 W hsx.1 hsx.2 (by omega) (by rw [hcx]; omega) h UX.out hl
  rw [hcx] at CM1
  clear hcx
  go_wp2_with fail
  refine (CM1 _ X16.out (by omega)).mono ?_
  rintro e w17 ⟨rfl, -, hk17⟩
  have F17 := Lib.hid (F16.out.keep hk17 (Nat.le_refl _) (by omega))
  have A17 := Lib.hid (A16.out.keepL hk17 (Nat.le_refl _))
  have V17 := Lib.hid (V16.out.keepL hk17 (by omega))
  have G17 := Lib.hid (G16.out.keepL hk17 (by omega))
  clear CM1 UX
  have s17 := hk17.size
  clear hk17 F16 A16 V16 G16 X16
  obtain ⟨zv, v0, v1, v2, -, -, -⟩ := V17.out.three
  go_wp2_with fail
  refine (CMA (1 + (cntZ zs : Int)) _ (by omega) (by omega) A17.out).mono ?_
  rintro e w18 ⟨rfl, hk18⟩
  have F18 := Lib.hid (F17.out.keep hk18 (by omega) (by omega))
  have V18 := Lib.hid (V17.out.keepL hk18 (Nat.le_refl _))
  have G18 := Lib.hid (G17.out.keepL hk18 (by omega))
  clear CMA
  have s18 := hk18.size
  clear hk18 F17 V17 G17 A17
  clear zv v0 v1 v2
  have hkp : ¬ (1 + (cntZ zs : Int) + 2 * (zes.length : Int)) < 0 := by omega
  go_wp2_with fail
  refine (CE _ (G18.out.slz (by omega)) (F18.out.wn.more F18.out.le)).mono ?_
  rintro e w19 ⟨rfl, hb19⟩
  have F19 := Lib.hid (F18.out.call hb19)
  have V19 := Lib.hid (V18.out.below hb19 V18.out.lt)
  have G19 := Lib.hid (G18.out.call hb19)
  have s19 := hb19.size
  clear hb19 F18 V18 G18
  have hcg := cntZ_le hge
  have hcg2 : gs.length * (2 + 2 * 8) ≤ 8 * 18 := by omega
  obtain ⟨cn, hcn⟩ : ∃ cn, cntZ gs = cn := ⟨_, rfl⟩
  have CG := fun W (h : ZI w9.heap.size (.slice Ga gs.length gc) gs W) (hl : w9.heap.size ≤ W.heap.size) => markLsaS_marks w9.heap.size w10.heap.size Ga gs gc 1 W (by omega) (fun z hz => by have := hge z hz; omega) (by omega) (by omega) h UG.out hl
  have CH := fun W (h : ZI w9.heap.size (.slice Ga gs.length gc) (markZ 1 gs) W) (hl : w9.heap.size ≤ W.heap.size) => heldLsaS_any w9.heap.size Ga gs gc 1 W (by omega) (fun z hz => by have := hge z hz; omega) (by omega) (by omega) h hl
  rw [hcn] at CG CH hcg
  clear hcn V19
  have hq0 : ¬ (1 + (cn : Int)) < 0 := by omega
  have hq1 : (1 + (cn : Int) != 1 + (cn : Int)) = false := by simp
  go_wp2_with fail
  refine (CG _ G19.out (by omega)).mono ?_
  rintro e w20 ⟨rfl, hzg, hk20⟩
  have F20 := Lib.hid (F19.out.keep hk20 (by omega) (by omega))
  have G20 := Lib.hid (hzg)
  clear CG UG hzg
  have s20 := hk20.size
  clear hk20 F19 G19
  go_wp2_with fail
  refine (CH _ G20.out (by omega)).mono ?_
  rintro e w21 ⟨rfl, hb21⟩
  have F21 := Lib.hid (F20.out.call hb21)
  have G21 := Lib.hid (G20.out.call hb21)
  have s21 := hb21.size
  clear hb21 F20 G20
  obtain ⟨zx, x0, x1, x2, -, -, -⟩ := F21.out.ex.2.2.three
  go_wp2_with fail
  have hX := fun (x : Ext w21.drew) (bb oo : Nat) (h : bb < w21.heap.size) => (show x.w.cell? ⟨bb, oo, none⟩ = w21.cell? ⟨bb, oo, none⟩ from x.cell bb oo h)
  refine wp_region_staged 10 (by kernel_rfl) (by kernel_rfl) ?_
  refine stage_seg _ 8 [0, 2] (by kernel_rfl) (by kernel_rfl) (by kernel_rfl) (by kernel_rfl) ?_
  (simp only [List.map_cons, List.map_nil, List.getElem?_cons_zero, List.getElem?_cons_succ, Option.getD_some]); (repeat (go_big_quiet_step (fail))); (refine wpQuiet_nil ?_)
  clear hX
  clear zx x0 x1 x2
  have F22 := Lib.hid F21.out.drew
  have G22 := Lib.hid G21.out.drew
  have s22 : w21.heap.size ≤ w21.drew.heap.size := Nat.le_refl _
  clear F21 G21
  generalize w21.drew = w22 at *
  refine stage_call _ 7 1 (by kernel_rfl) (by rfl) (by kernel_rfl) (by rfl) ?_
  go_wp2_with fail
  refine (T1 _ F22.out.ex.s1).mono ?_
  rintro e w23 ⟨xs2, Xb, xd, rfl, hdx2, hzx, hb23⟩
  refine ⟨hb23, ?_⟩
  have F23 := Lib.hid (F22.out.call hb23)
  have G23 := Lib.hid (G22.out.call hb23)
  have X23 := Lib.hid (hzx.slz hb23.size)
  clear hzx
  have s23 := hb23.size
  clear hb23 F22 G22
  refine stage_call _ 6 3 (by kernel_rfl) (by rfl) (by kernel_rfl) (by rfl) ?_
  go_wp2_with fail
  refine (T2 _ F23.out.ex.s2).mono ?_
  rintro e w24 ⟨a2, rfl, hda2, hia, hb24⟩
  refine ⟨hb24, ?_⟩
  have F24 := Lib.hid (F23.out.call hb24)
  have G24 := Lib.hid (G23.out.call hb24)
  have X24 := Lib.hid (X23.out.grow hb24)
  have A24 := Lib.hid (hia.1.slb)
  clear hia
  have s24 := hb24.size
  clear hb24 F23 G23 X23
  have CI3 := CI Xb xs2 xd a2 hdx2 hda2
  rw [hdx2, hda2, HNN.out, HDS.out] at CI3
  obtain ⟨bo, bq, bes, bA, bc, bg⟩ := a2
  dsimp only at *
  clear CI hdx2 hda2
  refine stage_call _ 5 4 (by kernel_rfl) (by rfl) (by kernel_rfl) (by rfl) ?_
  go_wp2_with fail
  refine (CI3 _ X24.out A24.out).mono ?_
  rintro e w25 ⟨hs, Ha, hc, rfl, hdh, hzh, hb25⟩
  refine ⟨hb25, ?_⟩
  have F25 := Lib.hid (F24.out.call hb25)
  have G25 := Lib.hid (G24.out.call hb25)
  have H25 := Lib.hid (hzh.slz hb25.size)
  clear hzh CI3
  have s25 := hb25.size
  clear hb25 F24 G24 X24 A24
  refine stage_seg _ 0 [5, 6, 7, 8, 9] (by kernel_rfl) (by kernel_rfl) (by kernel_rfl) (by kernel_rfl) ?_
  (simp only [List.map_cons, List.map_nil, List.getElem?_cons_zero, List.getElem?_cons_succ, Option.getD_some]); (repeat (go_big_quiet_step (fail))); (refine wpQuiet_nil ?_)
  refine stage_end (by kernel_rfl) ?_
  obtain ⟨hhl, hhe⟩ := HDV.out hs hdh
  have CE3 := fun W (h1 : Slz W W.heap.size Ha hs) (h2 : Slz W W.heap.size Aw ws) => eqLsaS_same Ha Aw hs ws hc wc W (hdh.trans hdw.symm) (by omega) (fun z hz => by have := hhe z hz; omega) h1 h2
  clear CE T1 T2
  go_wp2_with fail
  refine (CE3 _ H25.out (F25.out.wn.more F25.out.le)).mono ?_
  rintro e w26 ⟨rfl, hb26⟩
  have F26 := Lib.hid (F25.out.call hb26)
  have G26 := Lib.hid (G25.out.call hb26)
  have s26 := hb26.size
  clear hb26 F25 G25 H25
  go_wp2_with fail
  refine (CH _ G26.out (by omega)).mono ?_
  rintro e w27 ⟨rfl, hb27⟩
  have F27 := Lib.hid (F26.out.call hb27)
  have G27 := Lib.hid (G26.out.call hb27)
  have s27 := hb27.size
  clear hb27 F26 G26
  go_wp2_with fail
  go_ret
  exact ⟨rfl, F27.out.bel⟩

end Go.Proofs.Ytimebipgiicmiaa
