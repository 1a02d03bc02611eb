/-
  The walk of FnExactDbMissing over this seat.
-/
import Derived.Test.YtimebipgiicmiabEx
import Derived.Test.YtimebipgiicmiabBg
namespace Go.Proofs.Ytimebipgiicmiab
open Go.RowKit Go.Maps

set_option maxRecDepth 100000 in
set_option maxHeartbeats 3200000 in
theorem exactDbMissing_walk (A : Option Addr) (zs : List Lz) (c : Nat) (B : Option Addr) (os : List Lz) (cb : Nat) (w : World) (hmax : zs.length ≤ maxLen) (hmes : ∀ z ∈ zs, z.es.length ≤ maxLen) (hS : Slz w w.heap.size A zs) (hmax2 : os.length ≤ maxLen) (hmes2 : ∀ z ∈ os, z.es.length ≤ maxLen) (hO : Slz w w.heap.size B os) :
   Calls Try.prog 4 #[.slice A zs.length c, .slice B os.length cb] w fun e w' => e = .returned (.bool true) ∧ Below w.heap.size w w' := by
  have E0 := Lib.hid (show Q2 w A zs B os w from ⟨hS, hO, Nat.le_refl _⟩)
  have CZ1 := fun W (h : Slz W W.heap.size A zs) => szLsaS_any A zs c 1048576 W hmax hmes (by omega) h
  clear hS hO
  go_enter Try.func4, Try.ntmps4
  go_wp2_with fail
  refine (CZ1 _ E0.out.s1).mono ?_
  clear CZ1
  rintro e w1 ⟨r, rfl, hr, hb1⟩
  have E1 := Lib.hid (E0.out.b hb1 (Nat.le_refl _))
  have Bl1 := Lib.hid hb1
  clear hb1 E0
  rcases hr with rfl | ⟨h0, hrl, hm, hes, hcn⟩
  · go_wp2_with fail
    go_ret
    exact ⟨rfl, Bl1.out⟩
  have h0' : ¬ r < 0 := by omega
  have CZ2 := fun W (h : Slz W W.heap.size B os) => szLsaS_any B os cb r W hmax2 hmes2 (by omega) h
  go_wp2_with fail
  refine (CZ2 _ E1.out.s2).mono ?_
  clear CZ2
  rintro e w2 ⟨r2, rfl, hr2, hb2⟩
  have E2 := Lib.hid (E1.out.b hb2 Bl1.out.size)
  have Bl2 := Lib.hid (Bl1.out.trans (hb2.mono Bl1.out.size))
  clear hb2 E1 Bl1
  rcases hr2 with rfl | ⟨h02, hrl2, hm2, hes2, hcn2⟩
  · go_wp2_with fail
    go_ret
    exact ⟨rfl, Bl2.out⟩
  have h02' : ¬ r2 < 0 := by omega
  have HCN := Lib.hid (show cntZ zs ≤ 2097152 ∧ cntZ os ≤ 2097152 by omega)
  have HS1 := Lib.hid (fun (xs : List Lz) (hd : datL xs = datL zs) => same_short2 hd hm hes)
  have HS2 := Lib.hid (fun (xs : List Lz) (hd : datL xs = datL os) => same_short2 hd hm2 hes2)
  have hzl : zs.length ≤ 2000000 := by omega
  have hol : os.length ≤ 2000000 := by omega
  have T1 := fun W (h : Slz W W.heap.size A zs) => toLsaS_any A zs c W hzl (fun z hz => by have := hes z hz; omega) h
  have T2 := fun W (h : Slz W W.heap.size B os) => toLsaS_any B os cb W hol (fun z hz => by have := hes2 z hz; omega) h
  clear hrl hcn hrl2 hcn2
  have F2 := Lib.hid (show EW w (Q2 w A zs B os) w.heap.size (fun _ => True) w2 from ⟨E2.out, trivial, Nat.le_refl _, Bl2.out.size, Bl2.out, fun hb h => h.b hb (Nat.le_refl _), fun _ _ => trivial⟩)
  clear E2 Bl2
  go_wp2_with fail
  refine (T1 _ F2.out.ex.s1).mono ?_
  rintro e w3 ⟨xs, Xa, xc, rfl, hdx, hzx, hb3⟩
  have F3 := Lib.hid (F2.out.call hb3)
  have X3 := Lib.hid (hzx.slz hb3.size)
  clear hzx
  have s3 := hb3.size
  clear hb3 F2
  go_wp2_with fail
  refine (T2 _ F3.out.ex.s2).mono ?_
  rintro e w4 ⟨ys, Ya, yc, rfl, hdy, hzy, hb4⟩
  have F4 := Lib.hid (F3.out.call hb4)
  have X4 := Lib.hid (X3.out.grow hb4)
  have Y4 := Lib.hid (hzy.slz hb4.size)
  clear hzy
  have s4 := hb4.size
  clear hb4 F3 X3
  have CS := fun W (h1 : Slz W W.heap.size Xa xs) (h2 : Slz W W.heap.size Ya ys) => dbMissing_specB Xa xs xc Ya ys yc W (by have := (HS1.out xs hdx).1; have := hm; have := congrArg List.length hdx; simp [datL] at this; omega) (HS1.out xs hdx).2 (by have := congrArg List.length hdy; simp [datL] at this; omega) (HS2.out ys hdy).2 h1 h2
  rw [hdx, hdy] at CS
  obtain ⟨ds, hds⟩ : ∃ ds, missD (datL zs) (datL os) = ds := ⟨_, rfl⟩
  have hdl := missD_short2 (datL zs) (datL os)
  rw [hds] at CS hdl
  have HDS := Lib.hid hds
  clear hds
  go_wp2_with fail
  refine (CS _ X4.out Y4.out).mono ?_
  rintro e w5 ⟨Aw, gw, wc, rfl, hgw, how, hb5⟩
  have F5 := Lib.hid (F4.out.call hb5)
  have W5 := Lib.hid how.sli
  clear how hgw hdx hdy CS
  have s5 := hb5.size
  clear hb5 F4 X4 Y4
  have F5b := Lib.hid (show EW w (Q2 w A zs B os) w5.heap.size (fun W => Sli W w5.heap.size Aw ds) w5 from ⟨F5.out.ex, W5.out, F5.out.bel.size, Nat.le_refl _, F5.out.bel, fun hb h => h.b hb F5.out.bel.size, fun hb h => h.below hb⟩)
  have hw5 := F5.out.bel.size
  clear F5 W5
  have F5 := F5b
  clear F5b
  go_wp2_with fail
  refine (T1 _ F5.out.ex.s1).mono ?_
  rintro e w6 ⟨xs, Xa, xc, rfl, hdx, hzx, hb6⟩
  have F6 := Lib.hid (F5.out.call hb6)
  have X6 := Lib.hid (hzx)
  have UX := Lib.hid hzx.up
  clear hzx
  have s6 := hb6.size
  clear hb6 F5
  go_wp2_with fail
  refine (T2 _ F6.out.ex.s2).mono ?_
  rintro e w7 ⟨ys, Ya, yc, rfl, hdy, hzy, hb7⟩
  have F7 := Lib.hid (F6.out.call hb7)
  have X7 := Lib.hid (X6.out.call hb7)
  have Y7 := Lib.hid (hzy)
  have UY := Lib.hid hzy.up
  clear hzy
  have s7 := hb7.size
  clear hb7 F6 X6
  have hsx := HS1.out xs hdx
  have hsy := HS2.out ys hdy
  have CI := fun (Xa : Option Addr) (xs : List Lz) (xc : Nat) (Ya : Option Addr) (ys : List Lz) (yc : Nat) (hdx : datL xs = datL zs) (hdy : datL ys = datL os) W (h1 : Slz W W.heap.size Xa xs) (h2 : Slz W W.heap.size Ya ys) => dbMissing_implB Xa xs xc Ya ys yc W (by have := congrArg List.length hdx; simp [datL] at this; omega) (HS1.out xs hdx).2 (by have := congrArg List.length hdy; simp [datL] at this; omega) (HS2.out ys hdy).2 h1 h2
  have CI2 := CI Xa xs xc Ya ys yc hdx hdy
  rw [hdx, hdy, HDS.out] at CI2
  go_wp2_with fail
  refine (CI2 _ (X7.out.slz (by omega)) (Y7.out.slz (by omega))).mono ?_
  rintro e w8 ⟨Ga, gg, gc, rfl, hgg, hog, hb8⟩
  have F8 := Lib.hid (F7.out.call hb8)
  have X8 := Lib.hid (X7.out.call hb8)
  have Y8 := Lib.hid (Y7.out.call hb8)
  have G8 := Lib.hid (hog)
  have hgu : 0 < ds.length → gg < w8.heap.size := fun hp => (hog hp).2.lt
  clear hog CI2
  have s8 := hb8.size
  clear hb8 F7 X7 Y7
  have CE := fun W (h1 : Sli W W.heap.size Ga ds) (h2 : Sli W W.heap.size Aw ds) => eqIntS_same Ga Aw ds gc wc W (by omega) h1 h2
  go_wp2_with fail
  refine (CE _ G8.out.sli (F8.out.wn.more F8.out.le)).mono ?_
  rintro e w9 ⟨rfl, hb9⟩
  have F9 := Lib.hid (F8.out.call hb9)
  have X9 := Lib.hid (X8.out.call hb9)
  have Y9 := Lib.hid (Y8.out.call hb9)
  have G9 := Lib.hid (G8.out.below hb9)
  have s9 := hb9.size
  clear hb9 F8 X8 Y8 G8
  have EX1 := fun (Y : Option Addr) (ts : List Lz) (tc : Nat) W (hd : datL ts = datL zs) (h1 : Slz W W.heap.size Xa xs) (h2 : Slz W W.heap.size Y ts) => eqLsaS_same Xa Y xs ts xc tc W (hdx.trans hd.symm) hsx.1 hsx.2 h1 h2
  have EX2 := fun (Y : Option Addr) (ts : List Lz) (tc : Nat) W (hd : datL ts = datL os) (h1 : Slz W W.heap.size Ya ys) (h2 : Slz W W.heap.size Y ts) => eqLsaS_same Ya Y ys ts yc tc W (hdy.trans hd.symm) hsy.1 hsy.2 h1 h2
  go_wp2_with fail
  refine (T1 _ F9.out.ex.s1).mono ?_
  rintro e w10 ⟨ts, Ta, tc, rfl, hdt, hzt, hb10⟩
  have F10 := Lib.hid (F9.out.call hb10)
  have X10 := Lib.hid (X9.out.call hb10)
  have Y10 := Lib.hid (Y9.out.call hb10)
  have G10 := Lib.hid (G9.out.below hb10)
  have T10 := Lib.hid (hzt.slz hb10.size)
  clear hzt
  have s10 := hb10.size
  clear hb10 F9 X9 Y9 G9
  have EX1 := EX1 Ta ts tc w10 hdt
  go_wp2_with fail
  refine (EX1 (X10.out.slz (by omega)) T10.out).mono ?_
  rintro e w11 ⟨rfl, hb11⟩
  have F11 := Lib.hid (F10.out.call hb11)
  have X11 := Lib.hid (X10.out.call hb11)
  have Y11 := Lib.hid (Y10.out.call hb11)
  have G11 := Lib.hid (G10.out.below hb11)
  clear EX1 hdt
  have s11 := hb11.size
  clear hb11 F10 X10 Y10 G10 T10
  go_wp2_with fail
  refine (T2 _ F11.out.ex.s2).mono ?_
  rintro e w12 ⟨ts, Ta, tc, rfl, hdt, hzt, hb12⟩
  have F12 := Lib.hid (F11.out.call hb12)
  have X12 := Lib.hid (X11.out.call hb12)
  have Y12 := Lib.hid (Y11.out.call hb12)
  have G12 := Lib.hid (G11.out.below hb12)
  have T12 := Lib.hid (hzt.slz hb12.size)
  clear hzt
  have s12 := hb12.size
  clear hb12 F11 X11 Y11 G11
  have EX2 := EX2 Ta ts tc w12 hdt
  go_wp2_with fail
  refine (EX2 (Y12.out.slz (by omega)) T12.out).mono ?_
  rintro e w13 ⟨rfl, hb13⟩
  have F13 := Lib.hid (F12.out.call hb13)
  have X13 := Lib.hid (X12.out.call hb13)
  have Y13 := Lib.hid (Y12.out.call hb13)
  have G13 := Lib.hid (G12.out.below hb13)
  clear EX2 hdt
  have s13 := hb13.size
  clear hb13 F12 X12 Y12 G12 T12
  have hcx := same_cnt hdx
  have hcy := same_cnt hdy
  have hcl := HCN.out
  have CM1 := fun W (h : ZI w5.heap.size (.slice Xa xs.length xc) xs W) (hl : w5.heap.size ≤ W.heap.size) => markLsaS_marks w5.heap.size w6.heap.size Xa xs xc 1 W hsx.1 hsx.2 (by omega) (by rw [hcx]; omega) h UX.out hl
  have CM2 := fun W (h : ZI w6.heap.size (.slice Ya ys.length yc) ys W) (hl : w6.heap.size ≤ W.heap.size) => markLsaS_marks w6.heap.size w7.heap.size Ya ys yc (1 + (cntZ zs : Int)) W hsy.1 hsy.2 (by omega) (by rw [hcy]; omega) h UY.out hl
  rw [hcx] at CM1
  rw [hcy] at CM2
  clear hcx hcy
  have hgg7 : w6.heap.size ≤ gg := by omega
  have hgg8 : w7.heap.size ≤ gg := by omega
  go_wp2_with fail
  refine (CM1 _ X13.out (by omega)).mono ?_
  rintro e w14 ⟨rfl, -, hk14⟩
  have F14 := Lib.hid (F13.out.keep hk14 (Nat.le_refl _) (by omega))
  have Y14 := Lib.hid (Y13.out.keepL hk14 (Nat.le_refl _))
  have G14 := Lib.hid (G13.out.keepO hk14 hgg7)
  clear CM1 UX
  have s14 := hk14.size
  clear hk14 F13 Y13 G13 X13
  go_wp2_with fail
  refine (CM2 _ Y14.out (by omega)).mono ?_
  rintro e w15 ⟨rfl, -, hk15⟩
  have F15 := Lib.hid (F14.out.keep hk15 (by omega) (by omega))
  have G15 := Lib.hid (G14.out.keepO hk15 hgg8)
  clear CM2 UY
  have s15 := hk15.size
  clear hk15 F14 G14 Y14
  have hkp : ¬ (1 + (cntZ zs : Int) + (cntZ os : Int)) < 0 := by omega
  go_wp2_with fail
  refine (CE _ G15.out.sli (F15.out.wn.more F15.out.le)).mono ?_
  rintro e w16 ⟨rfl, hb16⟩
  have F16 := Lib.hid (F15.out.call hb16)
  have G16 := Lib.hid (G15.out.below hb16)
  have s16 := hb16.size
  clear hb16 F15 G15
  have CG := fun W (h : Own1i W Ga gg ds) => markInts_keep w7.heap.size w8.heap.size Ga gg ds gc 1 W (by omega) (by omega) (by omega) h (fun hp => ⟨hgg8, hgu hp⟩)
  have CH := fun W (h : Own1i W Ga gg (markis 1 ds.length)) => heldIntS_any Ga gg ds.length gc 1 W (by omega) (by omega) (by omega) h
  have hq0 : ¬ (1 + (ds.length : Int)) < 0 := by omega
  have hq1 : (1 + (ds.length : Int) != 1 + (ds.length : Int)) = false := by simp
  go_wp2_with fail
  refine (CG _ G16.out).mono ?_
  rintro e w17 ⟨rfl, hog, hk17⟩
  have F17 := Lib.hid (F16.out.keep hk17 (by omega) (by omega))
  have G17 := Lib.hid (hog)
  clear CG hog
  have s17 := hk17.size
  clear hk17 F16 G16
  go_wp2_with fail
  refine (CH _ G17.out).mono ?_
  rintro e w18 ⟨rfl, hww⟩
  subst hww
  go_wp2_with fail
  refine (T1 _ F17.out.ex.s1).mono ?_
  rintro e w18 ⟨xs2, Xb, xd, rfl, hdx2, hzx, hb18⟩
  have F18 := Lib.hid (F17.out.call hb18)
  have G18 := Lib.hid (G17.out.below hb18)
  have X18 := Lib.hid (hzx.slz hb18.size)
  clear hzx
  have s18 := hb18.size
  clear hb18 F17 G17
  go_wp2_with fail
  refine (T2 _ F18.out.ex.s2).mono ?_
  rintro e w19 ⟨ys2, Yb, yd, rfl, hdy2, hzy, hb19⟩
  have F19 := Lib.hid (F18.out.call hb19)
  have G19 := Lib.hid (G18.out.below hb19)
  have X19 := Lib.hid (X18.out.grow hb19)
  have Y19 := Lib.hid (hzy.slz hb19.size)
  clear hzy
  have s19 := hb19.size
  clear hb19 F18 G18 X18
  have CI3 := CI Xb xs2 xd Yb ys2 yd hdx2 hdy2
  rw [hdx2, hdy2, HDS.out] at CI3
  clear CI hdx2 hdy2
  go_wp2_with fail
  refine (CI3 _ X19.out Y19.out).mono ?_
  rintro e w20 ⟨Ha, hg2, hc, rfl, -, hoh, hb20⟩
  have F20 := Lib.hid (F19.out.call hb20)
  have G20 := Lib.hid (G19.out.below hb20)
  have H20 := Lib.hid (hoh)
  clear hoh CI3
  have s20 := hb20.size
  clear hb20 F19 G19 X19 Y19
  have CE3 := fun W (h1 : Sli W W.heap.size Ha ds) (h2 : Sli W W.heap.size Aw ds) => eqIntS_same Ha Aw ds hc wc W (by omega) h1 h2
  clear CE T1 T2
  go_wp2_with fail
  refine (CE3 _ H20.out.sli (F20.out.wn.more F20.out.le)).mono ?_
  rintro e w21 ⟨rfl, hb21⟩
  have F21 := Lib.hid (F20.out.call hb21)
  have G21 := Lib.hid (G20.out.below hb21)
  have s21 := hb21.size
  clear hb21 F20 G20 H20
  go_wp2_with fail
  refine (CH _ G21.out).mono ?_
  rintro e w22 ⟨rfl, hww⟩
  subst hww
  go_wp2_with fail
  go_ret
  exact ⟨rfl, F21.out.bel⟩

end Go.Proofs.Ytimebipgiicmiab
