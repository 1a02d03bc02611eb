/-
  The walk of FnExactDbGraph over this seat.
-/
import Derived.Test.YtimebipgiicmiacBq
namespace Go.Proofs.Ytimebipgiicmiac
open Go.RowKit Go.Maps

set_option maxRecDepth 100000 in
set_option maxHeartbeats 3200000 in
theorem exactDbGraph_walk (n : Int) (A : Option Addr) (zs : List Lz) (c : Nat) (w : World) (hmax : zs.length ≤ maxLen) (hmes : ∀ z ∈ zs, z.es.length ≤ maxLen) (hS : Slz w w.heap.size A zs) :
   Calls Try.prog 5 #[.int .i64 n, .slice A zs.length c] w fun e w' => e = .returned (.bool true) ∧ Below w.heap.size w w' := by
  have E0 := Lib.hid (show Q2 w A zs none [] w from ⟨hS, fun k x h => by simp at h, Nat.le_refl _⟩)
  have CZ1 := fun W (h : Slz W W.heap.size A zs) => szLsaS_any A zs c 1048576 W hmax hmes (by omega) h
  clear hS
  go_enter Try.func5, Try.ntmps5
  go_wp2_with fail
  refine (CZ1 _ E0.out.s1).mono ?_
  clear CZ1
  rintro e w1 ⟨r, rfl, hr, hb1⟩
  have E1 := Lib.hid (E0.out.b hb1 (Nat.le_refl _))
  have Bl1 := Lib.hid hb1
  clear hb1 E0
  rcases hr with rfl | ⟨h0, hrl, hm, hes, hcn⟩
  · go_wp2_with fail
    go_ret
    exact ⟨rfl, Bl1.out⟩
  have h0' : ¬ r < 0 := by omega
  have hcnt : cntZ zs ≤ 4194304 := by omega
  have HS1 := Lib.hid (fun (xs : List Lz) (hd : datL xs = datL zs) => same_short2 hd hm hes)
  have hzl : zs.length ≤ 2000000 := by omega
  have T1 := fun W (h : Slz W W.heap.size A zs) => toLsaS_any A zs c W hzl (fun z hz => by have := hes z hz; omega) h
  obtain ⟨m, rs, ok, hrs, CI, CS⟩ := dbGraph_both n zs (by omega) (fun z hz => by have := hes z hz; omega)
  have hrs2 : rs.length ≤ 2000000 := by omega
  have hneq : (ok != ok) = false := by cases ok <;> rfl
  clear hrl hcn
  have F1 := Lib.hid (show EW w (Q2 w A zs none []) w.heap.size (fun _ => True) w1 from ⟨E1.out, trivial, Nat.le_refl _, Bl1.out.size, Bl1.out, fun hb h => h.b hb (Nat.le_refl _), fun _ _ => trivial⟩)
  clear E1 Bl1
  go_wp2_with fail
  refine (T1 _ F1.out.ex.s1).mono ?_
  rintro e w2 ⟨xs, Xa, xc, rfl, hdx, hzx, hb2⟩
  have F2 := Lib.hid (F1.out.call hb2)
  have X2 := Lib.hid (hzx.slz hb2.size)
  clear hzx hb2 F1
  have CS := CS xs Xa xc w2 hdx X2.out
  go_wp2_with fail
  refine CS.mono ?_
  clear CS
  rintro e w3 ⟨A3, g3, c3, rfl, hg3, ho3, hb3⟩
  have F3 := Lib.hid (F2.out.call hb3)
  have hl3 : 0 < rs.length → g3 < w3.heap.size + 1 := fun hp => by have := (ho3 hp).2.lt; omega
  have hb3a : Below w3.heap.size w3 (w3.alloc (.cells #[.int .i64 m, .slice A3 rs.length c3] 33)) := by (repeat (first | exact Below.refl _ _ | (refine Below.alloc ?_ (by first | exact Nat.le_refl _ | omega | (simp; done) | (simp; omega)) _) | (refine Below.setCell ?_ (by first | exact Nat.le_refl _ | omega | (simp; done) | (simp; omega)) _) | exact Below.drew ‹_›))
  have M3 := F3.out.call hb3a
  have G3 := Lib.hid (show EW w (Q2 w A zs none []) (w3.heap.size + 1) (PG (w3.heap.size + 1) w3.heap.size A3 g3 c3 m rs) (w3.alloc (.cells #[.int .i64 m, .slice A3 rs.length c3] 33)) from ⟨M3.ex, ⟨Box.new w3 _ _, ho3.alloc _, Nat.lt_succ_self _, hl3⟩, by have := F3.out.bel.size; omega, by simp, M3.bel, fun hb h => h.b hb (by have := F3.out.bel.size; omega), fun hb h => h.b hb⟩)
  clear hb3 hb3a M3 F3 F2 X2 hdx ho3 hl3 hg3
  go_wp2_with fail
  -- the program's copy and answer
  refine (T1 _ G3.out.ex.s1).mono ?_
  rintro e w4 ⟨xs, Xa, xc, rfl, hdx, hzx, hb4⟩
  have F4 := Lib.hid (G3.out.call hb4)
  have X4 := Lib.hid hzx
  have UX := Lib.hid hzx.up
  have s4 : w3.heap.size + 1 ≤ w4.heap.size := by have := hb4.size; simpa using this
  simp only [World.size_alloc] at hzx
  have Z4 := Lib.hid hzx
  clear hzx hb4 G3 X4
  have hsx := HS1.out xs hdx
  have hcx := same_cnt hdx
  have CI1 := CI xs Xa xc w4 hdx (Z4.out.slz s4)
  go_wp2_with fail
  refine CI1.mono ?_
  clear CI1
  rintro e w5 ⟨A5, g5, c5, rfl, hg5, ho5, hb5⟩
  have N5 := Lib.hid (F4.out.call hb5)
  have hb5a : Below w5.heap.size w5 (w5.alloc (.cells #[.int .i64 m, .slice A5 rs.length c5] 33)) := by (repeat (first | exact Below.refl _ _ | (refine Below.alloc ?_ (by first | exact Nat.le_refl _ | omega | (simp; done) | (simp; omega)) _) | (refine Below.setCell ?_ (by first | exact Nat.le_refl _ | omega | (simp; done) | (simp; omega)) _) | exact Below.drew ‹_›))
  have F5 := Lib.hid (N5.out.call hb5a)
  have Z5 := Lib.hid ((Z4.out.call hb5).call hb5a)
  have s5 : w4.heap.size ≤ w5.heap.size := hb5.size
  have hl5 : 0 < rs.length → g5 < w5.heap.size := fun hp => (ho5 hp).2.lt
  have HL5 := Lib.hid hl5
  have Y5 := Lib.hid (show LG w5.heap.size g5 A5 rs.length c5 m rs (w5.alloc (.cells #[.int .i64 m, .slice A5 rs.length c5] 33)) from ⟨Box.new w5 _ _, ho5.alloc _⟩)
  have CE := fun (A9 : Option Addr) (c9 : Nat) W (h1 : Sl W W.heap.size A9 rs) (h2 : Sl W W.heap.size A3 rs) => eqGraph_same m A9 A3 rs c9 c3 W hrs2 h1 h2
  clear hb5 hb5a F4 Z4 ho5 hl5
  obtain ⟨zt, t0, t1, -, -⟩ := N5.out.wn.box.two
  go_wp2_with fail
  refine (CE A5 c5 _ Y5.out.own.sl F5.out.wn.own.sl).mono ?_
  rintro e w6 ⟨rfl, hb6⟩
  have F6 := Lib.hid (F5.out.call hb6)
  have Z6 := Lib.hid (Z5.out.call hb6)
  have Y6 := Lib.hid (Y5.out.call hb6)
  have s6 : w5.heap.size < w6.heap.size := Y6.out.box.lt
  clear hb6 F5 Z5 Y5 N5 zt t0 t1
  go_wp2_with fail
  -- the argument is as it was
  refine (T1 _ F6.out.ex.s1).mono ?_
  rintro e w7 ⟨ts, Ta, tc, rfl, hdt, hzt, hb7⟩
  have F7 := Lib.hid (F6.out.call hb7)
  have Z7 := Lib.hid (Z6.out.call hb7)
  have Y7 := Lib.hid (Y6.out.call hb7)
  have T7 := Lib.hid (hzt.slz hb7.size)
  have s7 : w6.heap.size ≤ w7.heap.size := hb7.size
  have EX := eqLsaS_same Xa Ta xs ts xc tc w7 (hdx.trans hdt.symm) hsx.1 hsx.2 (Z7.out.slz (by omega)) T7.out
  clear hb7 hzt F6 Z6 Y6 hdt
  go_wp2_with fail
  refine EX.mono ?_
  clear EX
  rintro e w8 ⟨rfl, hb8⟩
  have F8 := Lib.hid (F7.out.call hb8)
  have Z8 := Lib.hid (Z7.out.call hb8)
  have Y8 := Lib.hid (Y7.out.call hb8)
  have s8 : w7.heap.size ≤ w8.heap.size := hb8.size
  clear hb8 F7 Z7 Y7 T7
  have CM := markLsaS_marks (w3.heap.size + 1) w4.heap.size Xa xs xc 1 w8 hsx.1 hsx.2 (by omega) (by rw [hcx]; omega) Z8.out UX.out (by omega)
  rw [hcx] at CM
  have hkp : ¬ (1 + (cntZ zs : Int)) < 0 := by omega
  go_wp2_with fail
  -- marks into the argument
  refine CM.mono ?_
  clear CM
  rintro e w9 ⟨rfl, -, hk9⟩
  have F9 := Lib.hid (F8.out.keep hk9 (Nat.le_refl _) (by omega))
  have Y9 := Lib.hid (Y8.out.kx hk9.kx (fun i hi => ⟨by omega, fun hp => by omega⟩))
  have s9 : w8.heap.size ≤ w9.heap.size := hk9.size
  clear hk9 F8 Y8 Z8 UX hcx hsx hdx
  obtain ⟨zt, t0, t1, -, -⟩ := F9.out.wn.box.two
  obtain ⟨zy, y0, y1, -, -⟩ := Y9.out.box.two
  go_wp2_with fail
  refine (CE A5 c5 _ Y9.out.own.sl F9.out.wn.own.sl).mono ?_
  rintro e w10 ⟨rfl, hb10⟩
  have F10 := Lib.hid (F9.out.call hb10)
  have Y10 := Lib.hid (Y9.out.call hb10)
  have s10 : w9.heap.size ≤ w10.heap.size := hb10.size
  clear hb10 F9 Y9 zt t0 t1 zy y0 y1
  obtain ⟨g', O10, hq⟩ := one_fresh Y10.out.own
  have hgg : w4.heap.size ≤ g' ∧ g' ≠ w5.heap.size := by
    rcases hq with ⟨hp, rfl⟩ | rfl
    · exact ⟨hg5, by have := HL5.out hp; omega⟩
    · exact ⟨by omega, by omega⟩
  have OO := Lib.hid O10
  clear hq O10
  obtain ⟨zy, y0, y1, -, -⟩ := Y10.out.box.two
  go_wp2_with fail
  -- marks into the answer
  refine (markGraph_any m A5 g' rs c5 1 _ hrs2 (by omega) (by omega) OO.out).mono ?_
  rintro e w11 ⟨rfl, hm11, hg11⟩
  have hk11 : Kx (fun i => i = g') w10 w11 := (Kx.refl _ w10).grown hg11 (fun _ => rfl)
  have F11 := Lib.hid (F10.out.b (hk11.below (B := w3.heap.size + 1) (by omega) (fun i e => by omega)))
  have Y11 := Lib.hid (show LG w5.heap.size g' A5 rs.length c5 m (marks 1 rs.length) w11 from ⟨hk11.box Y10.out.box (fun e => hgg.2 e.symm), hm11⟩)
  clear hk11 hg11 hm11 F10 Y10 OO zy y0 y1
  obtain ⟨zy, y0, y1, -, -⟩ := Y11.out.box.two
  go_wp2_with fail
  refine (heldGraph_any m A5 g' rs.length c5 1 _ hrs2 (by omega) (by omega) Y11.out.own).mono ?_
  rintro e w12 ⟨rfl, hb12⟩
  have F12 := Lib.hid (F11.out.call hb12)
  have Y12 := Lib.hid (Y11.out.call hb12)
  clear hb12 F11 Y11 zy y0 y1
  go_wp2_with fail
  -- a second call
  refine (T1 _ F12.out.ex.s1).mono ?_
  clear T1
  rintro e w13 ⟨us, Ua, uc, rfl, hdu, hzu, hb13⟩
  have F13 := Lib.hid (F12.out.call hb13)
  have Y13 := Lib.hid (Y12.out.call hb13)
  have CI2 := CI us Ua uc w13 hdu (hzu.slz hb13.size)
  clear hb13 hzu F12 Y12 CI hdu
  go_wp2_with fail
  refine CI2.mono ?_
  clear CI2
  rintro e w14 ⟨A14, g14, c14, rfl, hg14, ho14, hb14⟩
  have hb14a : Below w14.heap.size w14 (w14.alloc (.cells #[.int .i64 m, .slice A14 rs.length c14] 33)) := by (repeat (first | exact Below.refl _ _ | (refine Below.alloc ?_ (by first | exact Nat.le_refl _ | omega | (simp; done) | (simp; omega)) _) | (refine Below.setCell ?_ (by first | exact Nat.le_refl _ | omega | (simp; done) | (simp; omega)) _) | exact Below.drew ‹_›))
  have N14 := Lib.hid (F13.out.call hb14)
  have F14 := Lib.hid (N14.out.call hb14a)
  have Y14 := Lib.hid ((Y13.out.call hb14).call hb14a)
  have O14 := Lib.hid (show Own1 (w14.alloc (.cells #[.int .i64 m, .slice A14 rs.length c14] 33)) A14 g14 rs from ho14.alloc _)
  clear hb14 hb14a F13 Y13 ho14 hg14
  obtain ⟨zt, t0, t1, -, -⟩ := N14.out.wn.box.two
  go_wp2_with fail
  refine (CE A14 c14 _ O14.out.sl F14.out.wn.own.sl).mono ?_
  clear CE
  rintro e w15 ⟨rfl, hb15⟩
  have F15 := Lib.hid (F14.out.call hb15)
  have Y15 := Lib.hid (Y14.out.call hb15)
  clear hb15 F14 Y14 O14 N14 zt t0 t1
  obtain ⟨zy, y0, y1, -, -⟩ := Y15.out.box.two
  go_wp2_with fail
  refine (heldGraph_any m A5 g' rs.length c5 1 _ hrs2 (by omega) (by omega) Y15.out.own).mono ?_
  rintro e w16 ⟨rfl, hb16⟩
  have F16 := Lib.hid (F15.out.call hb16)
  clear hb16 zy y0 y1
  go_wp2_with fail
  go_ret
  exact ⟨rfl, F16.out.bel⟩
end Go.Proofs.Ytimebipgiicmiac
