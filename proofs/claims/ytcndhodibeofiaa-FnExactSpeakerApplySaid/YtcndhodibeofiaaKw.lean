/-
  The walks of the exact laws of candidates over this seat.
-/
import Derived.Test.YtcndhodibeofiaaKx
import Derived.Test.YtcndhodibeofiaaKi
namespace Go.Proofs.Ytcndhodibeofiaa
open Go.RowKit Go.Maps

theorem slk_grow {w w' : World} {A : Option Addr} {xs : List Lk} (h : Sl w w.heap.size A xs) (hb : Below w.heap.size w w') : Sl w' w'.heap.size A xs := (h.below hb).more hb.size
theorem eqCandS_same (A1 A2 : Option Addr) (xs : List Lk) (c1 c2 : Nat) (w : World) (hm : xs.length ≤ 2000000) (h1 : Sl w w.heap.size A1 xs) (h2 : Sl w w.heap.size A2 xs) :
   Calls Try.prog 17 #[.slice A1 xs.length c1, .slice A2 xs.length c2] w fun e w' => e = .returned (.bool true) ∧ Below w.heap.size w w' := by
  have h := eqCandS_any A1 A2 xs xs c1 c2 w hm h1 h2
  rwa [(eqLksB_iff xs xs).2 rfl] at h
theorem Ownk.farIf {w w' : World} {A : Option Addr} {g g' : Nat} {ls : List Lk} (h : Ownk w A g ls) (hg : w.grownBy w' (some g')) (hne : 0 < ls.length → g ≠ g') : Ownk w' A g ls := fun hp => by
  obtain ⟨e, cs, hh, hc⟩ := h hp
  exact ⟨e, cs, (hg.block g (heap_lt hh) (fun e => hne hp (Option.some.inj e))).trans hh, hc⟩

set_option maxHeartbeats 1600000 in
theorem exactCandValid_walk (A : Option Addr) (xs : List Lk) (c : Nat) (w : World) (hmax : xs.length ≤ maxLen) (hS : Sl w w.heap.size A xs) :
   Calls Try.prog 3 #[.slice A xs.length c] w fun e w' => e = .returned (.bool true) ∧ Below w.heap.size w w' := by
  have HS := Lib.hid hS
  clear hS
  by_cases hl : xs.length ≤ 1048576
  · have CZ := fun W => szCand_ok A xs.length c W hl
    have CX := fun W (h : Sl W W.heap.size A xs) => toCandS_any A xs c W (by omega) h
    have CI := fun B cb W (h : Sl W W.heap.size B xs) => candValid_impl B xs cb W (by omega) h
    have CS := fun B cb W (h : Sl W W.heap.size B xs) => candValid_spec B xs cb W (by omega) h
    have CQ := fun A1 A2 c1 c2 W (h1 : Sl W W.heap.size A1 xs) (h2 : Sl W W.heap.size A2 xs) => eqCandS_same A1 A2 xs c1 c2 W (by omega) h1 h2
    generalize cdB xs = ok at *
    have hli : ¬ (1048576 : Int) - (xs.length : Int) < 0 := by omega
    go_enter Try.func3, Try.ntmps3
    go_wp2_with fail
    refine (CZ _).mono ?_
    rintro e w1 ⟨rfl, rfl⟩
    clear CZ
    go_wp2_with fail
    refine (CX _ HS.out).mono ?_
    rintro e w2 ⟨g2, rfl, -, ha2, hb2⟩
    have L2 := Lib.hid hb2
    have X2 := Lib.hid (ha2.sl ha2.lt)
    clear ha2 hb2
    go_wp2_with fail
    refine (CS _ _ _ X2.out).mono ?_
    rintro e w3 ⟨rfl, hb3⟩
    have L3 := Lib.hid (L2.out.trans (hb3.mono L2.out.size))
    clear hb3 L2 X2
    go_wp2_with fail
    refine (CX _ (slk_grow HS.out L3.out)).mono ?_
    rintro e w4 ⟨g4, rfl, -, ha4, hb4⟩
    have L4 := Lib.hid (L3.out.trans (hb4.mono L3.out.size))
    have X4 := Lib.hid (ha4.sl ha4.lt)
    clear ha4 hb4 L3
    go_wp2_with fail
    refine (CI _ _ _ X4.out).mono ?_
    rintro e w6 ⟨rfl, hb6⟩
    have L6 := Lib.hid (L4.out.trans (hb6.mono L4.out.size))
    have X6 := Lib.hid (slk_grow X4.out hb6)
    clear hb6 L4 X4
    have hbb : (ok != ok) = false := by cases ok <;> rfl
    go_wp2_with fail
    refine (CX _ (slk_grow HS.out L6.out)).mono ?_
    rintro e w9 ⟨g9, rfl, -, ha9, hb9⟩
    have L9 := Lib.hid (L6.out.trans (hb9.mono L6.out.size))
    have X9 := Lib.hid (slk_grow X6.out hb9)
    have Y9 := Lib.hid (ha9.sl ha9.lt)
    clear ha9 hb9 L6 X6
    go_wp2_with fail
    refine (CQ _ _ _ _ _ X9.out Y9.out).mono ?_
    rintro e wa ⟨rfl, hba⟩
    have La := Lib.hid (L9.out.trans (hba.mono L9.out.size))
    clear hba
    go_wp2_with fail
    go_ret
    exact ⟨rfl, La.out⟩
  · have CZ := fun W => szCand_no A xs.length c W (by omega) hmax
    go_enter Try.func3, Try.ntmps3
    go_wp2_with fail
    refine (CZ _).mono ?_
    rintro e w1 ⟨rfl, rfl⟩
    go_wp2_with fail
    go_ret
    exact ⟨rfl, Below.refl _ _⟩

set_option maxHeartbeats 1600000 in
theorem exactElect_walk (A : Option Addr) (xs : List Lk) (c : Nat) (w : World) (hmax : xs.length ≤ maxLen) (hS : Sl w w.heap.size A xs) :
   Calls Try.prog 4 #[.slice A xs.length c] w fun e w' => e = .returned (.bool true) ∧ Below w.heap.size w w' := by
  have HS := Lib.hid hS
  clear hS
  by_cases hl : xs.length ≤ 1048576
  · have CZ := fun W => szCand_ok A xs.length c W hl
    have CX := fun W (h : Sl W W.heap.size A xs) => toCandS_any A xs c W (by omega) h
    have CI := fun B cb W (h : Sl W W.heap.size B xs) => elect_impl B xs cb W (by omega) h
    have CS := fun B cb W (h : Sl W W.heap.size B xs) => elect_spec B xs cb W (by omega) h
    have CQ := fun A1 A2 c1 c2 W (h1 : Sl W W.heap.size A1 xs) (h2 : Sl W W.heap.size A2 xs) => eqCandS_same A1 A2 xs c1 c2 W (by omega) h1 h2
    generalize elA xs = r at *
    obtain ⟨u, v⟩ := r
    have hli : ¬ (1048576 : Int) - (xs.length : Int) < 0 := by omega
    go_enter Try.func4, Try.ntmps4
    go_wp2_with fail
    refine (CZ _).mono ?_
    rintro e w1 ⟨rfl, rfl⟩
    clear CZ
    go_wp2_with fail
    refine (CX _ HS.out).mono ?_
    rintro e w2 ⟨g2, rfl, -, ha2, hb2⟩
    have L2 := Lib.hid hb2
    have X2 := Lib.hid (ha2.sl ha2.lt)
    clear ha2 hb2
    go_wp2_with fail
    refine (CS _ _ _ X2.out).mono ?_
    rintro e w3 ⟨rfl, hb3⟩
    have L3 := Lib.hid (L2.out.trans (hb3.mono L2.out.size))
    clear hb3 L2 X2
    go_wp2_with fail
    refine (CX _ (slk_grow HS.out L3.out)).mono ?_
    rintro e w4 ⟨g4, rfl, -, ha4, hb4⟩
    have L4 := Lib.hid (L3.out.trans (hb4.mono L3.out.size))
    have X4 := Lib.hid (ha4.sl ha4.lt)
    clear ha4 hb4 L3
    go_wp2_with fail
    refine (CI _ _ _ X4.out).mono ?_
    rintro e w6 ⟨rfl, hb6⟩
    have L6 := Lib.hid (L4.out.trans (hb6.mono L4.out.size))
    have X6 := Lib.hid (slk_grow X4.out hb6)
    clear hb6 L4 X4
    go_wp2_with fail
    refine (CX _ (slk_grow HS.out L6.out)).mono ?_
    rintro e w9 ⟨g9, rfl, -, ha9, hb9⟩
    have L9 := Lib.hid (L6.out.trans (hb9.mono L6.out.size))
    have X9 := Lib.hid (slk_grow X6.out hb9)
    have Y9 := Lib.hid (ha9.sl ha9.lt)
    clear ha9 hb9 L6 X6
    go_wp2_with fail
    refine (CQ _ _ _ _ _ X9.out Y9.out).mono ?_
    rintro e wa ⟨rfl, hba⟩
    have La := Lib.hid (L9.out.trans (hba.mono L9.out.size))
    clear hba
    go_wp2_with fail
    go_ret
    exact ⟨rfl, La.out⟩
  · have CZ := fun W => szCand_no A xs.length c W (by omega) hmax
    go_enter Try.func4, Try.ntmps4
    go_wp2_with fail
    refine (CZ _).mono ?_
    rintro e w1 ⟨rfl, rfl⟩
    go_wp2_with fail
    go_ret
    exact ⟨rfl, Below.refl _ _⟩

theorem apA_len (xs : List Lk) : (apA xs).length ≤ xs.length := by
  unfold apA apL
  split <;> simp
theorem Ownk.slB {w : World} {A : Option Addr} {g : Nat} {ls : List Lk} (h : Ownk w A g ls) : Sl w w.heap.size A ls := h.sl

set_option maxHeartbeats 3200000 in
theorem exactApply_walk (A : Option Addr) (xs : List Lk) (c : Nat) (w : World) (hmax : xs.length ≤ maxLen) (hS : Sl w w.heap.size A xs) :
   Calls Try.prog 5 #[.slice A xs.length c] w fun e w' => e = .returned (.bool true) ∧ Below w.heap.size w w' := by
  have HS := Lib.hid hS
  clear hS
  by_cases hl : xs.length ≤ 1048576
  · have CZ := fun W => szCand_ok A xs.length c W hl
    have CX := fun W (h : Sl W W.heap.size A xs) => toCandS_any A xs c W (by omega) h
    have CI := fun B cb W (h : Sl W W.heap.size B xs) => apply_impl B xs cb W (by omega) h
    have CS := fun B cb W (h : Sl W W.heap.size B xs) => apply_spec B xs cb W (by omega) h
    have CQ := fun A1 A2 c1 c2 W (h1 : Sl W W.heap.size A1 xs) (h2 : Sl W W.heap.size A2 xs) => eqCandS_same A1 A2 xs c1 c2 W (by omega) h1 h2
    have hal := apA_len xs
    generalize apA xs = ys at *
    have CP := fun A1 A2 c1 c2 W (h1 : Sl W W.heap.size A1 ys) (h2 : Sl W W.heap.size A2 ys) => eqCandS_same A1 A2 ys c1 c2 W (by omega) h1 h2
    have CM := fun B g cb W (h : Ownk W B g xs) => markCandS_any B g xs cb 1 W (by omega) (by omega) (by omega) h
    have CN := fun B g cb W (h : Ownk W B g ys) => markCandS_any B g ys cb 1 W (by omega) (by omega) (by omega) h
    have CH := fun B g cb W (h : Ownk W B g (marks 1 ys.length)) => heldCandS_any B g ys.length cb 1 W (by omega) (by omega) (by omega) h
    have hli : ¬ (1048576 : Int) - (xs.length : Int) < 0 := by omega
    have hx0 : ¬ (1 : Int) + 3 * (xs.length : Int) < 0 := by omega
    have hy0 : ¬ (1 : Int) + 3 * (ys.length : Int) < 0 := by omega
    have hyy : ((1 : Int) + 3 * (ys.length : Int) != (1 : Int) + 3 * (ys.length : Int)) = false := by simp
    go_enter Try.func5, Try.ntmps5
    go_wp2_with fail
    refine (CZ _).mono ?_
    rintro e w1 ⟨rfl, rfl⟩
    clear CZ
    go_wp2_with fail
    refine (CX _ HS.out).mono ?_
    rintro e w2 ⟨g2, rfl, -, ha2, hb2⟩
    have L2 := Lib.hid hb2
    have X2 := Lib.hid (ha2.sl ha2.lt)
    clear ha2 hb2
    go_wp2_with fail
    refine (CS _ _ _ X2.out).mono ?_
    rintro e w3 ⟨A3, g3, c3, rfl, -, ho3, hb3⟩
    have L3 := Lib.hid (L2.out.trans (hb3.mono L2.out.size))
    have W3 := Lib.hid ho3
    clear hb3 ho3 L2 X2
    go_wp2_with fail
    refine (CX _ (slk_grow HS.out L3.out)).mono ?_
    rintro e w4 ⟨g4, rfl, hg4, ha4, hb4⟩
    have L4 := Lib.hid (L3.out.trans (hb4.mono L3.out.size))
    have HX := Lib.hid (show w.heap.size ≤ g4 from Nat.le_trans L3.out.size hg4)
    have N4 := Lib.hid (show 0 < ys.length → g3 ≠ g4 from fun h => by have := (W3.out h).2.lt; omega)
    have W4 := Lib.hid (W3.out.below hb4)
    have X4 := Lib.hid (show Ownk w4 (some ⟨g4, 0, none⟩) g4 xs from fun _ => ⟨rfl, ha4⟩)
    have hg4' := ha4.lt
    clear ha4 hb4 L3 W3 hg4
    go_wp2_with fail
    refine (CI _ _ _ X4.out.slB).mono ?_
    rintro e w5 ⟨A5, g5, c5, rfl, hg5, ho5, hb5⟩
    have L5 := Lib.hid (L4.out.trans (hb5.mono L4.out.size))
    have N5 := Lib.hid (show 0 < ys.length → g3 ≠ g5 from fun h => by have := (W4.out h).2.lt; omega)
    have M5 := Lib.hid (show g5 ≠ g4 by omega)
    have H5 := Lib.hid (show w.heap.size ≤ g5 from Nat.le_trans L4.out.size hg5)
    have W5 := Lib.hid (W4.out.below hb5)
    have X5 := Lib.hid (X4.out.below hb5)
    have G5 := Lib.hid ho5
    clear hb5 ho5 L4 W4 X4 hg5 hg4'
    go_wp2_with fail
    refine (CP _ _ _ _ _ G5.out.slB W5.out.slB).mono ?_
    rintro e w6 ⟨rfl, hb6⟩
    have L6 := Lib.hid (L5.out.trans (hb6.mono L5.out.size))
    have W6 := Lib.hid (W5.out.below hb6)
    have X6 := Lib.hid (X5.out.below hb6)
    have G6 := Lib.hid (G5.out.below hb6)
    clear hb6 L5 W5 X5 G5
    go_wp2_with fail
    refine (CX _ (slk_grow HS.out L6.out)).mono ?_
    rintro e w7 ⟨g7, rfl, -, ha7, hb7⟩
    have L7 := Lib.hid (L6.out.trans (hb7.mono L6.out.size))
    have W7 := Lib.hid (W6.out.below hb7)
    have X7 := Lib.hid (X6.out.below hb7)
    have G7 := Lib.hid (G6.out.below hb7)
    have Y7 := Lib.hid (ha7.sl ha7.lt)
    clear ha7 hb7 L6 W6 X6 G6
    go_wp2_with fail
    refine (CQ _ _ _ _ _ X7.out.slB Y7.out).mono ?_
    rintro e w8 ⟨rfl, hb8⟩
    have L8 := Lib.hid (L7.out.trans (hb8.mono L7.out.size))
    have W8 := Lib.hid (W7.out.below hb8)
    have X8 := Lib.hid (X7.out.below hb8)
    have G8 := Lib.hid (G7.out.below hb8)
    clear hb8 L7 W7 X7 G7 Y7
    go_wp2_with fail
    refine (CM _ _ _ _ X8.out).mono ?_
    rintro e w9 ⟨rfl, -, hg9⟩
    have L9 := Lib.hid (L8.out.grown hg9 L8.out.size (fun k e => by cases e; exact HX.out))
    have W9 := Lib.hid (W8.out.farIf hg9 N4.out)
    have G9 := Lib.hid (G8.out.grownFar hg9 M5.out)
    clear hg9 L8 W8 X8 G8 CM
    go_wp2_with fail
    refine (CP _ _ _ _ _ G9.out.slB W9.out.slB).mono ?_
    rintro e wa ⟨rfl, hba⟩
    have La := Lib.hid (L9.out.trans (hba.mono L9.out.size))
    have Wa := Lib.hid (W9.out.below hba)
    have Ga := Lib.hid (G9.out.below hba)
    clear hba L9 W9 G9
    go_wp2_with fail
    refine (CN _ _ _ _ Ga.out).mono ?_
    rintro e wb ⟨rfl, hob, hgb⟩
    have Lb := Lib.hid (La.out.grown hgb La.out.size (fun k e => by cases e; exact H5.out))
    have Wb := Lib.hid (Wa.out.farIf hgb N5.out)
    have Gb := Lib.hid hob
    clear hob hgb La Wa Ga CN
    go_wp2_with fail
    refine (CH _ _ _ _ Gb.out).mono ?_
    rintro e wc ⟨rfl, rfl⟩
    go_wp2_with fail
    refine (CX _ (slk_grow HS.out Lb.out)).mono ?_
    rintro e wd ⟨gd, rfl, -, had, hbd⟩
    have Ld := Lib.hid (Lb.out.trans (hbd.mono Lb.out.size))
    have Wd := Lib.hid (Wb.out.below hbd)
    have Gd := Lib.hid (Gb.out.below hbd)
    have Yd := Lib.hid (had.sl had.lt)
    clear had hbd Lb Wb Gb
    go_wp2_with fail
    refine (CI _ _ _ Yd.out).mono ?_
    rintro e we ⟨Ae, ge, ce, rfl, -, hoe, hbe⟩
    have Le := Lib.hid (Ld.out.trans (hbe.mono Ld.out.size))
    have We := Lib.hid (Wd.out.below hbe)
    have Ge := Lib.hid (Gd.out.below hbe)
    have Ye := Lib.hid hoe
    clear hoe hbe Ld Wd Gd Yd
    go_wp2_with fail
    refine (CP _ _ _ _ _ Ye.out.slB We.out.slB).mono ?_
    rintro e wf ⟨rfl, hbf⟩
    have Lf := Lib.hid (Le.out.trans (hbf.mono Le.out.size))
    have Gf := Lib.hid (Ge.out.below hbf)
    clear hbf Le We Ge Ye
    go_wp2_with fail
    refine (CH _ _ _ _ Gf.out).mono ?_
    rintro e wg ⟨rfl, rfl⟩
    go_wp2_with fail
    go_ret
    exact ⟨rfl, Lf.out⟩
  · have CZ := fun W => szCand_no A xs.length c W (by omega) hmax
    go_enter Try.func5, Try.ntmps5
    go_wp2_with fail
    refine (CZ _).mono ?_
    rintro e w1 ⟨rfl, rfl⟩
    go_wp2_with fail
    go_ret
    exact ⟨rfl, Below.refl _ _⟩
end Go.Proofs.Ytcndhodibeofiaa
