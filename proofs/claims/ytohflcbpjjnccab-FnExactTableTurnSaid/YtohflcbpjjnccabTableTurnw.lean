/-
  The walk of FnExactTableTurn over this seat: whatever table and numbers come in, the law returns true and changes nothing that was there.
-/
import Derived.Test.YtohflcbpjjnccabTfn
namespace Go.Proofs.Ytohflcbpjjnccab
open Go.RowKit Go.Maps

set_option maxRecDepth 100000 in
set_option maxHeartbeats 3200000 in
theorem exactTableTurn_walk (A : Option Addr) (rs : List Lk) (c : Nat) (B : Option Addr) (hs : List Int) (d : Nat) (x y : Int) (w : World) (hmax : rs.length ≤ maxLen) (hmaxh : hs.length ≤ maxLen) (h1 : Sl w w.heap.size A rs) (h2 : Sli w w.heap.size B hs) :
   Calls Try.prog 8 #[tbV A rs.length c B hs.length d, .int .i64 x, .int .i64 y] w fun e w' => e = .returned (.bool true) ∧ Below w.heap.size w w' := by
  have B0 : Below w.heap.size w (w.alloc (.cells #[.slice A rs.length c, .slice B hs.length d] 25)) := by (repeat (first | exact Below.refl _ _ | (refine Below.alloc ?_ (by first | exact Nat.le_refl _ | omega | (simp; done) | (simp; omega)) _) | (refine Below.setCell ?_ (by first | exact Nat.le_refl _ | omega | (simp; done) | (simp; omega)) _) | exact Below.drew ‹_›))
  have HB := Lib.hid B0
  have HI := Lib.hid (Box.new w 25 #[.slice A rs.length c, .slice B hs.length d])
  have H1 := Lib.hid h1
  have H2 := Lib.hid h2
  clear h1 h2 B0
  go_enter Try.func8, Try.ntmps8
  go_wp2_with fail
  refine (szTable_any A rs.length c B hs.length d _ hmax hmaxh).mono ?_
  rintro e w1 ⟨r, rfl, hr | ⟨h0, hn, hm⟩, hb1⟩
  · have B1 := Lib.hid (HB.out.trans (hb1.mono HB.out.size))
    clear hb1
    go_wp2_with fail
    go_ret
    exact ⟨rfl, B1.out⟩
  · have B1 := Lib.hid (HB.out.trans (hb1.mono HB.out.size))
    have I1 := Lib.hid (HI.out.below hb1 HI.out.lt)
    obtain ⟨z1, e10, e11, -, -⟩ := I1.out.two
    have hneg : ¬ r < 0 := by omega
    have CT := fun W (hb : Below w.heap.size w W) => toTable_any A rs c B hs d W (by omega) (by omega) ((H1.out.below hb).more hb.size) ((H2.out.below hb).more hb.size)
    have CS := fun g c2 g' d2 W (h : Sl W W.heap.size (some ⟨g, 0, none⟩) rs) (h' : Sli W W.heap.size (some ⟨g', 0, none⟩) hs) => tableTurn_spec g 0 rs c2 g' 0 hs d2 x y W hn hm h h'
    have CI := fun g c2 g' d2 W (h : Sl W W.heap.size (some ⟨g, 0, none⟩) rs) (h' : Sli W W.heap.size (some ⟨g', 0, none⟩) hs) => tableTurn_imp g 0 rs c2 g' 0 hs d2 x y W hn hm h h'
    have hwl : (trnR rs hs x y).length ≤ 1048577 := Nat.le_trans trnR_len (by omega)
    have hvl : (trnH rs hs x y).length ≤ 1048577 := Nat.le_trans trnH_len (by omega)
    unfold TrnRes at CS
    unfold TrnT at CI
    generalize trnR rs hs x y = ws at *
    generalize trnH rs hs x y = vs at *
    generalize trnN rs hs x y = rb at *
    have CE := fun A1 A2 c1 c2 B1 B2 d1 d2 W h1 h2 h3 h4 => eqTable_same A1 A2 ws c1 c2 B1 B2 vs d1 d2 W (by omega) (by omega) h1 h2 h3 h4
    clear hb1 HI HB hmax hmaxh
    go_wp2_with fail
    refine (CT w1 B1.out).mono ?_
    rintro e w2 ⟨v, rfl, g, c2, g', d2, rfl, hg, hg', ha, ha', hb2, -, -, -⟩
    have B2 := Lib.hid (B1.out.trans (hb2.mono B1.out.size))
    have I2 := Lib.hid (I1.out.below hb2 I1.out.lt)
    have C2 := CS g c2 g' d2 w2 (ha.sl ha.lt) (ha'.sli ha'.lt)
    clear hb2 ha ha' hg hg' B1 I1 z1 e10 e11 CS
    go_wp2_with fail
    refine C2.mono ?_
    clear C2
    rintro e w3 ⟨v, rfl, A0, c0, g0, B0, d0, g1, rfl, -, -, ho, hno, hb3, -, -⟩
    have B3 := Lib.hid (B2.out.trans (hb3.mono B2.out.size))
    have I3 := Lib.hid (I2.out.below hb3 I2.out.lt)
    obtain ⟨z3, e30, e31, -, -⟩ := I3.out.two
    have hba : Below w3.heap.size w3 (w3.alloc (.cells #[.slice A0 ws.length c0, .slice B0 vs.length d0] 30)) := (Below.refl _ _).alloc (Nat.le_refl _) _
    have B4 := Lib.hid (B3.out.trans (hba.mono B3.out.size))
    have I4 := Lib.hid (I3.out.below hba I3.out.lt)
    have K0 := Lib.hid (Box.new w3 30 #[.slice A0 ws.length c0, .slice B0 vs.length d0])
    have S0 := Lib.hid ((ho.below hba).sl)
    have N0 := Lib.hid ((hno.below hba).sli)
    clear hb3 hba ho hno B2 I2 B3 I3
    go_wp2_with fail
    clear z3 e30 e31
    generalize w3.alloc (.cells #[.slice A0 ws.length c0, .slice B0 vs.length d0] 30) = V3 at *
    generalize w3.heap.size = P0 at *
    refine (CT V3 B4.out).mono ?_
    rintro e w4 ⟨v, rfl, gx, cx, hx, dx, rfl, hgx, hhx, ax, nx, hb4, -, -, -⟩
    have hbb : Below w4.heap.size w4 (w4.alloc (.cells #[.slice (some ⟨gx, 0, none⟩) rs.length cx, .slice (some ⟨hx, 0, none⟩) hs.length dx] 30)) := (Below.refl _ _).alloc (Nat.le_refl _) _
    have hb5 : Below V3.heap.size V3 (w4.alloc (.cells #[.slice (some ⟨gx, 0, none⟩) rs.length cx, .slice (some ⟨hx, 0, none⟩) hs.length dx] 30)) := hb4.trans (hbb.mono hb4.size)
    have hgP : gx < w4.heap.size := ax.lt
    have hhP : hx < w4.heap.size := nx.lt
    have hVP := hb4.size
    have hIl := I4.out.lt
    have h0l := K0.out.lt
    have B5 := Lib.hid (B4.out.trans (hb5.mono B4.out.size))
    have I5 := Lib.hid (I4.out.below hb5 I4.out.lt)
    have K05 := Lib.hid (K0.out.below hb5 K0.out.lt)
    have K15 := Lib.hid (Box.new w4 30 #[.slice (some ⟨gx, 0, none⟩) rs.length cx, .slice (some ⟨hx, 0, none⟩) hs.length dx])
    have S5 := Lib.hid (S0.out.below hb5)
    have N5 := Lib.hid (N0.out.below hb5)
    have AX5 := Lib.hid (ax.below hbb ax.lt)
    have NX5 := Lib.hid (nx.below hbb nx.lt)
    have hsz5 : w4.heap.size + 1 ≤ (w4.alloc (.cells #[.slice (some ⟨gx, 0, none⟩) rs.length cx, .slice (some ⟨hx, 0, none⟩) hs.length dx] 30)).heap.size := by simp
    clear hb4 hbb hb5 ax nx B4 I4 K0 S0 N0
    go_wp2_with fail
    generalize w4.alloc (.cells #[.slice (some ⟨gx, 0, none⟩) rs.length cx, .slice (some ⟨hx, 0, none⟩) hs.length dx] 30) = V5 at *
    generalize w4.heap.size = P1 at *
    generalize V3.heap.size = b1 at *
    refine (CI gx cx hx dx V5 (AX5.out.sl AX5.out.lt) (NX5.out.sli NX5.out.lt)).mono ?_
    rintro e w6 ⟨v6, rfl, A6, c6, B6, d6, X6, rfl, hm6, hx6, hb6⟩
    have hbb : Below w6.heap.size w6 (w6.alloc (.cells #[.slice A6 ws.length c6, .slice B6 vs.length d6] 30)) := (Below.refl _ _).alloc (Nat.le_refl _) _
    have hb7 : Below V5.heap.size V5 (w6.alloc (.cells #[.slice A6 ws.length c6, .slice B6 vs.length d6] 30)) := hb6.trans (hbb.mono hb6.size)
    have HXP := Lib.hid (fun b (h : X6 b) => (show P1 < b ∧ b < w6.heap.size from ⟨by have := hx6 b h; omega, hm6.lt h⟩))
    have hPP : P1 < w6.heap.size := by have := hb6.size; omega
    have E7 := Lib.hid (show ES w #[.slice A rs.length c, .slice B hs.length d] #[.slice A0 ws.length c0, .slice B0 vs.length d0] #[.slice (some ⟨gx, 0, none⟩) rs.length cx, .slice (some ⟨hx, 0, none⟩) hs.length dx] #[.slice A6 ws.length c6, .slice B6 vs.length d6] P0 P1 w6.heap.size A0 B0 ws vs b1 (w6.alloc (.cells #[.slice A6 ws.length c6, .slice B6 vs.length d6] 30)) from
      ⟨B5.out.trans (hb7.mono B5.out.size), I5.out.below hb7 I5.out.lt, K05.out.below hb7 K05.out.lt, K15.out.below hb7 K15.out.lt, Box.new w6 _ _, S5.out.below (hb7.mono (by omega)), N5.out.below (hb7.mono (by omega)), hIl, h0l, by have := hb7.size; omega⟩)
    have M7 := Lib.hid (hm6.below hbb)
    have AX7 := Lib.hid (AX5.out.below hb7 AX5.out.lt)
    have NX7 := Lib.hid (NX5.out.below hb7 NX5.out.lt)
    have k06 := K05.out.below hb6 K05.out.lt
    clear hb6 hbb hb7 hm6 hx6 B5 I5 K15 S5 N5 AX5 NX5 K05 hsz5
    obtain ⟨y1, f10, f11, -, -⟩ := k06.two
    clear k06
    go_wp2_with fail
    clear y1 f10 f11
    generalize w6.alloc (.cells #[.slice A6 ws.length c6, .slice B6 vs.length d6] 30) = V7 at *
    generalize w6.heap.size = P2 at *
    refine (CE A6 A0 c6 c0 B6 B0 d6 d0 V7 M7.out.sl E7.out.sl M7.out.sli E7.out.sli).mono ?_
    rintro e w8 ⟨rfl, hb8⟩
    have E8 := Lib.hid (E7.out.below hb8)
    have M8 := Lib.hid (M7.out.below hb8)
    have AX8 := Lib.hid (AX7.out.below hb8 AX7.out.lt)
    have NX8 := Lib.hid (NX7.out.below hb8 NX7.out.lt)
    clear hb8 E7 M7 AX7 NX7
    obtain ⟨y0, f00, f01, -, -⟩ := E8.out.kI.two
    obtain ⟨y1, f10, f11, -, -⟩ := E8.out.k1.two
    have hX := fun (x : Ext w8.drew) (bb o : Nat) (h : bb < w8.heap.size) => (show x.w.cell? ⟨bb, o, none⟩ = w8.cell? ⟨bb, o, none⟩ from x.cell bb o h)
    have hbd : Below w8.heap.size w8 w8.drew := (Below.refl _ _).drew
    have E8d := Lib.hid (E8.out.below hbd)
    have M8d := Lib.hid (M8.out.below hbd)
    have AX8d := Lib.hid (AX8.out.below hbd AX8.out.lt)
    have NX8d := Lib.hid (NX8.out.below hbd NX8.out.lt)
    clear hbd E8 M8 AX8 NX8
    go_wp2_with fail
    refine wp_region_staged 5 (by kernel_rfl) (by kernel_rfl) ?_
    refine stage_seg _ 3 [0, 1] (by kernel_rfl) (by kernel_rfl) (by kernel_rfl) (by kernel_rfl) ?_
    (simp only [List.map_cons, List.map_nil, List.getElem?_cons_zero, List.getElem?_cons_succ, Option.getD_some]); (repeat (go_big_quiet_step (fail))); (refine wpQuiet_nil ?_)
    clear hX y0 f00 f01 y1 f10 f11
    refine stage_call _ 2 2 (by kernel_rfl) (by rfl) (by kernel_rfl) (by rfl) ?_
    go_wp2_with fail
    refine (CT w8.drew E8d.out.bel).mono ?_
    rintro e w9 ⟨v, rfl, g8, c8, g9, d8, rfl, -, -, ha, ha', hb9, -, -, -⟩
    refine ⟨hb9, ?_⟩
    have E9 := Lib.hid (E8d.out.below hb9)
    have M9 := Lib.hid (M8d.out.below hb9)
    have AX9 := Lib.hid (AX8d.out.below hb9 AX8d.out.lt)
    have NX9 := Lib.hid (NX8d.out.below hb9 NX8d.out.lt)
    have C8 := eqTable_same (some ⟨gx, 0, none⟩) (some ⟨g8, 0, none⟩) rs cx c8 (some ⟨hx, 0, none⟩) (some ⟨g9, 0, none⟩) hs dx d8 w9 (by omega) (by omega) (AX9.out.sl AX9.out.lt) (ha.sl ha.lt) (NX9.out.sli NX9.out.lt) (ha'.sli ha'.lt)
    clear hb9 ha ha' E8d M8d AX8d NX8d
    refine stage_call _ 1 3 (by kernel_rfl) (by rfl) (by kernel_rfl) (by rfl) ?_
    go_wp2_with fail
    refine C8.mono ?_
    clear C8
    rintro e w10 ⟨rfl, hb10⟩
    refine ⟨hb10, ?_⟩
    have E10 := Lib.hid (E9.out.below hb10)
    have M10 := Lib.hid (M9.out.below hb10)
    have AX10 := Lib.hid (AX9.out.below hb10 AX9.out.lt)
    have NX10 := Lib.hid (NX9.out.below hb10 NX9.out.lt)
    clear hb10 E9 M9 AX9 NX9
    refine stage_seg _ 0 [4] (by kernel_rfl) (by kernel_rfl) (by kernel_rfl) (by kernel_rfl) ?_
    (simp only [List.map_cons, List.map_nil, List.getElem?_cons_zero, List.getElem?_cons_succ, Option.getD_some]); (repeat (go_big_quiet_step (fail))); (refine wpQuiet_nil ?_)
    refine stage_end (by kernel_rfl) ?_
    obtain ⟨y1, f10, f11, -, -⟩ := E10.out.k1.two
    go_wp2_with fail
    refine (markTable_any gx rs cx hx hs dx 1 w10 (by omega) (by omega) (by omega) (by omega) AX10.out NX10.out).mono ?_
    rintro e w11 ⟨rfl, -, -, hk11⟩
    have E11 := Lib.hid (E10.out.kx hk11 (fun b h => by rcases h with rfl | rfl <;> (refine ⟨by omega, by omega, by omega⟩)))
    have M11 := Lib.hid (M10.out.kept (fun b h => hk11.block b (M10.out.lt h) (fun e => by have := (HXP.out b h).1; omega)))
    clear hk11 E10 M10 AX10 NX10 y1 f10 f11
    have hkn : ¬ ((1 : Int) + 3 * (rs.length : Int) + (hs.length : Int) < 0) := by omega
    obtain ⟨y0, f00, f01, -, -⟩ := E11.out.k0.two
    obtain ⟨y2, f20, f21, -, -⟩ := E11.out.k2.two
    go_wp2_with fail
    refine (CE A6 A0 c6 c0 B6 B0 d6 d0 w11 M11.out.sl E11.out.sl M11.out.sli E11.out.sli).mono ?_
    rintro e w12 ⟨rfl, hb12⟩
    have E12 := Lib.hid (E11.out.below hb12)
    have M12 := Lib.hid (M11.out.below hb12)
    clear hb12 E11 M11 y0 f00 f01 y2 f20 f21
    obtain ⟨y2, f20, f21, -, -⟩ := E12.out.k2.two
    go_wp2_with fail
    refine (markTabM_any A6 B6 ws c6 vs d6 X6 1 w12 (by omega) (by omega) (by omega) (by omega) M12.out).mono ?_
    rintro e w13 ⟨rfl, hK, hk13⟩
    have E13 := Lib.hid (E12.out.kx hk13 (fun b h => by have := HXP.out b h; refine ⟨by omega, by omega, by omega⟩))
    have K13 := Lib.hid hK
    clear hk13 hK E12 M12 y2 f20 f21 hkn
    have hkm : ¬ ((1 : Int) + 3 * (ws.length : Int) + (vs.length : Int) < 0) := by omega
    obtain ⟨y2, f20, f21, -, -⟩ := E13.out.k2.two
    go_wp2_with fail
    refine (heldTabK_any A6 B6 ws.length c6 vs.length d6 1 w13 (by omega) (by omega) (by omega) (by omega) K13.out).mono ?_
    rintro e w14 ⟨rfl, hb14⟩
    have E14 := Lib.hid (E13.out.below hb14)
    have K14 := Lib.hid (K13.out.below hb14)
    clear hb14 E13 K13 y2 f20 f21
    obtain ⟨y0, f00, f01, -, -⟩ := E14.out.kI.two
    go_wp2_with fail
    refine (CT w14 E14.out.bel).mono ?_
    rintro e w15 ⟨v, rfl, gz, cz, hz, dz, rfl, -, -, ha, ha', hb15, -, -, -⟩
    have E15 := Lib.hid (E14.out.below hb15)
    have K15 := Lib.hid (K14.out.below hb15)
    have C15 := CI gz cz hz dz w15 (ha.sl ha.lt) (ha'.sli ha'.lt)
    clear hb15 ha ha' E14 K14 y0 f00 f01 CI CT
    go_wp2_with fail
    refine C15.mono ?_
    clear C15
    rintro e w16 ⟨v6, rfl, A9, c9, B9, d9, X9, rfl, hm9, -, hb16⟩
    have hbb : Below w16.heap.size w16 (w16.alloc (.cells #[.slice A9 ws.length c9, .slice B9 vs.length d9] 30)) := (Below.refl _ _).alloc (Nat.le_refl _) _
    have E17 := Lib.hid ((E15.out.below hb16).below hbb)
    have K17 := Lib.hid ((K15.out.below hb16).below hbb)
    have M17 := Lib.hid (hm9.below hbb)
    have k016 := (E15.out.below hb16).k0
    clear hb16 hbb hm9 E15 K15
    obtain ⟨y1, f10, f11, -, -⟩ := k016.two
    clear k016
    go_wp2_with fail
    clear y1 f10 f11
    generalize w16.alloc (.cells #[.slice A9 ws.length c9, .slice B9 vs.length d9] 30) = V17 at *
    generalize w16.heap.size = P3 at *
    refine (CE A9 A0 c9 c0 B9 B0 d9 d0 V17 M17.out.sl E17.out.sl M17.out.sli E17.out.sli).mono ?_
    clear CE
    rintro e w18 ⟨rfl, hb18⟩
    have E18 := Lib.hid (E17.out.below hb18)
    have K18 := Lib.hid (K17.out.below hb18)
    clear hb18 E17 K17 M17
    obtain ⟨y2, f20, f21, -, -⟩ := E18.out.k2.two
    go_wp2_with fail
    refine (heldTabK_any A6 B6 ws.length c6 vs.length d6 1 w18 (by omega) (by omega) (by omega) (by omega) K18.out).mono ?_
    rintro e w19 ⟨rfl, hb19⟩
    have B19 := Lib.hid (E18.out.bel.trans (hb19.mono E18.out.bel.size))
    clear hb19 y2 f20 f21
    go_wp2_with fail
    go_ret
    exact ⟨rfl, B19.out⟩
end Go.Proofs.Ytohflcbpjjnccab
