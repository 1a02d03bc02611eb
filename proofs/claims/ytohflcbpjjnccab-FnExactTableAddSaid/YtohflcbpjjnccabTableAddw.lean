/-
  The walk of FnExactTableAdd over this seat: whatever table and route come in, the law returns true and changes nothing that was there.
-/
import Derived.Test.YtohflcbpjjnccabTfn
namespace Go.Proofs.Ytohflcbpjjnccab
open Go.RowKit Go.Maps

set_option maxRecDepth 100000 in
set_option maxHeartbeats 3200000 in
theorem exactTableAdd_walk (A : Option Addr) (rs : List Lk) (c : Nat) (B : Option Addr) (hs : List Int) (d : Nat) (r0 : Lk) (w : World) (hmax : rs.length ≤ maxLen) (hmaxh : hs.length ≤ maxLen) (h1 : Sl w w.heap.size A rs) (h2 : Sli w w.heap.size B hs) :
   Calls Try.prog 4 #[tbV A rs.length c B hs.length d, rtV r0] w fun e w' => e = .returned (.bool true) ∧ Below w.heap.size w w' := by
  obtain ⟨ra, rb, rc⟩ := r0
  dsimp only [rtV]
  have B0 : Below w.heap.size w ((w.alloc (.cells #[.slice A rs.length c, .slice B hs.length d] 25)).alloc (.cells #[.int .i64 ra, .int .i64 rb, .int .i64 rc] 35)) := by (repeat (first | exact Below.refl _ _ | (refine Below.alloc ?_ (by first | exact Nat.le_refl _ | omega | (simp; done) | (simp; omega)) _) | (refine Below.setCell ?_ (by first | exact Nat.le_refl _ | omega | (simp; done) | (simp; omega)) _) | exact Below.drew ‹_›))
  have HB := Lib.hid B0
  have HI := Lib.hid ((Box.new w 25 #[.slice A rs.length c, .slice B hs.length d]).alloc (.cells #[.int .i64 ra, .int .i64 rb, .int .i64 rc] 35))
  have r1 := Box.new (w.alloc (.cells #[.slice A rs.length c, .slice B hs.length d] 25)) 35 #[.int .i64 ra, .int .i64 rb, .int .i64 rc]
  rw [World.size_alloc] at r1
  have HR := Lib.hid r1
  clear r1
  have H1 := Lib.hid h1
  have H2 := Lib.hid h2
  clear h1 h2 B0
  go_enter Try.func4, Try.ntmps4
  go_wp2_with fail
  refine (szTable_any A rs.length c B hs.length d _ hmax hmaxh).mono ?_
  rintro e w1 ⟨r, rfl, hr | ⟨h0, hn, hm⟩, hb1⟩
  · have B1 := Lib.hid (HB.out.trans (hb1.mono HB.out.size))
    clear hb1
    go_wp2_with fail
    go_ret
    exact ⟨rfl, B1.out⟩
  · have B1 := Lib.hid (HB.out.trans (hb1.mono HB.out.size))
    have I1 := Lib.hid (HI.out.below hb1 HI.out.lt)
    have R1 := Lib.hid (HR.out.below hb1 HR.out.lt)
    obtain ⟨z1, e10, e11, -, -⟩ := I1.out.two
    have hneg : ¬ r < 0 := by omega
    have CT := fun W (hb : Below w.heap.size w W) => toTable_any A rs c B hs d W (by omega) (by omega) ((H1.out.below hb).more hb.size) ((H2.out.below hb).more hb.size)
    have CS := fun g c2 g' d2 W (hcc : rs.length ≤ c2) (h : Sl W W.heap.size (some ⟨g, 0, none⟩) rs) (h' : Sli W W.heap.size (some ⟨g', 0, none⟩) hs) => tableAdd_spec g 0 rs c2 g' 0 hs d2 ⟨ra, rb, rc⟩ W hn hm hcc h h'
    have CI := fun g c2 g' d2 W (hcc : rs.length ≤ c2) (h : Sl W W.heap.size (some ⟨g, 0, none⟩) rs) (h' : Sli W W.heap.size (some ⟨g', 0, none⟩) hs) => tableAdd_imp g 0 rs c2 g' 0 hs d2 ⟨ra, rb, rc⟩ W hn hm hcc h h'
    have CR := fun W => (show Calls Try.prog 18 #[.agg #[.int .i64 ra, .int .i64 rb, .int .i64 rc]] W fun e w' => e = .returned (.agg #[.int .i64 ra, .int .i64 rb, .int .i64 rc]) ∧ Below W.heap.size W w' from toRoute_any ⟨ra, rb, rc⟩ W)
    have hwl : (addR rs hs ⟨ra, rb, rc⟩).length ≤ 1048577 := Nat.le_trans addR_len (by omega)
    have hvl : (addH rs hs ⟨ra, rb, rc⟩).length ≤ 1048577 := Nat.le_trans addH_len (by omega)
    unfold AddRes at CS
    unfold AddT at CI
    generalize addR rs hs ⟨ra, rb, rc⟩ = ws at *
    generalize addH rs hs ⟨ra, rb, rc⟩ = vs at *
    generalize addB rs hs ⟨ra, rb, rc⟩ = ok at *
    dsimp only [rtV] at *
    have CE := fun A1 A2 c1 c2 B1 B2 d1 d2 W h1 h2 h3 h4 => eqTable_same A1 A2 ws c1 c2 B1 B2 vs d1 d2 W (by omega) (by omega) h1 h2 h3 h4
    clear hb1 HI HB HR hmax hmaxh
    go_upto_region 5 with fail
    go_cut [6, 7] (fun s6 s7 wx => ∃ (P0 : Nat) (A0 : Option Addr) (c0 : Nat) (B0 : Option Addr) (d0 : Nat), s6 = .pointer (some ⟨P0, 0, none⟩) ∧ s7 = .bool ok ∧ Below w1.heap.size w1 wx ∧ Box wx P0 30 #[.slice A0 ws.length c0, .slice B0 vs.length d0] ∧ Sl wx wx.heap.size A0 ws ∧ Sli wx wx.heap.size B0 vs)
    case first =>
      obtain ⟨z2, x20, x21, x22, -, -, -⟩ := R1.out.trip
      obtain ⟨BB, hB0, hB2⟩ : ∃ BB, BB ≤ w1.drew.heap.size ∧ w1.drew.heap.size ≤ BB := ⟨_, Nat.le_refl _, Nat.le_refl _⟩
      have hX := fun (y : ExtB BB w1.drew) (bb o : Nat) (h : bb < BB) => (show y.w.cell? ⟨bb, o, none⟩ = w1.cell? ⟨bb, o, none⟩ from y.cell bb o h)
      have z1' : w.heap.size < BB := Nat.lt_of_lt_of_le (show w.heap.size < w1.drew.heap.size from z1) hB2
      have z2' : w.heap.size + 1 < BB := Nat.lt_of_lt_of_le (show w.heap.size + 1 < w1.drew.heap.size from z2) hB2
      have Bl0 := Lib.hid (show Below w1.heap.size w1 w1.drew from (Below.refl _ _).drew)
      go_wp2_with fail
      refine wp_region_stg 11 BB (by kernel_rfl) (by kernel_rfl) ?_
      refine stg_seg _ 9 [0, 2] (by kernel_rfl) (by kernel_rfl) (by kernel_rfl) (by kernel_rfl) ?_
      (simp only [List.map_cons, List.map_nil, List.getElem?_cons_zero, List.getElem?_cons_succ, Option.getD_some]); (repeat (go_big_quiet_step (fail))); (refine wpQuiet_nil ?_)
      clear hX z1 e10 e11 z2 x20 x21 x22 z1' z2' hB2
      generalize w1.drew = wd at *
      refine stg_two _ 8 1 8 (by rfl) (by rfl) (by rfl) (by kernel_rfl) (by rfl) (by rfl) ?_ ?_
      · go_wp2_with fail
        refine (CT wd (B1.out.trans (Bl0.out.mono B1.out.size))).mono ?_
        rintro e wdt ⟨v, rfl, gt, ct, ht, dt, rfl, -, -, ha, ha', hb, hct, -, -⟩
        refine ⟨hb.mono hB0, _, Nat.le_refl _, ?_⟩
        have Bl1 := Lib.hid (Bl0.out.trans (hb.mono Bl0.out.size))
        have hB1 := Nat.le_trans hB0 hb.size
        have AT1 := Lib.hid ha
        have NT1 := Lib.hid ha'
        clear ha ha' hb Bl0
        refine stg_two _ 7 3 8 (by rfl) (by rfl) (by rfl) (by kernel_rfl) (by rfl) (by rfl) ?_ ?_
        · go_wp2_with fail
          refine (CR wdt).mono ?_
          rintro e wdtr ⟨rfl, hb⟩
          refine ⟨hb.mono hB1, _, Nat.le_refl _, ?_⟩
          have Bl2 := Lib.hid (Bl1.out.trans (hb.mono Bl1.out.size))
          have hB2 := Nat.le_trans hB1 hb.size
          have AT2 := Lib.hid (AT1.out.below hb AT1.out.lt)
          have NT2 := Lib.hid (NT1.out.below hb NT1.out.lt)
          clear hb Bl1 AT1 NT1
          refine stg_two _ 6 4 8 (by rfl) (by rfl) (by rfl) (by kernel_rfl) (by rfl) (by rfl) ?_ ?_
          · go_wp2_with fail
            refine (CS gt ct ht dt wdtr hct (AT2.out.sl AT2.out.lt) (NT2.out.sli NT2.out.lt)).mono ?_
            rintro e wdtrs ⟨v, rfl, A0, c0, g0, B0, d0, g1, rfl, hgs, hhs, ho, hno, hb, -, -, -⟩
            refine ⟨hb.mono hB2, _, Nat.le_refl _, ?_⟩
            have h5s := (Nat.le_refl wdtr.heap.size)
            have hBs := hB2
            have h1s := Bl2.out.size
            have Bl3 := Lib.hid (Bl2.out.trans (hb.mono Bl2.out.size))
            have hB3 := Nat.le_trans hB2 hb.size
            have AT3 := Lib.hid (AT2.out.below hb AT2.out.lt)
            have NT3 := Lib.hid (NT2.out.below hb NT2.out.lt)
            clear hb Bl2 AT2 NT2
            refine stg_seg _ 3 [5, 6, 7] (by kernel_rfl) (by kernel_rfl) (by kernel_rfl) (by kernel_rfl) ?_
            (simp only [List.map_cons, List.map_nil, List.getElem?_cons_zero, List.getElem?_cons_succ, Option.getD_some]); (repeat (go_big_quiet_step (fail))); (refine wpQuiet_nil ?_)
            refine stg_one _ 2 8 (by kernel_rfl) (by rfl) (by kernel_rfl) (by rfl) ?_
            go_wp2_with fail
            refine ⟨((Below.refl _ _).alloc (Nat.le_refl _) _).mono hB3, _, Nat.le_refl _, ?_⟩
            refine stg_one _ 1 9 (by kernel_rfl) (by rfl) (by kernel_rfl) (by rfl) ?_
            go_wp2_with fail
            refine ⟨(below_aa _ _ _).mono hB3, _, Nat.le_refl _, ?_⟩
            refine stg_seg _ 0 [10] (by kernel_rfl) (by kernel_rfl) (by kernel_rfl) (by kernel_rfl) ?_
            (simp only [List.map_cons, List.map_nil, List.getElem?_cons_zero, List.getElem?_cons_succ, Option.getD_some]); (repeat (go_big_quiet_step (fail))); (refine wpQuiet_nil ?_)
            refine stg_end (by kernel_rfl) ?_
            have hba : Below wdtrs.heap.size wdtrs (wdtrs.alloc (.cells #[.slice A0 ws.length c0, .slice B0 vs.length d0] 30)) := (Below.refl _ _).alloc (Nat.le_refl _) _
            go_wp2_with fail
            go_meet
            case rel =>
              exact ⟨wdtrs.heap.size, A0, c0, B0, d0, rfl, rfl, Bl3.out.trans (hba.mono Bl3.out.size), Box.new wdtrs _ _, (OwT.below ho hba).sl, (Own1i.below hno hba).sli⟩
          · go_wp2_with fail
            refine ⟨((Below.refl _ _).alloc (Nat.le_refl _) _).mono hB2, _, Nat.le_refl _, ?_⟩
            have hb : Below wdtr.heap.size wdtr (wdtr.alloc (.cells #[.slice none 0 0, .slice none 0 0] 30)) := (Below.refl _ _).alloc (Nat.le_refl _) _
            have hZs : wdtr.heap.size + 1 ≤ (wdtr.alloc (.cells #[.slice none 0 0, .slice none 0 0] 30)).heap.size := by simp
            have hBZ := hB2
            have h1Z := Bl2.out.size
            have hgtZ := AT2.out.lt
            have hhtZ := NT2.out.lt
            have Bl3 := Lib.hid (Bl2.out.trans (hb.mono Bl2.out.size))
            have hB3 := Nat.le_trans hB2 hb.size
            have AT3 := Lib.hid (AT2.out.below hb AT2.out.lt)
            have NT3 := Lib.hid (NT2.out.below hb NT2.out.lt)
            have Z3 := Lib.hid (Box.new wdtr 30 #[.slice none 0 0, .slice none 0 0])
            clear hb Bl2 AT2 NT2
            generalize wdtr.alloc (.cells #[.slice none 0 0, .slice none 0 0] 30) = wdtrz at *
            generalize wdtr.heap.size = Z at *
            refine stg_one _ 5 4 (by kernel_rfl) (by rfl) (by kernel_rfl) (by rfl) ?_
            go_wp2_with fail
            refine (CS gt ct ht dt wdtrz hct (AT3.out.sl AT3.out.lt) (NT3.out.sli NT3.out.lt)).mono ?_
            rintro e wdtrzs ⟨v, rfl, A0, c0, g0, B0, d0, g1, rfl, hgs, hhs, ho, hno, hb, -, -, -⟩
            refine ⟨hb.mono hB3, _, Nat.le_refl _, ?_⟩
            have hZl := Z3.out.lt
            have h5s := (Nat.le_refl wdtrz.heap.size)
            have hBs := hB3
            have h1s := Bl3.out.size
            have Bl4 := Lib.hid (Bl3.out.trans (hb.mono Bl3.out.size))
            have hB4 := Nat.le_trans hB3 hb.size
            have AT4 := Lib.hid (AT3.out.below hb AT3.out.lt)
            have NT4 := Lib.hid (NT3.out.below hb NT3.out.lt)
            have Z4 := Lib.hid (Z3.out.below hb Z3.out.lt)
            clear hb Bl3 AT3 NT3 Z3
            refine stg_seg _ 2 [5, 6, 7] (by kernel_rfl) (by kernel_rfl) (by kernel_rfl) (by kernel_rfl) ?_
            (simp only [List.map_cons, List.map_nil, List.getElem?_cons_zero, List.getElem?_cons_succ, Option.getD_some]); (repeat (go_big_quiet_step (fail))); (refine wpQuiet_nil ?_)
            obtain ⟨zq, q0, q1, f0, f1⟩ := Z4.out.two
            refine stg_one _ 1 9 (by kernel_rfl) (by rfl) (by kernel_rfl) (by rfl) ?_
            go_wp2_with fail
            refine ⟨((Below.refl _ _).setCell (p := ⟨Z, 0, none⟩) hBZ _).setCell (p := ⟨Z, 1, none⟩) hBZ _, _, Nat.le_refl _, ?_⟩
            refine stg_seg _ 0 [10] (by kernel_rfl) (by kernel_rfl) (by kernel_rfl) (by kernel_rfl) ?_
            (simp only [List.map_cons, List.map_nil, List.getElem?_cons_zero, List.getElem?_cons_succ, Option.getD_some]); (repeat (go_big_quiet_step (fail))); (refine wpQuiet_nil ?_)
            refine stg_end (by kernel_rfl) ?_
            go_wp2_with fail
            go_meet
            case rel =>
              exact ⟨Z, A0, c0, B0, d0, rfl, rfl, (Bl4.out.setCell (p := ⟨Z, 0, none⟩) (by dsimp only; omega) _).setCell (p := ⟨Z, 1, none⟩) (by dsimp only; omega) _, (ret_two Z4.out (.slice A0 ws.length c0) (.slice B0 vs.length d0)).1, OwT.sl (g := g0) (fun hp => ⟨(ho hp).1, ((ho hp).2.far (p := ⟨Z, 0, none⟩) (by dsimp only; omega) _).far (p := ⟨Z, 1, none⟩) (by dsimp only; omega) _⟩), Own1i.sli (g := g1) (fun hp => ⟨(hno hp).1, ((hno hp).2.setFar (p := ⟨Z, 0, none⟩) (by dsimp only; omega) _).setFar (p := ⟨Z, 1, none⟩) (by dsimp only; omega) _⟩)⟩
        · go_wp2_with fail
          refine ⟨((Below.refl _ _).alloc (Nat.le_refl _) _).mono hB1, _, Nat.le_refl _, ?_⟩
          have hb : Below wdt.heap.size wdt (wdt.alloc (.cells #[.slice none 0 0, .slice none 0 0] 30)) := (Below.refl _ _).alloc (Nat.le_refl _) _
          have hZs : wdt.heap.size + 1 ≤ (wdt.alloc (.cells #[.slice none 0 0, .slice none 0 0] 30)).heap.size := by simp
          have hBZ := hB1
          have h1Z := Bl1.out.size
          have hgtZ := AT1.out.lt
          have hhtZ := NT1.out.lt
          have Bl2 := Lib.hid (Bl1.out.trans (hb.mono Bl1.out.size))
          have hB2 := Nat.le_trans hB1 hb.size
          have AT2 := Lib.hid (AT1.out.below hb AT1.out.lt)
          have NT2 := Lib.hid (NT1.out.below hb NT1.out.lt)
          have Z2 := Lib.hid (Box.new wdt 30 #[.slice none 0 0, .slice none 0 0])
          clear hb Bl1 AT1 NT1
          generalize wdt.alloc (.cells #[.slice none 0 0, .slice none 0 0] 30) = wdtz at *
          generalize wdt.heap.size = Z at *
          refine stg_one _ 6 3 (by kernel_rfl) (by rfl) (by kernel_rfl) (by rfl) ?_
          go_wp2_with fail
          refine (CR wdtz).mono ?_
          rintro e wdtzr ⟨rfl, hb⟩
          refine ⟨hb.mono hB2, _, Nat.le_refl _, ?_⟩
          have Bl3 := Lib.hid (Bl2.out.trans (hb.mono Bl2.out.size))
          have hB3 := Nat.le_trans hB2 hb.size
          have AT3 := Lib.hid (AT2.out.below hb AT2.out.lt)
          have NT3 := Lib.hid (NT2.out.below hb NT2.out.lt)
          have Z3 := Lib.hid (Z2.out.below hb Z2.out.lt)
          clear hb Bl2 AT2 NT2 Z2
          refine stg_one _ 5 4 (by kernel_rfl) (by rfl) (by kernel_rfl) (by rfl) ?_
          go_wp2_with fail
          refine (CS gt ct ht dt wdtzr hct (AT3.out.sl AT3.out.lt) (NT3.out.sli NT3.out.lt)).mono ?_
          rintro e wdtzrs ⟨v, rfl, A0, c0, g0, B0, d0, g1, rfl, hgs, hhs, ho, hno, hb, -, -, -⟩
          refine ⟨hb.mono hB3, _, Nat.le_refl _, ?_⟩
          have hZl := Z3.out.lt
          have h5s := (Nat.le_refl wdtzr.heap.size)
          have hBs := hB3
          have h1s := Bl3.out.size
          have Bl4 := Lib.hid (Bl3.out.trans (hb.mono Bl3.out.size))
          have hB4 := Nat.le_trans hB3 hb.size
          have AT4 := Lib.hid (AT3.out.below hb AT3.out.lt)
          have NT4 := Lib.hid (NT3.out.below hb NT3.out.lt)
          have Z4 := Lib.hid (Z3.out.below hb Z3.out.lt)
          clear hb Bl3 AT3 NT3 Z3
          refine stg_seg _ 2 [5, 6, 7] (by kernel_rfl) (by kernel_rfl) (by kernel_rfl) (by kernel_rfl) ?_
          (simp only [List.map_cons, List.map_nil, List.getElem?_cons_zero, List.getElem?_cons_succ, Option.getD_some]); (repeat (go_big_quiet_step (fail))); (refine wpQuiet_nil ?_)
          obtain ⟨zq, q0, q1, f0, f1⟩ := Z4.out.two
          refine stg_one _ 1 9 (by kernel_rfl) (by rfl) (by kernel_rfl) (by rfl) ?_
          go_wp2_with fail
          refine ⟨((Below.refl _ _).setCell (p := ⟨Z, 0, none⟩) hBZ _).setCell (p := ⟨Z, 1, none⟩) hBZ _, _, Nat.le_refl _, ?_⟩
          refine stg_seg _ 0 [10] (by kernel_rfl) (by kernel_rfl) (by kernel_rfl) (by kernel_rfl) ?_
          (simp only [List.map_cons, List.map_nil, List.getElem?_cons_zero, List.getElem?_cons_succ, Option.getD_some]); (repeat (go_big_quiet_step (fail))); (refine wpQuiet_nil ?_)
          refine stg_end (by kernel_rfl) ?_
          go_wp2_with fail
          go_meet
          case rel =>
            exact ⟨Z, A0, c0, B0, d0, rfl, rfl, (Bl4.out.setCell (p := ⟨Z, 0, none⟩) (by dsimp only; omega) _).setCell (p := ⟨Z, 1, none⟩) (by dsimp only; omega) _, (ret_two Z4.out (.slice A0 ws.length c0) (.slice B0 vs.length d0)).1, OwT.sl (g := g0) (fun hp => ⟨(ho hp).1, ((ho hp).2.far (p := ⟨Z, 0, none⟩) (by dsimp only; omega) _).far (p := ⟨Z, 1, none⟩) (by dsimp only; omega) _⟩), Own1i.sli (g := g1) (fun hp => ⟨(hno hp).1, ((hno hp).2.setFar (p := ⟨Z, 0, none⟩) (by dsimp only; omega) _).setFar (p := ⟨Z, 1, none⟩) (by dsimp only; omega) _⟩)⟩
      · go_wp2_with fail
        refine ⟨((Below.refl _ _).alloc (Nat.le_refl _) _).mono hB0, _, Nat.le_refl _, ?_⟩
        have hb : Below wd.heap.size wd (wd.alloc (.cells #[.slice none 0 0, .slice none 0 0] 30)) := (Below.refl _ _).alloc (Nat.le_refl _) _
        have hZs : wd.heap.size + 1 ≤ (wd.alloc (.cells #[.slice none 0 0, .slice none 0 0] 30)).heap.size := by simp
        have hBZ := hB0
        have h1Z := Bl0.out.size
        have Bl1 := Lib.hid (Bl0.out.trans (hb.mono Bl0.out.size))
        have hB1 := Nat.le_trans hB0 hb.size
        have Z1 := Lib.hid (Box.new wd 30 #[.slice none 0 0, .slice none 0 0])
        clear hb Bl0
        generalize wd.alloc (.cells #[.slice none 0 0, .slice none 0 0] 30) = wdz at *
        generalize wd.heap.size = Z at *
        refine stg_one _ 7 1 (by kernel_rfl) (by rfl) (by kernel_rfl) (by rfl) ?_
        go_wp2_with fail
        refine (CT wdz (B1.out.trans (Bl1.out.mono B1.out.size))).mono ?_
        rintro e wdzt ⟨v, rfl, gt, ct, ht, dt, rfl, -, -, ha, ha', hb, hct, -, -⟩
        refine ⟨hb.mono hB1, _, Nat.le_refl _, ?_⟩
        have Bl2 := Lib.hid (Bl1.out.trans (hb.mono Bl1.out.size))
        have hB2 := Nat.le_trans hB1 hb.size
        have Z2 := Lib.hid (Z1.out.below hb Z1.out.lt)
        have AT2 := Lib.hid ha
        have NT2 := Lib.hid ha'
        clear ha ha' hb Bl1 Z1
        refine stg_one _ 6 3 (by kernel_rfl) (by rfl) (by kernel_rfl) (by rfl) ?_
        go_wp2_with fail
        refine (CR wdzt).mono ?_
        rintro e wdztr ⟨rfl, hb⟩
        refine ⟨hb.mono hB2, _, Nat.le_refl _, ?_⟩
        have Bl3 := Lib.hid (Bl2.out.trans (hb.mono Bl2.out.size))
        have hB3 := Nat.le_trans hB2 hb.size
        have AT3 := Lib.hid (AT2.out.below hb AT2.out.lt)
        have NT3 := Lib.hid (NT2.out.below hb NT2.out.lt)
        have Z3 := Lib.hid (Z2.out.below hb Z2.out.lt)
        clear hb Bl2 AT2 NT2 Z2
        refine stg_one _ 5 4 (by kernel_rfl) (by rfl) (by kernel_rfl) (by rfl) ?_
        go_wp2_with fail
        refine (CS gt ct ht dt wdztr hct (AT3.out.sl AT3.out.lt) (NT3.out.sli NT3.out.lt)).mono ?_
        rintro e wdztrs ⟨v, rfl, A0, c0, g0, B0, d0, g1, rfl, hgs, hhs, ho, hno, hb, -, -, -⟩
        refine ⟨hb.mono hB3, _, Nat.le_refl _, ?_⟩
        have hZl := Z3.out.lt
        have h5s := (Nat.le_refl wdztr.heap.size)
        have hBs := hB3
        have h1s := Bl3.out.size
        have Bl4 := Lib.hid (Bl3.out.trans (hb.mono Bl3.out.size))
        have hB4 := Nat.le_trans hB3 hb.size
        have AT4 := Lib.hid (AT3.out.below hb AT3.out.lt)
        have NT4 := Lib.hid (NT3.out.below hb NT3.out.lt)
        have Z4 := Lib.hid (Z3.out.below hb Z3.out.lt)
        clear hb Bl3 AT3 NT3 Z3
        refine stg_seg _ 2 [5, 6, 7] (by kernel_rfl) (by kernel_rfl) (by kernel_rfl) (by kernel_rfl) ?_
        (simp only [List.map_cons, List.map_nil, List.getElem?_cons_zero, List.getElem?_cons_succ, Option.getD_some]); (repeat (go_big_quiet_step (fail))); (refine wpQuiet_nil ?_)
        obtain ⟨zq, q0, q1, f0, f1⟩ := Z4.out.two
        refine stg_one _ 1 9 (by kernel_rfl) (by rfl) (by kernel_rfl) (by rfl) ?_
        go_wp2_with fail
        refine ⟨((Below.refl _ _).setCell (p := ⟨Z, 0, none⟩) hBZ _).setCell (p := ⟨Z, 1, none⟩) hBZ _, _, Nat.le_refl _, ?_⟩
        refine stg_seg _ 0 [10] (by kernel_rfl) (by kernel_rfl) (by kernel_rfl) (by kernel_rfl) ?_
        (simp only [List.map_cons, List.map_nil, List.getElem?_cons_zero, List.getElem?_cons_succ, Option.getD_some]); (repeat (go_big_quiet_step (fail))); (refine wpQuiet_nil ?_)
        refine stg_end (by kernel_rfl) ?_
        go_wp2_with fail
        go_meet
        case rel =>
          exact ⟨Z, A0, c0, B0, d0, rfl, rfl, (Bl4.out.setCell (p := ⟨Z, 0, none⟩) (by dsimp only; omega) _).setCell (p := ⟨Z, 1, none⟩) (by dsimp only; omega) _, (ret_two Z4.out (.slice A0 ws.length c0) (.slice B0 vs.length d0)).1, OwT.sl (g := g0) (fun hp => ⟨(ho hp).1, ((ho hp).2.far (p := ⟨Z, 0, none⟩) (by dsimp only; omega) _).far (p := ⟨Z, 1, none⟩) (by dsimp only; omega) _⟩), Own1i.sli (g := g1) (fun hp => ⟨(hno hp).1, ((hno hp).2.setFar (p := ⟨Z, 0, none⟩) (by dsimp only; omega) _).setFar (p := ⟨Z, 1, none⟩) (by dsimp only; omega) _⟩)⟩
    case rest =>
      obtain ⟨P0, A0, c0, B0, d0, rfl, rfl, hbx, hk0, hs0, hn0⟩ := hcut
      rename World => V3
      have B4 := Lib.hid (B1.out.trans (hbx.mono B1.out.size))
      have I4 := Lib.hid (I1.out.below hbx I1.out.lt)
      have R4 := Lib.hid (R1.out.below hbx R1.out.lt)
      have K0 := Lib.hid hk0
      have S0 := Lib.hid hs0
      have N0 := Lib.hid hn0
      clear hbx hk0 hs0 hn0 B1 I1 R1 z1 e10 e11 CS
      obtain ⟨z3, e30, e31, -, -⟩ := I4.out.two
      go_wp2_with fail
      clear z3 e30 e31
      refine (CT V3 B4.out).mono ?_
      rintro e w4 ⟨v, rfl, gx, cx, hx, dx, rfl, hgx, hhx, ax, nx, hb4, hcx, -, -⟩
      have hbb : Below w4.heap.size w4 (w4.alloc (.cells #[.slice (some ⟨gx, 0, none⟩) rs.length cx, .slice (some ⟨hx, 0, none⟩) hs.length dx] 30)) := (Below.refl _ _).alloc (Nat.le_refl _) _
      have hb5 : Below V3.heap.size V3 (w4.alloc (.cells #[.slice (some ⟨gx, 0, none⟩) rs.length cx, .slice (some ⟨hx, 0, none⟩) hs.length dx] 30)) := hb4.trans (hbb.mono hb4.size)
      have hgP : gx < w4.heap.size := ax.lt
      have hhP : hx < w4.heap.size := nx.lt
      have hVP := hb4.size
      have hIl := I4.out.lt
      have h0l := K0.out.lt
      have B5 := Lib.hid (B4.out.trans (hb5.mono B4.out.size))
      have I5 := Lib.hid (I4.out.below hb5 I4.out.lt)
      have K05 := Lib.hid (K0.out.below hb5 K0.out.lt)
      have K15 := Lib.hid (Box.new w4 30 #[.slice (some ⟨gx, 0, none⟩) rs.length cx, .slice (some ⟨hx, 0, none⟩) hs.length dx])
      have S5 := Lib.hid (S0.out.below hb5)
      have N5 := Lib.hid (N0.out.below hb5)
      have R5 := Lib.hid (R4.out.below hb5 R4.out.lt)
      have hRl := R4.out.lt
      have AX5 := Lib.hid (ax.below hbb ax.lt)
      have NX5 := Lib.hid (nx.below hbb nx.lt)
      have hsz5 : w4.heap.size + 1 ≤ (w4.alloc (.cells #[.slice (some ⟨gx, 0, none⟩) rs.length cx, .slice (some ⟨hx, 0, none⟩) hs.length dx] 30)).heap.size := by simp
      clear hb4 hbb hb5 ax nx B4 I4 K0 S0 N0
      go_upto_region 7 with fail
      generalize w4.alloc (.cells #[.slice (some ⟨gx, 0, none⟩) rs.length cx, .slice (some ⟨hx, 0, none⟩) hs.length dx] 30) = V5 at *
      generalize w4.heap.size = P1 at *
      generalize V3.heap.size = b1 at *
      go_cut [9, 10] (fun s9 s10 wx => ∃ (P2 : Nat) (A6 : Option Addr) (c6 : Nat) (B6 : Option Addr) (d6 : Nat) (X6 : Nat → Prop), s9 = .pointer (some ⟨P2, 0, none⟩) ∧ s10 = .bool ok ∧ Below V5.heap.size V5 wx ∧ Box wx P2 30 #[.slice A6 ws.length c6, .slice B6 vs.length d6] ∧ TabM wx A6 B6 ws vs X6 ∧ (∀ b, X6 b → P1 < b ∧ b ≠ P2) ∧ P1 < P2)
      case first =>
        obtain ⟨z1, e10, e11, -, -⟩ := K15.out.two
        obtain ⟨z2, x20, x21, x22, -, -, -⟩ := R5.out.trip
        obtain ⟨BB, hB0, hB2⟩ : ∃ BB, BB ≤ V5.drew.heap.size ∧ V5.drew.heap.size ≤ BB := ⟨_, Nat.le_refl _, Nat.le_refl _⟩
        have hX := fun (y : ExtB BB V5.drew) (bb o : Nat) (h : bb < BB) => (show y.w.cell? ⟨bb, o, none⟩ = V5.cell? ⟨bb, o, none⟩ from y.cell bb o h)
        have z1' : P1 < BB := Nat.lt_of_lt_of_le (show P1 < V5.drew.heap.size from z1) hB2
        have z2' : w.heap.size + 1 < BB := Nat.lt_of_lt_of_le (show w.heap.size + 1 < V5.drew.heap.size from z2) hB2
        have Bl0 := Lib.hid (show Below V5.heap.size V5 V5.drew from (Below.refl _ _).drew)
        have AT0 := Lib.hid (AX5.out.below (show Below V5.heap.size V5 V5.drew from (Below.refl _ _).drew) AX5.out.lt)
        have NT0 := Lib.hid (NX5.out.below (show Below V5.heap.size V5 V5.drew from (Below.refl _ _).drew) NX5.out.lt)
        go_wp2_with fail
        refine wp_region_stg 10 BB (by kernel_rfl) (by kernel_rfl) ?_
        refine stg_seg _ 8 [0, 1] (by kernel_rfl) (by kernel_rfl) (by kernel_rfl) (by kernel_rfl) ?_
        (simp only [List.map_cons, List.map_nil, List.getElem?_cons_zero, List.getElem?_cons_succ, Option.getD_some]); (repeat (go_big_quiet_step (fail))); (refine wpQuiet_nil ?_)
        clear hX z1 e10 e11 z2 x20 x21 x22 z1' z2' hB2
        generalize V5.drew = wd at *
        refine stg_two _ 7 2 7 (by rfl) (by rfl) (by rfl) (by kernel_rfl) (by rfl) (by rfl) ?_ ?_
        · go_wp2_with fail
          refine (CR wd).mono ?_
          rintro e wdr ⟨rfl, hb⟩
          refine ⟨hb.mono hB0, _, Nat.le_refl _, ?_⟩
          have Bl1 := Lib.hid (Bl0.out.trans (hb.mono Bl0.out.size))
          have hB1 := Nat.le_trans hB0 hb.size
          have AT1 := Lib.hid (AT0.out.below hb AT0.out.lt)
          have NT1 := Lib.hid (NT0.out.below hb NT0.out.lt)
          clear hb Bl0 AT0 NT0
          refine stg_two _ 6 3 7 (by rfl) (by rfl) (by rfl) (by kernel_rfl) (by rfl) (by rfl) ?_ ?_
          · go_wp2_with fail
            refine (CI gx cx hx dx wdr hcx (AT1.out.sl AT1.out.lt) (NT1.out.sli NT1.out.lt)).mono ?_
            rintro e wdrs ⟨v, rfl, A0, c0, B0, d0, X6, rfl, hm6, hx6, hb⟩
            refine ⟨hb.mono hB1, _, Nat.le_refl _, ?_⟩
            have h5s := (Nat.le_refl wdr.heap.size)
            have hBs := hB1
            have h1s := Bl1.out.size
            have Bl2 := Lib.hid (Bl1.out.trans (hb.mono Bl1.out.size))
            have hB2 := Nat.le_trans hB1 hb.size
            have AT2 := Lib.hid (AT1.out.below hb AT1.out.lt)
            have NT2 := Lib.hid (NT1.out.below hb NT1.out.lt)
            clear hb Bl1 AT1 NT1
            refine stg_seg _ 3 [4, 5, 6] (by kernel_rfl) (by kernel_rfl) (by kernel_rfl) (by kernel_rfl) ?_
            (simp only [List.map_cons, List.map_nil, List.getElem?_cons_zero, List.getElem?_cons_succ, Option.getD_some]); (repeat (go_big_quiet_step (fail))); (refine wpQuiet_nil ?_)
            refine stg_one _ 2 7 (by kernel_rfl) (by rfl) (by kernel_rfl) (by rfl) ?_
            go_wp2_with fail
            refine ⟨((Below.refl _ _).alloc (Nat.le_refl _) _).mono hB2, _, Nat.le_refl _, ?_⟩
            refine stg_one _ 1 8 (by kernel_rfl) (by rfl) (by kernel_rfl) (by rfl) ?_
            go_wp2_with fail
            refine ⟨(below_aa _ _ _).mono hB2, _, Nat.le_refl _, ?_⟩
            refine stg_seg _ 0 [9] (by kernel_rfl) (by kernel_rfl) (by kernel_rfl) (by kernel_rfl) ?_
            (simp only [List.map_cons, List.map_nil, List.getElem?_cons_zero, List.getElem?_cons_succ, Option.getD_some]); (repeat (go_big_quiet_step (fail))); (refine wpQuiet_nil ?_)
            refine stg_end (by kernel_rfl) ?_
            have hba : Below wdrs.heap.size wdrs (wdrs.alloc (.cells #[.slice A0 ws.length c0, .slice B0 vs.length d0] 30)) := (Below.refl _ _).alloc (Nat.le_refl _) _
            go_wp2_with fail
            go_meet
            case rel =>
              exact ⟨wdrs.heap.size, A0, c0, B0, d0, X6, rfl, rfl, Bl2.out.trans (hba.mono Bl2.out.size), Box.new wdrs _ _, hm6.below hba, fun b h => ⟨by have := hx6 b h; omega, by have := hm6.lt h; omega⟩, by have := Bl2.out.size; omega⟩
          · go_wp2_with fail
            refine ⟨((Below.refl _ _).alloc (Nat.le_refl _) _).mono hB1, _, Nat.le_refl _, ?_⟩
            have hb : Below wdr.heap.size wdr (wdr.alloc (.cells #[.slice none 0 0, .slice none 0 0] 30)) := (Below.refl _ _).alloc (Nat.le_refl _) _
            have hZs : wdr.heap.size + 1 ≤ (wdr.alloc (.cells #[.slice none 0 0, .slice none 0 0] 30)).heap.size := by simp
            have hBZ := hB1
            have h1Z := Bl1.out.size
            have hgtZ := AT1.out.lt
            have hhtZ := NT1.out.lt
            have Bl2 := Lib.hid (Bl1.out.trans (hb.mono Bl1.out.size))
            have hB2 := Nat.le_trans hB1 hb.size
            have AT2 := Lib.hid (AT1.out.below hb AT1.out.lt)
            have NT2 := Lib.hid (NT1.out.below hb NT1.out.lt)
            have Z2 := Lib.hid (Box.new wdr 30 #[.slice none 0 0, .slice none 0 0])
            clear hb Bl1 AT1 NT1
            generalize wdr.alloc (.cells #[.slice none 0 0, .slice none 0 0] 30) = wdrz at *
            generalize wdr.heap.size = Z at *
            refine stg_one _ 5 3 (by kernel_rfl) (by rfl) (by kernel_rfl) (by rfl) ?_
            go_wp2_with fail
            refine (CI gx cx hx dx wdrz hcx (AT2.out.sl AT2.out.lt) (NT2.out.sli NT2.out.lt)).mono ?_
            rintro e wdrzs ⟨v, rfl, A0, c0, B0, d0, X6, rfl, hm6, hx6, hb⟩
            refine ⟨hb.mono hB2, _, Nat.le_refl _, ?_⟩
            have hZl := Z2.out.lt
            have h5s := (Nat.le_refl wdrz.heap.size)
            have hBs := hB2
            have h1s := Bl2.out.size
            have Bl3 := Lib.hid (Bl2.out.trans (hb.mono Bl2.out.size))
            have hB3 := Nat.le_trans hB2 hb.size
            have AT3 := Lib.hid (AT2.out.below hb AT2.out.lt)
            have NT3 := Lib.hid (NT2.out.below hb NT2.out.lt)
            have Z3 := Lib.hid (Z2.out.below hb Z2.out.lt)
            clear hb Bl2 AT2 NT2 Z2
            refine stg_seg _ 2 [4, 5, 6] (by kernel_rfl) (by kernel_rfl) (by kernel_rfl) (by kernel_rfl) ?_
            (simp only [List.map_cons, List.map_nil, List.getElem?_cons_zero, List.getElem?_cons_succ, Option.getD_some]); (repeat (go_big_quiet_step (fail))); (refine wpQuiet_nil ?_)
            obtain ⟨zq, q0, q1, f0, f1⟩ := Z3.out.two
            refine stg_one _ 1 8 (by kernel_rfl) (by rfl) (by kernel_rfl) (by rfl) ?_
            go_wp2_with fail
            refine ⟨((Below.refl _ _).setCell (p := ⟨Z, 0, none⟩) hBZ _).setCell (p := ⟨Z, 1, none⟩) hBZ _, _, Nat.le_refl _, ?_⟩
            refine stg_seg _ 0 [9] (by kernel_rfl) (by kernel_rfl) (by kernel_rfl) (by kernel_rfl) ?_
            (simp only [List.map_cons, List.map_nil, List.getElem?_cons_zero, List.getElem?_cons_succ, Option.getD_some]); (repeat (go_big_quiet_step (fail))); (refine wpQuiet_nil ?_)
            refine stg_end (by kernel_rfl) ?_
            go_wp2_with fail
            go_meet
            case rel =>
              exact ⟨Z, A0, c0, B0, d0, X6, rfl, rfl, (Bl3.out.setCell (p := ⟨Z, 0, none⟩) (by dsimp only; omega) _).setCell (p := ⟨Z, 1, none⟩) (by dsimp only; omega) _, (ret_two Z3.out (.slice A0 ws.length c0) (.slice B0 vs.length d0)).1, (hm6.kept (w' := ((wdrzs.setCell ⟨Z, 0, none⟩ (.slice A0 ws.length c0)).setCell ⟨Z, 1, none⟩ (.slice B0 vs.length d0))) (fun b h => (Below.heap_setCell _ ⟨Z, 1, none⟩ _ b (by have := hx6 b h; dsimp only; omega)).trans (Below.heap_setCell _ ⟨Z, 0, none⟩ _ b (by have := hx6 b h; dsimp only; omega)))), fun b h => ⟨by have := hx6 b h; omega, by have := hx6 b h; omega⟩, by omega⟩
        · go_wp2_with fail
          refine ⟨((Below.refl _ _).alloc (Nat.le_refl _) _).mono hB0, _, Nat.le_refl _, ?_⟩
          have hb : Below wd.heap.size wd (wd.alloc (.cells #[.slice none 0 0, .slice none 0 0] 30)) := (Below.refl _ _).alloc (Nat.le_refl _) _
          have hZs : wd.heap.size + 1 ≤ (wd.alloc (.cells #[.slice none 0 0, .slice none 0 0] 30)).heap.size := by simp
          have hBZ := hB0
          have h1Z := Bl0.out.size
          have hgtZ := AT0.out.lt
          have hhtZ := NT0.out.lt
          have Bl1 := Lib.hid (Bl0.out.trans (hb.mono Bl0.out.size))
          have hB1 := Nat.le_trans hB0 hb.size
          have AT1 := Lib.hid (AT0.out.below hb AT0.out.lt)
          have NT1 := Lib.hid (NT0.out.below hb NT0.out.lt)
          have Z1 := Lib.hid (Box.new wd 30 #[.slice none 0 0, .slice none 0 0])
          clear hb Bl0 AT0 NT0
          generalize wd.alloc (.cells #[.slice none 0 0, .slice none 0 0] 30) = wdz at *
          generalize wd.heap.size = Z at *
          refine stg_one _ 6 2 (by kernel_rfl) (by rfl) (by kernel_rfl) (by rfl) ?_
          go_wp2_with fail
          refine (CR wdz).mono ?_
          rintro e wdzr ⟨rfl, hb⟩
          refine ⟨hb.mono hB1, _, Nat.le_refl _, ?_⟩
          have Bl2 := Lib.hid (Bl1.out.trans (hb.mono Bl1.out.size))
          have hB2 := Nat.le_trans hB1 hb.size
          have AT2 := Lib.hid (AT1.out.below hb AT1.out.lt)
          have NT2 := Lib.hid (NT1.out.below hb NT1.out.lt)
          have Z2 := Lib.hid (Z1.out.below hb Z1.out.lt)
          clear hb Bl1 AT1 NT1 Z1
          refine stg_one _ 5 3 (by kernel_rfl) (by rfl) (by kernel_rfl) (by rfl) ?_
          go_wp2_with fail
          refine (CI gx cx hx dx wdzr hcx (AT2.out.sl AT2.out.lt) (NT2.out.sli NT2.out.lt)).mono ?_
          rintro e wdzrs ⟨v, rfl, A0, c0, B0, d0, X6, rfl, hm6, hx6, hb⟩
          refine ⟨hb.mono hB2, _, Nat.le_refl _, ?_⟩
          have hZl := Z2.out.lt
          have h5s := (Nat.le_refl wdzr.heap.size)
          have hBs := hB2
          have h1s := Bl2.out.size
          have Bl3 := Lib.hid (Bl2.out.trans (hb.mono Bl2.out.size))
          have hB3 := Nat.le_trans hB2 hb.size
          have AT3 := Lib.hid (AT2.out.below hb AT2.out.lt)
          have NT3 := Lib.hid (NT2.out.below hb NT2.out.lt)
          have Z3 := Lib.hid (Z2.out.below hb Z2.out.lt)
          clear hb Bl2 AT2 NT2 Z2
          refine stg_seg _ 2 [4, 5, 6] (by kernel_rfl) (by kernel_rfl) (by kernel_rfl) (by kernel_rfl) ?_
          (simp only [List.map_cons, List.map_nil, List.getElem?_cons_zero, List.getElem?_cons_succ, Option.getD_some]); (repeat (go_big_quiet_step (fail))); (refine wpQuiet_nil ?_)
          obtain ⟨zq, q0, q1, f0, f1⟩ := Z3.out.two
          refine stg_one _ 1 8 (by kernel_rfl) (by rfl) (by kernel_rfl) (by rfl) ?_
          go_wp2_with fail
          refine ⟨((Below.refl _ _).setCell (p := ⟨Z, 0, none⟩) hBZ _).setCell (p := ⟨Z, 1, none⟩) hBZ _, _, Nat.le_refl _, ?_⟩
          refine stg_seg _ 0 [9] (by kernel_rfl) (by kernel_rfl) (by kernel_rfl) (by kernel_rfl) ?_
          (simp only [List.map_cons, List.map_nil, List.getElem?_cons_zero, List.getElem?_cons_succ, Option.getD_some]); (repeat (go_big_quiet_step (fail))); (refine wpQuiet_nil ?_)
          refine stg_end (by kernel_rfl) ?_
          go_wp2_with fail
          go_meet
          case rel =>
            exact ⟨Z, A0, c0, B0, d0, X6, rfl, rfl, (Bl3.out.setCell (p := ⟨Z, 0, none⟩) (by dsimp only; omega) _).setCell (p := ⟨Z, 1, none⟩) (by dsimp only; omega) _, (ret_two Z3.out (.slice A0 ws.length c0) (.slice B0 vs.length d0)).1, (hm6.kept (w' := ((wdzrs.setCell ⟨Z, 0, none⟩ (.slice A0 ws.length c0)).setCell ⟨Z, 1, none⟩ (.slice B0 vs.length d0))) (fun b h => (Below.heap_setCell _ ⟨Z, 1, none⟩ _ b (by have := hx6 b h; dsimp only; omega)).trans (Below.heap_setCell _ ⟨Z, 0, none⟩ _ b (by have := hx6 b h; dsimp only; omega)))), fun b h => ⟨by have := hx6 b h; omega, by have := hx6 b h; omega⟩, by omega⟩
      case rest =>
        obtain ⟨P2, A6, c6, B6, d6, X6, rfl, rfl, hb7, hk2, hm6, hx6, hPP⟩ := hcut
        rename World => V7
        have HXP := Lib.hid hx6
        have E7 := Lib.hid (show ES w #[.slice A rs.length c, .slice B hs.length d] #[.slice A0 ws.length c0, .slice B0 vs.length d0] #[.slice (some ⟨gx, 0, none⟩) rs.length cx, .slice (some ⟨hx, 0, none⟩) hs.length dx] #[.slice A6 ws.length c6, .slice B6 vs.length d6] P0 P1 P2 A0 B0 ws vs b1 V7 from
          ⟨B5.out.trans (hb7.mono B5.out.size), I5.out.below hb7 I5.out.lt, K05.out.below hb7 K05.out.lt, K15.out.below hb7 K15.out.lt, hk2, S5.out.below (hb7.mono (by omega)), N5.out.below (hb7.mono (by omega)), hIl, h0l, by have := hb7.size; omega⟩)
        have M7 := Lib.hid hm6
        have R7 := Lib.hid (R5.out.below hb7 R5.out.lt)
        have AX7 := Lib.hid (AX5.out.below hb7 AX5.out.lt)
        have NX7 := Lib.hid (NX5.out.below hb7 NX5.out.lt)
        clear hb7 hk2 hm6 hx6 B5 I5 K15 S5 N5 AX5 NX5 K05 hsz5 R5
        obtain ⟨y1, f10, f11, -, -⟩ := E7.out.k0.two
        obtain ⟨y2, f20, f21, -, -⟩ := E7.out.k2.two
        go_wp2_with fail
        clear y1 f10 f11 y2 f20 f21
        refine (CE A6 A0 c6 c0 B6 B0 d6 d0 V7 M7.out.sl E7.out.sl M7.out.sli E7.out.sli).mono ?_
        rintro e w8 ⟨rfl, hb8⟩
        have E8 := Lib.hid (E7.out.below hb8)
        have R8 := Lib.hid (R7.out.below hb8 R7.out.lt)
        have M8 := Lib.hid (M7.out.below hb8)
        have AX8 := Lib.hid (AX7.out.below hb8 AX7.out.lt)
        have NX8 := Lib.hid (NX7.out.below hb8 NX7.out.lt)
        clear hb8 E7 M7 AX7 NX7
        obtain ⟨y0, f00, f01, -, -⟩ := E8.out.kI.two
        obtain ⟨y1, f10, f11, -, -⟩ := E8.out.k1.two
        have hX := fun (x : Ext w8.drew) (bb o : Nat) (h : bb < w8.heap.size) => (show x.w.cell? ⟨bb, o, none⟩ = w8.cell? ⟨bb, o, none⟩ from x.cell bb o h)
        have hbd : Below w8.heap.size w8 w8.drew := (Below.refl _ _).drew
        have E8d := Lib.hid (E8.out.below hbd)
        have R8d := Lib.hid (R8.out.below hbd R8.out.lt)
        have M8d := Lib.hid (M8.out.below hbd)
        have AX8d := Lib.hid (AX8.out.below hbd AX8.out.lt)
        have NX8d := Lib.hid (NX8.out.below hbd NX8.out.lt)
        clear hbd E8 M8 AX8 NX8
        go_wp2_with fail
        refine wp_region_staged 5 (by kernel_rfl) (by kernel_rfl) ?_
        refine stage_seg _ 3 [0, 1] (by kernel_rfl) (by kernel_rfl) (by kernel_rfl) (by kernel_rfl) ?_
        (simp only [List.map_cons, List.map_nil, List.getElem?_cons_zero, List.getElem?_cons_succ, Option.getD_some]); (repeat (go_big_quiet_step (fail))); (refine wpQuiet_nil ?_)
        clear hX y0 f00 f01 y1 f10 f11
        refine stage_call _ 2 2 (by kernel_rfl) (by rfl) (by kernel_rfl) (by rfl) ?_
        go_wp2_with fail
        refine (CT w8.drew E8d.out.bel).mono ?_
        rintro e w9 ⟨v, rfl, g8, c8, g9, d8, rfl, -, -, ha, ha', hb9, -, -, -⟩
        refine ⟨hb9, ?_⟩
        have E9 := Lib.hid (E8d.out.below hb9)
        have R9 := Lib.hid (R8d.out.below hb9 R8d.out.lt)
        have M9 := Lib.hid (M8d.out.below hb9)
        have AX9 := Lib.hid (AX8d.out.below hb9 AX8d.out.lt)
        have NX9 := Lib.hid (NX8d.out.below hb9 NX8d.out.lt)
        have C8 := eqTable_same (some ⟨gx, 0, none⟩) (some ⟨g8, 0, none⟩) rs cx c8 (some ⟨hx, 0, none⟩) (some ⟨g9, 0, none⟩) hs dx d8 w9 (by omega) (by omega) (AX9.out.sl AX9.out.lt) (ha.sl ha.lt) (NX9.out.sli NX9.out.lt) (ha'.sli ha'.lt)
        clear hb9 ha ha' E8d M8d AX8d NX8d
        refine stage_call _ 1 3 (by kernel_rfl) (by rfl) (by kernel_rfl) (by rfl) ?_
        go_wp2_with fail
        refine C8.mono ?_
        clear C8
        rintro e w10 ⟨rfl, hb10⟩
        refine ⟨hb10, ?_⟩
        have E10 := Lib.hid (E9.out.below hb10)
        have R10 := Lib.hid (R9.out.below hb10 R9.out.lt)
        have M10 := Lib.hid (M9.out.below hb10)
        have AX10 := Lib.hid (AX9.out.below hb10 AX9.out.lt)
        have NX10 := Lib.hid (NX9.out.below hb10 NX9.out.lt)
        clear hb10 E9 M9 AX9 NX9
        refine stage_seg _ 0 [4] (by kernel_rfl) (by kernel_rfl) (by kernel_rfl) (by kernel_rfl) ?_
        (simp only [List.map_cons, List.map_nil, List.getElem?_cons_zero, List.getElem?_cons_succ, Option.getD_some]); (repeat (go_big_quiet_step (fail))); (refine wpQuiet_nil ?_)
        refine stage_end (by kernel_rfl) ?_
        obtain ⟨y1, f10, f11, -, -⟩ := E10.out.k1.two
        go_wp2_with fail
        refine (markTable_any gx rs cx hx hs dx 1 w10 (by omega) (by omega) (by omega) (by omega) AX10.out NX10.out).mono ?_
        rintro e w11 ⟨rfl, -, -, hk11⟩
        have E11 := Lib.hid (E10.out.kx hk11 (fun b h => by rcases h with rfl | rfl <;> (refine ⟨by omega, by omega, by omega⟩)))
        have R11 := Lib.hid (hk11.box R10.out (fun e => by rcases e with e | e <;> omega))
        have M11 := Lib.hid (M10.out.kept (fun b h => hk11.block b (M10.out.lt h) (fun e => by have := (HXP.out b h).1; omega)))
        clear hk11 E10 M10 AX10 NX10 y1 f10 f11
        have hkn : ¬ ((1 : Int) + 3 * (rs.length : Int) + (hs.length : Int) < 0) := by omega
        obtain ⟨y0, f00, f01, -, -⟩ := E11.out.k0.two
        obtain ⟨y2, f20, f21, -, -⟩ := E11.out.k2.two
        go_wp2_with fail
        refine (CE A6 A0 c6 c0 B6 B0 d6 d0 w11 M11.out.sl E11.out.sl M11.out.sli E11.out.sli).mono ?_
        rintro e w12 ⟨rfl, hb12⟩
        have E12 := Lib.hid (E11.out.below hb12)
        have R12 := Lib.hid (R11.out.below hb12 R11.out.lt)
        have M12 := Lib.hid (M11.out.below hb12)
        clear hb12 E11 M11 y0 f00 f01 y2 f20 f21
        obtain ⟨y2, f20, f21, -, -⟩ := E12.out.k2.two
        go_wp2_with fail
        refine (markTabM_any A6 B6 ws c6 vs d6 X6 1 w12 (by omega) (by omega) (by omega) (by omega) M12.out).mono ?_
        rintro e w13 ⟨rfl, hK, hk13⟩
        have E13 := Lib.hid (E12.out.kx hk13 (fun b h => by have := HXP.out b h; refine ⟨by omega, by omega, by omega⟩))
        have R13 := Lib.hid (hk13.box R12.out (fun e => by have := HXP.out _ e; omega))
        have K13 := Lib.hid hK
        clear hk13 hK E12 M12 y2 f20 f21 hkn
        have hkm : ¬ ((1 : Int) + 3 * (ws.length : Int) + (vs.length : Int) < 0) := by omega
        obtain ⟨y2, f20, f21, -, -⟩ := E13.out.k2.two
        go_wp2_with fail
        refine (heldTabK_any A6 B6 ws.length c6 vs.length d6 1 w13 (by omega) (by omega) (by omega) (by omega) K13.out).mono ?_
        rintro e w14 ⟨rfl, hb14⟩
        have E14 := Lib.hid (E13.out.below hb14)
        have R14 := Lib.hid (R13.out.below hb14 R13.out.lt)
        have K14 := Lib.hid (K13.out.below hb14)
        clear hb14 E13 K13 y2 f20 f21
        go_upto_region 24 with fail
        go_cut [14, 15] (fun s14 s15 wx => ∃ (P3 : Nat) (A9 : Option Addr) (c9 : Nat) (B9 : Option Addr) (d9 : Nat), s14 = .pointer (some ⟨P3, 0, none⟩) ∧ s15 = .bool ok ∧ Below w14.heap.size w14 wx ∧ Box wx P3 30 #[.slice A9 ws.length c9, .slice B9 vs.length d9] ∧ Sl wx wx.heap.size A9 ws ∧ Sli wx wx.heap.size B9 vs)
        case first =>
          have B1 := Lib.hid E14.out.bel
          obtain ⟨z1, e10, e11, -, -⟩ := E14.out.kI.two
          obtain ⟨z2, x20, x21, x22, -, -, -⟩ := R14.out.trip
          obtain ⟨BB, hB0, hB2⟩ : ∃ BB, BB ≤ w14.drew.heap.size ∧ w14.drew.heap.size ≤ BB := ⟨_, Nat.le_refl _, Nat.le_refl _⟩
          have hX := fun (y : ExtB BB w14.drew) (bb o : Nat) (h : bb < BB) => (show y.w.cell? ⟨bb, o, none⟩ = w14.cell? ⟨bb, o, none⟩ from y.cell bb o h)
          have z1' : w.heap.size < BB := Nat.lt_of_lt_of_le (show w.heap.size < w14.drew.heap.size from z1) hB2
          have z2' : w.heap.size + 1 < BB := Nat.lt_of_lt_of_le (show w.heap.size + 1 < w14.drew.heap.size from z2) hB2
          have Bl0 := Lib.hid (show Below w14.heap.size w14 w14.drew from (Below.refl _ _).drew)
          go_wp2_with fail
          refine wp_region_stg 11 BB (by kernel_rfl) (by kernel_rfl) ?_
          refine stg_seg _ 9 [0, 2] (by kernel_rfl) (by kernel_rfl) (by kernel_rfl) (by kernel_rfl) ?_
          (simp only [List.map_cons, List.map_nil, List.getElem?_cons_zero, List.getElem?_cons_succ, Option.getD_some]); (repeat (go_big_quiet_step (fail))); (refine wpQuiet_nil ?_)
          clear hX z1 e10 e11 z2 x20 x21 x22 z1' z2' hB2
          generalize w14.drew = wd at *
          refine stg_two _ 8 1 8 (by rfl) (by rfl) (by rfl) (by kernel_rfl) (by rfl) (by rfl) ?_ ?_
          · go_wp2_with fail
            refine (CT wd (B1.out.trans (Bl0.out.mono B1.out.size))).mono ?_
            rintro e wdt ⟨v, rfl, gt, ct, ht, dt, rfl, -, -, ha, ha', hb, hct, -, -⟩
            refine ⟨hb.mono hB0, _, Nat.le_refl _, ?_⟩
            have Bl1 := Lib.hid (Bl0.out.trans (hb.mono Bl0.out.size))
            have hB1 := Nat.le_trans hB0 hb.size
            have AT1 := Lib.hid ha
            have NT1 := Lib.hid ha'
            clear ha ha' hb Bl0
            refine stg_two _ 7 3 8 (by rfl) (by rfl) (by rfl) (by kernel_rfl) (by rfl) (by rfl) ?_ ?_
            · go_wp2_with fail
              refine (CR wdt).mono ?_
              rintro e wdtr ⟨rfl, hb⟩
              refine ⟨hb.mono hB1, _, Nat.le_refl _, ?_⟩
              have Bl2 := Lib.hid (Bl1.out.trans (hb.mono Bl1.out.size))
              have hB2 := Nat.le_trans hB1 hb.size
              have AT2 := Lib.hid (AT1.out.below hb AT1.out.lt)
              have NT2 := Lib.hid (NT1.out.below hb NT1.out.lt)
              clear hb Bl1 AT1 NT1
              refine stg_two _ 6 4 8 (by rfl) (by rfl) (by rfl) (by kernel_rfl) (by rfl) (by rfl) ?_ ?_
              · go_wp2_with fail
                refine (CI gt ct ht dt wdtr hct (AT2.out.sl AT2.out.lt) (NT2.out.sli NT2.out.lt)).mono ?_
                rintro e wdtrs ⟨v, rfl, A0, c0, B0, d0, X6, rfl, hm6, hx6, hb⟩
                refine ⟨hb.mono hB2, _, Nat.le_refl _, ?_⟩
                have h5s := (Nat.le_refl wdtr.heap.size)
                have hBs := hB2
                have h1s := Bl2.out.size
                have Bl3 := Lib.hid (Bl2.out.trans (hb.mono Bl2.out.size))
                have hB3 := Nat.le_trans hB2 hb.size
                have AT3 := Lib.hid (AT2.out.below hb AT2.out.lt)
                have NT3 := Lib.hid (NT2.out.below hb NT2.out.lt)
                clear hb Bl2 AT2 NT2
                refine stg_seg _ 3 [5, 6, 7] (by kernel_rfl) (by kernel_rfl) (by kernel_rfl) (by kernel_rfl) ?_
                (simp only [List.map_cons, List.map_nil, List.getElem?_cons_zero, List.getElem?_cons_succ, Option.getD_some]); (repeat (go_big_quiet_step (fail))); (refine wpQuiet_nil ?_)
                refine stg_one _ 2 8 (by kernel_rfl) (by rfl) (by kernel_rfl) (by rfl) ?_
                go_wp2_with fail
                refine ⟨((Below.refl _ _).alloc (Nat.le_refl _) _).mono hB3, _, Nat.le_refl _, ?_⟩
                refine stg_one _ 1 9 (by kernel_rfl) (by rfl) (by kernel_rfl) (by rfl) ?_
                go_wp2_with fail
                refine ⟨(below_aa _ _ _).mono hB3, _, Nat.le_refl _, ?_⟩
                refine stg_seg _ 0 [10] (by kernel_rfl) (by kernel_rfl) (by kernel_rfl) (by kernel_rfl) ?_
                (simp only [List.map_cons, List.map_nil, List.getElem?_cons_zero, List.getElem?_cons_succ, Option.getD_some]); (repeat (go_big_quiet_step (fail))); (refine wpQuiet_nil ?_)
                refine stg_end (by kernel_rfl) ?_
                have hba : Below wdtrs.heap.size wdtrs (wdtrs.alloc (.cells #[.slice A0 ws.length c0, .slice B0 vs.length d0] 30)) := (Below.refl _ _).alloc (Nat.le_refl _) _
                go_wp2_with fail
                go_meet
                case rel =>
                  exact ⟨wdtrs.heap.size, A0, c0, B0, d0, rfl, rfl, Bl3.out.trans (hba.mono Bl3.out.size), Box.new wdtrs _ _, (hm6.below hba).sl, (hm6.below hba).sli⟩
              · go_wp2_with fail
                refine ⟨((Below.refl _ _).alloc (Nat.le_refl _) _).mono hB2, _, Nat.le_refl _, ?_⟩
                have hb : Below wdtr.heap.size wdtr (wdtr.alloc (.cells #[.slice none 0 0, .slice none 0 0] 30)) := (Below.refl _ _).alloc (Nat.le_refl _) _
                have hZs : wdtr.heap.size + 1 ≤ (wdtr.alloc (.cells #[.slice none 0 0, .slice none 0 0] 30)).heap.size := by simp
                have hBZ := hB2
                have h1Z := Bl2.out.size
                have hgtZ := AT2.out.lt
                have hhtZ := NT2.out.lt
                have Bl3 := Lib.hid (Bl2.out.trans (hb.mono Bl2.out.size))
                have hB3 := Nat.le_trans hB2 hb.size
                have AT3 := Lib.hid (AT2.out.below hb AT2.out.lt)
                have NT3 := Lib.hid (NT2.out.below hb NT2.out.lt)
                have Z3 := Lib.hid (Box.new wdtr 30 #[.slice none 0 0, .slice none 0 0])
                clear hb Bl2 AT2 NT2
                generalize wdtr.alloc (.cells #[.slice none 0 0, .slice none 0 0] 30) = wdtrz at *
                generalize wdtr.heap.size = Z at *
                refine stg_one _ 5 4 (by kernel_rfl) (by rfl) (by kernel_rfl) (by rfl) ?_
                go_wp2_with fail
                refine (CI gt ct ht dt wdtrz hct (AT3.out.sl AT3.out.lt) (NT3.out.sli NT3.out.lt)).mono ?_
                rintro e wdtrzs ⟨v, rfl, A0, c0, B0, d0, X6, rfl, hm6, hx6, hb⟩
                refine ⟨hb.mono hB3, _, Nat.le_refl _, ?_⟩
                have hZl := Z3.out.lt
                have h5s := (Nat.le_refl wdtrz.heap.size)
                have hBs := hB3
                have h1s := Bl3.out.size
                have Bl4 := Lib.hid (Bl3.out.trans (hb.mono Bl3.out.size))
                have hB4 := Nat.le_trans hB3 hb.size
                have AT4 := Lib.hid (AT3.out.below hb AT3.out.lt)
                have NT4 := Lib.hid (NT3.out.below hb NT3.out.lt)
                have Z4 := Lib.hid (Z3.out.below hb Z3.out.lt)
                clear hb Bl3 AT3 NT3 Z3
                refine stg_seg _ 2 [5, 6, 7] (by kernel_rfl) (by kernel_rfl) (by kernel_rfl) (by kernel_rfl) ?_
                (simp only [List.map_cons, List.map_nil, List.getElem?_cons_zero, List.getElem?_cons_succ, Option.getD_some]); (repeat (go_big_quiet_step (fail))); (refine wpQuiet_nil ?_)
                obtain ⟨zq, q0, q1, f0, f1⟩ := Z4.out.two
                refine stg_one _ 1 9 (by kernel_rfl) (by rfl) (by kernel_rfl) (by rfl) ?_
                go_wp2_with fail
                refine ⟨((Below.refl _ _).setCell (p := ⟨Z, 0, none⟩) hBZ _).setCell (p := ⟨Z, 1, none⟩) hBZ _, _, Nat.le_refl _, ?_⟩
                refine stg_seg _ 0 [10] (by kernel_rfl) (by kernel_rfl) (by kernel_rfl) (by kernel_rfl) ?_
                (simp only [List.map_cons, List.map_nil, List.getElem?_cons_zero, List.getElem?_cons_succ, Option.getD_some]); (repeat (go_big_quiet_step (fail))); (refine wpQuiet_nil ?_)
                refine stg_end (by kernel_rfl) ?_
                go_wp2_with fail
                go_meet
                case rel =>
                  exact ⟨Z, A0, c0, B0, d0, rfl, rfl, (Bl4.out.setCell (p := ⟨Z, 0, none⟩) (by dsimp only; omega) _).setCell (p := ⟨Z, 1, none⟩) (by dsimp only; omega) _, (ret_two Z4.out (.slice A0 ws.length c0) (.slice B0 vs.length d0)).1, (hm6.kept (w' := ((wdtrzs.setCell ⟨Z, 0, none⟩ (.slice A0 ws.length c0)).setCell ⟨Z, 1, none⟩ (.slice B0 vs.length d0))) (fun b h => (Below.heap_setCell _ ⟨Z, 1, none⟩ _ b (by have := hx6 b h; dsimp only; omega)).trans (Below.heap_setCell _ ⟨Z, 0, none⟩ _ b (by have := hx6 b h; dsimp only; omega)))).sl, (hm6.kept (w' := ((wdtrzs.setCell ⟨Z, 0, none⟩ (.slice A0 ws.length c0)).setCell ⟨Z, 1, none⟩ (.slice B0 vs.length d0))) (fun b h => (Below.heap_setCell _ ⟨Z, 1, none⟩ _ b (by have := hx6 b h; dsimp only; omega)).trans (Below.heap_setCell _ ⟨Z, 0, none⟩ _ b (by have := hx6 b h; dsimp only; omega)))).sli⟩
            · go_wp2_with fail
              refine ⟨((Below.refl _ _).alloc (Nat.le_refl _) _).mono hB1, _, Nat.le_refl _, ?_⟩
              have hb : Below wdt.heap.size wdt (wdt.alloc (.cells #[.slice none 0 0, .slice none 0 0] 30)) := (Below.refl _ _).alloc (Nat.le_refl _) _
              have hZs : wdt.heap.size + 1 ≤ (wdt.alloc (.cells #[.slice none 0 0, .slice none 0 0] 30)).heap.size := by simp
              have hBZ := hB1
              have h1Z := Bl1.out.size
              have hgtZ := AT1.out.lt
              have hhtZ := NT1.out.lt
              have Bl2 := Lib.hid (Bl1.out.trans (hb.mono Bl1.out.size))
              have hB2 := Nat.le_trans hB1 hb.size
              have AT2 := Lib.hid (AT1.out.below hb AT1.out.lt)
              have NT2 := Lib.hid (NT1.out.below hb NT1.out.lt)
              have Z2 := Lib.hid (Box.new wdt 30 #[.slice none 0 0, .slice none 0 0])
              clear hb Bl1 AT1 NT1
              generalize wdt.alloc (.cells #[.slice none 0 0, .slice none 0 0] 30) = wdtz at *
              generalize wdt.heap.size = Z at *
              refine stg_one _ 6 3 (by kernel_rfl) (by rfl) (by kernel_rfl) (by rfl) ?_
              go_wp2_with fail
              refine (CR wdtz).mono ?_
              rintro e wdtzr ⟨rfl, hb⟩
              refine ⟨hb.mono hB2, _, Nat.le_refl _, ?_⟩
              have Bl3 := Lib.hid (Bl2.out.trans (hb.mono Bl2.out.size))
              have hB3 := Nat.le_trans hB2 hb.size
              have AT3 := Lib.hid (AT2.out.below hb AT2.out.lt)
              have NT3 := Lib.hid (NT2.out.below hb NT2.out.lt)
              have Z3 := Lib.hid (Z2.out.below hb Z2.out.lt)
              clear hb Bl2 AT2 NT2 Z2
              refine stg_one _ 5 4 (by kernel_rfl) (by rfl) (by kernel_rfl) (by rfl) ?_
              go_wp2_with fail
              refine (CI gt ct ht dt wdtzr hct (AT3.out.sl AT3.out.lt) (NT3.out.sli NT3.out.lt)).mono ?_
              rintro e wdtzrs ⟨v, rfl, A0, c0, B0, d0, X6, rfl, hm6, hx6, hb⟩
              refine ⟨hb.mono hB3, _, Nat.le_refl _, ?_⟩
              have hZl := Z3.out.lt
              have h5s := (Nat.le_refl wdtzr.heap.size)
              have hBs := hB3
              have h1s := Bl3.out.size
              have Bl4 := Lib.hid (Bl3.out.trans (hb.mono Bl3.out.size))
              have hB4 := Nat.le_trans hB3 hb.size
              have AT4 := Lib.hid (AT3.out.below hb AT3.out.lt)
              have NT4 := Lib.hid (NT3.out.below hb NT3.out.lt)
              have Z4 := Lib.hid (Z3.out.below hb Z3.out.lt)
              clear hb Bl3 AT3 NT3 Z3
              refine stg_seg _ 2 [5, 6, 7] (by kernel_rfl) (by kernel_rfl) (by kernel_rfl) (by kernel_rfl) ?_
              (simp only [List.map_cons, List.map_nil, List.getElem?_cons_zero, List.getElem?_cons_succ, Option.getD_some]); (repeat (go_big_quiet_step (fail))); (refine wpQuiet_nil ?_)
              obtain ⟨zq, q0, q1, f0, f1⟩ := Z4.out.two
              refine stg_one _ 1 9 (by kernel_rfl) (by rfl) (by kernel_rfl) (by rfl) ?_
              go_wp2_with fail
              refine ⟨((Below.refl _ _).setCell (p := ⟨Z, 0, none⟩) hBZ _).setCell (p := ⟨Z, 1, none⟩) hBZ _, _, Nat.le_refl _, ?_⟩
              refine stg_seg _ 0 [10] (by kernel_rfl) (by kernel_rfl) (by kernel_rfl) (by kernel_rfl) ?_
              (simp only [List.map_cons, List.map_nil, List.getElem?_cons_zero, List.getElem?_cons_succ, Option.getD_some]); (repeat (go_big_quiet_step (fail))); (refine wpQuiet_nil ?_)
              refine stg_end (by kernel_rfl) ?_
              go_wp2_with fail
              go_meet
              case rel =>
                exact ⟨Z, A0, c0, B0, d0, rfl, rfl, (Bl4.out.setCell (p := ⟨Z, 0, none⟩) (by dsimp only; omega) _).setCell (p := ⟨Z, 1, none⟩) (by dsimp only; omega) _, (ret_two Z4.out (.slice A0 ws.length c0) (.slice B0 vs.length d0)).1, (hm6.kept (w' := ((wdtzrs.setCell ⟨Z, 0, none⟩ (.slice A0 ws.length c0)).setCell ⟨Z, 1, none⟩ (.slice B0 vs.length d0))) (fun b h => (Below.heap_setCell _ ⟨Z, 1, none⟩ _ b (by have := hx6 b h; dsimp only; omega)).trans (Below.heap_setCell _ ⟨Z, 0, none⟩ _ b (by have := hx6 b h; dsimp only; omega)))).sl, (hm6.kept (w' := ((wdtzrs.setCell ⟨Z, 0, none⟩ (.slice A0 ws.length c0)).setCell ⟨Z, 1, none⟩ (.slice B0 vs.length d0))) (fun b h => (Below.heap_setCell _ ⟨Z, 1, none⟩ _ b (by have := hx6 b h; dsimp only; omega)).trans (Below.heap_setCell _ ⟨Z, 0, none⟩ _ b (by have := hx6 b h; dsimp only; omega)))).sli⟩
          · go_wp2_with fail
            refine ⟨((Below.refl _ _).alloc (Nat.le_refl _) _).mono hB0, _, Nat.le_refl _, ?_⟩
            have hb : Below wd.heap.size wd (wd.alloc (.cells #[.slice none 0 0, .slice none 0 0] 30)) := (Below.refl _ _).alloc (Nat.le_refl _) _
            have hZs : wd.heap.size + 1 ≤ (wd.alloc (.cells #[.slice none 0 0, .slice none 0 0] 30)).heap.size := by simp
            have hBZ := hB0
            have h1Z := Bl0.out.size
            have Bl1 := Lib.hid (Bl0.out.trans (hb.mono Bl0.out.size))
            have hB1 := Nat.le_trans hB0 hb.size
            have Z1 := Lib.hid (Box.new wd 30 #[.slice none 0 0, .slice none 0 0])
            clear hb Bl0
            generalize wd.alloc (.cells #[.slice none 0 0, .slice none 0 0] 30) = wdz at *
            generalize wd.heap.size = Z at *
            refine stg_one _ 7 1 (by kernel_rfl) (by rfl) (by kernel_rfl) (by rfl) ?_
            go_wp2_with fail
            refine (CT wdz (B1.out.trans (Bl1.out.mono B1.out.size))).mono ?_
            rintro e wdzt ⟨v, rfl, gt, ct, ht, dt, rfl, -, -, ha, ha', hb, hct, -, -⟩
            refine ⟨hb.mono hB1, _, Nat.le_refl _, ?_⟩
            have Bl2 := Lib.hid (Bl1.out.trans (hb.mono Bl1.out.size))
            have hB2 := Nat.le_trans hB1 hb.size
            have Z2 := Lib.hid (Z1.out.below hb Z1.out.lt)
            have AT2 := Lib.hid ha
            have NT2 := Lib.hid ha'
            clear ha ha' hb Bl1 Z1
            refine stg_one _ 6 3 (by kernel_rfl) (by rfl) (by kernel_rfl) (by rfl) ?_
            go_wp2_with fail
            refine (CR wdzt).mono ?_
            rintro e wdztr ⟨rfl, hb⟩
            refine ⟨hb.mono hB2, _, Nat.le_refl _, ?_⟩
            have Bl3 := Lib.hid (Bl2.out.trans (hb.mono Bl2.out.size))
            have hB3 := Nat.le_trans hB2 hb.size
            have AT3 := Lib.hid (AT2.out.below hb AT2.out.lt)
            have NT3 := Lib.hid (NT2.out.below hb NT2.out.lt)
            have Z3 := Lib.hid (Z2.out.below hb Z2.out.lt)
            clear hb Bl2 AT2 NT2 Z2
            refine stg_one _ 5 4 (by kernel_rfl) (by rfl) (by kernel_rfl) (by rfl) ?_
            go_wp2_with fail
            refine (CI gt ct ht dt wdztr hct (AT3.out.sl AT3.out.lt) (NT3.out.sli NT3.out.lt)).mono ?_
            rintro e wdztrs ⟨v, rfl, A0, c0, B0, d0, X6, rfl, hm6, hx6, hb⟩
            refine ⟨hb.mono hB3, _, Nat.le_refl _, ?_⟩
            have hZl := Z3.out.lt
            have h5s := (Nat.le_refl wdztr.heap.size)
            have hBs := hB3
            have h1s := Bl3.out.size
            have Bl4 := Lib.hid (Bl3.out.trans (hb.mono Bl3.out.size))
            have hB4 := Nat.le_trans hB3 hb.size
            have AT4 := Lib.hid (AT3.out.below hb AT3.out.lt)
            have NT4 := Lib.hid (NT3.out.below hb NT3.out.lt)
            have Z4 := Lib.hid (Z3.out.below hb Z3.out.lt)
            clear hb Bl3 AT3 NT3 Z3
            refine stg_seg _ 2 [5, 6, 7] (by kernel_rfl) (by kernel_rfl) (by kernel_rfl) (by kernel_rfl) ?_
            (simp only [List.map_cons, List.map_nil, List.getElem?_cons_zero, List.getElem?_cons_succ, Option.getD_some]); (repeat (go_big_quiet_step (fail))); (refine wpQuiet_nil ?_)
            obtain ⟨zq, q0, q1, f0, f1⟩ := Z4.out.two
            refine stg_one _ 1 9 (by kernel_rfl) (by rfl) (by kernel_rfl) (by rfl) ?_
            go_wp2_with fail
            refine ⟨((Below.refl _ _).setCell (p := ⟨Z, 0, none⟩) hBZ _).setCell (p := ⟨Z, 1, none⟩) hBZ _, _, Nat.le_refl _, ?_⟩
            refine stg_seg _ 0 [10] (by kernel_rfl) (by kernel_rfl) (by kernel_rfl) (by kernel_rfl) ?_
            (simp only [List.map_cons, List.map_nil, List.getElem?_cons_zero, List.getElem?_cons_succ, Option.getD_some]); (repeat (go_big_quiet_step (fail))); (refine wpQuiet_nil ?_)
            refine stg_end (by kernel_rfl) ?_
            go_wp2_with fail
            go_meet
            case rel =>
              exact ⟨Z, A0, c0, B0, d0, rfl, rfl, (Bl4.out.setCell (p := ⟨Z, 0, none⟩) (by dsimp only; omega) _).setCell (p := ⟨Z, 1, none⟩) (by dsimp only; omega) _, (ret_two Z4.out (.slice A0 ws.length c0) (.slice B0 vs.length d0)).1, (hm6.kept (w' := ((wdztrs.setCell ⟨Z, 0, none⟩ (.slice A0 ws.length c0)).setCell ⟨Z, 1, none⟩ (.slice B0 vs.length d0))) (fun b h => (Below.heap_setCell _ ⟨Z, 1, none⟩ _ b (by have := hx6 b h; dsimp only; omega)).trans (Below.heap_setCell _ ⟨Z, 0, none⟩ _ b (by have := hx6 b h; dsimp only; omega)))).sl, (hm6.kept (w' := ((wdztrs.setCell ⟨Z, 0, none⟩ (.slice A0 ws.length c0)).setCell ⟨Z, 1, none⟩ (.slice B0 vs.length d0))) (fun b h => (Below.heap_setCell _ ⟨Z, 1, none⟩ _ b (by have := hx6 b h; dsimp only; omega)).trans (Below.heap_setCell _ ⟨Z, 0, none⟩ _ b (by have := hx6 b h; dsimp only; omega)))).sli⟩
        case rest =>
          obtain ⟨P3, A9, c9, B9, d9, rfl, rfl, hbx, hk3, hs9, hn9⟩ := hcut
          rename World => V17
          have E17 := Lib.hid (E14.out.below hbx)
          have K17 := Lib.hid (K14.out.below hbx)
          have HK3 := Lib.hid hk3
          clear hbx hk3 E14 K14 CI CT CR
          obtain ⟨y1, f10, f11, -, -⟩ := HK3.out.two
          obtain ⟨y2, f20, f21, -, -⟩ := E17.out.k0.two
          go_wp2_with fail
          clear y1 f10 f11 y2 f20 f21
          refine (CE A9 A0 c9 c0 B9 B0 d9 d0 V17 hs9 E17.out.sl hn9 E17.out.sli).mono ?_
          clear CE
          rintro e w18 ⟨rfl, hb18⟩
          have E18 := Lib.hid (E17.out.below hb18)
          have K18 := Lib.hid (K17.out.below hb18)
          clear hb18 E17 K17 hs9 hn9
          obtain ⟨y2, f20, f21, -, -⟩ := E18.out.k2.two
          go_wp2_with fail
          refine (heldTabK_any A6 B6 ws.length c6 vs.length d6 1 w18 (by omega) (by omega) (by omega) (by omega) K18.out).mono ?_
          rintro e w19 ⟨rfl, hb19⟩
          have B19 := Lib.hid (E18.out.bel.trans (hb19.mono E18.out.bel.size))
          clear hb19 y2 f20 f21
          go_wp2_with fail
          go_ret
          exact ⟨rfl, B19.out⟩
end Go.Proofs.Ytohflcbpjjnccab
