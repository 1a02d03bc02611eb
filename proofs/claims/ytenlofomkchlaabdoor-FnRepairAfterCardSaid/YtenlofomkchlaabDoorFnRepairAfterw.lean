/-
  The walk of FnRepairAfter over this seat.
-/
import Derived.Test.YtenlofomkchlaabDoorVp
import Derived.Test.YtenlofomkchlaabDoorA8
namespace Go.Proofs.YtenlofomkchlaabDoor
open Go.RowKit Go.Maps

set_option maxRecDepth 100000 in
set_option maxHeartbeats 3200000 in
theorem fnRepairAfter_walk (A : Option Addr) (len c : Nat) (f : Nat → Int) (w : World) (hlc : len ≤ c) (hc : c ≤ maxLen) (hB : Byt w w.heap.size A len f) (hsen : Sen w) :
   Calls Tryd.prog 7 #[.slice A len c] w fun e w' => e = .returned (.bool true) ∧ Below w.heap.size w w' := by
  have HB := Lib.hid hB
  clear hB
  have HSEN := Lib.hid hsen
  clear hsen
  by_cases hl : len ≤ 1048576
  · go_enter Tryd.func7, Tryd.ntmps7
    go_wp2_with fail
    refine (drawRepK_any A len c f w hlc hc HB.out).mono ?_
    rintro e w1 ⟨n, ls, A1, g1, c1, x, y, z, rfl, ⟨hn0, hn1, hls, hg1, ho1, hb1⟩, hx0, hx1, hy0, hy1, hz0, hz1, hcap⟩
    have L1 := Lib.hid (show LB w w1.heap.size n ls A1 g1 c1 (w1.alloc (.cells #[.int .i64 n, .slice A1 ls.length c1] 31)) from ⟨Box.new w1 _ _, ho1.alloc _, hb1.alloc hb1.size _⟩)
    clear ho1 hb1 HB
    generalize hG : w1.heap.size = G at *
    go_wp2_with fail
    refine (repStack_impl n A1 ls c1 x y z _ (by omega) L1.out.2.1.isV L1.out.2.1.sl (HSEN.out.below L1.out.2.2)).mono ?_
    rintro e w2 ⟨A2, g2, c2, rfl, hg2, ho2, hb2, hlc2⟩
    have L2 := Lib.hid (L1.out.call hb2)
    have P2 := Lib.hid ho2
    clear hb2 L1 hG ho2
    obtain ⟨z2, c20, c21, -, -⟩ := L2.out.1.two
    go_wp2_with fail
    refine (repStack_spec n A1 ls c1 x y z w2 (by omega) (by omega) L2.out.2.1.isV hcap L2.out.2.1.sl).mono ?_
    rintro e w3 ⟨A3, g3, c3, rfl, hg3, ho3, hb3, hlc3⟩
    have L3 := Lib.hid (L2.out.call hb3)
    have P3 := Lib.hid (P2.out.below hb3)
    have Q3 := Lib.hid ho3
    clear hb3 L2 z2 c20 c21 P2 ho3 hg2 hg3 hlc3
    have hst8 := repA_len8 n ls x y z
    have HF := Lib.hid (fun (h : repB n ls x y z = true) => cost_law (repB_some h))
    have CSS := fun (nn : Int) (A : Option Addr) (us : List Lk) (cu : Nat) (B : Option Addr) (st : List Lb) (cb : Nat) W h1 h1' (h2 : Sl W W.heap.size A us) h3 => stackCost_impl nn A us cu x B st cb W h1 h1' h2 h3
    have HLA := Lib.hid (fun l hl hk => repU_lab n ls y (rpP n ls x y z).length (rpP n ls x y z) l hl hk)
    change Hid (∀ l : Lb, l ∈ repA n ls x y z → l.k = 2 → l.a < (ls.length : Int)) at HLA
    have CEE := fun (nn : Int) (A : Option Addr) (us : List Lk) (cu : Nat) (B : Option Addr) (st : List Lb) (cb : Nat) W h1 h1' (h2 : Sl W W.heap.size A us) h3 => stackEnd_impl nn A us cu x B st cb W h1 h1' h2 h3
    generalize repA n ls x y z = st at *
    generalize repB n ls x y z = ok at *
    have CS := fun W (h1 : Slb W W.heap.size A2 st) (h2 : Slb W W.heap.size A3 st) => sameLb_same A2 A3 st c2 c3 W (by omega) h1 h2
    obtain ⟨z3, c30, c31, -, -⟩ := L3.out.1.two
    cases ok with
    | false =>
      clear HF
      go_wp2_with fail
      refine (CS _ P3.out.slb Q3.out.slb).mono ?_
      rintro e w4 ⟨rfl, hb⟩
      have L4 := Lib.hid (L3.out.call hb)
      have P4 := Lib.hid (P3.out.below hb)
      have Q4 := Lib.hid (Q3.out.below hb)
      clear hb L3 P3 Q3 z3 c30 c31
      go_wp2_with fail
      refine (CS _ P4.out.slb Q4.out.slb).mono ?_
      rintro e w5 ⟨rfl, hb⟩
      have LX := Lib.hid (L4.out.call hb)
      go_wp2_with fail
      go_ret
      exact ⟨rfl, LX.out.2.2⟩
    | true =>
      have HF2 := Lib.hid (HF.out rfl)
      clear HF
      go_wp2_with fail
      refine (CS _ P3.out.slb Q3.out.slb).mono ?_
      rintro e w4 ⟨rfl, hb⟩
      have L4 := Lib.hid (L3.out.call hb)
      have P4 := Lib.hid (P3.out.below hb)
      have Q4 := Lib.hid (Q3.out.below hb)
      clear hb L3 P3 Q3 z3 c30 c31
      clear Q4 CS
      obtain ⟨z4, c40, c41, -, -⟩ := L4.out.1.two
      obtain ⟨n, k, q, rfl, rfl, hk, hg, hge, hx, rfl, hq, -, hend, hcost⟩ := HF2.out
      have CW := fun W hA (h : Sl W W.heap.size A1 ls) => wo_drawn (n : Int) A1 ls c1 k W (by omega) hg hk hA h
      have hrl : (ls.eraseIdx k).length ≤ 16 := Nat.le_trans (List.length_eraseIdx_le _ _) hls
      have HEND := Lib.hid hend
      have HCO := Lib.hid hcost
      clear hx hge hg hend hcost HF2
      go_wp2_with fail
      refine (CW _ L4.out.2.1.isV L4.out.2.1.sl).mono ?_
      clear CW
      rintro e w5 ⟨A5, g5, c5, rfl, -, ho5, hb⟩
      have L5 := Lib.hid (L4.out.call hb)
      have P5 := Lib.hid (P4.out.below hb)
      clear hb L4 P4 z4 c40 c41
      have X6 := Lib.hid (show LB w w5.heap.size (n : Int) (ls.eraseIdx k) A5 g5 c5 (w5.alloc (.cells #[.int .i64 (n : Int), .slice A5 (ls.eraseIdx k).length c5] 31)) from ⟨Box.new w5 _ _, ho5.alloc _, L5.out.2.2.alloc L5.out.2.2.size _⟩)
      have L6 := Lib.hid (L5.out.alloc (.cells #[.int .i64 (n : Int), .slice A5 (ls.eraseIdx k).length c5] 31))
      have P6 := Lib.hid (P5.out.alloc (.cells #[.int .i64 (n : Int), .slice A5 (ls.eraseIdx k).length c5] 31))
      clear ho5 L5 P5
      generalize ls.eraseIdx k = rs at *
      go_upto_region 9 with fail
      generalize w5.alloc (.cells #[.int .i64 (n : Int), .slice A5 rs.length c5] 31) = W6 at *
      generalize w5.heap.size = bx at *
      go_wp2_with fail
      obtain ⟨i0, hi, hz0, hz10, hz20⟩ := info_parts infoLabel
      have RR : Hid (World.ownsRow (W6.alloc (.cells #[] 50)) W6.heap.size 50 2 (.slice (some ⟨W6.heap.size, 0, none⟩) 0 0) ((st.take 0).map (dn k)).length (flatB ((st.take 0).map (dn k)))) := Lib.hid ⟨by simp [flatB], .inr ⟨W6.heap.size, 0, #[], rfl, Nat.le_refl _, Box.new W6 50 #[], Nat.le_refl _, by omega, rfl, by simp [flatB]⟩⟩
      have B6 := Lib.hid ((Below.refl W6.heap.size W6).alloc (Nat.le_refl _) (.cells #[] 50))
      go_loopw [13, 14] (fun v i wr => ∃ j : Nat, j ≤ st.length ∧ i = .int .i64 (j : Int) ∧ Hid (wr.ownsRow W6.heap.size 50 2 v ((st.take j).map (dn k)).length (flatB ((st.take j).map (dn k)))) ∧ Hid (Below W6.heap.size W6 wr)) (fun _ i _ => st.length - (intOf i).toNat)
      case atStart => exact ⟨0, Nat.zero_le _, rfl, RR, B6⟩
      case round =>
        obtain ⟨j, hj, rfl, HR, HBW⟩ := hrel
        have hwz := HBW.out.size
        clear RR B6
        by_cases hlt : j < st.length
        · have hjl : ((st.take j).map (dn k)).length ≤ 8 := by simp; omega
          obtain ⟨l, hl⟩ : ∃ l, st[j]? = some l := ⟨_, List.getElem?_eq_getElem hlt⟩
          obtain ⟨b, off, rfl, hbb, d0, d1⟩ := (P6.out.below HBW.out).slb j l hl
          have zx : b < wr.heap.size := hbb
          have HTK : Hid ((st.take (j + 1)).map (dn k) = (st.take j).map (dn k) ++ [dn k l]) := Lib.hid (by rw [List.take_add_one, hl]; simp)
          have hlb := HLA.out l (List.mem_of_getElem? hl)
          obtain ⟨lk, la⟩ := l
          dsimp only at d0 d1 hlb
          clear hl hbb
          obtain ⟨A9, g9, c9, rfl, -, -, -, -⟩ := own_sliceb HR.out hwz
          generalize (st.take j).map (dn k) = os at *
          by_cases h2 : lk = 2
          · subst h2
            have hlb := hlb rfl
            by_cases h3 : (k : Int) < la
            · have hdn : dn k ⟨2, la⟩ = ⟨2, la - 1⟩ := by simp [dn, h3]
              have hwp : IntKind.i64.wrap (la - 1) = la - 1 := IntWalk.i64_in _ (by omega)
              have HDN := Lib.hid hdn
              clear hdn
              go_upto_region 16 with fail
              have HB2 := Lib.hid (Box.new wr 50 #[.int .i64 2, .int .i64 (la - 1)])
              have HR2 := Lib.hid (HR.out.alloc (.cells #[.int .i64 2, .int .i64 (la - 1)] 50))
              have HBL2 := Lib.hid (HBW.out.alloc hwz (.cells #[.int .i64 2, .int .i64 (la - 1)] 50))
              clear HR HBW d0 d1 zx
              generalize wr.alloc (.cells #[.int .i64 2, .int .i64 (la - 1)] 50) = wc at *
              generalize wr.heap.size = lbx at *
              have hwz2 := HBL2.out.size
              obtain ⟨z8, e0, e1, -, -⟩ := HB2.out.two
              go_wp2_with (at_builtin; refine wpList_append_own_at _ rfl _ _ 26 rfl W6.heap.size 50 i0 _ 2 16 Tryd.underlying26 hi hz0 hz10 hz20 rfl (by decide) _ os.length _ rfl (HR2.out.alloc _) ⟨wc.heap.size, 0, none⟩ 1 1 [.int .i64 2, .int .i64 (la - 1)] rfl rfl (new2 _ _ _ _) (one2 _ _) (by unfold maxLen; omega) (by omega) (by simp; omega) ?_; intro v' w7 hown' hgrow _ hat; have R7 := Lib.hid hown'; have B7 := Lib.hid ((HBL2.out.alloc hwz2 _).grown hgrow (by simp; omega) (fun j e => (HR2.out.lt j e).1)); clear hown' hgrow hat)
              go_roundw
              case rel =>
                refine ⟨j + 1, by omega, by go_num, ?_, B7⟩
                rw [HTK.out, List.length_append, flatB_append, HDN.out]
                exact R7
              case measure => (simp [intOf]; try omega)
            · have hdn : dn k ⟨2, la⟩ = ⟨2, la⟩ := by simp [dn, h3]
              have HDN := Lib.hid hdn
              clear hdn
              go_upto_region 16 with fail
              have HB2 := Lib.hid (Box.new wr 50 #[.int .i64 2, .int .i64 (la)])
              have HR2 := Lib.hid (HR.out.alloc (.cells #[.int .i64 2, .int .i64 (la)] 50))
              have HBL2 := Lib.hid (HBW.out.alloc hwz (.cells #[.int .i64 2, .int .i64 (la)] 50))
              clear HR HBW d0 d1 zx
              generalize wr.alloc (.cells #[.int .i64 2, .int .i64 (la)] 50) = wc at *
              generalize wr.heap.size = lbx at *
              have hwz2 := HBL2.out.size
              obtain ⟨z8, e0, e1, -, -⟩ := HB2.out.two
              go_wp2_with (at_builtin; refine wpList_append_own_at _ rfl _ _ 26 rfl W6.heap.size 50 i0 _ 2 16 Tryd.underlying26 hi hz0 hz10 hz20 rfl (by decide) _ os.length _ rfl (HR2.out.alloc _) ⟨wc.heap.size, 0, none⟩ 1 1 [.int .i64 2, .int .i64 (la)] rfl rfl (new2 _ _ _ _) (one2 _ _) (by unfold maxLen; omega) (by omega) (by simp; omega) ?_; intro v' w7 hown' hgrow _ hat; have R7 := Lib.hid hown'; have B7 := Lib.hid ((HBL2.out.alloc hwz2 _).grown hgrow (by simp; omega) (fun j e => (HR2.out.lt j e).1)); clear hown' hgrow hat)
              go_roundw
              case rel =>
                refine ⟨j + 1, by omega, by go_num, ?_, B7⟩
                rw [HTK.out, List.length_append, flatB_append, HDN.out]
                exact R7
              case measure => (simp [intOf]; try omega)
          · have hdn : dn k ⟨lk, la⟩ = ⟨lk, la⟩ := by simp [dn, h2]
            have h2' : (lk == 2) = false := by rw [beq_eq_false_iff_ne]; exact h2
            clear h2 hlb
            have HDN := Lib.hid hdn
            clear hdn
            go_upto_region 16 with fail
            have HB2 := Lib.hid (Box.new wr 50 #[.int .i64 lk, .int .i64 (la)])
            have HR2 := Lib.hid (HR.out.alloc (.cells #[.int .i64 lk, .int .i64 (la)] 50))
            have HBL2 := Lib.hid (HBW.out.alloc hwz (.cells #[.int .i64 lk, .int .i64 (la)] 50))
            clear HR HBW d0 d1 zx
            generalize wr.alloc (.cells #[.int .i64 lk, .int .i64 (la)] 50) = wc at *
            generalize wr.heap.size = lbx at *
            have hwz2 := HBL2.out.size
            obtain ⟨z8, e0, e1, -, -⟩ := HB2.out.two
            go_wp2_with (at_builtin; refine wpList_append_own_at _ rfl _ _ 26 rfl W6.heap.size 50 i0 _ 2 16 Tryd.underlying26 hi hz0 hz10 hz20 rfl (by decide) _ os.length _ rfl (HR2.out.alloc _) ⟨wc.heap.size, 0, none⟩ 1 1 [.int .i64 lk, .int .i64 (la)] rfl rfl (new2 _ _ _ _) (one2 _ _) (by unfold maxLen; omega) (by omega) (by simp; omega) ?_; intro v' w7 hown' hgrow _ hat; have R7 := Lib.hid hown'; have B7 := Lib.hid ((HBL2.out.alloc hwz2 _).grown hgrow (by simp; omega) (fun j e => (HR2.out.lt j e).1)); clear hown' hgrow hat)
            go_roundw
            case rel =>
              refine ⟨j + 1, by omega, by go_num, ?_, B7⟩
              rw [HTK.out, List.length_append, flatB_append, HDN.out]
              exact R7
            case measure => (simp [intOf]; try omega)
        · obtain rfl : j = st.length := by omega
          have h9 := HR.out
          rw [List.take_length] at h9
          have HRR := Lib.hid h9
          clear h9
          have hos : (st.map (dn k)).length ≤ 8 := by simp; omega
          obtain ⟨A9, g9, c9, rfl, hg9, -, ho9, -⟩ := own_sliceb HRR.out hwz
          have L7 := Lib.hid (L6.out.call HBW.out)
          have P7 := Lib.hid (P6.out.below HBW.out)
          have X7 := Lib.hid (X6.out.call HBW.out)
          have O7 := Lib.hid ho9
          have CE := CEE (n : Int) A5 rs c5 A9 (st.map (dn k)) c9 wr (by omega) (by omega) X7.out.2.1.sl O7.out.slb
          have C1 := fun W h2 h3 => CSS (n : Int) A5 rs c5 A9 (st.map (dn k)) c9 W (by omega) (by omega) h2 h3
          have C2 := fun W h2 h3 => CSS (n : Int) A1 ls c1 A2 st c2 W (by omega) (by omega) h2 h3
          rw [HEND.out] at CE
          dsimp only [stepV] at CE
          rw [HCO.out] at C1
          clear HR HRR HBW L6 P6 X6 HEND HCO CSS CEE HLA ho9
          generalize costS (n : Int) ls x st = cs at *
          generalize st.map (dn k) = os at *
          obtain ⟨zr, r0, r1, -, -⟩ := X7.out.1.two
          have hge : ¬ ((st.length : Int) < (st.length : Int)) := by omega
          go_wp2_with fail
          refine CE.mono ?_
          clear CE
          rintro e w8 ⟨rfl, hb⟩
          have L8 := Lib.hid (L7.out.call hb)
          have P8 := Lib.hid (P7.out.below hb)
          have X8 := Lib.hid (X7.out.call hb)
          have O8 := Lib.hid (O7.out.below hb)
          clear hb L7 P7 X7 O7 zr r0 r1
          obtain ⟨zg, d0, d1, -, -⟩ := L8.out.1.two
          obtain ⟨zr, r0, r1, -, -⟩ := X8.out.1.two
          have hX := fun (x : Ext w8.drew) (bb o : Nat) (h : bb < w8.heap.size) => (show x.w.cell? ⟨bb, o, none⟩ = w8.cell? ⟨bb, o, none⟩ from x.cell bb o h)
          have hqq : ((q : Int) == (q : Int)) = true := by simp
          go_upto_region 18 with fail
          refine wp_region_staged 18 (by kernel_rfl) (by kernel_rfl) ?_
          refine stage_seg _ 5 [0, 1, 2, 3, 4, 5, 6, 7, 8, 9, 11, 12, 13] (by kernel_rfl) (by kernel_rfl) (by kernel_rfl) (by kernel_rfl) ?_
          (simp only [List.map_cons, List.map_nil, List.getElem?_cons_zero, List.getElem?_cons_succ, Option.getD_some]); (repeat (go_big_quiet_step (fail))); (refine wpQuiet_nil ?_)
          clear hX zg d0 d1 zr r0 r1
          refine stage_call _ 4 10 (by kernel_rfl) (by rfl) (by kernel_rfl) (by rfl) ?_
          go_wp2_with fail
          refine (C1 w8.drew X8.out.drew.2.1.sl (show Ownb w8.drew A9 g9 os from O8.out).slb).mono ?_
          clear C1
          rintro e w9 ⟨rfl, hb⟩
          refine ⟨hb, ?_⟩
          have L9 := Lib.hid (L8.out.drew.call hb)
          have P9 := Lib.hid ((show Ownb w8.drew A2 g2 st from P8.out).below hb)
          clear hb L8 P8 X8 O8
          refine stage_call _ 3 14 (by kernel_rfl) (by rfl) (by kernel_rfl) (by rfl) ?_
          go_wp2_with fail
          refine (C2 w9 L9.out.2.1.sl P9.out.slb).mono ?_
          clear C2
          rintro e w10 ⟨rfl, hb⟩
          refine ⟨hb, ?_⟩
          have L10 := Lib.hid (L9.out.call hb)
          clear hb L9 P9
          have hcc : (cs == cs) = true := by simp
          refine stage_seg _ 0 [15, 16, 17] (by kernel_rfl) (by kernel_rfl) (by kernel_rfl) (by kernel_rfl) ?_
          (simp only [List.map_cons, List.map_nil, List.getElem?_cons_zero, List.getElem?_cons_succ, Option.getD_some]); (repeat (go_big_quiet_step (fail))); (refine wpQuiet_nil ?_)
          refine stage_end (by kernel_rfl) ?_
          go_wp2_with fail
          go_ret
          exact ⟨ret_bool (by first | rfl | simp), L10.out.2.2⟩
  · go_enter Tryd.func7, Tryd.ntmps7
    go_wp2
    go_ret
    exact ⟨rfl, by (repeat (first | exact Below.refl _ _ | (refine Below.alloc ?_ (by first | exact Nat.le_refl _ | omega | (simp; done) | (simp; omega)) _) | (refine Below.setCell ?_ (by first | exact Nat.le_refl _ | omega | (simp; done) | (simp; omega)) _) | exact Below.drew ‹_›))⟩
end Go.Proofs.YtenlofomkchlaabDoor
