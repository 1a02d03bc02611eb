/-
  The walk of FnWithoutTwo over this seat.
-/
import Derived.Test.YtjponnfnofpdgaaWc
import Derived.Test.YtjponnfnofpdgaaWq
import Derived.Test.YtjponnfnofpdgaaDrawW
import Derived.Test.YtjponnfnofpdgaaWs
import Derived.Test.YtjponnfnofpdgaaRh
import Derived.Test.YtjponnfnofpdgaaA7
namespace Go.Proofs.Ytjponnfnofpdgaa
open Go.RowKit

set_option maxRecDepth 100000 in
set_option maxHeartbeats 8000000 in
theorem withoutTwo_walk (A : Option Addr) (len c : Nat) (Am : Option Addr) (len' c' : Nat) (f f' : Nat → Int) (w : World) (hlc : len ≤ c) (hc : c ≤ maxLen) (hB : Byt w w.heap.size A len f) (_hlc' : len' ≤ c') (_hc' : c' ≤ maxLen) (_hB' : Byt w w.heap.size Am len' f') :
   Calls Try.prog 9 #[.slice A len c, .slice Am len' c'] w fun e w' => e = .returned (.bool true) ∧ Below w.heap.size w w' := by
  have HB := Lib.hid hB
  clear hB _hB'
  by_cases hl : len ≤ 1048576 ∧ len' ≤ 1048576
  · obtain ⟨hl, hl'⟩ := hl
    go_enter Try.func9, Try.ntmps9
    go_wp2_with fail
    refine (drawWo_any A len c f w hlc hc HB.out).mono ?_
    rintro e w1 ⟨n, ls, A1, g1, c1, x, rfl, ⟨hn0, hn1, hls, hg1, ho1, hb1⟩, hx0, hx1, hcap⟩
    have L1 := Lib.hid (show LB w w1.heap.size n ls A1 g1 c1 (w1.alloc (.cells #[.int .i64 n, .slice A1 ls.length c1] 30)) from ⟨Box.new w1 _ _, ho1.alloc _, hb1.alloc hb1.size _⟩)
    have HCP := Lib.hid hcap
    clear ho1 hb1 HB hcap
    obtain ⟨m, rs, ok, hrs, hok, ci, cs⟩ := wo_bothA n ls x (by omega) (by omega)
    have CI := Lib.hid ci
    have CS := Lib.hid cs
    have OK := Lib.hid hok
    clear ci cs hok
    generalize hG : w1.heap.size = G at *
    go_wp2_with fail
    refine (CI.out A1 g1 c1 _ L1.out.2.1).mono ?_
    rintro e w2 ⟨A2, g2, c2, rfl, hg2, ho2, hb2⟩
    have L2 := Lib.hid (L1.out.call hb2)
    have L2' := Lib.hid (L2.out.alloc (.cells #[.int .i64 m, .slice A2 rs.length c2] 30))
    have P2 := Lib.hid (show LB w w2.heap.size m rs A2 g2 c2 (w2.alloc (.cells #[.int .i64 m, .slice A2 rs.length c2] 30)) from ⟨Box.new w2 _ _, ho2.alloc _, L2'.out.2.2⟩)
    obtain ⟨z2, c20, c21, -, -⟩ := L2.out.1.two
    clear hb2 ho2 L1 hG L2
    generalize hO : w2.heap.size = O at *
    go_wp2_with fail
    refine (CS.out A1 g1 c1 _ L2'.out.2.1 HCP.out).mono ?_
    rintro e w3 ⟨A3, g3, c3, rfl, hg3, ho3, hb3⟩
    have L3 := Lib.hid (L2'.out.call hb3)
    have P3 := Lib.hid (P2.out.call hb3)
    obtain ⟨z3, c30, c31, -, -⟩ := L3.out.1.two
    obtain ⟨y3, d30, d31, -, -⟩ := P3.out.1.two
    have L3' := Lib.hid (L3.out.alloc (.cells #[.int .i64 m, .slice A3 rs.length c3] 30))
    have P3' := Lib.hid (P3.out.alloc (.cells #[.int .i64 m, .slice A3 rs.length c3] 30))
    have Q3 := Lib.hid (show LB w w3.heap.size m rs A3 g3 c3 (w3.alloc (.cells #[.int .i64 m, .slice A3 rs.length c3] 30)) from ⟨Box.new w3 _ _, ho3.alloc _, L3'.out.2.2⟩)
    clear hb3 ho3 L2' P2 hO CI CS z2 c20 c21 L3 P3 HCP
    generalize hQ : w3.heap.size = Wt at *
    go_wp2_with fail
    refine (sameGraph_same m A2 A3 rs c2 c3 _ (by omega) P3'.out.2.1.sl Q3.out.2.1.sl).mono ?_
    rintro e w4 ⟨rfl, hb4⟩
    have L4 := Lib.hid (L3'.out.call hb4)
    have P4 := Lib.hid (P3'.out.call hb4)
    have Q4 := Lib.hid (Q3.out.call hb4)
    clear hb4 L3' P3' Q3 hQ z3 c30 c31 y3 d30 d31
    obtain ⟨z4, c40, c41, -, -⟩ := L4.out.1.two
    obtain ⟨y4, d40, d41, -, -⟩ := P4.out.1.two
    obtain ⟨x4, e40, e41, -, -⟩ := Q4.out.1.two
    cases ok with
    | false =>
      go_wp2_with fail
      refine (sameGraph_same m A2 A3 rs c2 c3 _ (by omega) P4.out.2.1.sl Q4.out.2.1.sl).mono ?_
      rintro e w5 ⟨rfl, hb5⟩
      have L5 := Lib.hid (L4.out.call hb5)
      go_wp2_with fail
      go_ret
      exact ⟨rfl, L5.out.2.2⟩
    | true =>
      obtain ⟨hok0, rfl, hrsf⟩ := OK.out rfl
      obtain ⟨hv, hxr⟩ := withoutOk_inv hok0
      by_cases hl2 : (ls.length : Int) < 2
      · have hl2n : ls.length < 2 := by omega
        clear hrsf hok0 hv
        go_wp2_with fail
        refine (sameGraph_same m A2 A3 rs c2 c3 _ (by omega) P4.out.2.1.sl Q4.out.2.1.sl).mono ?_
        rintro e w5 ⟨rfl, hb5⟩
        have L5 := Lib.hid (L4.out.call hb5)
        go_wp2_with fail
        go_ret
        exact ⟨rfl, L5.out.2.2⟩
      have hl2n : ¬ ls.length < 2 := by omega
      obtain ⟨k, hkx⟩ : ∃ q : Nat, q = x.toNat := ⟨_, rfl⟩
      rw [← hkx] at hrsf
      have hkl : k < ls.length := by omega
      have HKX : Hid (x = (k : Int)) := Lib.hid (by omega)
      have hq : Int.tmod (len' : Int) (ls.length : Int) = ((len' % ls.length : Nat) : Int) := by rw [Int.tmod_eq_emod_of_nonneg (by omega)]; omega
      have hql : len' % ls.length < ls.length := Nat.mod_lt _ (by omega)
      have hne : ¬ (ls.length : Int) = 0 := by omega
      have hls0 : ls ≠ [] := by intro e; rw [e] at hkl; simp at hkl
      generalize len' % ls.length = q at *
      by_cases hqk : q = k
      · have h2 : ((q : Int) == x) = true := by have := HKX.out; simp; omega
        clear hqk OK hok0 hv hrsf hkx
        go_wp2_with fail
        go_ret
        exact ⟨rfl, L4.out.2.2⟩
      have h2 : ((q : Int) == x) = false := by have := HKX.out; simp; omega
      obtain ⟨lk, hlk⟩ : ∃ l, ls[k]? = some l := ⟨_, List.getElem?_eq_getElem hkl⟩
      obtain ⟨lq, hlq⟩ : ∃ l, ls[q]? = some l := ⟨_, List.getElem?_eq_getElem hql⟩
      obtain ⟨j1, j2, ej1, ej2, hj1, hj2, hes⟩ := er_two hv hlk hlq hqk
      have hvr : gvB m rs = true := by rw [hrsf]; exact er_gv hv k
      have hvx := er_gv hv q
      rw [← hrsf] at ej1 hj1 hes
      obtain ⟨rfl, -⟩ := L4.out.2.1 (by omega)
      obtain ⟨rfl, -⟩ := P4.out.2.1 (by omega)
      have CW := wo_res m g1 ls c1 q w4 (by omega) hv hql L4.out.2.1.sl
      have hxl : (ls.eraseIdx q).length ≤ 16 := Nat.le_trans (List.length_eraseIdx_le _ _) hls
      have hel : (rs.eraseIdx j1).length ≤ 16 := Nat.le_trans (List.length_eraseIdx_le _ _) (by omega)
      generalize ls.eraseIdx q = xs at *
      obtain ⟨es, hes0⟩ : ∃ es, es = rs.eraseIdx j1 := ⟨_, rfl⟩
      rw [← hes0] at hes hel
      have HES : Hid (rs.eraseIdx j1 = es ∧ xs.eraseIdx j2 = es) := Lib.hid ⟨hes0.symm, hes.symm⟩
      have Ej1 := Lib.hid ej1
      have Ej2 := Lib.hid ej2
      have Hrs := Lib.hid hvr
      have Hxs := Lib.hid hvx
      have HLK := Lib.hid hlk
      have HLQ := Lib.hid hlq
      clear OK hok0 hv hrsf hkx hvr hvx hlk hlq hes hes0 ej1 ej2 e40 e41 x4 Q4 hqk
      obtain ⟨ka, kb, kc⟩ := lk
      obtain ⟨qa, qb, qc⟩ := lq
      dsimp only at *
      go_wp2_with fail
      refine CW.mono ?_
      clear CW
      rintro e w5 ⟨A5, g5, c5, rfl, hg5, ho5, hb5⟩
      have L := Lib.hid ((L4.out.call hb5).alloc (.cells #[.int .i64 m, .slice A5 xs.length c5] 30))
      have P := Lib.hid ((P4.out.call hb5).alloc (.cells #[.int .i64 m, .slice A5 xs.length c5] 30))
      have X := Lib.hid (show LB w w5.heap.size m xs A5 g5 c5 (w5.alloc (.cells #[.int .i64 m, .slice A5 xs.length c5] 30)) from ⟨Box.new w5 _ _, ho5.alloc _, L.out.2.2⟩)
      obtain ⟨rfl, -⟩ := ho5 (by omega)
      clear hb5 ho5 hg5 L4 P4 z4 c40 c41 y4 d40 d41
      have hkx2 := HKX.out
      subst hkx2
      clear HKX
      go_upto_region 12 with fail
      clear h2
      generalize w5.alloc (.cells #[.int .i64 m, .slice (some ⟨g5, 0, none⟩) xs.length c5] 30) = W6 at *
      generalize w5.heap.size = bx at *
      obtain ⟨zA, cA0, cA1, -, -⟩ := L.out.1.two
      obtain ⟨zB, cB0, cB1, -, -⟩ := P.out.1.two
      obtain ⟨-, p0, p1, -⟩ := L.out.link HLQ.out
      dsimp only at p0 p1
      have zg := (L.out.2.1 (by omega)).2.lt
      have hXr := fun (x : ExtB W6.heap.size W6.drew) (bb o : Nat) (h : bb < W6.heap.size) => (show x.w.cell? ⟨bb, o, none⟩ = W6.cell? ⟨bb, o, none⟩ from x.cell bb o h)
      have CLK := fun W (h : Sl W W.heap.size (some ⟨g2, 0, none⟩) rs) => link_impl m (some ⟨g2, 0, none⟩) rs c2 qa qb W (by omega) h
      rw [Ej1.out] at CLK
      have CWO := fun W (h : Sl W W.heap.size (some ⟨g2, 0, none⟩) rs) => wo_res m g2 rs c2 j1 W (by omega) Hrs.out hj1 h
      rw [HES.out.1] at CWO
      refine wp_region_stg 22 W6.heap.size (by kernel_rfl) (by kernel_rfl) ?_
      refine stg_seg _ 8 [0, 1, 2, 3, 4, 5, 6, 7, 8, 9, 10, 11, 12, 13] (by kernel_rfl) (by kernel_rfl) (by kernel_rfl) (by kernel_rfl) ?_
      (simp only [List.map_cons, List.map_nil, List.getElem?_cons_zero, List.getElem?_cons_succ, Option.getD_some]); (repeat (go_big_quiet_step (fail))); (refine wpQuiet_nil ?_)
      clear hXr zA cA0 cA1 zB cB0 cB1 p0 p1 zg
      refine stg_two _ 7 14 19 (by kernel_rfl) (by rfl) (by rfl) (by kernel_rfl) (by rfl) (by rfl) ?_ ?_
      · go_wp2_with fail
        refine (CLK _ P.out.drew.2.1.sl).mono ?_
        rintro e wa ⟨rfl, hba⟩
        have aL := Lib.hid (L.out.drew.call hba)
        have aX := Lib.hid (X.out.drew.call hba)
        have aP := Lib.hid (P.out.drew.call hba)
        have hza := hba.size
        refine ⟨hba, wa.heap.size, hza, ?_⟩
        clear hba L X P CLK
        refine stg_two _ 6 15 19 (by kernel_rfl) (by rfl) (by rfl) (by kernel_rfl) (by rfl) (by rfl) ?_ ?_
        · go_wp2_with fail
          refine (CWO _ aP.out.2.1.sl).mono ?_
          clear CWO
          rintro e wb ⟨Ab, gb, cb, rfl, hgb, hob, hbb⟩
          have nL := Lib.hid ((aL.out.call hbb).alloc (.cells #[.int .i64 m, .slice Ab es.length cb] 30))
          have nX := Lib.hid ((aX.out.call hbb).alloc (.cells #[.int .i64 m, .slice Ab es.length cb] 30))
          have nP := Lib.hid ((aP.out.call hbb).alloc (.cells #[.int .i64 m, .slice Ab es.length cb] 30))
          have nM := Lib.hid (show LB w wb.heap.size m es Ab gb cb (wb.alloc (.cells #[.int .i64 m, .slice Ab es.length cb] 30)) from ⟨Box.new wb _ _, hob.alloc _, nL.out.2.2⟩)
          have hzb := hbb.size
          refine ⟨hbb, wb.heap.size, hzb, ?_⟩
          clear hbb hob hgb aL aX aP
          refine stg_seg _ 3 [16, 17, 18] (by kernel_rfl) (by kernel_rfl) (by kernel_rfl) (by kernel_rfl) ?_
          (simp only [List.map_cons, List.map_nil, List.getElem?_cons_zero, List.getElem?_cons_succ, Option.getD_some]); (repeat (go_big_quiet_step (fail))); (refine wpQuiet_nil ?_)
          refine stg_one _ 2 19 (by kernel_rfl) (by rfl) (by kernel_rfl) (by rfl) ?_
          go_wp2_with fail
          refine ⟨(Below.refl _ _).alloc (Nat.le_refl _) _, wb.heap.size, Nat.le_refl _, ?_⟩
          refine stg_one _ 1 20 (by kernel_rfl) (by rfl) (by kernel_rfl) (by rfl) ?_
          go_wp2_with fail
          refine ⟨below_aa _ _ _, wb.heap.size, Nat.le_refl _, ?_⟩
          refine stg_seg _ 0 [21] (by kernel_rfl) (by kernel_rfl) (by kernel_rfl) (by kernel_rfl) ?_
          (simp only [List.map_cons, List.map_nil, List.getElem?_cons_zero, List.getElem?_cons_succ, Option.getD_some]); (repeat (go_big_quiet_step (fail))); (refine wpQuiet_nil ?_)
          refine stg_end (by kernel_rfl) ?_
          generalize wb.alloc (.cells #[.int .i64 m, .slice Ab es.length cb] 30) = Wn at *
          generalize wb.heap.size = bWn at *
          go_upto_region 13 with fail
          clear nP Ej1 hj1 Hrs HLQ
          obtain ⟨zA, cA0, cA1, -, -⟩ := nL.out.1.two
          obtain ⟨zB, cB0, cB1, -, -⟩ := nX.out.1.two
          obtain ⟨-, p0, p1, -⟩ := nL.out.link HLK.out
          dsimp only at p0 p1
          have zg := (nL.out.2.1 (by omega)).2.lt
          have hXr := fun (x : ExtB Wn.heap.size Wn.drew) (bb o : Nat) (h : bb < Wn.heap.size) => (show x.w.cell? ⟨bb, o, none⟩ = Wn.cell? ⟨bb, o, none⟩ from x.cell bb o h)
          have CLK := fun W (h : Sl W W.heap.size (some ⟨g5, 0, none⟩) xs) => link_impl m (some ⟨g5, 0, none⟩) xs c5 ka kb W (by omega) h
          rw [Ej2.out] at CLK
          have CWO := fun W (h : Sl W W.heap.size (some ⟨g5, 0, none⟩) xs) => wo_res m g5 xs c5 j2 W (by omega) Hxs.out hj2 h
          rw [HES.out.2] at CWO
          refine wp_region_stg 22 Wn.heap.size (by kernel_rfl) (by kernel_rfl) ?_
          refine stg_seg _ 8 [0, 1, 2, 3, 4, 5, 6, 7, 8, 9, 10, 11, 12, 13] (by kernel_rfl) (by kernel_rfl) (by kernel_rfl) (by kernel_rfl) ?_
          (simp only [List.map_cons, List.map_nil, List.getElem?_cons_zero, List.getElem?_cons_succ, Option.getD_some]); (repeat (go_big_quiet_step (fail))); (refine wpQuiet_nil ?_)
          clear hXr zA cA0 cA1 zB cB0 cB1 p0 p1 zg
          refine stg_two _ 7 14 19 (by kernel_rfl) (by rfl) (by rfl) (by kernel_rfl) (by rfl) (by rfl) ?_ ?_
          · go_wp2_with fail
            refine (CLK _ nX.out.drew.2.1.sl).mono ?_
            rintro e wa ⟨rfl, hba⟩
            have anL := Lib.hid (nL.out.drew.call hba)
            have anX := Lib.hid (nX.out.drew.call hba)
            have anM := Lib.hid (nM.out.drew.call hba)
            have hza := hba.size
            refine ⟨hba, wa.heap.size, hza, ?_⟩
            clear hba nL nX nM CLK
            refine stg_two _ 6 15 19 (by kernel_rfl) (by rfl) (by rfl) (by kernel_rfl) (by rfl) (by rfl) ?_ ?_
            · go_wp2_with fail
              refine (CWO _ anX.out.2.1.sl).mono ?_
              clear CWO
              rintro e wb ⟨Ab, gb, cb, rfl, hgb, hob, hbb⟩
              have nnL := Lib.hid ((anL.out.call hbb).alloc (.cells #[.int .i64 m, .slice Ab es.length cb] 30))
              have nnX := Lib.hid ((anX.out.call hbb).alloc (.cells #[.int .i64 m, .slice Ab es.length cb] 30))
              have nnM := Lib.hid ((anM.out.call hbb).alloc (.cells #[.int .i64 m, .slice Ab es.length cb] 30))
              have nN := Lib.hid (show LB w wb.heap.size m es Ab gb cb (wb.alloc (.cells #[.int .i64 m, .slice Ab es.length cb] 30)) from ⟨Box.new wb _ _, hob.alloc _, nnL.out.2.2⟩)
              have hzb := hbb.size
              refine ⟨hbb, wb.heap.size, hzb, ?_⟩
              clear hbb hob hgb anL anX anM
              refine stg_seg _ 3 [16, 17, 18] (by kernel_rfl) (by kernel_rfl) (by kernel_rfl) (by kernel_rfl) ?_
              (simp only [List.map_cons, List.map_nil, List.getElem?_cons_zero, List.getElem?_cons_succ, Option.getD_some]); (repeat (go_big_quiet_step (fail))); (refine wpQuiet_nil ?_)
              refine stg_one _ 2 19 (by kernel_rfl) (by rfl) (by kernel_rfl) (by rfl) ?_
              go_wp2_with fail
              refine ⟨(Below.refl _ _).alloc (Nat.le_refl _) _, wb.heap.size, Nat.le_refl _, ?_⟩
              refine stg_one _ 1 20 (by kernel_rfl) (by rfl) (by kernel_rfl) (by rfl) ?_
              go_wp2_with fail
              refine ⟨below_aa _ _ _, wb.heap.size, Nat.le_refl _, ?_⟩
              refine stg_seg _ 0 [21] (by kernel_rfl) (by kernel_rfl) (by kernel_rfl) (by kernel_rfl) ?_
              (simp only [List.map_cons, List.map_nil, List.getElem?_cons_zero, List.getElem?_cons_succ, Option.getD_some]); (repeat (go_big_quiet_step (fail))); (refine wpQuiet_nil ?_)
              refine stg_end (by kernel_rfl) ?_
              generalize wb.alloc (.cells #[.int .i64 m, .slice Ab es.length cb] 30) = Wm at *
              generalize wb.heap.size = bWm at *
              obtain ⟨zA, cA0, cA1, -, -⟩ := nnM.out.1.two
              obtain ⟨zB, cB0, cB1, -, -⟩ := nN.out.1.two
              go_wp2_with fail
              refine (sameGraph_same m _ _ es _ _ Wm (by omega) nnM.out.2.1.sl nN.out.2.1.sl).mono ?_
              rintro e wz ⟨rfl, hbz⟩
              have Lz := Lib.hid (nnL.out.call hbz)
              go_wp2_with fail
              go_ret
              exact ⟨rfl, Lz.out.2.2⟩
            · go_wp2_with fail
              refine ⟨(Below.refl _ _).alloc (Nat.le_refl _) _, wa.heap.size, Nat.le_refl _, ?_⟩
              refine stg_one _ 5 15 (by kernel_rfl) (by rfl) (by kernel_rfl) (by rfl) ?_
              go_wp2_with fail
              refine (CWO _ (anX.out.alloc (.cells #[.int .i64 0, .slice none 0 0] 30)).2.1.sl).mono ?_
              clear CWO
              rintro e wb ⟨Ab, gb, cb, rfl, hgz, hob, hbb⟩
              have hbd := below_dl hbb
              have nnL := Lib.hid (anL.out.call (wo_below _ hbd (.int .i64 m) (.slice Ab es.length cb)))
              have nnX := Lib.hid (anX.out.call (wo_below _ hbd (.int .i64 m) (.slice Ab es.length cb)))
              have nnM := Lib.hid (anM.out.call (wo_below _ hbd (.int .i64 m) (.slice Ab es.length cb)))
              have nN := Lib.hid (wo_store (m := m) (c5 := cb) anL.out.2.2 _ _ hbd hgz hob)
              obtain ⟨zb, zb0, zb1, zf0, zf1⟩ := (wo_box _ hbd).two
              refine ⟨hbb.mono (by simp), wa.heap.size, Nat.le_refl _, ?_⟩
              clear hbb hbd hob hgz anL anX anM
              refine stg_seg _ 2 [16, 17, 18] (by kernel_rfl) (by kernel_rfl) (by kernel_rfl) (by kernel_rfl) ?_
              (simp only [List.map_cons, List.map_nil, List.getElem?_cons_zero, List.getElem?_cons_succ, Option.getD_some]); (repeat (go_big_quiet_step (fail))); (refine wpQuiet_nil ?_)
              refine stg_one _ 1 20 (by kernel_rfl) (by rfl) (by kernel_rfl) (by rfl) ?_
              go_wp2_with fail
              refine ⟨((Below.refl _ _).setCell (p := ⟨wa.heap.size, 0, none⟩) (Nat.le_refl _) _).setCell (p := ⟨wa.heap.size, 1, none⟩) (Nat.le_refl _) _, wa.heap.size, Nat.le_refl _, ?_⟩
              refine stg_seg _ 0 [21] (by kernel_rfl) (by kernel_rfl) (by kernel_rfl) (by kernel_rfl) ?_
              (simp only [List.map_cons, List.map_nil, List.getElem?_cons_zero, List.getElem?_cons_succ, Option.getD_some]); (repeat (go_big_quiet_step (fail))); (refine wpQuiet_nil ?_)
              refine stg_end (by kernel_rfl) ?_
              clear zb zb0 zb1 zf0 zf1
              generalize ((wb.setCell ⟨wa.heap.size, 0, none⟩ (.int .i64 m)).setCell ⟨wa.heap.size, 1, none⟩ (.slice Ab es.length cb)) = Wm at *
              generalize wa.heap.size = bWm at *
              obtain ⟨zA, cA0, cA1, -, -⟩ := nnM.out.1.two
              obtain ⟨zB, cB0, cB1, -, -⟩ := nN.out.1.two
              go_wp2_with fail
              refine (sameGraph_same m _ _ es _ _ Wm (by omega) nnM.out.2.1.sl nN.out.2.1.sl).mono ?_
              rintro e wz ⟨rfl, hbz⟩
              have Lz := Lib.hid (nnL.out.call hbz)
              go_wp2_with fail
              go_ret
              exact ⟨rfl, Lz.out.2.2⟩
          · go_wp2_with fail
            refine ⟨below_ad _ _, Wn.heap.size, Nat.le_refl _, ?_⟩
            refine stg_one _ 6 14 (by kernel_rfl) (by rfl) (by kernel_rfl) (by rfl) ?_
            go_wp2_with fail
            refine (CLK _ (nX.out.alloc (.cells #[.int .i64 0, .slice none 0 0] 30)).drew.2.1.sl).mono ?_
            rintro e wa ⟨rfl, hba⟩
            have anL := Lib.hid ((nL.out.alloc (.cells #[.int .i64 0, .slice none 0 0] 30)).drew.call hba)
            have anX := Lib.hid ((nX.out.alloc (.cells #[.int .i64 0, .slice none 0 0] 30)).drew.call hba)
            have anM := Lib.hid ((nM.out.alloc (.cells #[.int .i64 0, .slice none 0 0] 30)).drew.call hba)
            have hza := hba.size
            refine ⟨hba.mono (by show Wn.heap.size ≤ (Wn.alloc _).heap.size; simp), Wn.heap.size, Nat.le_refl _, ?_⟩
            refine stg_one _ 5 15 (by kernel_rfl) (by rfl) (by kernel_rfl) (by rfl) ?_
            go_wp2_with fail
            refine (CWO _ anX.out.2.1.sl).mono ?_
            clear CWO CLK
            rintro e wb ⟨Ab, gb, cb, rfl, hgb, hob, hbb⟩
            have hbd := hba.trans (hbb.mono hza)
            have hgz := Nat.le_trans hza hgb
            have nnL := Lib.hid (nL.out.call (wo_below _ hbd (.int .i64 m) (.slice Ab es.length cb)))
            have nnX := Lib.hid (nX.out.call (wo_below _ hbd (.int .i64 m) (.slice Ab es.length cb)))
            have nnM := Lib.hid (nM.out.call (wo_below _ hbd (.int .i64 m) (.slice Ab es.length cb)))
            have nN := Lib.hid (wo_store (m := m) (c5 := cb) nL.out.2.2 _ _ hbd hgz hob)
            obtain ⟨zb, zb0, zb1, zf0, zf1⟩ := (wo_box _ hbd).two
            have hzw : Wn.heap.size ≤ wa.heap.size := Nat.le_trans (by show Wn.heap.size ≤ (Wn.alloc _).heap.size; simp) hza
            refine ⟨hbb.mono hzw, Wn.heap.size, Nat.le_refl _, ?_⟩
            clear hba hbb hbd hob hgz hgb anL anX anM nL nX nM
            refine stg_seg _ 2 [16, 17, 18] (by kernel_rfl) (by kernel_rfl) (by kernel_rfl) (by kernel_rfl) ?_
            (simp only [List.map_cons, List.map_nil, List.getElem?_cons_zero, List.getElem?_cons_succ, Option.getD_some]); (repeat (go_big_quiet_step (fail))); (refine wpQuiet_nil ?_)
            refine stg_one _ 1 20 (by kernel_rfl) (by rfl) (by kernel_rfl) (by rfl) ?_
            go_wp2_with fail
            refine ⟨((Below.refl _ _).setCell (p := ⟨Wn.heap.size, 0, none⟩) (Nat.le_refl _) _).setCell (p := ⟨Wn.heap.size, 1, none⟩) (Nat.le_refl _) _, Wn.heap.size, Nat.le_refl _, ?_⟩
            refine stg_seg _ 0 [21] (by kernel_rfl) (by kernel_rfl) (by kernel_rfl) (by kernel_rfl) ?_
            (simp only [List.map_cons, List.map_nil, List.getElem?_cons_zero, List.getElem?_cons_succ, Option.getD_some]); (repeat (go_big_quiet_step (fail))); (refine wpQuiet_nil ?_)
            refine stg_end (by kernel_rfl) ?_
            clear zb zb0 zb1 zf0 zf1
            generalize ((wb.setCell ⟨Wn.heap.size, 0, none⟩ (.int .i64 m)).setCell ⟨Wn.heap.size, 1, none⟩ (.slice Ab es.length cb)) = Wm at *
            generalize Wn.heap.size = bWm at *
            obtain ⟨zA, cA0, cA1, -, -⟩ := nnM.out.1.two
            obtain ⟨zB, cB0, cB1, -, -⟩ := nN.out.1.two
            go_wp2_with fail
            refine (sameGraph_same m _ _ es _ _ Wm (by omega) nnM.out.2.1.sl nN.out.2.1.sl).mono ?_
            rintro e wz ⟨rfl, hbz⟩
            have Lz := Lib.hid (nnL.out.call hbz)
            go_wp2_with fail
            go_ret
            exact ⟨rfl, Lz.out.2.2⟩
        · go_wp2_with fail
          refine ⟨(Below.refl _ _).alloc (Nat.le_refl _) _, wa.heap.size, Nat.le_refl _, ?_⟩
          refine stg_one _ 5 15 (by kernel_rfl) (by rfl) (by kernel_rfl) (by rfl) ?_
          go_wp2_with fail
          refine (CWO _ (aP.out.alloc (.cells #[.int .i64 0, .slice none 0 0] 30)).2.1.sl).mono ?_
          clear CWO
          rintro e wb ⟨Ab, gb, cb, rfl, hgz, hob, hbb⟩
          have hbd := below_dl hbb
          have nL := Lib.hid (aL.out.call (wo_below _ hbd (.int .i64 m) (.slice Ab es.length cb)))
          have nX := Lib.hid (aX.out.call (wo_below _ hbd (.int .i64 m) (.slice Ab es.length cb)))
          have nP := Lib.hid (aP.out.call (wo_below _ hbd (.int .i64 m) (.slice Ab es.length cb)))
          have nM := Lib.hid (wo_store (m := m) (c5 := cb) aL.out.2.2 _ _ hbd hgz hob)
          obtain ⟨zb, zb0, zb1, zf0, zf1⟩ := (wo_box _ hbd).two
          refine ⟨hbb.mono (by simp), wa.heap.size, Nat.le_refl _, ?_⟩
          clear hbb hbd hob hgz aL aX aP
          refine stg_seg _ 2 [16, 17, 18] (by kernel_rfl) (by kernel_rfl) (by kernel_rfl) (by kernel_rfl) ?_
          (simp only [List.map_cons, List.map_nil, List.getElem?_cons_zero, List.getElem?_cons_succ, Option.getD_some]); (repeat (go_big_quiet_step (fail))); (refine wpQuiet_nil ?_)
          refine stg_one _ 1 20 (by kernel_rfl) (by rfl) (by kernel_rfl) (by rfl) ?_
          go_wp2_with fail
          refine ⟨((Below.refl _ _).setCell (p := ⟨wa.heap.size, 0, none⟩) (Nat.le_refl _) _).setCell (p := ⟨wa.heap.size, 1, none⟩) (Nat.le_refl _) _, wa.heap.size, Nat.le_refl _, ?_⟩
          refine stg_seg _ 0 [21] (by kernel_rfl) (by kernel_rfl) (by kernel_rfl) (by kernel_rfl) ?_
          (simp only [List.map_cons, List.map_nil, List.getElem?_cons_zero, List.getElem?_cons_succ, Option.getD_some]); (repeat (go_big_quiet_step (fail))); (refine wpQuiet_nil ?_)
          refine stg_end (by kernel_rfl) ?_
          clear zb zb0 zb1 zf0 zf1
          generalize ((wb.setCell ⟨wa.heap.size, 0, none⟩ (.int .i64 m)).setCell ⟨wa.heap.size, 1, none⟩ (.slice Ab es.length cb)) = Wn at *
          generalize wa.heap.size = bWn at *
          go_upto_region 13 with fail
          clear nP Ej1 hj1 Hrs HLQ
          obtain ⟨zA, cA0, cA1, -, -⟩ := nL.out.1.two
          obtain ⟨zB, cB0, cB1, -, -⟩ := nX.out.1.two
          obtain ⟨-, p0, p1, -⟩ := nL.out.link HLK.out
          dsimp only at p0 p1
          have zg := (nL.out.2.1 (by omega)).2.lt
          have hXr := fun (x : ExtB Wn.heap.size Wn.drew) (bb o : Nat) (h : bb < Wn.heap.size) => (show x.w.cell? ⟨bb, o, none⟩ = Wn.cell? ⟨bb, o, none⟩ from x.cell bb o h)
          have CLK := fun W (h : Sl W W.heap.size (some ⟨g5, 0, none⟩) xs) => link_impl m (some ⟨g5, 0, none⟩) xs c5 ka kb W (by omega) h
          rw [Ej2.out] at CLK
          have CWO := fun W (h : Sl W W.heap.size (some ⟨g5, 0, none⟩) xs) => wo_res m g5 xs c5 j2 W (by omega) Hxs.out hj2 h
          rw [HES.out.2] at CWO
          refine wp_region_stg 22 Wn.heap.size (by kernel_rfl) (by kernel_rfl) ?_
          refine stg_seg _ 8 [0, 1, 2, 3, 4, 5, 6, 7, 8, 9, 10, 11, 12, 13] (by kernel_rfl) (by kernel_rfl) (by kernel_rfl) (by kernel_rfl) ?_
          (simp only [List.map_cons, List.map_nil, List.getElem?_cons_zero, List.getElem?_cons_succ, Option.getD_some]); (repeat (go_big_quiet_step (fail))); (refine wpQuiet_nil ?_)
          clear hXr zA cA0 cA1 zB cB0 cB1 p0 p1 zg
          refine stg_two _ 7 14 19 (by kernel_rfl) (by rfl) (by rfl) (by kernel_rfl) (by rfl) (by rfl) ?_ ?_
          · go_wp2_with fail
            refine (CLK _ nX.out.drew.2.1.sl).mono ?_
            rintro e wa ⟨rfl, hba⟩
            have anL := Lib.hid (nL.out.drew.call hba)
            have anX := Lib.hid (nX.out.drew.call hba)
            have anM := Lib.hid (nM.out.drew.call hba)
            have hza := hba.size
            refine ⟨hba, wa.heap.size, hza, ?_⟩
            clear hba nL nX nM CLK
            refine stg_two _ 6 15 19 (by kernel_rfl) (by rfl) (by rfl) (by kernel_rfl) (by rfl) (by rfl) ?_ ?_
            · go_wp2_with fail
              refine (CWO _ anX.out.2.1.sl).mono ?_
              clear CWO
              rintro e wb ⟨Ab, gb, cb, rfl, hgb, hob, hbb⟩
              have nnL := Lib.hid ((anL.out.call hbb).alloc (.cells #[.int .i64 m, .slice Ab es.length cb] 30))
              have nnX := Lib.hid ((anX.out.call hbb).alloc (.cells #[.int .i64 m, .slice Ab es.length cb] 30))
              have nnM := Lib.hid ((anM.out.call hbb).alloc (.cells #[.int .i64 m, .slice Ab es.length cb] 30))
              have nN := Lib.hid (show LB w wb.heap.size m es Ab gb cb (wb.alloc (.cells #[.int .i64 m, .slice Ab es.length cb] 30)) from ⟨Box.new wb _ _, hob.alloc _, nnL.out.2.2⟩)
              have hzb := hbb.size
              refine ⟨hbb, wb.heap.size, hzb, ?_⟩
              clear hbb hob hgb anL anX anM
              refine stg_seg _ 3 [16, 17, 18] (by kernel_rfl) (by kernel_rfl) (by kernel_rfl) (by kernel_rfl) ?_
              (simp only [List.map_cons, List.map_nil, List.getElem?_cons_zero, List.getElem?_cons_succ, Option.getD_some]); (repeat (go_big_quiet_step (fail))); (refine wpQuiet_nil ?_)
              refine stg_one _ 2 19 (by kernel_rfl) (by rfl) (by kernel_rfl) (by rfl) ?_
              go_wp2_with fail
              refine ⟨(Below.refl _ _).alloc (Nat.le_refl _) _, wb.heap.size, Nat.le_refl _, ?_⟩
              refine stg_one _ 1 20 (by kernel_rfl) (by rfl) (by kernel_rfl) (by rfl) ?_
              go_wp2_with fail
              refine ⟨below_aa _ _ _, wb.heap.size, Nat.le_refl _, ?_⟩
              refine stg_seg _ 0 [21] (by kernel_rfl) (by kernel_rfl) (by kernel_rfl) (by kernel_rfl) ?_
              (simp only [List.map_cons, List.map_nil, List.getElem?_cons_zero, List.getElem?_cons_succ, Option.getD_some]); (repeat (go_big_quiet_step (fail))); (refine wpQuiet_nil ?_)
              refine stg_end (by kernel_rfl) ?_
              generalize wb.alloc (.cells #[.int .i64 m, .slice Ab es.length cb] 30) = Wm at *
              generalize wb.heap.size = bWm at *
              obtain ⟨zA, cA0, cA1, -, -⟩ := nnM.out.1.two
              obtain ⟨zB, cB0, cB1, -, -⟩ := nN.out.1.two
              go_wp2_with fail
              refine (sameGraph_same m _ _ es _ _ Wm (by omega) nnM.out.2.1.sl nN.out.2.1.sl).mono ?_
              rintro e wz ⟨rfl, hbz⟩
              have Lz := Lib.hid (nnL.out.call hbz)
              go_wp2_with fail
              go_ret
              exact ⟨rfl, Lz.out.2.2⟩
            · go_wp2_with fail
              refine ⟨(Below.refl _ _).alloc (Nat.le_refl _) _, wa.heap.size, Nat.le_refl _, ?_⟩
              refine stg_one _ 5 15 (by kernel_rfl) (by rfl) (by kernel_rfl) (by rfl) ?_
              go_wp2_with fail
              refine (CWO _ (anX.out.alloc (.cells #[.int .i64 0, .slice none 0 0] 30)).2.1.sl).mono ?_
              clear CWO
              rintro e wb ⟨Ab, gb, cb, rfl, hgz, hob, hbb⟩
              have hbd := below_dl hbb
              have nnL := Lib.hid (anL.out.call (wo_below _ hbd (.int .i64 m) (.slice Ab es.length cb)))
              have nnX := Lib.hid (anX.out.call (wo_below _ hbd (.int .i64 m) (.slice Ab es.length cb)))
              have nnM := Lib.hid (anM.out.call (wo_below _ hbd (.int .i64 m) (.slice Ab es.length cb)))
              have nN := Lib.hid (wo_store (m := m) (c5 := cb) anL.out.2.2 _ _ hbd hgz hob)
              obtain ⟨zb, zb0, zb1, zf0, zf1⟩ := (wo_box _ hbd).two
              refine ⟨hbb.mono (by simp), wa.heap.size, Nat.le_refl _, ?_⟩
              clear hbb hbd hob hgz anL anX anM
              refine stg_seg _ 2 [16, 17, 18] (by kernel_rfl) (by kernel_rfl) (by kernel_rfl) (by kernel_rfl) ?_
              (simp only [List.map_cons, List.map_nil, List.getElem?_cons_zero, List.getElem?_cons_succ, Option.getD_some]); (repeat (go_big_quiet_step (fail))); (refine wpQuiet_nil ?_)
              refine stg_one _ 1 20 (by kernel_rfl) (by rfl) (by kernel_rfl) (by rfl) ?_
              go_wp2_with fail
              refine ⟨((Below.refl _ _).setCell (p := ⟨wa.heap.size, 0, none⟩) (Nat.le_refl _) _).setCell (p := ⟨wa.heap.size, 1, none⟩) (Nat.le_refl _) _, wa.heap.size, Nat.le_refl _, ?_⟩
              refine stg_seg _ 0 [21] (by kernel_rfl) (by kernel_rfl) (by kernel_rfl) (by kernel_rfl) ?_
              (simp only [List.map_cons, List.map_nil, List.getElem?_cons_zero, List.getElem?_cons_succ, Option.getD_some]); (repeat (go_big_quiet_step (fail))); (refine wpQuiet_nil ?_)
              refine stg_end (by kernel_rfl) ?_
              clear zb zb0 zb1 zf0 zf1
              generalize ((wb.setCell ⟨wa.heap.size, 0, none⟩ (.int .i64 m)).setCell ⟨wa.heap.size, 1, none⟩ (.slice Ab es.length cb)) = Wm at *
              generalize wa.heap.size = bWm at *
              obtain ⟨zA, cA0, cA1, -, -⟩ := nnM.out.1.two
              obtain ⟨zB, cB0, cB1, -, -⟩ := nN.out.1.two
              go_wp2_with fail
              refine (sameGraph_same m _ _ es _ _ Wm (by omega) nnM.out.2.1.sl nN.out.2.1.sl).mono ?_
              rintro e wz ⟨rfl, hbz⟩
              have Lz := Lib.hid (nnL.out.call hbz)
              go_wp2_with fail
              go_ret
              exact ⟨rfl, Lz.out.2.2⟩
          · go_wp2_with fail
            refine ⟨below_ad _ _, Wn.heap.size, Nat.le_refl _, ?_⟩
            refine stg_one _ 6 14 (by kernel_rfl) (by rfl) (by kernel_rfl) (by rfl) ?_
            go_wp2_with fail
            refine (CLK _ (nX.out.alloc (.cells #[.int .i64 0, .slice none 0 0] 30)).drew.2.1.sl).mono ?_
            rintro e wa ⟨rfl, hba⟩
            have anL := Lib.hid ((nL.out.alloc (.cells #[.int .i64 0, .slice none 0 0] 30)).drew.call hba)
            have anX := Lib.hid ((nX.out.alloc (.cells #[.int .i64 0, .slice none 0 0] 30)).drew.call hba)
            have anM := Lib.hid ((nM.out.alloc (.cells #[.int .i64 0, .slice none 0 0] 30)).drew.call hba)
            have hza := hba.size
            refine ⟨hba.mono (by show Wn.heap.size ≤ (Wn.alloc _).heap.size; simp), Wn.heap.size, Nat.le_refl _, ?_⟩
            refine stg_one _ 5 15 (by kernel_rfl) (by rfl) (by kernel_rfl) (by rfl) ?_
            go_wp2_with fail
            refine (CWO _ anX.out.2.1.sl).mono ?_
            clear CWO CLK
            rintro e wb ⟨Ab, gb, cb, rfl, hgb, hob, hbb⟩
            have hbd := hba.trans (hbb.mono hza)
            have hgz := Nat.le_trans hza hgb
            have nnL := Lib.hid (nL.out.call (wo_below _ hbd (.int .i64 m) (.slice Ab es.length cb)))
            have nnX := Lib.hid (nX.out.call (wo_below _ hbd (.int .i64 m) (.slice Ab es.length cb)))
            have nnM := Lib.hid (nM.out.call (wo_below _ hbd (.int .i64 m) (.slice Ab es.length cb)))
            have nN := Lib.hid (wo_store (m := m) (c5 := cb) nL.out.2.2 _ _ hbd hgz hob)
            obtain ⟨zb, zb0, zb1, zf0, zf1⟩ := (wo_box _ hbd).two
            have hzw : Wn.heap.size ≤ wa.heap.size := Nat.le_trans (by show Wn.heap.size ≤ (Wn.alloc _).heap.size; simp) hza
            refine ⟨hbb.mono hzw, Wn.heap.size, Nat.le_refl _, ?_⟩
            clear hba hbb hbd hob hgz hgb anL anX anM nL nX nM
            refine stg_seg _ 2 [16, 17, 18] (by kernel_rfl) (by kernel_rfl) (by kernel_rfl) (by kernel_rfl) ?_
            (simp only [List.map_cons, List.map_nil, List.getElem?_cons_zero, List.getElem?_cons_succ, Option.getD_some]); (repeat (go_big_quiet_step (fail))); (refine wpQuiet_nil ?_)
            refine stg_one _ 1 20 (by kernel_rfl) (by rfl) (by kernel_rfl) (by rfl) ?_
            go_wp2_with fail
            refine ⟨((Below.refl _ _).setCell (p := ⟨Wn.heap.size, 0, none⟩) (Nat.le_refl _) _).setCell (p := ⟨Wn.heap.size, 1, none⟩) (Nat.le_refl _) _, Wn.heap.size, Nat.le_refl _, ?_⟩
            refine stg_seg _ 0 [21] (by kernel_rfl) (by kernel_rfl) (by kernel_rfl) (by kernel_rfl) ?_
            (simp only [List.map_cons, List.map_nil, List.getElem?_cons_zero, List.getElem?_cons_succ, Option.getD_some]); (repeat (go_big_quiet_step (fail))); (refine wpQuiet_nil ?_)
            refine stg_end (by kernel_rfl) ?_
            clear zb zb0 zb1 zf0 zf1
            generalize ((wb.setCell ⟨Wn.heap.size, 0, none⟩ (.int .i64 m)).setCell ⟨Wn.heap.size, 1, none⟩ (.slice Ab es.length cb)) = Wm at *
            generalize Wn.heap.size = bWm at *
            obtain ⟨zA, cA0, cA1, -, -⟩ := nnM.out.1.two
            obtain ⟨zB, cB0, cB1, -, -⟩ := nN.out.1.two
            go_wp2_with fail
            refine (sameGraph_same m _ _ es _ _ Wm (by omega) nnM.out.2.1.sl nN.out.2.1.sl).mono ?_
            rintro e wz ⟨rfl, hbz⟩
            have Lz := Lib.hid (nnL.out.call hbz)
            go_wp2_with fail
            go_ret
            exact ⟨rfl, Lz.out.2.2⟩
      · go_wp2_with fail
        refine ⟨below_ad _ _, W6.heap.size, Nat.le_refl _, ?_⟩
        refine stg_one _ 6 14 (by kernel_rfl) (by rfl) (by kernel_rfl) (by rfl) ?_
        go_wp2_with fail
        refine (CLK _ (P.out.alloc (.cells #[.int .i64 0, .slice none 0 0] 30)).drew.2.1.sl).mono ?_
        rintro e wa ⟨rfl, hba⟩
        have aL := Lib.hid ((L.out.alloc (.cells #[.int .i64 0, .slice none 0 0] 30)).drew.call hba)
        have aX := Lib.hid ((X.out.alloc (.cells #[.int .i64 0, .slice none 0 0] 30)).drew.call hba)
        have aP := Lib.hid ((P.out.alloc (.cells #[.int .i64 0, .slice none 0 0] 30)).drew.call hba)
        have hza := hba.size
        refine ⟨hba.mono (by show W6.heap.size ≤ (W6.alloc _).heap.size; simp), W6.heap.size, Nat.le_refl _, ?_⟩
        refine stg_one _ 5 15 (by kernel_rfl) (by rfl) (by kernel_rfl) (by rfl) ?_
        go_wp2_with fail
        refine (CWO _ aP.out.2.1.sl).mono ?_
        clear CWO CLK
        rintro e wb ⟨Ab, gb, cb, rfl, hgb, hob, hbb⟩
        have hbd := hba.trans (hbb.mono hza)
        have hgz := Nat.le_trans hza hgb
        have nL := Lib.hid (L.out.call (wo_below _ hbd (.int .i64 m) (.slice Ab es.length cb)))
        have nX := Lib.hid (X.out.call (wo_below _ hbd (.int .i64 m) (.slice Ab es.length cb)))
        have nP := Lib.hid (P.out.call (wo_below _ hbd (.int .i64 m) (.slice Ab es.length cb)))
        have nM := Lib.hid (wo_store (m := m) (c5 := cb) L.out.2.2 _ _ hbd hgz hob)
        obtain ⟨zb, zb0, zb1, zf0, zf1⟩ := (wo_box _ hbd).two
        have hzw : W6.heap.size ≤ wa.heap.size := Nat.le_trans (by show W6.heap.size ≤ (W6.alloc _).heap.size; simp) hza
        refine ⟨hbb.mono hzw, W6.heap.size, Nat.le_refl _, ?_⟩
        clear hba hbb hbd hob hgz hgb aL aX aP L X P
        refine stg_seg _ 2 [16, 17, 18] (by kernel_rfl) (by kernel_rfl) (by kernel_rfl) (by kernel_rfl) ?_
        (simp only [List.map_cons, List.map_nil, List.getElem?_cons_zero, List.getElem?_cons_succ, Option.getD_some]); (repeat (go_big_quiet_step (fail))); (refine wpQuiet_nil ?_)
        refine stg_one _ 1 20 (by kernel_rfl) (by rfl) (by kernel_rfl) (by rfl) ?_
        go_wp2_with fail
        refine ⟨((Below.refl _ _).setCell (p := ⟨W6.heap.size, 0, none⟩) (Nat.le_refl _) _).setCell (p := ⟨W6.heap.size, 1, none⟩) (Nat.le_refl _) _, W6.heap.size, Nat.le_refl _, ?_⟩
        refine stg_seg _ 0 [21] (by kernel_rfl) (by kernel_rfl) (by kernel_rfl) (by kernel_rfl) ?_
        (simp only [List.map_cons, List.map_nil, List.getElem?_cons_zero, List.getElem?_cons_succ, Option.getD_some]); (repeat (go_big_quiet_step (fail))); (refine wpQuiet_nil ?_)
        refine stg_end (by kernel_rfl) ?_
        clear zb zb0 zb1 zf0 zf1
        generalize ((wb.setCell ⟨W6.heap.size, 0, none⟩ (.int .i64 m)).setCell ⟨W6.heap.size, 1, none⟩ (.slice Ab es.length cb)) = Wn at *
        generalize W6.heap.size = bWn at *
        go_upto_region 13 with fail
        clear nP Ej1 hj1 Hrs HLQ
        obtain ⟨zA, cA0, cA1, -, -⟩ := nL.out.1.two
        obtain ⟨zB, cB0, cB1, -, -⟩ := nX.out.1.two
        obtain ⟨-, p0, p1, -⟩ := nL.out.link HLK.out
        dsimp only at p0 p1
        have zg := (nL.out.2.1 (by omega)).2.lt
        have hXr := fun (x : ExtB Wn.heap.size Wn.drew) (bb o : Nat) (h : bb < Wn.heap.size) => (show x.w.cell? ⟨bb, o, none⟩ = Wn.cell? ⟨bb, o, none⟩ from x.cell bb o h)
        have CLK := fun W (h : Sl W W.heap.size (some ⟨g5, 0, none⟩) xs) => link_impl m (some ⟨g5, 0, none⟩) xs c5 ka kb W (by omega) h
        rw [Ej2.out] at CLK
        have CWO := fun W (h : Sl W W.heap.size (some ⟨g5, 0, none⟩) xs) => wo_res m g5 xs c5 j2 W (by omega) Hxs.out hj2 h
        rw [HES.out.2] at CWO
        refine wp_region_stg 22 Wn.heap.size (by kernel_rfl) (by kernel_rfl) ?_
        refine stg_seg _ 8 [0, 1, 2, 3, 4, 5, 6, 7, 8, 9, 10, 11, 12, 13] (by kernel_rfl) (by kernel_rfl) (by kernel_rfl) (by kernel_rfl) ?_
        (simp only [List.map_cons, List.map_nil, List.getElem?_cons_zero, List.getElem?_cons_succ, Option.getD_some]); (repeat (go_big_quiet_step (fail))); (refine wpQuiet_nil ?_)
        clear hXr zA cA0 cA1 zB cB0 cB1 p0 p1 zg
        refine stg_two _ 7 14 19 (by kernel_rfl) (by rfl) (by rfl) (by kernel_rfl) (by rfl) (by rfl) ?_ ?_
        · go_wp2_with fail
          refine (CLK _ nX.out.drew.2.1.sl).mono ?_
          rintro e wa ⟨rfl, hba⟩
          have anL := Lib.hid (nL.out.drew.call hba)
          have anX := Lib.hid (nX.out.drew.call hba)
          have anM := Lib.hid (nM.out.drew.call hba)
          have hza := hba.size
          refine ⟨hba, wa.heap.size, hza, ?_⟩
          clear hba nL nX nM CLK
          refine stg_two _ 6 15 19 (by kernel_rfl) (by rfl) (by rfl) (by kernel_rfl) (by rfl) (by rfl) ?_ ?_
          · go_wp2_with fail
            refine (CWO _ anX.out.2.1.sl).mono ?_
            clear CWO
            rintro e wb ⟨Ab, gb, cb, rfl, hgb, hob, hbb⟩
            have nnL := Lib.hid ((anL.out.call hbb).alloc (.cells #[.int .i64 m, .slice Ab es.length cb] 30))
            have nnX := Lib.hid ((anX.out.call hbb).alloc (.cells #[.int .i64 m, .slice Ab es.length cb] 30))
            have nnM := Lib.hid ((anM.out.call hbb).alloc (.cells #[.int .i64 m, .slice Ab es.length cb] 30))
            have nN := Lib.hid (show LB w wb.heap.size m es Ab gb cb (wb.alloc (.cells #[.int .i64 m, .slice Ab es.length cb] 30)) from ⟨Box.new wb _ _, hob.alloc _, nnL.out.2.2⟩)
            have hzb := hbb.size
            refine ⟨hbb, wb.heap.size, hzb, ?_⟩
            clear hbb hob hgb anL anX anM
            refine stg_seg _ 3 [16, 17, 18] (by kernel_rfl) (by kernel_rfl) (by kernel_rfl) (by kernel_rfl) ?_
            (simp only [List.map_cons, List.map_nil, List.getElem?_cons_zero, List.getElem?_cons_succ, Option.getD_some]); (repeat (go_big_quiet_step (fail))); (refine wpQuiet_nil ?_)
            refine stg_one _ 2 19 (by kernel_rfl) (by rfl) (by kernel_rfl) (by rfl) ?_
            go_wp2_with fail
            refine ⟨(Below.refl _ _).alloc (Nat.le_refl _) _, wb.heap.size, Nat.le_refl _, ?_⟩
            refine stg_one _ 1 20 (by kernel_rfl) (by rfl) (by kernel_rfl) (by rfl) ?_
            go_wp2_with fail
            refine ⟨below_aa _ _ _, wb.heap.size, Nat.le_refl _, ?_⟩
            refine stg_seg _ 0 [21] (by kernel_rfl) (by kernel_rfl) (by kernel_rfl) (by kernel_rfl) ?_
            (simp only [List.map_cons, List.map_nil, List.getElem?_cons_zero, List.getElem?_cons_succ, Option.getD_some]); (repeat (go_big_quiet_step (fail))); (refine wpQuiet_nil ?_)
            refine stg_end (by kernel_rfl) ?_
            generalize wb.alloc (.cells #[.int .i64 m, .slice Ab es.length cb] 30) = Wm at *
            generalize wb.heap.size = bWm at *
            obtain ⟨zA, cA0, cA1, -, -⟩ := nnM.out.1.two
            obtain ⟨zB, cB0, cB1, -, -⟩ := nN.out.1.two
            go_wp2_with fail
            refine (sameGraph_same m _ _ es _ _ Wm (by omega) nnM.out.2.1.sl nN.out.2.1.sl).mono ?_
            rintro e wz ⟨rfl, hbz⟩
            have Lz := Lib.hid (nnL.out.call hbz)
            go_wp2_with fail
            go_ret
            exact ⟨rfl, Lz.out.2.2⟩
          · go_wp2_with fail
            refine ⟨(Below.refl _ _).alloc (Nat.le_refl _) _, wa.heap.size, Nat.le_refl _, ?_⟩
            refine stg_one _ 5 15 (by kernel_rfl) (by rfl) (by kernel_rfl) (by rfl) ?_
            go_wp2_with fail
            refine (CWO _ (anX.out.alloc (.cells #[.int .i64 0, .slice none 0 0] 30)).2.1.sl).mono ?_
            clear CWO
            rintro e wb ⟨Ab, gb, cb, rfl, hgz, hob, hbb⟩
            have hbd := below_dl hbb
            have nnL := Lib.hid (anL.out.call (wo_below _ hbd (.int .i64 m) (.slice Ab es.length cb)))
            have nnX := Lib.hid (anX.out.call (wo_below _ hbd (.int .i64 m) (.slice Ab es.length cb)))
            have nnM := Lib.hid (anM.out.call (wo_below _ hbd (.int .i64 m) (.slice Ab es.length cb)))
            have nN := Lib.hid (wo_store (m := m) (c5 := cb) anL.out.2.2 _ _ hbd hgz hob)
            obtain ⟨zb, zb0, zb1, zf0, zf1⟩ := (wo_box _ hbd).two
            refine ⟨hbb.mono (by simp), wa.heap.size, Nat.le_refl _, ?_⟩
            clear hbb hbd hob hgz anL anX anM
            refine stg_seg _ 2 [16, 17, 18] (by kernel_rfl) (by kernel_rfl) (by kernel_rfl) (by kernel_rfl) ?_
            (simp only [List.map_cons, List.map_nil, List.getElem?_cons_zero, List.getElem?_cons_succ, Option.getD_some]); (repeat (go_big_quiet_step (fail))); (refine wpQuiet_nil ?_)
            refine stg_one _ 1 20 (by kernel_rfl) (by rfl) (by kernel_rfl) (by rfl) ?_
            go_wp2_with fail
            refine ⟨((Below.refl _ _).setCell (p := ⟨wa.heap.size, 0, none⟩) (Nat.le_refl _) _).setCell (p := ⟨wa.heap.size, 1, none⟩) (Nat.le_refl _) _, wa.heap.size, Nat.le_refl _, ?_⟩
            refine stg_seg _ 0 [21] (by kernel_rfl) (by kernel_rfl) (by kernel_rfl) (by kernel_rfl) ?_
            (simp only [List.map_cons, List.map_nil, List.getElem?_cons_zero, List.getElem?_cons_succ, Option.getD_some]); (repeat (go_big_quiet_step (fail))); (refine wpQuiet_nil ?_)
            refine stg_end (by kernel_rfl) ?_
            clear zb zb0 zb1 zf0 zf1
            generalize ((wb.setCell ⟨wa.heap.size, 0, none⟩ (.int .i64 m)).setCell ⟨wa.heap.size, 1, none⟩ (.slice Ab es.length cb)) = Wm at *
            generalize wa.heap.size = bWm at *
            obtain ⟨zA, cA0, cA1, -, -⟩ := nnM.out.1.two
            obtain ⟨zB, cB0, cB1, -, -⟩ := nN.out.1.two
            go_wp2_with fail
            refine (sameGraph_same m _ _ es _ _ Wm (by omega) nnM.out.2.1.sl nN.out.2.1.sl).mono ?_
            rintro e wz ⟨rfl, hbz⟩
            have Lz := Lib.hid (nnL.out.call hbz)
            go_wp2_with fail
            go_ret
            exact ⟨rfl, Lz.out.2.2⟩
        · go_wp2_with fail
          refine ⟨below_ad _ _, Wn.heap.size, Nat.le_refl _, ?_⟩
          refine stg_one _ 6 14 (by kernel_rfl) (by rfl) (by kernel_rfl) (by rfl) ?_
          go_wp2_with fail
          refine (CLK _ (nX.out.alloc (.cells #[.int .i64 0, .slice none 0 0] 30)).drew.2.1.sl).mono ?_
          rintro e wa ⟨rfl, hba⟩
          have anL := Lib.hid ((nL.out.alloc (.cells #[.int .i64 0, .slice none 0 0] 30)).drew.call hba)
          have anX := Lib.hid ((nX.out.alloc (.cells #[.int .i64 0, .slice none 0 0] 30)).drew.call hba)
          have anM := Lib.hid ((nM.out.alloc (.cells #[.int .i64 0, .slice none 0 0] 30)).drew.call hba)
          have hza := hba.size
          refine ⟨hba.mono (by show Wn.heap.size ≤ (Wn.alloc _).heap.size; simp), Wn.heap.size, Nat.le_refl _, ?_⟩
          refine stg_one _ 5 15 (by kernel_rfl) (by rfl) (by kernel_rfl) (by rfl) ?_
          go_wp2_with fail
          refine (CWO _ anX.out.2.1.sl).mono ?_
          clear CWO CLK
          rintro e wb ⟨Ab, gb, cb, rfl, hgb, hob, hbb⟩
          have hbd := hba.trans (hbb.mono hza)
          have hgz := Nat.le_trans hza hgb
          have nnL := Lib.hid (nL.out.call (wo_below _ hbd (.int .i64 m) (.slice Ab es.length cb)))
          have nnX := Lib.hid (nX.out.call (wo_below _ hbd (.int .i64 m) (.slice Ab es.length cb)))
          have nnM := Lib.hid (nM.out.call (wo_below _ hbd (.int .i64 m) (.slice Ab es.length cb)))
          have nN := Lib.hid (wo_store (m := m) (c5 := cb) nL.out.2.2 _ _ hbd hgz hob)
          obtain ⟨zb, zb0, zb1, zf0, zf1⟩ := (wo_box _ hbd).two
          have hzw : Wn.heap.size ≤ wa.heap.size := Nat.le_trans (by show Wn.heap.size ≤ (Wn.alloc _).heap.size; simp) hza
          refine ⟨hbb.mono hzw, Wn.heap.size, Nat.le_refl _, ?_⟩
          clear hba hbb hbd hob hgz hgb anL anX anM nL nX nM
          refine stg_seg _ 2 [16, 17, 18] (by kernel_rfl) (by kernel_rfl) (by kernel_rfl) (by kernel_rfl) ?_
          (simp only [List.map_cons, List.map_nil, List.getElem?_cons_zero, List.getElem?_cons_succ, Option.getD_some]); (repeat (go_big_quiet_step (fail))); (refine wpQuiet_nil ?_)
          refine stg_one _ 1 20 (by kernel_rfl) (by rfl) (by kernel_rfl) (by rfl) ?_
          go_wp2_with fail
          refine ⟨((Below.refl _ _).setCell (p := ⟨Wn.heap.size, 0, none⟩) (Nat.le_refl _) _).setCell (p := ⟨Wn.heap.size, 1, none⟩) (Nat.le_refl _) _, Wn.heap.size, Nat.le_refl _, ?_⟩
          refine stg_seg _ 0 [21] (by kernel_rfl) (by kernel_rfl) (by kernel_rfl) (by kernel_rfl) ?_
          (simp only [List.map_cons, List.map_nil, List.getElem?_cons_zero, List.getElem?_cons_succ, Option.getD_some]); (repeat (go_big_quiet_step (fail))); (refine wpQuiet_nil ?_)
          refine stg_end (by kernel_rfl) ?_
          clear zb zb0 zb1 zf0 zf1
          generalize ((wb.setCell ⟨Wn.heap.size, 0, none⟩ (.int .i64 m)).setCell ⟨Wn.heap.size, 1, none⟩ (.slice Ab es.length cb)) = Wm at *
          generalize Wn.heap.size = bWm at *
          obtain ⟨zA, cA0, cA1, -, -⟩ := nnM.out.1.two
          obtain ⟨zB, cB0, cB1, -, -⟩ := nN.out.1.two
          go_wp2_with fail
          refine (sameGraph_same m _ _ es _ _ Wm (by omega) nnM.out.2.1.sl nN.out.2.1.sl).mono ?_
          rintro e wz ⟨rfl, hbz⟩
          have Lz := Lib.hid (nnL.out.call hbz)
          go_wp2_with fail
          go_ret
          exact ⟨rfl, Lz.out.2.2⟩
  · by_cases hl1 : len ≤ 1048576
    · have hl2 : 1048576 < len' := by omega
      clear hl
      go_enter Try.func9, Try.ntmps9
      go_wp2
      go_ret
      exact ⟨rfl, by (repeat (first | exact Below.refl _ _ | (refine Below.alloc ?_ (by first | exact Nat.le_refl _ | omega | (simp; done) | (simp; omega)) _) | (refine Below.setCell ?_ (by first | exact Nat.le_refl _ | omega | (simp; done) | (simp; omega)) _) | exact Below.drew ‹_›))⟩
    · clear hl
      go_enter Try.func9, Try.ntmps9
      go_wp2
      go_ret
      exact ⟨rfl, by (repeat (first | exact Below.refl _ _ | (refine Below.alloc ?_ (by first | exact Nat.le_refl _ | omega | (simp; done) | (simp; omega)) _) | (refine Below.setCell ?_ (by first | exact Nat.le_refl _ | omega | (simp; done) | (simp; omega)) _) | exact Below.drew ‹_›))⟩
end Go.Proofs.Ytjponnfnofpdgaa
