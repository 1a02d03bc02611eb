/-
  Contracts over this seat: the program's TableTurn.
-/
import Derived.Test.YtohflcbpjjnccabTfd
import Derived.Test.YtohflcbpjjnccabTi
import Derived.Test.YtohflcbpjjnccabC1
namespace Go.Proofs.Ytohflcbpjjnccab
open Go.RowKit Go.Maps

theorem cnt_filter {rs : List Lk} {h : Int} : (rs.filter (fun x => decide (x.c = h))).length = cntR rs h := rfl
theorem filter_all {rs : List Lk} : rs.filter (fun _ => true) = rs := by
  rw [List.filter_eq_self]
  intro _ _
  rfl

set_option maxRecDepth 100000 in
set_option maxHeartbeats 6400000 in
theorem tableTurn_impl (ga oa : Nat) (rs : List Lk) (c : Nat) (gb ob : Nat) (hs : List Int) (d : Nat) (h node : Int) (w : World) (hm : rs.length ≤ 1048576) (hmh : hs.length ≤ 1048576) (hS : Sl w w.heap.size (some ⟨ga, oa, none⟩) rs) (hI : Sli w w.heap.size (some ⟨gb, ob, none⟩) hs) :
   Calls Try.prog 29 #[tbV (some ⟨ga, oa, none⟩) rs.length c (some ⟨gb, ob, none⟩) hs.length d, .int .i64 h, .int .i64 node] w (TrnRes rs hs h node w) := by
  have HS := Lib.hid hS
  have HI := Lib.hid hI
  have CV := fun W h1 h2 => tableValid_impl (some ⟨ga, oa, none⟩) rs c (some ⟨gb, ob, none⟩) hs d W hm hmh h1 h2
  have CH := fun W => hasHop_any (some ⟨ga, oa, none⟩) rs.length c (some ⟨gb, ob, none⟩) hs.length d h W
  have CN := fun W => nodev_any node W
  have HE : Hid (trnB rs hs h node = (tbB rs hs && inB h 0 ((hs.length : Int) - 1) && inB node 0 7)) := Lib.hid rfl
  have HNO := Lib.hid (fun hb => trn_no (rs := rs) (hs := hs) (h := h) (node := node) hb)
  have HYES := Lib.hid (fun (hb : trnB rs hs h node = true) => (show trnR rs hs h node = rs ∧ trnH rs hs h node = hs.set h.toNat node ∧ trnN rs hs h node = (cntR rs h : Int) by
    unfold trnR trnH trnN
    rw [hb]
    exact ⟨rfl, rfl, rfl⟩))
  have CK1 := fun W (h1 : Sl W W.heap.size (some ⟨ga, oa, none⟩) rs) (h2 : Sli W W.heap.size (some ⟨gb, ob, none⟩) hs) => (show Calls Try.prog 61 #[tbV (some ⟨ga, oa, none⟩) rs.length c (some ⟨gb, ob, none⟩) hs.length d, .func (.func 62) #[] #[]] W fun e w' => ∃ v, e = .returned v ∧ NewTb rs hs W v w' by
    have := keept1_any (fun _ => true) ga oa rs c gb ob hs d W hm hmh h1 h2 (fun x W' _ => tcl1_any x W')
    rwa [filter_all] at this)
  have CK2 := fun W P (h1 : Sl W W.heap.size (some ⟨ga, oa, none⟩) rs) (h2 : Sli W W.heap.size (some ⟨gb, ob, none⟩) hs) (hP : Box W P 3 #[.int .i64 h]) => (show Calls Try.prog 61 #[tbV (some ⟨ga, oa, none⟩) rs.length c (some ⟨gb, ob, none⟩) hs.length d, .func (.func 63) #[] #[.pointer (some ⟨P, 0, none⟩)]] W fun e w' => (∃ A3 c3 B3 d3, e = .returned (.agg #[.slice A3 (cntR rs h) c3, .slice B3 hs.length d3])) ∧ Below W.heap.size W w' by
    refine (keept2_any (fun x => decide (x.c = h)) P ga oa rs c gb ob hs d W hm hmh h1 h2 (fun x W' hb => tcl2_any x h P W' (hP.below hb hP.lt))).mono ?_
    rintro e w' ⟨v, rfl, g, c3, g', d3, rfl, -, -, -, -, hb, -⟩
    exact ⟨⟨_, _, _, _, rfl⟩, hb⟩)
  have HK := Lib.hid (((Box.new w 30 #[.slice (some ⟨ga, oa, none⟩) rs.length c, .slice (some ⟨gb, ob, none⟩) hs.length d]).alloc (.cells #[.int .i64 h] 3)).alloc (.cells #[.slice none 0 0, .slice none 0 0] 30))
  have r1 := (Box.new (w.alloc (.cells #[.slice (some ⟨ga, oa, none⟩) rs.length c, .slice (some ⟨gb, ob, none⟩) hs.length d] 30)) 3 #[.int .i64 h]).alloc (.cells #[.slice none 0 0, .slice none 0 0] 30)
  have l1 := Box.new ((w.alloc (.cells #[.slice (some ⟨ga, oa, none⟩) rs.length c, .slice (some ⟨gb, ob, none⟩) hs.length d] 30)).alloc (.cells #[.int .i64 h] 3)) 30 #[.slice none 0 0, .slice none 0 0]
  simp only [World.size_alloc] at r1 l1
  have HR := Lib.hid r1
  have HL := Lib.hid l1
  have B0 := Lib.hid (show Below w.heap.size w (((w.alloc (.cells #[.slice (some ⟨ga, oa, none⟩) rs.length c, .slice (some ⟨gb, ob, none⟩) hs.length d] 30)).alloc (.cells #[.int .i64 h] 3)).alloc (.cells #[.slice none 0 0, .slice none 0 0] 30)) by (repeat (first | exact Below.refl _ _ | (refine Below.alloc ?_ (by first | exact Nat.le_refl _ | omega | (simp; done) | (simp; omega)) _) | (refine Below.setCell ?_ (by first | exact Nat.le_refl _ | omega | (simp; done) | (simp; omega)) _) | exact Below.drew ‹_›)))
  clear hS hI r1 l1
  cases hv : tbB rs hs with
  | false =>
    rw [hv] at CV
    have HF := Lib.hid (HNO.out (by rw [HE.out, hv]; rfl))
    clear hv HNO HYES HE CH CN CK1 CK2
    go_enter Try.func29, Try.ntmps29
    go_wp2_with fail
    generalize ((w.alloc (.cells #[.slice (some ⟨ga, oa, none⟩) rs.length c, .slice (some ⟨gb, ob, none⟩) hs.length d] 30)).alloc (.cells #[.int .i64 h] 3)).alloc (.cells #[.slice none 0 0, .slice none 0 0] 30) = V at *
    refine (CV _ ((HS.out.below B0.out).more B0.out.size) ((HI.out.below B0.out).more B0.out.size)).mono ?_
    clear CV
    rintro e w1 ⟨rfl, hb1⟩
    have B1 := Lib.hid (B0.out.trans (hb1.mono B0.out.size))
    have L1 := Lib.hid (HL.out.below hb1 HL.out.lt)
    clear hb1
    obtain ⟨z9, f0, f1, m0, m1⟩ := L1.out.two
    go_wp2_with fail
    obtain ⟨b2, q0, q1⟩ := ret_two L1.out (.slice none 0 0) (.slice none 0 0)
    refine bodyPost_ret (v := .tuple #[tbV none 0 0 none 0 0, .int .i64 (-1)]) (by simp [results, Try.results29, go_sem, q0, q1]) rfl ?_
    unfold TrnRes
    rw [HF.out.1, HF.out.2.1, HF.out.2.2]
    exact ⟨_, rfl, none, 0, w.heap.size, none, 0, w.heap.size, rfl, Nat.le_refl _, Nat.le_refl _, fun h => by simp at h, fun h => by simp at h, (B1.out.setCell (p := ⟨w.heap.size + 1 + 1, 0, none⟩) (by dsimp only; omega) _).setCell (p := ⟨w.heap.size + 1 + 1, 1, none⟩) (by dsimp only; omega) _, Nat.le_refl _, Nat.le_refl _⟩
  | true =>
    rw [hv] at CV
    cases hh : inB h 0 ((hs.length : Int) - 1) with
    | false =>
      rw [hh] at CH
      have HF := Lib.hid (HNO.out (by rw [HE.out, hv, hh]; rfl))
      clear hv hh HNO HYES HE CN CK1 CK2
      go_enter Try.func29, Try.ntmps29
      go_wp2_with fail
      generalize ((w.alloc (.cells #[.slice (some ⟨ga, oa, none⟩) rs.length c, .slice (some ⟨gb, ob, none⟩) hs.length d] 30)).alloc (.cells #[.int .i64 h] 3)).alloc (.cells #[.slice none 0 0, .slice none 0 0] 30) = V at *
      refine (CV _ ((HS.out.below B0.out).more B0.out.size) ((HI.out.below B0.out).more B0.out.size)).mono ?_
      clear CV
      rintro e w0 ⟨rfl, hb1⟩
      have B2 := Lib.hid (B0.out.trans (hb1.mono B0.out.size))
      have K1 := Lib.hid (HK.out.below hb1 HK.out.lt)
      have R1 := Lib.hid (HR.out.below hb1 HR.out.lt)
      have L0 := Lib.hid (HL.out.below hb1 HL.out.lt)
      clear hb1 B0 HK HR HL
      obtain ⟨z1, e10, e11, -, -⟩ := K1.out.two
      have x10 : w0.cell? ⟨w.heap.size + 1, 0, none⟩ = some (.int .i64 h) := R1.out.cell 0
      have z2 := R1.out.lt
      go_wp2_with fail
      refine (CH _).mono ?_
      clear CH
      rintro e w1 ⟨rfl, hb1⟩
      have B3 := Lib.hid (B2.out.trans (hb1.mono B2.out.size))
      have K2 := Lib.hid (K1.out.below hb1 K1.out.lt)
      have R2 := Lib.hid (R1.out.below hb1 R1.out.lt)
      have L2 := Lib.hid (L0.out.below hb1 L0.out.lt)
      clear hb1 B2 K1 R1 L0 z1 e10 e11 x10 z2
      have B1 := Lib.hid B3.out
      have L1 := Lib.hid L2.out
      obtain ⟨z9, f0, f1, m0, m1⟩ := L1.out.two
      go_wp2_with fail
      obtain ⟨b2, q0, q1⟩ := ret_two L1.out (.slice none 0 0) (.slice none 0 0)
      refine bodyPost_ret (v := .tuple #[tbV none 0 0 none 0 0, .int .i64 (-1)]) (by simp [results, Try.results29, go_sem, q0, q1]) rfl ?_
      unfold TrnRes
      rw [HF.out.1, HF.out.2.1, HF.out.2.2]
      exact ⟨_, rfl, none, 0, w.heap.size, none, 0, w.heap.size, rfl, Nat.le_refl _, Nat.le_refl _, fun h => by simp at h, fun h => by simp at h, (B1.out.setCell (p := ⟨w.heap.size + 1 + 1, 0, none⟩) (by dsimp only; omega) _).setCell (p := ⟨w.heap.size + 1 + 1, 1, none⟩) (by dsimp only; omega) _, Nat.le_refl _, Nat.le_refl _⟩
    | true =>
      rw [hh] at CH
      cases hn : inB node 0 7 with
      | false =>
        rw [hn] at CN
        have HF := Lib.hid (HNO.out (by rw [HE.out, hv, hh, hn]; rfl))
        clear hv hh hn HNO HYES HE CK1 CK2
        go_enter Try.func29, Try.ntmps29
        go_wp2_with fail
        generalize ((w.alloc (.cells #[.slice (some ⟨ga, oa, none⟩) rs.length c, .slice (some ⟨gb, ob, none⟩) hs.length d] 30)).alloc (.cells #[.int .i64 h] 3)).alloc (.cells #[.slice none 0 0, .slice none 0 0] 30) = V at *
        refine (CV _ ((HS.out.below B0.out).more B0.out.size) ((HI.out.below B0.out).more B0.out.size)).mono ?_
        clear CV
        rintro e w0 ⟨rfl, hb1⟩
        have B2 := Lib.hid (B0.out.trans (hb1.mono B0.out.size))
        have K1 := Lib.hid (HK.out.below hb1 HK.out.lt)
        have R1 := Lib.hid (HR.out.below hb1 HR.out.lt)
        have L0 := Lib.hid (HL.out.below hb1 HL.out.lt)
        clear hb1 B0 HK HR HL
        obtain ⟨z1, e10, e11, -, -⟩ := K1.out.two
        have x10 : w0.cell? ⟨w.heap.size + 1, 0, none⟩ = some (.int .i64 h) := R1.out.cell 0
        have z2 := R1.out.lt
        go_wp2_with fail
        refine (CH _).mono ?_
        clear CH
        rintro e w1 ⟨rfl, hb1⟩
        have B3 := Lib.hid (B2.out.trans (hb1.mono B2.out.size))
        have K2 := Lib.hid (K1.out.below hb1 K1.out.lt)
        have R2 := Lib.hid (R1.out.below hb1 R1.out.lt)
        have L2 := Lib.hid (L0.out.below hb1 L0.out.lt)
        clear hb1 B2 K1 R1 L0 z1 e10 e11 x10 z2
        go_wp2_with fail
        refine (CN _).mono ?_
        clear CN
        rintro e w2 ⟨rfl, hb1⟩
        have B1 := Lib.hid (B3.out.trans (hb1.mono B3.out.size))
        have K3 := Lib.hid (K2.out.below hb1 K2.out.lt)
        have R3 := Lib.hid (R2.out.below hb1 R2.out.lt)
        have L1 := Lib.hid (L2.out.below hb1 L2.out.lt)
        clear hb1 B3 K2 R2 L2
        obtain ⟨z9, f0, f1, m0, m1⟩ := L1.out.two
        go_wp2_with fail
        obtain ⟨b2, q0, q1⟩ := ret_two L1.out (.slice none 0 0) (.slice none 0 0)
        refine bodyPost_ret (v := .tuple #[tbV none 0 0 none 0 0, .int .i64 (-1)]) (by simp [results, Try.results29, go_sem, q0, q1]) rfl ?_
        unfold TrnRes
        rw [HF.out.1, HF.out.2.1, HF.out.2.2]
        exact ⟨_, rfl, none, 0, w.heap.size, none, 0, w.heap.size, rfl, Nat.le_refl _, Nat.le_refl _, fun h => by simp at h, fun h => by simp at h, (B1.out.setCell (p := ⟨w.heap.size + 1 + 1, 0, none⟩) (by dsimp only; omega) _).setCell (p := ⟨w.heap.size + 1 + 1, 1, none⟩) (by dsimp only; omega) _, Nat.le_refl _, Nat.le_refl _⟩
      | true =>
        rw [hn] at CN
        obtain ⟨q, rfl⟩ : ∃ q : Nat, h = (q : Int) := ⟨h.toNat, by unfold inB at hh; simp at hh; omega⟩
        have hql : q < hs.length := by unfold inB at hh; simp at hh; omega
        have HF := Lib.hid (HYES.out (by rw [HE.out, hv, hh, hn]; rfl))
        rw [Int.toNat_natCast] at HF
        clear hv hh hn HNO HYES HE
        generalize hcnt : cntR rs (q : Int) = cnt at *
        clear hcnt
        go_enter Try.func29, Try.ntmps29
        go_wp2_with fail
        generalize ((w.alloc (.cells #[.slice (some ⟨ga, oa, none⟩) rs.length c, .slice (some ⟨gb, ob, none⟩) hs.length d] 30)).alloc (.cells #[.int .i64 (q : Int)] 3)).alloc (.cells #[.slice none 0 0, .slice none 0 0] 30) = V at *
        refine (CV _ ((HS.out.below B0.out).more B0.out.size) ((HI.out.below B0.out).more B0.out.size)).mono ?_
        clear CV
        rintro e w0 ⟨rfl, hb1⟩
        have B2 := Lib.hid (B0.out.trans (hb1.mono B0.out.size))
        have K1 := Lib.hid (HK.out.below hb1 HK.out.lt)
        have R1 := Lib.hid (HR.out.below hb1 HR.out.lt)
        have L0 := Lib.hid (HL.out.below hb1 HL.out.lt)
        clear hb1 B0 HK HR HL
        obtain ⟨z1, e10, e11, -, -⟩ := K1.out.two
        have x10 : w0.cell? ⟨w.heap.size + 1, 0, none⟩ = some (.int .i64 (q : Int)) := R1.out.cell 0
        have z2 := R1.out.lt
        go_wp2_with fail
        refine (CH _).mono ?_
        clear CH
        rintro e w1 ⟨rfl, hb1⟩
        have B3 := Lib.hid (B2.out.trans (hb1.mono B2.out.size))
        have K2 := Lib.hid (K1.out.below hb1 K1.out.lt)
        have R2 := Lib.hid (R1.out.below hb1 R1.out.lt)
        have L2 := Lib.hid (L0.out.below hb1 L0.out.lt)
        clear hb1 B2 K1 R1 L0 z1 e10 e11 x10 z2
        go_wp2_with fail
        refine (CN _).mono ?_
        clear CN
        rintro e w2 ⟨rfl, hb1⟩
        have B4 := Lib.hid (B3.out.trans (hb1.mono B3.out.size))
        have K3 := Lib.hid (K2.out.below hb1 K2.out.lt)
        have R3 := Lib.hid (R2.out.below hb1 R2.out.lt)
        have L3 := Lib.hid (L2.out.below hb1 L2.out.lt)
        clear hb1 B3 K2 R2 L2
        obtain ⟨z1, e10, e11, -, -⟩ := K3.out.two
        go_wp2_with fail
        refine (CK1 _ ((HS.out.below B4.out).more B4.out.size) ((HI.out.below B4.out).more B4.out.size)).mono ?_
        clear CK1
        rintro e w4 ⟨v, rfl, g9, c9, gn, dn, rfl, hg9, hgn, ar, an, hb4, hc9, hdn, rm⟩
        have R4 := Lib.hid (((R3.out.below hb4 R3.out.lt).setFar (p := ⟨gn, q, none⟩) (by dsimp only; have := R3.out.lt; omega) (.int .i64 node)).alloc (.cells #[.slice (some ⟨g9, 0, none⟩) rs.length c9, .slice (some ⟨gn, 0, none⟩) hs.length dn] 30))
        have K4 := Lib.hid (((K3.out.below hb4 K3.out.lt).setFar (p := ⟨gn, q, none⟩) (by dsimp only; have := K3.out.lt; omega) (.int .i64 node)).alloc (.cells #[.slice (some ⟨g9, 0, none⟩) rs.length c9, .slice (some ⟨gn, 0, none⟩) hs.length dn] 30))
        have L4 := Lib.hid (((L3.out.below hb4 L3.out.lt).setFar (p := ⟨gn, q, none⟩) (by dsimp only; have := L3.out.lt; omega) (.int .i64 node)).alloc (.cells #[.slice (some ⟨g9, 0, none⟩) rs.length c9, .slice (some ⟨gn, 0, none⟩) hs.length dn] 30))
        have X40 := Box.new (w4.setCell ⟨gn, q, none⟩ (.int .i64 node)) 30 #[.slice (some ⟨g9, 0, none⟩) rs.length c9, .slice (some ⟨gn, 0, none⟩) hs.length dn]
        have hsz4 : (w4.setCell ⟨gn, q, none⟩ (.int .i64 node)).heap.size = w4.heap.size := by simp
        rw [hsz4] at X40
        have X4 := Lib.hid X40
        have hbX : Below (w4.setCell ⟨gn, q, none⟩ (.int .i64 node)).heap.size (w4.setCell ⟨gn, q, none⟩ (.int .i64 node)) ((w4.setCell ⟨gn, q, none⟩ (.int .i64 node)).alloc (.cells #[.slice (some ⟨g9, 0, none⟩) rs.length c9, .slice (some ⟨gn, 0, none⟩) hs.length dn] 30)) := (Below.refl _ _).alloc (Nat.le_refl _) _
        have B5 := Lib.hid (((B4.out.trans (hb4.mono B4.out.size)).setCell (p := ⟨gn, q, none⟩) (Nat.le_trans B4.out.size hgn) (.int .i64 node)).alloc (by rw [hsz4]; exact Nat.le_trans B4.out.size hb4.size) (.cells #[.slice (some ⟨g9, 0, none⟩) rs.length c9, .slice (some ⟨gn, 0, none⟩) hs.length dn] 30))
        have ar4 := ar.far (p := ⟨gn, q, none⟩) (arr_ne ar an) (.int .i64 node)
        have an4 := an.setL node hql
        have AR := Lib.hid (ar4.below hbX ar4.lt)
        have AN := Lib.hid (an4.below hbX an4.lt)
        have hgx : g9 < w4.heap.size := ar.lt
        have hgnx : gn < w4.heap.size := an.lt
        have hb4s := hb4.size
        have hb3s := B4.out.size
        have hl2 := L3.out.lt
        have hgne : g9 ≠ gn := arr_ne ar an
        have RW4 := R3.out.below hb4 R3.out.lt
        have x20 : w4.cell? ⟨w.heap.size + 1, 0, none⟩ = some (.int .i64 (q : Int)) := RW4.cell 0
        have z2 := RW4.lt
        obtain ⟨cs, hcs, hat⟩ := an
        have hnq := hat q _ (List.getElem?_eq_getElem hql)
        have y20 : w4.cell? ⟨gn, q, none⟩ = some (.int .i64 (hs[q])) := by rw [cell_of_row w4 gn q _ _ _ hcs]; exact hnq
        have y21 : w4.frozen? ⟨gn, q, none⟩ = false := by simp [World.frozen?, hcs]
        have hqi : (q : Int) < (hs.length : Int) := by omega
        clear ar rm hb4 e10 e11 z1 K3 R3 L3 B4 RW4 hcs hat hnq cs hbX ar4 an4 hsz4 X40
        go_wp2_with fail
        generalize (w4.setCell ⟨gn, q, none⟩ (.int .i64 node)).alloc (.cells #[.slice (some ⟨g9, 0, none⟩) rs.length c9, .slice (some ⟨gn, 0, none⟩) hs.length dn] 30) = wr at *
        clear x20 z2 y20 y21
        generalize w4.heap.size = Q at *
        obtain ⟨z5, e50, e51, -, -⟩ := K4.out.two
        obtain ⟨z6, f60, f61, -, -⟩ := X4.out.two
        have nT : ¬ XL (w.heap.size + 1 + 1) w.heap.size := fun e => by unfold XL at e; omega
        have nX : ¬ XL (w.heap.size + 1 + 1) Q := fun e => by unfold XL at e; omega
        have hX0 := fun (y : ExtX (XL (w.heap.size + 1 + 1)) wr.drew) => (y.cell w.heap.size 0 z5 nT).trans (show wr.drew.cell? ⟨w.heap.size, 0, none⟩ = _ from e50)
        have hX3 := fun (y : ExtX (XL (w.heap.size + 1 + 1)) wr.drew) => (y.cell w.heap.size 1 z5 nT).trans (show wr.drew.cell? ⟨w.heap.size, 1, none⟩ = _ from e51)
        have hX1 := fun (y : ExtX (XL (w.heap.size + 1 + 1)) wr.drew) => (y.cell Q 0 z6 nX).trans (show wr.drew.cell? ⟨Q, 0, none⟩ = _ from f60)
        have hX2 := fun (y : ExtX (XL (w.heap.size + 1 + 1)) wr.drew) => (y.cell Q 1 z6 nX).trans (show wr.drew.cell? ⟨Q, 1, none⟩ = _ from f61)
        refine wp_region_stx 8 (XL (w.heap.size + 1 + 1)) (by kernel_rfl) (by kernel_rfl) ?_
        refine stx_seg _ 6 [0, 1] (by kernel_rfl) (by kernel_rfl) (by kernel_rfl) (by kernel_rfl) ?_
        (simp only [List.map_cons, List.map_nil, List.getElem?_cons_zero, List.getElem?_cons_succ, Option.getD_some]); (repeat (go_big_quiet_step (fail))); (refine wpQuiet_nil ?_)
        clear hX0 hX1 hX2 hX3 e50 e51 f60 f61 z5 z6
        refine stx_one _ 5 2 (by kernel_rfl) (by rfl) (by kernel_rfl) (by rfl) ?_
        go_wp2_with fail
        refine ⟨Kx.refl _ _, _, fun _ h => h, ?_⟩
        refine stx_one _ 4 3 (by kernel_rfl) (by rfl) (by kernel_rfl) (by rfl) ?_
        go_wp2_with fail
        have hbd : Below wr.heap.size wr wr.drew := (Below.refl _ _).drew
        have BD := Lib.hid (show Below w.heap.size w wr.drew from B5.out.drew)
        refine (CK2 _ (w.heap.size + 1) ((HS.out.below BD.out).more BD.out.size) ((HI.out.below BD.out).more BD.out.size) (R4.out.below hbd R4.out.lt)).mono ?_
        clear CK2
        rintro e w5 ⟨⟨A3, c3, B3, d3, rfl⟩, hb5⟩
        refine ⟨Kx.of_below hb5, _, fun _ h => h, ?_⟩
        have L5 := Lib.hid ((L4.out.below hbd L4.out.lt).below hb5 L4.out.lt)
        have AR5 := Lib.hid ((AR.out.below hbd AR.out.lt).below hb5 AR.out.lt)
        have AN5 := Lib.hid ((AN.out.below hbd AN.out.lt).below hb5 AN.out.lt)
        have B6 := Lib.hid (BD.out.trans (hb5.mono BD.out.size))
        have hfld : ∀ (u v : Value) (W : World), Sem.run Try.prog (Instr.field 30 (.agg #[u, v]) 0) W = .ok u W := fun u v W => by unfold Instr.field; simp [go_sem, asAgg, Result.andThen]
        clear hb5 hbd R4 K4 L4 X4 AR AN BD B5
        refine stx_seg _ 2 [4, 5] (by kernel_rfl) (by kernel_rfl) (by kernel_rfl) (by kernel_rfl) ?_
        (simp only [List.map_cons, List.map_nil, List.getElem?_cons_zero, List.getElem?_cons_succ, Option.getD_some]); (repeat (go_big_quiet_step (fail))); (refine wpQuiet_nil ?_)
        obtain ⟨zl, l0, l1, m0, m1⟩ := L5.out.two
        refine stx_one _ 1 6 (by kernel_rfl) (by rfl) (by kernel_rfl) (by rfl) ?_
        go_wp2_with fail
        refine ⟨Kx.set2 _ _ _ _, _, fun _ h => h, ?_⟩
        refine stx_seg _ 0 [7] (by kernel_rfl) (by kernel_rfl) (by kernel_rfl) (by kernel_rfl) ?_
        (simp only [List.map_cons, List.map_nil, List.getElem?_cons_zero, List.getElem?_cons_succ, Option.getD_some]); (repeat (go_big_quiet_step (fail))); (refine wpQuiet_nil ?_)
        refine stx_end (by kernel_rfl) ?_
        go_wp2_with fail
        obtain ⟨b2, q0, q1⟩ := ret_two L5.out (.slice (some ⟨g9, 0, none⟩) rs.length c9) (.slice (some ⟨gn, 0, none⟩) hs.length dn)
        refine bodyPost_ret (v := .tuple #[tbV (some ⟨g9, 0, none⟩) rs.length c9 (some ⟨gn, 0, none⟩) hs.length dn, .int .i64 (cnt : Int)]) (by simp [results, Try.results29, go_sem, q0, q1]) rfl ?_
        unfold TrnRes
        rw [HF.out.1, HF.out.2.1, HF.out.2.2]
        refine ⟨_, rfl, some ⟨g9, 0, none⟩, c9, g9, some ⟨gn, 0, none⟩, dn, gn, by rw [List.length_set], by omega, by omega, fun _ => ⟨rfl, ?_⟩, fun _ => ⟨rfl, ?_⟩, ?_, hc9, by rw [List.length_set]; exact hdn⟩
        · exact (AR5.out.far (p := ⟨w.heap.size + 1 + 1, 0, none⟩) (by dsimp only; omega) _).far (p := ⟨w.heap.size + 1 + 1, 1, none⟩) (by dsimp only; omega) _
        · exact (AN5.out.setFar (p := ⟨w.heap.size + 1 + 1, 0, none⟩) (by dsimp only; omega) _).setFar (p := ⟨w.heap.size + 1 + 1, 1, none⟩) (by dsimp only; omega) _
        · exact (B6.out.setCell (p := ⟨w.heap.size + 1 + 1, 0, none⟩) (by dsimp only; omega) _).setCell (p := ⟨w.heap.size + 1 + 1, 1, none⟩) (by dsimp only; omega) _
end Go.Proofs.Ytohflcbpjjnccab
