/-
  Contracts over this seat: what the program's TableAdd, TableRemove and TableTurn answer, in blocks of its own.
-/
import Derived.Test.YtohflcbpjjnccabTfl
import Derived.Test.YtohflcbpjjnccabWu
import Derived.Test.YtohflcbpjjnccabC1
namespace Go.Proofs.Ytohflcbpjjnccab
open Go.RowKit Go.Maps

def RemT (rs : List Lk) (hs : List Int) (p b : Int) (w : World) (e : Ending) (w' : World) : Prop := ∃ v, e = .returned (.tuple #[v, .bool (remB rs hs p b)]) ∧ ImpT (remR rs hs p b) (remH rs hs) w v w'
def TrnT (rs : List Lk) (hs : List Int) (h node : Int) (w : World) (e : Ending) (w' : World) : Prop := ∃ v, e = .returned (.tuple #[v, .int .i64 (trnN rs hs h node)]) ∧ ImpT (trnR rs hs h node) (trnH rs hs h node) w v w'
def AddT (rs : List Lk) (hs : List Int) (r : Lk) (w : World) (e : Ending) (w' : World) : Prop := ∃ v, e = .returned (.tuple #[v, .bool (addB rs hs r)]) ∧ ImpT (addR rs hs r) (addH rs hs r) w v w'

set_option maxRecDepth 100000 in
set_option maxHeartbeats 3200000 in
theorem tableRemove_imp (ga oa : Nat) (rs : List Lk) (c : Nat) (gb ob : Nat) (hs : List Int) (d : Nat) (p b : Int) (w : World) (hm : rs.length ≤ 1048576) (hmh : hs.length ≤ 1048576) (hS : Sl w w.heap.size (some ⟨ga, oa, none⟩) rs) (hI : Sli w w.heap.size (some ⟨gb, ob, none⟩) hs) :
   Calls Try.prog 23 #[tbV (some ⟨ga, oa, none⟩) rs.length c (some ⟨gb, ob, none⟩) hs.length d, .int .i64 p, .int .i64 b] w (RemT rs hs p b w) := by
  have B0 : Below w.heap.size w ((w.alloc (.cells #[.slice (some ⟨ga, oa, none⟩) rs.length c, .slice (some ⟨gb, ob, none⟩) hs.length d] 30)).alloc (.cells #[.slice none 0 0, .slice none 0 0] 30)) := by (repeat (first | exact Below.refl _ _ | (refine Below.alloc ?_ (by first | exact Nat.le_refl _ | omega | (simp; done) | (simp; omega)) _) | (refine Below.setCell ?_ (by first | exact Nat.le_refl _ | omega | (simp; done) | (simp; omega)) _) | exact Below.drew ‹_›))
  have HK := Lib.hid ((Box.new w 30 #[.slice (some ⟨ga, oa, none⟩) rs.length c, .slice (some ⟨gb, ob, none⟩) hs.length d]).alloc (.cells #[.slice none 0 0, .slice none 0 0] 30))
  have L0 := Box.new (w.alloc (.cells #[.slice (some ⟨ga, oa, none⟩) rs.length c, .slice (some ⟨gb, ob, none⟩) hs.length d] 30)) 30 #[.slice none 0 0, .slice none 0 0]
  rw [World.size_alloc] at L0
  have HL := Lib.hid L0
  have HS := Lib.hid hS
  have HI := Lib.hid hI
  have HB := Lib.hid B0
  have CV := fun W h1 h2 => tableValid_impl (some ⟨ga, oa, none⟩) rs c (some ⟨gb, ob, none⟩) hs d W hm hmh h1 h2
  have CW := fun W h1 h2 => without_rt ga oa rs c gb ob hs d p b W hm hmh h1 h2
  clear hS hI B0 L0
  cases hv : tbB rs hs with
  | false =>
    rw [hv] at CV
    have HF : Hid (remR rs hs p b = [] ∧ remH rs hs = [] ∧ remB rs hs p b = false) := Lib.hid (by unfold remR remH remB; rw [hv]; exact ⟨rfl, rfl, rfl⟩)
    clear hv CW
    go_enter Try.func23, Try.ntmps23
    go_wp2_with fail
    refine (CV _ ((HS.out.below HB.out).more HB.out.size) ((HI.out.below HB.out).more HB.out.size)).mono ?_
    clear CV
    rintro e w1 ⟨rfl, hb1⟩
    have B1 := Lib.hid (HB.out.trans (hb1.mono HB.out.size))
    have L1 := Lib.hid (HL.out.below hb1 HL.out.lt)
    clear hb1
    obtain ⟨z9, f0, f1, q0, q1⟩ := L1.out.two
    go_wp2_with fail
    obtain ⟨b2, r0, r1⟩ := ret_two L1.out (.slice none 0 0) (.slice none 0 0)
    refine bodyPost_ret (v := .tuple #[tbV none 0 0 none 0 0, .bool false]) (by simp [results, Try.results23, go_sem, r0, r1]) rfl ?_
    unfold RemT
    rw [HF.out.1, HF.out.2.1, HF.out.2.2]
    exact ⟨_, rfl, none, 0, none, 0, fun _ => False, rfl, .inr ⟨rfl, rfl, fun _ h => h⟩, fun _ h => h.elim, (B1.out.setCell (p := ⟨w.heap.size + 1, 0, none⟩) (Nat.le_succ _) _).setCell (p := ⟨w.heap.size + 1, 1, none⟩) (Nat.le_succ _) _⟩
  | true =>
    rw [hv] at CV
    have HF : Hid (remR rs hs p b = delR p b rs ∧ remH rs hs = hs ∧ remB rs hs p b = decide ((delR p b rs).length < rs.length)) := Lib.hid (by unfold remR remH remB; rw [hv, keyB_len]; exact ⟨rfl, rfl, rfl⟩)
    clear hv
    generalize delR p b rs = out at *
    go_enter Try.func23, Try.ntmps23
    go_wp2_with fail
    refine (CV _ ((HS.out.below HB.out).more HB.out.size) ((HI.out.below HB.out).more HB.out.size)).mono ?_
    clear CV
    rintro e w1 ⟨rfl, hb1⟩
    have B1 := Lib.hid (HB.out.trans (hb1.mono HB.out.size))
    have K1 := Lib.hid (HK.out.below hb1 HK.out.lt)
    have L1 := Lib.hid (HL.out.below hb1 HL.out.lt)
    have hz1' := L1.out.lt
    clear hb1 HK HL HB
    obtain ⟨z1, e10, e11, -, -⟩ := K1.out.two
    go_wp2_with fail
    refine (CW _ ((HS.out.below B1.out).more B1.out.size) ((HI.out.below B1.out).more B1.out.size)).mono ?_
    clear CW
    rintro e w4 ⟨v, rfl, g9, c9, gn, dn, rfl, hg9, hgn, ar, an, hb4, hc9, hdn, -⟩
    have KT := Lib.hid ((K1.out.below hb4 K1.out.lt).alloc (.cells #[.slice (some ⟨g9, 0, none⟩) out.length c9, .slice (some ⟨gn, 0, none⟩) hs.length dn] 30))
    have KL := Lib.hid ((L1.out.below hb4 L1.out.lt).alloc (.cells #[.slice (some ⟨g9, 0, none⟩) out.length c9, .slice (some ⟨gn, 0, none⟩) hs.length dn] 30))
    have KX := Lib.hid (Box.new w4 30 #[.slice (some ⟨g9, 0, none⟩) out.length c9, .slice (some ⟨gn, 0, none⟩) hs.length dn])
    have BX := Lib.hid ((B1.out.trans (hb4.mono B1.out.size)).alloc (Nat.le_trans B1.out.size hb4.size) (.cells #[.slice (some ⟨g9, 0, none⟩) out.length c9, .slice (some ⟨gn, 0, none⟩) hs.length dn] 30))
    have AR := Lib.hid (ar.below ((Below.refl _ _).alloc (Nat.le_refl _) (.cells #[.slice (some ⟨g9, 0, none⟩) out.length c9, .slice (some ⟨gn, 0, none⟩) hs.length dn] 30)) ar.lt)
    have AN := Lib.hid (an.below ((Below.refl _ _).alloc (Nat.le_refl _) (.cells #[.slice (some ⟨g9, 0, none⟩) out.length c9, .slice (some ⟨gn, 0, none⟩) hs.length dn] 30)) an.lt)
    have hb4s := hb4.size
    clear ar an hb4 e10 e11 z1 K1 L1 B1
    go_wp2_with fail
    generalize w4.alloc (.cells #[.slice (some ⟨g9, 0, none⟩) out.length c9, .slice (some ⟨gn, 0, none⟩) hs.length dn] 30) = wr at *
    generalize w4.heap.size = X at *
    obtain ⟨z5, e50, e51, -, -⟩ := KT.out.two
    obtain ⟨z6, f60, f61, -, -⟩ := KX.out.two
    obtain ⟨zl, l0, l1, m0, m1⟩ := KL.out.two
    have nT : ¬ XL (w.heap.size + 1) w.heap.size := fun e => by unfold XL at e; omega
    have nX : ¬ XL (w.heap.size + 1) X := fun e => by unfold XL at e; omega
    have hX0 := fun (y : ExtX (XL (w.heap.size + 1)) wr.drew) => (y.cell w.heap.size 0 z5 nT).trans (show wr.drew.cell? ⟨w.heap.size, 0, none⟩ = _ from e50)
    have hX1 := fun (y : ExtX (XL (w.heap.size + 1)) wr.drew) => (y.cell X 0 z6 nX).trans (show wr.drew.cell? ⟨X, 0, none⟩ = _ from f60)
    have hX2 := fun (y : ExtX (XL (w.heap.size + 1)) wr.drew) => (y.cell X 1 z6 nX).trans (show wr.drew.cell? ⟨X, 1, none⟩ = _ from f61)
    refine wp_region_stx 10 (XL (w.heap.size + 1)) (by kernel_rfl) (by kernel_rfl) ?_
    refine stx_seg _ 2 [0, 1, 2, 3, 4, 5, 6, 7] (by kernel_rfl) (by kernel_rfl) (by kernel_rfl) (by kernel_rfl) ?_
    (simp only [List.map_cons, List.map_nil, List.getElem?_cons_zero, List.getElem?_cons_succ, Option.getD_some]); (repeat (go_big_quiet_step (fail))); (refine wpQuiet_nil ?_)
    clear hX0 hX1 hX2
    refine stx_one _ 1 8 (by kernel_rfl) (by rfl) (by kernel_rfl) (by rfl) ?_
    go_wp2_with fail
    refine ⟨Kx.set2 _ _ _ _, _, fun _ h => h, ?_⟩
    refine stx_seg _ 0 [9] (by kernel_rfl) (by kernel_rfl) (by kernel_rfl) (by kernel_rfl) ?_
    (simp only [List.map_cons, List.map_nil, List.getElem?_cons_zero, List.getElem?_cons_succ, Option.getD_some]); (repeat (go_big_quiet_step (fail))); (refine wpQuiet_nil ?_)
    refine stx_end (by kernel_rfl) ?_
    go_wp2_with fail
    obtain ⟨b2, r0, r1⟩ := ret_two KL.out (.slice (some ⟨g9, 0, none⟩) out.length c9) (.slice (some ⟨gn, 0, none⟩) hs.length dn)
    refine bodyPost_ret (v := .tuple #[tbV (some ⟨g9, 0, none⟩) out.length c9 (some ⟨gn, 0, none⟩) hs.length dn, .bool (decide ((out.length : Int) < (rs.length : Int)))]) (by simp [results, Try.results23, go_sem, r0, r1]) rfl ?_
    unfold RemT
    rw [HF.out.1, HF.out.2.1, HF.out.2.2]
    refine ⟨_, by rw [show decide ((out.length : Int) < (rs.length : Int)) = decide (out.length < rs.length) by rw [decide_eq_decide]; omega], some ⟨g9, 0, none⟩, c9, some ⟨gn, 0, none⟩, dn, fun b => b = g9 ∨ b = gn, rfl, tabM_of ?_ ?_, fun b hb => by rcases hb with rfl | rfl <;> omega, ?_⟩
    · exact (AR.out.far (p := ⟨w.heap.size + 1, 0, none⟩) (by dsimp only; omega) _).far (p := ⟨w.heap.size + 1, 1, none⟩) (by dsimp only; omega) _
    · exact (AN.out.setFar (p := ⟨w.heap.size + 1, 0, none⟩) (by dsimp only; omega) _).setFar (p := ⟨w.heap.size + 1, 1, none⟩) (by dsimp only; omega) _
    · exact (BX.out.drew.setCell (p := ⟨w.heap.size + 1, 0, none⟩) (Nat.le_succ _) _).setCell (p := ⟨w.heap.size + 1, 1, none⟩) (Nat.le_succ _) _

set_option maxRecDepth 100000 in
set_option maxHeartbeats 6400000 in
theorem tableTurn_imp (ga oa : Nat) (rs : List Lk) (c : Nat) (gb ob : Nat) (hs : List Int) (d : Nat) (h node : Int) (w : World) (hm : rs.length ≤ 1048576) (hmh : hs.length ≤ 1048576) (hS : Sl w w.heap.size (some ⟨ga, oa, none⟩) rs) (hI : Sli w w.heap.size (some ⟨gb, ob, none⟩) hs) :
   Calls Try.prog 29 #[tbV (some ⟨ga, oa, none⟩) rs.length c (some ⟨gb, ob, none⟩) hs.length d, .int .i64 h, .int .i64 node] w (TrnT rs hs h node w) := by
  have HS := Lib.hid hS
  have HI := Lib.hid hI
  have CV := fun W h1 h2 => tableValid_impl (some ⟨ga, oa, none⟩) rs c (some ⟨gb, ob, none⟩) hs d W hm hmh h1 h2
  have CH := fun W => hasHop_any (some ⟨ga, oa, none⟩) rs.length c (some ⟨gb, ob, none⟩) hs.length d h W
  have CN := fun W => nodev_any node W
  have HE : Hid (trnB rs hs h node = (tbB rs hs && inB h 0 ((hs.length : Int) - 1) && inB node 0 7)) := Lib.hid rfl
  have HNO := Lib.hid (fun hb => trn_no (rs := rs) (hs := hs) (h := h) (node := node) hb)
  have HYES := Lib.hid (fun (hb : trnB rs hs h node = true) => (show trnR rs hs h node = rs ∧ trnH rs hs h node = hs.set h.toNat node ∧ trnN rs hs h node = (cntR rs h : Int) by
    unfold trnR trnH trnN
    rw [hb]
    exact ⟨rfl, rfl, rfl⟩))
  have CK1 := fun W (h1 : Sl W W.heap.size (some ⟨ga, oa, none⟩) rs) (h2 : Sli W W.heap.size (some ⟨gb, ob, none⟩) hs) => (show Calls Try.prog 61 #[tbV (some ⟨ga, oa, none⟩) rs.length c (some ⟨gb, ob, none⟩) hs.length d, .func (.func 62) #[] #[]] W fun e w' => ∃ v, e = .returned v ∧ NewTb rs hs W v w' by
    have := keept1_any (fun _ => true) ga oa rs c gb ob hs d W hm hmh h1 h2 (fun x W' _ => tcl1_any x W')
    rwa [filter_all] at this)
  have CK2 := fun W P (h1 : Sl W W.heap.size (some ⟨ga, oa, none⟩) rs) (h2 : Sli W W.heap.size (some ⟨gb, ob, none⟩) hs) (hP : Box W P 3 #[.int .i64 h]) => (show Calls Try.prog 61 #[tbV (some ⟨ga, oa, none⟩) rs.length c (some ⟨gb, ob, none⟩) hs.length d, .func (.func 63) #[] #[.pointer (some ⟨P, 0, none⟩)]] W fun e w' => (∃ A3 c3 B3 d3, e = .returned (.agg #[.slice A3 (cntR rs h) c3, .slice B3 hs.length d3])) ∧ Below W.heap.size W w' by
    refine (keept2_any (fun x => decide (x.c = h)) P ga oa rs c gb ob hs d W hm hmh h1 h2 (fun x W' hb => tcl2_any x h P W' (hP.below hb hP.lt))).mono ?_
    rintro e w' ⟨v, rfl, g, c3, g', d3, rfl, -, -, -, -, hb, -⟩
    exact ⟨⟨_, _, _, _, rfl⟩, hb⟩)
  have HK := Lib.hid (((Box.new w 30 #[.slice (some ⟨ga, oa, none⟩) rs.length c, .slice (some ⟨gb, ob, none⟩) hs.length d]).alloc (.cells #[.int .i64 h] 3)).alloc (.cells #[.slice none 0 0, .slice none 0 0] 30))
  have r1 := (Box.new (w.alloc (.cells #[.slice (some ⟨ga, oa, none⟩) rs.length c, .slice (some ⟨gb, ob, none⟩) hs.length d] 30)) 3 #[.int .i64 h]).alloc (.cells #[.slice none 0 0, .slice none 0 0] 30)
  have l1 := Box.new ((w.alloc (.cells #[.slice (some ⟨ga, oa, none⟩) rs.length c, .slice (some ⟨gb, ob, none⟩) hs.length d] 30)).alloc (.cells #[.int .i64 h] 3)) 30 #[.slice none 0 0, .slice none 0 0]
  simp only [World.size_alloc] at r1 l1
  have HR := Lib.hid r1
  have HL := Lib.hid l1
  have B0 := Lib.hid (show Below w.heap.size w (((w.alloc (.cells #[.slice (some ⟨ga, oa, none⟩) rs.length c, .slice (some ⟨gb, ob, none⟩) hs.length d] 30)).alloc (.cells #[.int .i64 h] 3)).alloc (.cells #[.slice none 0 0, .slice none 0 0] 30)) by (repeat (first | exact Below.refl _ _ | (refine Below.alloc ?_ (by first | exact Nat.le_refl _ | omega | (simp; done) | (simp; omega)) _) | (refine Below.setCell ?_ (by first | exact Nat.le_refl _ | omega | (simp; done) | (simp; omega)) _) | exact Below.drew ‹_›)))
  clear hS hI r1 l1
  cases hv : tbB rs hs with
  | false =>
    rw [hv] at CV
    have HF := Lib.hid (HNO.out (by rw [HE.out, hv]; rfl))
    clear hv HNO HYES HE CH CN CK1 CK2
    go_enter Try.func29, Try.ntmps29
    go_wp2_with fail
    generalize ((w.alloc (.cells #[.slice (some ⟨ga, oa, none⟩) rs.length c, .slice (some ⟨gb, ob, none⟩) hs.length d] 30)).alloc (.cells #[.int .i64 h] 3)).alloc (.cells #[.slice none 0 0, .slice none 0 0] 30) = V at *
    refine (CV _ ((HS.out.below B0.out).more B0.out.size) ((HI.out.below B0.out).more B0.out.size)).mono ?_
    clear CV
    rintro e w1 ⟨rfl, hb1⟩
    have B1 := Lib.hid (B0.out.trans (hb1.mono B0.out.size))
    have L1 := Lib.hid (HL.out.below hb1 HL.out.lt)
    clear hb1
    obtain ⟨z9, f0, f1, m0, m1⟩ := L1.out.two
    go_wp2_with fail
    obtain ⟨b2, q0, q1⟩ := ret_two L1.out (.slice none 0 0) (.slice none 0 0)
    refine bodyPost_ret (v := .tuple #[tbV none 0 0 none 0 0, .int .i64 (-1)]) (by simp [results, Try.results29, go_sem, q0, q1]) rfl ?_
    unfold TrnT
    rw [HF.out.1, HF.out.2.1, HF.out.2.2]
    exact ⟨_, rfl, none, 0, none, 0, fun _ => False, rfl, .inr ⟨rfl, rfl, fun _ h => h⟩, fun _ h => h.elim, (B1.out.setCell (p := ⟨w.heap.size + 1 + 1, 0, none⟩) (by dsimp only; omega) _).setCell (p := ⟨w.heap.size + 1 + 1, 1, none⟩) (by dsimp only; omega) _⟩
  | true =>
    rw [hv] at CV
    cases hh : inB h 0 ((hs.length : Int) - 1) with
    | false =>
      rw [hh] at CH
      have HF := Lib.hid (HNO.out (by rw [HE.out, hv, hh]; rfl))
      clear hv hh HNO HYES HE CN CK1 CK2
      go_enter Try.func29, Try.ntmps29
      go_wp2_with fail
      generalize ((w.alloc (.cells #[.slice (some ⟨ga, oa, none⟩) rs.length c, .slice (some ⟨gb, ob, none⟩) hs.length d] 30)).alloc (.cells #[.int .i64 h] 3)).alloc (.cells #[.slice none 0 0, .slice none 0 0] 30) = V at *
      refine (CV _ ((HS.out.below B0.out).more B0.out.size) ((HI.out.below B0.out).more B0.out.size)).mono ?_
      clear CV
      rintro e w0 ⟨rfl, hb1⟩
      have B2 := Lib.hid (B0.out.trans (hb1.mono B0.out.size))
      have K1 := Lib.hid (HK.out.below hb1 HK.out.lt)
      have R1 := Lib.hid (HR.out.below hb1 HR.out.lt)
      have L0 := Lib.hid (HL.out.below hb1 HL.out.lt)
      clear hb1 B0 HK HR HL
      obtain ⟨z1, e10, e11, -, -⟩ := K1.out.two
      have x10 : w0.cell? ⟨w.heap.size + 1, 0, none⟩ = some (.int .i64 h) := R1.out.cell 0
      have z2 := R1.out.lt
      go_wp2_with fail
      refine (CH _).mono ?_
      clear CH
      rintro e w1 ⟨rfl, hb1⟩
      have B3 := Lib.hid (B2.out.trans (hb1.mono B2.out.size))
      have K2 := Lib.hid (K1.out.below hb1 K1.out.lt)
      have R2 := Lib.hid (R1.out.below hb1 R1.out.lt)
      have L2 := Lib.hid (L0.out.below hb1 L0.out.lt)
      clear hb1 B2 K1 R1 L0 z1 e10 e11 x10 z2
      have B1 := Lib.hid B3.out
      have L1 := Lib.hid L2.out
      obtain ⟨z9, f0, f1, m0, m1⟩ := L1.out.two
      go_wp2_with fail
      obtain ⟨b2, q0, q1⟩ := ret_two L1.out (.slice none 0 0) (.slice none 0 0)
      refine bodyPost_ret (v := .tuple #[tbV none 0 0 none 0 0, .int .i64 (-1)]) (by simp [results, Try.results29, go_sem, q0, q1]) rfl ?_
      unfold TrnT
      rw [HF.out.1, HF.out.2.1, HF.out.2.2]
      exact ⟨_, rfl, none, 0, none, 0, fun _ => False, rfl, .inr ⟨rfl, rfl, fun _ h => h⟩, fun _ h => h.elim, (B1.out.setCell (p := ⟨w.heap.size + 1 + 1, 0, none⟩) (by dsimp only; omega) _).setCell (p := ⟨w.heap.size + 1 + 1, 1, none⟩) (by dsimp only; omega) _⟩
    | true =>
      rw [hh] at CH
      cases hn : inB node 0 7 with
      | false =>
        rw [hn] at CN
        have HF := Lib.hid (HNO.out (by rw [HE.out, hv, hh, hn]; rfl))
        clear hv hh hn HNO HYES HE CK1 CK2
        go_enter Try.func29, Try.ntmps29
        go_wp2_with fail
        generalize ((w.alloc (.cells #[.slice (some ⟨ga, oa, none⟩) rs.length c, .slice (some ⟨gb, ob, none⟩) hs.length d] 30)).alloc (.cells #[.int .i64 h] 3)).alloc (.cells #[.slice none 0 0, .slice none 0 0] 30) = V at *
        refine (CV _ ((HS.out.below B0.out).more B0.out.size) ((HI.out.below B0.out).more B0.out.size)).mono ?_
        clear CV
        rintro e w0 ⟨rfl, hb1⟩
        have B2 := Lib.hid (B0.out.trans (hb1.mono B0.out.size))
        have K1 := Lib.hid (HK.out.below hb1 HK.out.lt)
        have R1 := Lib.hid (HR.out.below hb1 HR.out.lt)
        have L0 := Lib.hid (HL.out.below hb1 HL.out.lt)
        clear hb1 B0 HK HR HL
        obtain ⟨z1, e10, e11, -, -⟩ := K1.out.two
        have x10 : w0.cell? ⟨w.heap.size + 1, 0, none⟩ = some (.int .i64 h) := R1.out.cell 0
        have z2 := R1.out.lt
        go_wp2_with fail
        refine (CH _).mono ?_
        clear CH
        rintro e w1 ⟨rfl, hb1⟩
        have B3 := Lib.hid (B2.out.trans (hb1.mono B2.out.size))
        have K2 := Lib.hid (K1.out.below hb1 K1.out.lt)
        have R2 := Lib.hid (R1.out.below hb1 R1.out.lt)
        have L2 := Lib.hid (L0.out.below hb1 L0.out.lt)
        clear hb1 B2 K1 R1 L0 z1 e10 e11 x10 z2
        go_wp2_with fail
        refine (CN _).mono ?_
        clear CN
        rintro e w2 ⟨rfl, hb1⟩
        have B1 := Lib.hid (B3.out.trans (hb1.mono B3.out.size))
        have K3 := Lib.hid (K2.out.below hb1 K2.out.lt)
        have R3 := Lib.hid (R2.out.below hb1 R2.out.lt)
        have L1 := Lib.hid (L2.out.below hb1 L2.out.lt)
        clear hb1 B3 K2 R2 L2
        obtain ⟨z9, f0, f1, m0, m1⟩ := L1.out.two
        go_wp2_with fail
        obtain ⟨b2, q0, q1⟩ := ret_two L1.out (.slice none 0 0) (.slice none 0 0)
        refine bodyPost_ret (v := .tuple #[tbV none 0 0 none 0 0, .int .i64 (-1)]) (by simp [results, Try.results29, go_sem, q0, q1]) rfl ?_
        unfold TrnT
        rw [HF.out.1, HF.out.2.1, HF.out.2.2]
        exact ⟨_, rfl, none, 0, none, 0, fun _ => False, rfl, .inr ⟨rfl, rfl, fun _ h => h⟩, fun _ h => h.elim, (B1.out.setCell (p := ⟨w.heap.size + 1 + 1, 0, none⟩) (by dsimp only; omega) _).setCell (p := ⟨w.heap.size + 1 + 1, 1, none⟩) (by dsimp only; omega) _⟩
      | true =>
        rw [hn] at CN
        obtain ⟨q, rfl⟩ : ∃ q : Nat, h = (q : Int) := ⟨h.toNat, by unfold inB at hh; simp at hh; omega⟩
        have hql : q < hs.length := by unfold inB at hh; simp at hh; omega
        have HF := Lib.hid (HYES.out (by rw [HE.out, hv, hh, hn]; rfl))
        rw [Int.toNat_natCast] at HF
        clear hv hh hn HNO HYES HE
        generalize hcnt : cntR rs (q : Int) = cnt at *
        clear hcnt
        go_enter Try.func29, Try.ntmps29
        go_wp2_with fail
        generalize ((w.alloc (.cells #[.slice (some ⟨ga, oa, none⟩) rs.length c, .slice (some ⟨gb, ob, none⟩) hs.length d] 30)).alloc (.cells #[.int .i64 (q : Int)] 3)).alloc (.cells #[.slice none 0 0, .slice none 0 0] 30) = V at *
        refine (CV _ ((HS.out.below B0.out).more B0.out.size) ((HI.out.below B0.out).more B0.out.size)).mono ?_
        clear CV
        rintro e w0 ⟨rfl, hb1⟩
        have B2 := Lib.hid (B0.out.trans (hb1.mono B0.out.size))
        have K1 := Lib.hid (HK.out.below hb1 HK.out.lt)
        have R1 := Lib.hid (HR.out.below hb1 HR.out.lt)
        have L0 := Lib.hid (HL.out.below hb1 HL.out.lt)
        clear hb1 B0 HK HR HL
        obtain ⟨z1, e10, e11, -, -⟩ := K1.out.two
        have x10 : w0.cell? ⟨w.heap.size + 1, 0, none⟩ = some (.int .i64 (q : Int)) := R1.out.cell 0
        have z2 := R1.out.lt
        go_wp2_with fail
        refine (CH _).mono ?_
        clear CH
        rintro e w1 ⟨rfl, hb1⟩
        have B3 := Lib.hid (B2.out.trans (hb1.mono B2.out.size))
        have K2 := Lib.hid (K1.out.below hb1 K1.out.lt)
        have R2 := Lib.hid (R1.out.below hb1 R1.out.lt)
        have L2 := Lib.hid (L0.out.below hb1 L0.out.lt)
        clear hb1 B2 K1 R1 L0 z1 e10 e11 x10 z2
        go_wp2_with fail
        refine (CN _).mono ?_
        clear CN
        rintro e w2 ⟨rfl, hb1⟩
        have B4 := Lib.hid (B3.out.trans (hb1.mono B3.out.size))
        have K3 := Lib.hid (K2.out.below hb1 K2.out.lt)
        have R3 := Lib.hid (R2.out.below hb1 R2.out.lt)
        have L3 := Lib.hid (L2.out.below hb1 L2.out.lt)
        clear hb1 B3 K2 R2 L2
        obtain ⟨z1, e10, e11, -, -⟩ := K3.out.two
        go_wp2_with fail
        refine (CK1 _ ((HS.out.below B4.out).more B4.out.size) ((HI.out.below B4.out).more B4.out.size)).mono ?_
        clear CK1
        rintro e w4 ⟨v, rfl, g9, c9, gn, dn, rfl, hg9, hgn, ar, an, hb4, hc9, hdn, rm⟩
        have R4 := Lib.hid (((R3.out.below hb4 R3.out.lt).setFar (p := ⟨gn, q, none⟩) (by dsimp only; have := R3.out.lt; omega) (.int .i64 node)).alloc (.cells #[.slice (some ⟨g9, 0, none⟩) rs.length c9, .slice (some ⟨gn, 0, none⟩) hs.length dn] 30))
        have K4 := Lib.hid (((K3.out.below hb4 K3.out.lt).setFar (p := ⟨gn, q, none⟩) (by dsimp only; have := K3.out.lt; omega) (.int .i64 node)).alloc (.cells #[.slice (some ⟨g9, 0, none⟩) rs.length c9, .slice (some ⟨gn, 0, none⟩) hs.length dn] 30))
        have L4 := Lib.hid (((L3.out.below hb4 L3.out.lt).setFar (p := ⟨gn, q, none⟩) (by dsimp only; have := L3.out.lt; omega) (.int .i64 node)).alloc (.cells #[.slice (some ⟨g9, 0, none⟩) rs.length c9, .slice (some ⟨gn, 0, none⟩) hs.length dn] 30))
        have X40 := Box.new (w4.setCell ⟨gn, q, none⟩ (.int .i64 node)) 30 #[.slice (some ⟨g9, 0, none⟩) rs.length c9, .slice (some ⟨gn, 0, none⟩) hs.length dn]
        have hsz4 : (w4.setCell ⟨gn, q, none⟩ (.int .i64 node)).heap.size = w4.heap.size := by simp
        rw [hsz4] at X40
        have X4 := Lib.hid X40
        have hbX : Below (w4.setCell ⟨gn, q, none⟩ (.int .i64 node)).heap.size (w4.setCell ⟨gn, q, none⟩ (.int .i64 node)) ((w4.setCell ⟨gn, q, none⟩ (.int .i64 node)).alloc (.cells #[.slice (some ⟨g9, 0, none⟩) rs.length c9, .slice (some ⟨gn, 0, none⟩) hs.length dn] 30)) := (Below.refl _ _).alloc (Nat.le_refl _) _
        have B5 := Lib.hid (((B4.out.trans (hb4.mono B4.out.size)).setCell (p := ⟨gn, q, none⟩) (Nat.le_trans B4.out.size hgn) (.int .i64 node)).alloc (by rw [hsz4]; exact Nat.le_trans B4.out.size hb4.size) (.cells #[.slice (some ⟨g9, 0, none⟩) rs.length c9, .slice (some ⟨gn, 0, none⟩) hs.length dn] 30))
        have ar4 := ar.far (p := ⟨gn, q, none⟩) (arr_ne ar an) (.int .i64 node)
        have an4 := an.setL node hql
        have AR := Lib.hid (ar4.below hbX ar4.lt)
        have AN := Lib.hid (an4.below hbX an4.lt)
        have hgx : g9 < w4.heap.size := ar.lt
        have hgnx : gn < w4.heap.size := an.lt
        have hb4s := hb4.size
        have hb3s := B4.out.size
        have hl2 := L3.out.lt
        have hgne : g9 ≠ gn := arr_ne ar an
        have RW4 := R3.out.below hb4 R3.out.lt
        have x20 : w4.cell? ⟨w.heap.size + 1, 0, none⟩ = some (.int .i64 (q : Int)) := RW4.cell 0
        have z2 := RW4.lt
        obtain ⟨cs, hcs, hat⟩ := an
        have hnq := hat q _ (List.getElem?_eq_getElem hql)
        have y20 : w4.cell? ⟨gn, q, none⟩ = some (.int .i64 (hs[q])) := by rw [cell_of_row w4 gn q _ _ _ hcs]; exact hnq
        have y21 : w4.frozen? ⟨gn, q, none⟩ = false := by simp [World.frozen?, hcs]
        have hqi : (q : Int) < (hs.length : Int) := by omega
        clear ar rm hb4 e10 e11 z1 K3 R3 L3 B4 RW4 hcs hat hnq cs hbX ar4 an4 hsz4 X40
        go_wp2_with fail
        generalize (w4.setCell ⟨gn, q, none⟩ (.int .i64 node)).alloc (.cells #[.slice (some ⟨g9, 0, none⟩) rs.length c9, .slice (some ⟨gn, 0, none⟩) hs.length dn] 30) = wr at *
        clear x20 z2 y20 y21
        generalize w4.heap.size = Q at *
        obtain ⟨z5, e50, e51, -, -⟩ := K4.out.two
        obtain ⟨z6, f60, f61, -, -⟩ := X4.out.two
        have nT : ¬ XL (w.heap.size + 1 + 1) w.heap.size := fun e => by unfold XL at e; omega
        have nX : ¬ XL (w.heap.size + 1 + 1) Q := fun e => by unfold XL at e; omega
        have hX0 := fun (y : ExtX (XL (w.heap.size + 1 + 1)) wr.drew) => (y.cell w.heap.size 0 z5 nT).trans (show wr.drew.cell? ⟨w.heap.size, 0, none⟩ = _ from e50)
        have hX3 := fun (y : ExtX (XL (w.heap.size + 1 + 1)) wr.drew) => (y.cell w.heap.size 1 z5 nT).trans (show wr.drew.cell? ⟨w.heap.size, 1, none⟩ = _ from e51)
        have hX1 := fun (y : ExtX (XL (w.heap.size + 1 + 1)) wr.drew) => (y.cell Q 0 z6 nX).trans (show wr.drew.cell? ⟨Q, 0, none⟩ = _ from f60)
        have hX2 := fun (y : ExtX (XL (w.heap.size + 1 + 1)) wr.drew) => (y.cell Q 1 z6 nX).trans (show wr.drew.cell? ⟨Q, 1, none⟩ = _ from f61)
        refine wp_region_stx 8 (XL (w.heap.size + 1 + 1)) (by kernel_rfl) (by kernel_rfl) ?_
        refine stx_seg _ 6 [0, 1] (by kernel_rfl) (by kernel_rfl) (by kernel_rfl) (by kernel_rfl) ?_
        (simp only [List.map_cons, List.map_nil, List.getElem?_cons_zero, List.getElem?_cons_succ, Option.getD_some]); (repeat (go_big_quiet_step (fail))); (refine wpQuiet_nil ?_)
        clear hX0 hX1 hX2 hX3 e50 e51 f60 f61 z5 z6
        refine stx_one _ 5 2 (by kernel_rfl) (by rfl) (by kernel_rfl) (by rfl) ?_
        go_wp2_with fail
        refine ⟨Kx.refl _ _, _, fun _ h => h, ?_⟩
        refine stx_one _ 4 3 (by kernel_rfl) (by rfl) (by kernel_rfl) (by rfl) ?_
        go_wp2_with fail
        have hbd : Below wr.heap.size wr wr.drew := (Below.refl _ _).drew
        have BD := Lib.hid (show Below w.heap.size w wr.drew from B5.out.drew)
        refine (CK2 _ (w.heap.size + 1) ((HS.out.below BD.out).more BD.out.size) ((HI.out.below BD.out).more BD.out.size) (R4.out.below hbd R4.out.lt)).mono ?_
        clear CK2
        rintro e w5 ⟨⟨A3, c3, B3, d3, rfl⟩, hb5⟩
        refine ⟨Kx.of_below hb5, _, fun _ h => h, ?_⟩
        have L5 := Lib.hid ((L4.out.below hbd L4.out.lt).below hb5 L4.out.lt)
        have AR5 := Lib.hid ((AR.out.below hbd AR.out.lt).below hb5 AR.out.lt)
        have AN5 := Lib.hid ((AN.out.below hbd AN.out.lt).below hb5 AN.out.lt)
        have B6 := Lib.hid (BD.out.trans (hb5.mono BD.out.size))
        have hfld : ∀ (u v : Value) (W : World), Sem.run Try.prog (Instr.field 30 (.agg #[u, v]) 0) W = .ok u W := fun u v W => by unfold Instr.field; simp [go_sem, asAgg, Result.andThen]
        clear hb5 hbd R4 K4 L4 X4 AR AN BD B5
        refine stx_seg _ 2 [4, 5] (by kernel_rfl) (by kernel_rfl) (by kernel_rfl) (by kernel_rfl) ?_
        (simp only [List.map_cons, List.map_nil, List.getElem?_cons_zero, List.getElem?_cons_succ, Option.getD_some]); (repeat (go_big_quiet_step (fail))); (refine wpQuiet_nil ?_)
        obtain ⟨zl, l0, l1, m0, m1⟩ := L5.out.two
        refine stx_one _ 1 6 (by kernel_rfl) (by rfl) (by kernel_rfl) (by rfl) ?_
        go_wp2_with fail
        refine ⟨Kx.set2 _ _ _ _, _, fun _ h => h, ?_⟩
        refine stx_seg _ 0 [7] (by kernel_rfl) (by kernel_rfl) (by kernel_rfl) (by kernel_rfl) ?_
        (simp only [List.map_cons, List.map_nil, List.getElem?_cons_zero, List.getElem?_cons_succ, Option.getD_some]); (repeat (go_big_quiet_step (fail))); (refine wpQuiet_nil ?_)
        refine stx_end (by kernel_rfl) ?_
        go_wp2_with fail
        obtain ⟨b2, q0, q1⟩ := ret_two L5.out (.slice (some ⟨g9, 0, none⟩) rs.length c9) (.slice (some ⟨gn, 0, none⟩) hs.length dn)
        refine bodyPost_ret (v := .tuple #[tbV (some ⟨g9, 0, none⟩) rs.length c9 (some ⟨gn, 0, none⟩) hs.length dn, .int .i64 (cnt : Int)]) (by simp [results, Try.results29, go_sem, q0, q1]) rfl ?_
        unfold TrnT
        rw [HF.out.1, HF.out.2.1, HF.out.2.2]
        refine ⟨_, rfl, some ⟨g9, 0, none⟩, c9, some ⟨gn, 0, none⟩, dn, fun b => b = g9 ∨ b = gn, by rw [List.length_set], tabM_of ?_ ?_, fun b hb => by rcases hb with rfl | rfl <;> omega, ?_⟩
        · exact (AR5.out.far (p := ⟨w.heap.size + 1 + 1, 0, none⟩) (by dsimp only; omega) _).far (p := ⟨w.heap.size + 1 + 1, 1, none⟩) (by dsimp only; omega) _
        · exact (AN5.out.setFar (p := ⟨w.heap.size + 1 + 1, 0, none⟩) (by dsimp only; omega) _).setFar (p := ⟨w.heap.size + 1 + 1, 1, none⟩) (by dsimp only; omega) _
        · exact (B6.out.setCell (p := ⟨w.heap.size + 1 + 1, 0, none⟩) (by dsimp only; omega) _).setCell (p := ⟨w.heap.size + 1 + 1, 1, none⟩) (by dsimp only; omega) _

set_option maxRecDepth 100000 in
set_option maxHeartbeats 6400000 in
theorem tableAdd_imp (ga oa : Nat) (rs : List Lk) (c : Nat) (gb ob : Nat) (hs : List Int) (d : Nat) (r : Lk) (w : World) (hm : rs.length ≤ 1048576) (hmh : hs.length ≤ 1048576) (_hcc : rs.length ≤ c) (hS : Sl w w.heap.size (some ⟨ga, oa, none⟩) rs) (hI : Sli w w.heap.size (some ⟨gb, ob, none⟩) hs) :
   Calls Try.prog 19 #[tbV (some ⟨ga, oa, none⟩) rs.length c (some ⟨gb, ob, none⟩) hs.length d, rtV r] w (AddT rs hs r w) := by
  have HS := Lib.hid hS
  have HI := Lib.hid hI
  have CV := fun W h1 h2 => tableValid_impl (some ⟨ga, oa, none⟩) rs c (some ⟨gb, ob, none⟩) hs d W hm hmh h1 h2
  have CA := fun W => rtal_any (some ⟨ga, oa, none⟩) rs.length c (some ⟨gb, ob, none⟩) hs.length d r W
  have CW := fun W h1 h2 => without_rt ga oa rs c gb ob hs d r.a r.b W hm hmh h1 h2
  have HOK : Hid (addOk rs hs r = (tbB rs hs && rtB hs.length r)) := Lib.hid rfl
  have HNO := Lib.hid (show addOk rs hs r = false → _ ∧ _ ∧ _ from add_no)
  have HFULL := Lib.hid (fun h1 h2 h3 => add_full (rs := rs) (hs := hs) (r := r) h1 h2 h3)
  have HGO := Lib.hid (fun h1 h2 => add_go (rs := rs) (hs := hs) (r := r) h1 h2)
  have HTEN := Lib.hid (fun h => del_ten (rs := rs) (r := r) h)
  have HLST := Lib.hid (fun k (ha : Asc rs) h => lst_ins (rs := delR r.a r.b rs) (r := r) (k := k) (delR_asc ha) del_hasR h)
  have HINS := Lib.hid (fun (ha : Asc rs) => ins_del (r := r) ha)
  have HACL := Lib.hid (fun (P : Nat) (W0 W : World) (x : Lk) (hP : Box W0 P 38 #[.int .i64 r.a, .int .i64 r.b, .int .i64 r.c]) (hb : Below W0.heap.size W0 W) => acl_any x r P W (hP.below hb hP.lt))
  clear hS hI
  obtain ⟨ra, rb, rc⟩ := r
  dsimp only [rtV] at *
  have HK := Lib.hid (((Box.new w 30 #[.slice (some ⟨ga, oa, none⟩) rs.length c, .slice (some ⟨gb, ob, none⟩) hs.length d]).alloc (.cells #[.int .i64 ra, .int .i64 rb, .int .i64 rc] 38)).alloc (.cells #[.slice none 0 0, .slice none 0 0] 30))
  have r1 := (Box.new (w.alloc (.cells #[.slice (some ⟨ga, oa, none⟩) rs.length c, .slice (some ⟨gb, ob, none⟩) hs.length d] 30)) 38 #[.int .i64 ra, .int .i64 rb, .int .i64 rc]).alloc (.cells #[.slice none 0 0, .slice none 0 0] 30)
  have l1 := Box.new ((w.alloc (.cells #[.slice (some ⟨ga, oa, none⟩) rs.length c, .slice (some ⟨gb, ob, none⟩) hs.length d] 30)).alloc (.cells #[.int .i64 ra, .int .i64 rb, .int .i64 rc] 38)) 30 #[.slice none 0 0, .slice none 0 0]
  simp only [World.size_alloc] at r1 l1
  have HR := Lib.hid r1
  have HL := Lib.hid l1
  have B0 := Lib.hid (show Below w.heap.size w (((w.alloc (.cells #[.slice (some ⟨ga, oa, none⟩) rs.length c, .slice (some ⟨gb, ob, none⟩) hs.length d] 30)).alloc (.cells #[.int .i64 ra, .int .i64 rb, .int .i64 rc] 38)).alloc (.cells #[.slice none 0 0, .slice none 0 0] 30)) by (repeat (first | exact Below.refl _ _ | (refine Below.alloc ?_ (by first | exact Nat.le_refl _ | omega | (simp; done) | (simp; omega)) _) | (refine Below.setCell ?_ (by first | exact Nat.le_refl _ | omega | (simp; done) | (simp; omega)) _) | exact Below.drew ‹_›)))
  clear r1 l1
  cases hv : tbB rs hs with
  | false =>
    rw [hv] at CV
    have HF := Lib.hid (HNO.out (by rw [HOK.out, hv]; rfl))
    clear hv HNO HFULL HGO HTEN HLST HINS HACL HOK CA CW
    go_enter Try.func19, Try.ntmps19
    go_wp2_with fail
    generalize ((w.alloc (.cells #[.slice (some ⟨ga, oa, none⟩) rs.length c, .slice (some ⟨gb, ob, none⟩) hs.length d] 30)).alloc (.cells #[.int .i64 ra, .int .i64 rb, .int .i64 rc] 38)).alloc (.cells #[.slice none 0 0, .slice none 0 0] 30) = V at *
    refine (CV _ ((HS.out.below B0.out).more B0.out.size) ((HI.out.below B0.out).more B0.out.size)).mono ?_
    clear CV
    rintro e w1 ⟨rfl, hb1⟩
    have B1 := Lib.hid (B0.out.trans (hb1.mono B0.out.size))
    have L1 := Lib.hid (HL.out.below hb1 HL.out.lt)
    clear hb1
    obtain ⟨z9, f0, f1, m0, m1⟩ := L1.out.two
    go_wp2_with fail
    obtain ⟨b2, q0, q1⟩ := ret_two L1.out (.slice none 0 0) (.slice none 0 0)
    refine bodyPost_ret (v := .tuple #[tbV none 0 0 none 0 0, .bool false]) (by simp [results, Try.results19, go_sem, q0, q1]) rfl ?_
    unfold AddT
    rw [HF.out.1, HF.out.2.1, HF.out.2.2]
    exact ⟨_, rfl, none, 0, none, 0, fun _ => False, rfl, .inr ⟨rfl, rfl, fun _ h => h⟩, fun _ h => h.elim, (B1.out.setCell (p := ⟨w.heap.size + 1 + 1, 0, none⟩) (by dsimp only; omega) _).setCell (p := ⟨w.heap.size + 1 + 1, 1, none⟩) (by dsimp only; omega) _⟩
  | true =>
    rw [hv] at CV
    cases ha : rtB hs.length ⟨ra, rb, rc⟩ with
    | false =>
      rw [ha] at CA
      have HF := Lib.hid (HNO.out (by rw [HOK.out, hv, ha]; rfl))
      clear hv ha HNO HFULL HGO HTEN HLST HINS HACL HOK CW
      go_enter Try.func19, Try.ntmps19
      go_wp2_with fail
      generalize ((w.alloc (.cells #[.slice (some ⟨ga, oa, none⟩) rs.length c, .slice (some ⟨gb, ob, none⟩) hs.length d] 30)).alloc (.cells #[.int .i64 ra, .int .i64 rb, .int .i64 rc] 38)).alloc (.cells #[.slice none 0 0, .slice none 0 0] 30) = V at *
      refine (CV _ ((HS.out.below B0.out).more B0.out.size) ((HI.out.below B0.out).more B0.out.size)).mono ?_
      clear CV
      rintro e w0 ⟨rfl, hb1⟩
      have B2 := Lib.hid (B0.out.trans (hb1.mono B0.out.size))
      have K1 := Lib.hid (HK.out.below hb1 HK.out.lt)
      have R1 := Lib.hid (HR.out.below hb1 HR.out.lt)
      have L0 := Lib.hid (HL.out.below hb1 HL.out.lt)
      clear hb1
      obtain ⟨z1, e10, e11, -, -⟩ := K1.out.two
      obtain ⟨z2, x10, x11, x12, -, -, -⟩ := R1.out.trip
      go_wp2_with fail
      refine (CA _).mono ?_
      clear CA
      rintro e w1 ⟨rfl, hb1⟩
      have B1 := Lib.hid (B2.out.trans (hb1.mono B2.out.size))
      have L1 := Lib.hid (L0.out.below hb1 L0.out.lt)
      clear hb1 z1 e10 e11 z2 x10 x11 x12
      obtain ⟨z9, f0, f1, m0, m1⟩ := L1.out.two
      go_wp2_with fail
      obtain ⟨b2, q0, q1⟩ := ret_two L1.out (.slice none 0 0) (.slice none 0 0)
      refine bodyPost_ret (v := .tuple #[tbV none 0 0 none 0 0, .bool false]) (by simp [results, Try.results19, go_sem, q0, q1]) rfl ?_
      unfold AddT
      rw [HF.out.1, HF.out.2.1, HF.out.2.2]
      exact ⟨_, rfl, none, 0, none, 0, fun _ => False, rfl, .inr ⟨rfl, rfl, fun _ h => h⟩, fun _ h => h.elim, (B1.out.setCell (p := ⟨w.heap.size + 1 + 1, 0, none⟩) (by dsimp only; omega) _).setCell (p := ⟨w.heap.size + 1 + 1, 1, none⟩) (by dsimp only; omega) _⟩
    | true =>
      rw [ha] at CA
      have hok : addOk rs hs ⟨ra, rb, rc⟩ = true := by rw [HOK.out, hv, ha]; rfl
      obtain ⟨-, -, hasc, hl10, -⟩ := tbB_iff.1 hv
      have HTEN := Lib.hid (HTEN.out hl10)
      have HLST := Lib.hid (fun k h => HLST.out k hasc h)
      have HINS := Lib.hid (HINS.out hasc)
      have HGO := Lib.hid (HGO.out hok)
      have HFULL := Lib.hid (HFULL.out hok)
      have HOL : Hid ((delR ra rb rs).length ≤ 10) := Lib.hid (Nat.le_trans (List.length_filter_le _ _) hl10)
      clear hv ha HNO HOK hok hasc hl10
      generalize delR ra rb rs = out at *
      go_enter Try.func19, Try.ntmps19
      go_wp2_with fail
      generalize ((w.alloc (.cells #[.slice (some ⟨ga, oa, none⟩) rs.length c, .slice (some ⟨gb, ob, none⟩) hs.length d] 30)).alloc (.cells #[.int .i64 ra, .int .i64 rb, .int .i64 rc] 38)).alloc (.cells #[.slice none 0 0, .slice none 0 0] 30) = V at *
      refine (CV _ ((HS.out.below B0.out).more B0.out.size) ((HI.out.below B0.out).more B0.out.size)).mono ?_
      clear CV
      rintro e w0 ⟨rfl, hb1⟩
      have B2 := Lib.hid (B0.out.trans (hb1.mono B0.out.size))
      have K1 := Lib.hid (HK.out.below hb1 HK.out.lt)
      have R1 := Lib.hid (HR.out.below hb1 HR.out.lt)
      have L1 := Lib.hid (HL.out.below hb1 HL.out.lt)
      clear hb1 B0 HK HR HL
      obtain ⟨z1, e10, e11, -, -⟩ := K1.out.two
      obtain ⟨z2, x10, x11, x12, -, -, -⟩ := R1.out.trip
      go_wp2_with fail
      refine (CA _).mono ?_
      clear CA
      rintro e w1 ⟨rfl, hb1⟩
      have B3 := Lib.hid (B2.out.trans (hb1.mono B2.out.size))
      have K2 := Lib.hid (K1.out.below hb1 K1.out.lt)
      have R2 := Lib.hid (R1.out.below hb1 R1.out.lt)
      have L2 := Lib.hid (L1.out.below hb1 L1.out.lt)
      clear hb1 B2 K1 R1 L1 z1 e10 e11 z2 x10 x11 x12
      obtain ⟨z1, e10, e11, -, -⟩ := K2.out.two
      obtain ⟨z2, x10, x11, x12, -, -, -⟩ := R2.out.trip
      go_wp2_with fail
      refine (CW _ ((HS.out.below B3.out).more B3.out.size) ((HI.out.below B3.out).more B3.out.size)).mono ?_
      clear CW
      rintro e w4 ⟨v, rfl, g9, c9, gn, dn, rfl, hg9, hgn, ar, an, hb4, hc9, hdn, rm⟩
      have R3 := Lib.hid ((R2.out.below hb4 R2.out.lt).alloc (.cells #[.slice (some ⟨g9, 0, none⟩) out.length c9, .slice (some ⟨gn, 0, none⟩) hs.length dn] 30))
      have L3 := Lib.hid ((L2.out.below hb4 L2.out.lt).alloc (.cells #[.slice (some ⟨g9, 0, none⟩) out.length c9, .slice (some ⟨gn, 0, none⟩) hs.length dn] 30))
      have X3 := Lib.hid (Box.new w4 30 #[.slice (some ⟨g9, 0, none⟩) out.length c9, .slice (some ⟨gn, 0, none⟩) hs.length dn])
      have B4 := Lib.hid ((B3.out.trans (hb4.mono B3.out.size)).alloc (Nat.le_trans B3.out.size hb4.size) (.cells #[.slice (some ⟨g9, 0, none⟩) out.length c9, .slice (some ⟨gn, 0, none⟩) hs.length dn] 30))
      have AR := Lib.hid (ar.below ((Below.refl _ _).alloc (Nat.le_refl _) (.cells #[.slice (some ⟨g9, 0, none⟩) out.length c9, .slice (some ⟨gn, 0, none⟩) hs.length dn] 30)) ar.lt)
      have AN := Lib.hid (an.below ((Below.refl _ _).alloc (Nat.le_refl _) (.cells #[.slice (some ⟨g9, 0, none⟩) out.length c9, .slice (some ⟨gn, 0, none⟩) hs.length dn] 30)) an.lt)
      have RM := Lib.hid (rm.below ((Below.refl _ _).alloc (Nat.le_refl _) (.cells #[.slice (some ⟨g9, 0, none⟩) out.length c9, .slice (some ⟨gn, 0, none⟩) hs.length dn] 30)) rm.lt)
      have L24 := Lib.hid (L2.out.below hb4 L2.out.lt)
      have AR4 := Lib.hid ar
      have AN4 := Lib.hid an
      have RM4 := Lib.hid rm
      have B24 := Lib.hid (B3.out.trans (hb4.mono B3.out.size))
      have hgx : g9 < w4.heap.size := ar.lt
      have hgnx : gn < w4.heap.size := an.lt
      have hb4s := hb4.size
      have hb3s := B3.out.size
      have hl2 := L2.out.lt
      clear ar an rm hb4 e10 e11 z1 x10 x11 x12 z2 K2 R2 L2 B3
      have hgne : g9 ≠ gn := arr_ne AR.out AN.out
      by_cases hten : out.length = 10
      · obtain ⟨hh, hl, hout⟩ := HTEN.out.1 hten
        obtain ⟨f1, f2, f3⟩ := HFULL.out hh (by omega)
        have HF := Lib.hid (show addR rs hs ⟨ra, rb, rc⟩ = out ∧ addH rs hs ⟨ra, rb, rc⟩ = hs ∧ addB rs hs ⟨ra, rb, rc⟩ = false from ⟨by rw [f1, hout], f2, f3⟩)
        have hteni : ((out.length : Int) == 10) = true := by simp; omega
        have hten2 : decide ((out.length : Int) = 10) = true := by simp; omega
        have hten3 : decide (out.length = 10) = true := by simp; omega
        have hten4 : (out.length == 10) = true := by simp; omega
        clear hh hl hout f1 f2 f3 hten HGO HFULL HTEN HLST HINS HACL
        obtain ⟨zl, l0, l1, m0, m1⟩ := L24.out.two
        go_wp2_with fail
        have b2 := (ret_two L24.out (.slice (some ⟨g9, 0, none⟩) out.length c9) (.slice (some ⟨gn, 0, none⟩) hs.length dn)).1.alloc (.cells #[.slice (some ⟨g9, 0, none⟩) out.length c9, .slice (some ⟨gn, 0, none⟩) hs.length dn] 30)
        have q0 := b2.cell 0
        have q1 := b2.cell 1
        refine bodyPost_ret (v := .tuple #[tbV (some ⟨g9, 0, none⟩) out.length c9 (some ⟨gn, 0, none⟩) hs.length dn, .bool false]) (by simp [results, Try.results19, go_sem, q0, q1]) rfl ?_
        unfold AddT
        rw [HF.out.1, HF.out.2.1, HF.out.2.2]
        have hba := fun W => (show Below (World.heap W).size W (W.alloc (.cells #[.slice (some ⟨g9, 0, none⟩) out.length c9, .slice (some ⟨gn, 0, none⟩) hs.length dn] 30)) from (Below.refl _ _).alloc (Nat.le_refl _) _)
        have hbb := (B24.out.setCell (p := ⟨w.heap.size + 1 + 1, 0, none⟩) (by dsimp only; omega) (.slice (some ⟨g9, 0, none⟩) out.length c9)).setCell (p := ⟨w.heap.size + 1 + 1, 1, none⟩) (by dsimp only; omega) (.slice (some ⟨gn, 0, none⟩) hs.length dn)
        have har := (AR4.out.far (p := ⟨w.heap.size + 1 + 1, 0, none⟩) (by dsimp only; omega) (.slice (some ⟨g9, 0, none⟩) out.length c9)).far (p := ⟨w.heap.size + 1 + 1, 1, none⟩) (by dsimp only; omega) (.slice (some ⟨gn, 0, none⟩) hs.length dn)
        have han := (AN4.out.setFar (p := ⟨w.heap.size + 1 + 1, 0, none⟩) (by dsimp only; omega) (.slice (some ⟨g9, 0, none⟩) out.length c9)).setFar (p := ⟨w.heap.size + 1 + 1, 1, none⟩) (by dsimp only; omega) (.slice (some ⟨gn, 0, none⟩) hs.length dn)
        exact ⟨_, rfl, some ⟨g9, 0, none⟩, c9, some ⟨gn, 0, none⟩, dn, fun b => b = g9 ∨ b = gn, rfl, tabM_of (har.below (hba _) har.lt) (han.below (hba _) han.lt), fun b hb => by rcases hb with rfl | rfl <;> omega, hbb.trans ((hba _).mono hbb.size)⟩
      · have hteni : ((out.length : Int) == 10) = false := by simp; omega
        have hten2 : decide ((out.length : Int) = 10) = false := by simp; omega
        have hten3 : decide (out.length = 10) = false := by simp; omega
        have hten4 : (out.length == 10) = false := by simp; omega
        have HF := Lib.hid (HGO.out (HTEN.out.2 hten))
        clear hten HGO HFULL HTEN
        go_wp2_with fail
        generalize w4.alloc (.cells #[.slice (some ⟨g9, 0, none⟩) out.length c9, .slice (some ⟨gn, 0, none⟩) hs.length dn] 30) = wr at *
        generalize w4.heap.size = Q at *
        obtain ⟨z6, f60, f61, -, -⟩ := X3.out.two
        go_wp2_with fail
        refine (lastadd_any (fun x => rtLt x ⟨ra, rb, rc⟩) (w.heap.size + 1) (some ⟨g9, 0, none⟩) out c9 (some ⟨gn, 0, none⟩) hs.length dn wr (by have := HOL.out; omega) (AR.out.sl AR.out.lt) (fun x W hx hb => HACL.out _ wr W x R3.out hb)).mono ?_
        rintro e w5 ⟨⟨k, rfl, hk⟩, hb5⟩
        obtain ⟨pn, hkp, hpn, hins⟩ := HLST.out k hk
        have hkk : k = (pn : Int) - 1 := by omega
        subst hkk
        have R5 := Lib.hid (R3.out.below hb5 R3.out.lt)
        have L5 := Lib.hid (L3.out.below hb5 L3.out.lt)
        have X5 := Lib.hid (X3.out.below hb5 X3.out.lt)
        have B5 := Lib.hid (B4.out.trans (hb5.mono B4.out.size))
        have AR5 := Lib.hid (AR.out.below hb5 AR.out.lt)
        have AN5 := Lib.hid (AN.out.below hb5 AN.out.lt)
        have RM5 := Lib.hid (RM.out.below hb5 RM.out.lt)
        have HNS := Lib.hid (show out.take pn ++ ⟨ra, rb, rc⟩ :: out.drop pn = insR ⟨ra, rb, rc⟩ rs by rw [← hins, HINS.out])
        have hpl := HOL.out
        have hpw : IntKind.i64.wrap ((pn : Int) - 1 + 1) = (pn : Int) := by
          rw [show (pn : Int) - 1 + 1 = (pn : Int) by omega]
          exact IntWalk.i64_in _ (by omega)
        have hpw2 : IntKind.i64.wrap (pn : Int) = (pn : Int) := IntWalk.i64_in _ (by omega)
        have hps : (pn : Int) - 1 + 1 = (pn : Int) := by omega
        clear hb5 hk hkp hins f60 f61 z6 R3 L3 X3 B4 AR AN RM HLST HINS HACL
        obtain ⟨z6, f60, f61, s60, s61⟩ := X5.out.two
        obtain ⟨z2, x10, x11, x12, -, -, -⟩ := R5.out.trip
        go_wp2_with fail
        have R6 := Lib.hid (Box.new w5 38 #[.int .i64 ra, .int .i64 rb, .int .i64 rc])
        have b6 := (show Below w5.heap.size w5 (w5.alloc (.cells #[.int .i64 ra, .int .i64 rb, .int .i64 rc] 38)) by (repeat (first | exact Below.refl _ _ | (refine Below.alloc ?_ (by first | exact Nat.le_refl _ | omega | (simp; done) | (simp; omega)) _) | (refine Below.setCell ?_ (by first | exact Nat.le_refl _ | omega | (simp; done) | (simp; omega)) _) | exact Below.drew ‹_›)))
        have L6 := Lib.hid (L5.out.below b6 L5.out.lt)
        have X6 := Lib.hid (X5.out.below b6 X5.out.lt)
        have B6 := Lib.hid (B5.out.trans (b6.mono B5.out.size))
        have AR6 := Lib.hid (AR5.out.below b6 AR5.out.lt)
        have AN6 := Lib.hid (AN5.out.below b6 AN5.out.lt)
        have RM6 := Lib.hid (RM5.out.below b6 RM5.out.lt)
        have hgv : w5.heap.size ≠ g9 := fun e => by have := AR5.out.lt; omega
        clear b6 f60 f61 s60 s61 z6 x10 x11 x12 z2 R5 L5 X5 B5 AR5 AN5 RM5
        generalize w5.alloc (.cells #[.int .i64 ra, .int .i64 rb, .int .i64 rc] 38) = w6 at *
        generalize w5.heap.size = VB at *
        refine (ins_any w.heap.size g9 c9 VB out.length pn out ⟨ra, rb, rc⟩ w6 rfl (by omega) hpn (RM6.out.own AR6.out hc9 (by omega)) B6.out.size R6.out hgv).mono ?_
        rintro e w7 ⟨g8, c8, rfl, hg8, ar8, rm8, hc8, hk8⟩
        rw [HNS.out] at ar8 hc8
        rw [HNS.out]
        have L7 := Lib.hid (hk8.box L6.out (show ¬ (w.heap.size + 1 + 1 = g9) by omega))
        have X7 := Lib.hid (hk8.box X6.out (show ¬ (Q = g9) by omega))
        have AN7 := Lib.hid (AN6.out.block (hk8.block gn AN6.out.lt (fun e => hgne e.symm)))
        have B7 := Lib.hid (B6.out.trans (hk8.below B6.out.size (fun k e => by omega)))
        have AR7 := Lib.hid ar8
        have RM7 := Lib.hid rm8
        have hg8n : g8 ≠ gn := arr_ne ar8 AN7.out
        have hgX : g8 ≠ Q := fun e => by
          obtain ⟨cs, hh, _⟩ := ar8
          rw [e] at hh
          have := hh.symm.trans X7.out
          simp at this
        have hgL : g8 ≠ w.heap.size + 1 + 1 := fun e => by
          obtain ⟨cs, hh, _⟩ := ar8
          rw [e] at hh
          have := hh.symm.trans L7.out
          simp at this
        clear ar8 rm8 hk8 L6 X6 AN6 AR6 RM6 B6 R6 HNS hpw hpw2 hps
        generalize insR ⟨ra, rb, rc⟩ rs = ys at *
        obtain ⟨z6, f60, f61, s60, s61⟩ := X7.out.two
        obtain ⟨zl, l0, l1, m0, m1⟩ := L7.out.two
        have hQL : Q ≠ w.heap.size + 1 + 1 := by omega
        go_wp2_with fail
        have L8 := L7.out.setFar (p := ⟨Q, 0, none⟩) (by dsimp only; omega) (.slice (some ⟨g8, 0, none⟩) ys.length c8)
        have AR8 := AR7.out.far (p := ⟨Q, 0, none⟩) hgX (.slice (some ⟨g8, 0, none⟩) ys.length c8)
        have RM8 := RM7.out.far (p := ⟨Q, 0, none⟩) hgX (.slice (some ⟨g8, 0, none⟩) ys.length c8)
        have AN8 := AN7.out.setFar (p := ⟨Q, 0, none⟩) (by dsimp only; omega) (.slice (some ⟨g8, 0, none⟩) ys.length c8)
        have B8 := B7.out.setCell (p := ⟨Q, 0, none⟩) (by dsimp only; omega) (.slice (some ⟨g8, 0, none⟩) ys.length c8)
        obtain ⟨b2, q0, q1⟩ := ret_two L8 (.slice (some ⟨g8, 0, none⟩) ys.length c8) (.slice (some ⟨gn, 0, none⟩) hs.length dn)
        refine bodyPost_ret (v := .tuple #[tbV (some ⟨g8, 0, none⟩) ys.length c8 (some ⟨gn, 0, none⟩) hs.length dn, .bool true]) (by simp [results, Try.results19, go_sem, q0, q1]) rfl ?_
        unfold AddT
        rw [HF.out.1, HF.out.2.1, HF.out.2.2]
        refine ⟨_, rfl, some ⟨g8, 0, none⟩, c8, some ⟨gn, 0, none⟩, dn, fun b => b = g8 ∨ b = gn, rfl, tabM_of ?_ ?_, fun b hb => by rcases hb with rfl | rfl <;> omega, ?_⟩
        · exact (AR8.far (p := ⟨w.heap.size + 1 + 1, 0, none⟩) hgL _).far (p := ⟨w.heap.size + 1 + 1, 1, none⟩) hgL _
        · exact (AN8.setFar (p := ⟨w.heap.size + 1 + 1, 0, none⟩) (by dsimp only; omega) _).setFar (p := ⟨w.heap.size + 1 + 1, 1, none⟩) (by dsimp only; omega) _
        · exact (B8.setCell (p := ⟨w.heap.size + 1 + 1, 0, none⟩) (by dsimp only; omega) _).setCell (p := ⟨w.heap.size + 1 + 1, 1, none⟩) (by dsimp only; omega) _
end Go.Proofs.Ytohflcbpjjnccab
