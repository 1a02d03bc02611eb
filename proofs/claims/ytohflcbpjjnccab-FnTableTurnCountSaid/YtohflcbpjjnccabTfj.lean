/-
  Contracts over this seat: the program's TableAdd.
-/
import Derived.Test.YtohflcbpjjnccabTfg
import Derived.Test.YtohflcbpjjnccabTfi
import Derived.Test.YtohflcbpjjnccabTk
namespace Go.Proofs.Ytohflcbpjjnccab
open Go.RowKit Go.Maps

set_option maxRecDepth 100000 in
set_option maxHeartbeats 6400000 in
theorem tableAdd_impl (ga oa : Nat) (rs : List Lk) (c : Nat) (gb ob : Nat) (hs : List Int) (d : Nat) (r : Lk) (w : World) (hm : rs.length ≤ 1048576) (hmh : hs.length ≤ 1048576) (_hcc : rs.length ≤ c) (hS : Sl w w.heap.size (some ⟨ga, oa, none⟩) rs) (hI : Sli w w.heap.size (some ⟨gb, ob, none⟩) hs) :
   Calls Try.prog 19 #[tbV (some ⟨ga, oa, none⟩) rs.length c (some ⟨gb, ob, none⟩) hs.length d, rtV r] w (AddRes rs hs r w) := by
  have HS := Lib.hid hS
  have HI := Lib.hid hI
  have CV := fun W h1 h2 => tableValid_impl (some ⟨ga, oa, none⟩) rs c (some ⟨gb, ob, none⟩) hs d W hm hmh h1 h2
  have CA := fun W => rtal_any (some ⟨ga, oa, none⟩) rs.length c (some ⟨gb, ob, none⟩) hs.length d r W
  have CW := fun W h1 h2 => without_rt ga oa rs c gb ob hs d r.a r.b W hm hmh h1 h2
  have HOK : Hid (addOk rs hs r = (tbB rs hs && rtB hs.length r)) := Lib.hid rfl
  have HNO := Lib.hid (show addOk rs hs r = false → _ ∧ _ ∧ _ from add_no)
  have HFULL := Lib.hid (fun h1 h2 h3 => add_full (rs := rs) (hs := hs) (r := r) h1 h2 h3)
  have HGO := Lib.hid (fun h1 h2 => add_go (rs := rs) (hs := hs) (r := r) h1 h2)
  have HTEN := Lib.hid (fun h => del_ten (rs := rs) (r := r) h)
  have HLST := Lib.hid (fun k (ha : Asc rs) h => lst_ins (rs := delR r.a r.b rs) (r := r) (k := k) (delR_asc ha) del_hasR h)
  have HINS := Lib.hid (fun (ha : Asc rs) => ins_del (r := r) ha)
  have HACL := Lib.hid (fun (P : Nat) (W0 W : World) (x : Lk) (hP : Box W0 P 38 #[.int .i64 r.a, .int .i64 r.b, .int .i64 r.c]) (hb : Below W0.heap.size W0 W) => acl_any x r P W (hP.below hb hP.lt))
  clear hS hI
  obtain ⟨ra, rb, rc⟩ := r
  dsimp only [rtV] at *
  have HK := Lib.hid (((Box.new w 30 #[.slice (some ⟨ga, oa, none⟩) rs.length c, .slice (some ⟨gb, ob, none⟩) hs.length d]).alloc (.cells #[.int .i64 ra, .int .i64 rb, .int .i64 rc] 38)).alloc (.cells #[.slice none 0 0, .slice none 0 0] 30))
  have r1 := (Box.new (w.alloc (.cells #[.slice (some ⟨ga, oa, none⟩) rs.length c, .slice (some ⟨gb, ob, none⟩) hs.length d] 30)) 38 #[.int .i64 ra, .int .i64 rb, .int .i64 rc]).alloc (.cells #[.slice none 0 0, .slice none 0 0] 30)
  have l1 := Box.new ((w.alloc (.cells #[.slice (some ⟨ga, oa, none⟩) rs.length c, .slice (some ⟨gb, ob, none⟩) hs.length d] 30)).alloc (.cells #[.int .i64 ra, .int .i64 rb, .int .i64 rc] 38)) 30 #[.slice none 0 0, .slice none 0 0]
  simp only [World.size_alloc] at r1 l1
  have HR := Lib.hid r1
  have HL := Lib.hid l1
  have B0 := Lib.hid (show Below w.heap.size w (((w.alloc (.cells #[.slice (some ⟨ga, oa, none⟩) rs.length c, .slice (some ⟨gb, ob, none⟩) hs.length d] 30)).alloc (.cells #[.int .i64 ra, .int .i64 rb, .int .i64 rc] 38)).alloc (.cells #[.slice none 0 0, .slice none 0 0] 30)) by (repeat (first | exact Below.refl _ _ | (refine Below.alloc ?_ (by first | exact Nat.le_refl _ | omega | (simp; done) | (simp; omega)) _) | (refine Below.setCell ?_ (by first | exact Nat.le_refl _ | omega | (simp; done) | (simp; omega)) _) | exact Below.drew ‹_›)))
  clear r1 l1
  cases hv : tbB rs hs with
  | false =>
    rw [hv] at CV
    have HF := Lib.hid (HNO.out (by rw [HOK.out, hv]; rfl))
    clear hv HNO HFULL HGO HTEN HLST HINS HACL HOK CA CW
    go_enter Try.func19, Try.ntmps19
    go_wp2_with fail
    generalize ((w.alloc (.cells #[.slice (some ⟨ga, oa, none⟩) rs.length c, .slice (some ⟨gb, ob, none⟩) hs.length d] 30)).alloc (.cells #[.int .i64 ra, .int .i64 rb, .int .i64 rc] 38)).alloc (.cells #[.slice none 0 0, .slice none 0 0] 30) = V at *
    refine (CV _ ((HS.out.below B0.out).more B0.out.size) ((HI.out.below B0.out).more B0.out.size)).mono ?_
    clear CV
    rintro e w1 ⟨rfl, hb1⟩
    have B1 := Lib.hid (B0.out.trans (hb1.mono B0.out.size))
    have L1 := Lib.hid (HL.out.below hb1 HL.out.lt)
    clear hb1
    obtain ⟨z9, f0, f1, m0, m1⟩ := L1.out.two
    go_wp2_with fail
    obtain ⟨b2, q0, q1⟩ := ret_two L1.out (.slice none 0 0) (.slice none 0 0)
    refine bodyPost_ret (v := .tuple #[tbV none 0 0 none 0 0, .bool false]) (by simp [results, Try.results19, go_sem, q0, q1]) rfl ?_
    unfold AddRes
    rw [HF.out.1, HF.out.2.1, HF.out.2.2]
    exact ⟨_, rfl, none, 0, w.heap.size, none, 0, w.heap.size, rfl, Nat.le_refl _, Nat.le_refl _, fun h => by simp at h, fun h => by simp at h, (B1.out.setCell (p := ⟨w.heap.size + 1 + 1, 0, none⟩) (by dsimp only; omega) _).setCell (p := ⟨w.heap.size + 1 + 1, 1, none⟩) (by dsimp only; omega) _, Nat.le_refl _, Nat.le_refl _, fun h => by simp at h⟩
  | true =>
    rw [hv] at CV
    cases ha : rtB hs.length ⟨ra, rb, rc⟩ with
    | false =>
      rw [ha] at CA
      have HF := Lib.hid (HNO.out (by rw [HOK.out, hv, ha]; rfl))
      clear hv ha HNO HFULL HGO HTEN HLST HINS HACL HOK CW
      go_enter Try.func19, Try.ntmps19
      go_wp2_with fail
      generalize ((w.alloc (.cells #[.slice (some ⟨ga, oa, none⟩) rs.length c, .slice (some ⟨gb, ob, none⟩) hs.length d] 30)).alloc (.cells #[.int .i64 ra, .int .i64 rb, .int .i64 rc] 38)).alloc (.cells #[.slice none 0 0, .slice none 0 0] 30) = V at *
      refine (CV _ ((HS.out.below B0.out).more B0.out.size) ((HI.out.below B0.out).more B0.out.size)).mono ?_
      clear CV
      rintro e w0 ⟨rfl, hb1⟩
      have B2 := Lib.hid (B0.out.trans (hb1.mono B0.out.size))
      have K1 := Lib.hid (HK.out.below hb1 HK.out.lt)
      have R1 := Lib.hid (HR.out.below hb1 HR.out.lt)
      have L0 := Lib.hid (HL.out.below hb1 HL.out.lt)
      clear hb1
      obtain ⟨z1, e10, e11, -, -⟩ := K1.out.two
      obtain ⟨z2, x10, x11, x12, -, -, -⟩ := R1.out.trip
      go_wp2_with fail
      refine (CA _).mono ?_
      clear CA
      rintro e w1 ⟨rfl, hb1⟩
      have B1 := Lib.hid (B2.out.trans (hb1.mono B2.out.size))
      have L1 := Lib.hid (L0.out.below hb1 L0.out.lt)
      clear hb1 z1 e10 e11 z2 x10 x11 x12
      obtain ⟨z9, f0, f1, m0, m1⟩ := L1.out.two
      go_wp2_with fail
      obtain ⟨b2, q0, q1⟩ := ret_two L1.out (.slice none 0 0) (.slice none 0 0)
      refine bodyPost_ret (v := .tuple #[tbV none 0 0 none 0 0, .bool false]) (by simp [results, Try.results19, go_sem, q0, q1]) rfl ?_
      unfold AddRes
      rw [HF.out.1, HF.out.2.1, HF.out.2.2]
      exact ⟨_, rfl, none, 0, w.heap.size, none, 0, w.heap.size, rfl, Nat.le_refl _, Nat.le_refl _, fun h => by simp at h, fun h => by simp at h, (B1.out.setCell (p := ⟨w.heap.size + 1 + 1, 0, none⟩) (by dsimp only; omega) _).setCell (p := ⟨w.heap.size + 1 + 1, 1, none⟩) (by dsimp only; omega) _, Nat.le_refl _, Nat.le_refl _, fun h => by simp at h⟩
    | true =>
      rw [ha] at CA
      have hok : addOk rs hs ⟨ra, rb, rc⟩ = true := by rw [HOK.out, hv, ha]; rfl
      obtain ⟨-, -, hasc, hl10, -⟩ := tbB_iff.1 hv
      have HTEN := Lib.hid (HTEN.out hl10)
      have HLST := Lib.hid (fun k h => HLST.out k hasc h)
      have HINS := Lib.hid (HINS.out hasc)
      have HGO := Lib.hid (HGO.out hok)
      have HFULL := Lib.hid (HFULL.out hok)
      have HOL : Hid ((delR ra rb rs).length ≤ 10) := Lib.hid (Nat.le_trans (List.length_filter_le _ _) hl10)
      clear hv ha HNO HOK hok hasc hl10
      generalize delR ra rb rs = out at *
      go_enter Try.func19, Try.ntmps19
      go_wp2_with fail
      generalize ((w.alloc (.cells #[.slice (some ⟨ga, oa, none⟩) rs.length c, .slice (some ⟨gb, ob, none⟩) hs.length d] 30)).alloc (.cells #[.int .i64 ra, .int .i64 rb, .int .i64 rc] 38)).alloc (.cells #[.slice none 0 0, .slice none 0 0] 30) = V at *
      refine (CV _ ((HS.out.below B0.out).more B0.out.size) ((HI.out.below B0.out).more B0.out.size)).mono ?_
      clear CV
      rintro e w0 ⟨rfl, hb1⟩
      have B2 := Lib.hid (B0.out.trans (hb1.mono B0.out.size))
      have K1 := Lib.hid (HK.out.below hb1 HK.out.lt)
      have R1 := Lib.hid (HR.out.below hb1 HR.out.lt)
      have L1 := Lib.hid (HL.out.below hb1 HL.out.lt)
      clear hb1 B0 HK HR HL
      obtain ⟨z1, e10, e11, -, -⟩ := K1.out.two
      obtain ⟨z2, x10, x11, x12, -, -, -⟩ := R1.out.trip
      go_wp2_with fail
      refine (CA _).mono ?_
      clear CA
      rintro e w1 ⟨rfl, hb1⟩
      have B3 := Lib.hid (B2.out.trans (hb1.mono B2.out.size))
      have K2 := Lib.hid (K1.out.below hb1 K1.out.lt)
      have R2 := Lib.hid (R1.out.below hb1 R1.out.lt)
      have L2 := Lib.hid (L1.out.below hb1 L1.out.lt)
      clear hb1 B2 K1 R1 L1 z1 e10 e11 z2 x10 x11 x12
      obtain ⟨z1, e10, e11, -, -⟩ := K2.out.two
      obtain ⟨z2, x10, x11, x12, -, -, -⟩ := R2.out.trip
      go_wp2_with fail
      refine (CW _ ((HS.out.below B3.out).more B3.out.size) ((HI.out.below B3.out).more B3.out.size)).mono ?_
      clear CW
      rintro e w4 ⟨v, rfl, g9, c9, gn, dn, rfl, hg9, hgn, ar, an, hb4, hc9, hdn, rm⟩
      have R3 := Lib.hid ((R2.out.below hb4 R2.out.lt).alloc (.cells #[.slice (some ⟨g9, 0, none⟩) out.length c9, .slice (some ⟨gn, 0, none⟩) hs.length dn] 30))
      have L3 := Lib.hid ((L2.out.below hb4 L2.out.lt).alloc (.cells #[.slice (some ⟨g9, 0, none⟩) out.length c9, .slice (some ⟨gn, 0, none⟩) hs.length dn] 30))
      have X3 := Lib.hid (Box.new w4 30 #[.slice (some ⟨g9, 0, none⟩) out.length c9, .slice (some ⟨gn, 0, none⟩) hs.length dn])
      have B4 := Lib.hid ((B3.out.trans (hb4.mono B3.out.size)).alloc (Nat.le_trans B3.out.size hb4.size) (.cells #[.slice (some ⟨g9, 0, none⟩) out.length c9, .slice (some ⟨gn, 0, none⟩) hs.length dn] 30))
      have AR := Lib.hid (ar.below ((Below.refl _ _).alloc (Nat.le_refl _) (.cells #[.slice (some ⟨g9, 0, none⟩) out.length c9, .slice (some ⟨gn, 0, none⟩) hs.length dn] 30)) ar.lt)
      have AN := Lib.hid (an.below ((Below.refl _ _).alloc (Nat.le_refl _) (.cells #[.slice (some ⟨g9, 0, none⟩) out.length c9, .slice (some ⟨gn, 0, none⟩) hs.length dn] 30)) an.lt)
      have RM := Lib.hid (rm.below ((Below.refl _ _).alloc (Nat.le_refl _) (.cells #[.slice (some ⟨g9, 0, none⟩) out.length c9, .slice (some ⟨gn, 0, none⟩) hs.length dn] 30)) rm.lt)
      have L24 := Lib.hid (L2.out.below hb4 L2.out.lt)
      have AR4 := Lib.hid ar
      have AN4 := Lib.hid an
      have RM4 := Lib.hid rm
      have B24 := Lib.hid (B3.out.trans (hb4.mono B3.out.size))
      have hgx : g9 < w4.heap.size := ar.lt
      have hgnx : gn < w4.heap.size := an.lt
      have hb4s := hb4.size
      have hb3s := B3.out.size
      have hl2 := L2.out.lt
      clear ar an rm hb4 e10 e11 z1 x10 x11 x12 z2 K2 R2 L2 B3
      have hgne : g9 ≠ gn := arr_ne AR.out AN.out
      by_cases hten : out.length = 10
      · obtain ⟨hh, hl, hout⟩ := HTEN.out.1 hten
        obtain ⟨f1, f2, f3⟩ := HFULL.out hh (by omega)
        have HF := Lib.hid (show addR rs hs ⟨ra, rb, rc⟩ = out ∧ addH rs hs ⟨ra, rb, rc⟩ = hs ∧ addB rs hs ⟨ra, rb, rc⟩ = false from ⟨by rw [f1, hout], f2, f3⟩)
        have hteni : ((out.length : Int) == 10) = true := by simp; omega
        have hten2 : decide ((out.length : Int) = 10) = true := by simp; omega
        have hten3 : decide (out.length = 10) = true := by simp; omega
        have hten4 : (out.length == 10) = true := by simp; omega
        clear hh hl hout f1 f2 f3 hten HGO HFULL HTEN HLST HINS HACL
        obtain ⟨zl, l0, l1, m0, m1⟩ := L24.out.two
        go_wp2_with fail
        have b2 := (ret_two L24.out (.slice (some ⟨g9, 0, none⟩) out.length c9) (.slice (some ⟨gn, 0, none⟩) hs.length dn)).1.alloc (.cells #[.slice (some ⟨g9, 0, none⟩) out.length c9, .slice (some ⟨gn, 0, none⟩) hs.length dn] 30)
        have q0 := b2.cell 0
        have q1 := b2.cell 1
        refine bodyPost_ret (v := .tuple #[tbV (some ⟨g9, 0, none⟩) out.length c9 (some ⟨gn, 0, none⟩) hs.length dn, .bool false]) (by simp [results, Try.results19, go_sem, q0, q1]) rfl ?_
        unfold AddRes
        rw [HF.out.1, HF.out.2.1, HF.out.2.2]
        have hba := fun W => (show Below (World.heap W).size W (W.alloc (.cells #[.slice (some ⟨g9, 0, none⟩) out.length c9, .slice (some ⟨gn, 0, none⟩) hs.length dn] 30)) from (Below.refl _ _).alloc (Nat.le_refl _) _)
        have hbb := (B24.out.setCell (p := ⟨w.heap.size + 1 + 1, 0, none⟩) (by dsimp only; omega) (.slice (some ⟨g9, 0, none⟩) out.length c9)).setCell (p := ⟨w.heap.size + 1 + 1, 1, none⟩) (by dsimp only; omega) (.slice (some ⟨gn, 0, none⟩) hs.length dn)
        have har := (AR4.out.far (p := ⟨w.heap.size + 1 + 1, 0, none⟩) (by dsimp only; omega) (.slice (some ⟨g9, 0, none⟩) out.length c9)).far (p := ⟨w.heap.size + 1 + 1, 1, none⟩) (by dsimp only; omega) (.slice (some ⟨gn, 0, none⟩) hs.length dn)
        have han := (AN4.out.setFar (p := ⟨w.heap.size + 1 + 1, 0, none⟩) (by dsimp only; omega) (.slice (some ⟨g9, 0, none⟩) out.length c9)).setFar (p := ⟨w.heap.size + 1 + 1, 1, none⟩) (by dsimp only; omega) (.slice (some ⟨gn, 0, none⟩) hs.length dn)
        have hrm := (RM4.out.far (p := ⟨w.heap.size + 1 + 1, 0, none⟩) (by dsimp only; omega) (.slice (some ⟨g9, 0, none⟩) out.length c9)).far (p := ⟨w.heap.size + 1 + 1, 1, none⟩) (by dsimp only; omega) (.slice (some ⟨gn, 0, none⟩) hs.length dn)
        exact ⟨_, rfl, some ⟨g9, 0, none⟩, c9, g9, some ⟨gn, 0, none⟩, dn, gn, rfl, by omega, by omega, fun _ => ⟨rfl, har.below (hba _) har.lt⟩, fun _ => ⟨rfl, han.below (hba _) han.lt⟩, hbb.trans ((hba _).mono hbb.size), hc9, hdn, fun _ => hrm.below (hba _) hrm.lt⟩
      · have hteni : ((out.length : Int) == 10) = false := by simp; omega
        have hten2 : decide ((out.length : Int) = 10) = false := by simp; omega
        have hten3 : decide (out.length = 10) = false := by simp; omega
        have hten4 : (out.length == 10) = false := by simp; omega
        have HF := Lib.hid (HGO.out (HTEN.out.2 hten))
        clear hten HGO HFULL HTEN
        go_wp2_with fail
        generalize w4.alloc (.cells #[.slice (some ⟨g9, 0, none⟩) out.length c9, .slice (some ⟨gn, 0, none⟩) hs.length dn] 30) = wr at *
        generalize w4.heap.size = Q at *
        obtain ⟨z6, f60, f61, -, -⟩ := X3.out.two
        go_wp2_with fail
        refine (lastadd_any (fun x => rtLt x ⟨ra, rb, rc⟩) (w.heap.size + 1) (some ⟨g9, 0, none⟩) out c9 (some ⟨gn, 0, none⟩) hs.length dn wr (by have := HOL.out; omega) (AR.out.sl AR.out.lt) (fun x W hx hb => HACL.out _ wr W x R3.out hb)).mono ?_
        rintro e w5 ⟨⟨k, rfl, hk⟩, hb5⟩
        obtain ⟨pn, hkp, hpn, hins⟩ := HLST.out k hk
        have hkk : k = (pn : Int) - 1 := by omega
        subst hkk
        have R5 := Lib.hid (R3.out.below hb5 R3.out.lt)
        have L5 := Lib.hid (L3.out.below hb5 L3.out.lt)
        have X5 := Lib.hid (X3.out.below hb5 X3.out.lt)
        have B5 := Lib.hid (B4.out.trans (hb5.mono B4.out.size))
        have AR5 := Lib.hid (AR.out.below hb5 AR.out.lt)
        have AN5 := Lib.hid (AN.out.below hb5 AN.out.lt)
        have RM5 := Lib.hid (RM.out.below hb5 RM.out.lt)
        have HNS := Lib.hid (show out.take pn ++ ⟨ra, rb, rc⟩ :: out.drop pn = insR ⟨ra, rb, rc⟩ rs by rw [← hins, HINS.out])
        have hpl := HOL.out
        have hpw : IntKind.i64.wrap ((pn : Int) - 1 + 1) = (pn : Int) := by
          rw [show (pn : Int) - 1 + 1 = (pn : Int) by omega]
          exact IntWalk.i64_in _ (by omega)
        have hpw2 : IntKind.i64.wrap (pn : Int) = (pn : Int) := IntWalk.i64_in _ (by omega)
        have hps : (pn : Int) - 1 + 1 = (pn : Int) := by omega
        clear hb5 hk hkp hins f60 f61 z6 R3 L3 X3 B4 AR AN RM HLST HINS HACL
        obtain ⟨z6, f60, f61, s60, s61⟩ := X5.out.two
        obtain ⟨z2, x10, x11, x12, -, -, -⟩ := R5.out.trip
        go_wp2_with fail
        have R6 := Lib.hid (Box.new w5 38 #[.int .i64 ra, .int .i64 rb, .int .i64 rc])
        have b6 := (show Below w5.heap.size w5 (w5.alloc (.cells #[.int .i64 ra, .int .i64 rb, .int .i64 rc] 38)) by (repeat (first | exact Below.refl _ _ | (refine Below.alloc ?_ (by first | exact Nat.le_refl _ | omega | (simp; done) | (simp; omega)) _) | (refine Below.setCell ?_ (by first | exact Nat.le_refl _ | omega | (simp; done) | (simp; omega)) _) | exact Below.drew ‹_›)))
        have L6 := Lib.hid (L5.out.below b6 L5.out.lt)
        have X6 := Lib.hid (X5.out.below b6 X5.out.lt)
        have B6 := Lib.hid (B5.out.trans (b6.mono B5.out.size))
        have AR6 := Lib.hid (AR5.out.below b6 AR5.out.lt)
        have AN6 := Lib.hid (AN5.out.below b6 AN5.out.lt)
        have RM6 := Lib.hid (RM5.out.below b6 RM5.out.lt)
        have hgv : w5.heap.size ≠ g9 := fun e => by have := AR5.out.lt; omega
        clear b6 f60 f61 s60 s61 z6 x10 x11 x12 z2 R5 L5 X5 B5 AR5 AN5 RM5
        generalize w5.alloc (.cells #[.int .i64 ra, .int .i64 rb, .int .i64 rc] 38) = w6 at *
        generalize w5.heap.size = VB at *
        refine (ins_any w.heap.size g9 c9 VB out.length pn out ⟨ra, rb, rc⟩ w6 rfl (by omega) hpn (RM6.out.own AR6.out hc9 (by omega)) B6.out.size R6.out hgv).mono ?_
        rintro e w7 ⟨g8, c8, rfl, hg8, ar8, rm8, hc8, hk8⟩
        rw [HNS.out] at ar8 hc8
        rw [HNS.out]
        have L7 := Lib.hid (hk8.box L6.out (show ¬ (w.heap.size + 1 + 1 = g9) by omega))
        have X7 := Lib.hid (hk8.box X6.out (show ¬ (Q = g9) by omega))
        have AN7 := Lib.hid (AN6.out.block (hk8.block gn AN6.out.lt (fun e => hgne e.symm)))
        have B7 := Lib.hid (B6.out.trans (hk8.below B6.out.size (fun k e => by omega)))
        have AR7 := Lib.hid ar8
        have RM7 := Lib.hid rm8
        have hg8n : g8 ≠ gn := arr_ne ar8 AN7.out
        have hgX : g8 ≠ Q := fun e => by
          obtain ⟨cs, hh, _⟩ := ar8
          rw [e] at hh
          have := hh.symm.trans X7.out
          simp at this
        have hgL : g8 ≠ w.heap.size + 1 + 1 := fun e => by
          obtain ⟨cs, hh, _⟩ := ar8
          rw [e] at hh
          have := hh.symm.trans L7.out
          simp at this
        clear ar8 rm8 hk8 L6 X6 AN6 AR6 RM6 B6 R6 HNS hpw hpw2 hps
        generalize insR ⟨ra, rb, rc⟩ rs = ys at *
        obtain ⟨z6, f60, f61, s60, s61⟩ := X7.out.two
        obtain ⟨zl, l0, l1, m0, m1⟩ := L7.out.two
        have hQL : Q ≠ w.heap.size + 1 + 1 := by omega
        go_wp2_with fail
        have L8 := L7.out.setFar (p := ⟨Q, 0, none⟩) (by dsimp only; omega) (.slice (some ⟨g8, 0, none⟩) ys.length c8)
        have AR8 := AR7.out.far (p := ⟨Q, 0, none⟩) hgX (.slice (some ⟨g8, 0, none⟩) ys.length c8)
        have RM8 := RM7.out.far (p := ⟨Q, 0, none⟩) hgX (.slice (some ⟨g8, 0, none⟩) ys.length c8)
        have AN8 := AN7.out.setFar (p := ⟨Q, 0, none⟩) (by dsimp only; omega) (.slice (some ⟨g8, 0, none⟩) ys.length c8)
        have B8 := B7.out.setCell (p := ⟨Q, 0, none⟩) (by dsimp only; omega) (.slice (some ⟨g8, 0, none⟩) ys.length c8)
        obtain ⟨b2, q0, q1⟩ := ret_two L8 (.slice (some ⟨g8, 0, none⟩) ys.length c8) (.slice (some ⟨gn, 0, none⟩) hs.length dn)
        refine bodyPost_ret (v := .tuple #[tbV (some ⟨g8, 0, none⟩) ys.length c8 (some ⟨gn, 0, none⟩) hs.length dn, .bool true]) (by simp [results, Try.results19, go_sem, q0, q1]) rfl ?_
        unfold AddRes
        rw [HF.out.1, HF.out.2.1, HF.out.2.2]
        refine ⟨_, rfl, some ⟨g8, 0, none⟩, c8, g8, some ⟨gn, 0, none⟩, dn, gn, rfl, hg8, by omega, fun _ => ⟨rfl, ?_⟩, fun _ => ⟨rfl, ?_⟩, ?_, hc8, hdn, fun _ => ?_⟩
        · exact (AR8.far (p := ⟨w.heap.size + 1 + 1, 0, none⟩) hgL _).far (p := ⟨w.heap.size + 1 + 1, 1, none⟩) hgL _
        · exact (AN8.setFar (p := ⟨w.heap.size + 1 + 1, 0, none⟩) (by dsimp only; omega) _).setFar (p := ⟨w.heap.size + 1 + 1, 1, none⟩) (by dsimp only; omega) _
        · exact (B8.setCell (p := ⟨w.heap.size + 1 + 1, 0, none⟩) (by dsimp only; omega) _).setCell (p := ⟨w.heap.size + 1 + 1, 1, none⟩) (by dsimp only; omega) _
        · exact (RM8.far (p := ⟨w.heap.size + 1 + 1, 0, none⟩) hgL _).far (p := ⟨w.heap.size + 1 + 1, 1, none⟩) hgL _
end Go.Proofs.Ytohflcbpjjnccab
