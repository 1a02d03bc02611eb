/-
  Contracts over this seat: the program's TableRemove, with the address of the routes that it answers.
-/
import Derived.Test.YtohflcbpjjnccaaTfg
namespace Go.Proofs.Ytohflcbpjjnccaa
open Go.RowKit Go.Maps

def RemRes2 (rs : List Lk) (hs : List Int) (p b : Int) (w : World) (e : Ending) (w' : World) : Prop :=
  ∃ A c g B d g', e = .returned (.tuple #[tbV A (remR rs hs p b).length c B (remH rs hs).length d, .bool (remB rs hs p b)]) ∧ w.heap.size ≤ g ∧ w.heap.size ≤ g' ∧ OwT w' A g (remR rs hs p b) ∧ Own1i w' B g' (remH rs hs) ∧ Below w.heap.size w w' ∧ (remR rs hs p b).length ≤ c ∧ (remH rs hs).length ≤ d ∧ (tbB rs hs = true → A = some ⟨g, 0, none⟩)
set_option maxRecDepth 100000 in
set_option maxHeartbeats 3200000 in
theorem tableRemove_impl2 (ga oa : Nat) (rs : List Lk) (c : Nat) (gb ob : Nat) (hs : List Int) (d : Nat) (p b : Int) (w : World) (hm : rs.length ≤ 1048576) (hmh : hs.length ≤ 1048576) (hS : Sl w w.heap.size (some ⟨ga, oa, none⟩) rs) (hI : Sli w w.heap.size (some ⟨gb, ob, none⟩) hs) :
   Calls Try.prog 19 #[tbV (some ⟨ga, oa, none⟩) rs.length c (some ⟨gb, ob, none⟩) hs.length d, .int .i64 p, .int .i64 b] w (RemRes2 rs hs p b w) := by
  have B0 : Below w.heap.size w ((w.alloc (.cells #[.slice (some ⟨ga, oa, none⟩) rs.length c, .slice (some ⟨gb, ob, none⟩) hs.length d] 26)).alloc (.cells #[.slice none 0 0, .slice none 0 0] 26)) := by (repeat (first | exact Below.refl _ _ | (refine Below.alloc ?_ (by first | exact Nat.le_refl _ | omega | (simp; done) | (simp; omega)) _) | (refine Below.setCell ?_ (by first | exact Nat.le_refl _ | omega | (simp; done) | (simp; omega)) _) | exact Below.drew ‹_›))
  have HK := Lib.hid ((Box.new w 26 #[.slice (some ⟨ga, oa, none⟩) rs.length c, .slice (some ⟨gb, ob, none⟩) hs.length d]).alloc (.cells #[.slice none 0 0, .slice none 0 0] 26))
  have L0 := Box.new (w.alloc (.cells #[.slice (some ⟨ga, oa, none⟩) rs.length c, .slice (some ⟨gb, ob, none⟩) hs.length d] 26)) 26 #[.slice none 0 0, .slice none 0 0]
  rw [World.size_alloc] at L0
  have HL := Lib.hid L0
  have HS := Lib.hid hS
  have HI := Lib.hid hI
  have HB := Lib.hid B0
  have CV := fun W h1 h2 => tableValid_impl (some ⟨ga, oa, none⟩) rs c (some ⟨gb, ob, none⟩) hs d W hm hmh h1 h2
  have CW := fun W h1 h2 => without_rt ga oa rs c gb ob hs d p b W hm hmh h1 h2
  clear hS hI B0 L0
  cases hv : tbB rs hs with
  | false =>
    rw [hv] at CV
    have HF : Hid (remR rs hs p b = [] ∧ remH rs hs = [] ∧ remB rs hs p b = false) := Lib.hid (by unfold remR remH remB; rw [hv]; exact ⟨rfl, rfl, rfl⟩)
    have HV := Lib.hid hv
    clear hv CW
    go_enter Try.func19, Try.ntmps19
    go_wp2_with fail
    refine (CV _ ((HS.out.below HB.out).more HB.out.size) ((HI.out.below HB.out).more HB.out.size)).mono ?_
    clear CV
    rintro e w1 ⟨rfl, hb1⟩
    have B1 := Lib.hid (HB.out.trans (hb1.mono HB.out.size))
    have L1 := Lib.hid (HL.out.below hb1 HL.out.lt)
    clear hb1
    obtain ⟨z9, f0, f1, q0, q1⟩ := L1.out.two
    go_wp2_with fail
    obtain ⟨b2, r0, r1⟩ := ret_two L1.out (.slice none 0 0) (.slice none 0 0)
    refine bodyPost_ret (v := .tuple #[tbV none 0 0 none 0 0, .bool false]) (by simp [results, Try.results19, go_sem, r0, r1]) rfl ?_
    unfold RemRes2
    rw [HF.out.1, HF.out.2.1, HF.out.2.2]
    exact ⟨none, 0, w.heap.size, none, 0, w.heap.size, rfl, Nat.le_refl _, Nat.le_refl _, fun h => by simp at h, fun h => by simp at h, (B1.out.setCell (p := ⟨w.heap.size + 1, 0, none⟩) (Nat.le_succ _) _).setCell (p := ⟨w.heap.size + 1, 1, none⟩) (Nat.le_succ _) _, Nat.le_refl _, Nat.le_refl _, fun h => by rw [HV.out] at h; cases h⟩
  | true =>
    rw [hv] at CV
    have HF : Hid (remR rs hs p b = delR p b rs ∧ remH rs hs = hs ∧ remB rs hs p b = decide ((delR p b rs).length < rs.length)) := Lib.hid (by unfold remR remH remB; rw [hv, keyB_len]; exact ⟨rfl, rfl, rfl⟩)
    clear hv
    generalize delR p b rs = out at *
    go_enter Try.func19, Try.ntmps19
    go_wp2_with fail
    refine (CV _ ((HS.out.below HB.out).more HB.out.size) ((HI.out.below HB.out).more HB.out.size)).mono ?_
    clear CV
    rintro e w1 ⟨rfl, hb1⟩
    have B1 := Lib.hid (HB.out.trans (hb1.mono HB.out.size))
    have K1 := Lib.hid (HK.out.below hb1 HK.out.lt)
    have L1 := Lib.hid (HL.out.below hb1 HL.out.lt)
    have hz1' := L1.out.lt
    clear hb1 HK HL HB
    obtain ⟨z1, e10, e11, -, -⟩ := K1.out.two
    go_wp2_with fail
    refine (CW _ ((HS.out.below B1.out).more B1.out.size) ((HI.out.below B1.out).more B1.out.size)).mono ?_
    clear CW
    rintro e w4 ⟨v, rfl, g9, c9, gn, dn, rfl, hg9, hgn, ar, an, hb4, hc9, hdn, -⟩
    have KT := Lib.hid ((K1.out.below hb4 K1.out.lt).alloc (.cells #[.slice (some ⟨g9, 0, none⟩) out.length c9, .slice (some ⟨gn, 0, none⟩) hs.length dn] 26))
    have KL := Lib.hid ((L1.out.below hb4 L1.out.lt).alloc (.cells #[.slice (some ⟨g9, 0, none⟩) out.length c9, .slice (some ⟨gn, 0, none⟩) hs.length dn] 26))
    have KX := Lib.hid (Box.new w4 26 #[.slice (some ⟨g9, 0, none⟩) out.length c9, .slice (some ⟨gn, 0, none⟩) hs.length dn])
    have BX := Lib.hid ((B1.out.trans (hb4.mono B1.out.size)).alloc (Nat.le_trans B1.out.size hb4.size) (.cells #[.slice (some ⟨g9, 0, none⟩) out.length c9, .slice (some ⟨gn, 0, none⟩) hs.length dn] 26))
    have AR := Lib.hid (ar.below ((Below.refl _ _).alloc (Nat.le_refl _) (.cells #[.slice (some ⟨g9, 0, none⟩) out.length c9, .slice (some ⟨gn, 0, none⟩) hs.length dn] 26)) ar.lt)
    have AN := Lib.hid (an.below ((Below.refl _ _).alloc (Nat.le_refl _) (.cells #[.slice (some ⟨g9, 0, none⟩) out.length c9, .slice (some ⟨gn, 0, none⟩) hs.length dn] 26)) an.lt)
    have hb4s := hb4.size
    clear ar an hb4 e10 e11 z1 K1 L1 B1
    go_wp2_with fail
    generalize w4.alloc (.cells #[.slice (some ⟨g9, 0, none⟩) out.length c9, .slice (some ⟨gn, 0, none⟩) hs.length dn] 26) = wr at *
    generalize w4.heap.size = X at *
    obtain ⟨z5, e50, e51, -, -⟩ := KT.out.two
    obtain ⟨z6, f60, f61, -, -⟩ := KX.out.two
    obtain ⟨zl, l0, l1, m0, m1⟩ := KL.out.two
    have nT : ¬ XL (w.heap.size + 1) w.heap.size := fun e => by unfold XL at e; omega
    have nX : ¬ XL (w.heap.size + 1) X := fun e => by unfold XL at e; omega
    have hX0 := fun (y : ExtX (XL (w.heap.size + 1)) wr.drew) => (y.cell w.heap.size 0 z5 nT).trans (show wr.drew.cell? ⟨w.heap.size, 0, none⟩ = _ from e50)
    have hX1 := fun (y : ExtX (XL (w.heap.size + 1)) wr.drew) => (y.cell X 0 z6 nX).trans (show wr.drew.cell? ⟨X, 0, none⟩ = _ from f60)
    have hX2 := fun (y : ExtX (XL (w.heap.size + 1)) wr.drew) => (y.cell X 1 z6 nX).trans (show wr.drew.cell? ⟨X, 1, none⟩ = _ from f61)
    refine wp_region_stx 10 (XL (w.heap.size + 1)) (by kernel_rfl) (by kernel_rfl) ?_
    refine stx_seg _ 2 [0, 1, 2, 3, 4, 5, 6, 7] (by kernel_rfl) (by kernel_rfl) (by kernel_rfl) (by kernel_rfl) ?_
    (simp only [List.map_cons, List.map_nil, List.getElem?_cons_zero, List.getElem?_cons_succ, Option.getD_some]); (repeat (go_big_quiet_step (fail))); (refine wpQuiet_nil ?_)
    clear hX0 hX1 hX2
    refine stx_one _ 1 8 (by kernel_rfl) (by rfl) (by kernel_rfl) (by rfl) ?_
    go_wp2_with fail
    refine ⟨Kx.set2 _ _ _ _, _, fun _ h => h, ?_⟩
    refine stx_seg _ 0 [9] (by kernel_rfl) (by kernel_rfl) (by kernel_rfl) (by kernel_rfl) ?_
    (simp only [List.map_cons, List.map_nil, List.getElem?_cons_zero, List.getElem?_cons_succ, Option.getD_some]); (repeat (go_big_quiet_step (fail))); (refine wpQuiet_nil ?_)
    refine stx_end (by kernel_rfl) ?_
    go_wp2_with fail
    obtain ⟨b2, r0, r1⟩ := ret_two KL.out (.slice (some ⟨g9, 0, none⟩) out.length c9) (.slice (some ⟨gn, 0, none⟩) hs.length dn)
    refine bodyPost_ret (v := .tuple #[tbV (some ⟨g9, 0, none⟩) out.length c9 (some ⟨gn, 0, none⟩) hs.length dn, .bool (decide ((out.length : Int) < (rs.length : Int)))]) (by simp [results, Try.results19, go_sem, r0, r1]) rfl ?_
    unfold RemRes2
    rw [HF.out.1, HF.out.2.1, HF.out.2.2]
    refine ⟨some ⟨g9, 0, none⟩, c9, g9, some ⟨gn, 0, none⟩, dn, gn, by rw [show decide ((out.length : Int) < (rs.length : Int)) = decide (out.length < rs.length) by rw [decide_eq_decide]; omega], by omega, by omega, fun _ => ⟨rfl, ?_⟩, fun _ => ⟨rfl, ?_⟩, ?_, hc9, hdn, fun _ => rfl⟩
    · exact (AR.out.far (p := ⟨w.heap.size + 1, 0, none⟩) (by dsimp only; omega) _).far (p := ⟨w.heap.size + 1, 1, none⟩) (by dsimp only; omega) _
    · exact (AN.out.setFar (p := ⟨w.heap.size + 1, 0, none⟩) (by dsimp only; omega) _).setFar (p := ⟨w.heap.size + 1, 1, none⟩) (by dsimp only; omega) _
    · exact (BX.out.drew.setCell (p := ⟨w.heap.size + 1, 0, none⟩) (Nat.le_succ _) _).setCell (p := ⟨w.heap.size + 1, 1, none⟩) (Nat.le_succ _) _
end Go.Proofs.Ytohflcbpjjnccaa
