/-
  Contracts over this seat: a table copied (specification).
-/
import Derived.Test.YtohflcbpjjnccabTg
namespace Go.Proofs.Ytohflcbpjjnccab
open Go.RowKit Go.Maps

theorem Arrt.far {w : World} {g : Nat} {ls : List Lk} (h : Arrt w g ls) {p : Addr} (hp : g ≠ p.block) (u : Value) : Arrt (w.setCell p u) g ls := h.block (Below.heap_setCell w p u g hp)
theorem Arri.setFar {w : World} {g : Nat} {xs : List Int} (h : Arri w g xs) {p : Addr} (hp : g ≠ p.block) (u : Value) : Arri (w.setCell p u) g xs := h.block (Below.heap_setCell w p u g hp)
set_option maxRecDepth 100000 in
set_option maxHeartbeats 1600000 in
theorem l23copy_any (ga oa : Nat) (rs : List Lk) (c : Nat) (gb ob : Nat) (hs : List Int) (d : Nat) (w : World) (hm : rs.length ≤ 1048576) (hmh : hs.length ≤ 1048576) (hS : Sl w w.heap.size (some ⟨ga, oa, none⟩) rs) (hI : Sli w w.heap.size (some ⟨gb, ob, none⟩) hs) :
   Calls Try.prog 47 #[tbV (some ⟨ga, oa, none⟩) rs.length c (some ⟨gb, ob, none⟩) hs.length d] w fun e w' => ∃ v, e = .returned v ∧ NewTb rs hs w v w' := by
  obtain ⟨i0, hi, hz0, hz1, hz2⟩ := info_parts infoRoute
  obtain ⟨j0, hj, hy0, hy1, hy2⟩ := info_parts infoInt
  have B0 : Below w.heap.size w ((w.alloc (.cells #[.slice (some ⟨ga, oa, none⟩) rs.length c, .slice (some ⟨gb, ob, none⟩) hs.length d] 30)).alloc (.cells #[.slice none 0 0, .slice none 0 0] 30)) := by (repeat (first | exact Below.refl _ _ | (refine Below.alloc ?_ (by first | exact Nat.le_refl _ | omega | (simp; done) | (simp; omega)) _) | (refine Below.setCell ?_ (by first | exact Nat.le_refl _ | omega | (simp; done) | (simp; omega)) _) | exact Below.drew ‹_›))
  have HK := Lib.hid ((Box.new w 30 #[.slice (some ⟨ga, oa, none⟩) rs.length c, .slice (some ⟨gb, ob, none⟩) hs.length d]).alloc (.cells #[.slice none 0 0, .slice none 0 0] 30))
  have L0 := Box.new (w.alloc (.cells #[.slice (some ⟨ga, oa, none⟩) rs.length c, .slice (some ⟨gb, ob, none⟩) hs.length d] 30)) 30 #[.slice none 0 0, .slice none 0 0]
  rw [World.size_alloc] at L0
  have HL := Lib.hid L0
  have HR := Lib.hid ((hS.below B0).more B0.size)
  have HI := Lib.hid ((hI.below B0).more B0.size)
  have HB := Lib.hid B0
  have hsz : ((w.alloc (.cells #[.slice (some ⟨ga, oa, none⟩) rs.length c, .slice (some ⟨gb, ob, none⟩) hs.length d] 30)).alloc (.cells #[.slice none 0 0, .slice none 0 0] 30)).heap.size = w.heap.size + 2 := by simp
  clear hS hI B0 L0
  go_enter Try.func47, Try.ntmps47
  go_wp2_with fail
  generalize (w.alloc (.cells #[.slice (some ⟨ga, oa, none⟩) rs.length c, .slice (some ⟨gb, ob, none⟩) hs.length d] 30)).alloc (.cells #[.slice none 0 0, .slice none 0 0] 30) = W0 at *
  obtain ⟨z1, e10, e11, -, -⟩ := HK.out.two
  have hX := fun (x : ExtB (w.heap.size + 1) W0.drew) (bb o : Nat) (h : bb < w.heap.size + 1) => (show x.w.cell? ⟨bb, o, none⟩ = W0.cell? ⟨bb, o, none⟩ from x.cell bb o h)
  have hsz2 : w.heap.size + 2 ≤ W0.heap.size := by omega
  have zz : w.heap.size < w.heap.size + 1 := Nat.lt_succ_self _
  clear hsz
  refine wp_region_stg 10 (w.heap.size + 1) (by kernel_rfl) (by kernel_rfl) ?_
  refine stg_seg _ 6 [1, 2, 5, 6] (by kernel_rfl) (by kernel_rfl) (by kernel_rfl) (by kernel_rfl) ?_
  (simp only [List.map_cons, List.map_nil, List.getElem?_cons_zero, List.getElem?_cons_succ, Option.getD_some]); (repeat (go_big_quiet_step (fail))); (refine wpQuiet_nil ?_)
  clear hX z1 e10 e11
  have HR := Lib.hid (show Sl W0.drew W0.drew.heap.size (some ⟨ga, oa, none⟩) rs from HR.out.below (Below.refl _ _).drew)
  have HI := Lib.hid (show Sli W0.drew W0.drew.heap.size (some ⟨gb, ob, none⟩) hs from HI.out.below (Below.refl _ _).drew)
  have HL := Lib.hid (show Box W0.drew (w.heap.size + 1) 30 #[.slice none 0 0, .slice none 0 0] from HL.out)
  have HB := Lib.hid (show Below w.heap.size w W0.drew from HB.out.drew)
  have hsz3 : w.heap.size + 2 ≤ W0.drew.heap.size := hsz2
  generalize W0.drew = wd at *
  refine stg_two _ 5 0 4 (by rfl) (by rfl) (by rfl) (by kernel_rfl) (by rfl) (by rfl) ?_ ?_
  · go_wp2_with fail
    have X1 := Lib.hid (show Below wd.heap.size wd (wd.alloc (.cells #[] 38)) from (Below.refl _ _).alloc (Nat.le_refl _) _)
    refine ⟨X1.out.mono (by have := (Below.refl wd.heap.size wd).size; omega), _, Nat.le_refl _, ?_⟩
    have R1 := Lib.hid (QT.made (w := wd) (W := wd) (Below.refl wd.heap.size wd))
    generalize wd.alloc (.cells #[] 38) = u1 at *
    refine stg_two _ 4 3 4 (by rfl) (by rfl) (by rfl) (by kernel_rfl) (by rfl) (by rfl) ?_ ?_
    · refine wp_append_own _ _ _ 28 rfl wd.heap.size 38 i0 _ 3 24 Try.underlying28 hi hz0 hz1 hz2 rfl (by decide) _ 0 (flat []) rfl R1.out.row ⟨ga, oa, none⟩ rs.length c (flat rs) rfl (flat_len rs) (HR.out.below R1.out.bel).flat (flat_one rs) (by unfold maxLen; omega) (by omega) R1.out.bel.size ?_
      intro v2 u2 ho2 hg2 hn2
      have R2 := Lib.hid (R1.out.grown rfl ho2 hg2 hn2)
      refine ⟨((Below.refl wd.heap.size _).grown hg2 R1.out.bel.size (fun j e => (R1.out.row.lt j e).1)).mono (by omega), _, Nat.le_refl _, ?_⟩
      clear ho2 hg2 hn2
      refine stg_one _ 3 4 (by kernel_rfl) (by rfl) (by kernel_rfl) (by rfl) ?_
      go_wp2_with fail
      have X3 := Lib.hid (show Below u2.heap.size u2 (u2.alloc (.cells #[] 3)) from (Below.refl _ _).alloc (Nat.le_refl _) _)
      refine ⟨X3.out.mono (by have := R2.out.bel.size; omega), _, Nat.le_refl _, ?_⟩
      have N3 := Lib.hid (QN.made (w := wd) (W := u2) R2.out.bel)
      have R3 := Lib.hid (R2.out.call X3.out)
      generalize u2.alloc (.cells #[] 3) = u3 at *
      refine stg_one _ 2 7 (by kernel_rfl) (by rfl) (by kernel_rfl) (by rfl) ?_
      refine wp_append_own _ _ _ 23 rfl wd.heap.size 3 j0 _ 1 8 Try.underlying23 hj hy0 hy1 hy2 rfl (by decide) _ 0 (List.map (Value.int .i64) []) rfl N3.out.row ⟨gb, ob, none⟩ hs.length d (hs.map (Value.int .i64)) rfl (by simp) (sli_flat (HI.out.below N3.out.bel)) (ints_one hs) (by unfold maxLen; omega) (by omega) N3.out.bel.size ?_
      intro v4 u4 ho4 hg4 hn4
      have N4 := Lib.hid (N3.out.grown rfl ho4 hg4 hn4)
      have R4 := Lib.hid (R3.out.other N3.out hg4)
      refine ⟨((Below.refl wd.heap.size _).grown hg4 N3.out.bel.size (fun j e => (N3.out.row.lt j e).1)).mono (by omega), _, Nat.le_refl _, ?_⟩
      clear ho4 hg4 hn4
      have R9 := Lib.hid R4.out
      have N9 := Lib.hid N4.out
      rw [List.nil_append] at R9 N9
      obtain ⟨gr, cr, e1, hgr, -, ar, hcr⟩ := own_routes R9.out.row R9.out.nn
      obtain ⟨gn, cn, e2, hgn, -, an, hcn⟩ := own_nodes N9.out.row N9.out.nn
      have L9 := Lib.hid (HL.out.below R9.out.bel HL.out.lt)
      have B9 := Lib.hid (HB.out.trans (R9.out.bel.mono HB.out.size))
      obtain ⟨z9, f0, f1, q0, q1⟩ := L9.out.two
      subst e1
      subst e2
      have RM := Lib.hid (own_room R9.out.row)
      have AR := Lib.hid ar
      have AN := Lib.hid an
      have hzr := ar.lt
      have hzn := an.lt
      clear ar an 
      refine stg_one _ 1 8 (by kernel_rfl) (by rfl) (by kernel_rfl) (by rfl) ?_
      go_wp2_with fail
      refine ⟨Below.refl _ _, _, Nat.le_refl _, ?_⟩
      refine stg_one _ 0 9 (by kernel_rfl) (by rfl) (by kernel_rfl) (by rfl) ?_
      go_wp2_with fail
      refine ⟨((Below.refl _ _).setCell (p := ⟨w.heap.size + 1, 0, none⟩) (Nat.le_refl _) _).setCell (p := ⟨w.heap.size + 1, 1, none⟩) (Nat.le_refl _) _, _, Nat.le_refl _, ?_⟩
      refine stg_end (by kernel_rfl) ?_
      go_wp2_with fail
      obtain ⟨b2, r0, r1⟩ := ret_two L9.out (.slice (some ⟨gr, 0, none⟩) rs.length cr) (.slice (some ⟨gn, 0, none⟩) hs.length cn)
      refine bodyPost_ret (v := tbV (some ⟨gr, 0, none⟩) rs.length cr (some ⟨gn, 0, none⟩) hs.length cn) (by simp [results, Try.results47, go_sem, r0, r1]) rfl ?_
      refine ⟨_, rfl, gr, cr, gn, cn, rfl, by omega, by omega, ?_, ?_, ?_, hcr, hcn, ?_⟩
      · exact (AR.out.far (p := ⟨w.heap.size + 1, 0, none⟩) (by dsimp only; omega) _).far (p := ⟨w.heap.size + 1, 1, none⟩) (by dsimp only; omega) _
      · exact (AN.out.setFar (p := ⟨w.heap.size + 1, 0, none⟩) (by dsimp only; omega) _).setFar (p := ⟨w.heap.size + 1, 1, none⟩) (by dsimp only; omega) _
      · exact (B9.out.setCell (p := ⟨w.heap.size + 1, 0, none⟩) (Nat.le_succ _) _).setCell (p := ⟨w.heap.size + 1, 1, none⟩) (Nat.le_succ _) _
      · exact (RM.out.far (p := ⟨w.heap.size + 1, 0, none⟩) (by dsimp only; omega) _).far (p := ⟨w.heap.size + 1, 1, none⟩) (by dsimp only; omega) _
    · go_wp2_with fail
      have X2 := Lib.hid (show Below u1.heap.size u1 (u1.alloc (.cells #[] 3)) from (Below.refl _ _).alloc (Nat.le_refl _) _)
      refine ⟨X2.out.mono (by have := R1.out.bel.size; omega), _, Nat.le_refl _, ?_⟩
      have N2 := Lib.hid (QN.made (w := wd) (W := u1) R1.out.bel)
      have R2 := Lib.hid (R1.out.call X2.out)
      generalize u1.alloc (.cells #[] 3) = u2 at *
      refine stg_one _ 3 3 (by kernel_rfl) (by rfl) (by kernel_rfl) (by rfl) ?_
      refine wp_append_own _ _ _ 28 rfl wd.heap.size 38 i0 _ 3 24 Try.underlying28 hi hz0 hz1 hz2 rfl (by decide) _ 0 (flat []) rfl R2.out.row ⟨ga, oa, none⟩ rs.length c (flat rs) rfl (flat_len rs) (HR.out.below R2.out.bel).flat (flat_one rs) (by unfold maxLen; omega) (by omega) R2.out.bel.size ?_
      intro v3 u3 ho3 hg3 hn3
      have R3 := Lib.hid (R2.out.grown rfl ho3 hg3 hn3)
      have N3 := Lib.hid (N2.out.other R2.out hg3)
      refine ⟨((Below.refl wd.heap.size _).grown hg3 R2.out.bel.size (fun j e => (R2.out.row.lt j e).1)).mono (by omega), _, Nat.le_refl _, ?_⟩
      clear ho3 hg3 hn3
      refine stg_one _ 2 7 (by kernel_rfl) (by rfl) (by kernel_rfl) (by rfl) ?_
      refine wp_append_own _ _ _ 23 rfl wd.heap.size 3 j0 _ 1 8 Try.underlying23 hj hy0 hy1 hy2 rfl (by decide) _ 0 (List.map (Value.int .i64) []) rfl N3.out.row ⟨gb, ob, none⟩ hs.length d (hs.map (Value.int .i64)) rfl (by simp) (sli_flat (HI.out.below N3.out.bel)) (ints_one hs) (by unfold maxLen; omega) (by omega) N3.out.bel.size ?_
      intro v4 u4 ho4 hg4 hn4
      have N4 := Lib.hid (N3.out.grown rfl ho4 hg4 hn4)
      have R4 := Lib.hid (R3.out.other N3.out hg4)
      refine ⟨((Below.refl wd.heap.size _).grown hg4 N3.out.bel.size (fun j e => (N3.out.row.lt j e).1)).mono (by omega), _, Nat.le_refl _, ?_⟩
      clear ho4 hg4 hn4
      have R9 := Lib.hid R4.out
      have N9 := Lib.hid N4.out
      rw [List.nil_append] at R9 N9
      obtain ⟨gr, cr, e1, hgr, -, ar, hcr⟩ := own_routes R9.out.row R9.out.nn
      obtain ⟨gn, cn, e2, hgn, -, an, hcn⟩ := own_nodes N9.out.row N9.out.nn
      have L9 := Lib.hid (HL.out.below R9.out.bel HL.out.lt)
      have B9 := Lib.hid (HB.out.trans (R9.out.bel.mono HB.out.size))
      obtain ⟨z9, f0, f1, q0, q1⟩ := L9.out.two
      subst e1
      subst e2
      have RM := Lib.hid (own_room R9.out.row)
      have AR := Lib.hid ar
      have AN := Lib.hid an
      have hzr := ar.lt
      have hzn := an.lt
      clear ar an 
      refine stg_one _ 1 8 (by kernel_rfl) (by rfl) (by kernel_rfl) (by rfl) ?_
      go_wp2_with fail
      refine ⟨Below.refl _ _, _, Nat.le_refl _, ?_⟩
      refine stg_one _ 0 9 (by kernel_rfl) (by rfl) (by kernel_rfl) (by rfl) ?_
      go_wp2_with fail
      refine ⟨((Below.refl _ _).setCell (p := ⟨w.heap.size + 1, 0, none⟩) (Nat.le_refl _) _).setCell (p := ⟨w.heap.size + 1, 1, none⟩) (Nat.le_refl _) _, _, Nat.le_refl _, ?_⟩
      refine stg_end (by kernel_rfl) ?_
      go_wp2_with fail
      obtain ⟨b2, r0, r1⟩ := ret_two L9.out (.slice (some ⟨gr, 0, none⟩) rs.length cr) (.slice (some ⟨gn, 0, none⟩) hs.length cn)
      refine bodyPost_ret (v := tbV (some ⟨gr, 0, none⟩) rs.length cr (some ⟨gn, 0, none⟩) hs.length cn) (by simp [results, Try.results47, go_sem, r0, r1]) rfl ?_
      refine ⟨_, rfl, gr, cr, gn, cn, rfl, by omega, by omega, ?_, ?_, ?_, hcr, hcn, ?_⟩
      · exact (AR.out.far (p := ⟨w.heap.size + 1, 0, none⟩) (by dsimp only; omega) _).far (p := ⟨w.heap.size + 1, 1, none⟩) (by dsimp only; omega) _
      · exact (AN.out.setFar (p := ⟨w.heap.size + 1, 0, none⟩) (by dsimp only; omega) _).setFar (p := ⟨w.heap.size + 1, 1, none⟩) (by dsimp only; omega) _
      · exact (B9.out.setCell (p := ⟨w.heap.size + 1, 0, none⟩) (Nat.le_succ _) _).setCell (p := ⟨w.heap.size + 1, 1, none⟩) (Nat.le_succ _) _
      · exact (RM.out.far (p := ⟨w.heap.size + 1, 0, none⟩) (by dsimp only; omega) _).far (p := ⟨w.heap.size + 1, 1, none⟩) (by dsimp only; omega) _
  · go_wp2_with fail
    have X1 := Lib.hid (show Below wd.heap.size wd (wd.alloc (.cells #[] 3)) from (Below.refl _ _).alloc (Nat.le_refl _) _)
    refine ⟨X1.out.mono (by have := (Below.refl wd.heap.size wd).size; omega), _, Nat.le_refl _, ?_⟩
    have N1 := Lib.hid (QN.made (w := wd) (W := wd) (Below.refl wd.heap.size wd))
    generalize wd.alloc (.cells #[] 3) = u1 at *
    refine stg_one _ 4 0 (by kernel_rfl) (by rfl) (by kernel_rfl) (by rfl) ?_
    go_wp2_with fail
    have X2 := Lib.hid (show Below u1.heap.size u1 (u1.alloc (.cells #[] 38)) from (Below.refl _ _).alloc (Nat.le_refl _) _)
    refine ⟨X2.out.mono (by have := N1.out.bel.size; omega), _, Nat.le_refl _, ?_⟩
    have R2 := Lib.hid (QT.made (w := wd) (W := u1) N1.out.bel)
    have N2 := Lib.hid (N1.out.call X2.out)
    generalize u1.alloc (.cells #[] 38) = u2 at *
    refine stg_one _ 3 3 (by kernel_rfl) (by rfl) (by kernel_rfl) (by rfl) ?_
    refine wp_append_own _ _ _ 28 rfl wd.heap.size 38 i0 _ 3 24 Try.underlying28 hi hz0 hz1 hz2 rfl (by decide) _ 0 (flat []) rfl R2.out.row ⟨ga, oa, none⟩ rs.length c (flat rs) rfl (flat_len rs) (HR.out.below R2.out.bel).flat (flat_one rs) (by unfold maxLen; omega) (by omega) R2.out.bel.size ?_
    intro v3 u3 ho3 hg3 hn3
    have R3 := Lib.hid (R2.out.grown rfl ho3 hg3 hn3)
    have N3 := Lib.hid (N2.out.other R2.out hg3)
    refine ⟨((Below.refl wd.heap.size _).grown hg3 R2.out.bel.size (fun j e => (R2.out.row.lt j e).1)).mono (by omega), _, Nat.le_refl _, ?_⟩
    clear ho3 hg3 hn3
    refine stg_one _ 2 7 (by kernel_rfl) (by rfl) (by kernel_rfl) (by rfl) ?_
    refine wp_append_own _ _ _ 23 rfl wd.heap.size 3 j0 _ 1 8 Try.underlying23 hj hy0 hy1 hy2 rfl (by decide) _ 0 (List.map (Value.int .i64) []) rfl N3.out.row ⟨gb, ob, none⟩ hs.length d (hs.map (Value.int .i64)) rfl (by simp) (sli_flat (HI.out.below N3.out.bel)) (ints_one hs) (by unfold maxLen; omega) (by omega) N3.out.bel.size ?_
    intro v4 u4 ho4 hg4 hn4
    have N4 := Lib.hid (N3.out.grown rfl ho4 hg4 hn4)
    have R4 := Lib.hid (R3.out.other N3.out hg4)
    refine ⟨((Below.refl wd.heap.size _).grown hg4 N3.out.bel.size (fun j e => (N3.out.row.lt j e).1)).mono (by omega), _, Nat.le_refl _, ?_⟩
    clear ho4 hg4 hn4
    have R9 := Lib.hid R4.out
    have N9 := Lib.hid N4.out
    rw [List.nil_append] at R9 N9
    obtain ⟨gr, cr, e1, hgr, -, ar, hcr⟩ := own_routes R9.out.row R9.out.nn
    obtain ⟨gn, cn, e2, hgn, -, an, hcn⟩ := own_nodes N9.out.row N9.out.nn
    have L9 := Lib.hid (HL.out.below R9.out.bel HL.out.lt)
    have B9 := Lib.hid (HB.out.trans (R9.out.bel.mono HB.out.size))
    obtain ⟨z9, f0, f1, q0, q1⟩ := L9.out.two
    subst e1
    subst e2
    have RM := Lib.hid (own_room R9.out.row)
    have AR := Lib.hid ar
    have AN := Lib.hid an
    have hzr := ar.lt
    have hzn := an.lt
    clear ar an 
    refine stg_one _ 1 8 (by kernel_rfl) (by rfl) (by kernel_rfl) (by rfl) ?_
    go_wp2_with fail
    refine ⟨Below.refl _ _, _, Nat.le_refl _, ?_⟩
    refine stg_one _ 0 9 (by kernel_rfl) (by rfl) (by kernel_rfl) (by rfl) ?_
    go_wp2_with fail
    refine ⟨((Below.refl _ _).setCell (p := ⟨w.heap.size + 1, 0, none⟩) (Nat.le_refl _) _).setCell (p := ⟨w.heap.size + 1, 1, none⟩) (Nat.le_refl _) _, _, Nat.le_refl _, ?_⟩
    refine stg_end (by kernel_rfl) ?_
    go_wp2_with fail
    obtain ⟨b2, r0, r1⟩ := ret_two L9.out (.slice (some ⟨gr, 0, none⟩) rs.length cr) (.slice (some ⟨gn, 0, none⟩) hs.length cn)
    refine bodyPost_ret (v := tbV (some ⟨gr, 0, none⟩) rs.length cr (some ⟨gn, 0, none⟩) hs.length cn) (by simp [results, Try.results47, go_sem, r0, r1]) rfl ?_
    refine ⟨_, rfl, gr, cr, gn, cn, rfl, by omega, by omega, ?_, ?_, ?_, hcr, hcn, ?_⟩
    · exact (AR.out.far (p := ⟨w.heap.size + 1, 0, none⟩) (by dsimp only; omega) _).far (p := ⟨w.heap.size + 1, 1, none⟩) (by dsimp only; omega) _
    · exact (AN.out.setFar (p := ⟨w.heap.size + 1, 0, none⟩) (by dsimp only; omega) _).setFar (p := ⟨w.heap.size + 1, 1, none⟩) (by dsimp only; omega) _
    · exact (B9.out.setCell (p := ⟨w.heap.size + 1, 0, none⟩) (Nat.le_succ _) _).setCell (p := ⟨w.heap.size + 1, 1, none⟩) (Nat.le_succ _) _
    · exact (RM.out.far (p := ⟨w.heap.size + 1, 0, none⟩) (by dsimp only; omega) _).far (p := ⟨w.heap.size + 1, 1, none⟩) (by dsimp only; omega) _

end Go.Proofs.Ytohflcbpjjnccab
