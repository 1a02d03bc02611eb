/-
  The walk of FnStackRepeat over this seat.
-/
import Derived.Test.YtblmmmeeljidiaaLc
namespace Go.Proofs.Ytblmmmeeljidiaa
open Go.RowKit Go.Maps

theorem repeat_facts {n : Int} {ls : List Lk} {x z : Int} {st : List Lb} (h : endI n ls x st = some z) (h8 : st.length ≠ 8) : st.length ≤ 7 ∧ pathS n ls x (st ++ [⟨1, z⟩]) = pathS n ls x st ∧ costS n ls x (st ++ [⟨1, z⟩]) = costS n ls x st := by
  obtain ⟨m, z', rfl, hg, hs, hl8, he, hi⟩ := endI_inv (by rw [h]; rfl)
  rw [hi] at h; cases h
  have hz := endO_node hg hs he
  have hl : legP (m : Int) ls z ⟨1, z⟩ = [z] := by
    unfold legP
    rw [if_pos rfl]
    unfold pathI
    rw [Int.toNat_natCast]
    exact pathL_self hg hz
  have hst : stepO (m : Int) ls z ⟨1, z⟩ = some z := by unfold stepO; rw [hl]; rfl
  have he2 : endO (m : Int) ls x (st ++ [⟨1, z⟩]) = some z := by
    rw [endO_append, he]
    show endO (m : Int) ls z [⟨1, z⟩] = some z
    rw [endO_one, hst]
  have hb : stB (m : Int) ls x (st ++ [⟨1, z⟩]) = true := by
    unfold stB
    rw [vwB_one hg hs]
    simp
    omega
  have hi2 : endI (m : Int) ls x (st ++ [⟨1, z⟩]) = some z := by unfold endI; rw [if_pos hb, he2]
  have hp : pathS (m : Int) ls x (st ++ [⟨1, z⟩]) = pathS (m : Int) ls x st := by
    unfold pathS
    rw [hi2, hi, pthO_append _ he]
    simp [pthO, hst, hl]
  refine ⟨by omega, hp, ?_⟩
  rw [costS_some (by rw [hi2]; rfl), costS_some (by rw [hi]; rfl), hp]

set_option maxRecDepth 100000 in
set_option maxHeartbeats 1600000 in
theorem fnStackRepeat_walk (A : Option Addr) (len c : Nat) (f : Nat → Int) (w : World) (hlc : len ≤ c) (hc : c ≤ maxLen) (hB : Byt w w.heap.size A len f) :
   Calls Try.prog 11 #[.slice A len c] w fun e w' => e = .returned (.bool true) ∧ Below w.heap.size w w' := by
  have HB := Lib.hid hB
  clear hB
  by_cases hl : len ≤ 1048576
  · go_enter Try.func11, Try.ntmps11
    go_wp2_with fail
    refine (drawStackEnd_any A len c f w hlc hc HB.out).mono ?_
    rintro e w1 ⟨n, ls, A1, g1, c1, x, st, _, gx, cx, rfl, ⟨hn0, hn1, hls, hg1, ho1, hb1⟩, hx0, hx1, hs9, hok, hox, hgx, hcx, rfl, hgl⟩
    have L1 := Lib.hid (show LC w w1.heap.size n ls A1 g1 c1 (some ⟨gx, 0, none⟩) gx st (w1.alloc (.cells #[.int .i64 n, .slice A1 ls.length c1] 32)) from ⟨⟨Box.new w1 _ _, ho1.alloc _, hb1.alloc hb1.size _⟩, hox.alloc _⟩)
    clear ho1 hb1 HB hox hok
    generalize hG : w1.heap.size = G at *
    have CI := fun W (h1 : Sl W W.heap.size A1 ls) (h2 : Slb W W.heap.size (some ⟨gx, 0, none⟩) st) => stackEnd_impl n A1 ls c1 x (some ⟨gx, 0, none⟩) st cx W (by omega) (by omega) h1 h2
    have CS := fun W (h1 : Sl W W.heap.size A1 ls) (h2 : Slb W W.heap.size (some ⟨gx, 0, none⟩) st) => stackEnd_spec n A1 ls c1 x (some ⟨gx, 0, none⟩) st cx W (by omega) (by omega) (by omega) h1 h2
    cases ho : endI n ls x st with
    | none =>
      simp only [ho, stepV] at CI CS
      clear ho
      go_wp2_with fail
      refine (CI _ L1.out.sl L1.out.slb).mono ?_
      rintro e w2 ⟨rfl, hb2⟩
      have L2 := Lib.hid (L1.out.call hb2)
      clear hb2 L1
      clear hG
      obtain ⟨z2, c20, c21, -, -⟩ := L2.out.1.1.two
      go_wp2_with fail
      refine (CS _ L2.out.sl L2.out.slb).mono ?_
      rintro e w3 ⟨rfl, hb3⟩
      have L3 := Lib.hid (L2.out.call hb3)
      clear hb3 L2
      go_wp2_with fail
      go_ret
      exact ⟨rfl, L3.out.1.2.2⟩
    | some z =>
      simp only [ho, stepV] at CI CS
      have HO := Lib.hid ho
      clear ho
      go_wp2_with fail
      refine (CI _ L1.out.sl L1.out.slb).mono ?_
      rintro e w2 ⟨rfl, hb2⟩
      have L2 := Lib.hid (L1.out.call hb2)
      clear hb2 L1
      clear hG
      obtain ⟨z2, c20, c21, -, -⟩ := L2.out.1.1.two
      go_wp2_with fail
      refine (CS _ L2.out.sl L2.out.slb).mono ?_
      rintro e w3 ⟨rfl, hb3⟩
      have L3 := Lib.hid (L2.out.call hb3)
      clear hb3 L2
      clear z2 c20 c21
      obtain ⟨z3, c30, c31, -, -⟩ := L3.out.1.1.two
      by_cases h8 : st.length = 8
      · have h8' : ((st.length : Int) == 8) = true := by simp [h8]
        have H8 := Lib.hid h8
        clear h8
        go_wp2_with fail
        go_ret
        exact ⟨ret_bool (by simp), L3.out.1.2.2⟩
      · have h8' : ((st.length : Int) == 8) = false := by rw [beq_eq_false_iff_ne]; omega
        obtain ⟨h7, hp, hcs⟩ := repeat_facts HO.out h8
        have HP := Lib.hid hp
        have HCC := Lib.hid hcs
        have hpl : (pathS n ls x st).length ≤ 57 := pathS_len n ls x st
        obtain ⟨i0, hi, hz0, hz10, hz20⟩ := info_parts infoLabel
        have hfl := flatB_len st
        have hzx := L3.out.1.1.lt
        have HB3 := Lib.hid ((Below.refl w3.heap.size w3).alloc (Nat.le_refl _) (.cells #[] 53))
        have hNW : Hid (∀ i u, (flatB st)[i]? = some u → (w3.alloc (.cells #[] 53)).cell? ((⟨gx, 0, none⟩ : Addr).add i) = some u) := Lib.hid (L3.out.slb.grow HB3.out).flat
        have NA := Box.new w3 53 #[]
        have NR0 : World.ownsRow (w3.alloc (.cells #[] 53)) w3.heap.size 53 2 (.slice (some ⟨w3.heap.size, 0, none⟩) 0 0) 0 [] := ⟨by simp, .inr ⟨w3.heap.size, 0, #[], rfl, Nat.le_refl _, NA, Nat.le_refl _, by omega, rfl, by simp⟩⟩
        have NR := Lib.hid NR0
        have HST0 : ∀ (w5 : World) (v5 : Value), w5.ownsRow w3.heap.size 53 2 v5 (st.length + 1) (flatB st ++ [.int .i64 1, .int .i64 z]) → w3.heap.size ≤ w5.heap.size → ∃ A g c, v5 = .slice A (st ++ [(⟨1, z⟩ : Lb)]).length c ∧ Ownb w5 A g (st ++ [(⟨1, z⟩ : Lb)]) := fun w5 v5 h hz => by
          obtain ⟨A, g, c, e, _, _, ho, _⟩ := own_sliceb (ls := st ++ [(⟨1, z⟩ : Lb)]) (n := st.length + 1) (by rw [flatB_append]; exact h) hz
          exact ⟨A, g, c, e, ho⟩
        have HST := Lib.hid HST0
        have hl8 : (st ++ [(⟨1, z⟩ : Lb)]).length ≤ 8 := by simp; omega
        clear hp hcs h8 NA NR0 HST0
        generalize hst' : st ++ [(⟨1, z⟩ : Lb)] = st' at *
        clear hst'
        go_wp2_with (first
          | (at_builtin; refine wpList_append_own_at _ rfl _ _ 34 rfl w3.heap.size 53 i0 _ 2 16 Try.underlying34 hi hz0 hz10 hz20 rfl (by decide) _ 0 [] rfl NR.out ⟨gx, 0, none⟩ st.length cx (flatB st) rfl hfl hNW.out (flatB_one st) (by unfold maxLen; omega) (by omega) (by simp) ?_; intro v4 w4 hown4 hgrow4 _ _; rw [Nat.zero_add, List.nil_append] at hown4; have HO4 := Lib.hid hown4; have HB4 := Lib.hid (HB3.out.grown hgrow4 (by simp) (fun j e => (NR.out.lt j e).1)); have hz4 := HB4.out.size; clear hown4 hgrow4 NR hNW)
          | (at_builtin; refine wpList_append_own_at _ rfl _ _ 34 rfl w3.heap.size 53 i0 _ 2 16 Try.underlying34 hi hz0 hz10 hz20 rfl (by decide) _ st.length (flatB st) rfl (HO4.out.alloc _) ⟨w4.heap.size, 0, none⟩ 1 1 [.int .i64 1, .int .i64 z] rfl rfl (new2 _ _ _ _) (one2 _ _) (by unfold maxLen; omega) (by omega) (by simp; omega) ?_; intro v5 w5 hown5 hgrow5 _ _; have HO5 := Lib.hid hown5; have HB5 := Lib.hid ((HB4.out.alloc hz4 _).grown hgrow5 (by simp; omega) (fun j e => (HO4.out.lt j e).1)); have L5 := Lib.hid (L3.out.call HB5.out); clear hown5 hgrow5 HO4 HB4))
        obtain ⟨A5, g5, c5, rfl, ho5⟩ := HST.out w5 v5 HO5.out HB5.out.size
        have O5 := Lib.hid ho5
        have PD := Lib.hid L5.out.drew
        clear z3 c30 c31 HST HO5 HB5 HB3 ho5 hzx L3
        obtain ⟨z5, c50, c51, -, -⟩ := L5.out.1.1.two
        have CP := fun (B' : Option Addr) (cb' : Nat) W (h1 : Sl W W.heap.size A1 ls) (h2 : Slb W W.heap.size B' st') => stackPath_impl n A1 ls c1 x B' st' cb' W (by omega) (by omega) h1 h2
        have CQ := fun (B' : Option Addr) (cb' : Nat) W (h1 : Sl W W.heap.size A1 ls) (h2 : Slb W W.heap.size B' st) => stackPath_impl n A1 ls c1 x B' st cb' W (by omega) (by omega) h1 h2
        have CC := fun (B' : Option Addr) (cb' : Nat) W (h1 : Sl W W.heap.size A1 ls) (h2 : Slb W W.heap.size B' st') => stackCost_impl n A1 ls c1 x B' st' cb' W (by omega) (by omega) h1 h2
        have CD := fun (B' : Option Addr) (cb' : Nat) W (h1 : Sl W W.heap.size A1 ls) (h2 : Slb W W.heap.size B' st) => stackCost_impl n A1 ls c1 x B' st cb' W (by omega) (by omega) h1 h2
        rw [HP.out] at CP
        rw [HCC.out] at CC
        generalize pathS n ls x st = xs at *
        generalize costS n ls x st = cq at *
        clear HP HCC
        go_wp2_with fail
        have hX := fun (x : Ext w5.drew) (bb o : Nat) (h : bb < w5.heap.size) => (show x.w.cell? ⟨bb, o, none⟩ = w5.cell? ⟨bb, o, none⟩ from x.cell bb o h)
        refine wp_region_staged 21 (by kernel_rfl) (by kernel_rfl) ?_
        refine stage_seg _ 15 [0, 1, 2, 4, 5, 6] (by kernel_rfl) (by kernel_rfl) (by kernel_rfl) (by kernel_rfl) ?_
        (simp only [List.map_cons, List.map_nil, List.getElem?_cons_zero, List.getElem?_cons_succ, Option.getD_some]); (repeat (go_big_quiet_step (fail))); (refine wpQuiet_nil ?_)
        refine stage_call _ 14 3 (by kernel_rfl) (by rfl) (by kernel_rfl) (by rfl) ?_
        go_wp2_with fail
        refine (CP A5 c5 w5.drew PD.out.sl (show Ownb w5.drew A5 g5 st' from O5.out).slb).mono ?_
        rintro e w6 ⟨A6, g6, c6, rfl, hg6, ho6, hb6, -⟩
        refine ⟨hb6, ?_⟩
        have L6 := Lib.hid (PD.out.call hb6)
        have O6 := Lib.hid (Ownb.below (w := w5.drew) O5.out hb6)
        have P6 := Lib.hid ho6
        clear hb6 ho6 hX c50 c51 z5 PD O5 L5
        refine stage_call _ 13 7 (by kernel_rfl) (by rfl) (by kernel_rfl) (by rfl) ?_
        go_wp2_with fail
        refine (CQ _ cx w6 L6.out.sl L6.out.slb).mono ?_
        rintro e w7 ⟨A7, g7, c7, rfl, hg7, ho7, hb7, -⟩
        refine ⟨hb7, ?_⟩
        have L7 := Lib.hid (L6.out.call hb7)
        have O7 := Lib.hid (O6.out.below hb7)
        have P7 := Lib.hid (P6.out.below hb7)
        have Q7 := Lib.hid ho7
        clear hb7 ho7 O6 L6 P6
        refine stage_call _ 12 8 (by kernel_rfl) (by rfl) (by kernel_rfl) (by rfl) ?_
        go_wp2_with fail
        refine (sameInts_same A6 A7 xs c6 c7 w7 (by omega) P7.out.sli Q7.out.sli).mono ?_
        rintro e w8 ⟨rfl, hb8⟩
        refine ⟨hb8, ?_⟩
        have L8 := Lib.hid (L7.out.call hb8)
        have O8 := Lib.hid (O7.out.below hb8)
        obtain ⟨z8, c80, c81, -, -⟩ := L8.out.1.1.two
        clear hb8 O7 L7 P7 Q7
        have hX8 := fun (x : Ext w8) (bb o : Nat) (h : bb < w8.heap.size) => x.cell bb o h
        refine stage_seg _ 5 [9, 10, 11, 12, 14, 15, 16] (by kernel_rfl) (by kernel_rfl) (by kernel_rfl) (by kernel_rfl) ?_
        (simp only [List.map_cons, List.map_nil, List.getElem?_cons_zero, List.getElem?_cons_succ, Option.getD_some]); (repeat (go_big_quiet_step (fail))); (refine wpQuiet_nil ?_)
        refine stage_call _ 4 13 (by kernel_rfl) (by rfl) (by kernel_rfl) (by rfl) ?_
        go_wp2_with fail
        refine (CC A5 c5 w8 L8.out.sl O8.out.slb).mono ?_
        rintro e w9 ⟨rfl, hb9⟩
        refine ⟨hb9, ?_⟩
        have L9 := Lib.hid (L8.out.call hb9)
        clear hb9 hX8 c80 c81 z8 L8 O8
        refine stage_call _ 3 17 (by kernel_rfl) (by rfl) (by kernel_rfl) (by rfl) ?_
        go_wp2_with fail
        refine (CD _ cx w9 L9.out.sl L9.out.slb).mono ?_
        rintro e w10 ⟨rfl, hb10⟩
        refine ⟨hb10, ?_⟩
        have L10 := Lib.hid (L9.out.call hb10)
        clear hb10 L9
        have hX10 := fun (x : Ext w10) (bb o : Nat) (h : bb < w10.heap.size) => x.cell bb o h
        refine stage_seg _ 0 [18, 19, 20] (by kernel_rfl) (by kernel_rfl) (by kernel_rfl) (by kernel_rfl) ?_
        (simp only [List.map_cons, List.map_nil, List.getElem?_cons_zero, List.getElem?_cons_succ, Option.getD_some]); (repeat (go_big_quiet_step (fail))); (refine wpQuiet_nil ?_)
        refine stage_end (by kernel_rfl) ?_
        clear hX10
        go_wp2_with fail
        go_ret
        exact ⟨ret_bool (by simp), L10.out.1.2.2⟩
  · go_enter Try.func11, Try.ntmps11
    go_wp2
    go_ret
    exact ⟨rfl, by (repeat (first | exact Below.refl _ _ | (refine Below.alloc ?_ (by first | exact Nat.le_refl _ | omega | (simp; done) | (simp; omega)) _) | (refine Below.setCell ?_ (by first | exact Nat.le_refl _ | omega | (simp; done) | (simp; omega)) _) | exact Below.drew ‹_›))⟩

end Go.Proofs.Ytblmmmeeljidiaa
