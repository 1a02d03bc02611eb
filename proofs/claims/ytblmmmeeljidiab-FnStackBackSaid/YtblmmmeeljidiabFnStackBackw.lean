/-
  The walk of FnStackBack over this seat.
-/
import Derived.Test.YtblmmmeeljidiabLw
namespace Go.Proofs.Ytblmmmeeljidiab
open Go.RowKit Go.Maps

set_option maxRecDepth 100000 in
set_option maxHeartbeats 1600000 in
theorem fnStackBack_walk (A : Option Addr) (len c : Nat) (f : Nat → Int) (w : World) (hlc : len ≤ c) (hc : c ≤ maxLen) (hB : Byt w w.heap.size A len f) :
   Calls Try.prog 10 #[.slice A len c] w fun e w' => e = .returned (.bool true) ∧ Below w.heap.size w w' := by
  have HB := Lib.hid hB
  clear hB
  by_cases hl : len ≤ 1048576
  · go_enter Try.func10, Try.ntmps10
    go_wp2_with fail
    refine (drawStackEnd_any A len c f w hlc hc HB.out).mono ?_
    rintro e w1 ⟨n, ls, A1, g1, c1, x, st, _, gx, cx, rfl, ⟨hn0, hn1, hls, hg1, ho1, hb1⟩, hx0, hx1, hs9, hok, hox, hgx, hcx, rfl, hgl⟩
    have L1 := Lib.hid (show LC w w1.heap.size n ls A1 g1 c1 (some ⟨gx, 0, none⟩) gx st (w1.alloc (.cells #[.int .i64 n, .slice A1 ls.length c1] 25)) from ⟨⟨Box.new w1 _ _, ho1.alloc _, hb1.alloc hb1.size _⟩, hox.alloc _⟩)
    clear ho1 hb1 HB hox hok
    generalize hG : w1.heap.size = G at *
    have CI := fun W (h1 : Sl W W.heap.size A1 ls) (h2 : Slb W W.heap.size (some ⟨gx, 0, none⟩) st) => stackEnd_impl n A1 ls c1 x (some ⟨gx, 0, none⟩) st cx W (by omega) (by omega) h1 h2
    have CS := fun W (h1 : Sl W W.heap.size A1 ls) (h2 : Slb W W.heap.size (some ⟨gx, 0, none⟩) st) => stackEnd_spec n A1 ls c1 x (some ⟨gx, 0, none⟩) st cx W (by omega) (by omega) (by omega) h1 h2
    cases ho : endI n ls x st with
    | none =>
      simp only [ho, stepV] at CI CS
      clear ho
      go_wp2_with fail
      refine (CI _ L1.out.sl L1.out.slb).mono ?_
      rintro e w2 ⟨rfl, hb2⟩
      have L2 := Lib.hid (L1.out.call hb2)
      clear hb2 L1
      clear hG
      obtain ⟨z2, c20, c21, -, -⟩ := L2.out.1.1.two
      go_wp2_with fail
      refine (CS _ L2.out.sl L2.out.slb).mono ?_
      rintro e w3 ⟨rfl, hb3⟩
      have L3 := Lib.hid (L2.out.call hb3)
      clear hb3 L2
      go_wp2_with fail
      go_ret
      exact ⟨rfl, L3.out.1.2.2⟩
    | some z =>
      simp only [ho, stepV] at CI CS
      have HO := Lib.hid ho
      clear ho
      go_wp2_with fail
      refine (CI _ L1.out.sl L1.out.slb).mono ?_
      rintro e w2 ⟨rfl, hb2⟩
      have L2 := Lib.hid (L1.out.call hb2)
      clear hb2 L1
      clear hG
      obtain ⟨z2, c20, c21, -, -⟩ := L2.out.1.1.two
      go_wp2_with fail
      refine (CS _ L2.out.sl L2.out.slb).mono ?_
      rintro e w3 ⟨rfl, hb3⟩
      have L3 := Lib.hid (L2.out.call hb3)
      clear hb3 L2
      clear z2 c20 c21
      obtain ⟨z3, c30, c31, -, -⟩ := L3.out.1.1.two
      by_cases hs0 : st.length = 0
      · have hs0' : ((st.length : Int) == 0) = true := by simp [hs0]
        have H0 := Lib.hid hs0
        clear hs0
        go_wp2_with fail
        go_ret
        exact ⟨ret_bool (by simp), L3.out.1.2.2⟩
      · have hs0' : ((st.length : Int) == 0) = false := by rw [beq_eq_false_iff_ne]; omega
        have hne : st ≠ [] := fun e => hs0 (by rw [e]; rfl)
        obtain ⟨i0, hi, hz0, hz10, hz20⟩ := info_parts infoLabel
        have HBK : Hid (∀ j p, p + j + 2 = st.length → st.dropLast.reverse[j]? = st[p]?) := Lib.hid (fun j p h => bk_at st h)
        have hbl : st.dropLast.reverse.length = st.length - 1 := by simp
        have HFA : Hid ((∀ l ∈ st, l.k = 1) → endI n ls z (st.dropLast.reverse ++ [⟨1, x⟩]) = some x ∧ costS n ls z (st.dropLast.reverse ++ [⟨1, x⟩]) = costS n ls x st) := Lib.hid (back_facts HO.out hne)
        have HDL : Hid (∀ l ∈ st, l ∈ st.dropLast.reverse ∨ some l = st[st.length - 1]?) := Lib.hid (fun l hl => by
          have h1 := List.dropLast_concat_getLast hne
          rw [← h1] at hl
          rcases List.mem_append.1 hl with hl | hl
          · exact .inl (List.mem_reverse.2 hl)
          · right
            simp at hl
            rw [hl, ← List.getLast?_eq_getElem?, List.getLast?_eq_some_getLast hne])
        generalize st.dropLast.reverse = bk at *
        have N4 := Box.new w3 40 #[]
        have R4 : World.ownsRow (w3.alloc (.cells #[] 40)) w3.heap.size 40 2 (.slice (some ⟨w3.heap.size, 0, none⟩) 0 0) (bk.take 0).length (flatB (bk.take 0)) := ⟨by simp [flatB], .inr ⟨w3.heap.size, 0, #[], rfl, Nat.le_refl _, N4, Nat.le_refl _, by omega, rfl, by simp [flatB]⟩⟩
        have RR := Lib.hid R4
        have B4 := Lib.hid ((Below.refl w3.heap.size w3).alloc (Nat.le_refl _) (.cells #[] 40))
        have HS0 := Lib.hid (Nat.pos_of_ne_zero hs0)
        clear N4 R4 hs0 hne
        go_wp2_with fail
        go_loopw [10, 11] (fun v i wr => ∃ (q j : Nat), q + j + 1 = st.length ∧ i = .int .i64 ((q : Int) - 1) ∧ wr.ownsRow w3.heap.size 40 2 v (bk.take j).length (flatB (bk.take j)) ∧ Below w3.heap.size w3 wr ∧ (∀ l ∈ bk.take j, l.k = 1)) (fun _ i _ => (intOf i + 1).toNat)
        case atStart => exact ⟨st.length - 1, 0, by have := HS0.out; omega, by have := HS0.out; congr 1; omega, RR.out, B4.out, by simp⟩
        case round =>
          obtain ⟨q, j, hqj, rfl, hrow, hb, hall⟩ := hrel
          have HR := Lib.hid hrow
          have HBW := Lib.hid hb
          have L6 := Lib.hid (L3.out.call hb)
          have HA := Lib.hid hall
          have hwz := hb.size
          have hjl : (bk.take j).length ≤ 9 := by simp; omega
          have HQJ := Lib.hid hqj
          clear hrow hb hall RR B4
          by_cases hq : 1 ≤ q
          · obtain ⟨p, rfl⟩ : ∃ p, q = p + 1 := ⟨q - 1, by omega⟩
            have hsub : ((p + 1 : Nat) : Int) - 1 = (p : Int) := by omega
            have hpl : p < st.length := by omega
            obtain ⟨l, hl⟩ : ∃ l, st[p]? = some l := ⟨_, List.getElem?_eq_getElem hpl⟩
            have hbj := HBK.out j p (by omega)
            rw [hl] at hbj
            have HTK : Hid (bk.take (j + 1) = bk.take j ++ [l]) := Lib.hid (by rw [List.take_add_one, hbj]; rfl)
            obtain ⟨-, zx, d0, d1⟩ := L6.out.lab hl
            have HL := Lib.hid hl
            obtain ⟨lk, la⟩ := l
            dsimp only at d0 d1
            rw [hsub]
            clear hl hbj hqj
            by_cases hk : lk = 1
            · subst hk
              go_wp2_with (at_builtin; refine wpList_append_own_at _ rfl _ _ 26 rfl w3.heap.size 40 i0 _ 2 16 Try.underlying26 hi hz0 hz10 hz20 rfl (by decide) _ (bk.take j).length _ rfl (HR.out.alloc _) ⟨wr.heap.size, 0, none⟩ 1 1 [.int .i64 1, .int .i64 la] rfl rfl (new2 _ _ _ _) (one2 _ _) (by unfold maxLen; omega) (by omega) (by simp; omega) ?_; intro v' w7 hown' hgrow _ hat; have R7 := Lib.hid hown'; have B7 := Lib.hid ((HBW.out.alloc hwz _).grown hgrow (by simp; omega) (fun j e => (HR.out.lt j e).1)); clear hown' hgrow hat)
              go_roundw
              case rel =>
                refine ⟨p, j + 1, by have := HQJ.out; omega, by go_num, ?_, B7.out, ?_⟩
                · rw [HTK.out, List.length_append, flatB_append]
                  exact R7.out
                · intro l hl
                  rw [HTK.out] at hl
                  rcases List.mem_append.1 hl with hl | hl
                  · exact HA.out l hl
                  · simp at hl
                    subst hl
                    rfl
              case measure => (simp [intOf]; try omega)
            · have hk' : (lk != 1) = true := by simp [hk]
              have HK := Lib.hid hk
              clear hk
              go_wp2_with fail
              go_ret
              exact ⟨rfl, L6.out.1.2.2⟩
          · obtain rfl : q = 0 := by omega
            have hjs : j = bk.length := by omega
            have HTA : Hid (bk.take j = bk) := Lib.hid (by rw [hjs, List.take_length])
            obtain ⟨p, hp⟩ : ∃ p, st.length = p + 1 := ⟨st.length - 1, by omega⟩
            have hsub : (st.length : Int) - 1 = (p : Int) := by omega
            have hwp : IntKind.i64.wrap (p : Int) = (p : Int) := IntWalk.i64_in _ (by omega)
            have hpl : p < st.length := by omega
            obtain ⟨l, hl⟩ : ∃ l, st[p]? = some l := ⟨_, List.getElem?_eq_getElem hpl⟩
            obtain ⟨-, zx, d0, d1⟩ := L6.out.lab hl
            have HL : Hid (st[st.length - 1]? = some l) := Lib.hid (by rw [hp, Nat.add_sub_cancel]; exact hl)
            have HP := Lib.hid hp
            have HJS := Lib.hid hjs
            rw [HTA.out] at HR HA
            have hbk8 : bk.length ≤ 8 := by omega
            obtain ⟨lk, la⟩ := l
            dsimp only at d0 d1
            clear hl hp hjs hqj hq HQJ hbl
            by_cases hk : lk = 1
            · subst hk
              have hall : ∀ y ∈ st, y.k = 1 := fun y hy => by
                rcases HDL.out y hy with h | h
                · exact HA.out y h
                · rw [HL.out] at h
                  cases h
                  rfl
              obtain ⟨hf1, hf2⟩ := HFA.out hall
              have hfl : (bk ++ [(⟨1, x⟩ : Lb)]).length ≤ 9 := by simp; omega
              have HROW : Hid (∀ (w7 : World) (v' : Value), w7.ownsRow w3.heap.size 40 2 v' (bk.length + 1) (flatB bk ++ [.int .i64 1, .int .i64 x]) → w3.heap.size ≤ w7.heap.size → ∃ A g c, v' = .slice A (bk ++ [(⟨1, x⟩ : Lb)]).length c ∧ Ownb w7 A g (bk ++ [(⟨1, x⟩ : Lb)])) := Lib.hid (fun w7 v' h hz => by
                obtain ⟨A, g, c, e, _, _, ho, _⟩ := own_sliceb (ls := bk ++ [(⟨1, x⟩ : Lb)]) (n := bk.length + 1) (by rw [flatB_append]; exact h) hz
                exact ⟨A, g, c, e, ho⟩)
              generalize bk ++ [(⟨1, x⟩ : Lb)] = bx at *
              have CE := fun (B' : Option Addr) (cb' : Nat) W (h1 : Sl W W.heap.size A1 ls) (h2 : Slb W W.heap.size B' bx) => stackEnd_impl n A1 ls c1 z B' bx cb' W (by omega) (by omega) h1 h2
              have CC := fun (B' : Option Addr) (cb' : Nat) W (h1 : Sl W W.heap.size A1 ls) (h2 : Slb W W.heap.size B' bx) => stackCost_impl n A1 ls c1 z B' bx cb' W (by omega) (by omega) h1 h2
              have CD := fun (B' : Option Addr) (cb' : Nat) W (h1 : Sl W W.heap.size A1 ls) (h2 : Slb W W.heap.size B' st) => stackCost_impl n A1 ls c1 x B' st cb' W (by omega) (by omega) h1 h2
              simp only [hf1, stepV] at CE
              rw [hf2] at CC
              generalize costS n ls x st = cq at *
              clear hf1 hf2 hall HFA HDL HA HBK
              go_wp2_with (at_builtin; refine wpList_append_own_at _ rfl _ _ 26 rfl w3.heap.size 40 i0 _ 2 16 Try.underlying26 hi hz0 hz10 hz20 rfl (by decide) _ bk.length _ rfl (HR.out.alloc _) ⟨wr.heap.size, 0, none⟩ 1 1 [.int .i64 1, .int .i64 x] rfl rfl (new2 _ _ _ _) (one2 _ _) (by unfold maxLen; omega) (by omega) (by simp; omega) ?_; intro v7 w7 hown' hgrow _ hat; have B7 := Lib.hid ((HBW.out.alloc hwz _).grown hgrow (by simp; omega) (fun j e => (HR.out.lt j e).1)); obtain ⟨A7, g7, c7, rfl, ho7⟩ := HROW.out w7 v7 hown' B7.out.size; have O7 := Lib.hid ho7; have L7 := Lib.hid (L3.out.call B7.out); obtain ⟨z7, c70, c71, -, -⟩ := L7.out.1.1.two; clear hown' hgrow hat ho7 d0 d1 zx HROW)
              refine (CE A7 c7 w7 L7.out.sl O7.out.slb).mono ?_
              rintro e w8 ⟨rfl, hb8⟩
              have L8 := Lib.hid (L7.out.call hb8)
              have O8 := Lib.hid (O7.out.below hb8)
              clear hb8 L7 O7 z7 c70 c71 CE
              obtain ⟨z8, c80, c81, -, -⟩ := L8.out.1.1.two
              have PD := Lib.hid L8.out.drew
              go_wp2_with fail
              have hX := fun (x : Ext w8.drew) (bb o : Nat) (h : bb < w8.heap.size) => (show x.w.cell? ⟨bb, o, none⟩ = w8.cell? ⟨bb, o, none⟩ from x.cell bb o h)
              refine wp_region_staged 18 (by kernel_rfl) (by kernel_rfl) ?_
              refine stage_seg _ 5 [0, 1, 2, 3, 4, 5, 6, 7, 8, 9, 11, 12, 13] (by kernel_rfl) (by kernel_rfl) (by kernel_rfl) (by kernel_rfl) ?_
              (simp only [List.map_cons, List.map_nil, List.getElem?_cons_zero, List.getElem?_cons_succ, Option.getD_some]); (repeat (go_big_quiet_step (fail))); (refine wpQuiet_nil ?_)
              refine stage_call _ 4 10 (by kernel_rfl) (by rfl) (by kernel_rfl) (by rfl) ?_
              go_wp2_with fail
              refine (CC A7 c7 w8.drew PD.out.sl (show Ownb w8.drew A7 g7 bx from O8.out).slb).mono ?_
              rintro e w9 ⟨rfl, hb9⟩
              refine ⟨hb9, ?_⟩
              have L9 := Lib.hid (PD.out.call hb9)
              clear hb9 hX PD O8 c80 c81 z8 L8
              refine stage_call _ 3 14 (by kernel_rfl) (by rfl) (by kernel_rfl) (by rfl) ?_
              go_wp2_with fail
              refine (CD _ cx w9 L9.out.sl L9.out.slb).mono ?_
              rintro e w10 ⟨rfl, hb10⟩
              refine ⟨hb10, ?_⟩
              have L10 := Lib.hid (L9.out.call hb10)
              clear hb10 L9
              have hX10 := fun (x : Ext w10) (bb o : Nat) (h : bb < w10.heap.size) => x.cell bb o h
              refine stage_seg _ 0 [15, 16, 17] (by kernel_rfl) (by kernel_rfl) (by kernel_rfl) (by kernel_rfl) ?_
              (simp only [List.map_cons, List.map_nil, List.getElem?_cons_zero, List.getElem?_cons_succ, Option.getD_some]); (repeat (go_big_quiet_step (fail))); (refine wpQuiet_nil ?_)
              refine stage_end (by kernel_rfl) ?_
              clear hX10
              go_wp2_with fail
              go_ret
              exact ⟨ret_bool (by simp), L10.out.1.2.2⟩
            · have hk' : (lk != 1) = true := by simp [hk]
              have HK := Lib.hid hk
              clear hk
              go_wp2_with fail
              go_ret
              exact ⟨rfl, L6.out.1.2.2⟩
  · go_enter Try.func10, Try.ntmps10
    go_wp2
    go_ret
    exact ⟨rfl, by (repeat (first | exact Below.refl _ _ | (refine Below.alloc ?_ (by first | exact Nat.le_refl _ | omega | (simp; done) | (simp; omega)) _) | (refine Below.setCell ?_ (by first | exact Nat.le_refl _ | omega | (simp; done) | (simp; omega)) _) | exact Below.drew ‹_›))⟩

end Go.Proofs.Ytblmmmeeljidiab
