/-
  The walk of FnStackWays over this seat.
-/
import Derived.Test.YtblmmmeeljidiabLw
namespace Go.Proofs.Ytblmmmeeljidiab
open Go.RowKit Go.Maps

set_option maxRecDepth 100000 in
set_option maxHeartbeats 1600000 in
theorem fnStackWays_walk (A : Option Addr) (len c : Nat) (f : Nat → Int) (w : World) (hlc : len ≤ c) (hc : c ≤ maxLen) (hB : Byt w w.heap.size A len f) :
   Calls Try.prog 11 #[.slice A len c] w fun e w' => e = .returned (.bool true) ∧ Below w.heap.size w w' := by
  have HB := Lib.hid hB
  clear hB
  by_cases hl : len ≤ 1048576
  · go_enter Try.func11, Try.ntmps11
    go_wp2_with fail
    refine (drawStackUnique_any A len c f w hlc hc HB.out).mono ?_
    rintro e w1 ⟨n, ls, A1, g1, c1, x, st, _, gx, cx, rfl, ⟨hn0, hn1, hls, hg1, ho1, hb1⟩, hx0, hx1, hs9, hok, hox, hgx, hcx, rfl, hgl⟩
    have L1 := Lib.hid (show LC w w1.heap.size n ls A1 g1 c1 (some ⟨gx, 0, none⟩) gx st (w1.alloc (.cells #[.int .i64 n, .slice A1 ls.length c1] 25)) from ⟨⟨Box.new w1 _ _, ho1.alloc _, hb1.alloc hb1.size _⟩, hox.alloc _⟩)
    clear ho1 hb1 HB hox hok
    generalize hG : w1.heap.size = G at *
    have CI := fun W (h1 : Sl W W.heap.size A1 ls) (h2 : Slb W W.heap.size (some ⟨gx, 0, none⟩) st) => stackUnique_impl n A1 ls c1 x (some ⟨gx, 0, none⟩) st cx W (by omega) (by omega) h1 h2
    have CS := fun W (h1 : Sl W W.heap.size A1 ls) (h2 : Slb W W.heap.size (some ⟨gx, 0, none⟩) st) => stackUnique_spec n A1 ls c1 x (some ⟨gx, 0, none⟩) st cx W (by omega) (by omega) (by omega) h1 h2
    cases hu : uniqS n ls x st with
    | true =>
      rw [hu] at CI CS
      clear hu
      go_wp2_with fail
      refine (CI _ L1.out.sl L1.out.slb).mono ?_
      rintro e w2 ⟨rfl, hb2⟩
      have L2 := Lib.hid (L1.out.call hb2)
      clear hb2 L1
      clear hG
      obtain ⟨z2, c20, c21, -, -⟩ := L2.out.1.1.two
      go_wp2_with fail
      refine (CS _ L2.out.sl L2.out.slb).mono ?_
      rintro e w3 ⟨rfl, hb3⟩
      have L3 := Lib.hid (L2.out.call hb3)
      clear hb3 L2
      go_wp2_with fail
      go_ret
      exact ⟨rfl, L3.out.1.2.2⟩
    | false =>
      rw [hu] at CI CS
      have HU := Lib.hid hu
      clear hu
      have CE1 := fun (u : Int) (l : Lb) (B' : Option Addr) (cb' : Nat) W (h1 : Sl W W.heap.size A1 ls) (h2 : Slb W W.heap.size B' [l]) => stackEnd_impl n A1 ls c1 u B' [l] cb' W (by omega) (by simp) h1 h2
      have CE := fun W (h1 : Sl W W.heap.size A1 ls) (h2 : Slb W W.heap.size (some ⟨gx, 0, none⟩) st) => stackEnd_impl n A1 ls c1 x (some ⟨gx, 0, none⟩) st cx W (by omega) (by omega) h1 h2
      go_wp2_with fail
      refine (CI _ L1.out.sl L1.out.slb).mono ?_
      rintro e w2 ⟨rfl, hb2⟩
      have L2 := Lib.hid (L1.out.call hb2)
      clear hb2 L1
      clear hG
      obtain ⟨z2, c20, c21, -, -⟩ := L2.out.1.1.two
      go_wp2_with fail
      refine (CS _ L2.out.sl L2.out.slb).mono ?_
      rintro e w3 ⟨rfl, hb3⟩
      have L3 := Lib.hid (L2.out.call hb3)
      clear hb3 L2
      clear z2 c20 c21
      have HSL : Hid (∀ (W : World) (k : Nat) (l : Lb), st[k]? = some l → Slb W W.heap.size (some ⟨gx, 0, none⟩) st → Slb W W.heap.size (some ⟨gx, k * 2, none⟩) [l]) := Lib.hid (fun W k l hl h => by
        have h1 := (h.drop k).take 1
        have h2 : (st.drop k).take 1 = [l] := by
          have hk := (List.getElem?_eq_some_iff.1 hl).1
          rw [List.drop_eq_getElem_cons hk]
          have := (List.getElem?_eq_some_iff.1 hl).2
          simp [this]
        rw [h2, Nat.zero_add] at h1
        exact h1)
      cases hv : vwB n ls [x] with
      | false =>
        have HNO : Hid (∀ l, endI n ls x l = none) := Lib.hid (fun l => endI_invalid hv l)
        clear hv
        go_wp2_with fail
        go_loopw [8, 9] (fun q i wr => q = .int .i64 x ∧ i = .int .i64 0 ∧ LC w G n ls A1 g1 c1 (some ⟨gx, 0, none⟩) gx st wr) (fun _ _ _ => 0)
        case atStart => exact ⟨rfl, rfl, L3.out⟩
        case round =>
          obtain ⟨rfl, rfl, hL⟩ := hrel
          have L6 := Lib.hid hL
          clear hL L3
          obtain ⟨z6, c60, c61, -, -⟩ := L6.out.1.1.two
          by_cases hlt : 0 < st.length
          · obtain ⟨l, hl⟩ : ∃ l, st[0]? = some l := ⟨_, List.getElem?_eq_getElem hlt⟩
            have C1 := fun W (h1 : Sl W W.heap.size A1 ls) => CE1 x l (some ⟨gx, 0, none⟩) cx W h1
            have hno := HNO.out [l]
            simp only [hno, stepV] at C1
            have HLL := Lib.hid (HSL.out wr 0 l hl L6.out.slb)
            have HLD : Hid (Slb wr.drew wr.drew.heap.size (some ⟨gx, 0, none⟩) [l]) := Lib.hid (by simpa using HSL.out wr.drew 0 l hl L6.out.drew.slb)
            replace C1 := fun (W : World) (hW : W = wr.drew) (h1 : Sl W W.heap.size A1 ls) => C1 W h1 (by rw [hW]; exact HLD.out)
            replace C1 := C1 wr.drew rfl
            have hcx0 : 1 ≤ cx := by omega
            clear hl hno
            go_wp2_with fail
            have hX := fun (x : Ext wr.drew) (bb o : Nat) (h : bb < wr.heap.size) => (show x.w.cell? ⟨bb, o, none⟩ = wr.cell? ⟨bb, o, none⟩ from x.cell bb o h)
            refine wp_region_staged 13 (by kernel_rfl) (by kernel_rfl) ?_
            refine stage_seg _ 6 [0, 1, 2, 3, 4, 5, 6] (by kernel_rfl) (by kernel_rfl) (by kernel_rfl) (by kernel_rfl) ?_
            (simp only [List.map_cons, List.map_nil, List.getElem?_cons_zero, List.getElem?_cons_succ, Option.getD_some]); (repeat (go_big_quiet_step (fail))); (refine wpQuiet_nil ?_)
            refine stage_call _ 5 7 (by kernel_rfl) (by rfl) (by kernel_rfl) (by rfl) ?_
            go_wp2_with fail
            refine (C1 L6.out.drew.sl).mono ?_
            rintro e w7 ⟨rfl, hb7⟩
            refine ⟨hb7, ?_⟩
            have L7 := Lib.hid (L6.out.drew.call hb7)
            clear hb7 hX c60 c61 z6 C1
            have hX7 := fun (x : Ext w7) (bb o : Nat) (h : bb < w7.heap.size) => x.cell bb o h
            refine stage_seg _ 0 [8, 9, 10, 11, 12] (by kernel_rfl) (by kernel_rfl) (by kernel_rfl) (by kernel_rfl) ?_
            (simp only [List.map_cons, List.map_nil, List.getElem?_cons_zero, List.getElem?_cons_succ, Option.getD_some]); (repeat (go_big_quiet_step (fail))); (refine wpQuiet_nil ?_)
            refine stage_end (by kernel_rfl) ?_
            clear hX7
            go_wp2_with fail
            go_ret
            exact ⟨rfl, L7.out.1.2.2⟩
          · have hno := HNO.out st
            simp only [hno, stepV] at CE
            clear hno
            go_wp2_with (go_at_call 13; refine (CE _ L6.out.sl L6.out.slb).mono ?_; rintro e w7 ⟨rfl, hb7⟩; have L7 := Lib.hid (L6.out.call hb7); clear hb7)
            go_ret
            exact ⟨rfl, L7.out.1.2.2⟩
      | true =>
        obtain ⟨hg, hx⟩ := vwB_inv hv
        obtain ⟨m, rfl⟩ : ∃ q : Nat, n = (q : Int) := ⟨n.toNat, by omega⟩
        have HG := Lib.hid hg
        have HO1 : Hid (∀ (u : Int) (l : Lb), 0 ≤ u ∧ u < (m : Int) → endI (m : Int) ls u [l] = stepO (m : Int) ls u l) := Lib.hid (fun u l h => endI_one hg h l)
        have CC := fun (u v : Int) W (h1 : Sl W W.heap.size A1 ls) => count_impl (m : Int) A1 ls c1 u v W (by omega) h1
        clear hv hg
        go_wp2_with fail
        go_loopw [8, 9] (fun q i wr => ∃ (k : Nat) (u : Int), k ≤ st.length ∧ i = .int .i64 k ∧ q = .int .i64 u ∧ (0 ≤ u ∧ u < (m : Int)) ∧ Hid (endO (m : Int) ls x (st.take k) = some u) ∧ Hid (∀ (j : Nat) (u z : Int) (l : Lb), j < k → st[j]? = some l → endO (m : Int) ls x (st.take j) = some u → stepO (m : Int) ls u l = some z → l.k = 1 → ¬ 1 < countI (m : Int) ls u z) ∧ LC w G (m : Int) ls A1 g1 c1 (some ⟨gx, 0, none⟩) gx st wr) (fun _ i _ => st.length - (intOf i).toNat)
        case atStart => exact ⟨0, x, Nat.zero_le _, rfl, rfl, hx, Lib.hid rfl, Lib.hid (fun j _ _ _ h => by omega), L3.out⟩
        case round =>
          obtain ⟨k, u, hk, rfl, rfl, hun, HEND, HALL, hL⟩ := hrel
          have L6 := Lib.hid hL
          clear hL L3
          obtain ⟨z6, c60, c61, -, -⟩ := L6.out.1.1.two
          by_cases hlt : k < st.length
          · obtain ⟨l, hl⟩ : ∃ l, st[k]? = some l := ⟨_, List.getElem?_eq_getElem hlt⟩
            have C1 := CE1 u l (some ⟨gx, k * 2, none⟩) (cx - k) wr.drew L6.out.drew.sl (HSL.out wr.drew k l hl L6.out.drew.slb)
            rw [HO1.out u l hun] at C1
            have HNXT := Lib.hid (endO_next HEND.out hl)
            have hcxk : ¬ cx = k := by omega
            have hcxk2 : ¬ k = cx := by omega
            have hcxl : k + 1 ≤ cx := by omega
            have hsl1 : k + 1 - k = 1 := by omega
            cases hst : stepO (m : Int) ls u l with
            | none =>
              simp only [hst, stepV] at C1
              clear hl hst
              go_wp2_with fail
              have hX := fun (x : Ext wr.drew) (bb o : Nat) (h : bb < wr.heap.size) => (show x.w.cell? ⟨bb, o, none⟩ = wr.cell? ⟨bb, o, none⟩ from x.cell bb o h)
              refine wp_region_staged 13 (by kernel_rfl) (by kernel_rfl) ?_
              refine stage_seg _ 6 [0, 1, 2, 3, 4, 5, 6] (by kernel_rfl) (by kernel_rfl) (by kernel_rfl) (by kernel_rfl) ?_
              (simp only [List.map_cons, List.map_nil, List.getElem?_cons_zero, List.getElem?_cons_succ, Option.getD_some]); (repeat (go_big_quiet_step (fail))); (refine wpQuiet_nil ?_)
              refine stage_call _ 5 7 (by kernel_rfl) (by rfl) (by kernel_rfl) (by rfl) ?_
              go_wp2_with fail
              refine C1.mono ?_
              rintro e w7 ⟨rfl, hb7⟩
              refine ⟨hb7, ?_⟩
              have L7 := Lib.hid (L6.out.drew.call hb7)
              clear hb7 hX c60 c61 z6 C1
              have hX7 := fun (x : Ext w7) (bb o : Nat) (h : bb < w7.heap.size) => x.cell bb o h
              refine stage_seg _ 0 [8, 9, 10, 11, 12] (by kernel_rfl) (by kernel_rfl) (by kernel_rfl) (by kernel_rfl) ?_
              (simp only [List.map_cons, List.map_nil, List.getElem?_cons_zero, List.getElem?_cons_succ, Option.getD_some]); (repeat (go_big_quiet_step (fail))); (refine wpQuiet_nil ?_)
              refine stage_end (by kernel_rfl) ?_
              clear hX7
              go_wp2_with fail
              go_ret
              exact ⟨rfl, L7.out.1.2.2⟩
            | some v =>
              simp only [hst, stepV] at C1
              have hvn := stepO_node HG.out hun hst
              have HV1 : Hid (endO (m : Int) ls x (st.take (k + 1)) = some v) := Lib.hid (by rw [HNXT.out]; exact hst)
              have C2 := CC u v
              have HAN : Hid (l.k = 1 → ¬ 1 < countI (m : Int) ls u v) ∨ Hid (l.k = 1 ∧ 1 < countI (m : Int) ls u v) := by
                by_cases h : l.k = 1 ∧ 1 < countI (m : Int) ls u v
                · exact .inr h
                · exact .inl (fun h1 h2 => h ⟨h1, h2⟩)
              have HN2 : Hid ((l.k = 1 → ¬ 1 < countI (m : Int) ls u v) → ∀ (j : Nat) (u z : Int) (l : Lb), j < k + 1 → st[j]? = some l → endO (m : Int) ls x (st.take j) = some u → stepO (m : Int) ls u l = some z → l.k = 1 → ¬ 1 < countI (m : Int) ls u z) := Lib.hid (fun h j u' z' l' hj hl' hu' hz' hk' => by
                by_cases hjk : j < k
                · exact HALL.out j u' z' l' hjk hl' hu' hz' hk'
                · obtain rfl : j = k := by omega
                  rw [hl] at hl'
                  cases hl'
                  rw [HEND.out] at hu'
                  cases hu'
                  rw [hst] at hz'
                  cases hz'
                  exact h hk')
              obtain ⟨-, zx, d0, d1⟩ := L6.out.lab hl
              have HD := Lib.hid (fun (W : World) (h : LC w G (m : Int) ls A1 g1 c1 (some ⟨gx, 0, none⟩) gx st W) => h.lab hl)
              obtain ⟨lk, la⟩ := l
              dsimp only at d0 d1 HAN HN2
              generalize countI (m : Int) ls u v = cn at *
              clear hl hst d0 d1 zx
              go_wp2_with fail
              have hX := fun (x : Ext wr.drew) (bb o : Nat) (h : bb < wr.heap.size) => (show x.w.cell? ⟨bb, o, none⟩ = wr.cell? ⟨bb, o, none⟩ from x.cell bb o h)
              refine wp_region_staged 13 (by kernel_rfl) (by kernel_rfl) ?_
              refine stage_seg _ 6 [0, 1, 2, 3, 4, 5, 6] (by kernel_rfl) (by kernel_rfl) (by kernel_rfl) (by kernel_rfl) ?_
              (simp only [List.map_cons, List.map_nil, List.getElem?_cons_zero, List.getElem?_cons_succ, Option.getD_some]); (repeat (go_big_quiet_step (fail))); (refine wpQuiet_nil ?_)
              refine stage_call _ 5 7 (by kernel_rfl) (by rfl) (by kernel_rfl) (by rfl) ?_
              go_wp2_with fail
              refine C1.mono ?_
              rintro e w7 ⟨rfl, hb7⟩
              refine ⟨hb7, ?_⟩
              have L7 := Lib.hid (L6.out.drew.call hb7)
              clear hb7 hX c60 c61 z6 C1
              have hX7 := fun (x : Ext w7) (bb o : Nat) (h : bb < w7.heap.size) => x.cell bb o h
              refine stage_seg _ 0 [8, 9, 10, 11, 12] (by kernel_rfl) (by kernel_rfl) (by kernel_rfl) (by kernel_rfl) ?_
              (simp only [List.map_cons, List.map_nil, List.getElem?_cons_zero, List.getElem?_cons_succ, Option.getD_some]); (repeat (go_big_quiet_step (fail))); (refine wpQuiet_nil ?_)
              refine stage_end (by kernel_rfl) ?_
              clear hX7
              obtain ⟨-, zx, d0, d1⟩ := HD.out w7 L7.out
              try dsimp only at d0 d1
              obtain ⟨z7, c70, c71, -, -⟩ := L7.out.1.1.two
              rcases HAN with HAN | HAN
              · by_cases hk1 : lk = 1
                · have hcn := HAN.out hk1
                  subst hk1
                  go_wp2_with (go_at_call 31; refine (C2 _ L7.out.sl).mono ?_; rintro e w8 ⟨rfl, hb8⟩; have L8 := Lib.hid (L7.out.call hb8); clear hb8)
                  go_roundw
                  case rel => exact ⟨k + 1, v, hlt, by go_num, rfl, hvn, HV1, Lib.hid (fun j u z l a b c d e => by have hh := HN2.out HAN.out j u z l a b c d e; omega), L8.out⟩
                  case measure => simp [intOf]; omega
                · have hk1' : (lk == 1) = false := by rw [beq_eq_false_iff_ne]; exact hk1
                  have HK := Lib.hid hk1
                  clear hk1
                  go_wp2_with fail
                  go_roundw
                  case rel => exact ⟨k + 1, v, hlt, by go_num, rfl, hvn, HV1, Lib.hid (fun j u z l a b c d e => by have hh := HN2.out HAN.out j u z l a b c d e; omega), L7.out⟩
                  case measure => simp [intOf]; omega
              · obtain ⟨hk1, hcn⟩ := HAN.out
                subst hk1
                go_wp2_with (go_at_call 31; refine (C2 _ L7.out.sl).mono ?_; rintro e w8 ⟨rfl, hb8⟩; have L8 := Lib.hid (L7.out.call hb8); clear hb8)
                go_ret
                exact ⟨rfl, L8.out.1.2.2⟩
          · obtain rfl : k = st.length := by omega
            have hno := ways_done HG.out hx (fun j u z l hl => HALL.out j u z l (List.getElem?_eq_some_iff.1 hl).1 hl) HU.out
            simp only [hno, stepV] at CE
            clear hno
            go_wp2_with (go_at_call 13; refine (CE _ L6.out.sl L6.out.slb).mono ?_; rintro e w7 ⟨rfl, hb7⟩; have L7 := Lib.hid (L6.out.call hb7); clear hb7)
            go_ret
            exact ⟨rfl, L7.out.1.2.2⟩
  · go_enter Try.func11, Try.ntmps11
    go_wp2
    go_ret
    exact ⟨rfl, by (repeat (first | exact Below.refl _ _ | (refine Below.alloc ?_ (by first | exact Nat.le_refl _ | omega | (simp; done) | (simp; omega)) _) | (refine Below.setCell ?_ (by first | exact Nat.le_refl _ | omega | (simp; done) | (simp; omega)) _) | exact Below.drew ‹_›))⟩

end Go.Proofs.Ytblmmmeeljidiab
