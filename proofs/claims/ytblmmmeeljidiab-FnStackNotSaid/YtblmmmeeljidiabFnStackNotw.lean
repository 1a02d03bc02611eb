/-
  The walk of FnStackNot over this seat.
-/
import Derived.Test.YtblmmmeeljidiabNt
import Derived.Test.YtblmmmeeljidiabSv
import Derived.Test.YtblmmmeeljidiabWr
namespace Go.Proofs.Ytblmmmeeljidiab
open Go.RowKit Go.Maps

/-- The state with the graph without the link. -/
def NT (w : World) (G : Nat) (n : Int) (ls : List Lk) (A' : Option Addr) (g' c' : Nat) (Ax : Option Addr) (gx : Nat) (st : List Lb) (H : Nat) (A5 : Option Addr) (g5 c5 : Nat) (rs : List Lk) (wx : World) : Prop :=
  LC w G n ls A' g' c' Ax gx st wx ∧ Box wx H 25 #[.int .i64 n, .slice A5 rs.length c5] ∧ Own1 wx A5 g5 rs
section
variable {w w1 w2 : World} {G H : Nat} {n : Int} {ls rs : List Lk} {A' A5 : Option Addr} {g' c' g5 c5 : Nat} {Ax : Option Addr} {gx : Nat} {st : List Lb}
theorem NT.call (h : NT w G n ls A' g' c' Ax gx st H A5 g5 c5 rs w1) (hb : Below w1.heap.size w1 w2) : NT w G n ls A' g' c' Ax gx st H A5 g5 c5 rs w2 :=
  ⟨h.1.call hb, h.2.1.below hb h.2.1.lt, h.2.2.below hb⟩
theorem NT.drew (h : NT w G n ls A' g' c' Ax gx st H A5 g5 c5 rs w1) : NT w G n ls A' g' c' Ax gx st H A5 g5 c5 rs w1.drew := ⟨h.1.drew, h.2.1, h.2.2⟩
end

set_option maxRecDepth 100000 in
set_option maxHeartbeats 1600000 in
theorem fnStackNot_walk (A : Option Addr) (len c : Nat) (f : Nat → Int) (w : World) (hlc : len ≤ c) (hc : c ≤ maxLen) (hB : Byt w w.heap.size A len f) :
   Calls Try.prog 7 #[.slice A len c] w fun e w' => e = .returned (.bool true) ∧ Below w.heap.size w w' := by
  have HB := Lib.hid hB
  clear hB
  by_cases hl : len ≤ 1048576
  · go_enter Try.func7, Try.ntmps7
    go_wp2_with fail
    refine (drawStackCrosses_any A len c f w hlc hc HB.out).mono ?_
    rintro e w1 ⟨n, ls, A1, g1, c1, x, st, gx, cx, t, rfl, ⟨hn0, hn1, hls, hg1, ho1, hb1⟩, hx0, hx1, hs9, hok, hox, hgx, hcx, hgl, ht0, ht1⟩
    have L1 := Lib.hid (show LC w w1.heap.size n ls A1 g1 c1 (some ⟨gx, 0, none⟩) gx st (w1.alloc (.cells #[.int .i64 n, .slice A1 ls.length c1] 25)) from ⟨⟨Box.new w1 _ _, ho1.alloc _, hb1.alloc hb1.size _⟩, hox.alloc _⟩)
    have HOK := Lib.hid hok
    clear ho1 hb1 HB hox hok
    generalize hG : w1.heap.size = G at *
    have CI := fun W (h1 : Sl W W.heap.size A1 ls) (h2 : Slb W W.heap.size (some ⟨gx, 0, none⟩) st) => stackCrosses_impl n A1 ls c1 x (some ⟨gx, 0, none⟩) st cx t W (by omega) (by omega) h1 h2
    have CS := fun W (h1 : Sl W W.heap.size A1 ls) (h2 : Slb W W.heap.size (some ⟨gx, 0, none⟩) st) => stackCrosses_spec n A1 ls c1 x (some ⟨gx, 0, none⟩) st cx t W (by omega) (by omega) (by omega) h1 h2
    have HNN : Hid (crossS n ls x st t = false → ∀ (k : Nat) (l : Lk), t = (k : Int) → ls[k]? = some l → (endI n ls x st).isSome = true → pathS n (ls.eraseIdx k) x (st.map (dn k)) = pathS n ls x st ∧ costS n (ls.eraseIdx k) x (st.map (dn k)) = costS n ls x st) := Lib.hid (fun h k l e hl hs => not_needed hl hs (by rw [← e]; exact h))
    generalize crossS n ls x st t = qq at *
    go_wp2_with fail
    refine (CI _ L1.out.sl L1.out.slb).mono ?_
    rintro e w2 ⟨rfl, hb2⟩
    have L2 := Lib.hid (L1.out.call hb2)
    clear hb2 L1 hG CI
    obtain ⟨z2, c20, c21, -, -⟩ := L2.out.1.1.two
    go_wp2_with fail
    refine (CS _ L2.out.sl L2.out.slb).mono ?_
    rintro e w3 ⟨rfl, hb3⟩
    have L3 := Lib.hid (L2.out.call hb3)
    clear hb3 L2 z2 c20 c21 CS
    obtain ⟨z3, c30, c31, -, -⟩ := L3.out.1.1.two
    cases qq with
    | true =>
      go_wp2_with fail
      go_ret
      exact ⟨rfl, L3.out.1.2.2⟩
    | false =>
      by_cases htn : t < 0
      · go_wp2_with fail
        go_ret
        exact ⟨rfl, L3.out.1.2.2⟩
      · by_cases htl : (ls.length : Int) ≤ t
        · go_wp2_with fail
          go_ret
          exact ⟨rfl, L3.out.1.2.2⟩
        · obtain ⟨k, rfl⟩ : ∃ k : Nat, t = (k : Int) := ⟨t.toNat, by omega⟩
          have hkl : k < ls.length := by omega
          obtain ⟨rfl, -⟩ := L3.out.1.2.1 (by omega)
          cases hv : gvB n ls with
          | false =>
            have CW := without_impl n g1 ls c1 (k : Int) w3 (by omega) L3.out.sl
            rw [if_neg (by unfold withoutOk; rw [hv]; simp)] at CW
            clear hv
            go_wp2_with fail
            refine CW.mono ?_
            clear CW
            rintro e w4 ⟨A4, g4, c4, rfl, hg4, ho4, hb4⟩
            have L4 := Lib.hid ((L3.out.call hb4).alloc (.cells #[.int .i64 0, .slice A4 ([] : List Lk).length c4] 25))
            clear hb4 ho4 L3 z3 c30 c31 hg4
            go_wp2_with fail
            go_ret
            exact ⟨rfl, L4.out.1.2.2⟩
          | true =>
            have CW := wo_res n g1 ls c1 k w3 (by omega) hv hkl L3.out.sl
            have hel : (ls.eraseIdx k).length ≤ 16 := Nat.le_trans (List.length_eraseIdx_le _ _) hls
            obtain ⟨l0, hl0⟩ : ∃ l, ls[k]? = some l := ⟨_, List.getElem?_eq_getElem hkl⟩
            have HN2 := Lib.hid (fun hs => HNN.out rfl k l0 rfl hl0 hs)
            clear hv hl0 HNN
            generalize ls.eraseIdx k = rs at *
            go_wp2_with fail
            refine CW.mono ?_
            clear CW
            rintro e w5 ⟨A5, g5, c5, rfl, hg5, ho5, hb5⟩
            have N5 := Lib.hid (show NT w G n ls (some ⟨g1, 0, none⟩) g1 c1 (some ⟨gx, 0, none⟩) gx st w5.heap.size A5 g5 c5 rs (w5.alloc (.cells #[.int .i64 n, .slice A5 rs.length c5] 25)) from ⟨(L3.out.call hb5).alloc _, Box.new w5 _ _, ho5.alloc _⟩)
            clear hb5 ho5 L3 z3 c30 c31 hg5
            go_upto_region 11 with fail
            generalize hH : w5.heap.size = H at *
            generalize w5.alloc (.cells #[.int .i64 n, .slice A5 rs.length c5] 25) = w6 at *
            clear hH
            have NB := Box.new w6 40 #[]
            have R0 : World.ownsRow (w6.alloc (.cells #[] 40)) w6.heap.size 40 2 (.slice (some ⟨w6.heap.size, 0, none⟩) 0 0) ((st.take 0).map (dn k)).length (flatB ((st.take 0).map (dn k))) := ⟨by simp [flatB], .inr ⟨w6.heap.size, 0, #[], rfl, Nat.le_refl _, NB, Nat.le_refl _, by omega, rfl, by simp [flatB]⟩⟩
            have RR := Lib.hid R0
            have B6 := Lib.hid ((Below.refl w6.heap.size w6).alloc (Nat.le_refl _) (.cells #[] 40))
            obtain ⟨i0, hi, hz0, hz10, hz20⟩ := info_parts infoLabel
            clear NB R0
            go_wp2_with fail
            go_loopw [11, 12] (fun v i wr => ∃ j : Nat, j ≤ st.length ∧ i = .int .i64 (j : Int) ∧ wr.ownsRow w6.heap.size 40 2 v ((st.take j).map (dn k)).length (flatB ((st.take j).map (dn k))) ∧ Below w6.heap.size w6 wr) (fun _ i _ => st.length - (intOf i).toNat)
            case atStart => exact ⟨0, Nat.zero_le _, rfl, RR.out, B6.out⟩
            case round =>
              obtain ⟨j, hj, rfl, hrow, hb⟩ := hrel
              have HR := Lib.hid hrow
              have HBW := Lib.hid hb
              have N6 := Lib.hid (N5.out.call hb)
              have hwz := hb.size
              clear RR B6 N5
              by_cases hlt : j < st.length
              · clear hrow hb
                have hjl : ((st.take j).map (dn k)).length ≤ 9 := by simp; omega
                obtain ⟨l, hl⟩ : ∃ l, st[j]? = some l := ⟨_, List.getElem?_eq_getElem hlt⟩
                obtain ⟨-, zx, d0, d1⟩ := N6.out.1.lab hl
                have HTK : Hid ((st.take (j + 1)).map (dn k) = (st.take j).map (dn k) ++ [dn k l]) := Lib.hid (by rw [List.take_add_one, hl]; simp)
                have hlo := HOK.out l (List.mem_of_getElem? hl)
                obtain ⟨lk, la⟩ := l
                obtain ⟨-, -, hla0, hla1⟩ := hlo
                dsimp only at d0 d1 hla0 hla1
                clear hl
                obtain ⟨A9, g9, c9, rfl, -, -, -, -⟩ := own_sliceb HR.out hwz
                generalize (st.take j).map (dn k) = os at *
                have HLB := Lib.hid (Box.new wr 40 #[.int .i64 lk, .int .i64 la])
                have HR1 := Lib.hid (HR.out.alloc (.cells #[.int .i64 lk, .int .i64 la] 40))
                have HB1 := Lib.hid (HBW.out.alloc hwz (.cells #[.int .i64 lk, .int .i64 la] 40))
                have HNE : Hid (∀ q, (Value.slice A9 os.length c9).ownBlock = some q → q ≠ wr.heap.size) := Lib.hid (fun q e => by have := (HR.out.lt q e).2; omega)
                obtain ⟨z7, e0, e1, -, -⟩ := HLB.out.two
                by_cases h2 : lk = 2
                · subst h2
                  by_cases h3 : (k : Int) < la
                  · have hdn : dn k ⟨2, la⟩ = ⟨2, la - 1⟩ := by simp [dn, h3]
                    have HDN := Lib.hid hdn
                    have hwp : IntKind.i64.wrap (la - 1) = la - 1 := IntWalk.i64_in _ (by omega)
                    clear hdn
                    go_upto_region 18 with fail
                    have HB2 := Lib.hid (show Box (wr.alloc (.cells #[.int .i64 2, .int .i64 (la - 1)] 40)) wr.heap.size 40 #[.int .i64 2, .int .i64 (la - 1)] from Box.new wr _ _)
                    have HR2 := Lib.hid (show World.ownsRow (wr.alloc (.cells #[.int .i64 2, .int .i64 (la - 1)] 40)) w6.heap.size 40 2 (.slice A9 os.length c9) os.length (flatB os) from HR.out.alloc _)
                    have HBL2 := Lib.hid (show Below w6.heap.size w6 (wr.alloc (.cells #[.int .i64 2, .int .i64 (la - 1)] 40)) from HBW.out.alloc hwz _)
                    clear HLB HR1 HB1 HR HBW N6 e0 e1 z7 d0 d1 HNE zx
                    generalize wr.alloc (.cells #[.int .i64 2, .int .i64 (la - 1)] 40) = wc at *
                    generalize wr.heap.size = lbx at *
                    have hwz2 := HBL2.out.size
                    obtain ⟨z8, e0, e1, -, -⟩ := HB2.out.two
                    go_wp2_with (at_builtin; refine wpList_append_own_at _ rfl _ _ 26 rfl w6.heap.size 40 i0 _ 2 16 Try.underlying26 hi hz0 hz10 hz20 rfl (by decide) _ os.length _ rfl (HR2.out.alloc _) ⟨wc.heap.size, 0, none⟩ 1 1 [.int .i64 2, .int .i64 (la - 1)] rfl rfl (new2 _ _ _ _) (one2 _ _) (by unfold maxLen; omega) (by omega) (by simp; omega) ?_; intro v' w7 hown' hgrow _ hat; have R7 := Lib.hid hown'; have B7 := Lib.hid ((HBL2.out.alloc hwz2 _).grown hgrow (by simp; omega) (fun j e => (HR2.out.lt j e).1)); clear hown' hgrow hat)
                    go_roundw
                    case rel =>
                      refine ⟨j + 1, by omega, by go_num, ?_, B7.out⟩
                      rw [HTK.out, List.length_append, flatB_append, HDN.out]
                      exact R7.out
                    case measure => (simp [intOf]; try omega)
                  · have hdn : dn k ⟨2, la⟩ = ⟨2, la⟩ := by simp [dn, h3]
                    have HDN := Lib.hid hdn
                    clear hdn
                    go_upto_region 18 with fail
                    have HB2 := Lib.hid (show Box (wr.alloc (.cells #[.int .i64 2, .int .i64 la] 40)) wr.heap.size 40 #[.int .i64 2, .int .i64 (la)] from HLB.out)
                    have HR2 := Lib.hid (show World.ownsRow (wr.alloc (.cells #[.int .i64 2, .int .i64 la] 40)) w6.heap.size 40 2 (.slice A9 os.length c9) os.length (flatB os) from HR1.out)
                    have HBL2 := Lib.hid (show Below w6.heap.size w6 (wr.alloc (.cells #[.int .i64 2, .int .i64 la] 40)) from HB1.out)
                    clear HLB HR1 HB1 HR HBW N6 e0 e1 z7 d0 d1 HNE zx
                    generalize wr.alloc (.cells #[.int .i64 2, .int .i64 la] 40) = wc at *
                    generalize wr.heap.size = lbx at *
                    have hwz2 := HBL2.out.size
                    obtain ⟨z8, e0, e1, -, -⟩ := HB2.out.two
                    go_wp2_with (at_builtin; refine wpList_append_own_at _ rfl _ _ 26 rfl w6.heap.size 40 i0 _ 2 16 Try.underlying26 hi hz0 hz10 hz20 rfl (by decide) _ os.length _ rfl (HR2.out.alloc _) ⟨wc.heap.size, 0, none⟩ 1 1 [.int .i64 2, .int .i64 (la)] rfl rfl (new2 _ _ _ _) (one2 _ _) (by unfold maxLen; omega) (by omega) (by simp; omega) ?_; intro v' w7 hown' hgrow _ hat; have R7 := Lib.hid hown'; have B7 := Lib.hid ((HBL2.out.alloc hwz2 _).grown hgrow (by simp; omega) (fun j e => (HR2.out.lt j e).1)); clear hown' hgrow hat)
                    go_roundw
                    case rel =>
                      refine ⟨j + 1, by omega, by go_num, ?_, B7.out⟩
                      rw [HTK.out, List.length_append, flatB_append, HDN.out]
                      exact R7.out
                    case measure => (simp [intOf]; try omega)
                · have hdn : dn k ⟨lk, la⟩ = ⟨lk, la⟩ := by simp [dn, h2]
                  have HDN := Lib.hid hdn
                  have h2' : (lk == 2) = false := by rw [beq_eq_false_iff_ne]; exact h2
                  have H2 := Lib.hid h2
                  clear h2
                  clear hdn
                  go_upto_region 18 with fail
                  have HB2 := Lib.hid (show Box (wr.alloc (.cells #[.int .i64 lk, .int .i64 la] 40)) wr.heap.size 40 #[.int .i64 lk, .int .i64 (la)] from HLB.out)
                  have HR2 := Lib.hid (show World.ownsRow (wr.alloc (.cells #[.int .i64 lk, .int .i64 la] 40)) w6.heap.size 40 2 (.slice A9 os.length c9) os.length (flatB os) from HR1.out)
                  have HBL2 := Lib.hid (show Below w6.heap.size w6 (wr.alloc (.cells #[.int .i64 lk, .int .i64 la] 40)) from HB1.out)
                  clear HLB HR1 HB1 HR HBW N6 e0 e1 z7 d0 d1 HNE zx
                  generalize wr.alloc (.cells #[.int .i64 lk, .int .i64 la] 40) = wc at *
                  generalize wr.heap.size = lbx at *
                  have hwz2 := HBL2.out.size
                  obtain ⟨z8, e0, e1, -, -⟩ := HB2.out.two
                  go_wp2_with (at_builtin; refine wpList_append_own_at _ rfl _ _ 26 rfl w6.heap.size 40 i0 _ 2 16 Try.underlying26 hi hz0 hz10 hz20 rfl (by decide) _ os.length _ rfl (HR2.out.alloc _) ⟨wc.heap.size, 0, none⟩ 1 1 [.int .i64 lk, .int .i64 (la)] rfl rfl (new2 _ _ _ _) (one2 _ _) (by unfold maxLen; omega) (by omega) (by simp; omega) ?_; intro v' w7 hown' hgrow _ hat; have R7 := Lib.hid hown'; have B7 := Lib.hid ((HBL2.out.alloc hwz2 _).grown hgrow (by simp; omega) (fun j e => (HR2.out.lt j e).1)); clear hown' hgrow hat)
                  go_roundw
                  case rel =>
                    refine ⟨j + 1, by omega, by go_num, ?_, B7.out⟩
                    rw [HTK.out, List.length_append, flatB_append, HDN.out]
                    exact R7.out
                  case measure => (simp [intOf]; try omega)
              · obtain rfl : j = st.length := by omega
                rw [List.take_length] at hrow
                have hos : (st.map (dn k)).length ≤ 9 := by simp; omega
                clear HR
                generalize st.map (dn k) = os at *
                obtain ⟨A9, g9, c9, rfl, -, -, ho9, hc9⟩ := own_sliceb hrow hwz
                have O6 := Lib.hid ho9
                clear ho9 hrow hb
                have CE := fun W (h1 : Sl W W.heap.size (some ⟨g1, 0, none⟩) ls) (h2 : Slb W W.heap.size (some ⟨gx, 0, none⟩) st) => stackEnd_impl n (some ⟨g1, 0, none⟩) ls c1 x (some ⟨gx, 0, none⟩) st cx W (by omega) (by omega) h1 h2
                obtain ⟨z6, c60, c61, -, -⟩ := N6.out.1.1.1.two
                cases he : endI n ls x st with
                | none =>
                  simp only [he, stepV] at CE
                  clear he
                  go_wp2_with fail
                  refine (CE _ N6.out.1.sl N6.out.1.slb).mono ?_
                  rintro e w7 ⟨rfl, hb7⟩
                  have N7 := Lib.hid (N6.out.call hb7)
                  clear hb7 N6 CE c60 c61 z6 O6
                  have PD := Lib.hid N7.out.drew
                  go_wp2_with fail
                  have hX := fun (x : Ext w7.drew) (bb o : Nat) (h : bb < w7.heap.size) => (show x.w.cell? ⟨bb, o, none⟩ = w7.cell? ⟨bb, o, none⟩ from x.cell bb o h)
                  refine wp_region_staged 25 (by kernel_rfl) (by kernel_rfl) ?_
                  refine stage_seg _ 16 [0, 1, 2, 3, 4, 5, 7, 8, 9] (by kernel_rfl) (by kernel_rfl) (by kernel_rfl) (by kernel_rfl) ?_
                  (simp only [List.map_cons, List.map_nil, List.getElem?_cons_zero, List.getElem?_cons_succ, Option.getD_some]); (repeat (go_big_quiet_step (fail))); (refine wpQuiet_nil ?_)
                  refine stage_skip _ 15 6 (by kernel_rfl) (by rfl) (by kernel_rfl) (by rfl) ?_
                  go_simp
                  refine stage_skip _ 14 10 (by kernel_rfl) (by rfl) (by kernel_rfl) (by rfl) ?_
                  go_simp
                  refine stage_skip _ 13 11 (by kernel_rfl) (by rfl) (by kernel_rfl) (by rfl) ?_
                  go_simp
                  refine stage_seg _ 6 [12, 13, 14, 15, 17, 18, 19] (by kernel_rfl) (by kernel_rfl) (by kernel_rfl) (by kernel_rfl) ?_
                  (simp only [List.map_cons, List.map_nil, List.getElem?_cons_zero, List.getElem?_cons_succ, Option.getD_some]); (repeat (go_big_quiet_step (fail))); (refine wpQuiet_nil ?_)
                  refine stage_skip _ 5 16 (by kernel_rfl) (by rfl) (by kernel_rfl) (by rfl) ?_
                  go_simp
                  refine stage_skip _ 4 20 (by kernel_rfl) (by rfl) (by kernel_rfl) (by rfl) ?_
                  go_simp
                  refine stage_seg _ 0 [21, 22, 23, 24] (by kernel_rfl) (by kernel_rfl) (by kernel_rfl) (by kernel_rfl) ?_
                  (simp only [List.map_cons, List.map_nil, List.getElem?_cons_zero, List.getElem?_cons_succ, Option.getD_some]); (repeat (go_big_quiet_step (fail))); (refine wpQuiet_nil ?_)
                  refine stage_end (by kernel_rfl) ?_
                  clear hX
                  go_wp2_with fail
                  go_ret
                  exact ⟨rfl, PD.out.1.1.2.2⟩
                | some z =>
                  simp only [he, stepV] at CE
                  obtain ⟨hp, hcs⟩ := HN2.out (by rw [he]; rfl)
                  clear he HN2
                  have hpl : (pathS n ls x st).length ≤ 57 := pathS_len n ls x st
                  have CP := fun W (h1 : Sl W W.heap.size A5 rs) (h2 : Slb W W.heap.size A9 os) => stackPath_impl n A5 rs c5 x A9 os c9 W (by omega) (by omega) h1 h2
                  have CQ := fun W (h1 : Sl W W.heap.size (some ⟨g1, 0, none⟩) ls) (h2 : Slb W W.heap.size (some ⟨gx, 0, none⟩) st) => stackPath_impl n (some ⟨g1, 0, none⟩) ls c1 x (some ⟨gx, 0, none⟩) st cx W (by omega) (by omega) h1 h2
                  have CC := fun W (h1 : Sl W W.heap.size A5 rs) (h2 : Slb W W.heap.size A9 os) => stackCost_impl n A5 rs c5 x A9 os c9 W (by omega) (by omega) h1 h2
                  have CD := fun W (h1 : Sl W W.heap.size (some ⟨g1, 0, none⟩) ls) (h2 : Slb W W.heap.size (some ⟨gx, 0, none⟩) st) => stackCost_impl n (some ⟨g1, 0, none⟩) ls c1 x (some ⟨gx, 0, none⟩) st cx W (by omega) (by omega) h1 h2
                  rw [hp] at CP
                  rw [hcs] at CC
                  generalize pathS n ls x st = xs at *
                  generalize costS n ls x st = cq at *
                  clear hp hcs
                  go_wp2_with fail
                  refine (CE _ N6.out.1.sl N6.out.1.slb).mono ?_
                  rintro e w7 ⟨rfl, hb7⟩
                  have N7 := Lib.hid (N6.out.call hb7)
                  have O7 := Lib.hid (O6.out.below hb7)
                  clear hb7 N6 CE c60 c61 z6 O6
                  have PD := Lib.hid N7.out.drew
                  obtain ⟨z7, c70, c71, -, -⟩ := N7.out.1.1.1.two
                  obtain ⟨y7, b70, b71, -, -⟩ := N7.out.2.1.two
                  go_wp2_with fail
                  have hX := fun (x : Ext w7.drew) (bb o : Nat) (h : bb < w7.heap.size) => (show x.w.cell? ⟨bb, o, none⟩ = w7.cell? ⟨bb, o, none⟩ from x.cell bb o h)
                  refine wp_region_staged 25 (by kernel_rfl) (by kernel_rfl) ?_
                  refine stage_seg _ 16 [0, 1, 2, 3, 4, 5, 7, 8, 9] (by kernel_rfl) (by kernel_rfl) (by kernel_rfl) (by kernel_rfl) ?_
                  (simp only [List.map_cons, List.map_nil, List.getElem?_cons_zero, List.getElem?_cons_succ, Option.getD_some]); (repeat (go_big_quiet_step (fail))); (refine wpQuiet_nil ?_)
                  refine stage_call _ 15 6 (by kernel_rfl) (by rfl) (by kernel_rfl) (by rfl) ?_
                  go_wp2_with fail
                  refine (CP w7.drew PD.out.2.2.sl (show Ownb w7.drew A9 g9 os from O7.out).slb).mono ?_
                  rintro e w8 ⟨A8, g8, c8, rfl, hg8, ho8, hb8, -⟩
                  refine ⟨hb8, ?_⟩
                  have N8 := Lib.hid (PD.out.call hb8)
                  have O8 := Lib.hid (Ownb.below (w := w7.drew) O7.out hb8)
                  have P8 := Lib.hid ho8
                  clear hb8 ho8 hX c70 c71 z7 b70 b71 y7 PD O7 N7 CP
                  refine stage_call _ 14 10 (by kernel_rfl) (by rfl) (by kernel_rfl) (by rfl) ?_
                  go_wp2_with fail
                  refine (CQ w8 N8.out.1.sl N8.out.1.slb).mono ?_
                  rintro e w9 ⟨B9, q9, d9, rfl, hg9, ho9, hb9, -⟩
                  refine ⟨hb9, ?_⟩
                  have N9 := Lib.hid (N8.out.call hb9)
                  have O9 := Lib.hid (O8.out.below hb9)
                  have P9 := Lib.hid (P8.out.below hb9)
                  have Q9 := Lib.hid ho9
                  clear hb9 ho9 O8 N8 P8 CQ
                  refine stage_call _ 13 11 (by kernel_rfl) (by rfl) (by kernel_rfl) (by rfl) ?_
                  go_wp2_with fail
                  refine (sameInts_same A8 B9 xs c8 d9 w9 (by omega) P9.out.sli Q9.out.sli).mono ?_
                  rintro e w10 ⟨rfl, hb10⟩
                  refine ⟨hb10, ?_⟩
                  have N10 := Lib.hid (N9.out.call hb10)
                  have O10 := Lib.hid (O9.out.below hb10)
                  obtain ⟨z8, c80, c81, -, -⟩ := N10.out.1.1.1.two
                  obtain ⟨y8, b80, b81, -, -⟩ := N10.out.2.1.two
                  clear hb10 O9 N9 P9 Q9
                  have hX8 := fun (x : Ext w10) (bb o : Nat) (h : bb < w10.heap.size) => x.cell bb o h
                  refine stage_seg _ 6 [12, 13, 14, 15, 17, 18, 19] (by kernel_rfl) (by kernel_rfl) (by kernel_rfl) (by kernel_rfl) ?_
                  (simp only [List.map_cons, List.map_nil, List.getElem?_cons_zero, List.getElem?_cons_succ, Option.getD_some]); (repeat (go_big_quiet_step (fail))); (refine wpQuiet_nil ?_)
                  refine stage_call _ 5 16 (by kernel_rfl) (by rfl) (by kernel_rfl) (by rfl) ?_
                  go_wp2_with fail
                  refine (CC w10 N10.out.2.2.sl O10.out.slb).mono ?_
                  rintro e w11 ⟨rfl, hb11⟩
                  refine ⟨hb11, ?_⟩
                  have N11 := Lib.hid (N10.out.call hb11)
                  clear hb11 hX8 c80 c81 z8 b80 b81 y8 N10 O10 CC
                  refine stage_call _ 4 20 (by kernel_rfl) (by rfl) (by kernel_rfl) (by rfl) ?_
                  go_wp2_with fail
                  refine (CD w11 N11.out.1.sl N11.out.1.slb).mono ?_
                  rintro e w12 ⟨rfl, hb12⟩
                  refine ⟨hb12, ?_⟩
                  have N12 := Lib.hid (N11.out.call hb12)
                  clear hb12 N11 CD
                  have hX10 := fun (x : Ext w12) (bb o : Nat) (h : bb < w12.heap.size) => x.cell bb o h
                  refine stage_seg _ 0 [21, 22, 23, 24] (by kernel_rfl) (by kernel_rfl) (by kernel_rfl) (by kernel_rfl) ?_
                  (simp only [List.map_cons, List.map_nil, List.getElem?_cons_zero, List.getElem?_cons_succ, Option.getD_some]); (repeat (go_big_quiet_step (fail))); (refine wpQuiet_nil ?_)
                  refine stage_end (by kernel_rfl) ?_
                  clear hX10
                  go_wp2_with fail
                  go_ret
                  exact ⟨ret_bool (by simp), N12.out.1.1.2.2⟩
  · go_enter Try.func7, Try.ntmps7
    go_wp2
    go_ret
    exact ⟨rfl, by (repeat (first | exact Below.refl _ _ | (refine Below.alloc ?_ (by first | exact Nat.le_refl _ | omega | (simp; done) | (simp; omega)) _) | (refine Below.setCell ?_ (by first | exact Nat.le_refl _ | omega | (simp; done) | (simp; omega)) _) | exact Below.drew ‹_›))⟩

end Go.Proofs.Ytblmmmeeljidiab
