/-
  The walk of FnCompileBack over this seat.
-/
import Derived.Test.YtenlofomkchlaacD2
import Derived.Test.YtenlofomkchlaacLq
namespace Go.Proofs.Ytenlofomkchlaac
open Go.RowKit Go.Maps

set_option maxRecDepth 100000 in
set_option maxHeartbeats 1600000 in
theorem fnCompileBack_walk (A : Option Addr) (len c : Nat) (f : Nat → Int) (w : World) (hlc : len ≤ c) (hc : c ≤ maxLen) (hB : Byt w w.heap.size A len f) :
   Calls Try.prog 9 #[.slice A len c] w fun e w' => e = .returned (.bool true) ∧ Below w.heap.size w w' := by
  have HB := Lib.hid hB
  clear hB
  by_cases hl : len ≤ 1048576
  · go_enter Try.func9, Try.ntmps9
    go_wp2_with fail
    refine (drawCompile_any A len c f w hlc hc HB.out).mono ?_
    rintro e w1 ⟨n, ls, A1, g1, c1, xs, gx, cx, rfl, ⟨hn0, hn1, hls, hg1, ho1, hb1⟩, hs12, hox, hgx, hcx, hgl⟩
    have L1 := Lib.hid (show LP w w1.heap.size n ls A1 g1 c1 gx xs (w1.alloc (.cells #[.int .i64 n, .slice A1 ls.length c1] 32)) from ⟨⟨Box.new w1 _ _, ho1.alloc _, hb1.alloc hb1.size _⟩, hox.alloc _⟩)
    clear ho1 hb1 HB hox
    generalize hG : w1.heap.size = G at *
    have CI := fun W (h1 : Sl W W.heap.size A1 ls) (h2 : Sli W W.heap.size (some ⟨gx, 0, none⟩) xs) => stackCompile_impl n A1 ls c1 (some ⟨gx, 0, none⟩) xs cx W (by omega) (by omega) hcx h1 h2
    have CS := fun W (h1 : Sl W W.heap.size A1 ls) (h2 : Sli W W.heap.size (some ⟨gx, 0, none⟩) xs) => stackCompile_spec n A1 ls c1 (some ⟨gx, 0, none⟩) xs cx W (by omega) (by omega) (by omega) hcx h1 h2
    unfold CmpR at CI CS
    have h8 := cmpI_len n ls xs
    cases hv : pvB n ls xs with
    | false =>
      rw [hv] at CI CS
      generalize cmpI n ls xs = st at *
      clear hv
      go_wp2_with fail
      refine (CI _ L1.out.sl L1.out.sli).mono ?_
      rintro e w2 ⟨A2, g2, c2, rfl, hg2, ho2, hb2, hc2⟩
      have L2 := Lib.hid (L1.out.call hb2)
      have P2 := Lib.hid ho2
      clear hb2 ho2 hg2 L1 hG
      obtain ⟨z2, c20, c21, -, -⟩ := L2.out.1.1.two
      go_wp2_with fail
      refine (CS _ L2.out.sl L2.out.sli).mono ?_
      rintro e w3 ⟨A3, g3, c3, rfl, hg3, ho3, hb3, hc3⟩
      have L3 := Lib.hid (L2.out.call hb3)
      have P3 := Lib.hid (P2.out.below hb3)
      have T3 := Lib.hid ho3
      clear hb3 ho3 hg3 L2 P2 z2 c20 c21 CS
      go_wp2_with fail
      refine (sameLabels_same A2 A3 st c2 c3 w3 (by omega) P3.out.slb T3.out.slb).mono ?_
      rintro e w4 ⟨rfl, hb4⟩
      have L4 := Lib.hid (L3.out.call hb4)
      have P4 := Lib.hid (P3.out.below hb4)
      have T4 := Lib.hid (T3.out.below hb4)
      clear hb4 L3 P3 T3
      go_wp2_with fail
      refine (sameLabels_same A2 A3 st c2 c3 w4 (by omega) P4.out.slb T4.out.slb).mono ?_
      rintro e w5 ⟨rfl, hb5⟩
      have L5 := Lib.hid (L4.out.call hb5)
      clear hb5
      go_wp2_with fail
      go_ret
      exact ⟨rfl, L5.out.1.2.2⟩
    | true =>
      obtain ⟨m, rfl, hp⟩ := pvB_PV hv
      rw [hv] at CI CS
      have hpos := hp.pos
      have hl9 := hp.len
      obtain ⟨ht1, ht2⟩ := hp.turn
      have HT := Lib.hid ht1
      have HT2 := Lib.hid ht2
      have HP := Lib.hid hp
      generalize hst : cmpI (m : Int) ls xs = st at *
      obtain ⟨i0, hi, hz0, hz10, hz20⟩ := info_parts infoInt
      clear hv hp ht1 ht2 hst
      go_wp2_with fail
      refine (CI _ L1.out.sl L1.out.sli).mono ?_
      rintro e w2 ⟨A2, g2, c2, rfl, hg2, ho2, hb2, hc2⟩
      have L2 := Lib.hid (L1.out.call hb2)
      have P2 := Lib.hid ho2
      clear hb2 ho2 hg2 L1 hG
      obtain ⟨z2, c20, c21, -, -⟩ := L2.out.1.1.two
      go_wp2_with fail
      refine (CS _ L2.out.sl L2.out.sli).mono ?_
      rintro e w3 ⟨A3, g3, c3, rfl, hg3, ho3, hb3, hc3⟩
      have L3 := Lib.hid (L2.out.call hb3)
      have P3 := Lib.hid (P2.out.below hb3)
      have T3 := Lib.hid ho3
      clear hb3 ho3 hg3 L2 P2 z2 c20 c21 CS
      go_wp2_with fail
      refine (sameLabels_same A2 A3 st c2 c3 w3 (by omega) P3.out.slb T3.out.slb).mono ?_
      rintro e w4 ⟨rfl, hb4⟩
      have L4 := Lib.hid (L3.out.call hb4)
      have P4 := Lib.hid (P3.out.below hb4)
      clear hb4 L3 P3 T3 CI
      have Q0 : Hid (PS w4 (.slice (some ⟨w4.heap.size, 0, none⟩) 0 0) [] (w4.alloc (.cells #[] 3))) :=
        Lib.hid ⟨⟨by simp, .inr ⟨w4.heap.size, 0, #[], rfl, Nat.le_refl _, Box.new w4 3 #[], Nat.le_refl _, by omega, rfl, by simp⟩⟩, by (repeat (first | exact Below.refl _ _ | (refine Below.alloc ?_ (by first | exact Nat.le_refl _ | omega | (simp; done) | (simp; omega)) _) | (refine Below.setCell ?_ (by first | exact Nat.le_refl _ | omega | (simp; done) | (simp; omega)) _) | exact Below.drew ‹_›))⟩
      go_wp2_with fail
      go_loopw [9, 10] (fun v i wr => ∃ (k : Nat) (r : List Int), k ≤ xs.length ∧ i = .int .i64 ((k : Int) - 1) ∧ Hid (r = (xs.drop k).reverse) ∧ PS w4 v r wr) (fun _ i _ => (intOf i + 1).toNat)
      case atStart => exact ⟨xs.length, [], Nat.le_refl _, by go_num, Lib.hid (by rw [List.drop_length]; rfl), Q0.out⟩
      case round =>
        obtain ⟨k, r, hk, rfl, HR, hq⟩ := hrel
        have Q := Lib.hid hq
        have L5 := Lib.hid (L4.out.call hq.bel)
        clear hq Q0
        obtain ⟨z5, c50, c51, -, -⟩ := L5.out.1.1.two
        have hrl : r.length ≤ 9 := by rw [HR.out]; simp; omega
        by_cases hk0 : k = 0
        · subst hk0
          have HRV : Hid (r = xs.reverse) := Lib.hid (by rw [HR.out]; rfl)
          obtain ⟨A9, g9, c9, rfl, hg9, hc9, ho9⟩ := own_slicec Q.out.row Q.out.bel.size
          have O9 := Lib.hid ho9
          have CB := fun W (h1 : Sl W W.heap.size A1 ls) (h2 : Sli W W.heap.size A9 r) => stackCompile_impl (m : Int) A1 ls c1 A9 r c9 W (by omega) (by omega) hc9 h1 h2
          unfold CmpR at CB
          have e1 : pvB (m : Int) ls r = true := by rw [HRV.out]; exact HT.out
          have e2 : (cmpI (m : Int) ls r).length = st.length := by rw [HRV.out]; exact HT2.out
          have HE2 := Lib.hid e2
          have h8r := cmpI_len (m : Int) ls r
          rw [e1] at CB
          generalize cmpI (m : Int) ls r = rt at *
          clear ho9 e1 e2 hk HR HRV
          go_wp2_with fail
          refine (CB wr L5.out.sl O9.out.sli).mono ?_
          clear CB
          rintro e w6 ⟨A6, g6, c6, rfl, hg6, ho6, hb6, hc6⟩
          have L6 := Lib.hid (L5.out.call hb6)
          clear hb6 ho6 L5
          go_wp2_with fail
          go_ret
          exact ⟨ret_bool (by rw [HE2.out]; simp), L6.out.1.2.2⟩
        · obtain ⟨p, hp1⟩ : ∃ p : Nat, k = p + 1 := ⟨k - 1, by omega⟩
          have hsub : (k : Int) - 1 = (p : Int) := by omega
          have hwp : IntKind.i64.wrap (p : Int) = (p : Int) := IntWalk.i64_in _ (by omega)
          have hpl : p < xs.length := by omega
          have HP1 := Lib.hid hp1
          rw [hsub]
          clear hk0 hp1
          obtain ⟨x, hx⟩ : ∃ x, xs[p]? = some x := ⟨_, List.getElem?_eq_getElem hpl⟩
          obtain ⟨zx, hcx'⟩ := L5.out.node hx
          have HX := Lib.hid hx
          have HRN : Hid (r ++ [x] = (xs.drop p).reverse) := Lib.hid (by rw [rev_next HX.out, HR.out, HP1.out])
          clear hx
          go_wp2_with (at_builtin; refine wpList_append_own_at _ rfl _ _ 25 rfl w4.heap.size 3 i0 _ 1 8 Try.underlying25 hi hz0 hz10 hz20 rfl (by decide) _ r.length _ rfl (Q.out.row.alloc _) ⟨wr.heap.size, 0, none⟩ 1 1 [.int .i64 x] rfl rfl (cell_one_new _ _ _) (fun u hu => by simp at hu; subst hu; rfl) (by unfold maxLen; omega) (by omega) (by have := Q.out.bel.size; simp; omega) ?_; intro v' w9 hown' hgrow hnil hat; have Q9 := Lib.hid ((Q.out.alloc (.cells #[.int .i64 x] 3)).append (news := [x]) (m := 1) hown' rfl hgrow); clear hown' hgrow hnil hat)
          go_roundw
          case rel => exact ⟨p, r ++ [x], by omega, by first | rfl | go_num, HRN, Q9.out⟩
          case measure => simp [intOf]
  · go_enter Try.func9, Try.ntmps9
    go_wp2
    go_ret
    exact ⟨rfl, by (repeat (first | exact Below.refl _ _ | (refine Below.alloc ?_ (by first | exact Nat.le_refl _ | omega | (simp; done) | (simp; omega)) _) | (refine Below.setCell ?_ (by first | exact Nat.le_refl _ | omega | (simp; done) | (simp; omega)) _) | exact Below.drew ‹_›))⟩

end Go.Proofs.Ytenlofomkchlaac
