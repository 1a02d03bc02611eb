/-
  The walk of FnStackEnd over this seat.
-/
import Derived.Test.YtblmmmeeljidiaaLc
namespace Go.Proofs.Ytblmmmeeljidiaa
open Go.RowKit Go.Maps

set_option maxRecDepth 100000 in
set_option maxHeartbeats 1600000 in
theorem fnStackEnd_walk (A : Option Addr) (len c : Nat) (f : Nat → Int) (w : World) (hlc : len ≤ c) (hc : c ≤ maxLen) (hB : Byt w w.heap.size A len f) :
   Calls Try.prog 8 #[.slice A len c] w fun e w' => e = .returned (.bool true) ∧ Below w.heap.size w w' := by
  have HB := Lib.hid hB
  clear hB
  by_cases hl : len ≤ 1048576
  · go_enter Try.func8, Try.ntmps8
    go_wp2_with fail
    refine (drawStackEnd_any A len c f w hlc hc HB.out).mono ?_
    rintro e w1 ⟨n, ls, A1, g1, c1, x, st, Ax, gx, cx, rfl, ⟨hn0, hn1, hls, hg1, ho1, hb1⟩, hx0, hx1, hs9, hok, hox, hgx, hcx⟩
    have L1 := Lib.hid (show LC w w1.heap.size n ls A1 g1 c1 Ax gx st (w1.alloc (.cells #[.int .i64 n, .slice A1 ls.length c1] 32)) from ⟨⟨Box.new w1 _ _, ho1.alloc _, hb1.alloc hb1.size _⟩, hox.alloc _⟩)
    clear ho1 hb1 HB hox hok
    generalize hG : w1.heap.size = G at *
    have CI := fun W (h1 : Sl W W.heap.size A1 ls) (h2 : Slb W W.heap.size Ax st) => stackEnd_impl n A1 ls c1 x Ax st cx W (by omega) (by omega) h1 h2
    have CS := fun W (h1 : Sl W W.heap.size A1 ls) (h2 : Slb W W.heap.size Ax st) => stackEnd_spec n A1 ls c1 x Ax st cx W (by omega) (by omega) (by omega) h1 h2
    cases ho : endI n ls x st with
    | none =>
      simp only [ho, stepV] at CI CS
      clear ho
      go_wp2_with fail
      refine (CI _ L1.out.sl L1.out.slb).mono ?_
      rintro e w2 ⟨rfl, hb2⟩
      have L2 := Lib.hid (L1.out.call hb2)
      clear hb2 L1
      clear hG
      obtain ⟨z2, c20, c21, -, -⟩ := L2.out.1.1.two
      go_wp2_with fail
      refine (CS _ L2.out.sl L2.out.slb).mono ?_
      rintro e w3 ⟨rfl, hb3⟩
      have L3 := Lib.hid (L2.out.call hb3)
      clear hb3 L2
      go_wp2_with fail
      go_ret
      exact ⟨rfl, L3.out.1.2.2⟩
    | some z =>
      simp only [ho, stepV] at CI CS
      have HO := Lib.hid ho
      clear ho
      go_wp2_with fail
      refine (CI _ L1.out.sl L1.out.slb).mono ?_
      rintro e w2 ⟨rfl, hb2⟩
      have L2 := Lib.hid (L1.out.call hb2)
      clear hb2 L1
      clear hG
      obtain ⟨z2, c20, c21, -, -⟩ := L2.out.1.1.two
      go_wp2_with fail
      refine (CS _ L2.out.sl L2.out.slb).mono ?_
      rintro e w3 ⟨rfl, hb3⟩
      have L3 := Lib.hid (L2.out.call hb3)
      clear hb3 L2
      clear z2 c20 c21
      obtain ⟨z3, c30, c31, -, -⟩ := L3.out.1.1.two
      by_cases hs0 : st.length = 0
      · obtain rfl : st = [] := List.eq_nil_of_length_eq_zero hs0
        obtain rfl := end_nil HO.out
        clear hs0
        simp only [List.length_nil] at *
        go_wp2_with fail
        go_ret
        exact ⟨ret_bool (by simp), L3.out.1.2.2⟩
      · obtain ⟨q, hq⟩ : ∃ q, st.length = q + 1 := ⟨st.length - 1, by omega⟩
        obtain ⟨l, hl0⟩ : ∃ l, st[q]? = some l := ⟨_, List.getElem?_eq_getElem (by omega)⟩
        have hsub : (st.length : Int) - 1 = (q : Int) := by omega
        have hwp : IntKind.i64.wrap (q : Int) = (q : Int) := IntWalk.i64_in _ (by omega)
        have hql : q < st.length := by omega
        have hse : ((st.length : Int) == 0) = false := by rw [beq_eq_false_iff_ne]; omega
        have hfact := end_last HO.out hl0 (by omega)
        obtain ⟨rfl, zx, d0, d1⟩ := L3.out.lab hl0
        have HQ := Lib.hid hq
        obtain ⟨lk, la⟩ := l
        dsimp only at *
        clear hs0 hq hl0
        rcases hfact with ⟨rfl, rfl⟩ | ⟨rfl, j, xl, rfl, hj, hz⟩
        · go_wp2_with fail
          go_ret
          exact ⟨ret_bool (by simp), L3.out.1.2.2.alloc L3.out.1.2.2.size _⟩
        · obtain ⟨rfl, e0, e1, e2⟩ := L3.out.1.link hj
          have hjl := (List.getElem?_eq_some_iff.1 hj).1
          have zg := (L3.out.1.2.1 (by omega)).2.lt
          clear hj
          rcases hz with rfl | rfl
          · go_wp2_with fail
            go_ret
            exact ⟨ret_bool (by simp), L3.out.1.2.2.alloc L3.out.1.2.2.size _⟩
          · go_wp2_with fail
            all_goals
              go_ret
              exact ⟨ret_bool (by simp_all), L3.out.1.2.2.alloc L3.out.1.2.2.size _⟩
  · go_enter Try.func8, Try.ntmps8
    go_wp2
    go_ret
    exact ⟨rfl, by (repeat (first | exact Below.refl _ _ | (refine Below.alloc ?_ (by first | exact Nat.le_refl _ | omega | (simp; done) | (simp; omega)) _) | (refine Below.setCell ?_ (by first | exact Nat.le_refl _ | omega | (simp; done) | (simp; omega)) _) | exact Below.drew ‹_›))⟩

end Go.Proofs.Ytblmmmeeljidiaa
