/-
  The walk of FnStackCostLeast over this seat.
-/
import Derived.Test.YtblmmmeeljidiabLd
namespace Go.Proofs.Ytblmmmeeljidiab
open Go.RowKit Go.Maps

set_option maxRecDepth 100000 in
set_option maxHeartbeats 1600000 in
theorem fnStackCostLeast_walk (A : Option Addr) (len c : Nat) (f : Nat → Int) (w : World) (hlc : len ≤ c) (hc : c ≤ maxLen) (hB : Byt w w.heap.size A len f) :
   Calls Try.prog 5 #[.slice A len c] w fun e w' => e = .returned (.bool true) ∧ Below w.heap.size w w' := by
  have HB := Lib.hid hB
  clear hB
  by_cases hl : len ≤ 1048576
  · go_enter Try.func5, Try.ntmps5
    go_wp2_with fail
    refine (drawStackCost_any A len c f w hlc hc HB.out).mono ?_
    rintro e w1 ⟨n, ls, A1, g1, c1, x, st, _, gx, cx, rfl, ⟨hn0, hn1, hls, hg1, ho1, hb1⟩, hx0, hx1, hs9, hok, hox, hgx, hcx, rfl, hgl⟩
    have L1 := Lib.hid (show LC w w1.heap.size n ls A1 g1 c1 (some ⟨gx, 0, none⟩) gx st (w1.alloc (.cells #[.int .i64 n, .slice A1 ls.length c1] 25)) from ⟨⟨Box.new w1 _ _, ho1.alloc _, hb1.alloc hb1.size _⟩, hox.alloc _⟩)
    clear ho1 hb1 HB hox hok
    generalize hG : w1.heap.size = G at *
    have CI := fun W (h1 : Sl W W.heap.size A1 ls) (h2 : Slb W W.heap.size (some ⟨gx, 0, none⟩) st) => stackCost_impl n A1 ls c1 x (some ⟨gx, 0, none⟩) st cx W (by omega) (by omega) h1 h2
    have CS := fun W (h1 : Sl W W.heap.size A1 ls) (h2 : Slb W W.heap.size (some ⟨gx, 0, none⟩) st) => stackCost_spec n A1 ls c1 x (some ⟨gx, 0, none⟩) st cx W (by omega) (by omega) (by omega) h1 h2
    have HC := Lib.hid (cost_sign n ls x st)
    cases ho : endI n ls x st with
    | none =>
      have hcs := HC.out.2 ho
      rw [hcs] at CI CS
      clear ho HC hcs
      go_wp2_with fail
      refine (CI _ L1.out.sl L1.out.slb).mono ?_
      rintro e w2 ⟨rfl, hb2⟩
      have L2 := Lib.hid (L1.out.call hb2)
      clear hb2 L1
      clear hG
      obtain ⟨z2, c20, c21, -, -⟩ := L2.out.1.1.two
      go_wp2_with fail
      refine (CS _ L2.out.sl L2.out.slb).mono ?_
      rintro e w3 ⟨rfl, hb3⟩
      have L3 := Lib.hid (L2.out.call hb3)
      clear hb3 L2
      go_wp2_with fail
      go_ret
      exact ⟨rfl, L3.out.1.2.2⟩
    | some z =>
      have HO := Lib.hid ho
      have hcs := HC.out.1 (by rw [ho]; rfl)
      obtain ⟨m, q, rfl, rfl, hq, hg, hx, hle, hone, h0⟩ := cost_least ho
      have CE := fun W (h1 : Sl W W.heap.size A1 ls) (h2 : Slb W W.heap.size (some ⟨gx, 0, none⟩) st) => stackEnd_impl (m : Int) A1 ls c1 x (some ⟨gx, 0, none⟩) st cx W (by omega) (by omega) h1 h2
      simp only [ho, stepV] at CE
      have C1 := fun (B' : Option Addr) (cb' : Nat) W (h1 : Sl W W.heap.size A1 ls) (h2 : Slb W W.heap.size B' [(⟨1, (q : Int)⟩ : Lb)]) => stackCost_impl (m : Int) A1 ls c1 x B' [(⟨1, (q : Int)⟩ : Lb)] cb' W (by omega) (by simp) h1 h2
      have CD := fun W (h1 : Sl W W.heap.size A1 ls) => dist_any m A1 ls c1 x q W (by omega) hg hx hq h1
      rw [hone] at C1
      generalize bf (m : Int) ls x (q : Int) = d at *
      generalize costS (m : Int) ls x st = tot at *
      clear ho HC hone HO
      go_wp2_with fail
      refine (CI _ L1.out.sl L1.out.slb).mono ?_
      rintro e w2 ⟨rfl, hb2⟩
      have L2 := Lib.hid (L1.out.call hb2)
      clear hb2 L1
      clear hG
      obtain ⟨z2, c20, c21, -, -⟩ := L2.out.1.1.two
      go_wp2_with fail
      refine (CS _ L2.out.sl L2.out.slb).mono ?_
      rintro e w3 ⟨rfl, hb3⟩
      have L3 := Lib.hid (L2.out.call hb3)
      clear hb3 L2
      clear z2 c20 c21
      obtain ⟨z3, c30, c31, -, -⟩ := L3.out.1.1.two
      go_wp2_with fail
      refine (CE _ L3.out.sl L3.out.slb).mono ?_
      rintro e w4 ⟨rfl, hb4⟩
      have L4 := Lib.hid (L3.out.call hb4)
      clear hb4 L3
      clear z3 c30 c31
      obtain ⟨z4, c40, c41, -, -⟩ := L4.out.1.1.two
      have L5 := Lib.hid (L4.out.alloc (.cells #[.int .i64 1, .int .i64 (q : Int)] 40))
      have B5 : Ownb (w4.alloc (.cells #[.int .i64 1, .int .i64 (q : Int)] 40)) (some ⟨w4.heap.size, 0, none⟩) w4.heap.size [(⟨1, (q : Int)⟩ : Lb)] := fun _ => ⟨rfl, _, Box.new w4 40 #[.int .i64 1, .int .i64 (q : Int)], fun k l hl => by
        have hk := (List.getElem?_eq_some_iff.1 hl).1
        obtain rfl : k = 0 := by simpa using hk
        simp at hl
        subst hl
        exact ⟨rfl, rfl⟩⟩
      have HB5 := Lib.hid B5
      clear B5 CI CS CE
      go_wp2_with fail
      refine (C1 _ 1 _ L5.out.sl HB5.out.slb).mono ?_
      rintro e w6 ⟨rfl, hb6⟩
      have L6 := Lib.hid (L5.out.call hb6)
      clear hb6 L4 L5 HB5 c40 c41 z4 C1
      obtain ⟨z6, c60, c61, -, -⟩ := L6.out.1.1.two
      go_wp2_with (first
        | (go_at_call 20; refine (CD _ L6.out.sl).mono ?_; rintro e w7 ⟨rfl, hb7⟩; have L7 := Lib.hid (L6.out.call hb7); obtain ⟨z7, c70, c71, -, -⟩ := L7.out.1.1.two; clear hb7 L6 z6 c60 c61)
        | (go_at_call 20; refine (CD _ L7.out.sl).mono ?_; rintro e w8 ⟨rfl, hb8⟩; have L8 := Lib.hid (L7.out.call hb8); clear hb8 L7))
      go_ret
      exact ⟨ret_bool (by simp), L8.out.1.2.2⟩
  · go_enter Try.func5, Try.ntmps5
    go_wp2
    go_ret
    exact ⟨rfl, by (repeat (first | exact Below.refl _ _ | (refine Below.alloc ?_ (by first | exact Nat.le_refl _ | omega | (simp; done) | (simp; omega)) _) | (refine Below.setCell ?_ (by first | exact Nat.le_refl _ | omega | (simp; done) | (simp; omega)) _) | exact Below.drew ‹_›))⟩

end Go.Proofs.Ytblmmmeeljidiab
