/-
  The walk of FnStackCost over this seat.
-/
import Derived.Test.YtblmmmeeljidiabLd
namespace Go.Proofs.Ytblmmmeeljidiab
open Go.RowKit Go.Maps

set_option maxRecDepth 100000 in
set_option maxHeartbeats 1600000 in
theorem fnStackCost_walk (A : Option Addr) (len c : Nat) (f : Nat → Int) (w : World) (hlc : len ≤ c) (hc : c ≤ maxLen) (hB : Byt w w.heap.size A len f) :
   Calls Try.prog 4 #[.slice A len c] w fun e w' => e = .returned (.bool true) ∧ Below w.heap.size w w' := by
  have HB := Lib.hid hB
  clear hB
  by_cases hl : len ≤ 1048576
  · go_enter Try.func4, Try.ntmps4
    go_wp2_with fail
    refine (drawStackCost_any A len c f w hlc hc HB.out).mono ?_
    rintro e w1 ⟨n, ls, A1, g1, c1, x, st, _, gx, cx, rfl, ⟨hn0, hn1, hls, hg1, ho1, hb1⟩, hx0, hx1, hs9, hok, hox, hgx, hcx, rfl, hgl⟩
    have L1 := Lib.hid (show LC w w1.heap.size n ls A1 g1 c1 (some ⟨gx, 0, none⟩) gx st (w1.alloc (.cells #[.int .i64 n, .slice A1 ls.length c1] 25)) from ⟨⟨Box.new w1 _ _, ho1.alloc _, hb1.alloc hb1.size _⟩, hox.alloc _⟩)
    clear ho1 hb1 HB hox hok
    generalize hG : w1.heap.size = G at *
    have CI := fun W (h1 : Sl W W.heap.size A1 ls) (h2 : Slb W W.heap.size (some ⟨gx, 0, none⟩) st) => stackCost_impl n A1 ls c1 x (some ⟨gx, 0, none⟩) st cx W (by omega) (by omega) h1 h2
    have CS := fun W (h1 : Sl W W.heap.size A1 ls) (h2 : Slb W W.heap.size (some ⟨gx, 0, none⟩) st) => stackCost_spec n A1 ls c1 x (some ⟨gx, 0, none⟩) st cx W (by omega) (by omega) (by omega) h1 h2
    have HC := Lib.hid (cost_sign n ls x st)
    cases ho : endI n ls x st with
    | none =>
      have hcs := HC.out.2 ho
      rw [hcs] at CI CS
      clear ho HC hcs
      go_wp2_with fail
      refine (CI _ L1.out.sl L1.out.slb).mono ?_
      rintro e w2 ⟨rfl, hb2⟩
      have L2 := Lib.hid (L1.out.call hb2)
      clear hb2 L1
      clear hG
      obtain ⟨z2, c20, c21, -, -⟩ := L2.out.1.1.two
      go_wp2_with fail
      refine (CS _ L2.out.sl L2.out.slb).mono ?_
      rintro e w3 ⟨rfl, hb3⟩
      have L3 := Lib.hid (L2.out.call hb3)
      clear hb3 L2
      go_wp2_with fail
      go_ret
      exact ⟨rfl, L3.out.1.2.2⟩
    | some z =>
      have HO := Lib.hid ho
      have hcs := HC.out.1 (by rw [ho]; rfl)
      have hpc := costS_some (nn := n) (ls := ls) (s := x) (st := st) (by rw [ho]; rfl)
      have hpp := pathS_facts (n := n) (ls := ls) (x := x) (st := st) (by rw [pathS_some (by rw [ho]; rfl)]; simp)
      have hpl : (pathS n ls x st).length ≤ 57 := pathS_len n ls x st
      have CP := fun W (h1 : Sl W W.heap.size A1 ls) (h2 : Slb W W.heap.size (some ⟨gx, 0, none⟩) st) => stackPath_impl n A1 ls c1 x (some ⟨gx, 0, none⟩) st cx W (by omega) (by omega) h1 h2
      have hps0 : 0 < (pathS n ls x st).length := by rw [pathS_some (by rw [ho]; rfl)]; simp
      obtain ⟨m, z', rfl, hg, -, -, -, hway⟩ := hpp
      rw [hpc] at CI CS hcs
      generalize pathS (m : Int) ls x st = xs at *
      have HLK : Hid (∀ (k : Nat) (a b : Int), xs[k]? = some a → xs[k + 1]? = some b → ∃ (j : Nat) (l : Lk), linkI (m : Int) ls a b = (j : Int) ∧ ls[j]? = some l ∧ lcost (m : Int) ls a b = l.c ∧ 1 ≤ l.c ∧ l.c ≤ 20) := Lib.hid (fun k a b ha hb => way_link hg (hway k a b ha hb))
      have HBD : Hid (∀ k, 0 ≤ along (m : Int) ls (xs.take k) ∧ along (m : Int) ls (xs.take k) ≤ 1140) := Lib.hid (fun k => by
        have := along_bound hg (hway.take k)
        have : (xs.take k).length ≤ 57 := by simp; omega
        omega)
      have HA1 : Hid (along (m : Int) ls (xs.take 1) = 0) := Lib.hid (along_one _ _ _)
      have HAE : Hid (along (m : Int) ls (xs.take xs.length) = along (m : Int) ls xs) := Lib.hid (by rw [List.take_length])
      generalize along (m : Int) ls xs = tot at *
      clear ho hpc HC hway hg HO
      go_wp2_with fail
      refine (CI _ L1.out.sl L1.out.slb).mono ?_
      rintro e w2 ⟨rfl, hb2⟩
      have L2 := Lib.hid (L1.out.call hb2)
      clear hb2 L1
      clear hG
      obtain ⟨z2, c20, c21, -, -⟩ := L2.out.1.1.two
      go_wp2_with fail
      refine (CS _ L2.out.sl L2.out.slb).mono ?_
      rintro e w3 ⟨rfl, hb3⟩
      have L3 := Lib.hid (L2.out.call hb3)
      clear hb3 L2
      clear z2 c20 c21
      obtain ⟨z3, c30, c31, -, -⟩ := L3.out.1.1.two
      go_wp2_with fail
      refine (CP _ L3.out.sl L3.out.slb).mono ?_
      rintro e w4 ⟨A4, g4, c4, rfl, hg4, ho4, hb4, -⟩
      have L4 := Lib.hid (L3.out.call hb4)
      have P4 := Lib.hid ho4
      clear hb4 ho4 L3 z3 c30 c31 CP CI CS hg4
      go_wp2_with fail
      go_loopw [9, 10] (fun q i wr => ∃ k : Nat, 1 ≤ k ∧ k ≤ xs.length ∧ i = .int .i64 (k : Int) ∧ q = .int .i64 (along (m : Int) ls (xs.take k)) ∧ LC w G (m : Int) ls A1 g1 c1 (some ⟨gx, 0, none⟩) gx st wr ∧ Own1i wr A4 g4 xs) (fun _ i _ => xs.length - (intOf i).toNat)
      case atStart => exact ⟨1, Nat.le_refl _, hps0, rfl, by rw [HA1.out], L4.out, P4.out⟩
      case round =>
        obtain ⟨k, hk1, hk, rfl, rfl, hL, hP⟩ := hrel
        have L6 := Lib.hid hL
        have P6 := Lib.hid hP
        clear hL hP L4 P4
        obtain ⟨z6, c60, c61, -, -⟩ := L6.out.1.1.two
        by_cases hlt : k < xs.length
        · obtain ⟨p, hp1⟩ : ∃ p : Nat, k = p + 1 := ⟨k - 1, by omega⟩
          have hsub : (k : Int) - 1 = (p : Int) := by omega
          have hwp : IntKind.i64.wrap (p : Int) = (p : Int) := IntWalk.i64_in _ (by omega)
          have hplt : p < xs.length := by omega
          obtain ⟨a, ha⟩ : ∃ a, xs[p]? = some a := ⟨_, List.getElem?_eq_getElem hplt⟩
          obtain ⟨b, hb⟩ : ∃ b, xs[k]? = some b := ⟨_, List.getElem?_eq_getElem hlt⟩
          have hb2 : xs[p + 1]? = some b := by rw [← hp1]; exact hb
          obtain ⟨j, l, e1, e2, e3, e4, e5⟩ := HLK.out p a b ha hb2
          have HAN : Hid (along (m : Int) ls (xs.take (k + 1)) = along (m : Int) ls (xs.take k) + l.c) := Lib.hid (by rw [hp1, along_next _ _ ha hb2, e3])
          have hbd := HBD.out k
          have hjl := (List.getElem?_eq_some_iff.1 e2).1
          obtain ⟨rfl, d0, d1, d2⟩ := L6.out.1.link e2
          have zg1 := (L6.out.1.2.1 (by omega)).2.lt
          have CL : ∀ X : Ext wr, Calls Try.prog 19 #[gval (m : Int) (some ⟨g1, 0, none⟩) ls.length c1, .int .i64 a, .int .i64 b] X.w fun e w' => e = .returned (.int .i64 (j : Int)) ∧ Below X.w.heap.size X.w w' := fun X => by
            have := link_impl (m : Int) (some ⟨g1, 0, none⟩) ls c1 a b X.w (by omega) ((L6.out.sl.below X.below).more X.below.size)
            rwa [e1] at this
          obtain ⟨rfl, zg, hca⟩ := P6.out.at ha
          obtain ⟨-, -, hcb⟩ := P6.out.at hb
          have HP1 := Lib.hid hp1
          generalize along (m : Int) ls (xs.take k) = q at *
          clear ha hb hb2 e1 e2 e3 hp1
          have hY := fun (x : Ext wr) (b o : Nat) (h : b < wr.heap.size) => x.cell b o h
          go_wp2_with fail
          refine wp_region_ext (by kernel_rfl) (by kernel_rfl) ?_
          repeat (go_big_quiet_step (first | (go_at_call 19; exact Calls.ext_of (CL _))))
          (refine wpQuiet_nil ?_); (rintro _ ⟨X, rfl⟩); (have hw1 := X.below); (generalize X.w = w1 at *); (clear X)
          clear hY
          have L7 := Lib.hid (L6.out.call hw1)
          have P7 := Lib.hid (P6.out.below hw1)
          clear hw1
          go_wp2_with fail
          go_roundw
          case rel => exact ⟨k + 1, by omega, hlt, by go_num, by rw [HAN.out], L7.out, P7.out⟩
          case measure => simp [intOf]; omega
        · obtain rfl : k = xs.length := by omega
          have hae := HAE.out
          generalize along (m : Int) ls (xs.take xs.length) = q at *
          subst hae
          go_wp2_with fail
          go_ret
          exact ⟨ret_bool (by simp), L6.out.1.2.2⟩
  · go_enter Try.func4, Try.ntmps4
    go_wp2
    go_ret
    exact ⟨rfl, by (repeat (first | exact Below.refl _ _ | (refine Below.alloc ?_ (by first | exact Nat.le_refl _ | omega | (simp; done) | (simp; omega)) _) | (refine Below.setCell ?_ (by first | exact Nat.le_refl _ | omega | (simp; done) | (simp; omega)) _) | exact Below.drew ‹_›))⟩

end Go.Proofs.Ytblmmmeeljidiab
