/-
  The walk of FnStackUnique over this seat.
-/
import Derived.Test.YtblmmmeeljidiabLw
namespace Go.Proofs.Ytblmmmeeljidiab
open Go.RowKit Go.Maps

set_option maxRecDepth 100000 in
set_option maxHeartbeats 1600000 in
theorem fnStackUnique_walk (A : Option Addr) (len c : Nat) (f : Nat → Int) (w : World) (hlc : len ≤ c) (hc : c ≤ maxLen) (hB : Byt w w.heap.size A len f) :
   Calls Try.prog 8 #[.slice A len c] w fun e w' => e = .returned (.bool true) ∧ Below w.heap.size w w' := by
  have HB := Lib.hid hB
  clear hB
  by_cases hl : len ≤ 1048576
  · go_enter Try.func8, Try.ntmps8
    go_wp2_with fail
    refine (drawStackUnique_any A len c f w hlc hc HB.out).mono ?_
    rintro e w1 ⟨n, ls, A1, g1, c1, x, st, _, gx, cx, rfl, ⟨hn0, hn1, hls, hg1, ho1, hb1⟩, hx0, hx1, hs9, hok, hox, hgx, hcx, rfl, hgl⟩
    have L1 := Lib.hid (show LC w w1.heap.size n ls A1 g1 c1 (some ⟨gx, 0, none⟩) gx st (w1.alloc (.cells #[.int .i64 n, .slice A1 ls.length c1] 25)) from ⟨⟨Box.new w1 _ _, ho1.alloc _, hb1.alloc hb1.size _⟩, hox.alloc _⟩)
    clear ho1 hb1 HB hox hok
    generalize hG : w1.heap.size = G at *
    have CI := fun W (h1 : Sl W W.heap.size A1 ls) (h2 : Slb W W.heap.size (some ⟨gx, 0, none⟩) st) => stackUnique_impl n A1 ls c1 x (some ⟨gx, 0, none⟩) st cx W (by omega) (by omega) h1 h2
    have CS := fun W (h1 : Sl W W.heap.size A1 ls) (h2 : Slb W W.heap.size (some ⟨gx, 0, none⟩) st) => stackUnique_spec n A1 ls c1 x (some ⟨gx, 0, none⟩) st cx W (by omega) (by omega) (by omega) h1 h2
    cases hu : uniqS n ls x st with
    | false =>
      rw [hu] at CI CS
      clear hu
      go_wp2_with fail
      refine (CI _ L1.out.sl L1.out.slb).mono ?_
      rintro e w2 ⟨rfl, hb2⟩
      have L2 := Lib.hid (L1.out.call hb2)
      clear hb2 L1
      clear hG
      obtain ⟨z2, c20, c21, -, -⟩ := L2.out.1.1.two
      go_wp2_with fail
      refine (CS _ L2.out.sl L2.out.slb).mono ?_
      rintro e w3 ⟨rfl, hb3⟩
      have L3 := Lib.hid (L2.out.call hb3)
      clear hb3 L2
      go_wp2_with fail
      go_ret
      exact ⟨rfl, L3.out.1.2.2⟩
    | true =>
      rw [hu] at CI CS
      have CP := fun W (h1 : Sl W W.heap.size A1 ls) (h2 : Slb W W.heap.size (some ⟨gx, 0, none⟩) st) => stackPath_impl n A1 ls c1 x (some ⟨gx, 0, none⟩) st cx W (by omega) (by omega) h1 h2
      have CX := fun (t : Int) W (h1 : Sl W W.heap.size A1 ls) (h2 : Slb W W.heap.size (some ⟨gx, 0, none⟩) st) => stackCrosses_impl n A1 ls c1 x (some ⟨gx, 0, none⟩) st cx t W (by omega) (by omega) h1 h2
      have hpl : (pathS n ls x st).length ≤ 57 := pathS_len n ls x st
      have HX : Hid (∀ k : Nat, crossS n ls x st (k : Int) = onT n ls (pathS n ls x st) (k : Int) ((pathS n ls x st).length - 1)) := Lib.hid (fun k => onT_all hu k)
      have HSU : Hid (∀ (k i : Nat) (a b : Int), (pathS n ls x st)[i]? = some a → (pathS n ls x st)[i + 1]? = some b → onT n ls (pathS n ls x st) (k : Int) (i + 1) = (onT n ls (pathS n ls x st) (k : Int) i || decide (linkI n ls a b = (k : Int)))) := Lib.hid (fun k i a b ha hb => onT_succ ha hb)
      have HZ0 : Hid (∀ k : Nat, onT n ls (pathS n ls x st) (k : Int) 0 = false) := Lib.hid (fun k => rfl)
      generalize pathS n ls x st = xs at *
      clear hu
      go_wp2_with fail
      refine (CI _ L1.out.sl L1.out.slb).mono ?_
      rintro e w2 ⟨rfl, hb2⟩
      have L2 := Lib.hid (L1.out.call hb2)
      clear hb2 L1
      clear hG
      obtain ⟨z2, c20, c21, -, -⟩ := L2.out.1.1.two
      go_wp2_with fail
      refine (CS _ L2.out.sl L2.out.slb).mono ?_
      rintro e w3 ⟨rfl, hb3⟩
      have L3 := Lib.hid (L2.out.call hb3)
      clear hb3 L2
      clear z2 c20 c21
      obtain ⟨z3, c30, c31, -, -⟩ := L3.out.1.1.two
      go_wp2_with fail
      refine (CP _ L3.out.sl L3.out.slb).mono ?_
      rintro e w4 ⟨A4, g4, c4, rfl, hg4, ho4, hb4, -⟩
      have L4 := Lib.hid (L3.out.call hb4)
      have P4 := Lib.hid ho4
      clear hb4 ho4 L3 z3 c30 c31 CP hg4 CI CS
      go_wp2_with fail
      go_loopw [9] (fun i wr => ∃ k : Nat, k ≤ ls.length ∧ i = .int .i64 (k : Int) ∧ LC w G n ls A1 g1 c1 (some ⟨gx, 0, none⟩) gx st wr ∧ Own1i wr A4 g4 xs) (fun i _ => ls.length - (intOf i).toNat)
      case atStart => exact ⟨0, Nat.zero_le _, rfl, L4.out, P4.out⟩
      case round =>
        obtain ⟨k, hk, rfl, hL, hP⟩ := hrel
        have L5 := Lib.hid hL
        have P5 := Lib.hid hP
        clear hL hP L4 P4
        obtain ⟨z5, c50, c51, -, -⟩ := L5.out.1.1.two
        by_cases hlt : k < ls.length
        · go_wp2_with fail
          clear c50 c51 z5
          go_loopw [10, 11] (fun o i wr => ∃ (j : Nat) (on : Bool), (j + 1 ≤ xs.length ∨ j = 0) ∧ i = .int .i64 ((j : Int) + 1) ∧ o = .bool on ∧ Hid (on = onT n ls xs (k : Int) j) ∧ LC w G n ls A1 g1 c1 (some ⟨gx, 0, none⟩) gx st wr ∧ Own1i wr A4 g4 xs) (fun _ i _ => xs.length - (intOf i).toNat)
          case atStart => exact ⟨0, false, .inr rfl, rfl, rfl, Lib.hid (HZ0.out k).symm, L5.out, P5.out⟩
          case round =>
            obtain ⟨j, on, hj, rfl, rfl, HON, hL, hP⟩ := hrel
            have L6 := Lib.hid hL
            have P6 := Lib.hid hP
            clear hL hP L5 P5
            obtain ⟨z6, c60, c61, -, -⟩ := L6.out.1.1.two
            by_cases hjl : j + 1 < xs.length
            · have hsub : (j : Int) + 1 - 1 = (j : Int) := by omega
              have hwp : IntKind.i64.wrap (j : Int) = (j : Int) := IntWalk.i64_in _ (by omega)
              obtain ⟨a, ha⟩ : ∃ a, xs[j]? = some a := ⟨_, List.getElem?_eq_getElem (by omega)⟩
              obtain ⟨b, hb⟩ : ∃ b, xs[j + 1]? = some b := ⟨_, List.getElem?_eq_getElem hjl⟩
              have HS1 := Lib.hid (HSU.out k j a b ha hb)
              have CL : ∀ X : Ext wr, Calls Try.prog 19 #[gval n A1 ls.length c1, .int .i64 a, .int .i64 b] X.w fun e w' => e = .returned (.int .i64 (linkI n ls a b)) ∧ Below X.w.heap.size X.w w' := fun X =>
                link_impl n A1 ls c1 a b X.w (by omega) ((L6.out.sl.below X.below).more X.below.size)
              obtain ⟨rfl, zg, hca⟩ := P6.out.at ha
              obtain ⟨-, -, hcb⟩ := P6.out.at hb
              generalize linkI n ls a b = lj at *
              clear ha hb
              cases on with
              | true =>
                have HN1 : Hid (true = onT n ls xs (k : Int) (j + 1)) := Lib.hid (by rw [HS1.out, ← HON.out]; rfl)
                have hY := fun (x : Ext wr) (b o : Nat) (h : b < wr.heap.size) => x.cell b o h
                go_wp2_with fail
                refine wp_region_ext (by kernel_rfl) (by kernel_rfl) ?_
                repeat (go_big_quiet_step (fail))
                (refine wpQuiet_nil ?_); (rintro _ ⟨X, rfl⟩); (have hw1 := X.below); (generalize X.w = w1 at *); (clear X)
                clear hY
                have L7 := Lib.hid (L6.out.call hw1)
                have P7 := Lib.hid (P6.out.below hw1)
                clear hw1
                go_wp2_with fail
                go_roundw
                case rel => exact ⟨j + 1, true, .inl (by omega), by go_num, rfl, HN1, L7.out, P7.out⟩
                case measure => simp [intOf]; omega
              | false =>
                have HN1 : Hid (decide (lj = (k : Int)) = onT n ls xs (k : Int) (j + 1)) := Lib.hid (by rw [HS1.out, ← HON.out]; simp)
                have hY := fun (x : Ext wr) (b o : Nat) (h : b < wr.heap.size) => x.cell b o h
                by_cases hlj : lj = (k : Int)
                · have hlj' : (lj == (k : Int)) = true := by simp [hlj]
                  have HN2 : Hid (true = onT n ls xs (k : Int) (j + 1)) := Lib.hid (by rw [← HN1.out]; simp [hlj])
                  clear hlj HN1
                  go_wp2_with fail
                  refine wp_region_ext (by kernel_rfl) (by kernel_rfl) ?_
                  repeat (go_big_quiet_step (first | (go_at_call 19; exact Calls.ext_of (CL _))))
                  (refine wpQuiet_nil ?_); (rintro _ ⟨X, rfl⟩); (have hw1 := X.below); (generalize X.w = w1 at *); (clear X)
                  clear hY
                  have L7 := Lib.hid (L6.out.call hw1)
                  have P7 := Lib.hid (P6.out.below hw1)
                  clear hw1
                  go_wp2_with fail
                  go_roundw
                  case rel => exact ⟨j + 1, true, .inl (by omega), by go_num, rfl, HN2, L7.out, P7.out⟩
                  case measure => simp [intOf]; omega
                · have hlj' : (lj == (k : Int)) = false := by rw [beq_eq_false_iff_ne]; exact hlj
                  have HN2 : Hid (false = onT n ls xs (k : Int) (j + 1)) := Lib.hid (by rw [← HN1.out]; simp [hlj])
                  clear hlj HN1
                  go_wp2_with fail
                  refine wp_region_ext (by kernel_rfl) (by kernel_rfl) ?_
                  repeat (go_big_quiet_step (first | (go_at_call 19; exact Calls.ext_of (CL _))))
                  (refine wpQuiet_nil ?_); (rintro _ ⟨X, rfl⟩); (have hw1 := X.below); (generalize X.w = w1 at *); (clear X)
                  clear hY
                  have L7 := Lib.hid (L6.out.call hw1)
                  have P7 := Lib.hid (P6.out.below hw1)
                  clear hw1
                  go_wp2_with fail
                  go_roundw
                  case rel => exact ⟨j + 1, false, .inl (by omega), by go_num, rfl, HN2, L7.out, P7.out⟩
                  case measure => simp [intOf]; omega
            · have hjx : j = xs.length - 1 := by omega
              have hcx := CX (k : Int)
              rw [HX.out k, ← hjx, ← HON.out] at hcx
              have HJ := Lib.hid hjx
              clear hjx
              cases on with
              | true =>
                go_wp2_with (go_at_call 24; refine (hcx _ L6.out.sl L6.out.slb).mono ?_; rintro e w8 ⟨rfl, hb8⟩; have L8 := Lib.hid (L6.out.call hb8); have P8 := Lib.hid (P6.out.below hb8); clear hb8)
                go_roundw
                case rel => exact ⟨k + 1, hlt, by go_num, L8.out, P8.out⟩
                case measure => simp [intOf]; omega
              | false =>
                go_wp2_with (go_at_call 24; refine (hcx _ L6.out.sl L6.out.slb).mono ?_; rintro e w8 ⟨rfl, hb8⟩; have L8 := Lib.hid (L6.out.call hb8); have P8 := Lib.hid (P6.out.below hb8); clear hb8)
                go_roundw
                case rel => exact ⟨k + 1, hlt, by go_num, L8.out, P8.out⟩
                case measure => simp [intOf]; omega
        · go_wp2_with fail
          go_ret
          exact ⟨rfl, L5.out.1.2.2⟩
  · go_enter Try.func8, Try.ntmps8
    go_wp2
    go_ret
    exact ⟨rfl, by (repeat (first | exact Below.refl _ _ | (refine Below.alloc ?_ (by first | exact Nat.le_refl _ | omega | (simp; done) | (simp; omega)) _) | (refine Below.setCell ?_ (by first | exact Nat.le_refl _ | omega | (simp; done) | (simp; omega)) _) | exact Below.drew ‹_›))⟩

end Go.Proofs.Ytblmmmeeljidiab
