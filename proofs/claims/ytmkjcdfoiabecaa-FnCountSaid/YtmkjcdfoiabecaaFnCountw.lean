/-
  The walk of FnCount over this seat.
-/
import Derived.Test.YtmkjcdfoiabecaaHc
import Derived.Test.YtmkjcdfoiabecaaA8
namespace Go.Proofs.Ytmkjcdfoiabecaa
open Go.RowKit

set_option maxRecDepth 100000 in
set_option maxHeartbeats 1600000 in
theorem count_walk (A : Option Addr) (len c : Nat) (f : Nat → Int) (w : World) (hlc : len ≤ c) (hc : c ≤ maxLen) (hB : Byt w w.heap.size A len f) :
   Calls Try.prog 13 #[.slice A len c] w fun e w' => e = .returned (.bool true) ∧ Below w.heap.size w w' := by
  have HB := Lib.hid hB
  clear hB
  by_cases hl : len ≤ 1048576
  · go_enter Try.func13, Try.ntmps13
    go_wp2_with fail
    refine (drawCount_any A len c f w hlc hc HB.out).mono ?_
    rintro e w1 ⟨n, ls, A1, g1, c1, x, y, rfl, ⟨hn0, hn1, hls, hg1, ho1, hb1⟩, hx0, hx1, hy0, hy1⟩
    have L1 := Lib.hid (show LB w w1.heap.size n ls A1 g1 c1 (w1.alloc (.cells #[.int .i64 n, .slice A1 ls.length c1] 30)) from ⟨Box.new w1 _ _, ho1.alloc _, hb1.alloc hb1.size _⟩)
    clear ho1 hb1 HB
    generalize hG : w1.heap.size = G at *
    go_wp2_with fail
    have CI := count_impl n A1 ls c1 x y _ (by omega) L1.out.2.1.sl
    have CS := fun W (hW : Sl W W.heap.size A1 ls) => count_spec n A1 ls c1 x y W (by omega) (by omega) hW
    have HF : Hid (0 ≤ countI n ls x y → vwB n ls [x, y] = true ∧ (x = y → countI n ls x y = 1) ∧ (x ≠ y → countI n ls x y = (sumTo n.toNat ls y (hopsL n ls x y) (hopsL n ls x y).length : Nat))) := Lib.hid (fun h => by
      unfold countI at h ⊢
      cases hv : vwB n ls [x, y] with
      | false => rw [hv] at h; simp at h
      | true =>
        obtain ⟨hg, hx, hy⟩ := vwB_two hv
        obtain ⟨m, rfl⟩ : ∃ q : Nat, n = (q : Int) := ⟨n.toNat, by omega⟩
        rw [if_pos rfl, Int.toNat_natCast]
        refine ⟨rfl, fun e => ?_, fun e => ?_⟩
        · subst e; rw [cntL_self]; rfl
        · rw [cntL_step hg hy hx e]
          unfold sumTo
          rw [List.take_length])
    have HCI : Hid (∀ z : Int, vwB n ls [z, y] = true → countI n ls z y = (cntL n.toNat ls z y : Nat)) := Lib.hid (fun z h => by unfold countI; rw [if_pos h])
    generalize countI n ls x y = o at *
    refine CI.mono ?_
    clear CI
    rintro e w2 ⟨rfl, hb2⟩
    have L2 := Lib.hid (L1.out.call hb2)
    clear hb2 L1 hG
    obtain ⟨z2, c20, c21, -, -⟩ := L2.out.1.two
    go_wp2_with fail
    refine (CS w2 L2.out.2.1.sl).mono ?_
    clear CS
    rintro e w3 ⟨rfl, hb3⟩
    have L3 := Lib.hid (L2.out.call hb3)
    clear hb3 L2 z2 c20 c21
    obtain ⟨z3, c30, c31, -, -⟩ := L3.out.1.two
    by_cases h0 : o < 0
    · go_wp2_with fail
      go_ret
      exact ⟨ret_bool (by simp), L3.out.2.2⟩
    · have h0' : decide (o < 0) = false := by simpa using h0
      obtain ⟨hv, hxy1, hxy2⟩ := HF.out (by omega)
      by_cases hxy : x = y
      · have hxy' : (x == y) = true := by simp [hxy]
        have ho := hxy1 hxy
        clear hxy1 hxy2 hxy
        subst ho
        go_wp2_with fail
        go_ret
        exact ⟨ret_bool (by simp), L3.out.2.2⟩
      · have hxy' : (x == y) = false := by simpa using hxy
        have ho := hxy2 hxy
        obtain ⟨hg, hx, hy⟩ := vwB_two hv
        have HN : Hid (∀ z ∈ hopsL n ls x y, vwB n ls [z, y] = true) := Lib.hid (fun z hz => (hops_node hv hz).2.1)
        have hlen := hops_len n ls x y
        have CR := hops_impl n A1 ls c1 x y w3 (by omega) L3.out.2.1.sl
        obtain ⟨m, rfl⟩ : ∃ q : Nat, n = (q : Int) := ⟨n.toNat, by omega⟩
        rw [Int.toNat_natCast] at ho
        have HCI2 : Hid (∀ z : Int, vwB (m : Int) ls [z, y] = true → countI (m : Int) ls z y = (cntL m ls z y : Nat)) := Lib.hid (fun z h => by have := HCI.out z h; rwa [Int.toNat_natCast] at this)
        have HBD : Hid (∀ k, sumTo m ls y (hopsL (m : Int) ls x y) k ≤ 134217728) := Lib.hid (fun k => sumTo_le hg hlen k)
        have HLE : Hid (∀ z, cntL m ls z y ≤ 16777216) := Lib.hid (fun z => cntL_le hg z)
        generalize hopsL (m : Int) ls x y = hs at *
        have HO := Lib.hid ho
        clear hxy1 hxy2 hxy ho hv hg hx hy HF HCI h0
        go_wp2_with fail
        refine CR.mono ?_
        clear CR
        rintro e w4 ⟨A5, g5, c5, rfl, hg5, ho5, hb5⟩
        have L4 := Lib.hid (L3.out.call hb5)
        have R4 := Lib.hid ho5
        clear hb5 ho5 hg5 z3 c30 c31 L3
        obtain ⟨z4, c40, c41, -, -⟩ := L4.out.1.two
        go_wp2_with fail
        go_loopw [8, 10] (fun q i wr => ∃ k : Nat, k ≤ hs.length ∧ q = .int .i64 (sumTo m ls y hs k : Nat) ∧ i = .int .i64 k ∧ LB w G (m : Int) ls A1 g1 c1 wr ∧ Own1i wr A5 g5 hs) (fun _ i _ => hs.length - (intOf i).toNat)
        case atStart => exact ⟨0, Nat.zero_le _, by simp [sumTo], rfl, L4.out, R4.out⟩
        case round =>
          obtain ⟨k, hk, rfl, rfl, hL, hR⟩ := hrel
          have L6 := Lib.hid hL
          have R6 := Lib.hid hR
          clear hL hR L4 R4 z4 c40 c41
          obtain ⟨z6, c60, c61, -, -⟩ := L6.out.1.two
          by_cases hlt : k < hs.length
          · obtain ⟨z, hz⟩ : ∃ z, hs[k]? = some z := ⟨_, List.getElem?_eq_getElem hlt⟩
            obtain ⟨rfl, zg, hc6⟩ := R6.out.at hz
            have HS := Lib.hid (sumTo_succ (n := m) (ls := ls) (t := y) hz)
            have CI := count_impl (m : Int) A1 ls c1 z y wr.drew (by omega) L6.out.drew.2.1.sl
            rw [HCI2.out z (HN.out z (List.mem_of_getElem? hz))] at CI
            have h1 := HBD.out k
            have h2 := HLE.out z
            clear hz
            generalize sumTo m ls y hs k = a at *
            generalize cntL m ls z y = b at *
            go_wp2_with fail
            go_region_law (go_simp; go_at_call 29; refine CI.mono ?_; rintro e w7 ⟨rfl, hb7⟩; have L7 := Lib.hid (L6.out.drew.call hb7); have R7 := Lib.hid (R6.out.drew.below hb7); obtain ⟨z7, c70, c71, -, -⟩ := L7.out.1.two; clear hb7)
            all_goals
              go_wp2_with fail
              go_roundw
              case rel => exact ⟨k + 1, hlt, by rw [HS.out]; simp, by go_num, L7.out, R7.out⟩
              case measure => simp [intOf]; omega
          · obtain rfl : k = hs.length := by omega
            have ho := HO.out
            rw [← ho]
            go_wp2_with fail
            go_ret
            exact ⟨ret_bool (by simp), L6.out.2.2⟩
  · go_enter Try.func13, Try.ntmps13
    go_wp2
    go_ret
    exact ⟨rfl, by (repeat (first | exact Below.refl _ _ | (refine Below.alloc ?_ (by first | exact Nat.le_refl _ | omega | (simp; done) | (simp; omega)) _) | (refine Below.setCell ?_ (by first | exact Nat.le_refl _ | omega | (simp; done) | (simp; omega)) _) | exact Below.drew ‹_›))⟩
end Go.Proofs.Ytmkjcdfoiabecaa
