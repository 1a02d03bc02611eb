/-
  The walk of FnPathRest over this seat.
-/
import Derived.Test.YtbhipfidkfnlpaaPd
import Derived.Test.YtbhipfidkfnlpaaUs
import Derived.Test.YtbhipfidkfnlpaaA8
namespace Go.Proofs.Ytbhipfidkfnlpaa
open Go.RowKit

theorem Own1i.drop {w : World} {g : Nat} {xs : List Int} (h : Own1i w (some ⟨g, 0, none⟩) g xs) (k : Nat) : Sli w w.heap.size (some ⟨g, k, none⟩) (xs.drop k) := fun j x hx => by
  rw [List.getElem?_drop] at hx
  obtain ⟨_, hz, hc⟩ := h.at hx
  exact ⟨g, k, rfl, hz, hc⟩

set_option maxRecDepth 100000 in
set_option maxHeartbeats 1600000 in
theorem pathRest_walk (A : Option Addr) (len c : Nat) (Am : Option Addr) (len' c' : Nat) (f f' : Nat → Int) (w : World) (hlc : len ≤ c) (hc : c ≤ maxLen) (hB : Byt w w.heap.size A len f) (_hlc' : len' ≤ c') (_hc' : c' ≤ maxLen) (_hB' : Byt w w.heap.size Am len' f') :
   Calls Try.prog 6 #[.slice A len c, .slice Am len' c'] w fun e w' => e = .returned (.bool true) ∧ Below w.heap.size w w' := by
  have HB := Lib.hid hB
  clear hB _hB'
  by_cases hl : len ≤ 1048576 ∧ len' ≤ 1048576
  · obtain ⟨hl, hl'⟩ := hl
    go_enter Try.func6, Try.ntmps6
    go_wp2_with fail
    refine (drawPath_any A len c f w hlc hc HB.out).mono ?_
    rintro e w1 ⟨n, ls, A1, g1, c1, x, y, rfl, ⟨hn0, hn1, hls, hg1, ho1, hb1⟩, hx0, hx1, hy0, hy1⟩
    have L1 := Lib.hid (show LB w w1.heap.size n ls A1 g1 c1 (w1.alloc (.cells #[.int .i64 n, .slice A1 ls.length c1] 30)) from ⟨Box.new w1 _ _, ho1.alloc _, hb1.alloc hb1.size _⟩)
    clear ho1 hb1 HB
    generalize hG : w1.heap.size = G at *
    go_wp2_with fail
    refine (path_implC n A1 ls c1 x y _ (by omega) L1.out.2.1.sl).mono ?_
    rintro e w2 ⟨A2, g2, c2, rfl, hg2, ho2, hb2, hcap⟩
    have L2 := Lib.hid (L1.out.call hb2)
    have P2 := Lib.hid ho2
    clear hb2 L1 hG ho2
    obtain ⟨z2, c20, c21, -, -⟩ := L2.out.1.two
    go_wp2_with fail
    refine (path_spec n A1 ls c1 x y w2 (by omega) (by omega) L2.out.2.1.sl).mono ?_
    rintro e w3 ⟨A3, g3, c3, rfl, hg3, ho3, hb3⟩
    have L3 := Lib.hid (L2.out.call hb3)
    have P3 := Lib.hid (P2.out.below hb3)
    have Q3 := Lib.hid ho3
    clear hb3 L2 z2 c20 c21 P2 ho3
    obtain ⟨z3, c30, c31, -, -⟩ := L3.out.1.two
    have hrs : (pathI n ls x y).length ≤ 8 := pathI_len n ls x y
    have HF : Hid (pathI n ls x y ≠ [] → ∃ m : Nat, n = (m : Int) ∧ vwB (m : Int) ls [x, y] = true ∧ 0 ≤ bf (m : Int) ls y x ∧ IsP m ls y x (pathI n ls x y)) := Lib.hid pathI_some
    generalize pathI n ls x y = xs at *
    go_wp2_with fail
    refine (sameInts_same A2 A3 xs c2 c3 w3 (by omega) P3.out.sli Q3.out.sli).mono ?_
    rintro e w4 ⟨rfl, hb4⟩
    have L4 := Lib.hid (L3.out.call hb4)
    have P4 := Lib.hid (P3.out.below hb4)
    have Q4 := Lib.hid (Q3.out.below hb4)
    clear hb4 L3 P3 Q3 z3 c30 c31 hg2 hg3
    obtain ⟨z4, c40, c41, -, -⟩ := L4.out.1.two
    by_cases hz : xs.length = 0
    · have hz' : ((xs.length : Int) == 0) = true := by simp [hz]
      clear HF hz
      go_wp2_with fail
      refine (sameInts_same A2 A3 xs c2 c3 w4 (by omega) P4.out.sli Q4.out.sli).mono ?_
      rintro e w5 ⟨rfl, hb5⟩
      have L5 := Lib.hid (L4.out.call hb5)
      go_wp2_with fail
      go_ret
      exact ⟨rfl, L5.out.2.2⟩
    · have hz' : ((xs.length : Int) == 0) = false := by simpa using hz
      have hxs : 0 < xs.length := by omega
      have HF := Lib.hid (HF.out (by intro e; rw [e] at hz; exact hz rfl))
      clear hz Q4
      obtain ⟨m, rfl, hvw, h0, hp⟩ := HF.out
      obtain ⟨hg, hx, hy⟩ := vwB_two hvw
      have HG := Lib.hid hg
      have HIP := Lib.hid hp
      have HVW := Lib.hid hvw
      clear hg hp hvw
      have HRS : Hid (∀ (k : Nat) (a : Int), xs[k]? = some a → pathI (m : Int) ls a y = xs.drop k) := Lib.hid (fun k a ha => by
        unfold pathI
        rw [Int.toNat_natCast]
        exact (isP_path HG.out hy (HIP.out.rest ha)).symm)
      have hq : Int.tmod (len' : Int) (xs.length : Int) = ((len' % xs.length : Nat) : Int) := by rw [Int.tmod_eq_emod_of_nonneg (by omega)]; omega
      have hql : len' % xs.length < xs.length := Nat.mod_lt _ hxs
      have hne : xs ≠ [] := by intro e; rw [e] at hxs; simp at hxs
      generalize len' % xs.length = q at *
      obtain ⟨a, ha⟩ : ∃ a, xs[q]? = some a := ⟨_, List.getElem?_eq_getElem hql⟩
      have hrs := HRS.out q a ha
      have CP : ∀ W : World, Sl W W.heap.size A1 ls → Calls Try.prog 15 #[gval (m : Int) A1 ls.length c1, .int .i64 a, .int .i64 y] W (NewI (xs.drop q) W) := fun W hW => by
        have := path_impl (m : Int) A1 ls c1 a y W (by omega) hW
        rwa [hrs] at this
      have hdl : (xs.drop q).length = xs.length - q := by simp
      have hqx : q ≤ xs.length := by omega
      have hqc : ¬ c2 = q := by omega
      have hqc2 : ¬ q = c2 := by omega
      obtain ⟨rfl, zg, hca⟩ := P4.out.at ha
      have CSI : ∀ (W : World) (A5 : Option Addr) (g5 c5 : Nat), Own1i W A5 g5 (xs.drop q) → Own1i W (some ⟨g2, 0, none⟩) g2 xs → Calls Try.prog 22 #[.slice A5 (xs.length - q) c5, .slice (some ⟨g2, q, none⟩) (xs.length - q) (c2 - q)] W fun e w' => e = .returned (.bool true) ∧ Below W.heap.size W w' := fun W A5 g5 c5 h5 h2 => by
        have := sameInts_same A5 (some ⟨g2, q, none⟩) (xs.drop q) c5 (c2 - q) W (by omega) h5.sli (h2.drop q)
        rwa [hdl] at this
      clear ha hrs
      go_wp2_with fail
      go_region_law (first
        | (go_simp; go_at_call 15; refine (CP w4.drew L4.out.2.1.sl).mono ?_; rintro e w7 ⟨A5, g5, c5, rfl, hg5, ho5, hb5⟩; have L7 := Lib.hid (L4.out.drew.call hb5); have P7 := Lib.hid (P4.out.drew.below hb5); have R7 := Lib.hid ho5; rw [hdl]; clear hb5 ho5 hg5)
        | (go_simp; go_at_call 22; refine (CSI _ A5 g5 c5 R7.out P7.out).mono ?_; rintro e w8 ⟨rfl, hb8⟩; have L8 := Lib.hid (L7.out.call hb8)))
      all_goals
        go_wp2_with fail
        go_ret
        exact ⟨rfl, L8.out.2.2⟩
  · by_cases hl1 : len ≤ 1048576
    · have hl2 : 1048576 < len' := by omega
      clear hl
      go_enter Try.func6, Try.ntmps6
      go_wp2
      go_ret
      exact ⟨rfl, by (repeat (first | exact Below.refl _ _ | (refine Below.alloc ?_ (by first | exact Nat.le_refl _ | omega | (simp; done) | (simp; omega)) _) | (refine Below.setCell ?_ (by first | exact Nat.le_refl _ | omega | (simp; done) | (simp; omega)) _) | exact Below.drew ‹_›))⟩
    · clear hl
      go_enter Try.func6, Try.ntmps6
      go_wp2
      go_ret
      exact ⟨rfl, by (repeat (first | exact Below.refl _ _ | (refine Below.alloc ?_ (by first | exact Nat.le_refl _ | omega | (simp; done) | (simp; omega)) _) | (refine Below.setCell ?_ (by first | exact Nat.le_refl _ | omega | (simp; done) | (simp; omega)) _) | exact Below.drew ‹_›))⟩
end Go.Proofs.Ytbhipfidkfnlpaa
