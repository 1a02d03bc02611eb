/-
  The walk of FnTableExact over this seat.
-/
import Derived.Test.YtohflcbpjjnccaaTs
import Derived.Test.YtohflcbpjjnccaaTf
import Derived.Test.YtohflcbpjjnccaaTm
import Derived.Test.YtohflcbpjjnccaaWt
import Derived.Test.YtohflcbpjjnccaaC1
namespace Go.Proofs.Ytohflcbpjjnccaa
open Go.RowKit Go.Maps

set_option maxRecDepth 100000 in
set_option maxHeartbeats 3200000 in
theorem fnTableExact_walk (A : Option Addr) (len c : Nat) (f : Nat → Int) (w : World) (hlc : len ≤ c) (hc : c ≤ maxLen) (hB : Byt w w.heap.size A len f) :
   Calls Try.prog 12 #[.slice A len c] w fun e w' => e = .returned (.bool true) ∧ Below w.heap.size w w' := by
  have HB := Lib.hid hB
  clear hB
  by_cases hl : len ≤ 1048576
  · go_enter Try.func12, Try.ntmps12
    go_wp2_with fail
    refine (drawTF_any A len c f w hlc hc HB.out).mono ?_
    rintro e w1 ⟨rs, hs, g, cr, gh, d, a, rfl, hD, ha0, ha1⟩
    have hr31 := hD.hr
    have hh4 := hD.hh
    have hb1 : Below w1.heap.size w1 (w1.alloc (.cells #[.slice (some ⟨g, 0, none⟩) rs.length cr, .slice (some ⟨gh, 0, none⟩) hs.length d] 26)) := by (repeat (first | exact Below.refl _ _ | (refine Below.alloc ?_ (by first | exact Nat.le_refl _ | omega | (simp; done) | (simp; omega)) _) | (refine Below.setCell ?_ (by first | exact Nat.le_refl _ | omega | (simp; done) | (simp; omega)) _) | exact Below.drew ‹_›))
    have D1 := Lib.hid (hD.call hb1)
    have T1 := Lib.hid (Box.new w1 26 #[.slice (some ⟨g, 0, none⟩) rs.length cr, .slice (some ⟨gh, 0, none⟩) hs.length d])
    have CI := fun W (h : DT w rs hs g cr gh d W) => tableFind_impl (some ⟨g, 0, none⟩) rs cr (some ⟨gh, 0, none⟩) hs d a W (by omega) (by omega) h.sl h.sli
    have CS := fun W (h : DT w rs hs g cr gh d W) => tableFind_spec (some ⟨g, 0, none⟩) rs cr (some ⟨gh, 0, none⟩) hs d a W (by omega) (by omega) h.sl h.sli
    have CV := fun W (h : DT w rs hs g cr gh d W) => tableValid_spec (some ⟨g, 0, none⟩) rs cr (some ⟨gh, 0, none⟩) hs d W (by omega) (by omega) h.sl h.sli
    have HFS := Lib.hid (fun hv ha => fndA_spec (rs := rs) (hs := hs) (a := a) hv ha)
    clear hD hb1 HB
    generalize fndA rs hs a = kk at *
    go_wp2_with fail
    generalize w1.heap.size = G at *
    generalize w1.alloc (.cells #[.slice (some ⟨g, 0, none⟩) rs.length cr, .slice (some ⟨gh, 0, none⟩) hs.length d] 26) = V1 at *
    refine (CI _ D1.out).mono ?_
    clear CI
    rintro e w2 ⟨rfl, hb2⟩
    have D2 := Lib.hid (D1.out.call hb2)
    have T2 := Lib.hid (T1.out.below hb2 T1.out.lt)
    obtain ⟨zt, t0, t1, -, -⟩ := T2.out.two
    clear hb2 D1 T1
    go_wp2_with fail
    refine (CS _ D2.out).mono ?_
    clear CS
    rintro e w3 ⟨rfl, hb3⟩
    have D3 := Lib.hid (D2.out.call hb3)
    have T3 := Lib.hid (T2.out.below hb3 T2.out.lt)
    clear hb3 D2 T2 zt t0 t1
    obtain ⟨zt, t0, t1, -, -⟩ := T3.out.two
    go_wp2_with fail
    cases hv : tbB rs hs with
    | false =>
      rw [hv] at CV
      clear hv HFS
      refine (CV _ D3.out).mono ?_
      clear CV
      rintro e w4 ⟨rfl, hb4⟩
      have B4 := Lib.hid (D3.out.bel.trans (hb4.mono D3.out.bel.size))
      clear hb4 zt t0 t1
      go_wp2_with fail
      go_ret
      exact ⟨by first | rfl | exact ret_bool (by simp), B4.out⟩
    | true =>
      rw [hv] at CV
      refine (CV _ D3.out).mono ?_
      clear CV
      rintro e w4 ⟨rfl, hb4⟩
      have D4 := Lib.hid (D3.out.call hb4)
      have T4 := Lib.hid (T3.out.below hb4 T3.out.lt)
      clear hb4 D3 T3 zt t0 t1
      have HRS := Lib.hid ((tbB_iff.1 hv).2.1)
      have HEX := Lib.hid (fun x (hm : x ∈ rs) (h8 : x.b = 8) => hop_exact (hs := hs) hv hm h8)
      clear hv HFS
      go_wp2_with fail
      go_loopw [7] (fun i wr => ∃ k : Nat, k ≤ rs.length ∧ i = .int .i64 (k : Int) ∧ Hid (DT w rs hs g cr gh d wr) ∧ Hid (Box wr G 26 #[.slice (some ⟨g, 0, none⟩) rs.length cr, .slice (some ⟨gh, 0, none⟩) hs.length d])) (fun i _ => rs.length - (intOf i).toNat)
      case atStart => exact ⟨0, Nat.zero_le _, rfl, D4, T4⟩
      case round =>
        obtain ⟨k, hk, rfl, D5, T5⟩ := hrel
        clear D4 T4
        obtain ⟨zt, t0, t1, -, -⟩ := T5.out.two
        by_cases hlt : k < rs.length
        · obtain ⟨x, hx⟩ : ∃ x, rs[k]? = some x := ⟨_, List.getElem?_eq_getElem hlt⟩
          obtain ⟨bb, o, e1, zb, c0, c1, c2'⟩ := D5.out.sl k x hx
          cases e1
          have hX := fun (y : Ext wr) (bb o : Nat) (h : bb < wr.heap.size) => y.cell bb o h
          have hki : (k : Int) < (rs.length : Int) := by omega
          have HXM := Lib.hid (List.mem_of_getElem? hx)
          have HRT := Lib.hid (HRS.out x (List.mem_of_getElem? hx))
          clear hx
          obtain ⟨q, hq⟩ : ∃ q : Nat, x.c = (q : Int) := ⟨x.c.toNat, by have := (rtB_iff.1 HRT.out).2.2.2; omega⟩
          have hql : q < hs.length := by have := (rtB_iff.1 HRT.out).2.2.2; omega
          have hqi : (q : Int) < (hs.length : Int) := by omega
          obtain ⟨z, hz⟩ : ∃ z, hs[q]? = some z := ⟨_, List.getElem?_eq_getElem hql⟩
          obtain ⟨bh, oh, e1, zh, d0⟩ := D5.out.sli q z hz
          cases e1
          have HHV := Lib.hid (fun h8 => (show hopA rs hs x.a = z by
            rw [HEX.out x HXM.out h8, hq, Int.toNat_natCast, List.getD_eq_getElem?_getD, hz]
            rfl))
          have CH0 := fun (x0 : Int) W (h : DT w rs hs g cr gh d W) => tableHop_impl (some ⟨g, 0, none⟩) rs cr (some ⟨gh, 0, none⟩) hs d x0 W (by omega) (by omega) h.sl h.sli
          obtain ⟨xa, xb, xc⟩ := x
          dsimp only [rtV] at *
          subst hq
          simp only [Nat.zero_add] at c0 c1 c2' d0
          clear hz
          by_cases h8 : xb = 8
          · have CH := fun (y : Ext wr) => (show Calls Try.prog 22 #[.agg #[.slice (some ⟨g, 0, none⟩) rs.length cr, .slice (some ⟨gh, 0, none⟩) hs.length d], .int .i64 xa] y.w fun e w' => e = .returned (.int .i64 z) ∧ Below y.w.heap.size y.w w' by
              have := CH0 xa y.w (D5.out.call y.below)
              rwa [HHV.out h8] at this)
            subst h8
            clear CH0
            go_wp2_with fail
            refine wp_region_ext (by kernel_rfl) (by kernel_rfl) ?_
            repeat (go_big_quiet_step (first | (go_at_call 22; exact Calls.ext_of (CH _)) | fail))
            (refine wpQuiet_nil ?_); (rintro _ ⟨X, rfl⟩); (have hw1 := X.below); (generalize X.w = w1 at *); (clear X)
            have D6 := Lib.hid (D5.out.call hw1)
            have T6 := Lib.hid (T5.out.below hw1 T5.out.lt)
            clear hX hw1 zt t0 t1 d0 zh c0 c1 c2' zb
            go_wp2_with fail
            go_roundw
            case rel => exact ⟨k + 1, hlt, by go_num, D6, T6⟩
            case measure => simp [intOf]; omega
          · have g0 : (xb == 8) = false := beq_eq_false_iff_ne.2 h8
            clear h8 CH0 HHV
            go_wp2_with fail
            refine wp_region_ext (by kernel_rfl) (by kernel_rfl) ?_
            repeat (go_big_quiet_step (fail))
            (refine wpQuiet_nil ?_); (rintro _ ⟨X, rfl⟩); (have hw1 := X.below); (generalize X.w = w1 at *); (clear X)
            have D6 := Lib.hid (D5.out.call hw1)
            have T6 := Lib.hid (T5.out.below hw1 T5.out.lt)
            clear hX hw1 zt t0 t1 d0 zh c0 c1 c2' zb
            go_wp2_with fail
            go_roundw
            case rel => exact ⟨k + 1, hlt, by go_num, D6, T6⟩
            case measure => simp [intOf]; omega
        · obtain rfl : k = rs.length := by omega
          have hge : ¬ ((rs.length : Int) < (rs.length : Int)) := by omega
          go_wp2_with fail
          go_ret
          exact ⟨rfl, D5.out.bel⟩
  · go_enter Try.func12, Try.ntmps12
    go_wp2_with fail
    go_ret
    exact ⟨rfl, Below.refl _ _⟩
end Go.Proofs.Ytohflcbpjjnccaa
