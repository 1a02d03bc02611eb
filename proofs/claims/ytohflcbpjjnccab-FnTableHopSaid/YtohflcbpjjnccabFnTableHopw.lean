/-
  The walk of FnTableHop over this seat: the next hop is that of the route.
-/
import Derived.Test.YtohflcbpjjnccabTs
import Derived.Test.YtohflcbpjjnccabTf
import Derived.Test.YtohflcbpjjnccabWt
import Derived.Test.YtohflcbpjjnccabC1
namespace Go.Proofs.Ytohflcbpjjnccab
open Go.RowKit Go.Maps

set_option maxRecDepth 100000 in
set_option maxHeartbeats 1600000 in
theorem fnTableHop_walk (A : Option Addr) (len c : Nat) (f : Nat → Int) (w : World) (hlc : len ≤ c) (hc : c ≤ maxLen) (hB : Byt w w.heap.size A len f) :
   Calls Try.prog 9 #[.slice A len c] w fun e w' => e = .returned (.bool true) ∧ Below w.heap.size w w' := by
  have HB := Lib.hid hB
  clear hB
  by_cases hl : len ≤ 1048576
  · go_enter Try.func9, Try.ntmps9
    go_wp2_with fail
    refine (drawTH_any A len c f w hlc hc HB.out).mono ?_
    rintro e w1 ⟨rs, hs, g, cr, gh, d, a, rfl, hD, ha0, ha1⟩
    have hr31 := hD.hr
    have hh4 := hD.hh
    have hb1 : Below w1.heap.size w1 (w1.alloc (.cells #[.slice (some ⟨g, 0, none⟩) rs.length cr, .slice (some ⟨gh, 0, none⟩) hs.length d] 30)) := by (repeat (first | exact Below.refl _ _ | (refine Below.alloc ?_ (by first | exact Nat.le_refl _ | omega | (simp; done) | (simp; omega)) _) | (refine Below.setCell ?_ (by first | exact Nat.le_refl _ | omega | (simp; done) | (simp; omega)) _) | exact Below.drew ‹_›))
    have D1 := Lib.hid (hD.call hb1)
    have T1 := Lib.hid (Box.new w1 30 #[.slice (some ⟨g, 0, none⟩) rs.length cr, .slice (some ⟨gh, 0, none⟩) hs.length d])
    have CI := fun W (h : DT w rs hs g cr gh d W) => tableHop_impl (some ⟨g, 0, none⟩) rs cr (some ⟨gh, 0, none⟩) hs d a W (by omega) (by omega) h.sl h.sli
    have CS := fun W (h : DT w rs hs g cr gh d W) => tableHop_spec (some ⟨g, 0, none⟩) rs cr (some ⟨gh, 0, none⟩) hs d a W (by omega) (by omega) h.sl h.sli
    have CF := fun W (h : DT w rs hs g cr gh d W) => tableFind_impl (some ⟨g, 0, none⟩) rs cr (some ⟨gh, 0, none⟩) hs d a W (by omega) (by omega) h.sl h.sli
    have HP : Hid ((fndA rs hs a < 0 → hopA rs hs a = -1) ∧ (0 ≤ fndA rs hs a → ∃ (k q : Nat) (x : Lk) (z : Int), fndA rs hs a = (k : Int) ∧ rs[k]? = some x ∧ x.c = (q : Int) ∧ hs[q]? = some z ∧ hopA rs hs a = z)) := Lib.hid ⟨fun h => by unfold hopA hopI; rw [if_pos h], hopA_at⟩
    clear hD hb1 HB
    generalize hopA rs hs a = out at *
    generalize fndA rs hs a = k at *
    go_wp2_with fail
    generalize w1.heap.size = G at *
    generalize w1.alloc (.cells #[.slice (some ⟨g, 0, none⟩) rs.length cr, .slice (some ⟨gh, 0, none⟩) hs.length d] 30) = V1 at *
    refine (CI _ D1.out).mono ?_
    clear CI
    rintro e w2 ⟨rfl, hb2⟩
    have D2 := Lib.hid (D1.out.call hb2)
    have T2 := Lib.hid (T1.out.below hb2 T1.out.lt)
    obtain ⟨zt, t0, t1, -, -⟩ := T2.out.two
    clear hb2 D1 T1
    go_wp2_with fail
    refine (CS _ D2.out).mono ?_
    clear CS
    rintro e w3 ⟨rfl, hb3⟩
    have D3 := Lib.hid (D2.out.call hb3)
    have T3 := Lib.hid (T2.out.below hb3 T2.out.lt)
    clear hb3 D2 T2 zt t0 t1
    obtain ⟨zt, t0, t1, -, -⟩ := T3.out.two
    go_wp2_with fail
    refine (CF _ D3.out).mono ?_
    clear CF
    rintro e w4 ⟨rfl, hb4⟩
    have D4 := Lib.hid (D3.out.call hb4)
    have T4 := Lib.hid (T3.out.below hb4 T3.out.lt)
    clear hb4 D3 T3 zt t0 t1
    by_cases hk : k < 0
    · have ho := HP.out.1 hk
      have HO := Lib.hid ho
      clear ho
      go_wp2_with fail
      go_ret
      exact ⟨ret_bool (by rw [HO.out]; rfl), D4.out.bel⟩
    · obtain ⟨kn, q, x, z, rfl, hx, hxc, hz, rfl⟩ := HP.out.2 (by omega)
      have hkl := (List.getElem?_eq_some_iff.1 hx).1
      have hql := (List.getElem?_eq_some_iff.1 hz).1
      have hki : (kn : Int) < (rs.length : Int) := by omega
      have hqi : (q : Int) < (hs.length : Int) := by omega
      obtain ⟨zt, t0, t1, -, -⟩ := T4.out.two
      obtain ⟨bb, o, e1, zb, x0, x1, x2⟩ := D4.out.sl kn x hx
      cases e1
      obtain ⟨bb, o, e1, zh, y0⟩ := D4.out.sli q _ hz
      cases e1
      simp only [Nat.zero_add] at x0 x1 x2 y0
      rw [hxc] at x2
      have hX := fun (y : Ext w4.drew) (bb o : Nat) (h : bb < w4.heap.size) => (show y.w.cell? ⟨bb, o, none⟩ = w4.cell? ⟨bb, o, none⟩ from y.cell bb o h)
      clear x0 x1 hx hxc hz T4
      go_wp2_with fail
      refine wp_region_staged 13 (by kernel_rfl) (by kernel_rfl) ?_
      refine stage_seg _ 0 [0, 1, 2, 3, 4, 5, 6, 7, 8, 9, 10, 11, 12] (by kernel_rfl) (by kernel_rfl) (by kernel_rfl) (by kernel_rfl) ?_
      (simp only [List.map_cons, List.map_nil, List.getElem?_cons_zero, List.getElem?_cons_succ, Option.getD_some]); (repeat (go_big_quiet_step (fail))); (refine wpQuiet_nil ?_)
      refine stage_end (by kernel_rfl) ?_
      go_wp2_with fail
      go_ret
      exact ⟨ret_bool (by simp), D4.out.bel.drew⟩
  · go_enter Try.func9, Try.ntmps9
    go_wp2_with fail
    go_ret
    exact ⟨rfl, Below.refl _ _⟩
end Go.Proofs.Ytohflcbpjjnccab
