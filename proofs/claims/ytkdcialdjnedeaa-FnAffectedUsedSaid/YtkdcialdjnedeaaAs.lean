/-
  Contracts over this seat: DistancesAfter and Affected, of the specification.
-/
import Derived.Test.YtkdcialdjnedeaaAf
namespace Go.Proofs.Ytkdcialdjnedeaa
open Go.RowKit Go.Maps

theorem AL.drewN {w : World} {gv : Array Value} {g3 : Nat} {A3 : Option Addr} {xs : List Int} {v : Value} {out : List Int} {W : World} (h : AL w gv g3 A3 xs v out W) (q : Nat) : AL w gv g3 A3 xs v out (W.drewN q) := by
  induction q with
  | zero => exact h
  | succ q ih => exact ih.drew
set_option maxHeartbeats 800000 in
theorem l3ok_any (nn : Int) (A : Option Addr) (ls : List Lk) (c : Nat) (s x cost : Int) (w : World) (hm : ls.length ≤ 2000000) (hnu : nn ≤ 9223372036854775807) (hS : Sl w w.heap.size A ls) :
   Calls Try.prog 34 #[gval nn A ls.length c, .int .i64 s, .int .i64 x, .int .i64 cost] w fun e w' => e = .returned (.bool (costOk nn ls x cost && inB s 0 (nn - 1))) ∧ Below w.heap.size w w' := by
  have HS := Lib.hid hS
  have HK := Lib.hid (Box.new w 30 #[.int .i64 nn, .slice A ls.length c])
  clear hS
  cases hv : (gvB nn ls && inB x 0 ((ls.length : Int) - 1)) with
  | false =>
    have e1 : (costOk nn ls x cost && inB s 0 (nn - 1)) = false := by unfold costOk; rw [hv]; rfl
    rw [e1]
    have C1 : ∀ V : World, Sl V V.heap.size A ls → Calls Try.prog 58 #[gval nn A ls.length c, .int .i64 x] V fun e w' => e = .returned (.bool false) ∧ Below V.heap.size V w' := fun V hV => by
      have := l1Index_any nn A ls c x V hm hnu hV
      rwa [hv] at this
    clear hv e1
    go_enter Try.func34, Try.ntmps34
    go_wp2_with (go_at_call 58; refine (C1 _ ((HS.out.below (by (repeat (first | exact Below.refl _ _ | (refine Below.alloc ?_ (by first | exact Nat.le_refl _ | omega | (simp; done) | (simp; omega)) _) | (refine Below.setCell ?_ (by first | exact Nat.le_refl _ | omega | (simp; done) | (simp; omega)) _) | exact Below.drew ‹_›)))).more (by simp))).mono ?_; clear C1; rintro e w1 ⟨rfl, hb1⟩; have B1 := Lib.hid (Below.trans (B := w.heap.size) (a := w) (by (repeat (first | exact Below.refl _ _ | (refine Below.alloc ?_ (by first | exact Nat.le_refl _ | omega | (simp; done) | (simp; omega)) _) | (refine Below.setCell ?_ (by first | exact Nat.le_refl _ | omega | (simp; done) | (simp; omega)) _) | exact Below.drew ‹_›))) (hb1.mono (by simp))); clear hb1)
    go_ret
    exact ⟨rfl, B1.out⟩
  | true =>
    have hv2 := hv
    rw [Bool.and_eq_true] at hv2
    obtain ⟨hf, hn1, hn8, hl14⟩ := gvB_fit hv2.1
    have C1 : ∀ V : World, Sl V V.heap.size A ls → Calls Try.prog 58 #[gval nn A ls.length c, .int .i64 x] V fun e w' => e = .returned (.bool true) ∧ Below V.heap.size V w' := fun V hV => by
      have := l1Index_any nn A ls c x V hm hnu hV
      rwa [hv] at this
    have C2 : ∀ V : World, Calls Try.prog 59 #[gval nn A ls.length c, .int .i64 s] V fun e w' => e = .returned (.bool (inB s 0 (nn - 1))) ∧ Below V.heap.size V w' := fun V => l1Node_vis nn A ls.length c s V hn1 hn8
    have C3 : ∀ V : World, Calls Try.prog 55 #[.int .i64 cost, .int .i64 1, .int .i64 20] V fun e w' => e = .returned (.bool (inB cost 1 20)) ∧ V = w' := fun V => l6In_any cost 1 20 V
    have e1 : (costOk nn ls x cost && inB s 0 (nn - 1)) = (inB s 0 (nn - 1) && inB cost 1 20) := by unfold costOk; rw [hv, Bool.true_and, Bool.and_comm]
    rw [e1]
    generalize inB s 0 (nn - 1) = bs at *
    generalize inB cost 1 20 = bt at *
    clear hv hv2 hf e1
    cases bs with
    | false =>
      go_enter Try.func34, Try.ntmps34
      go_wp2_with (first
        | (go_at_call 58; refine (C1 _ ((HS.out.below (by (repeat (first | exact Below.refl _ _ | (refine Below.alloc ?_ (by first | exact Nat.le_refl _ | omega | (simp; done) | (simp; omega)) _) | (refine Below.setCell ?_ (by first | exact Nat.le_refl _ | omega | (simp; done) | (simp; omega)) _) | exact Below.drew ‹_›)))).more (by simp))).mono ?_; clear C1; rintro e w1 ⟨rfl, hb1⟩; have K1 := Lib.hid (HK.out.below hb1 (by simp)); have e10 := K1.out.cell 0; have e11 := K1.out.cell 1; have z1 := K1.out.lt; have B1 := Lib.hid (Below.trans (B := w.heap.size) (a := w) (by (repeat (first | exact Below.refl _ _ | (refine Below.alloc ?_ (by first | exact Nat.le_refl _ | omega | (simp; done) | (simp; omega)) _) | (refine Below.setCell ?_ (by first | exact Nat.le_refl _ | omega | (simp; done) | (simp; omega)) _) | exact Below.drew ‹_›))) (hb1.mono (by simp))); clear hb1)
        | (go_at_call 59; refine (C2 _).mono ?_; clear C2; rintro e w2 ⟨rfl, hb2⟩; have B2 := Lib.hid (B1.out.trans (hb2.mono (Nat.le_of_lt z1))); clear hb2))
      go_ret
      exact ⟨rfl, B2.out⟩
    | true =>
      go_enter Try.func34, Try.ntmps34
      go_wp2_with fail
      refine (C1 _ ((HS.out.below (by (repeat (first | exact Below.refl _ _ | (refine Below.alloc ?_ (by first | exact Nat.le_refl _ | omega | (simp; done) | (simp; omega)) _) | (refine Below.setCell ?_ (by first | exact Nat.le_refl _ | omega | (simp; done) | (simp; omega)) _) | exact Below.drew ‹_›)))).more (by simp))).mono ?_
      rintro e w1 ⟨rfl, hb1⟩
      have K1 := Lib.hid (HK.out.below hb1 (by simp))
      have e10 := K1.out.cell 0
      have e11 := K1.out.cell 1
      have z1 := K1.out.lt
      have B1 := Lib.hid (Below.trans (B := w.heap.size) (a := w) (by (repeat (first | exact Below.refl _ _ | (refine Below.alloc ?_ (by first | exact Nat.le_refl _ | omega | (simp; done) | (simp; omega)) _) | (refine Below.setCell ?_ (by first | exact Nat.le_refl _ | omega | (simp; done) | (simp; omega)) _) | exact Below.drew ‹_›))) (hb1.mono (by simp)))
      clear hb1
      go_wp2_with fail
      refine (C2 _).mono ?_
      rintro e w2 ⟨rfl, hb2⟩
      have B2 := Lib.hid (B1.out.trans (hb2.mono (Nat.le_of_lt z1)))
      clear hb2 e10 e11
      go_wp2_with fail
      refine (C3 _).mono ?_
      rintro e w3 ⟨rfl, rfl⟩
      go_wp2_with fail
      go_ret
      exact ⟨by simp, B2.out⟩

theorem ok3_inv {n : Int} {ls : List Lk} {s x c : Int} (h : (costOk n ls x c && inB s 0 (n - 1)) = true) : costOk n ls x c = true ∧ 0 ≤ s ∧ s < n := by
  rw [Bool.and_eq_true] at h
  refine ⟨h.1, ?_⟩
  have := h.2
  unfold inB at this
  simp at this
  omega
theorem ok3_not {n : Int} {ls : List Lk} {s x c : Int} (h : (costOk n ls x c && inB s 0 (n - 1)) = false) : ¬ (costOk n ls x c = true ∧ 0 ≤ s ∧ s < n) := fun ⟨h1, h2⟩ => by
  rw [h1, Bool.true_and] at h
  unfold inB at h
  simp at h
  omega
theorem aftL_not {n : Int} {ls : List Lk} {s x c : Int} (h : ¬ (costOk n ls x c = true ∧ 0 ≤ s ∧ s < n)) : aftL n ls s x c = [] := by
  unfold aftL
  split
  · rename_i h1
    exact distL_out fun h2 => h ⟨h1, h2⟩
  · rfl

set_option maxRecDepth 100000 in
set_option maxHeartbeats 1600000 in
theorem aft_spec (nn : Int) (A : Option Addr) (ls : List Lk) (c : Nat) (s x cost : Int) (w : World) (hm : ls.length ≤ 2000000) (hA : 0 < ls.length → ∃ g, A = some ⟨g, 0, none⟩) (hnu : nn ≤ 9223372036854775807) (hS : Sl w w.heap.size A ls) :
   Calls Try.prog 13 #[gval nn A ls.length c, .int .i64 s, .int .i64 x, .int .i64 cost] w (NewI (aftL nn ls s x cost) w) := by
  have HS := Lib.hid hS
  have HK := Lib.hid (Box.new w 30 #[.int .i64 nn, .slice A ls.length c])
  have HB := Lib.hid ((Below.refl w.heap.size w).alloc (Nat.le_refl _) (.cells #[.int .i64 nn, .slice A ls.length c] 30))
  have C1 := l3ok_any nn A ls c s x cost _ hm hnu ((hS.below HB.out).more (show w.heap.size ≤ (w.alloc (.cells #[.int .i64 nn, .slice A ls.length c] 30)).heap.size by simp))
  clear hS
  cases hok : (costOk nn ls x cost && inB s 0 (nn - 1)) with
  | false =>
    rw [hok] at C1
    rw [aftL_not (ok3_not hok)]
    clear hok
    go_enter Try.func13, Try.ntmps13
    go_wp2_with (go_at_call 34; refine C1.mono ?_; clear C1; rintro e w1 ⟨rfl, hb1⟩; have B1 := Lib.hid (HB.out.trans (hb1.mono HB.out.size)); clear hb1)
    go_ret
    exact ⟨_, w1.heap.size, _, rfl, B1.out.size, fun h => absurd h (by simp), B1.out.alloc B1.out.size _⟩
  | true =>
    rw [hok] at C1
    obtain ⟨hc, hs⟩ := ok3_inv hok
    obtain ⟨hv, hx, hcr⟩ := costOk_inv hc
    have hv' := costOk_gv hc
    obtain ⟨hf, hn1, hn8, hl14⟩ := gvB_fit hv'
    obtain ⟨n, rfl⟩ : ∃ n : Nat, nn = (n : Int) := ⟨nn.toNat, by omega⟩
    obtain ⟨k, rfl⟩ : ∃ k : Nat, x = (k : Int) := ⟨x.toNat, by omega⟩
    obtain ⟨g, rfl⟩ := hA (by omega)
    rw [aftL_fl hc hs]
    rw [Int.toNat_natCast] at hf hl14 ⊢
    have hkl : k < ls.length := by omega
    have C2 := fun W (h : Sl W W.heap.size (some ⟨g, 0, none⟩) ls) => l1Cost_any (n : Int) g ls c k cost W hm hkl h
    have C3 := fun (A' : Option Addr) (c' : Nat) W (h : Sl W W.heap.size A' (costLs ls k cost)) => l2d_any n A' (costLs ls k cost) c' s W (by omega) (by omega) hl14 hf hs h
    unfold CostPost at C2
    generalize costLs ls k cost = rs at *
    clear hok hc hv hcr hv' hf hl14
    go_enter Try.func13, Try.ntmps13
    go_wp2_with fail
    refine C1.mono ?_
    clear C1
    rintro e w1 ⟨rfl, hb1⟩
    have K1 := HK.out.below hb1 HK.out.lt
    obtain ⟨z1, e10, e11, -, -⟩ := K1.two
    have B1 := Lib.hid (HB.out.trans (hb1.mono HB.out.size))
    clear hb1
    go_wp2_with fail
    refine (C2 _ ((HS.out.below B1.out).more B1.out.size)).mono ?_
    clear C2
    rintro e w2 ⟨A2, g2, c2, rfl, hg2, ho2, hb2⟩
    have B2 := Lib.hid (B1.out.trans (hb2.mono B1.out.size))
    have C4 := C3 A2 c2 w2 ho2.sl
    clear C3 hb2 ho2 e10 e11 K1 z1
    go_wp2_with fail
    refine C4.mono ?_
    clear C4
    rintro e w3 ⟨A3, g3, c3, rfl, hg3, ho3, hb3⟩
    have B3 := Lib.hid (B2.out.trans (hb3.mono B2.out.size))
    have O3 := Lib.hid ho3
    have hz := B2.out.size
    clear hb3 ho3
    go_wp2_with fail
    go_ret
    exact ⟨A3, g3, c3, rfl, by omega, O3.out, B3.out⟩

set_option maxRecDepth 100000 in
set_option maxHeartbeats 1600000 in
theorem aff_spec (nn : Int) (A : Option Addr) (ls : List Lk) (c : Nat) (s x cost : Int) (w : World) (hm : ls.length ≤ 2000000) (hA : 0 < ls.length → ∃ g, A = some ⟨g, 0, none⟩) (hnu : nn ≤ 9223372036854775807) (hS : Sl w w.heap.size A ls) :
   Calls Try.prog 21 #[gval nn A ls.length c, .int .i64 s, .int .i64 x, .int .i64 cost] w (NewI (affL nn ls s x cost) w) := by
  obtain ⟨i0, hi, hz0, hz1, hz2⟩ := info_parts infoInt
  have B0 : Below w.heap.size w ((w.alloc (.cells #[.int .i64 nn, .slice A ls.length c] 30)).alloc (.cells #[] 3)) := by (repeat (first | exact Below.refl _ _ | (refine Below.alloc ?_ (by first | exact Nat.le_refl _ | omega | (simp; done) | (simp; omega)) _) | (refine Below.setCell ?_ (by first | exact Nat.le_refl _ | omega | (simp; done) | (simp; omega)) _) | exact Below.drew ‹_›))
  have HS0 := (hS.below B0).more (show w.heap.size ≤ ((w.alloc (.cells #[.int .i64 nn, .slice A ls.length c] 30)).alloc (.cells #[] 3)).heap.size by simp; omega)
  have HB0 := Lib.hid B0
  have HG0 := Lib.hid ((Box.new w 30 #[.int .i64 nn, .slice A ls.length c]).alloc (.cells #[] 3))
  have E0 := Box.new (w.alloc (.cells #[.int .i64 nn, .slice A ls.length c] 30)) 3 #[]
  rw [World.size_alloc] at E0
  have HE0 := Lib.hid E0
  have C1 := l3ok_any nn A ls c s x cost _ hm hnu HS0
  have HS := Lib.hid hS
  clear hS B0 E0 HS0
  cases hok : (costOk nn ls x cost && inB s 0 (nn - 1)) with
  | false =>
    rw [hok] at C1
    have e : affL nn ls s x cost = [] := by unfold affL; rw [aftL_not (ok3_not hok)]; rfl
    rw [e]
    clear hok e
    go_enter Try.func21, Try.ntmps21
    go_wp2_with (go_at_call 34; refine C1.mono ?_; clear C1; rintro e w1 ⟨rfl, hb1⟩; have B1 := Lib.hid (HB0.out.trans (hb1.mono HB0.out.size)); clear hb1)
    go_ret
    exact ⟨_, w1.heap.size, _, rfl, B1.out.size, fun h => absurd h (by simp), B1.out⟩
  | true =>
    rw [hok] at C1
    obtain ⟨hcc, hs⟩ := ok3_inv hok
    obtain ⟨hv, hx, hcr⟩ := costOk_inv hcc
    have hv' := costOk_gv hcc
    obtain ⟨hf, hn1, hn8, hl14⟩ := gvB_fit hv
    obtain ⟨hf', _, _, hl14'⟩ := gvB_fit hv'
    obtain ⟨n, rfl⟩ : ∃ n : Nat, nn = (n : Int) := ⟨nn.toNat, by omega⟩
    obtain ⟨k, rfl⟩ : ∃ k : Nat, x = (k : Int) := ⟨x.toNat, by omega⟩
    obtain ⟨g, rfl⟩ := hA (by omega)
    rw [affL_eq hcc hs]
    rw [Int.toNat_natCast] at hf' hl14' ⊢
    have hkl : k < ls.length := by omega
    have CD := fun W (h : Sl W W.heap.size (some ⟨g, 0, none⟩) ls) => l2d_any n (some ⟨g, 0, none⟩) ls c s W (by omega) (by omega) hl14 hf hs h
    have C2 := fun W (h : Sl W W.heap.size (some ⟨g, 0, none⟩) ls) => l1Cost_any (n : Int) g ls c k cost W hm hkl h
    have C3 := fun (A' : Option Addr) (c' : Nat) W (h : Sl W W.heap.size A' (costLs ls k cost)) => l2d_any n A' (costLs ls k cost) c' s W (by omega) (by omega) hl14' hf' hs h
    unfold CostPost at C2
    have hdl := fl_len n (bf (n : Int) ls s)
    have hel := fl_len n (bf (n : Int) (costLs ls k cost) s)
    generalize fl n (bf (n : Int) (costLs ls k cost) s) = es at *
    generalize fl n (bf (n : Int) ls s) = ds at *
    generalize costLs ls k cost = rs at *
    have HDL := Lib.hid hdl
    have HEL := Lib.hid hel
    clear hok hcc hv hcr hv' hf hl14 hf' hl14' hdl hel
    go_enter Try.func21, Try.ntmps21
    go_wp2_with fail
    refine C1.mono ?_
    clear C1
    rintro e w1 ⟨rfl, hb1⟩
    have K1 := Lib.hid (HG0.out.below hb1 HG0.out.lt)
    obtain ⟨z1, e10, e11, -, -⟩ := K1.out.two
    have B1 := Lib.hid (HB0.out.trans (hb1.mono HB0.out.size))
    have N1 := Lib.hid hb1
    clear hb1
    go_wp2_with fail
    refine (CD _ ((HS.out.below B1.out).more B1.out.size)).mono ?_
    clear CD
    rintro e w2 ⟨A3, g3, c3, rfl, hg3, ho3, hb3⟩
    have HA := Lib.hid (AL.start HE0.out HG0.out (N1.out.trans (hb3.mono N1.out.size)) HB0.out (Nat.le_trans N1.out.size hg3) ho3)
    clear hg3 ho3 hb3 e10 e11 z1 K1 N1
    have e20 : w2.cell? ⟨w.heap.size, 0, none⟩ = some (.int .i64 (n : Int)) := HA.out.box.cell 0
    have e21 : w2.cell? ⟨w.heap.size, 1, none⟩ = some (.slice (some ⟨g, 0, none⟩) ls.length c) := HA.out.box.cell 1
    have z2 := HA.out.box.lt
    go_wp2_with fail
    refine (C2 _ ((HS.out.below HA.out.bel).more HA.out.bel.size)).mono ?_
    clear C2
    rintro e w3 ⟨A4, g4, c4, rfl, hg4, ho4, hb4⟩
    have HA2 := Lib.hid (HA.out.call hb4)
    have C5 := C3 A4 c4 w3 ho4.sl
    clear C3 hb4 ho4 e20 e21 z2
    go_wp2_with fail
    refine C5.mono ?_
    clear C5
    rintro e w4 ⟨A5, g5, c5, rfl, hg5, ho5, hb5⟩
    have HA3 := Lib.hid (HA2.out.call hb5)
    have HA4 := Lib.hid (HA2.out.other hb5 hg5 ho5)
    clear hg5 ho5 hb5 HA HA2 HE0 HG0 HB0 HS B1
    go_wp2_with fail
    go_loopw [9, 12] (fun v9 v28 wr => ∃ k : Nat, k ≤ n ∧ v28 = .int .i64 k ∧ AL2 w #[.int .i64 (n : Int), .slice (some ⟨g, 0, none⟩) ls.length c] g3 A3 ds g5 A5 es v9 (dTo ds es k) wr) (fun _ v28 _ => n - (intOf v28).toNat)
    case atStart => exact ⟨0, Nat.zero_le _, rfl, HA3.out, HA4.out⟩
    case round =>
      obtain ⟨k, hk, rfl, ha, hb⟩ := hrel
      have HA := Lib.hid ha
      have HB := Lib.hid hb
      have e0 : wr.cell? ⟨w.heap.size, 0, none⟩ = some (.int .i64 (n : Int)) := ha.box.cell 0
      clear HA3 HA4
      by_cases hlt : k < n
      · obtain ⟨d, hd⟩ : ∃ d, ds[k]? = some d := ⟨_, List.getElem?_eq_getElem (by have := HDL.out; omega)⟩
        obtain ⟨e, he⟩ : ∃ e, es[k]? = some e := ⟨_, List.getElem?_eq_getElem (by have := HEL.out; omega)⟩
        obtain ⟨rfl, harr⟩ := ha.own (by have := HDL.out; omega)
        obtain ⟨rfl, harr2⟩ := hb.own (by have := HEL.out; omega)
        have hc := harr.cell hd
        have hc2 := harr2.cell he
        have zg := harr.lt
        have zg2 := harr2.lt
        have hkl := dTo_len ds es k
        have hwz := ha.box.lt
        have HD := Lib.hid hd
        have HE := Lib.hid he
        clear ha hb harr harr2 hd he
        have hx3 := HDL.out
        have hx4 := HEL.out
        rw [hx3, hx4]
        clear hx3 hx4
        go_wp2_with fail
        refine wp_region_quiet_lit (by kernel_rfl) (by kernel_rfl) ?_
        repeat (go_big_quiet_step (fail))
        refine wpQuiet_nil ?_
        intro _ hw'
        obtain ⟨q, hw''⟩ := hw'
        subst hw''
        have HAq := Lib.hid (HA.out.drewN q)
        have HBq := Lib.hid (HB.out.drewN q)
        clear hc hc2 zg zg2 hwz HA HB e0
        have hwz := HAq.out.box.lt
        generalize wr.drewN q = W5 at *
        go_wp2_with (at_builtin; refine wpList_append_own_at _ rfl _ _ 26 rfl (w.heap.size + 1) 3 i0 _ 1 8 Try.underlying26 hi hz0 hz1 hz2 rfl (by decide) _ (dTo ds es k).length _ rfl (HAq.out.row.alloc _) ⟨W5.heap.size, 0, none⟩ 1 1 [.int .i64 k] rfl rfl (fun j u h => by obtain rfl : j = 0 := (by have := (List.getElem?_eq_some_iff.1 h).1; simpa using this); cases h; exact (Box.new W5 3 #[.int .i64 (k : Int)]).cell 0) (fun u hu => by simp at hu; subst hu; rfl) (by unfold maxLen; omega) (by omega) (by simp; omega) ?_; intro v' w3 hown' hgrow _ hat; have HN := Lib.hid (HAq.out.append (by have := HDL.out; omega) hown' hgrow hat); have HN2 := Lib.hid (HBq.out.append (by have := HEL.out; omega) hown' hgrow hat); clear hown' hgrow hat)
        · go_roundw
          case rel =>
            refine ⟨k + 1, hlt, by go_num, ?_⟩
            rw [dTo_hit HD.out HE.out (by have h : (d != e) = true := ‹_›; simp at h; exact fun e => h e.symm)]
            exact ⟨HN.out, HN2.out⟩
          case measure => simp [intOf]; omega
        · go_roundw
          case rel =>
            refine ⟨k + 1, hlt, by go_num, ?_⟩
            rw [dTo_miss HD.out HE.out (by have h : (d != e) = false := ‹_›; simp at h; exact h.symm)]
            exact ⟨HAq.out, HBq.out⟩
          case measure => simp [intOf]; omega
      · obtain rfl : k = n := by omega
        clear ha hb
        go_wp2
        obtain ⟨A', g', c', rfl, hg', ho⟩ := HA.out.done
        go_ret
        exact ⟨A', g', c', rfl, hg', ho, HA.out.bel⟩

end Go.Proofs.Ytkdcialdjnedeaa
