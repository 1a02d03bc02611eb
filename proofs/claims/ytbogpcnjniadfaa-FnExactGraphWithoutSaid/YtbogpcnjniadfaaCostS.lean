/-
  Contracts over this seat: the specification's GraphCost and what it calls.
-/
import Derived.Test.YtbogpcnjniadfaaCost
namespace Go.Proofs.Ytbogpcnjniadfaa
open Go.RowKit

set_option maxHeartbeats 400000 in
theorem l1Index_any (n : Int) (A : Option Addr) (ls : List Lk) (c : Nat) (x : Int) (w : World) (hm : ls.length ≤ 2000000) (hnu : n ≤ 9223372036854775807) (h : Sl w w.heap.size A ls) :
   Calls Try.prog 54 #[gval n A ls.length c, .int .i64 x] w fun e w' => e = .returned (.bool (gvB n ls && inB x 0 ((ls.length : Int) - 1))) ∧ Below w.heap.size w w' := by
  have H := Lib.hid h
  clear h
  cases hv : gvB n ls with
  | false =>
    have C1 : ∀ W : World, Sl W W.heap.size A ls → Calls Try.prog 16 #[gval n A ls.length c] W fun e w' => e = .returned (.bool false) ∧ Below W.heap.size W w' := fun W hW => by
      have := valid_spec_any n _ ls c W hm hnu hW
      rwa [hv] at this
    clear hv
    go_enter Try.func54, Try.ntmps54
    go_wp2_with (go_at_call 16; refine (C1 _ ((H.out.below (by (repeat (first | exact Below.refl _ _ | (refine Below.alloc ?_ (by first | exact Nat.le_refl _ | omega | (simp; done) | (simp; omega)) _) | (refine Below.setCell ?_ (by first | exact Nat.le_refl _ | omega | (simp; done) | (simp; omega)) _) | exact Below.drew ‹_›)))).more (by simp))).mono ?_; rintro e w1 ⟨rfl, hb1⟩; have B1 := Lib.hid (Below.trans (B := w.heap.size) (a := w) (by (repeat (first | exact Below.refl _ _ | (refine Below.alloc ?_ (by first | exact Nat.le_refl _ | omega | (simp; done) | (simp; omega)) _) | (refine Below.setCell ?_ (by first | exact Nat.le_refl _ | omega | (simp; done) | (simp; omega)) _) | exact Below.drew ‹_›))) (hb1.mono (by simp))); clear hb1)
    go_ret
    exact ⟨rfl, B1.out⟩
  | true =>
    have C1 : ∀ W : World, Sl W W.heap.size A ls → Calls Try.prog 16 #[gval n A ls.length c] W fun e w' => e = .returned (.bool true) ∧ Below W.heap.size W w' := fun W hW => by
      have := valid_spec_any n _ ls c W hm hnu hW
      rwa [hv] at this
    clear hv
    go_enter Try.func54, Try.ntmps54
    go_wp2_with (first
      | (go_at_call 16; refine (C1 _ ((H.out.below (by (repeat (first | exact Below.refl _ _ | (refine Below.alloc ?_ (by first | exact Nat.le_refl _ | omega | (simp; done) | (simp; omega)) _) | (refine Below.setCell ?_ (by first | exact Nat.le_refl _ | omega | (simp; done) | (simp; omega)) _) | exact Below.drew ‹_›)))).more (by simp))).mono ?_; rintro e w1 ⟨rfl, hb1⟩; have K1 := Box.below (Box.new w 29 #[.int .i64 n, .slice A ls.length c]) hb1 (by simp); have B1 := Lib.hid (Below.trans (B := w.heap.size) (a := w) (by (repeat (first | exact Below.refl _ _ | (refine Below.alloc ?_ (by first | exact Nat.le_refl _ | omega | (simp; done) | (simp; omega)) _) | (refine Below.setCell ?_ (by first | exact Nat.le_refl _ | omega | (simp; done) | (simp; omega)) _) | exact Below.drew ‹_›))) (hb1.mono (by simp))); clear hb1; obtain ⟨z10, e10, e11, _, _⟩ := K1.two)
      | (go_at_call 46; refine (l6In_any _ _ _ _).mono ?_; rintro e w2 ⟨rfl, rfl⟩))
    go_ret
    exact ⟨ret_bool (by simp), B1.out⟩

/-- A graph whose links lie in memory of their own. -/
def NewG (m : Int) (ls : List Lk) (w : World) (e : Ending) (w' : World) : Prop :=
  ∃ A g c, e = .returned (gval m A ls.length c) ∧ w.heap.size ≤ g ∧ Own1 w' A g ls ∧ Below w.heap.size w w'

set_option maxRecDepth 100000 in
set_option maxHeartbeats 400000 in
theorem l1Copy_any (n : Int) (g : Nat) (ls : List Lk) (c : Nat) (w : World) (hm : ls.length ≤ 2000000) (h : Sl w w.heap.size (some ⟨g, 0, none⟩) ls) :
   Calls Try.prog 76 #[gval n (some ⟨g, 0, none⟩) ls.length c] w (NewG n ls w) := by
  obtain ⟨i0, hi, hz0, hz1, hz2⟩ := info_parts infoLink
  have hcells := (h.below (((((Below.refl w.heap.size w).alloc (Nat.le_refl _) (.cells #[.int .i64 n, .slice (some ⟨g, 0, none⟩) ls.length c] 29)).alloc (by simp) (.cells #[.int .i64 0, .slice none 0 0] 29)).alloc (by simp; omega) (.cells #[] 48)))).flat
  have hown := World.ownsRow_made (base := w.heap.size + 2) (e := 48) (size := 3) ((w.alloc (.cells #[.int .i64 n, .slice (some ⟨g, 0, none⟩) ls.length c] 29)).alloc (.cells #[.int .i64 0, .slice none 0 0] 29)) #[] 0 (by simp) (by unfold maxLen; omega) rfl
  have hK := ((Box.new w 29 #[.int .i64 n, .slice (some ⟨g, 0, none⟩) ls.length c]).alloc (.cells #[.int .i64 0, .slice none 0 0] 29)).alloc (.cells #[] 48)
  have hL := (Box.new (w.alloc (.cells #[.int .i64 n, .slice (some ⟨g, 0, none⟩) ls.length c] 29)) 29 #[.int .i64 0, .slice none 0 0]).alloc (.cells #[] 48)
  simp only [World.size_alloc] at hown hL
  have HC := Lib.hid hcells
  have HO := Lib.hid hown
  have HK := Lib.hid hK
  have HL := Lib.hid hL
  clear h hcells hown hK hL
  go_enter Try.func76, Try.ntmps76
  go_wp2_with (at_builtin; refine wpList_append_own _ rfl _ _ 27 rfl (w.heap.size + 2) 48 i0 _ 3 24 Try.underlying27 hi hz0 hz1 hz2 rfl (by decide) _ 0 [] rfl HO.out ⟨g, 0, none⟩ ls.length c (flat ls) rfl (flat_len ls) HC.out (flat_one ls) (by unfold maxLen; omega) (by omega) (by simp) ?_; intro v' w1 hown1 hgrow _; simp only [Nat.zero_add, List.nil_append] at hown1; have HW := Lib.hid hown1; have HG := Lib.hid hgrow; have K1 := HK.out.grown hgrow (by dsimp only; omega); have L1 := HL.out.grown hgrow (by dsimp only; omega); clear hown1 hgrow; obtain ⟨A, g', c', rfl, hg', _, ho⟩ := own_slice HW.out (Nat.le_trans (by simp) HG.out.size); have HQ := Lib.hid ho; clear ho; obtain ⟨z10, e10, e11, p10, p11⟩ := K1.two; obtain ⟨z11, f10, f11, q10, q11⟩ := L1.two)
  refine bodyPost_ret (v := gval n A ls.length c') (by simp [results, Try.results76, go_sem, f10, f11]) rfl ⟨A, g', c', rfl, by omega, ?_, ?_⟩
  · exact ((HQ.out.set_far (by dsimp only; omega) _).set_far (by dsimp only; omega) _).set_far (by dsimp only; omega) _
  · exact (((Below.trans (B := w.heap.size) (by (repeat (first | exact Below.refl _ _ | (refine Below.alloc ?_ (by first | exact Nat.le_refl _ | omega | (simp; done) | (simp; omega)) _) | (refine Below.setCell ?_ (by first | exact Nat.le_refl _ | omega | (simp; done) | (simp; omega)) _) | exact Below.drew ‹_›))) ((Below.refl _ _).grown HG.out (by simp; omega) (fun k e => by cases e; dsimp only; omega))).setCell (by simp) _).setCell (by simp) _).setCell (by simp) _

/-- The link is there and the cost is allowed: the cost is written into a copy. -/
def CostPost (n : Int) (ls : List Lk) (k : Nat) (cost : Int) (w : World) (e : Ending) (w' : World) : Prop := NewG n (costLs ls k cost) w e w'

set_option maxHeartbeats 400000 in
theorem l1Cost_any (n : Int) (g : Nat) (ls : List Lk) (c : Nat) (k : Nat) (cost : Int) (w : World) (hm : ls.length ≤ 2000000) (hk : k < ls.length) (h : Sl w w.heap.size (some ⟨g, 0, none⟩) ls) :
   Calls Try.prog 64 #[gval n (some ⟨g, 0, none⟩) ls.length c, .int .i64 k, .int .i64 cost] w (CostPost n ls k cost w) := by
  have H := Lib.hid h
  clear h
  have hL := (Box.new (w.alloc (.cells #[.int .i64 n, .slice (some ⟨g, 0, none⟩) ls.length c] 29)) 29 #[.int .i64 0, .slice none 0 0])
  simp only [World.size_alloc] at hL
  have HL := Lib.hid hL
  clear hL
  go_enter Try.func64, Try.ntmps64
  go_wp2_with (go_at_call 76; refine (l1Copy_any n g ls c _ hm ((H.out.below (by (repeat (first | exact Below.refl _ _ | (refine Below.alloc ?_ (by first | exact Nat.le_refl _ | omega | (simp; done) | (simp; omega)) _) | (refine Below.setCell ?_ (by first | exact Nat.le_refl _ | omega | (simp; done) | (simp; omega)) _) | exact Below.drew ‹_›)))).more (by simp; omega))).mono ?_; rintro e w1 ⟨A, g', c', rfl, hg', ho, hb1⟩; have L1 := HL.out.below hb1 (by simp); have B1 := Lib.hid (Below.trans (B := w.heap.size) (a := w) (by (repeat (first | exact Below.refl _ _ | (refine Below.alloc ?_ (by first | exact Nat.le_refl _ | omega | (simp; done) | (simp; omega)) _) | (refine Below.setCell ?_ (by first | exact Nat.le_refl _ | omega | (simp; done) | (simp; omega)) _) | exact Below.drew ‹_›))) (hb1.mono (by simp; omega))); have HO := Lib.hid ho; obtain ⟨rfl, harr⟩ := ho (by omega); obtain ⟨cs, hcs, hsz⟩ := arr_size harr; have hsz' := hsz (by omega); have hf := heap_frozen hcs; obtain ⟨v2, hd2⟩ := cell_in hcs (i := k * 3 + 2) (by omega); simp only [World.size_alloc] at hg'; have zg := heap_lt hcs; clear hcs hsz hb1 harr ho; obtain ⟨z11, f10, f11, q10, q11⟩ := L1.two)
  refine bodyPost_ret (v := gval n (some ⟨g', 0, none⟩) ls.length c') (by simp [results, Try.results64, go_sem, f10, f11, World.cell?_alloc_lt, z11]) rfl ⟨some ⟨g', 0, none⟩, g', c', by rw [costLs_len], by omega, ?_, ?_⟩
  · exact (((HO.out.setCost hk cost).set_far (by dsimp only; omega) _).set_far (by dsimp only; omega) _).alloc _
  · exact ((((B1.out.setCell (by simp; omega) _).setCell (by simp) _).setCell (by simp) _).alloc (by simp; omega) _)

set_option maxHeartbeats 800000 in
theorem cost_spec (n : Int) (g : Nat) (ls : List Lk) (c : Nat) (x cost : Int) (w : World) (hm : ls.length ≤ 2000000) (hnu : n ≤ 9223372036854775807) (h : Sl w w.heap.size (some ⟨g, 0, none⟩) ls) :
   Calls Try.prog 33 #[gval n (some ⟨g, 0, none⟩) ls.length c, .int .i64 x, .int .i64 cost] w
     (if costOk n ls x cost = true then GRes n (costLs ls x.toNat cost) true w else GRes 0 [] false w) := by
  have H := Lib.hid h
  clear h
  have hL := (Box.new (w.alloc (.cells #[.int .i64 n, .slice (some ⟨g, 0, none⟩) ls.length c] 29)) 29 #[.int .i64 0, .slice none 0 0])
  have hK := (Box.new w 29 #[.int .i64 n, .slice (some ⟨g, 0, none⟩) ls.length c]).alloc (.cells #[.int .i64 0, .slice none 0 0] 29)
  simp only [World.size_alloc] at hL
  have HL := Lib.hid hL
  have HK := Lib.hid hK
  clear hL hK
  cases hi : gvB n ls && inB x 0 ((ls.length : Int) - 1) with
  | false =>
    have hok : costOk n ls x cost = false := by unfold costOk; rw [hi]; rfl
    rw [if_neg (by rw [hok]; exact Bool.false_ne_true)]
    have C1 : ∀ W : World, Sl W W.heap.size (some ⟨g, 0, none⟩) ls → Calls Try.prog 54 #[gval n (some ⟨g, 0, none⟩) ls.length c, .int .i64 x] W fun e w' => e = .returned (.bool false) ∧ Below W.heap.size W w' := fun W hW => by
      have := l1Index_any n _ ls c x W hm hnu hW
      rwa [hi] at this
    clear hi hok
    go_enter Try.func33, Try.ntmps33
    go_wp2_with (go_at_call 54; refine (C1 _ ((H.out.below (by (repeat (first | exact Below.refl _ _ | (refine Below.alloc ?_ (by first | exact Nat.le_refl _ | omega | (simp; done) | (simp; omega)) _) | (refine Below.setCell ?_ (by first | exact Nat.le_refl _ | omega | (simp; done) | (simp; omega)) _) | exact Below.drew ‹_›)))).more (by simp; omega))).mono ?_; rintro e w1 ⟨rfl, hb1⟩; have L1 := HL.out.below hb1 (by simp); have B1 := Lib.hid (Below.trans (B := w.heap.size) (a := w) (by (repeat (first | exact Below.refl _ _ | (refine Below.alloc ?_ (by first | exact Nat.le_refl _ | omega | (simp; done) | (simp; omega)) _) | (refine Below.setCell ?_ (by first | exact Nat.le_refl _ | omega | (simp; done) | (simp; omega)) _) | exact Below.drew ‹_›))) (hb1.mono (by simp; omega))); clear hb1; obtain ⟨z11, f10, f11, q10, q11⟩ := L1.two)
    refine bodyPost_ret (v := .tuple #[gval 0 none 0 0, .bool false]) (by simp [results, Try.results33, go_sem, f10, f11]) rfl ⟨none, w.heap.size, 0, rfl, Nat.le_refl _, fun h => absurd h (by simp), ?_⟩
    exact (B1.out.setCell (by simp) _).setCell (by simp) _
  | true =>
    have C1 : ∀ W : World, Sl W W.heap.size (some ⟨g, 0, none⟩) ls → Calls Try.prog 54 #[gval n (some ⟨g, 0, none⟩) ls.length c, .int .i64 x] W fun e w' => e = .returned (.bool true) ∧ Below W.heap.size W w' := fun W hW => by
      have := l1Index_any n _ ls c x W hm hnu hW
      rwa [hi] at this
    cases hc : inB cost 1 20 with
    | false =>
      have hok : costOk n ls x cost = false := by unfold costOk; rw [hc]; simp
      rw [if_neg (by rw [hok]; exact Bool.false_ne_true)]
      have C2 : ∀ W : World, Calls Try.prog 46 #[.int .i64 cost, .int .i64 1, .int .i64 20] W fun e w' => e = .returned (.bool false) ∧ W = w' := fun W => by
        have := l6In_any cost 1 20 W
        rwa [hc] at this
      clear hi hc hok
      go_enter Try.func33, Try.ntmps33
      go_wp2_with (first
        | (go_at_call 54; refine (C1 _ ((H.out.below (by (repeat (first | exact Below.refl _ _ | (refine Below.alloc ?_ (by first | exact Nat.le_refl _ | omega | (simp; done) | (simp; omega)) _) | (refine Below.setCell ?_ (by first | exact Nat.le_refl _ | omega | (simp; done) | (simp; omega)) _) | exact Below.drew ‹_›)))).more (by simp; omega))).mono ?_; rintro e w1 ⟨rfl, hb1⟩; have L1 := HL.out.below hb1 (by simp); have B1 := Lib.hid (Below.trans (B := w.heap.size) (a := w) (by (repeat (first | exact Below.refl _ _ | (refine Below.alloc ?_ (by first | exact Nat.le_refl _ | omega | (simp; done) | (simp; omega)) _) | (refine Below.setCell ?_ (by first | exact Nat.le_refl _ | omega | (simp; done) | (simp; omega)) _) | exact Below.drew ‹_›))) (hb1.mono (by simp; omega))); clear hb1; obtain ⟨z11, f10, f11, q10, q11⟩ := L1.two)
        | (go_at_call 46; refine (C2 _).mono ?_; rintro e w3 ⟨rfl, rfl⟩))
      refine bodyPost_ret (v := .tuple #[gval 0 none 0 0, .bool false]) (by simp [results, Try.results33, go_sem, f10, f11]) rfl ⟨none, w.heap.size, 0, rfl, Nat.le_refl _, fun h => absurd h (by simp), ?_⟩
      exact (B1.out.setCell (by simp) _).setCell (by simp) _
    | true =>
      have hok : costOk n ls x cost = true := by unfold costOk; rw [hi, hc]; rfl
      rw [if_pos hok]
      have C2 : ∀ W : World, Calls Try.prog 46 #[.int .i64 cost, .int .i64 1, .int .i64 20] W fun e w' => e = .returned (.bool true) ∧ W = w' := fun W => by
        have := l6In_any cost 1 20 W
        rwa [hc] at this
      have hx : inB x 0 ((ls.length : Int) - 1) = true := by rw [Bool.and_eq_true] at hi; exact hi.2
      unfold inB at hx
      simp at hx
      obtain ⟨hx0, hx1⟩ := hx
      obtain ⟨k, rfl⟩ : ∃ k : Nat, x = (k : Int) := ⟨x.toNat, by omega⟩
      have hkl : k < ls.length := by omega
      clear hi hc hok hx1
      go_enter Try.func33, Try.ntmps33
      go_wp2_with (first
        | (go_at_call 54; refine (C1 _ ((H.out.below (by (repeat (first | exact Below.refl _ _ | (refine Below.alloc ?_ (by first | exact Nat.le_refl _ | omega | (simp; done) | (simp; omega)) _) | (refine Below.setCell ?_ (by first | exact Nat.le_refl _ | omega | (simp; done) | (simp; omega)) _) | exact Below.drew ‹_›)))).more (by simp; omega))).mono ?_; rintro e w1 ⟨rfl, hb1⟩; have K1 := HK.out.below hb1 (by simp; omega); have L1 := Lib.hid (HL.out.below hb1 (by simp)); have B1 := Lib.hid (Below.trans (B := w.heap.size) (a := w) (by (repeat (first | exact Below.refl _ _ | (refine Below.alloc ?_ (by first | exact Nat.le_refl _ | omega | (simp; done) | (simp; omega)) _) | (refine Below.setCell ?_ (by first | exact Nat.le_refl _ | omega | (simp; done) | (simp; omega)) _) | exact Below.drew ‹_›))) (hb1.mono (by simp; omega))); clear hb1; obtain ⟨z10, e10, e11, _, _⟩ := K1.two)
        | (go_at_call 46; refine (C2 _).mono ?_; rintro e w3 ⟨rfl, rfl⟩)
        | (go_at_call 64; refine (l1Cost_any n g ls c k cost _ hm hkl ((H.out.below B1.out).more (Nat.le_of_lt z10))).mono ?_; rintro e w4 ⟨A, g', c', rfl, hg', ho, hb4⟩; have L4 := L1.out.below hb4 L1.out.lt; have B4 := Lib.hid (B1.out.trans (hb4.mono (Nat.le_of_lt z10))); have HO := Lib.hid ho; have zz := L1.out.lt; clear hb4 ho; obtain ⟨z41, f40, f41, q40, q41⟩ := L4.two))
      refine bodyPost_ret (v := .tuple #[gval n A (costLs ls k cost).length c', .bool true]) (by simp [results, Try.results33, go_sem, f40, f41]) rfl ⟨A, g', c', rfl, by omega, ?_, ?_⟩
      · exact (HO.out.set_far (by dsimp only; omega) _).set_far (by dsimp only; omega) _
      · exact (B4.out.setCell (by simp) _).setCell (by simp) _

/-- Both answers as one: what is answered, whatever comes in. -/
theorem cost_both (n : Int) (ls : List Lk) (x cost : Int) (hm : ls.length ≤ 2000000) (hnu : n ≤ 9223372036854775807) :
    ∃ (m : Int) (rs : List Lk) (ok : Bool), rs.length ≤ 2000000 ∧
      (∀ (g c : Nat) (w : World), Sl w w.heap.size (some ⟨g, 0, none⟩) ls → Calls Try.prog 34 #[gval n (some ⟨g, 0, none⟩) ls.length c, .int .i64 x, .int .i64 cost] w (GRes m rs ok w)) ∧
      (∀ (g c : Nat) (w : World), Sl w w.heap.size (some ⟨g, 0, none⟩) ls → Calls Try.prog 33 #[gval n (some ⟨g, 0, none⟩) ls.length c, .int .i64 x, .int .i64 cost] w (GRes m rs ok w)) := by
  by_cases h : costOk n ls x cost = true
  · refine ⟨n, costLs ls x.toNat cost, true, by rw [costLs_len]; exact hm, fun g c w hs => ?_, fun g c w hs => ?_⟩
    · have := cost_impl n g ls c x cost w hm hs
      rwa [if_pos h] at this
    · have := cost_spec n g ls c x cost w hm hnu hs
      rwa [if_pos h] at this
  · refine ⟨0, [], false, by simp, fun g c w hs => ?_, fun g c w hs => ?_⟩
    · have := cost_impl n g ls c x cost w hm hs
      rwa [if_neg h] at this
    · have := cost_spec n g ls c x cost w hm hnu hs
      rwa [if_neg h] at this

end Go.Proofs.Ytbogpcnjniadfaa
