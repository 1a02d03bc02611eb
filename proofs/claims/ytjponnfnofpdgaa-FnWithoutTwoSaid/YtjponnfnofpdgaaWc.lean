/-
  Contracts over this seat: GraphCost and GraphWithout of the program and of the specification, wherever the slice of a graph without links lies.
-/
import Derived.Test.YtjponnfnofpdgaaAf
import Derived.Test.YtjponnfnofpdgaaWoT
import Derived.Test.YtjponnfnofpdgaaCq
namespace Go.Proofs.Ytjponnfnofpdgaa
open Go.RowKit

theorem inB_none (x : Int) : inB x 0 (((([] : List Lk).length : Nat) : Int) - 1) = false := by
  unfold inB
  simp
  omega

set_option maxHeartbeats 400000 in
theorem cost_specA (n : Int) (A : Option Addr) (ls : List Lk) (c : Nat) (x cost : Int) (w : World) (hm : ls.length ≤ 2000000) (hnu : n ≤ 9223372036854775807) (hA : 0 < ls.length → ∃ g, A = some ⟨g, 0, none⟩) (h : Sl w w.heap.size A ls) :
   Calls Try.prog 35 #[gval n A ls.length c, .int .i64 x, .int .i64 cost] w
     (if costOk n ls x cost = true then GRes n (costLs ls x.toNat cost) true w else GRes 0 [] false w) := by
  by_cases hp : 0 < ls.length
  · obtain ⟨g, rfl⟩ := hA hp
    exact cost_spec n g ls c x cost w hm hnu h
  · obtain rfl : ls = [] := List.eq_nil_of_length_eq_zero (by omega)
    have H := Lib.hid h
    clear h hp hA
    have hL := (Box.new (w.alloc (.cells #[.int .i64 n, .slice A 0 c] 30)) 30 #[.int .i64 0, .slice none 0 0])
    simp only [World.size_alloc] at hL
    have HL := Lib.hid hL
    clear hL
    have hok : costOk n [] x cost = false := by unfold costOk; rw [inB_none]; simp
    rw [if_neg (by rw [hok]; exact Bool.false_ne_true)]
    have C1 : ∀ W : World, Sl W W.heap.size A [] → Calls Try.prog 53 #[gval n A 0 c, .int .i64 x] W fun e w' => e = .returned (.bool false) ∧ Below W.heap.size W w' := fun W hW => by
      have := l1Index_any n A [] c x W (by simp) hnu hW
      rwa [inB_none, Bool.and_false] at this
    clear hok
    go_enter Try.func35, Try.ntmps35
    go_wp2_with (go_at_call 53; refine (C1 _ ((H.out.below (by (repeat (first | exact Below.refl _ _ | (refine Below.alloc ?_ (by first | exact Nat.le_refl _ | omega | (simp; done) | (simp; omega)) _) | (refine Below.setCell ?_ (by first | exact Nat.le_refl _ | omega | (simp; done) | (simp; omega)) _) | exact Below.drew ‹_›)))).more (by simp; omega))).mono ?_; rintro e w1 ⟨rfl, hb1⟩; have L1 := HL.out.below hb1 (by simp); have B1 := Lib.hid (Below.trans (B := w.heap.size) (a := w) (by (repeat (first | exact Below.refl _ _ | (refine Below.alloc ?_ (by first | exact Nat.le_refl _ | omega | (simp; done) | (simp; omega)) _) | (refine Below.setCell ?_ (by first | exact Nat.le_refl _ | omega | (simp; done) | (simp; omega)) _) | exact Below.drew ‹_›))) (hb1.mono (by simp; omega))); clear hb1; obtain ⟨z11, f10, f11, q10, q11⟩ := L1.two)
    refine bodyPost_ret (v := .tuple #[gval 0 none 0 0, .bool false]) (by simp [results, Try.results35, go_sem, f10, f11]) rfl ⟨none, w.heap.size, 0, rfl, Nat.le_refl _, fun h => absurd h (by simp), ?_⟩
    exact (B1.out.setCell (by simp) _).setCell (by simp) _

theorem cost_bothA (n : Int) (ls : List Lk) (x y : Int) (hm : ls.length ≤ 2000000) (hnu : n ≤ 9223372036854775807) :
    ∃ (m : Int) (rs : List Lk) (ok : Bool), rs.length ≤ ls.length ∧ (ok = true → costOk n ls x y = true ∧ m = n ∧ rs = costLs ls x.toNat y) ∧
      (∀ (A : Option Addr) (g c : Nat) (w : World), Own1 w A g ls → Calls Try.prog 34 #[gval n A ls.length c, .int .i64 x, .int .i64 y] w (GRes m rs ok w)) ∧
      (∀ (A : Option Addr) (g c : Nat) (w : World), Own1 w A g ls → Calls Try.prog 35 #[gval n A ls.length c, .int .i64 x, .int .i64 y] w (GRes m rs ok w)) := by
  by_cases h : costOk n ls x y = true
  · refine ⟨n, costLs ls x.toNat y, true, by rw [costLs_len]; exact Nat.le_refl _, fun _ => ⟨h, rfl, rfl⟩, fun A g c w hs => ?_, fun A g c w hs => ?_⟩
    · have := cost_implA n A ls c x y w hm hs.isA2 hs.sl
      rwa [if_pos h] at this
    · have := cost_specA n A ls c x y w hm hnu hs.isA2 hs.sl
      rwa [if_pos h] at this
  · refine ⟨0, [], false, Nat.zero_le _, (fun h => by cases h), fun A g c w hs => ?_, fun A g c w hs => ?_⟩
    · have := cost_implA n A ls c x y w hm hs.isA2 hs.sl
      rwa [if_neg h] at this
    · have := cost_specA n A ls c x y w hm hnu hs.isA2 hs.sl
      rwa [if_neg h] at this

set_option maxHeartbeats 400000 in
theorem without_specA (n : Int) (A : Option Addr) (ls : List Lk) (c : Nat) (x : Int) (w : World) (hm : ls.length ≤ 2000000) (hnu : n ≤ 9223372036854775807) (hlc : ls.length ≤ c) (hA : 0 < ls.length → ∃ g, A = some ⟨g, 0, none⟩) (h : Sl w w.heap.size A ls) :
   Calls Try.prog 30 #[gval n A ls.length c, .int .i64 x] w
     (if withoutOk n ls x = true then GRes n (ls.eraseIdx x.toNat) true w else GRes 0 [] false w) := by
  by_cases hp : 0 < ls.length
  · obtain ⟨g, rfl⟩ := hA hp
    have := without_spec n g ls c x w hm hnu hlc h
    rwa [take_drop_erase] at this
  · obtain rfl : ls = [] := List.eq_nil_of_length_eq_zero (by omega)
    have H := Lib.hid h
    clear h hp hA hlc
    have hL := (Box.new (w.alloc (.cells #[.int .i64 n, .slice A 0 c] 30)) 30 #[.int .i64 0, .slice none 0 0])
    simp only [World.size_alloc] at hL
    have HL := Lib.hid hL
    clear hL
    have hok : withoutOk n [] x = false := by unfold withoutOk; rw [inB_none]; simp
    rw [if_neg (by rw [hok]; exact Bool.false_ne_true)]
    have C1 : ∀ W : World, Sl W W.heap.size A [] → Calls Try.prog 53 #[gval n A 0 c, .int .i64 x] W fun e w' => e = .returned (.bool false) ∧ Below W.heap.size W w' := fun W hW => by
      have := l1Index_any n A [] c x W (by simp) hnu hW
      rwa [inB_none, Bool.and_false] at this
    clear hok
    go_enter Try.func30, Try.ntmps30
    go_wp2_with (go_at_call 53; refine (C1 _ ((H.out.below (by (repeat (first | exact Below.refl _ _ | (refine Below.alloc ?_ (by first | exact Nat.le_refl _ | omega | (simp; done) | (simp; omega)) _) | (refine Below.setCell ?_ (by first | exact Nat.le_refl _ | omega | (simp; done) | (simp; omega)) _) | exact Below.drew ‹_›)))).more (by simp; omega))).mono ?_; rintro e w1 ⟨rfl, hb1⟩; have L1 := HL.out.below hb1 (by simp); have B1 := Lib.hid (Below.trans (B := w.heap.size) (a := w) (by (repeat (first | exact Below.refl _ _ | (refine Below.alloc ?_ (by first | exact Nat.le_refl _ | omega | (simp; done) | (simp; omega)) _) | (refine Below.setCell ?_ (by first | exact Nat.le_refl _ | omega | (simp; done) | (simp; omega)) _) | exact Below.drew ‹_›))) (hb1.mono (by simp; omega))); clear hb1; obtain ⟨z11, f10, f11, q10, q11⟩ := L1.two)
    refine bodyPost_ret (v := .tuple #[gval 0 none 0 0, .bool false]) (by simp [results, Try.results30, go_sem, f10, f11]) rfl ⟨none, w.heap.size, 0, rfl, Nat.le_refl _, fun h => absurd h (by simp), ?_⟩
    exact (B1.out.setCell (by simp) _).setCell (by simp) _

set_option maxHeartbeats 800000 in
theorem without_implA (n : Int) (A : Option Addr) (ls : List Lk) (c : Nat) (x : Int) (w : World) (hm : ls.length ≤ 2000000) (hA : 0 < ls.length → ∃ g, A = some ⟨g, 0, none⟩) (h : Sl w w.heap.size A ls) :
   Calls Try.prog 23 #[gval n A ls.length c, .int .i64 x] w
     (if withoutOk n ls x = true then GRes n (ls.eraseIdx x.toNat) true w else GRes 0 [] false w) := by
  by_cases hp : 0 < ls.length
  · obtain ⟨g, rfl⟩ := hA hp
    have := without_impl n g ls c x w hm h
    by_cases hok : withoutOk n ls x = true
    · rw [if_pos hok] at this ⊢
      have hx : 0 ≤ x := by
        unfold withoutOk inB at hok
        simp at hok
        omega
      have e : keepTo (fun k _ => !decide ((k : Int) = x)) ls ls.length = ls.eraseIdx x.toNat := by
        have := keep_erase ls x.toNat
        rwa [show ((x.toNat : Nat) : Int) = x by omega] at this
      rwa [e] at this
    · rwa [if_neg hok] at this ⊢
  · obtain rfl : ls = [] := List.eq_nil_of_length_eq_zero (by omega)
    have H := Lib.hid h
    have hK := ((Box.new w 30 #[.int .i64 n, .slice A 0 c]).alloc (.cells #[.int .i64 x] 3)).alloc (.cells #[.int .i64 0, .slice none 0 0] 30)
    have hX := (Box.new (w.alloc (.cells #[.int .i64 n, .slice A 0 c] 30)) 3 #[.int .i64 x]).alloc (.cells #[.int .i64 0, .slice none 0 0] 30)
    have hL := Box.new ((w.alloc (.cells #[.int .i64 n, .slice A 0 c] 30)).alloc (.cells #[.int .i64 x] 3)) 30 #[.int .i64 0, .slice none 0 0]
    simp only [World.size_alloc] at hX hL
    have HK := Lib.hid hK
    have HX := Lib.hid hX
    have HL := Lib.hid hL
    clear h hK hX hL hp hA
    have hok : withoutOk n [] x = false := by unfold withoutOk; rw [inB_none]; simp
    rw [if_neg (by rw [hok]; exact Bool.false_ne_true)]
    clear hok
    cases hv : gvB n [] with
    | false =>
      have C1 : ∀ W : World, Sl W W.heap.size A [] → Calls Try.prog 32 #[gval n A 0 c] W fun e w' => e = .returned (.bool false) ∧ Below W.heap.size W w' := fun W hW => by
        have := valid_impl n A [] c W (by simp) hW
        rwa [hv] at this
      clear hv
      go_enter Try.func23, Try.ntmps23
      go_wp2_with (go_at_call 32; refine (C1 _ ((H.out.below (by (repeat (first | exact Below.refl _ _ | (refine Below.alloc ?_ (by first | exact Nat.le_refl _ | omega | (simp; done) | (simp; omega)) _) | (refine Below.setCell ?_ (by first | exact Nat.le_refl _ | omega | (simp; done) | (simp; omega)) _) | exact Below.drew ‹_›)))).more (by simp; omega))).mono ?_; rintro e w1 ⟨rfl, hb1⟩; have L1 := HL.out.below hb1 (by simp); have B1 := Lib.hid (Below.trans (B := w.heap.size) (a := w) (by (repeat (first | exact Below.refl _ _ | (refine Below.alloc ?_ (by first | exact Nat.le_refl _ | omega | (simp; done) | (simp; omega)) _) | (refine Below.setCell ?_ (by first | exact Nat.le_refl _ | omega | (simp; done) | (simp; omega)) _) | exact Below.drew ‹_›))) (hb1.mono (by simp; omega))); clear hb1; obtain ⟨z11, f10, f11, q10, q11⟩ := L1.two)
      refine bodyPost_ret (v := .tuple #[gval 0 none 0 0, .bool false]) (by simp [results, Try.results23, go_sem, f10, f11]) rfl ⟨none, w.heap.size, 0, rfl, Nat.le_refl _, fun h => absurd h (by simp), ?_⟩
      exact (B1.out.setCell (by simp; omega) _).setCell (by simp; omega) _
    | true =>
      have C1 : ∀ W : World, Sl W W.heap.size A [] → Calls Try.prog 32 #[gval n A 0 c] W fun e w' => e = .returned (.bool true) ∧ Below W.heap.size W w' := fun W hW => by
        have := valid_impl n A [] c W (by simp) hW
        rwa [hv] at this
      have C2 : ∀ W : World, Calls Try.prog 46 #[gval n A 0 c, .int .i64 x] W fun e w' => e = .returned (.bool false) ∧ Below W.heap.size W w' := fun W => by
        have := hasLink_any n A 0 c x W (by omega)
        rwa [show inB x 0 (((0 : Nat) : Int) - 1) = false from inB_none x] at this
      clear hv
      go_enter Try.func23, Try.ntmps23
      go_wp2_with (first
        | (go_at_call 32; refine (C1 _ ((H.out.below (by (repeat (first | exact Below.refl _ _ | (refine Below.alloc ?_ (by first | exact Nat.le_refl _ | omega | (simp; done) | (simp; omega)) _) | (refine Below.setCell ?_ (by first | exact Nat.le_refl _ | omega | (simp; done) | (simp; omega)) _) | exact Below.drew ‹_›)))).more (by simp; omega))).mono ?_; rintro e w1 ⟨rfl, hb1⟩; have L1 := Lib.hid (HL.out.below hb1 (by simp)); have K1 := HK.out.below hb1 (by simp; omega); have X1 := HX.out.below hb1 (by simp); have B1 := Lib.hid (Below.trans (B := w.heap.size) (a := w) (by (repeat (first | exact Below.refl _ _ | (refine Below.alloc ?_ (by first | exact Nat.le_refl _ | omega | (simp; done) | (simp; omega)) _) | (refine Below.setCell ?_ (by first | exact Nat.le_refl _ | omega | (simp; done) | (simp; omega)) _) | exact Below.drew ‹_›))) (hb1.mono (by simp; omega))); clear hb1; have z10 := K1.lt; have e10 := K1.cell 0; have e11 := K1.cell 1; have x10 := X1.cell 0)
        | (go_at_call 46; refine (C2 _).mono ?_; rintro e w2 ⟨rfl, hb2⟩; have L2 := L1.out.below hb2 L1.out.lt; have B2 := Lib.hid (B1.out.trans (hb2.mono (Nat.le_of_lt z10))); clear hb2 e10 e11 x10; obtain ⟨z21, f20, f21, q20, q21⟩ := L2.two))
      refine bodyPost_ret (v := .tuple #[gval 0 none 0 0, .bool false]) (by simp [results, Try.results23, go_sem, f20, f21]) rfl ⟨none, w.heap.size, 0, rfl, Nat.le_refl _, fun h => absurd h (by simp), ?_⟩
      exact (B2.out.setCell (by simp; omega) _).setCell (by simp; omega) _

theorem wo_bothA (n : Int) (ls : List Lk) (x : Int) (hm : ls.length ≤ 2000000) (hnu : n ≤ 9223372036854775807) :
    ∃ (m : Int) (rs : List Lk) (ok : Bool), rs.length ≤ ls.length ∧ (ok = true → withoutOk n ls x = true ∧ m = n ∧ rs = ls.eraseIdx x.toNat) ∧
      (∀ (A : Option Addr) (g c : Nat) (w : World), Own1 w A g ls → Calls Try.prog 23 #[gval n A ls.length c, .int .i64 x] w (GRes m rs ok w)) ∧
      (∀ (A : Option Addr) (g c : Nat) (w : World), Own1 w A g ls → ls.length ≤ c → Calls Try.prog 30 #[gval n A ls.length c, .int .i64 x] w (GRes m rs ok w)) := by
  by_cases h : withoutOk n ls x = true
  · refine ⟨n, ls.eraseIdx x.toNat, true, List.length_eraseIdx_le _ _, fun _ => ⟨h, rfl, rfl⟩, fun A g c w hs => ?_, fun A g c w hs hlc => ?_⟩
    · have := without_implA n A ls c x w hm hs.isA2 hs.sl
      rwa [if_pos h] at this
    · have := without_specA n A ls c x w hm hnu hlc hs.isA2 hs.sl
      rwa [if_pos h] at this
  · refine ⟨0, [], false, Nat.zero_le _, (fun h => by cases h), fun A g c w hs => ?_, fun A g c w hs hlc => ?_⟩
    · have := without_implA n A ls c x w hm hs.isA2 hs.sl
      rwa [if_neg h] at this
    · have := without_specA n A ls c x w hm hnu hlc hs.isA2 hs.sl
      rwa [if_neg h] at this
end Go.Proofs.Ytjponnfnofpdgaa
