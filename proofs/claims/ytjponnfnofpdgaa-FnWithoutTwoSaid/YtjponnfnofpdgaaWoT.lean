/-
  A contract over this seat: the specification's GraphWithout; both graphs are the same.
-/
import Derived.Test.YtjponnfnofpdgaaWoS
namespace Go.Proofs.Ytjponnfnofpdgaa
open Go.RowKit

set_option maxHeartbeats 800000 in
theorem without_spec (n : Int) (g : Nat) (ls : List Lk) (c : Nat) (x : Int) (w : World) (hm : ls.length ≤ 2000000) (hnu : n ≤ 9223372036854775807) (hlc : ls.length ≤ c) (h : Sl w w.heap.size (some ⟨g, 0, none⟩) ls) :
   Calls Try.prog 30 #[gval n (some ⟨g, 0, none⟩) ls.length c, .int .i64 x] w
     (if withoutOk n ls x = true then GRes n (ls.take x.toNat ++ ls.drop (x.toNat + 1)) true w else GRes 0 [] false w) := by
  have H := Lib.hid h
  clear h
  have hL := (Box.new (w.alloc (.cells #[.int .i64 n, .slice (some ⟨g, 0, none⟩) ls.length c] 30)) 30 #[.int .i64 0, .slice none 0 0])
  have hK := (Box.new w 30 #[.int .i64 n, .slice (some ⟨g, 0, none⟩) ls.length c]).alloc (.cells #[.int .i64 0, .slice none 0 0] 30)
  simp only [World.size_alloc] at hL
  have HL := Lib.hid hL
  have HK := Lib.hid hK
  clear hL hK
  cases hi : gvB n ls && inB x 0 ((ls.length : Int) - 1) with
  | false =>
    have hok : withoutOk n ls x = false := by unfold withoutOk; exact hi
    rw [if_neg (by rw [hok]; exact Bool.false_ne_true)]
    have C1 : ∀ W : World, Sl W W.heap.size (some ⟨g, 0, none⟩) ls → Calls Try.prog 53 #[gval n (some ⟨g, 0, none⟩) ls.length c, .int .i64 x] W fun e w' => e = .returned (.bool false) ∧ Below W.heap.size W w' := fun W hW => by
      have := l1Index_any n _ ls c x W hm hnu hW
      rwa [hi] at this
    clear hi hok
    go_enter Try.func30, Try.ntmps30
    go_wp2_with (go_at_call 53; refine (C1 _ ((H.out.below (by (repeat (first | exact Below.refl _ _ | (refine Below.alloc ?_ (by first | exact Nat.le_refl _ | omega | (simp; done) | (simp; omega)) _) | (refine Below.setCell ?_ (by first | exact Nat.le_refl _ | omega | (simp; done) | (simp; omega)) _) | exact Below.drew ‹_›)))).more (by simp; omega))).mono ?_; rintro e w1 ⟨rfl, hb1⟩; have L1 := HL.out.below hb1 (by simp); have B1 := Lib.hid (Below.trans (B := w.heap.size) (a := w) (by (repeat (first | exact Below.refl _ _ | (refine Below.alloc ?_ (by first | exact Nat.le_refl _ | omega | (simp; done) | (simp; omega)) _) | (refine Below.setCell ?_ (by first | exact Nat.le_refl _ | omega | (simp; done) | (simp; omega)) _) | exact Below.drew ‹_›))) (hb1.mono (by simp; omega))); clear hb1; obtain ⟨z11, f10, f11, q10, q11⟩ := L1.two)
    refine bodyPost_ret (v := .tuple #[gval 0 none 0 0, .bool false]) (by simp [results, Try.results30, go_sem, f10, f11]) rfl ⟨none, w.heap.size, 0, rfl, Nat.le_refl _, fun h => absurd h (by simp), ?_⟩
    exact (B1.out.setCell (by simp) _).setCell (by simp) _
  | true =>
    have C1 : ∀ W : World, Sl W W.heap.size (some ⟨g, 0, none⟩) ls → Calls Try.prog 53 #[gval n (some ⟨g, 0, none⟩) ls.length c, .int .i64 x] W fun e w' => e = .returned (.bool true) ∧ Below W.heap.size W w' := fun W hW => by
      have := l1Index_any n _ ls c x W hm hnu hW
      rwa [hi] at this
    have hok : withoutOk n ls x = true := by unfold withoutOk; exact hi
    rw [if_pos hok]
    have hx : inB x 0 ((ls.length : Int) - 1) = true := by rw [Bool.and_eq_true] at hi; exact hi.2
    unfold inB at hx
    simp at hx
    obtain ⟨hx0, hx1⟩ := hx
    obtain ⟨k, rfl⟩ : ∃ k : Nat, x = (k : Int) := ⟨x.toNat, by omega⟩
    have hkl : k < ls.length := by omega
    clear hi hok hx1
    go_enter Try.func30, Try.ntmps30
    go_wp2_with (first
      | (go_at_call 53; refine (C1 _ ((H.out.below (by (repeat (first | exact Below.refl _ _ | (refine Below.alloc ?_ (by first | exact Nat.le_refl _ | omega | (simp; done) | (simp; omega)) _) | (refine Below.setCell ?_ (by first | exact Nat.le_refl _ | omega | (simp; done) | (simp; omega)) _) | exact Below.drew ‹_›)))).more (by simp; omega))).mono ?_; rintro e w1 ⟨rfl, hb1⟩; have K1 := HK.out.below hb1 (by simp; omega); have L1 := Lib.hid (HL.out.below hb1 (by simp)); have B1 := Lib.hid (Below.trans (B := w.heap.size) (a := w) (by (repeat (first | exact Below.refl _ _ | (refine Below.alloc ?_ (by first | exact Nat.le_refl _ | omega | (simp; done) | (simp; omega)) _) | (refine Below.setCell ?_ (by first | exact Nat.le_refl _ | omega | (simp; done) | (simp; omega)) _) | exact Below.drew ‹_›))) (hb1.mono (by simp; omega))); clear hb1; obtain ⟨z10, e10, e11, _, _⟩ := K1.two)
      | (go_at_call 38; refine (l1Without_any n g ls c k _ hm hlc hkl ((H.out.below B1.out).more (Nat.le_of_lt z10))).mono ?_; rintro e w4 ⟨A, g', c', rfl, hg', ho, hb4⟩; have L4 := L1.out.below hb4 L1.out.lt; have B4 := Lib.hid (B1.out.trans (hb4.mono (Nat.le_of_lt z10))); have HO := Lib.hid ho; have zz := L1.out.lt; clear hb4 ho; obtain ⟨z41, f40, f41, q40, q41⟩ := L4.two))
    refine bodyPost_ret (v := .tuple #[gval n A (ls.take k ++ ls.drop (k + 1)).length c', .bool true]) (by simp [results, Try.results30, go_sem, f40, f41]) rfl ⟨A, g', c', rfl, by omega, ?_, ?_⟩
    · exact (HO.out.set_far (by dsimp only; omega) _).set_far (by dsimp only; omega) _
    · exact (B4.out.setCell (by simp) _).setCell (by simp) _


theorem keep_all {T : Nat → Lk → Bool} (hT : ∀ k l, T k l = true) (ls : List Lk) : ∀ k, keepTo T ls k = ls.take k
  | 0 => by simp [keepTo]
  | k + 1 => by
    simp only [keepTo, keep_all hT ls k]
    rw [List.take_add_one]
    congr 1
    cases ls[k]? with
    | none => rfl
    | some l => simp [hT]
theorem keep_but (ls : List Lk) (x : Nat) : ∀ k, keepTo (fun j _ => !decide ((j : Int) = (x : Int))) ls k = (ls.take k).take x ++ (ls.take k).drop (x + 1)
  | 0 => by simp [keepTo]
  | k + 1 => by
    simp only [keepTo, keep_but ls x k]
    rw [List.take_add_one]
    by_cases hk : k < ls.length
    · rw [List.getElem?_eq_getElem hk]
      have hlen : (ls.take k).length = k := by rw [List.length_take]; omega
      generalize ls.take k = zs at hlen ⊢
      generalize ls[k] = l
      rcases Nat.lt_trichotomy k x with h | h | h
      · have e : (!decide ((k : Int) = (x : Int))) = true := by simp; omega
        simp only [e, if_true, Option.toList_some]
        have h1 : zs.take x = zs := List.take_of_length_le (by omega)
        have h2 : zs.drop (x + 1) = [] := List.drop_eq_nil_of_le (by omega)
        have h3 : (zs ++ [l]).take x = zs ++ [l] := List.take_of_length_le (by simp; omega)
        have h4 : (zs ++ [l]).drop (x + 1) = [] := List.drop_eq_nil_of_le (by simp; omega)
        rw [h1, h2, h3, h4]
        simp
      · subst h
        simp only [decide_true, Bool.not_true, Bool.false_eq_true, if_false, Option.toList_some]
        have h1 : zs.take k = zs := List.take_of_length_le (by omega)
        have h2 : zs.drop (k + 1) = [] := List.drop_eq_nil_of_le (by omega)
        have h3 : (zs ++ [l]).take k = zs := by rw [List.take_append_of_le_length (by omega), h1]
        have h4 : (zs ++ [l]).drop (k + 1) = [] := List.drop_eq_nil_of_le (by simp; omega)
        rw [h1, h2, h3, h4]
        simp
      · have e : (!decide ((k : Int) = (x : Int))) = true := by simp; omega
        simp only [e, if_true, Option.toList_some]
        rw [List.take_append_of_le_length (by omega), List.drop_append_of_le_length (by omega), List.append_assoc]
    · rw [List.getElem?_eq_none (by omega)]
      simp
theorem keep_without_eq (ls : List Lk) (x : Nat) : keepTo (fun j _ => !decide ((j : Int) = (x : Int))) ls ls.length = ls.take x ++ ls.drop (x + 1) := by
  rw [keep_but, List.take_length]

theorem without_both (n : Int) (ls : List Lk) (x : Int) (hm : ls.length ≤ 2000000) (hnu : n ≤ 9223372036854775807) :
    ∃ (m : Int) (rs : List Lk) (ok : Bool), rs.length ≤ 2000000 ∧
      (∀ (g c : Nat) (w : World), Sl w w.heap.size (some ⟨g, 0, none⟩) ls → Calls Try.prog 23 #[gval n (some ⟨g, 0, none⟩) ls.length c, .int .i64 x] w (GRes m rs ok w)) ∧
      (∀ (g c : Nat) (w : World), Sl w w.heap.size (some ⟨g, 0, none⟩) ls → ls.length ≤ c → Calls Try.prog 30 #[gval n (some ⟨g, 0, none⟩) ls.length c, .int .i64 x] w (GRes m rs ok w)) := by
  by_cases h : withoutOk n ls x = true
  · have hx : inB x 0 ((ls.length : Int) - 1) = true := by unfold withoutOk at h; rw [Bool.and_eq_true] at h; exact h.2
    unfold inB at hx
    simp at hx
    refine ⟨n, keepTo (fun k _ => !decide ((k : Int) = x)) ls ls.length, true, Nat.le_trans (keepTo_len _ _ _) hm, fun g c w hs => ?_, fun g c w hs hlc => ?_⟩
    · have := without_impl n g ls c x w hm hs
      rwa [if_pos h] at this
    · have := without_spec n g ls c x w hm hnu hlc hs
      rw [if_pos h, ← keep_without_eq, Int.toNat_of_nonneg hx.1] at this
      exact this
  · refine ⟨0, [], false, Nat.zero_le _, fun g c w hs => ?_, fun g c w hs hlc => ?_⟩
    · have := without_impl n g ls c x w hm hs
      rwa [if_neg h] at this
    · have := without_spec n g ls c x w hm hnu hlc hs
      rwa [if_neg h] at this

end Go.Proofs.Ytjponnfnofpdgaa
