/-
  Contracts over this seat: GraphIsolate and GraphWithout, of the program: 'keep' with the two tests.
-/
import Derived.Test.YtkcnbgimdiggoabA2
import Derived.Deep.AppendLies
namespace Go.Proofs.Ytkcnbgimdiggoab
open Go.RowKit

theorem touches_any2 (l : Lk) (n : Int) (w : World) :
   Calls Try.prog 101 #[l.v, .int .i64 n] w fun e w' => e = .returned (.bool (decide (l.a = n) || decide (l.b = n))) ∧ Below w.heap.size w w' := by
  go_enter Try.func101, Try.ntmps101
  go_wp2
  all_goals
    go_ret
    exact ⟨ret_bool (by rw [Bool.eq_iff_iff]; simp_all), by (repeat (first | exact Below.refl _ _ | (refine Below.alloc ?_ (by first | exact Nat.le_refl _ | omega | (simp; done) | (simp; omega)) _) | (refine Below.setCell ?_ (by first | exact Nat.le_refl _ | omega | (simp; done) | (simp; omega)) _) | exact Below.drew ‹_›))⟩

theorem notLink_any (k : Nat) (l : Lk) (x : Int) (b : Nat) (w : World) (hb : w.cell? ⟨b, 0, none⟩ = some (.int .i64 x)) (hlt : b < w.heap.size) :
   Calls Try.prog 61 #[.int .i64 k, l.v, .pointer (some ⟨b, 0, none⟩)] w fun e w' => e = .returned (.bool (!decide ((k : Int) = x))) ∧ Below w.heap.size w w' := by
  go_enter Try.func61, Try.ntmps61
  go_wp2
  go_ret
  exact ⟨ret_bool (by rw [Bool.eq_iff_iff]; simp), by (repeat (first | exact Below.refl _ _ | (refine Below.alloc ?_ (by first | exact Nat.le_refl _ | omega | (simp; done) | (simp; omega)) _) | (refine Below.setCell ?_ (by first | exact Nat.le_refl _ | omega | (simp; done) | (simp; omega)) _) | exact Below.drew ‹_›))⟩


/-- The links that pass, among the first k. -/
def keepTo (T : Nat → Lk → Bool) (ls : List Lk) : Nat → List Lk
  | 0 => []
  | k + 1 => keepTo T ls k ++ (match ls[k]? with
    | some l => if T k l = true then [l] else []
    | none => [])
theorem keepTo_len (T : Nat → Lk → Bool) (ls : List Lk) (k : Nat) : (keepTo T ls k).length ≤ k := by
  induction k with
  | zero => simp [keepTo]
  | succ k ih =>
    simp only [keepTo, List.length_append]
    split
    · split <;> simp <;> omega
    · simp; omega
theorem keepTo_hit {T : Nat → Lk → Bool} {ls : List Lk} {k : Nat} {l : Lk} (h : ls[k]? = some l) (ht : T k l = true) : keepTo T ls (k + 1) = keepTo T ls k ++ [l] := by
  simp [keepTo, h, ht]
theorem keepTo_miss {T : Nat → Lk → Bool} {ls : List Lk} {k : Nat} {l : Lk} (h : ls[k]? = some l) (ht : T k l = false) : keepTo T ls (k + 1) = keepTo T ls k := by
  simp [keepTo, h, ht]

theorem new3l (w : World) (x y z : Value) (t : TypeId) : ∀ j u, [x, y, z][j]? = some u → (w.alloc (.cells #[x, y, z] t)).cell? ((⟨w.heap.size, 0, none⟩ : Addr).add j) = some u := by
  intro j u h
  have e : (⟨w.heap.size, 0, none⟩ : Addr).add j = ⟨w.heap.size, j, none⟩ := by
    unfold Addr.add
    by_cases hj : j = 0 <;> simp [hj]
  rw [e, (Box.new w t #[x, y, z]).cell j]
  simpa using h
theorem one3l (x y z : Int) : ∀ u ∈ [Value.int .i64 x, Value.int .i64 y, Value.int .i64 z], u.oneCell' = true := by
  intro u hu
  simp at hu
  rcases hu with rfl | rfl | rfl <;> rfl
theorem owns_below {w w' : World} {base e size n : Nat} {v : Value} {xs : List Value} (h : w.ownsRow base e size v n xs) (hb : Below w.heap.size w w') : w'.ownsRow base e size v n xs :=
  h.kept ⟨hb.os, hb.tape, hb.output, hb.size, fun k hk _ => hb.block k hk⟩ (row := none) (by
    by_cases h : v.ownBlock = none
    · exact .inl h
    · exact .inr h)

set_option maxRecDepth 100000 in
set_option maxHeartbeats 1600000 in
theorem keep_without (n : Int) (A : Option Addr) (ls : List Lk) (c : Nat) (x : Int) (b : Nat) (w : World) (hm : ls.length ≤ 2000000) (hb : w.cell? ⟨b, 0, none⟩ = some (.int .i64 x)) (hlt : b < w.heap.size) (hS : Sl w w.heap.size A ls) :
   Calls Try.prog 60 #[gval n A ls.length c, .func (.func 61) #[] #[.pointer (some ⟨b, 0, none⟩)]] w (NewG n (keepTo (fun k _ => !decide ((k : Int) = x)) ls ls.length) w) := by
  obtain ⟨i0, hi, hz0, hz1, hz2⟩ := info_parts infoLink
  have HS := Lib.hid hS
  have HX := Lib.hid hb
  have hK := ((Box.new w 25 #[.int .i64 n, .slice A ls.length c]).alloc (.cells #[.int .i64 0, .slice none 0 0] 25)).alloc (.cells #[] 68)
  have hL := (Box.new (w.alloc (.cells #[.int .i64 n, .slice A ls.length c] 25)) 25 #[.int .i64 0, .slice none 0 0]).alloc (.cells #[] 68)
  have hR := World.ownsRow_made (base := w.heap.size + 2) (e := 68) (size := 3) ((w.alloc (.cells #[.int .i64 n, .slice A ls.length c] 25)).alloc (.cells #[.int .i64 0, .slice none 0 0] 25)) #[] 0 (by simp) (by unfold maxLen; omega) rfl
  simp only [World.size_alloc] at hL hR
  have HK := Lib.hid hK
  have HL := Lib.hid hL
  have HR := Lib.hid hR
  clear hS hb hK hL hR
  go_enter Try.func60, Try.ntmps60
  go_wp2
  go_loopw [5, 12] (fun v i wr => ∃ k : Nat, k ≤ ls.length ∧ i = .int .i64 k ∧ Below w.heap.size w wr ∧ Box wr w.heap.size 25 #[.int .i64 n, .slice A ls.length c] ∧ Box wr (w.heap.size + 1) 25 #[.int .i64 0, .slice none 0 0] ∧
    wr.ownsRow (w.heap.size + 2) 68 3 v (keepTo (fun k _ => !decide ((k : Int) = x)) ls k).length (flat (keepTo (fun k _ => !decide ((k : Int) = x)) ls k))) (fun _ i _ => ls.length - (intOf i).toNat)
  case atStart => exact ⟨0, Nat.zero_le _, rfl, by (repeat (first | exact Below.refl _ _ | (refine Below.alloc ?_ (by first | exact Nat.le_refl _ | omega | (simp; done) | (simp; omega)) _) | (refine Below.setCell ?_ (by first | exact Nat.le_refl _ | omega | (simp; done) | (simp; omega)) _) | exact Below.drew ‹_›)), HK.out, HL.out, HR.out⟩
  case round =>
    obtain ⟨k, hk, rfl, hb, hbk, hbl, hrow⟩ := hrel
    have HB := Lib.hid hb
    have BK := Lib.hid hbk
    have BL := Lib.hid hbl
    have HW := Lib.hid hrow
    have zl := hbl.lt
    by_cases hlk : k < ls.length
    · obtain ⟨l, hl⟩ : ∃ x, ls[k]? = some x := ⟨_, List.getElem?_eq_getElem hlk⟩
      obtain ⟨bb, off, rfl, hbb, hc1, hc2, hc3⟩ := (HS.out.below hb) k l hl
      have HLl := Lib.hid hl
      have hcx : wr.cell? ⟨b, 0, none⟩ = some (.int .i64 x) := (hb.cell (p := ⟨b, 0, none⟩) hlt).trans HX.out
      have C1 := notLink_any k l x b (wr.alloc (.cells #[.int .i64 l.a, .int .i64 l.b, .int .i64 l.c] 68)) ((World.cell?_alloc_lt wr _ ⟨b, 0, none⟩ (by dsimp only; omega)).trans hcx) (by simp; omega)
      have hkl := keepTo_len (fun k _ => !decide ((k : Int) = x)) ls k
      clear hl hb hbk hbl hrow hcx
      cases ht : (!decide ((k : Int) = x)) with
      | true =>
        rw [ht] at C1
        have HN := Lib.hid (keepTo_hit (T := (fun k _ => !decide ((k : Int) = x))) HLl.out ht)
        clear ht
        go_wp2_with (first
          | (go_at_call 61; refine C1.mono ?_; clear C1; rintro e w1 ⟨rfl, hb1⟩; have L1 := Lib.hid ((Box.new wr 68 #[.int .i64 l.a, .int .i64 l.b, .int .i64 l.c]).below hb1 (by simp)); have e0 := L1.out.cell 0; have e1 := L1.out.cell 1; have e2 := L1.out.cell 2; have hw1 : Below wr.heap.size wr w1 := Below.trans (B := wr.heap.size) (by (repeat (first | exact Below.refl _ _ | (refine Below.alloc ?_ (by first | exact Nat.le_refl _ | omega | (simp; done) | (simp; omega)) _) | (refine Below.setCell ?_ (by first | exact Nat.le_refl _ | omega | (simp; done) | (simp; omega)) _) | exact Below.drew ‹_›))) (hb1.mono (by simp)); have B1 := Lib.hid (HB.out.trans (hw1.mono HB.out.size)); have K1 := Lib.hid (BK.out.below hw1 BK.out.lt); have N1 := Lib.hid (BL.out.below hw1 BL.out.lt); have W1 := Lib.hid (owns_below HW.out hw1); have s1 := hw1.size; clear hb1 hw1)
          | (at_builtin; refine wpList_append_own _ rfl _ _ 23 rfl (w.heap.size + 2) 68 i0 _ 3 24 Try.underlying23 hi hz0 hz1 hz2 rfl (by decide) _ (keepTo (fun k _ => !decide ((k : Int) = x)) ls k).length (flat (keepTo (fun k _ => !decide ((k : Int) = x)) ls k)) rfl (W1.out.alloc _) ⟨w1.heap.size, 0, none⟩ 1 1 _ rfl rfl (new3l _ _ _ _ _) (one3l _ _ _) (by unfold maxLen; omega) (by omega) (by simp; omega) ?_; intro v' w3 hown3 hgrow3 _; have W3 := Lib.hid hown3; have G3 := Lib.hid hgrow3; clear hown3 hgrow3 e0 e1 e2))
        go_roundw
        case rel =>
          have hne := fun j e => (W1.out.lt j e).1
          refine ⟨k + 1, hlk, by go_num, ?_, ?_, ?_, ?_⟩
          · exact (B1.out.alloc (by omega) _).grown G3.out (by simp; omega) (fun j e => by have := hne j e; omega)
          · exact (G3.out.block w.heap.size (by simp; omega) (fun e => by have := hne _ e.symm; omega)).trans (K1.out.alloc _)
          · exact (G3.out.block (w.heap.size + 1) (by simp; omega) (fun e => by have := hne _ e.symm; omega)).trans (N1.out.alloc _)
          · rw [HN.out, flat_append, List.length_append]
            exact W3.out
        case measure => simp [intOf]; omega
      | false =>
        rw [ht] at C1
        have HN := Lib.hid (keepTo_miss (T := (fun k _ => !decide ((k : Int) = x))) HLl.out ht)
        clear ht
        go_wp2_with (go_at_call 61; refine C1.mono ?_; clear C1; rintro e w1 ⟨rfl, hb1⟩; have hw1 : Below wr.heap.size wr w1 := Below.trans (B := wr.heap.size) (by (repeat (first | exact Below.refl _ _ | (refine Below.alloc ?_ (by first | exact Nat.le_refl _ | omega | (simp; done) | (simp; omega)) _) | (refine Below.setCell ?_ (by first | exact Nat.le_refl _ | omega | (simp; done) | (simp; omega)) _) | exact Below.drew ‹_›))) (hb1.mono (by simp)); have B1 := Lib.hid (HB.out.trans (hw1.mono HB.out.size)); have K1 := Lib.hid (BK.out.below hw1 BK.out.lt); have N1 := Lib.hid (BL.out.below hw1 BL.out.lt); have W1 := Lib.hid (owns_below HW.out hw1); clear hb1 hw1)
        go_roundw
        case rel => exact ⟨k + 1, hlk, by go_num, B1.out, K1.out, N1.out, by rw [HN.out]; exact W1.out⟩
        case measure => simp [intOf]; omega
    · obtain rfl : k = ls.length := by omega
      obtain ⟨A', g', c', rfl, hg', _, ho⟩ := own_slice HW.out (by omega)
      have HO := Lib.hid ho
      obtain ⟨zk, e10, e11, _, _⟩ := hbk.two
      obtain ⟨zn, f10, f11, q10, q11⟩ := hbl.two
      clear ho hb hbk hbl hrow
      go_wp2
      refine bodyPost_ret (v := gval n A' (keepTo (fun k _ => !decide ((k : Int) = x)) ls ls.length).length c') (by simp [results, Try.results60, go_sem, f10, f11]) rfl ⟨A', g', c', rfl, by omega, ?_, ?_⟩
      · exact (HO.out.set_far (by dsimp only; omega) _).set_far (by dsimp only; omega) _
      · exact (HB.out.setCell (by simp) _).setCell (by simp) _


/-- Whether the graph is valid and has the link. -/
def withoutOk (n : Int) (ls : List Lk) (x : Int) : Bool := gvB n ls && inB x 0 ((ls.length : Int) - 1)

set_option maxHeartbeats 800000 in
theorem without_impl (n : Int) (g : Nat) (ls : List Lk) (c : Nat) (x : Int) (w : World) (hm : ls.length ≤ 2000000) (h : Sl w w.heap.size (some ⟨g, 0, none⟩) ls) :
   Calls Try.prog 21 #[gval n (some ⟨g, 0, none⟩) ls.length c, .int .i64 x] w
     (if withoutOk n ls x = true then GRes n (keepTo (fun k _ => !decide ((k : Int) = x)) ls ls.length) true w else GRes 0 [] false w) := by
  have H := Lib.hid h
  have hK := ((Box.new w 25 #[.int .i64 n, .slice (some ⟨g, 0, none⟩) ls.length c]).alloc (.cells #[.int .i64 x] 3)).alloc (.cells #[.int .i64 0, .slice none 0 0] 25)
  have hX := (Box.new (w.alloc (.cells #[.int .i64 n, .slice (some ⟨g, 0, none⟩) ls.length c] 25)) 3 #[.int .i64 x]).alloc (.cells #[.int .i64 0, .slice none 0 0] 25)
  have hL := Box.new ((w.alloc (.cells #[.int .i64 n, .slice (some ⟨g, 0, none⟩) ls.length c] 25)).alloc (.cells #[.int .i64 x] 3)) 25 #[.int .i64 0, .slice none 0 0]
  simp only [World.size_alloc] at hX hL
  have HK := Lib.hid hK
  have HX := Lib.hid hX
  have HL := Lib.hid hL
  clear h hK hX hL
  cases hv : gvB n ls with
  | false =>
    have hok : withoutOk n ls x = false := by unfold withoutOk; rw [hv]; rfl
    rw [if_neg (by rw [hok]; exact Bool.false_ne_true)]
    have C1 : ∀ W : World, Sl W W.heap.size (some ⟨g, 0, none⟩) ls → Calls Try.prog 58 #[gval n (some ⟨g, 0, none⟩) ls.length c] W fun e w' => e = .returned (.bool false) ∧ Below W.heap.size W w' := fun W hW => by
      have := valid_impl n _ ls c W hm hW
      rwa [hv] at this
    clear hv hok
    go_enter Try.func21, Try.ntmps21
    go_wp2_with (go_at_call 58; refine (C1 _ ((H.out.below (by (repeat (first | exact Below.refl _ _ | (refine Below.alloc ?_ (by first | exact Nat.le_refl _ | omega | (simp; done) | (simp; omega)) _) | (refine Below.setCell ?_ (by first | exact Nat.le_refl _ | omega | (simp; done) | (simp; omega)) _) | exact Below.drew ‹_›)))).more (by simp; omega))).mono ?_; rintro e w1 ⟨rfl, hb1⟩; have L1 := HL.out.below hb1 (by simp); have B1 := Lib.hid (Below.trans (B := w.heap.size) (a := w) (by (repeat (first | exact Below.refl _ _ | (refine Below.alloc ?_ (by first | exact Nat.le_refl _ | omega | (simp; done) | (simp; omega)) _) | (refine Below.setCell ?_ (by first | exact Nat.le_refl _ | omega | (simp; done) | (simp; omega)) _) | exact Below.drew ‹_›))) (hb1.mono (by simp; omega))); clear hb1; obtain ⟨z11, f10, f11, q10, q11⟩ := L1.two)
    refine bodyPost_ret (v := .tuple #[gval 0 none 0 0, .bool false]) (by simp [results, Try.results21, go_sem, f10, f11]) rfl ⟨none, w.heap.size, 0, rfl, Nat.le_refl _, fun h => absurd h (by simp), ?_⟩
    exact (B1.out.setCell (by simp; omega) _).setCell (by simp; omega) _
  | true =>
    have C1 : ∀ W : World, Sl W W.heap.size (some ⟨g, 0, none⟩) ls → Calls Try.prog 58 #[gval n (some ⟨g, 0, none⟩) ls.length c] W fun e w' => e = .returned (.bool true) ∧ Below W.heap.size W w' := fun W hW => by
      have := valid_impl n _ ls c W hm hW
      rwa [hv] at this
    cases hx : inB x 0 ((ls.length : Int) - 1) with
    | false =>
      have hok : withoutOk n ls x = false := by unfold withoutOk; rw [hx]; simp
      rw [if_neg (by rw [hok]; exact Bool.false_ne_true)]
      have C2 : ∀ W : World, Calls Try.prog 59 #[gval n (some ⟨g, 0, none⟩) ls.length c, .int .i64 x] W fun e w' => e = .returned (.bool false) ∧ Below W.heap.size W w' := fun W => by
        have := hasLink_any n (some ⟨g, 0, none⟩) ls.length c x W hm
        rwa [hx] at this
      clear hv hx hok
      go_enter Try.func21, Try.ntmps21
      go_wp2_with (first
        | (go_at_call 58; refine (C1 _ ((H.out.below (by (repeat (first | exact Below.refl _ _ | (refine Below.alloc ?_ (by first | exact Nat.le_refl _ | omega | (simp; done) | (simp; omega)) _) | (refine Below.setCell ?_ (by first | exact Nat.le_refl _ | omega | (simp; done) | (simp; omega)) _) | exact Below.drew ‹_›)))).more (by simp; omega))).mono ?_; rintro e w1 ⟨rfl, hb1⟩; have L1 := Lib.hid (HL.out.below hb1 (by simp)); have K1 := HK.out.below hb1 (by simp; omega); have X1 := HX.out.below hb1 (by simp); have B1 := Lib.hid (Below.trans (B := w.heap.size) (a := w) (by (repeat (first | exact Below.refl _ _ | (refine Below.alloc ?_ (by first | exact Nat.le_refl _ | omega | (simp; done) | (simp; omega)) _) | (refine Below.setCell ?_ (by first | exact Nat.le_refl _ | omega | (simp; done) | (simp; omega)) _) | exact Below.drew ‹_›))) (hb1.mono (by simp; omega))); clear hb1; have z10 := K1.lt; have e10 := K1.cell 0; have e11 := K1.cell 1; have x10 := X1.cell 0)
        | (go_at_call 59; refine (C2 _).mono ?_; rintro e w2 ⟨rfl, hb2⟩; have L2 := L1.out.below hb2 L1.out.lt; have B2 := Lib.hid (B1.out.trans (hb2.mono (Nat.le_of_lt z10))); clear hb2 e10 e11 x10; obtain ⟨z21, f20, f21, q20, q21⟩ := L2.two))
      refine bodyPost_ret (v := .tuple #[gval 0 none 0 0, .bool false]) (by simp [results, Try.results21, go_sem, f20, f21]) rfl ⟨none, w.heap.size, 0, rfl, Nat.le_refl _, fun h => absurd h (by simp), ?_⟩
      exact (B2.out.setCell (by simp; omega) _).setCell (by simp; omega) _
    | true =>
      have hok : withoutOk n ls x = true := by unfold withoutOk; rw [hv, hx]; rfl
      rw [if_pos hok]
      have C2 : ∀ W : World, Calls Try.prog 59 #[gval n (some ⟨g, 0, none⟩) ls.length c, .int .i64 x] W fun e w' => e = .returned (.bool true) ∧ Below W.heap.size W w' := fun W => by
        have := hasLink_any n (some ⟨g, 0, none⟩) ls.length c x W hm
        rwa [hx] at this
      clear hv hx hok
      go_enter Try.func21, Try.ntmps21
      go_wp2_with (first
        | (go_at_call 58; refine (C1 _ ((H.out.below (by (repeat (first | exact Below.refl _ _ | (refine Below.alloc ?_ (by first | exact Nat.le_refl _ | omega | (simp; done) | (simp; omega)) _) | (refine Below.setCell ?_ (by first | exact Nat.le_refl _ | omega | (simp; done) | (simp; omega)) _) | exact Below.drew ‹_›)))).more (by simp; omega))).mono ?_; rintro e w1 ⟨rfl, hb1⟩; have L1 := Lib.hid (HL.out.below hb1 (by simp)); have K1 := HK.out.below hb1 (by simp; omega); have X1 := HX.out.below hb1 (by simp); have B1 := Lib.hid (Below.trans (B := w.heap.size) (a := w) (by (repeat (first | exact Below.refl _ _ | (refine Below.alloc ?_ (by first | exact Nat.le_refl _ | omega | (simp; done) | (simp; omega)) _) | (refine Below.setCell ?_ (by first | exact Nat.le_refl _ | omega | (simp; done) | (simp; omega)) _) | exact Below.drew ‹_›))) (hb1.mono (by simp; omega))); clear hb1; have z10 := K1.lt; have e10 := K1.cell 0; have e11 := K1.cell 1; have x10 := X1.cell 0)
        | (go_at_call 59; refine (C2 _).mono ?_; rintro e w2 ⟨rfl, hb2⟩; have L2 := Lib.hid (L1.out.below hb2 L1.out.lt); have K2 := K1.below hb2 K1.lt; have X2 := Lib.hid (X1.below hb2 X1.lt); have B2 := Lib.hid (B1.out.trans (hb2.mono (Nat.le_of_lt z10))); clear hb2 e10 e11 x10; have z20 := K2.lt; have e20 := K2.cell 0; have e21 := K2.cell 1)
        | (go_at_call 60; refine (keep_without n _ ls c x (w.heap.size + 1) _ hm (X2.out.cell 0) X2.out.lt ((H.out.below B2.out).more (Nat.le_of_lt z20))).mono ?_; rintro e w3 ⟨A, g', c', rfl, hg', ho, hb3⟩; have L3 := L2.out.below hb3 L2.out.lt; have B3 := Lib.hid (B2.out.trans (hb3.mono (Nat.le_of_lt z20))); have HO := Lib.hid ho; have y2 := L2.out.lt; clear hb3 ho; obtain ⟨z31, f30, f31, q30, q31⟩ := L3.two))
      refine bodyPost_ret (v := .tuple #[gval n A (keepTo (fun k _ => !decide ((k : Int) = x)) ls ls.length).length c', .bool true]) (by simp [results, Try.results21, go_sem, f30, f31]) rfl ⟨A, g', c', rfl, by omega, ?_, ?_⟩
      · exact (HO.out.set_far (by dsimp only; omega) _).set_far (by dsimp only; omega) _
      · exact (B3.out.setCell (by simp; omega) _).setCell (by simp; omega) _

/-- Whether the graph is valid and has the node. -/
def isolateOk (n : Int) (ls : List Lk) (x : Int) : Bool := gvB n ls && inB x 0 (n - 1)


end Go.Proofs.Ytkcnbgimdiggoab

/-
  Contracts over this seat: the specification's GraphIsolate.
-/
namespace Go.Proofs.Ytkcnbgimdiggoab
open Go.RowKit

theorem own_box_ne2 {w : World} {base e size n : Nat} {v : Value} {xs : List Value} {g t : Nat} {cs : Array Value} (h : w.ownsRow base e size v n xs) (hg : Box w g t cs) (hne : e ≠ t) : v.ownBlock ≠ some g := by
  rcases h.2 with ⟨rfl, _⟩ | ⟨g', cap, cur, rfl, _, hh, _⟩
  · simp [Value.ownBlock]
  · intro he
    have : g' = g := by simpa [Value.ownBlock] using he
    subst this
    unfold Box at hg
    rw [hh] at hg
    injection hg with hg
    injection hg with _ ht
    exact hne ht

theorem l1Node_any (n : Int) (v : Value) (x : Int) (w : World) (hn1 : 1 ≤ n) (hn8 : n ≤ 8) :
   Calls Try.prog 79 #[.agg #[.int .i64 n, v], .int .i64 x] w fun e w' => e = .returned (.bool (inB x 0 (n - 1))) ∧ Below w.heap.size w w' := by
  go_enter Try.func79, Try.ntmps79
  go_wp2_with (go_at_call 52; refine (l6In_any _ _ _ _).mono ?_; rintro e w' ⟨rfl, rfl⟩)
  go_ret
  exact ⟨rfl, by (repeat (first | exact Below.refl _ _ | (refine Below.alloc ?_ (by first | exact Nat.le_refl _ | omega | (simp; done) | (simp; omega)) _) | (refine Below.setCell ?_ (by first | exact Nat.le_refl _ | omega | (simp; done) | (simp; omega)) _) | exact Below.drew ‹_›))⟩

theorem gvB_n {n : Int} {ls : List Lk} (h : gvB n ls = true) : 1 ≤ n ∧ n ≤ 8 ∧ ls.length ≤ 14 := by
  unfold gvB inB at h
  simp at h
  omega

/-- The state while the graph is filled: the argument's box, the result's, the new graph's box and its row. -/
def IS (w : World) (b0 : Nat) (n : Int) (A : Option Addr) (len c : Nat) (ks : List Lk) (v : Value) (wx : World) : Prop :=
  Box wx w.heap.size 25 #[.int .i64 n, .slice A len c] ∧ Box wx (w.heap.size + 1) 25 #[.int .i64 0, .slice none 0 0] ∧ Box wx (b0 + 1) 25 #[.int .i64 n, v] ∧
  wx.ownsRow b0 68 3 v ks.length (flat ks) ∧ Below w.heap.size w wx ∧ w.heap.size + 1 < b0 ∧ b0 ≤ wx.heap.size
theorem IS.drew {w wx : World} {b0 : Nat} {n : Int} {A : Option Addr} {len c : Nat} {ks : List Lk} {v : Value} (h : IS w b0 n A len c ks v wx) : IS w b0 n A len c ks v wx.drew :=
  ⟨h.1, h.2.1, h.2.2.1, h.2.2.2.1, h.2.2.2.2.1.drew, h.2.2.2.2.2⟩
theorem IS.stored {w wx w8 : World} {b0 : Nat} {n : Int} {A : Option Addr} {len c : Nat} {ks : List Lk} {v v' : Value} {o : Obj} {x y z : Int} (h : IS w b0 n A len c ks v wx)
    (hown : w8.ownsRow b0 68 3 v' (ks.length + 1) (flat ks ++ [.int .i64 x, .int .i64 y, .int .i64 z])) (hg : (wx.alloc o).grownBy w8 v.ownBlock) :
    Box w8 (b0 + 1) 25 #[.int .i64 n, v] ∧ IS w b0 n A len c (ks ++ [⟨x, y, z⟩]) v' (w8.setCell ⟨b0 + 1, 1, none⟩ v') := by
  obtain ⟨h1, h2, h3, h4, h5, h6, h7⟩ := h
  have hbase := h4.lt
  have k1 : Box w8 w.heap.size 25 #[.int .i64 n, .slice A len c] := (hg.block _ (by have := h1.lt; simp; omega) (fun e => own_box_ne2 h4 h1 (by decide) e.symm)).trans (h1.alloc o)
  have k2 : Box w8 (w.heap.size + 1) 25 #[.int .i64 0, .slice none 0 0] := (hg.block _ (by have := h2.lt; simp; omega) (fun e => own_box_ne2 h4 h2 (by decide) e.symm)).trans (h2.alloc o)
  have k3 : Box w8 (b0 + 1) 25 #[.int .i64 n, v] := (hg.block _ (by have := h3.lt; simp; omega) (fun e => own_box_ne2 h4 h3 (by decide) e.symm)).trans (h3.alloc o)
  refine ⟨k3, (Below.heap_setCell w8 ⟨b0 + 1, 1, none⟩ _ _ (by dsimp only; omega)).trans k1, (Below.heap_setCell w8 ⟨b0 + 1, 1, none⟩ _ _ (by dsimp only; omega)).trans k2, heap_set k3 1 _, ?_, ?_, h6, ?_⟩
  · have hk := hown.kept (grown_set (World.grownBy.refl w8 (some (b0 + 1))) 1 v') (.inr (own_box_ne2 hown k3 (by decide)))
    rw [flat_append, List.length_append]
    exact hk
  · exact ((h5.alloc (by omega) o).grown hg (by simp; omega) (fun j e => by have := (hbase j e).1; omega)).setCell (by dsimp only; omega) _
  · have := hg.size; simp at this ⊢; omega



end Go.Proofs.Ytkcnbgimdiggoab

/-
  Contracts over this seat: GraphIsolate, the program's and the specification's, wherever the links lie.
-/
namespace Go.Proofs.Ytkcnbgimdiggoab
open Go.RowKit



end Go.Proofs.Ytkcnbgimdiggoab

/-
  A contract over this seat: sameGraph of the same graphs.
-/
namespace Go.Proofs.Ytkcnbgimdiggoab
open Go.RowKit


end Go.Proofs.Ytkcnbgimdiggoab
