/-
  Contracts over this seat: GraphIsolate, the program's and the specification's, wherever the links lie.
-/
import Derived.Test.YtigamnnboojiiaaIsoS
namespace Go.Proofs.Ytigamnnboojiiaa
open Go.RowKit

set_option maxRecDepth 100000 in
set_option maxHeartbeats 4000000 in
theorem isolate_implA (n : Int) (A0 : Option Addr) (ls : List Lk) (c : Nat) (x : Int) (w : World) (hm : ls.length ≤ 2000000) (h : Sl w w.heap.size A0 ls) :
   Calls Try.prog 30 #[gval n A0 ls.length c, .int .i64 x] w
     (if isolateOk n ls x = true then GRes n (keepTo (fun _ l => !decide (l.a = x) && !decide (l.b = x)) ls ls.length) true w else GRes 0 [] false w) := by
  have H := Lib.hid h
  have hK := ((Box.new w 30 #[.int .i64 n, .slice A0 ls.length c]).alloc (.cells #[.int .i64 x] 3)).alloc (.cells #[.int .i64 0, .slice none 0 0] 30)
  have hX := (Box.new (w.alloc (.cells #[.int .i64 n, .slice A0 ls.length c] 30)) 3 #[.int .i64 x]).alloc (.cells #[.int .i64 0, .slice none 0 0] 30)
  have hL := Box.new ((w.alloc (.cells #[.int .i64 n, .slice A0 ls.length c] 30)).alloc (.cells #[.int .i64 x] 3)) 30 #[.int .i64 0, .slice none 0 0]
  simp only [World.size_alloc] at hX hL
  have HK := Lib.hid hK
  have HX := Lib.hid hX
  have HL := Lib.hid hL
  clear h hK hX hL
  cases hv : gvB n ls with
  | false =>
    have hok : isolateOk n ls x = false := by unfold isolateOk; rw [hv]; rfl
    rw [if_neg (by rw [hok]; exact Bool.false_ne_true)]
    have C1 : ∀ W : World, Sl W W.heap.size A0 ls → Calls Try.prog 49 #[gval n A0 ls.length c] W fun e w' => e = .returned (.bool false) ∧ Below W.heap.size W w' := fun W hW => by
      have := valid_impl n _ ls c W hm hW
      rwa [hv] at this
    clear hv hok
    go_enter Try.func30, Try.ntmps30
    go_wp2_with (go_at_call 49; refine (C1 _ ((H.out.below (by (repeat (first | exact Below.refl _ _ | (refine Below.alloc ?_ (by first | exact Nat.le_refl _ | omega | (simp; done) | (simp; omega)) _) | (refine Below.setCell ?_ (by first | exact Nat.le_refl _ | omega | (simp; done) | (simp; omega)) _) | exact Below.drew ‹_›)))).more (by simp; omega))).mono ?_; rintro e w1 ⟨rfl, hb1⟩; have L1 := HL.out.below hb1 (by simp); have B1 := Lib.hid (Below.trans (B := w.heap.size) (a := w) (by (repeat (first | exact Below.refl _ _ | (refine Below.alloc ?_ (by first | exact Nat.le_refl _ | omega | (simp; done) | (simp; omega)) _) | (refine Below.setCell ?_ (by first | exact Nat.le_refl _ | omega | (simp; done) | (simp; omega)) _) | exact Below.drew ‹_›))) (hb1.mono (by simp; omega))); clear hb1; obtain ⟨z11, f10, f11, q10, q11⟩ := L1.two)
    refine bodyPost_ret (v := .tuple #[gval 0 none 0 0, .bool false]) (by simp [results, Try.results30, go_sem, f10, f11]) rfl ⟨none, w.heap.size, 0, rfl, Nat.le_refl _, fun h => absurd h (by simp), ?_⟩
    exact (B1.out.setCell (by simp; omega) _).setCell (by simp; omega) _
  | true =>
    have C1 : ∀ W : World, Sl W W.heap.size A0 ls → Calls Try.prog 49 #[gval n A0 ls.length c] W fun e w' => e = .returned (.bool true) ∧ Below W.heap.size W w' := fun W hW => by
      have := valid_impl n _ ls c W hm hW
      rwa [hv] at this
    cases hx : inB x 0 (n - 1) with
    | false =>
      have hok : isolateOk n ls x = false := by unfold isolateOk; rw [hx]; simp
      rw [if_neg (by rw [hok]; exact Bool.false_ne_true)]
      have C2 : ∀ W : World, Calls Try.prog 50 #[gval n A0 ls.length c, .int .i64 x] W fun e w' => e = .returned (.bool false) ∧ Below W.heap.size W w' := fun W => by
        have := hasNode_any n (.slice A0 ls.length c) x W
        rwa [hx] at this
      clear hv hx hok
      go_enter Try.func30, Try.ntmps30
      go_wp2_with (first
        | (go_at_call 49; refine (C1 _ ((H.out.below (by (repeat (first | exact Below.refl _ _ | (refine Below.alloc ?_ (by first | exact Nat.le_refl _ | omega | (simp; done) | (simp; omega)) _) | (refine Below.setCell ?_ (by first | exact Nat.le_refl _ | omega | (simp; done) | (simp; omega)) _) | exact Below.drew ‹_›)))).more (by simp; omega))).mono ?_; rintro e w1 ⟨rfl, hb1⟩; have L1 := Lib.hid (HL.out.below hb1 (by simp)); have K1 := HK.out.below hb1 (by simp; omega); have X1 := HX.out.below hb1 (by simp); have B1 := Lib.hid (Below.trans (B := w.heap.size) (a := w) (by (repeat (first | exact Below.refl _ _ | (refine Below.alloc ?_ (by first | exact Nat.le_refl _ | omega | (simp; done) | (simp; omega)) _) | (refine Below.setCell ?_ (by first | exact Nat.le_refl _ | omega | (simp; done) | (simp; omega)) _) | exact Below.drew ‹_›))) (hb1.mono (by simp; omega))); clear hb1; have z10 := K1.lt; have e10 := K1.cell 0; have e11 := K1.cell 1; have x10 := X1.cell 0)
        | (go_at_call 50; refine (C2 _).mono ?_; rintro e w2 ⟨rfl, hb2⟩; have L2 := L1.out.below hb2 L1.out.lt; have B2 := Lib.hid (B1.out.trans (hb2.mono (Nat.le_of_lt z10))); clear hb2 e10 e11 x10; obtain ⟨z21, f20, f21, q20, q21⟩ := L2.two))
      refine bodyPost_ret (v := .tuple #[gval 0 none 0 0, .bool false]) (by simp [results, Try.results30, go_sem, f20, f21]) rfl ⟨none, w.heap.size, 0, rfl, Nat.le_refl _, fun h => absurd h (by simp), ?_⟩
      exact (B2.out.setCell (by simp; omega) _).setCell (by simp; omega) _
    | true =>
      have hok : isolateOk n ls x = true := by unfold isolateOk; rw [hv, hx]; rfl
      rw [if_pos hok]
      have C2 : ∀ W : World, Calls Try.prog 50 #[gval n A0 ls.length c, .int .i64 x] W fun e w' => e = .returned (.bool true) ∧ Below W.heap.size W w' := fun W => by
        have := hasNode_any n (.slice A0 ls.length c) x W
        rwa [hx] at this
      clear hv hx hok
      go_enter Try.func30, Try.ntmps30
      go_wp2_with (first
        | (go_at_call 49; refine (C1 _ ((H.out.below (by (repeat (first | exact Below.refl _ _ | (refine Below.alloc ?_ (by first | exact Nat.le_refl _ | omega | (simp; done) | (simp; omega)) _) | (refine Below.setCell ?_ (by first | exact Nat.le_refl _ | omega | (simp; done) | (simp; omega)) _) | exact Below.drew ‹_›)))).more (by simp; omega))).mono ?_; rintro e w1 ⟨rfl, hb1⟩; have L1 := Lib.hid (HL.out.below hb1 (by simp)); have K1 := HK.out.below hb1 (by simp; omega); have X1 := HX.out.below hb1 (by simp); have B1 := Lib.hid (Below.trans (B := w.heap.size) (a := w) (by (repeat (first | exact Below.refl _ _ | (refine Below.alloc ?_ (by first | exact Nat.le_refl _ | omega | (simp; done) | (simp; omega)) _) | (refine Below.setCell ?_ (by first | exact Nat.le_refl _ | omega | (simp; done) | (simp; omega)) _) | exact Below.drew ‹_›))) (hb1.mono (by simp; omega))); clear hb1; have z10 := K1.lt; have e10 := K1.cell 0; have e11 := K1.cell 1; have x10 := X1.cell 0)
        | (go_at_call 50; refine (C2 _).mono ?_; rintro e w2 ⟨rfl, hb2⟩; have L2 := Lib.hid (L1.out.below hb2 L1.out.lt); have K2 := K1.below hb2 K1.lt; have X2 := Lib.hid (X1.below hb2 X1.lt); have B2 := Lib.hid (B1.out.trans (hb2.mono (Nat.le_of_lt z10))); clear hb2 e10 e11 x10; have z20 := K2.lt; have e20 := K2.cell 0; have e21 := K2.cell 1)
        | (go_at_call 51; refine (keep_isolate n _ ls c x (w.heap.size + 1) _ hm (X2.out.cell 0) X2.out.lt ((H.out.below B2.out).more (Nat.le_of_lt z20))).mono ?_; rintro e w3 ⟨A, g', c', rfl, hg', ho, hb3⟩; have L3 := L2.out.below hb3 L2.out.lt; have B3 := Lib.hid (B2.out.trans (hb3.mono (Nat.le_of_lt z20))); have HO := Lib.hid ho; have y2 := L2.out.lt; clear hb3 ho; obtain ⟨z31, f30, f31, q30, q31⟩ := L3.two))
      refine bodyPost_ret (v := .tuple #[gval n A (keepTo (fun _ l => !decide (l.a = x) && !decide (l.b = x)) ls ls.length).length c', .bool true]) (by simp [results, Try.results30, go_sem, f30, f31]) rfl ⟨A, g', c', rfl, by omega, ?_, ?_⟩
      · exact (HO.out.set_far (by dsimp only; omega) _).set_far (by dsimp only; omega) _
      · exact (B3.out.setCell (by simp; omega) _).setCell (by simp; omega) _


set_option maxRecDepth 100000 in
set_option maxHeartbeats 4000000 in
theorem isolate_specA (n : Int) (A0 : Option Addr) (ls : List Lk) (c : Nat) (x : Int) (w : World) (hm : ls.length ≤ 2000000) (hnu : n ≤ 9223372036854775807) (h : Sl w w.heap.size A0 ls) :
   Calls Try.prog 31 #[gval n A0 ls.length c, .int .i64 x] w
     (if isolateOk n ls x = true then GRes n (keepTo (fun _ l => !decide (l.a = x) && !decide (l.b = x)) ls ls.length) true w else GRes 0 [] false w) := by
  obtain ⟨i0, hi, hz0, hz1, hz2⟩ := info_parts infoLink
  have H := Lib.hid h
  have hK := (Box.new w 30 #[.int .i64 n, .slice A0 ls.length c]).alloc (.cells #[.int .i64 0, .slice none 0 0] 30)
  have hL := Box.new (w.alloc (.cells #[.int .i64 n, .slice A0 ls.length c] 30)) 30 #[.int .i64 0, .slice none 0 0]
  simp only [World.size_alloc] at hL
  have HK := Lib.hid hK
  have HL := Lib.hid hL
  clear h hK hL
  cases hv : gvB n ls with
  | false =>
    have hok : isolateOk n ls x = false := by unfold isolateOk; rw [hv]; rfl
    rw [if_neg (by rw [hok]; exact Bool.false_ne_true)]
    have C1 : ∀ W : World, Sl W W.heap.size A0 ls → Calls Try.prog 37 #[gval n A0 ls.length c] W fun e w' => e = .returned (.bool false) ∧ Below W.heap.size W w' := fun W hW => by
      have := valid_spec_any n _ ls c W hm hnu hW
      rwa [hv] at this
    clear hv hok
    go_enter Try.func31, Try.ntmps31
    go_wp2_with (go_at_call 37; refine (C1 _ ((H.out.below (by (repeat (first | exact Below.refl _ _ | (refine Below.alloc ?_ (by first | exact Nat.le_refl _ | omega | (simp; done) | (simp; omega)) _) | (refine Below.setCell ?_ (by first | exact Nat.le_refl _ | omega | (simp; done) | (simp; omega)) _) | exact Below.drew ‹_›)))).more (by simp; omega))).mono ?_; rintro e w1 ⟨rfl, hb1⟩; have L1 := HL.out.below hb1 (by simp); have B1 := Lib.hid (Below.trans (B := w.heap.size) (a := w) (by (repeat (first | exact Below.refl _ _ | (refine Below.alloc ?_ (by first | exact Nat.le_refl _ | omega | (simp; done) | (simp; omega)) _) | (refine Below.setCell ?_ (by first | exact Nat.le_refl _ | omega | (simp; done) | (simp; omega)) _) | exact Below.drew ‹_›))) (hb1.mono (by simp; omega))); clear hb1; obtain ⟨z11, f10, f11, q10, q11⟩ := L1.two)
    refine bodyPost_ret (v := .tuple #[gval 0 none 0 0, .bool false]) (by simp [results, Try.results31, go_sem, f10, f11]) rfl ⟨none, w.heap.size, 0, rfl, Nat.le_refl _, fun h => absurd h (by simp), ?_⟩
    exact (B1.out.setCell (by simp) _).setCell (by simp) _
  | true =>
    obtain ⟨hn1, hn8, hl14⟩ := gvB_n hv
    have C1 : ∀ W : World, Sl W W.heap.size A0 ls → Calls Try.prog 37 #[gval n A0 ls.length c] W fun e w' => e = .returned (.bool true) ∧ Below W.heap.size W w' := fun W hW => by
      have := valid_spec_any n _ ls c W hm hnu hW
      rwa [hv] at this
    cases hx : inB x 0 (n - 1) with
    | false =>
      have hok : isolateOk n ls x = false := by unfold isolateOk; rw [hx]; simp
      rw [if_neg (by rw [hok]; exact Bool.false_ne_true)]
      have C2 : ∀ W : World, Calls Try.prog 38 #[gval n A0 ls.length c, .int .i64 x] W fun e w' => e = .returned (.bool false) ∧ Below W.heap.size W w' := fun W => by
        have := l1Node_any n (.slice A0 ls.length c) x W hn1 hn8
        rwa [hx] at this
      clear hv hx hok
      go_enter Try.func31, Try.ntmps31
      go_wp2_with (first
        | (go_at_call 37; refine (C1 _ ((H.out.below (by (repeat (first | exact Below.refl _ _ | (refine Below.alloc ?_ (by first | exact Nat.le_refl _ | omega | (simp; done) | (simp; omega)) _) | (refine Below.setCell ?_ (by first | exact Nat.le_refl _ | omega | (simp; done) | (simp; omega)) _) | exact Below.drew ‹_›)))).more (by simp; omega))).mono ?_; rintro e w1 ⟨rfl, hb1⟩; have L1 := Lib.hid (HL.out.below hb1 (by simp)); have K1 := HK.out.below hb1 (by simp; omega); have B1 := Lib.hid (Below.trans (B := w.heap.size) (a := w) (by (repeat (first | exact Below.refl _ _ | (refine Below.alloc ?_ (by first | exact Nat.le_refl _ | omega | (simp; done) | (simp; omega)) _) | (refine Below.setCell ?_ (by first | exact Nat.le_refl _ | omega | (simp; done) | (simp; omega)) _) | exact Below.drew ‹_›))) (hb1.mono (by simp; omega))); clear hb1; have z10 := K1.lt; have e10 := K1.cell 0; have e11 := K1.cell 1)
        | (go_at_call 38; refine (C2 _).mono ?_; rintro e w2 ⟨rfl, hb2⟩; have L2 := L1.out.below hb2 L1.out.lt; have B2 := Lib.hid (B1.out.trans (hb2.mono (Nat.le_of_lt z10))); clear hb2 e10 e11; obtain ⟨z21, f20, f21, q20, q21⟩ := L2.two))
      refine bodyPost_ret (v := .tuple #[gval 0 none 0 0, .bool false]) (by simp [results, Try.results31, go_sem, f20, f21]) rfl ⟨none, w.heap.size, 0, rfl, Nat.le_refl _, fun h => absurd h (by simp), ?_⟩
      exact (B2.out.setCell (by simp) _).setCell (by simp) _
    | true =>
      have hok : isolateOk n ls x = true := by unfold isolateOk; rw [hv, hx]; rfl
      rw [if_pos hok]
      have C2 : ∀ W : World, Calls Try.prog 38 #[gval n A0 ls.length c, .int .i64 x] W fun e w' => e = .returned (.bool true) ∧ Below W.heap.size W w' := fun W => by
        have := l1Node_any n (.slice A0 ls.length c) x W hn1 hn8
        rwa [hx] at this
      clear hv hx hok
      go_enter Try.func31, Try.ntmps31
      go_wp2_with (first
        | (go_at_call 37; refine (C1 _ ((H.out.below (by (repeat (first | exact Below.refl _ _ | (refine Below.alloc ?_ (by first | exact Nat.le_refl _ | omega | (simp; done) | (simp; omega)) _) | (refine Below.setCell ?_ (by first | exact Nat.le_refl _ | omega | (simp; done) | (simp; omega)) _) | exact Below.drew ‹_›)))).more (by simp; omega))).mono ?_; rintro e w1 ⟨rfl, hb1⟩; have L1 := Lib.hid (HL.out.below hb1 (by simp)); have K1 := HK.out.below hb1 (by simp; omega); have B1 := Lib.hid (Below.trans (B := w.heap.size) (a := w) (by (repeat (first | exact Below.refl _ _ | (refine Below.alloc ?_ (by first | exact Nat.le_refl _ | omega | (simp; done) | (simp; omega)) _) | (refine Below.setCell ?_ (by first | exact Nat.le_refl _ | omega | (simp; done) | (simp; omega)) _) | exact Below.drew ‹_›))) (hb1.mono (by simp; omega))); clear hb1; have z10 := K1.lt; have e10 := K1.cell 0; have e11 := K1.cell 1)
        | (go_at_call 38; refine (C2 _).mono ?_; rintro e w2 ⟨rfl, hb2⟩; have L2 := Lib.hid (L1.out.below hb2 L1.out.lt); have K2 := Lib.hid (K1.below hb2 K1.lt); have B2 := Lib.hid (B1.out.trans (hb2.mono (Nat.le_of_lt z10))); have z20 := L2.out.lt; clear hb2 e10 e11; have e20 := K2.out.cell 0; have e21 := K2.out.cell 1))
      go_loopw [7] (fun i wr => ∃ (k : Nat) (v : Value), k ≤ ls.length ∧ i = .int .i64 k ∧ IS w w2.heap.size n A0 ls.length c (keepTo (fun _ l => !decide (l.a = x) && !decide (l.b = x)) ls k) v wr) (fun i _ => ls.length - (intOf i).toNat)
      case atStart =>
        refine ⟨0, .slice (some ⟨w2.heap.size, 0, none⟩) 0 0, Nat.zero_le _, rfl, (K2.out.alloc _).alloc _, (L2.out.alloc _).alloc _, ?_, ?_, ?_, z20, by simp; omega⟩
        · have := Box.new (w2.alloc (.cells #[] 47)) 30 #[.int .i64 n, .slice (some ⟨w2.heap.size, 0, none⟩) 0 0]
          rwa [World.size_alloc] at this
        · exact (World.ownsRow_made (base := w2.heap.size) (e := 47) (size := 3) w2 #[] 0 (Nat.le_refl _) (by unfold maxLen; omega) rfl).alloc _
        · exact (B2.out.alloc (by omega) _).alloc (by simp; omega) _
      case round =>
        obtain ⟨k, v, hk, rfl, his⟩ := hrel
        obtain ⟨A', g', c', rfl, _, _, _⟩ := own_slice his.2.2.2.1 his.2.2.2.2.2.2
        have S := Lib.hid his
        have S1 := Lib.hid ((H.out.below his.2.2.2.2.1).more (Nat.le_of_lt his.1.lt))
        obtain ⟨zk, f0, f1, _, _⟩ := his.1.two
        have zb := his.2.2.2.2.2.1
        clear his e20 e21
        by_cases hlt : k < ls.length
        · obtain ⟨l, hl⟩ : ∃ x, ls[k]? = some x := ⟨_, List.getElem?_eq_getElem hlt⟩
          obtain ⟨bb, off, hge, hbb, hc1, hc2, hc3⟩ := S1.out k l hl
          cases hge
          have HLl := Lib.hid hl
          have hkl := keepTo_len (fun _ l => !decide (l.a = x) && !decide (l.b = x)) ls k
          clear hl
          cases hq1 : (l.a != x) with
          | false =>
            have HN := Lib.hid (keepTo_miss (T := (fun _ l => !decide (l.a = x) && !decide (l.b = x))) HLl.out (by have : l.a = x := by simpa using hq1
                                                                                                                   simp [this]))
            go_wp2
            go_roundw
            case rel => exact ⟨k + 1, _, hlt, by go_num, by rw [HN.out]; exact S.out⟩
            case measure => simp [intOf]; omega
          | true =>
            cases hq2 : (l.b != x) with
            | false =>
              have HN := Lib.hid (keepTo_miss (T := (fun _ l => !decide (l.a = x) && !decide (l.b = x))) HLl.out (by have : l.b = x := by simpa using hq2
                                                                                                                     simp [this]))
              go_wp2
              go_roundw
              case rel => exact ⟨k + 1, _, hlt, by go_num, by rw [HN.out]; exact S.out⟩
              case measure => simp [intOf]; omega
            | true =>
              have HN := Lib.hid (keepTo_hit (T := (fun _ l => !decide (l.a = x) && !decide (l.b = x))) HLl.out (by have h1 : l.a ≠ x := by simpa using hq1
                                                                                                                    have h2 : l.b ≠ x := by simpa using hq2
                                                                                                                    simp [h1, h2]))
              obtain ⟨zg, c0, c1, q0, q1⟩ := S.out.2.2.1.two
              have SD := Lib.hid S.out.drew
              go_wp2
              go_region_law (first
                | (refine step_append_lies _ rfl _ _ 28 rfl w2.heap.size 47 i0 _ 3 24 Try.underlying28 hi hz0 hz1 hz2 rfl (by decide) _ (keepTo (fun _ l => !decide (l.a = x) && !decide (l.b = x)) ls k).length (flat (keepTo (fun _ l => !decide (l.a = x) && !decide (l.b = x)) ls k)) rfl (SD.out.2.2.2.1.alloc _) ⟨wr.heap.size, 0, none⟩ 1 1 _ rfl rfl (new3l _ _ _ _ _) (one3l _ _ _) (by decide) (by unfold maxLen; omega) (by omega) (by have := SD.out.2.2.2.2.2.2; simp at this ⊢; omega) _ rfl ?_; intro g8 cap8 w8 hown8 hgrow8 hat8 hlt8; have S8 := SD.out.stored hown8 hgrow8; have e8 := S8.1.cell 1; have q8 := S8.1.frozen 1; have R8 := Lib.hid S8.2; clear S8 hown8 hgrow8 hat8 hlt8))
              all_goals
                go_wp2
                go_roundw
                case rel => exact ⟨k + 1, _, hlt, by go_num, by rw [HN.out]; exact R8.out⟩
                case measure => simp [intOf]; omega
        · obtain rfl : k = ls.length := by omega
          obtain ⟨zg, c0, c1, q0, q1⟩ := S.out.2.2.1.two
          obtain ⟨zq, d0, d1, p0, p1⟩ := S.out.2.1.two
          go_wp2
          obtain ⟨A2, g2, c2, he2, hg2, _, ho2⟩ := own_slice S.out.2.2.2.1 S.out.2.2.2.2.2.2
          cases he2
          refine bodyPost_ret (v := .tuple #[gval n A' (keepTo (fun _ l => !decide (l.a = x) && !decide (l.b = x)) ls ls.length).length c', .bool true]) (by simp [results, Try.results31, go_sem, d0, d1]) rfl ⟨A', g2, c', rfl, by omega, ?_, ?_⟩
          · exact (ho2.set_far (by dsimp only; omega) _).set_far (by dsimp only; omega) _
          · exact (S.out.2.2.2.2.1.setCell (by simp) _).setCell (by simp) _


end Go.Proofs.Ytigamnnboojiiaa
