/-
  The walk of FnExactMixedArrives over this seat: whatever comes in, the law returns true and changes nothing that was there.
-/
import Derived.Test.YtkcnbgimdiggoabEi
import Derived.Test.YtkcnbgimdiggoabG7
namespace Go.Proofs.Ytkcnbgimdiggoab
open Go.RowKit Go.Maps

theorem At2.grown {w w' : World} {b g : Nat} {v0 v1 : Value} (h : At2 w b v0 v1) (hg : w.grownBy w' (some g)) (hne : b ≠ g) : At2 w' b v0 v1 := by
  have hk : w'.heap[b]? = w.heap[b]? := hg.block b h.1 (fun e => hne (Option.some.inj e))
  have hc : ∀ i, w'.cell? ⟨b, i, none⟩ = w.cell? ⟨b, i, none⟩ := fun i => by unfold World.cell?; rw [hk]
  exact ⟨Nat.lt_of_lt_of_le h.1 hg.size, (hc 0).trans h.2.1, (hc 1).trans h.2.2⟩

set_option maxRecDepth 100000 in
set_option maxHeartbeats 1600000 in
theorem exactMixedArrives_walk (n : Int) (A : Option Addr) (ls : List Lk) (c : Nat) (x y : Int) (B : Option Addr) (st : List Int) (cb : Nat) (w : World) (hnu : n ≤ 9223372036854775807) (hmax : ls.length ≤ maxLen) (h1 : Sl w w.heap.size A ls)
    (hmaxb : st.length ≤ maxLen) (h2 : Sli w w.heap.size B st) :
   Calls Try.prog 10 #[gval n A ls.length c, .int .i64 x, .int .i64 y, .slice B st.length cb] w fun e w' => e = .returned (.bool true) ∧ Below w.heap.size w w' := by
  unfold maxLen at hmax hmaxb
  have H1 := Lib.hid h1
  have H2 := Lib.hid h2
  clear h1 h2
  by_cases hlb : st.length ≤ 1048576
  · by_cases hl : ls.length ≤ 1048576
    · have hm : ls.length ≤ 2000000 := by omega
      have hmb : st.length ≤ 2000000 := by omega
      have CI := fun (g : Nat) (c' : Nat) (B' : Option Addr) (W : World) (h : Sl W W.heap.size (some ⟨g, 0, none⟩) ls) (h' : Sli W W.heap.size B' st) => mixArr_impl n (some ⟨g, 0, none⟩) ls c' x y B' st st.length W hm (fun _ => ⟨g, rfl⟩) hmb h h'
      have CS := fun (g : Nat) (B' : Option Addr) (W : World) (h : Sl W W.heap.size (some ⟨g, 0, none⟩) ls) (h' : Sli W W.heap.size B' st) => mixArr_spec n (some ⟨g, 0, none⟩) ls ls.length x y B' st st.length W hm hnu (fun _ => ⟨g, rfl⟩) (Nat.le_refl _) hmb h h'
      have hrs : (arrA n ls x y st).length ≤ 8 := arrA_len8 n ls x y st
      generalize arrA n ls x y st = rs at *
      have hrs2 : rs.length ≤ 2000000 := by omega
      go_enter Try.func10, Try.ntmps10
      go_wp2_with (first
        | (go_at_call 28; go_in)
        | (go_at_call 65; go_in))
      refine (toGraph_any n A ls c _ hm ((H1.out.below (by (repeat (first | exact Below.refl _ _ | (refine Below.alloc ?_ (by first | exact Nat.le_refl _ | omega | (simp; done) | (simp; omega)) _) | (refine Below.setCell ?_ (by first | exact Nat.le_refl _ | omega | (simp; done) | (simp; omega)) _) | exact Below.drew ‹_›)))).more (by simp; omega))).mono ?_
      rintro e w1 ⟨g1, rfl, hg1, harr1, hb1⟩
      have K1 := Lib.hid (At2.below (At2.alloc (At2.new w (.int .i64 n) (.slice A ls.length c) 45) _) hb1)
      have B1 := Lib.hid (Below.trans (B := w.heap.size) (a := w) (by (repeat (first | exact Below.refl _ _ | (refine Below.alloc ?_ (by first | exact Nat.le_refl _ | omega | (simp; done) | (simp; omega)) _) | (refine Below.setCell ?_ (by first | exact Nat.le_refl _ | omega | (simp; done) | (simp; omega)) _) | exact Below.drew ‹_›))) (hb1.mono (by simp; omega)))
      have R1 := Lib.hid harr1
      clear hb1 harr1
      go_wp2_with fail
      refine (toIntS_any B st cb w1 hmb ((H2.out.below B1.out).more B1.out.size)).mono ?_
      rintro e w2 ⟨g2, rfl, hg2, harr2, hb2⟩
      have K2 := Lib.hid (K1.out.below hb2)
      have B2 := Lib.hid (B1.out.trans (hb2.mono B1.out.size))
      have R2 := Lib.hid (R1.out.below hb2 R1.out.lt)
      have S2 := Lib.hid harr2
      clear hb2 harr2 K1 B1 R1
      go_wp2_with fail
      refine (CS _ _ _ (R2.out.sl R2.out.lt) (S2.out.sli S2.out.lt)).mono ?_
      rintro e w3 ⟨A3, g3, c3, rfl, hg3, ho3, hb3⟩
      have K3 := Lib.hid (K2.out.below hb3)
      have B3 := Lib.hid (B2.out.trans (hb3.mono B2.out.size))
      have O3 := Lib.hid ho3
      have LO3 := Lib.hid (show 0 < rs.length → g3 < w3.heap.size from fun hp => (ho3 hp).2.lt)
      obtain ⟨z3, e30, e31⟩ := K3.out
      have hw3 : w.heap.size < w3.heap.size := z3
      clear hb3 K2 B2 R2 S2 hg1 hg2 ho3 hg3
      go_wp2_with fail
      -- the program's copy
      refine (toGraph_any n A ls c _ hm ((H1.out.below B3.out).more B3.out.size)).mono ?_
      rintro e w4 ⟨g4, rfl, hg4, harr4, hb4⟩
      have hz4 := hb4.size
      have zg4 := harr4.lt
      have K4 := Lib.hid (At2.alloc (K3.out.below hb4) (.cells #[.int .i64 n, .slice (some ⟨g4, 0, none⟩) ls.length ls.length] 25))
      have L4 := Lib.hid (At2.new w4 (.int .i64 n) (.slice (some ⟨g4, 0, none⟩) ls.length ls.length) 25)
      have B4 := Lib.hid ((B3.out.trans (hb4.mono B3.out.size)).alloc (Nat.le_trans B3.out.size hb4.size) (.cells #[.int .i64 n, .slice (some ⟨g4, 0, none⟩) ls.length ls.length] 25))
      have R4 := Lib.hid (harr4.below ((Below.refl w4.heap.size w4).alloc (Nat.le_refl _) (.cells #[.int .i64 n, .slice (some ⟨g4, 0, none⟩) ls.length ls.length] 25)) harr4.lt)
      have O4 := Lib.hid ((O3.out.below hb4).alloc (.cells #[.int .i64 n, .slice (some ⟨g4, 0, none⟩) ls.length ls.length] 25))
      clear hb4 harr4 K3 B3 O3 z3 e30 e31
      go_wp2_with fail
      refine (toIntS_any B st cb _ hmb ((H2.out.below B4.out).more B4.out.size)).mono ?_
      rintro e w5 ⟨g5, rfl, hg5, harr5, hb5⟩
      have hz5 := hb5.size
      simp only [World.size_alloc] at hg5 hz5
      have zg5 := harr5.lt
      have K5 := Lib.hid (K4.out.below hb5)
      have L5 := Lib.hid (L4.out.below hb5)
      have B5 := Lib.hid (B4.out.trans (hb5.mono B4.out.size))
      have R5 := Lib.hid (R4.out.below hb5 R4.out.lt)
      have O5 := Lib.hid (O4.out.below hb5)
      have S5 := Lib.hid harr5
      obtain ⟨z5, f50, f51⟩ := L5.out
      clear hb5 harr5 K4 L4 B4 R4 O4
      go_wp2_with fail
      refine (CI _ _ _ _ (R5.out.sl R5.out.lt) (S5.out.sli S5.out.lt)).mono ?_
      rintro e w6 ⟨A6, g6, c6, rfl, hg6, ho6, hb6⟩
      have K6 := Lib.hid (K5.out.below hb6)
      have L6 := Lib.hid (L5.out.below hb6)
      have B6 := Lib.hid (B5.out.trans (hb6.mono B5.out.size))
      have R6 := Lib.hid (R5.out.below hb6 R5.out.lt)
      have S6 := Lib.hid (S5.out.below hb6 S5.out.lt)
      have O6 := Lib.hid (O5.out.below hb6)
      have LP6 := Lib.hid (show 0 < rs.length → g6 < w6.heap.size from fun hp => (ho6 hp).2.lt)
      have P6 := Lib.hid ho6
      have hz6 := hb6.size
      clear hb6 K5 L5 B5 R5 S5 O5 z5 f50 f51 ho6
      go_wp2_with fail
      refine (eqIntS_same A6 A3 rs _ _ _ hrs2 P6.out.sli O6.out.sli).mono ?_
      rintro e w7 ⟨rfl, hb7⟩
      have K7 := Lib.hid (K6.out.below hb7)
      have L7 := Lib.hid (L6.out.below hb7)
      have B7 := Lib.hid (B6.out.trans (hb7.mono B6.out.size))
      have R7 := Lib.hid (R6.out.below hb7 R6.out.lt)
      have S7 := Lib.hid (S6.out.below hb7 S6.out.lt)
      have O7 := Lib.hid (O6.out.below hb7)
      have P7 := Lib.hid (P6.out.below hb7)
      have hz7 := hb7.size
      obtain ⟨z70, e70, e71⟩ := K7.out
      obtain ⟨z71, f70, f71⟩ := L7.out
      clear hb7 K6 L6 B6 R6 S6 O6 P6
      go_wp2_with fail
      go_region_with (first
        | (go_at_call 29; refine (toGraph_any n A ls c _ hm ((H1.out.below B7.out.drew).more B7.out.size)).mono ?_; rintro e w8 ⟨g8, rfl, hg8, harr8, hb8⟩; have K8 := Lib.hid (At2.below (w := w7.drew) K7.out hb8); have L8 := Lib.hid (At2.below (w := w7.drew) L7.out hb8); obtain ⟨z81, f80, f81⟩ := L8.out; have A8 := Lib.hid (harr8.sl harr8.lt); have R8 := Lib.hid (R7.out.below (w := w7.drew) hb8 R7.out.lt); have S8 := Lib.hid (S7.out.below (w := w7.drew) hb8 S7.out.lt); have O8 := Lib.hid (Own1i.below (w := w7.drew) O7.out hb8); have P8 := Lib.hid (Own1i.below (w := w7.drew) P7.out hb8); have B8 := Lib.hid (B7.out.drew.trans (hb8.mono B7.out.size)); have hz8 : w7.heap.size ≤ w8.heap.size := hb8.size; clear harr8 hb8 hg8)
        | (go_at_call 32; refine (eqGraph_same n _ _ ls _ _ _ hm (R8.out.sl R8.out.lt) A8.out).mono ?_; rintro e w9 ⟨rfl, hb9⟩; have K9 := Lib.hid (K8.out.below hb9); have L9 := Lib.hid (L8.out.below hb9); have R9 := Lib.hid (R8.out.below hb9 R8.out.lt); have S9 := Lib.hid (S8.out.below hb9 S8.out.lt); have O9 := Lib.hid (O8.out.below hb9); have P9 := Lib.hid (P8.out.below hb9); have B9 := Lib.hid (B8.out.trans (hb9.mono B8.out.size)); have hz9 : w7.heap.size ≤ w9.heap.size := Nat.le_trans hz8 hb9.size; clear hb9))
      all_goals
        clear K7 L7 B7 R7 S7 O7 P7 e70 e71 f70 f71 z70 z71 K8 L8 R8 S8 O8 P8 B8 A8 f80 f81 z81 hz8
        obtain ⟨z91, f90, f91⟩ := L9.out
        go_wp2_with fail
        refine (toIntS_any B st cb _ hmb ((H2.out.below B9.out).more B9.out.size)).mono ?_
        rintro e w10 ⟨g10, rfl, hg10, harr10, hb10⟩
        have K10 := Lib.hid (K9.out.below hb10)
        have L10 := Lib.hid (L9.out.below hb10)
        have R10 := Lib.hid (R9.out.below hb10 R9.out.lt)
        have S10 := Lib.hid (S9.out.below hb10 S9.out.lt)
        have O10 := Lib.hid (O9.out.below hb10)
        have P10 := Lib.hid (P9.out.below hb10)
        have B10 := Lib.hid (B9.out.trans (hb10.mono B9.out.size))
        have T10 := Lib.hid harr10
        have hz10 := hb10.size
        clear hb10 harr10 K9 L9 R9 S9 O9 P9 B9 f90 f91 z91 hg10
        go_wp2_with fail
        refine (eqIntS_same _ _ st _ _ _ hmb (S10.out.sli S10.out.lt) (T10.out.sli T10.out.lt)).mono ?_
        rintro e w11 ⟨rfl, hb11⟩
        have K11 := Lib.hid (K10.out.below hb11)
        have L11 := Lib.hid (L10.out.below hb11)
        have R11 := Lib.hid (R10.out.below hb11 R10.out.lt)
        have S11 := Lib.hid (S10.out.below hb11 S10.out.lt)
        have O11 := Lib.hid (O10.out.below hb11)
        have P11 := Lib.hid (P10.out.below hb11)
        have B11 := Lib.hid (B10.out.trans (hb11.mono B10.out.size))
        have hz11 := hb11.size
        have hzw := B11.out.size
        have hzk := K11.out.1
        obtain ⟨z11, f110, f111⟩ := L11.out
        clear hb11 K10 L10 R10 S10 O10 P10 B10 T10
        go_wp2_with fail
        refine (markGraph_any n _ g4 ls _ 1 _ hm (by omega) (by omega) (fun _ => ⟨rfl, R11.out⟩)).mono ?_
        rintro e w12 ⟨rfl, _, hg12⟩
        have K12 := Lib.hid (K11.out.grown hg12 (by omega))
        have O12 := Lib.hid (O11.out.grownC hg12 (fun hp => by have := LO3.out hp; omega))
        have P12 := Lib.hid (P11.out.grownC hg12 (fun hp => by omega))
        have S12 := Lib.hid (Own1i.grownFar (A := some ⟨g5, 0, none⟩) (ls := st) (fun _ => ⟨rfl, S11.out⟩) hg12 (by omega))
        have B12 := Lib.hid (B11.out.grown hg12 hzw (fun k e => by cases e; omega))
        have hz12 := hg12.size
        clear K11 L11 R11 S11 O11 P11 B11 hg12 f110 f111 z11
        go_wp2_with fail
        refine (markIntS_any _ g5 st _ _ _ hmb (by omega) (by omega) S12.out).mono ?_
        rintro e w13 ⟨rfl, -, hg13⟩
        have K13 := Lib.hid (K12.out.grown hg13 (by omega))
        have O13 := Lib.hid (O12.out.grownC hg13 (fun hp => by have := LO3.out hp; omega))
        have P13 := Lib.hid (P12.out.grownC hg13 (fun hp => by omega))
        have B13 := Lib.hid (B12.out.grown hg13 (Nat.le_trans hzw hz12) (fun k e => by cases e; omega))
        have hz13 := hg13.size
        clear K12 O12 P12 S12 B12 hg13
        go_wp2_with fail
        refine (eqIntS_same A6 A3 rs _ _ _ hrs2 P13.out.sli O13.out.sli).mono ?_
        rintro e w14 ⟨rfl, hb14⟩
        have K14 := Lib.hid (K13.out.below hb14)
        have O14 := Lib.hid (O13.out.below hb14)
        have P14 := Lib.hid (P13.out.below hb14)
        have B14 := Lib.hid (B13.out.trans (hb14.mono B13.out.size))
        have hz14 := hb14.size
        clear K13 O13 P13 B13 hb14
        obtain ⟨g7, Q14, hq⟩ := P14.out.fresh
        have hgr : (0 < rs.length → g6 < w6.heap.size ∧ g3 < w3.heap.size) ∧ w5.heap.size ≤ g7 := by
          rcases hq with ⟨hp, rfl⟩ | rfl
          · exact ⟨fun h => ⟨LP6.out h, LO3.out h⟩, hg6⟩
          · exact ⟨fun h => ⟨LP6.out h, LO3.out h⟩, by omega⟩
        obtain ⟨hgr0, hgr1⟩ := hgr
        have QQ := Lib.hid Q14
        have hwz14 := B14.out.size
        clear hq Q14
        go_wp2_with fail
        refine (markIntS_any A6 g7 rs _ 1 _ hrs2 (by omega) (by omega) QQ.out).mono ?_
        rintro e w15 ⟨rfl, hm15, hg15⟩
        have K15 := Lib.hid (K14.out.grown hg15 (by omega))
        have O15 := Lib.hid (O14.out.grownC hg15 (fun hp => by have := (hgr0 hp).2; omega))
        have B15 := Lib.hid (B14.out.grown hg15 hwz14 (fun k e => by cases e; omega))
        have M15 := Lib.hid hm15
        clear K14 O14 P14 B14 QQ hg15 hm15
        go_wp2_with fail
        refine (heldIntS_any A6 g7 rs.length _ 1 _ hrs2 (by omega) (by omega) M15.out).mono ?_
        rintro e w16 ⟨rfl, rfl⟩
        obtain ⟨z15, k150, k151⟩ := K15.out
        go_wp2_with fail
        refine (toGraph_any n A ls c _ hm ((H1.out.below B15.out).more B15.out.size)).mono ?_
        rintro e w17 ⟨g17, rfl, hg17, harr17, hb17⟩
        have O17 := Lib.hid (O15.out.below hb17)
        have M17 := Lib.hid (M15.out.below hb17)
        have B17 := Lib.hid (B15.out.trans (hb17.mono B15.out.size))
        have R17 := Lib.hid harr17
        clear O15 M15 B15 K15 hb17 harr17 k150 k151 z15 hg17
        go_wp2_with fail
        refine (toIntS_any B st cb _ hmb ((H2.out.below B17.out).more B17.out.size)).mono ?_
        rintro e w18 ⟨g18, rfl, hg18, harr18, hb18⟩
        have O18 := Lib.hid (O17.out.below hb18)
        have M18 := Lib.hid (M17.out.below hb18)
        have B18 := Lib.hid (B17.out.trans (hb18.mono B17.out.size))
        have R18 := Lib.hid (R17.out.below hb18 R17.out.lt)
        have S18 := Lib.hid harr18
        clear O17 M17 B17 R17 hb18 harr18 hg18
        go_wp2_with fail
        refine (CI _ _ _ _ (R18.out.sl R18.out.lt) (S18.out.sli S18.out.lt)).mono ?_
        rintro e w19 ⟨A19, g19, c19, rfl, hg19, ho19, hb19⟩
        have O19 := Lib.hid (O18.out.below hb19)
        have M19 := Lib.hid (M18.out.below hb19)
        have P19 := Lib.hid ho19
        have B19 := Lib.hid (B18.out.trans (hb19.mono B18.out.size))
        clear O18 M18 B18 R18 S18 hb19 ho19 hg19
        go_wp2_with fail
        refine (eqIntS_same A19 A3 rs _ _ _ hrs2 P19.out.sli O19.out.sli).mono ?_
        rintro e w20 ⟨rfl, hb20⟩
        have M20 := Lib.hid (M19.out.below hb20)
        have B20 := Lib.hid (B19.out.trans (hb20.mono B19.out.size))
        clear M19 B19 O19 P19 hb20
        go_wp2_with fail
        refine (heldIntS_any A6 g7 rs.length _ 1 _ hrs2 (by omega) (by omega) M20.out).mono ?_
        rintro e w21 ⟨rfl, rfl⟩
        go_wp2_with fail
        go_ret
        exact ⟨rfl, B20.out⟩
    · go_enter Try.func10, Try.ntmps10
      go_wp2
      go_ret
      exact ⟨rfl, by (repeat (first | exact Below.refl _ _ | (refine Below.alloc ?_ (by first | exact Nat.le_refl _ | omega | (simp; done) | (simp; omega)) _) | (refine Below.setCell ?_ (by first | exact Nat.le_refl _ | omega | (simp; done) | (simp; omega)) _) | exact Below.drew ‹_›))⟩
  · go_enter Try.func10, Try.ntmps10
    go_wp2
    go_ret
    exact ⟨rfl, by (repeat (first | exact Below.refl _ _ | (refine Below.alloc ?_ (by first | exact Nat.le_refl _ | omega | (simp; done) | (simp; omega)) _) | (refine Below.setCell ?_ (by first | exact Nat.le_refl _ | omega | (simp; done) | (simp; omega)) _) | exact Below.drew ‹_›))⟩

end Go.Proofs.Ytkcnbgimdiggoab
