/-
  Contracts over this seat: the program's map of announcements: made of a list, listed.
-/
import Derived.Test.YtnkohgdfipgdoabKy
namespace Go.Proofs.Ytnkohgdfipgdoab
open Go.RowKit Go.Maps

theorem own1i_row {W W' : World} {base n : Nat} {v : Value} {xs : List Value} {o : Obj} {A : Option Addr} {g : Nat} {p : List Int} (h : Own1i W A g p) (hr : W.ownsRow base 54 3 v n xs) (hg : (W.alloc o).grownBy W' v.ownBlock) : Own1i W' A g p := fun hp => by
  obtain ⟨e, cs, hh, hc⟩ := h hp
  have hne := own_box_ne hr (g := g) (t := 3) hh (by decide)
  exact ⟨e, cs, (hg.block g (by have := heap_lt hh; simp; omega) (fun e => hne e.symm)).trans ((Below.heap_alloc W o g (heap_lt hh)).trans hh), hc⟩

/-- What has been stored when k announcements have come. -/
theorem findZ_next {zs : List Lz} {k : Nat} {z : Lz} (hz : zs[k]? = some z) (hd : Srt (datL zs)) : setM (findZ (zs.take k)) z = findZ (zs.take (k + 1)) := by
  have hk := (List.getElem?_eq_some_iff.1 hz).1
  have ht : zs.take (k + 1) = zs.take k ++ [z] := by
    rw [List.take_add_one, hz]; rfl
  funext o
  unfold setM findZ
  rw [ht, List.find?_append]
  by_cases ho : o = z.o
  · rw [if_pos ho]
    have hn : (zs.take k).find? (fun x => decide (x.o = o)) = none := by
      rw [List.find?_eq_none]
      intro x hx
      obtain ⟨j, hj⟩ := List.getElem?_of_mem hx
      have hjk : j < k := by have := (List.getElem?_eq_some_iff.1 hj).1; rw [List.length_take] at this; omega
      rw [List.getElem?_take_of_lt hjk] at hj
      obtain ⟨hj1, hj2⟩ := List.getElem?_eq_some_iff.1 hj
      obtain ⟨hz1, hz2⟩ := List.getElem?_eq_some_iff.1 hz
      have := List.pairwise_iff_getElem.1 hd j k (by simp [datL]; omega) (by simp [datL]; omega) hjk
      simp only [datL, List.getElem_map] at this
      rw [hj2, hz2] at this
      try dsimp only at this
      simp
      omega
    rw [hn, ho]
    simp
  · rw [if_neg ho]
    have : (if decide (z.o = o) = true then some z else none) = none := by
      rw [if_neg]
      simpa using fun e => ho e.symm
    simp only [List.find?_cons, List.find?_nil]
    have h0 : decide (z.o = o) = false := by simpa using fun e => ho e.symm
    rw [h0]
    simp

/-- A map made of a list. -/
def MadM (n : Nat) (f : Int → Option Lz) (w : World) (e : Ending) (w' : World) : Prop := ∃ b, e = .returned (.map (some b)) ∧ w.heap.size ≤ b ∧ OwnM w' b n f ∧ Below w.heap.size w w'
set_option maxRecDepth 100000 in
set_option maxHeartbeats 800000 in
theorem databaseOf_any (A : Option Addr) (zs : List Lz) (c : Nat) (w : World) (hm : zs.length ≤ 2000000) (hv : dbB (datL zs) = true) (hS : Slz w w.heap.size A zs) :
   Calls Try.prog 42 #[.slice A zs.length c] w (MadM zs.length (findZ zs) w) := by
  have HS := Lib.hid hS
  have HV := Lib.hid hv
  have hmm := @run_makeMap Try.prog
  have M0 := Lib.hid (OwnM.made w)
  have B0 := Lib.hid (show Below w.heap.size w (w.alloc (.map #[] 0)) by (repeat (first | exact Below.refl _ _ | (refine Below.alloc ?_ (by first | exact Nat.le_refl _ | omega | (simp; done) | (simp; omega)) _) | (refine Below.setCell ?_ (by first | exact Nat.le_refl _ | omega | (simp; done) | (simp; omega)) _) | exact Below.drew ‹_›)))
  have HN : Hid (∀ (k : Nat) (z : Lz), zs[k]? = some z → setM (findZ (zs.take k)) z = findZ (zs.take (k + 1))) := Lib.hid (fun k z hz => findZ_next hz (dbB_inv hv).2)
  have HR : Hid (∀ (k : Nat) (z : Lz), zs[k]? = some z → 0 ≤ z.o ∧ z.o ≤ 7) := Lib.hid (fun k z hz => (laB_rng ((dbB_inv hv).1 z.d (List.mem_map.2 ⟨z, List.mem_of_getElem? hz, rfl⟩))).1)
  clear hS hv
  go_enter Try.func42, Try.ntmps42
  go_wp2_with fail
  go_loopw [9] (fun i wr => ∃ k : Nat, k ≤ zs.length ∧ i = .int .i64 (k : Int) ∧ Hid (OwnM wr w.heap.size k (findZ (zs.take k))) ∧ Hid (Below w.heap.size w wr)) (fun i _ => zs.length - (intOf i).toNat)
  case atStart => exact ⟨0, Nat.zero_le _, rfl, M0, B0⟩
  case round =>
    obtain ⟨k, hk, rfl, M1, B1⟩ := hrel
    clear M0 B0
    by_cases hlt : k < zs.length
    · obtain ⟨z, hz⟩ : ∃ x, zs[k]? = some x := ⟨_, List.getElem?_eq_getElem hlt⟩
      obtain ⟨b, off, rfl, hbb, hc1, hc2, hc3, -⟩ := (HS.out.below B1.out) k z hz
      have hz1 := B1.out.size
      have zb : b < wr.heap.size := by omega
      have ho := HR.out k z hz
      have HN1 := Lib.hid (HN.out k z hz)
      obtain ⟨zo, zq, zes, zA, zc, zg⟩ := z
      dsimp only at hc1 hc2 hc3 ho
      obtain ⟨w2, hrun, hm2, hg2, hs2⟩ := (M1.out.call (show Below wr.heap.size wr (wr.alloc (.cells #[.int .i64 zo, .int .i64 zq, .slice zA zes.length zc] 54)) by (repeat (first | exact Below.refl _ _ | (refine Below.alloc ?_ (by first | exact Nat.le_refl _ | omega | (simp; done) | (simp; omega)) _) | (refine Below.setCell ?_ (by first | exact Nat.le_refl _ | omega | (simp; done) | (simp; omega)) _) | exact Below.drew ‹_›)))).store ⟨zo, zq, zes, zA, zc, zg⟩ (by dsimp only; omega) (by unfold maxLen; omega)
      dsimp only at hrun
      have M2 : Hid (OwnM w2 w.heap.size (k + 1) (findZ (zs.take (k + 1)))) := Lib.hid (by rw [← HN1.out]; exact hm2)
      have B2 : Hid (Below w.heap.size w w2) := Lib.hid ((B1.out.alloc hz1 _).grown hg2 (by simp; omega) (fun j e => by cases e; exact Nat.le_refl _))
      clear hz hm2 hg2 hs2 M1 HN1
      go_wp2_with fail
      go_roundw
      case rel => exact ⟨k + 1, hlt, by go_num, M2, B2⟩
      case measure => simp [intOf]; omega
    · obtain rfl : k = zs.length := by omega
      go_wp2_with fail
      go_ret
      exact ⟨w.heap.size, rfl, Nat.le_refl _, by have := M1.out; rwa [List.take_length] at this, B1.out⟩

/-- The slices of a map's announcements read as they did. -/
def SlM (W : World) (B : Nat) (f : Int → Option Lz) : Prop := ∀ o z, f o = some z → z.es.length ≤ 2000000 ∧ Slb W B z.A z.es
theorem SlM.below {w w' : World} {B : Nat} {f : Int → Option Lz} (h : SlM w B f) (hb : Below B w w') : SlM w' B f := fun o z hz => ⟨(h o z hz).1, (h o z hz).2.below hb⟩
set_option maxRecDepth 100000 in
set_option maxHeartbeats 1600000 in
theorem list_any (b n : Nat) (f : Int → Option Lz) (db : List La) (w : World) (hn : n ≤ 1000000) (hO : OrgM f) (hM : OwnM w b n f) (hS : SlM w w.heap.size f) (hd : Srt db) (hf : ∀ o, (f o).map Lz.d = getL db o) :
   Calls Try.prog 45 #[.map (some b)] w (NewZ db w) := by
  obtain ⟨i0, hi, hz0, hz10, hz20⟩ := info_parts infoLsa
  have Z0 := Lib.hid (ZI.start w.heap.size w (Nat.le_refl _))
  have HB0 : Below w.heap.size w (w.alloc (.cells #[] 54)) := by (repeat (first | exact Below.refl _ _ | (refine Below.alloc ?_ (by first | exact Nat.le_refl _ | omega | (simp; done) | (simp; omega)) _) | (refine Below.setCell ?_ (by first | exact Nat.le_refl _ | omega | (simp; done) | (simp; omega)) _) | exact Below.drew ‹_›))
  have CS := sorted_call b n f (w.alloc (.cells #[] 54)) (by omega) (hM.call HB0)
  simp only [World.size_alloc] at CS
  have CK := fun (W : World) => keys_call (some b) W
  have B0 := Lib.hid HB0
  have HS := Lib.hid hS
  have HM := Lib.hid hM
  have HO := Lib.hid hO
  have HE := Lib.hid (fun (ks : List Int) (h1 : ∀ x, x ∈ ks ↔ (f x).isSome = true) (h2 : ks.Pairwise (· < ·)) => lstM_eq hO h1 h2 hd hf)
  clear hS hM HB0 hO hd hf
  go_enter Try.func45, Try.ntmps45
  go_wp2_with (first
    | (go_at_call 70; refine (CK _).mono ?_; rintro e w1 ⟨rfl, rfl⟩)
    | (go_at_call 69; refine CS.mono ?_; rintro e w1 ⟨v, ks, rfl, hk1, hk2, hkn, hrow, hb1⟩; have B1 := Lib.hid (Below.trans (B := w.heap.size) (a := w) (by (repeat (first | exact Below.refl _ _ | (refine Below.alloc ?_ (by first | exact Nat.le_refl _ | omega | (simp; done) | (simp; omega)) _) | (refine Below.setCell ?_ (by first | exact Nat.le_refl _ | omega | (simp; done) | (simp; omega)) _) | exact Below.drew ‹_›))) (hb1.mono (by omega))); have Z1 := Lib.hid (Z0.out.call (Below.trans (B := (w.alloc (.cells #[] 54)).heap.size) (by (repeat (first | exact Below.refl _ _ | (refine Below.alloc ?_ (by first | exact Nat.le_refl _ | omega | (simp; done) | (simp; omega)) _) | (refine Below.setCell ?_ (by first | exact Nat.le_refl _ | omega | (simp; done) | (simp; omega)) _) | exact Below.drew ‹_›))) (hb1.mono (by simp)))); have K1 := Lib.hid hk1; have K2 := Lib.hid hk2; obtain ⟨AK, gK, cK, rfl, hgK, -, hcK⟩ := own_slicei hrow (Nat.le_trans (by simp) hb1.size); have HCK := Lib.hid hcK; have zs1 := hb1.size; simp only [World.size_alloc] at zs1; clear hb1 hrow hk1 hk2 hcK CS CK Z0 B0))
  have hbl := HM.out.lt
  go_loopw [12, 3] (fun i v wr => ∃ (k : Nat) (ys : List Lz), k ≤ ks.length ∧ i = .int .i64 (k : Int) ∧ Hid (datL ys = lstM f (ks.take k)) ∧ ys.length ≤ k ∧ Hid (ZI w.heap.size v ys wr) ∧ Hid (Below w.heap.size w wr) ∧ Hid (Own1i wr AK gK ks)) (fun i _ _ => ks.length - (intOf i).toNat)
  case atStart => exact ⟨0, [], Nat.zero_le _, rfl, Lib.hid rfl, Nat.le_refl _, Z1, B1, HCK⟩
  case round =>
    obtain ⟨k, ys, hk, rfl, HD, hyk, Z2, B2, HCK2⟩ := hrel
    clear Z1 B1 HCK
    obtain ⟨A9, g9, c9, rfl, hg9, -, hc9, -, -⟩ := own_slicez Z2.out.row B2.out.size
    by_cases hlt : k < ks.length
    · obtain ⟨x, hx⟩ : ∃ x, ks[k]? = some x := ⟨_, List.getElem?_eq_getElem hlt⟩
      obtain ⟨z, hfz⟩ := Option.isSome_iff_exists.1 ((K1.out x).1 (List.mem_of_getElem? hx))
      obtain ⟨rfl, hcg, hck⟩ := HCK2.out.at hx
      obtain ⟨hzl, hzs⟩ := HS.out x z hfz
      obtain ⟨hzo, hx0, hx7⟩ := HO.out x z hfz
      have hrun := ((HM.out.below B2.out hbl).look (o := x) (by omega)).1 z hfz
      have hrun := hrun.2
      have HDN : Hid (lstM f (ks.take (k + 1)) = lstM f (ks.take k) ++ [z.d]) := Lib.hid (by
        rw [List.take_add_one, hx]
        unfold lstM
        rw [List.map_append]
        congr 1
        show [dOf f x] = _
        unfold dOf
        rw [hfz])
      have I2 := Lib.hid (hzs.below B2.out)
      have hz2 := B2.out.size
      obtain ⟨zo, zq, zes, zA, zc, zg⟩ := z
      dsimp only at hrun hzl
      have HB3 : Below wr.heap.size wr (wr.alloc (.cells #[.int .i64 zo, .int .i64 zq, .slice zA zes.length zc] 54)) := by (repeat (first | exact Below.refl _ _ | (refine Below.alloc ?_ (by first | exact Nat.le_refl _ | omega | (simp; done) | (simp; omega)) _) | (refine Below.setCell ?_ (by first | exact Nat.le_refl _ | omega | (simp; done) | (simp; omega)) _) | exact Below.drew ‹_›))
      have CL := clone_ends zA zes zc (wr.alloc (.cells #[.int .i64 zo, .int .i64 zq, .slice zA zes.length zc] 54)) hzl ((I2.out.below (HB3.mono hz2 |> fun h => (Below.refl w.heap.size wr).alloc hz2 _)).more (by simp; omega))
      have X3 := Lib.hid (Box.new wr 54 #[.int .i64 zo, .int .i64 zq, .slice zA zes.length zc])
      have B3 := Lib.hid HB3
      clear hx hfz hzs hzo HB3 I2
      go_wp2_with fail
      refine CL.mono ?_
      clear CL
      rintro e w4 ⟨A4, g4, c4, rfl, hg4, ho4, hc4, hb4⟩
      rw [World.size_alloc] at hg4 hb4
      have X4 := Lib.hid (X3.out.below hb4 (by omega))
      have B4 := Lib.hid (B3.out.trans (hb4.mono (by omega)))
      have O4 := Lib.hid ho4
      clear ho4 hb4 X3 B3 hrun hck
      obtain ⟨zx, x0, x1, x2, q0, q1, q2⟩ := X4.out.three
      have hw4 := B4.out.size
      have X5 : Hid (Box (w4.setCell ⟨wr.heap.size, 2, none⟩ (.slice A4 zes.length c4)) wr.heap.size 54 #[.int .i64 zo, .int .i64 zq, .slice A4 zes.length c4]) := Lib.hid (heap_set X4.out 2 _)
      have I5 : Hid (InnZ (w4.setCell ⟨wr.heap.size, 2, none⟩ (.slice A4 zes.length c4)) wr.heap.size ⟨zo, zq, zes, A4, c4, g4⟩) := Lib.hid ⟨O4.out.set_far (p := ⟨wr.heap.size, 2, none⟩) (by show g4 ≠ wr.heap.size; omega) _, by show wr.heap.size ≤ g4; omega, hc4⟩
      have B5 : Hid (Below wr.heap.size wr (w4.setCell ⟨wr.heap.size, 2, none⟩ (.slice A4 zes.length c4))) := Lib.hid (B4.out.setCell (p := ⟨wr.heap.size, 2, none⟩) (Nat.le_refl _) _)
      have hs5 : (w4.setCell ⟨wr.heap.size, 2, none⟩ (.slice A4 zes.length c4)).heap.size = w4.heap.size := by simp
      go_upto_region 7 with fail
      clear X4 O4 B4 zx x0 x1 x2 q0 q1 q2
      generalize w4.setCell ⟨wr.heap.size, 2, none⟩ (.slice A4 zes.length c4) = w5 at *
      have hzz : w.heap.size ≤ w5.heap.size := by have := B5.out.size; omega
      obtain ⟨zx, x0, x1, x2, q0, q1, q2⟩ := X5.out.three
      have K5 := Lib.hid (HCK2.out.below B5.out)
      generalize hebd : wr.heap.size = eb at zx x0 x1 x2 q0 q1 q2
      clear hs5
      go_wp2_with (at_builtin; refine wpList_append_own_at _ rfl _ _ 29 rfl w.heap.size 54 i0 _ 3 40 Try.underlying29 hi hz0 hz10 hz20 rfl (by decide) _ ys.length _ rfl (owns_kept (owns_kept Z2.out.row B5.out) ((Below.refl _ _).alloc (Nat.le_refl _) _)) ⟨w5.heap.size, 0, none⟩ 1 1 [.int .i64 zo, .int .i64 zq, .slice A4 zes.length c4] rfl rfl (new3z _ _ _ _ _) (one3z _ _ _ rfl rfl rfl) (by unfold maxLen; omega) (by omega) (by simp; omega) ?_; intro v' w6 hown' hgrow hnil hat; have Z6 := Lib.hid (Z2.out.more B5.out hz2 I5.out hown' hgrow); have K6 := Lib.hid (own1i_row K5.out (owns_kept Z2.out.row B5.out) hgrow); have B6 := Lib.hid (((B2.out.trans (B5.out.mono hz2)).alloc hzz (.cells #[.int .i64 zo, .int .i64 zq, .slice A4 zes.length c4] 54)).grown hgrow (by simp; omega) (fun j e => (Z2.out.row.lt j e).1)); clear hown' hgrow hnil hat)
      go_roundw
      case rel => exact ⟨k + 1, ys ++ [⟨zo, zq, zes, A4, c4, g4⟩], hlt, by go_num, Lib.hid (by rw [HDN.out, ← HD.out]; simp [datL]), by simp; omega, Z6, B6, K6⟩
      case measure => simp [intOf]; omega
    · obtain rfl : k = ks.length := by omega
      have hE := HE.out ks K1.out K2.out
      go_wp2_with fail
      go_ret
      exact ⟨ys, A9, c9, rfl, by rw [HD.out, List.take_length, hE], Z2.out, B2.out⟩

end Go.Proofs.Ytnkohgdfipgdoab
