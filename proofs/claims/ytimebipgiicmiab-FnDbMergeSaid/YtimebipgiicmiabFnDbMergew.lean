/-
  The walk of FnDbMerge over this seat.
-/
import Derived.Test.YtimebipgiicmiabLm
namespace Go.Proofs.Ytimebipgiicmiab
open Go.RowKit Go.Maps

set_option maxRecDepth 100000 in
set_option maxHeartbeats 1600000 in
theorem fnDbMerge_walk (A : Option Addr) (len c : Nat) (f : Nat → Int) (w : World) (hlc : len ≤ c) (hc : c ≤ maxLen) (hB : Byt w w.heap.size A len f) :
   Calls Try.prog 5 #[.slice A len c] w fun e w' => e = .returned (.bool true) ∧ Below w.heap.size w w' := by
  have HB := Lib.hid hB
  clear hB
  by_cases hl : len ≤ 1048576
  · go_enter Try.func5, Try.ntmps5
    go_wp2_with fail
    refine (drawDbMerge_any A len c f w hlc hc HB.out).mono ?_
    rintro e w1 ⟨zs, A1, c1, os, B1, cb, b0, rfl, hl9, ho9, hze8, hoe8, hzi, hb0, hoi, -, -, hb1⟩
    have hze : ∀ x ∈ zs, x.es.length ≤ 2000000 := fun x hx => by have := hze8 x hx; omega
    have hoe : ∀ x ∈ os, x.es.length ≤ 2000000 := fun x hx => by have := hoe8 x hx; omega
    have L1 := Lib.hid (show LM w A1 zs B1 os w1 from ⟨hzi.slz hb1.size, (hoi.down hb0).slz hb1.size, hb1⟩)
    clear hzi hoi hb0 hb1 hze8 hoe8 HB
    have CI := fun W (h1 : Slz W W.heap.size A1 zs) (h2 : Slz W W.heap.size B1 os) => dbMerge_impl A1 zs c1 B1 os cb W (by omega) hze (by omega) hoe h1 h2
    have CS := fun W (h1 : Slz W W.heap.size A1 zs) (h2 : Slz W W.heap.size B1 os) => dbMerge_spec A1 zs c1 B1 os cb W (by omega) hze (by omega) hoe h1 h2
    have HSH := Lib.hid (fun (ys : List Lz) (h : datL ys = mergeD (datL zs) (datL os)) => merge_short h)
    obtain ⟨ds, hds⟩ : ∃ ds, mergeD (datL zs) (datL os) = ds := ⟨_, rfl⟩
    rw [hds] at CI CS HSH
    have HDS := Lib.hid hds
    clear hds
    cases hv : (dbB (datL zs) && dbB (datL os)) with
    | false =>
      rw [hv] at CI CS
      clear hv
      go_wp2_with fail
      refine (CI _ L1.out.sl L1.out.so).mono ?_
      clear CI
      rintro e w2 ⟨ys, A2, c2, rfl, hd2, hz2, hb2⟩
      have L2 := Lib.hid (L1.out.call hb2)
      have Y2 := Lib.hid (hz2.slz hb2.size)
      obtain ⟨hyl, hye8, hyv⟩ := HSH.out ys hd2
      have hye : ∀ x ∈ ys, x.es.length ≤ 2000000 := fun x hx => by have := hye8 x hx; omega
      clear hb2 hz2 L1 hye8
      go_wp2_with fail
      refine (CS _ L2.out.sl L2.out.so).mono ?_
      clear CS
      rintro e w3 ⟨vs, A3, c3, rfl, hd3, hz3, hb3⟩
      have L3 := Lib.hid (L2.out.call hb3)
      have Y3 := Lib.hid (Y2.out.step2 hb3)
      have V3 := Lib.hid (hz3.slz hb3.size)
      have hsame : datL ys = datL vs := hd2.trans hd3.symm
      have D2 := Lib.hid hd2
      clear hb3 hz3 L2 Y2 hd2 hd3
      have CM := fun W (h1 : Slz W W.heap.size A2 ys) (h2 : Slz W W.heap.size A3 vs) => sameDb_any A2 A3 ys vs c2 c3 W (by omega) hye h1 h2
      rw [decide_eq_true hsame] at CM
      clear hsame
      go_wp2_with fail
      refine (CM _ Y3.out V3.out).mono ?_
      rintro e w4 ⟨rfl, hb4⟩
      have L4 := Lib.hid (L3.out.call hb4)
      have Y4 := Lib.hid (Y3.out.step2 hb4)
      have V4 := Lib.hid (V3.out.step2 hb4)
      clear hb4 L3 Y3 V3
      go_wp2_with fail
      refine (CM _ Y4.out V4.out).mono ?_
      rintro e w5 ⟨rfl, hb5⟩
      have L5 := Lib.hid (L4.out.call hb5)
      clear hb5
      go_wp2_with fail
      go_ret
      exact ⟨ret_bool (by simp), L5.out.bel⟩

    | true =>
      rw [hv] at CI CS
      have hv2 : dbB (datL zs) = true ∧ dbB (datL os) = true := by simpa using hv
      obtain ⟨hv1, hv2⟩ := hv2
      have HME : Hid (ds = mergeL (datL zs) (datL os)) := Lib.hid (by rw [← HDS.out, mergeD_valid hv1 hv2])
      have hs1 := (dbB_inv hv1).2
      have hs2 := (dbB_inv hv2).2
      clear hv
      go_wp2_with fail
      refine (CI _ L1.out.sl L1.out.so).mono ?_
      clear CI
      rintro e w2 ⟨ys, A2, c2, rfl, hd2, hz2, hb2⟩
      have L2 := Lib.hid (L1.out.call hb2)
      have Y2 := Lib.hid (hz2.slz hb2.size)
      obtain ⟨hyl, hye8, hyv⟩ := HSH.out ys hd2
      have hye : ∀ x ∈ ys, x.es.length ≤ 2000000 := fun x hx => by have := hye8 x hx; omega
      clear hb2 hz2 L1 hye8
      go_wp2_with fail
      refine (CS _ L2.out.sl L2.out.so).mono ?_
      clear CS
      rintro e w3 ⟨vs, A3, c3, rfl, hd3, hz3, hb3⟩
      have L3 := Lib.hid (L2.out.call hb3)
      have Y3 := Lib.hid (Y2.out.step2 hb3)
      have V3 := Lib.hid (hz3.slz hb3.size)
      have hsame : datL ys = datL vs := hd2.trans hd3.symm
      have D2 := Lib.hid hd2
      clear hb3 hz3 L2 Y2 hd2 hd3
      have CM := fun W (h1 : Slz W W.heap.size A2 ys) (h2 : Slz W W.heap.size A3 vs) => sameDb_any A2 A3 ys vs c2 c3 W (by omega) hye h1 h2
      rw [decide_eq_true hsame] at CM
      clear hsame
      go_wp2_with fail
      refine (CM _ Y3.out V3.out).mono ?_
      rintro e w4 ⟨rfl, hb4⟩
      have L4 := Lib.hid (L3.out.call hb4)
      have Y4 := Lib.hid (Y3.out.step2 hb4)
      have V4 := Lib.hid (V3.out.step2 hb4)
      clear hb4 L3 Y3 V3
      have HQ : Hid (∀ o, seqL (datL ys) o = max (seqL (datL zs) o) (seqL (datL os) o)) := Lib.hid (fun o => by
        rw [D2.out, HME.out, seqL_merge hs1 hs2 (dbB_inv hv1).1 (dbB_inv hv2).1])
      have CQ := fun (o : Int) W (h : Slz W W.heap.size A2 ys) => seqOf_any A2 ys c2 o W (by omega) h
      have CA := fun (o : Int) W (h : Slz W W.heap.size A1 zs) => seqOf_any A1 zs c1 o W (by omega) h
      have CB := fun (o : Int) W (h : Slz W W.heap.size B1 os) => seqOf_any B1 os cb o W (by omega) h
      simp only [HQ.out] at CQ
      have CV := fun W (h : Slz W W.heap.size A2 ys) => dbValid_impl A2 ys c2 W (by omega) hye h
      rw [hyv] at CV
      clear V4 CM
      go_wp2_with fail
      go_loopw [9] (fun i wr => ∃ k : Nat, k ≤ 8 ∧ i = .int .i64 (k : Int) ∧ Hid (LM w A1 zs B1 os wr) ∧ Hid (Slz wr wr.heap.size A2 ys)) (fun i _ => 8 - (intOf i).toNat)
      case atStart => exact ⟨0, Nat.zero_le _, rfl, L4, Y4⟩
      case round =>
        obtain ⟨k, hk, rfl, L6, Y6⟩ := hrel
        clear L4 Y4
        by_cases hkt : k < 8
        · have hkti : (k : Int) < 8 := by omega
          go_wp2_with fail
          have CQ2 := CQ (k : Int)
          have CA2 := CA (k : Int)
          have CB2 := CB (k : Int)
          generalize seqL (datL zs) (k : Int) = p at *
          generalize seqL (datL os) (k : Int) = q at *
          refine (CQ2 _ Y6.out).mono ?_
          rintro e w7 ⟨rfl, hb7⟩
          have L7 := Lib.hid (L6.out.call hb7)
          have Y7 := Lib.hid (Y6.out.step2 hb7)
          clear hb7 L6 Y6 CQ2
          go_wp2_with fail
          refine (CA2 _ L7.out.sl).mono ?_
          rintro e w8 ⟨rfl, hb8⟩
          have L8 := Lib.hid (L7.out.call hb8)
          have Y8 := Lib.hid (Y7.out.step2 hb8)
          clear hb8 L7 Y7 CA2
          go_wp2_with fail
          refine (CB2 _ L8.out.so).mono ?_
          rintro e w9 ⟨rfl, hb9⟩
          have L9 := Lib.hid (L8.out.call hb9)
          have Y9 := Lib.hid (Y8.out.step2 hb9)
          clear hb9 L8 Y8 CB2
          by_cases hpq : p < q
          · have hmx : max p q = q := by omega
            have hne : (max p q != q) = false := by rw [hmx]; simp
            go_wp2_with fail
            go_roundw
            case rel => exact ⟨k + 1, hkt, by go_num, L9, Y9⟩
            case measure => simp [intOf]; omega
          · have hmx : max p q = p := by omega
            have hne : (max p q != p) = false := by rw [hmx]; simp
            go_wp2_with fail
            go_roundw
            case rel => exact ⟨k + 1, hkt, by go_num, L9, Y9⟩
            case measure => simp [intOf]; omega
        · have hkti : ¬ (k : Int) < 8 := by omega
          go_wp2_with fail
          refine (CV _ Y6.out).mono ?_
          rintro e w7 ⟨rfl, hb7⟩
          have L7 := Lib.hid (L6.out.call hb7)
          clear hb7
          go_wp2_with fail
          go_ret
          exact ⟨rfl, L7.out.bel⟩

  · go_enter Try.func5, Try.ntmps5
    go_wp2
    go_ret
    exact ⟨rfl, by (repeat (first | exact Below.refl _ _ | (refine Below.alloc ?_ (by first | exact Nat.le_refl _ | omega | (simp; done) | (simp; omega)) _) | (refine Below.setCell ?_ (by first | exact Nat.le_refl _ | omega | (simp; done) | (simp; omega)) _) | exact Below.drew ‹_›))⟩

end Go.Proofs.Ytimebipgiicmiab
