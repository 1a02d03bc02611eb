/-
  The walk of FnDbPutOrder over this seat.
-/
import Derived.Test.YtimebipgiicmiaaLu
namespace Go.Proofs.Ytimebipgiicmiaa
open Go.RowKit Go.Maps

set_option maxRecDepth 100000 in
set_option maxHeartbeats 1600000 in
theorem fnDbPutOrder_walk (A : Option Addr) (len c : Nat) (Am : Option Addr) (len' c' : Nat) (f f' : Nat → Int) (w : World) (hlc : len ≤ c) (hc : c ≤ maxLen) (hB : Byt w w.heap.size A len f) (hlc' : len' ≤ c') (hc' : c' ≤ maxLen) (hB' : Byt w w.heap.size Am len' f') :
   Calls Try.prog 10 #[.slice A len c, .slice Am len' c'] w fun e w' => e = .returned (.bool true) ∧ Below w.heap.size w w' := by
  have HB := Lib.hid hB
  have HBM := Lib.hid hB'
  clear hB hB'
  by_cases hl : len ≤ 1048576 ∧ len' ≤ 1048576
  · obtain ⟨hl, hl'⟩ := hl
    go_enter Try.func10, Try.ntmps10
    go_wp2_with fail
    refine (drawDbPut_any A len c f w hlc hc HB.out).mono ?_
    rintro e w1 ⟨zs, A1, c1, z, rfl, hl9, hok, hokz, hzi, hin, -, hb1⟩
    have hes : ∀ x ∈ zs, x.es.length ≤ 2000000 := fun x hx => by have := (hok x hx).2.2.2.2.1; dsimp only at this; omega
    have hle : z.es.length ≤ 2000000 := by have := hokz.2.2.2.2.1; dsimp only at this; omega
    have L1 := Lib.hid (LU.start hzi hin hb1)
    have CI := fun W (h1 : Slz W W.heap.size A1 zs) (h2 : Slb W W.heap.size z.A z.es) => dbPut_impl A1 zs c1 z W (by omega) hes hle h1 h2
    have CS := fun W (h1 : Slz W W.heap.size A1 zs) (h2 : Slb W W.heap.size z.A z.es) => dbPut_spec A1 zs c1 z W (by omega) hes hle h1 h2
    have HSH := Lib.hid (fun (ys : List Lz) (h : datL ys = putD (datL zs) z.d) => put_short h)
    have HCA := Lib.hid (putN_cases (datL zs) z.d)
    have HES := Lib.hid hes
    obtain ⟨n, hn⟩ : ∃ n, putN (datL zs) z.d = n := ⟨_, rfl⟩
    obtain ⟨ds, hds⟩ : ∃ ds, putD (datL zs) z.d = ds := ⟨_, rfl⟩
    rw [hn] at CI CS HCA
    rw [hds] at CI CS HCA HSH
    generalize hG : w1.heap.size = G at *
    obtain ⟨zo, zq, zes, zA, zc, zg⟩ := z
    dsimp only at *
    clear hzi hin hb1 HB hok hokz hes hn hds
    go_wp2_with fail
    refine (CI _ L1.out.sl L1.out.le).mono ?_
    clear CI
    rintro e w2 ⟨ys, A2, c2, rfl, hd2, hz2, hb2⟩
    have L2 := Lib.hid (L1.out.call hb2)
    have Y2 := Lib.hid (hz2.slz hb2.size)
    obtain ⟨hyl, hye, hyv⟩ := HSH.out ys hd2
    clear hb2 hz2 L1
    obtain ⟨zx, x0, x1, x2, -, -, -⟩ := L2.out.box.three
    go_wp2_with fail
    refine (CS _ L2.out.sl L2.out.le).mono ?_
    clear CS
    rintro e w3 ⟨vs, A3, c3, rfl, hd3, hz3, hb3⟩
    have L3 := Lib.hid (L2.out.call hb3)
    have Y3 := Lib.hid (Y2.out.step hb3)
    have V3 := Lib.hid (hz3.slz hb3.size)
    have hsame : datL ys = datL vs := hd2.trans hd3.symm
    have D2 := Lib.hid hd2
    clear hb3 hz3 L2 Y2 zx x0 x1 x2 hd2 hd3
    have CM := fun W (h1 : Slz W W.heap.size A2 ys) (h2 : Slz W W.heap.size A3 vs) => sameDb_any A2 A3 ys vs c2 c3 W (by omega) (fun x hx => by have := hye x hx; omega) h1 h2
    rw [decide_eq_true hsame] at CM
    clear hsame
    obtain ⟨zx, x0, x1, x2, -, -, -⟩ := L3.out.box.three
    by_cases h3 : n = 3
    · have h3' : (n == 3) = true := by simp [h3]
      go_wp2_with fail
      refine (CM _ Y3.out V3.out).mono ?_
      rintro e w4 ⟨rfl, hb4⟩
      have L4 := Lib.hid (L3.out.call hb4)
      have Y4 := Lib.hid (Y3.out.step hb4)
      have V4 := Lib.hid (V3.out.step hb4)
      clear hb4 L3 Y3 V3 zx x0 x1 x2
      obtain ⟨zx, x0, x1, x2, -, -, -⟩ := L4.out.box.three
      go_wp2_with fail
      refine (CM _ Y4.out V4.out).mono ?_
      rintro e w5 ⟨rfl, hb5⟩
      have L5 := Lib.hid (L4.out.call hb5)
      clear hb5
      go_wp2_with fail
      go_ret
      exact ⟨ret_bool (by simp), L5.out.bel⟩

    · have h3' : (n == 3) = false := by simp [h3]
      obtain ⟨-, hv1, hv2, hnc, hdp⟩ : n ≠ 3 ∧ _ := by
        rcases HCA.out with h | h
        · exact absurd h.1 h3
        · exact h
      have HV1 := Lib.hid hv1
      have HV2 := Lib.hid hv2
      have HDP := Lib.hid hdp
      clear hv1 hv2 hnc hdp HCA
      go_wp2_with fail
      refine (CM _ Y3.out V3.out).mono ?_
      rintro e w4 ⟨rfl, hb4⟩
      have L4 := Lib.hid (L3.out.call hb4)
      have Y4 := Lib.hid (Y3.out.step hb4)
      have V4 := Lib.hid (V3.out.step hb4)
      clear hb4 L3 Y3 V3 zx x0 x1 x2
      obtain ⟨zx, x0, x1, x2, -, -, -⟩ := L4.out.box.three
      go_wp2_with fail
      refine (drawDbPut_any Am len' c' f' _ hlc' hc' ((fun h0 => by
        obtain ⟨b, off, rfl, hb, h⟩ := (HBM.out.below L4.out.bel) h0
        exact ⟨b, off, rfl, Nat.lt_of_lt_of_le hb L4.out.bel.size, h⟩) : Byt _ _ Am len' f')).mono ?_
      rintro e w5 ⟨-, -, -, u, rfl, -, -, hoku, -, hiu, -, hb5⟩
      have hue : u.es.length ≤ 2000000 := by have := hoku.2.2.2.2.1; dsimp only at this; omega
      obtain ⟨uo, uq, ues, uA, uc, ug⟩ := u
      dsimp only at *
      have hb6 : Below w5.heap.size w5 (w5.alloc (.cells #[.int .i64 uo, .int .i64 uq, .slice uA ues.length uc] 29)) := by (repeat (first | exact Below.refl _ _ | (refine Below.alloc ?_ (by first | exact Nat.le_refl _ | omega | (simp; done) | (simp; omega)) _) | (refine Below.setCell ?_ (by first | exact Nat.le_refl _ | omega | (simp; done) | (simp; omega)) _) | exact Below.drew ‹_›))
      have L6 := Lib.hid ((L4.out.call hb5).call hb6)
      have Y6 := Lib.hid ((Y4.out.step hb5).step hb6)
      have hlu := (hiu.slb.below hb6).more hb6.size
      have U6 := Lib.hid (show LU w w5.heap.size ⟨uo, uq, ues, uA, uc, ug⟩ A1 zs _ from ⟨Box.new w5 29 #[.int .i64 uo, .int .i64 uq, .slice uA ues.length uc], L6.out.sl, hlu, L6.out.bel⟩)
      clear hoku hiu hb5 hb6 hlu L4 Y4 V4 zx x0 x1 x2 HBM
      obtain ⟨zx, x0, x1, x2, -, -, -⟩ := L6.out.box.three
      obtain ⟨zu, u0, u1, u2, -, -, -⟩ := U6.out.box.three
      have CU := fun W (h : Slb W W.heap.size uA ues) => lsaValid_impl ⟨uo, uq, ues, uA, uc, ug⟩ W hue h
      cases hvu : laB ⟨uo, uq, ues⟩ with
      | false =>
        rw [hvu] at CU
        clear hvu
        go_wp2_with fail
        refine (CU _ U6.out.le).mono ?_
        rintro e w7 ⟨rfl, hb7⟩
        have L7 := Lib.hid (L6.out.call hb7)
        clear hb7 CU
        go_wp2_with fail
        go_ret
        exact ⟨rfl, L7.out.bel⟩
      | true =>
        rw [hvu] at CU
        have HVU := Lib.hid hvu
        clear hvu
        go_wp2_with fail
        refine (CU _ U6.out.le).mono ?_
        clear CU
        rintro e w7 ⟨rfl, hb7⟩
        have L7 := Lib.hid (L6.out.call hb7)
        have U7 := Lib.hid (U6.out.call hb7)
        have Y7 := Lib.hid (Y6.out.step hb7)
        clear hb7 L6 U6 Y6 zx x0 x1 x2 zu u0 u1 u2
        obtain ⟨zx, x0, x1, x2, -, -, -⟩ := L7.out.box.three
        obtain ⟨zu, u0, u1, u2, -, -, -⟩ := U7.out.box.three
        by_cases hou : uo = zo ∧ uq = zq
        · obtain ⟨rfl, rfl⟩ := hou
          go_wp2_with fail
          go_ret
          exact ⟨rfl, L7.out.bel⟩
        · have HD := Lib.hid (putL_comm (db := datL zs) (l := ⟨zo, zq, zes⟩) (u := ⟨uo, uq, ues⟩) (dbB_inv HV1.out).2 (fun h => hou h))
          have P1 : Hid (putD (datL ys) ⟨uo, uq, ues⟩ = putL (putL (datL zs) ⟨zo, zq, zes⟩) ⟨uo, uq, ues⟩) := Lib.hid (by
            unfold putD
            rw [hyv, HVU.out, if_pos (by rfl), D2.out, HDP.out])
          have P2 : Hid (putD (datL zs) ⟨uo, uq, ues⟩ = putL (datL zs) ⟨uo, uq, ues⟩) := Lib.hid (by
            unfold putD
            rw [HV1.out, HVU.out, if_pos (by rfl)])
          have CA := fun W (h1 : Slz W W.heap.size A2 ys) (h2 : Slb W W.heap.size uA ues) => dbPut_impl A2 ys c2 ⟨uo, uq, ues, uA, uc, ug⟩ W (by omega) (fun x hx => by have := hye x hx; omega) hue h1 h2
          have CB := fun W (h1 : Slz W W.heap.size A1 zs) (h2 : Slb W W.heap.size uA ues) => dbPut_impl A1 zs c1 ⟨uo, uq, ues, uA, uc, ug⟩ W (by omega) HES.out hue h1 h2
          obtain ⟨n1, hn1⟩ : ∃ n1, putN (datL ys) ⟨uo, uq, ues⟩ = n1 := ⟨_, rfl⟩
          obtain ⟨n2, hn2⟩ : ∃ n2, putN (datL zs) ⟨uo, uq, ues⟩ = n2 := ⟨_, rfl⟩
          rw [hn1] at CA
          rw [hn2] at CB
          have hno : (uo == zo && uq == zq) = false := by
            rw [Bool.and_eq_false_iff]
            by_cases h1 : uo = zo
            · exact .inr (beq_eq_false_iff_ne.2 fun h2 => hou ⟨h1, h2⟩)
            · exact .inl (beq_eq_false_iff_ne.2 h1)
          clear hn1 hn2
          by_cases h1 : uo = zo
          · have h2 : ¬ uq = zq := fun h2 => hou ⟨h1, h2⟩
            have h1' : (uo == zo) = true := by simp [h1]
            have h2' : (uq == zq) = false := by simp [h2]
            clear hou hno h2
            clear h1
            go_wp2_with fail
            refine (CA _ Y7.out U7.out.le).mono ?_
            clear CA
            rintro e w8 ⟨as1, A8, c8, rfl, hd8, hz8, hb8⟩
            have L8 := Lib.hid (L7.out.call hb8)
            have U8 := Lib.hid (U7.out.call hb8)
            have S8 := Lib.hid (hz8.slz hb8.size)
            obtain ⟨hal, hae, hav⟩ := put_short hd8
            have E8 := Lib.hid hd8
            clear hb8 hz8 hd8 L7 U7 Y7 zx x0 x1 x2 zu u0 u1 u2
            obtain ⟨zx, x0, x1, x2, -, -, -⟩ := L8.out.box.three
            obtain ⟨zu, u0, u1, u2, -, -, -⟩ := U8.out.box.three
            go_wp2_with fail
            refine (CB _ L8.out.sl U8.out.le).mono ?_
            clear CB
            rintro e w9 ⟨bs, A9, c9, rfl, hd9, hz9, hb9⟩
            have L9 := Lib.hid (L8.out.call hb9)
            have S9 := Lib.hid (S8.out.step hb9)
            have T9 := Lib.hid (hz9.slz hb9.size)
            obtain ⟨hbl, hbe, hbv⟩ := put_short hd9
            have E9 := Lib.hid hd9
            clear hb9 hz9 hd9 L8 U8 S8 zx x0 x1 x2 zu u0 u1 u2
            obtain ⟨zx, x0, x1, x2, -, -, -⟩ := L9.out.box.three
            have CC := fun W (h1 : Slz W W.heap.size A9 bs) (h2 : Slb W W.heap.size zA zes) => dbPut_impl A9 bs c9 ⟨zo, zq, zes, zA, zc, zg⟩ W (by omega) (fun x hx => by have := hbe x hx; omega) hle h1 h2
            obtain ⟨n3, hn3⟩ : ∃ n3, putN (datL bs) ⟨zo, zq, zes⟩ = n3 := ⟨_, rfl⟩
            rw [hn3] at CC
            clear hn3
            go_wp2_with fail
            refine (CC _ T9.out L9.out.le).mono ?_
            clear CC
            rintro e wa ⟨cs, Aa, ca, rfl, hda, hza, hba⟩
            have La := Lib.hid (L9.out.call hba)
            have Sa := Lib.hid (S9.out.step hba)
            have Ta := Lib.hid (hza.slz hba.size)
            have heq : datL as1 = datL cs := by
              rw [E8.out, P1.out, HD.out, hda]
              unfold putD
              rw [hbv, HV2.out, if_pos (by rfl), E9.out, P2.out]
            have CE := fun W (h1 : Slz W W.heap.size A8 as1) (h2 : Slz W W.heap.size Aa cs) => sameDb_any A8 Aa as1 cs c8 ca W (by omega) (fun x hx => by have := hae x hx; omega) h1 h2
            rw [decide_eq_true heq] at CE
            clear hba hza hda heq L9 S9 T9 zx x0 x1 x2
            go_wp2_with fail
            refine (CE _ Sa.out Ta.out).mono ?_
            rintro e wb ⟨rfl, hbb⟩
            have Lb := Lib.hid (La.out.call hbb)
            clear hbb
            go_wp2_with fail
            go_ret
            exact ⟨rfl, Lb.out.bel⟩

          · have h1' : (uo == zo) = false := by simp [h1]
            clear hou hno h1
            go_wp2_with fail
            refine (CA _ Y7.out U7.out.le).mono ?_
            clear CA
            rintro e w8 ⟨as1, A8, c8, rfl, hd8, hz8, hb8⟩
            have L8 := Lib.hid (L7.out.call hb8)
            have U8 := Lib.hid (U7.out.call hb8)
            have S8 := Lib.hid (hz8.slz hb8.size)
            obtain ⟨hal, hae, hav⟩ := put_short hd8
            have E8 := Lib.hid hd8
            clear hb8 hz8 hd8 L7 U7 Y7 zx x0 x1 x2 zu u0 u1 u2
            obtain ⟨zx, x0, x1, x2, -, -, -⟩ := L8.out.box.three
            obtain ⟨zu, u0, u1, u2, -, -, -⟩ := U8.out.box.three
            go_wp2_with fail
            refine (CB _ L8.out.sl U8.out.le).mono ?_
            clear CB
            rintro e w9 ⟨bs, A9, c9, rfl, hd9, hz9, hb9⟩
            have L9 := Lib.hid (L8.out.call hb9)
            have S9 := Lib.hid (S8.out.step hb9)
            have T9 := Lib.hid (hz9.slz hb9.size)
            obtain ⟨hbl, hbe, hbv⟩ := put_short hd9
            have E9 := Lib.hid hd9
            clear hb9 hz9 hd9 L8 U8 S8 zx x0 x1 x2 zu u0 u1 u2
            obtain ⟨zx, x0, x1, x2, -, -, -⟩ := L9.out.box.three
            have CC := fun W (h1 : Slz W W.heap.size A9 bs) (h2 : Slb W W.heap.size zA zes) => dbPut_impl A9 bs c9 ⟨zo, zq, zes, zA, zc, zg⟩ W (by omega) (fun x hx => by have := hbe x hx; omega) hle h1 h2
            obtain ⟨n3, hn3⟩ : ∃ n3, putN (datL bs) ⟨zo, zq, zes⟩ = n3 := ⟨_, rfl⟩
            rw [hn3] at CC
            clear hn3
            go_wp2_with fail
            refine (CC _ T9.out L9.out.le).mono ?_
            clear CC
            rintro e wa ⟨cs, Aa, ca, rfl, hda, hza, hba⟩
            have La := Lib.hid (L9.out.call hba)
            have Sa := Lib.hid (S9.out.step hba)
            have Ta := Lib.hid (hza.slz hba.size)
            have heq : datL as1 = datL cs := by
              rw [E8.out, P1.out, HD.out, hda]
              unfold putD
              rw [hbv, HV2.out, if_pos (by rfl), E9.out, P2.out]
            have CE := fun W (h1 : Slz W W.heap.size A8 as1) (h2 : Slz W W.heap.size Aa cs) => sameDb_any A8 Aa as1 cs c8 ca W (by omega) (fun x hx => by have := hae x hx; omega) h1 h2
            rw [decide_eq_true heq] at CE
            clear hba hza hda heq L9 S9 T9 zx x0 x1 x2
            go_wp2_with fail
            refine (CE _ Sa.out Ta.out).mono ?_
            rintro e wb ⟨rfl, hbb⟩
            have Lb := Lib.hid (La.out.call hbb)
            clear hbb
            go_wp2_with fail
            go_ret
            exact ⟨rfl, Lb.out.bel⟩


  · by_cases hl1 : len ≤ 1048576
    · have hl2 : 1048576 < len' := by omega
      clear hl
      go_enter Try.func10, Try.ntmps10
      go_wp2
      go_ret
      exact ⟨rfl, by (repeat (first | exact Below.refl _ _ | (refine Below.alloc ?_ (by first | exact Nat.le_refl _ | omega | (simp; done) | (simp; omega)) _) | (refine Below.setCell ?_ (by first | exact Nat.le_refl _ | omega | (simp; done) | (simp; omega)) _) | exact Below.drew ‹_›))⟩
    · clear hl
      go_enter Try.func10, Try.ntmps10
      go_wp2
      go_ret
      exact ⟨rfl, by (repeat (first | exact Below.refl _ _ | (refine Below.alloc ?_ (by first | exact Nat.le_refl _ | omega | (simp; done) | (simp; omega)) _) | (refine Below.setCell ?_ (by first | exact Nat.le_refl _ | omega | (simp; done) | (simp; omega)) _) | exact Below.drew ‹_›))⟩

end Go.Proofs.Ytimebipgiicmiaa
