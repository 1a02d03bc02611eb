/-
  The walk of FnDbPutTwice over this seat.
-/
import Derived.Test.YtimebipgiicmiaaLu
namespace Go.Proofs.Ytimebipgiicmiaa
open Go.RowKit Go.Maps

set_option maxRecDepth 100000 in
set_option maxHeartbeats 1600000 in
theorem fnDbPutTwice_walk (A : Option Addr) (len c : Nat) (f : Nat → Int) (w : World) (hlc : len ≤ c) (hc : c ≤ maxLen) (hB : Byt w w.heap.size A len f) :
   Calls Try.prog 9 #[.slice A len c] w fun e w' => e = .returned (.bool true) ∧ Below w.heap.size w w' := by
  have HB := Lib.hid hB
  clear hB
  by_cases hl : len ≤ 1048576
  · go_enter Try.func9, Try.ntmps9
    go_wp2_with fail
    refine (drawDbPut_any A len c f w hlc hc HB.out).mono ?_
    rintro e w1 ⟨zs, A1, c1, z, rfl, hl9, hok, hokz, hzi, hin, -, hb1⟩
    have hes : ∀ x ∈ zs, x.es.length ≤ 2000000 := fun x hx => by have := (hok x hx).2.2.2.2.1; dsimp only at this; omega
    have hle : z.es.length ≤ 2000000 := by have := hokz.2.2.2.2.1; dsimp only at this; omega
    have L1 := Lib.hid (LU.start hzi hin hb1)
    have CI := fun W (h1 : Slz W W.heap.size A1 zs) (h2 : Slb W W.heap.size z.A z.es) => dbPut_impl A1 zs c1 z W (by omega) hes hle h1 h2
    have CS := fun W (h1 : Slz W W.heap.size A1 zs) (h2 : Slb W W.heap.size z.A z.es) => dbPut_spec A1 zs c1 z W (by omega) hes hle h1 h2
    have HSH := Lib.hid (fun (ys : List Lz) (h : datL ys = putD (datL zs) z.d) => put_short h)
    have HCA := Lib.hid (putN_cases (datL zs) z.d)
    have HES := Lib.hid hes
    obtain ⟨n, hn⟩ : ∃ n, putN (datL zs) z.d = n := ⟨_, rfl⟩
    obtain ⟨ds, hds⟩ : ∃ ds, putD (datL zs) z.d = ds := ⟨_, rfl⟩
    rw [hn] at CI CS HCA
    rw [hds] at CI CS HCA HSH
    generalize hG : w1.heap.size = G at *
    obtain ⟨zo, zq, zes, zA, zc, zg⟩ := z
    dsimp only at *
    clear hzi hin hb1 HB hok hokz hes hn hds
    go_wp2_with fail
    refine (CI _ L1.out.sl L1.out.le).mono ?_
    clear CI
    rintro e w2 ⟨ys, A2, c2, rfl, hd2, hz2, hb2⟩
    have L2 := Lib.hid (L1.out.call hb2)
    have Y2 := Lib.hid (hz2.slz hb2.size)
    obtain ⟨hyl, hye, hyv⟩ := HSH.out ys hd2
    clear hb2 hz2 L1
    obtain ⟨zx, x0, x1, x2, -, -, -⟩ := L2.out.box.three
    go_wp2_with fail
    refine (CS _ L2.out.sl L2.out.le).mono ?_
    clear CS
    rintro e w3 ⟨vs, A3, c3, rfl, hd3, hz3, hb3⟩
    have L3 := Lib.hid (L2.out.call hb3)
    have Y3 := Lib.hid (Y2.out.step hb3)
    have V3 := Lib.hid (hz3.slz hb3.size)
    have hsame : datL ys = datL vs := hd2.trans hd3.symm
    have D2 := Lib.hid hd2
    clear hb3 hz3 L2 Y2 zx x0 x1 x2 hd2 hd3
    have CM := fun W (h1 : Slz W W.heap.size A2 ys) (h2 : Slz W W.heap.size A3 vs) => sameDb_any A2 A3 ys vs c2 c3 W (by omega) (fun x hx => by have := hye x hx; omega) h1 h2
    rw [decide_eq_true hsame] at CM
    clear hsame
    obtain ⟨zx, x0, x1, x2, -, -, -⟩ := L3.out.box.three
    by_cases h3 : n = 3
    · have h3' : (n == 3) = true := by simp [h3]
      go_wp2_with fail
      refine (CM _ Y3.out V3.out).mono ?_
      rintro e w4 ⟨rfl, hb4⟩
      have L4 := Lib.hid (L3.out.call hb4)
      have Y4 := Lib.hid (Y3.out.step hb4)
      have V4 := Lib.hid (V3.out.step hb4)
      clear hb4 L3 Y3 V3 zx x0 x1 x2
      obtain ⟨zx, x0, x1, x2, -, -, -⟩ := L4.out.box.three
      go_wp2_with fail
      refine (CM _ Y4.out V4.out).mono ?_
      rintro e w5 ⟨rfl, hb5⟩
      have L5 := Lib.hid (L4.out.call hb5)
      clear hb5
      go_wp2_with fail
      go_ret
      exact ⟨ret_bool (by simp), L5.out.bel⟩

    · have h3' : (n == 3) = false := by simp [h3]
      obtain ⟨-, hv1, hv2, hnc, hdp⟩ : n ≠ 3 ∧ _ := by
        rcases HCA.out with h | h
        · exact absurd h.1 h3
        · exact h
      obtain ⟨ha1, ha2⟩ := putL_again (l := ⟨zo, zq, zes⟩) (dbB_inv hv1).2
      rw [← hdp] at ha1 ha2
      have CT := fun W (h1 : Slz W W.heap.size A2 ys) (h2 : Slb W W.heap.size zA zes) => dbPut_impl A2 ys c2 ⟨zo, zq, zes, zA, zc, zg⟩ W (by omega) (fun x hx => by have := hye x hx; omega) hle h1 h2
      have HP : Hid (putD (datL ys) ⟨zo, zq, zes⟩ = ds ∧ putN (datL ys) ⟨zo, zq, zes⟩ = putC ds ⟨zo, zq, zes⟩) := Lib.hid (by
        unfold putD putN
        rw [hyv, hv2, D2.out]
        exact ⟨ha1, rfl⟩)
      rw [HP.out.1, HP.out.2] at CT
      obtain ⟨m, hm⟩ : ∃ m, putC ds ⟨zo, zq, zes⟩ = m := ⟨_, rfl⟩
      rw [hm] at CT ha2
      have hm' : (m == 0) = false := beq_eq_false_iff_ne.2 ha2
      have hm2 := ha2
      clear hv1 hv2 hnc hdp HCA ha1 HP hm
      go_wp2_with fail
      refine (CM _ Y3.out V3.out).mono ?_
      rintro e w4 ⟨rfl, hb4⟩
      have L4 := Lib.hid (L3.out.call hb4)
      have Y4 := Lib.hid (Y3.out.step hb4)
      have V4 := Lib.hid (V3.out.step hb4)
      clear hb4 L3 Y3 V3 zx x0 x1 x2
      obtain ⟨zx, x0, x1, x2, -, -, -⟩ := L4.out.box.three
      go_wp2_with fail
      refine (CT _ Y4.out L4.out.le).mono ?_
      clear CT
      rintro e w5 ⟨us, A5, c5, rfl, hd5, hz5, hb5⟩
      have L5 := Lib.hid (L4.out.call hb5)
      have Y5 := Lib.hid (Y4.out.step hb5)
      have U5 := Lib.hid (hz5.slz hb5.size)
      have hlen : us.length ≤ 8 := by
        have e1 := congrArg List.length (hd5.trans D2.out.symm)
        simp [datL] at e1
        omega
      have huv : dbB (datL us) = true := by rw [hd5, ← D2.out]; exact hyv
      have hue := (db_short huv).2
      have CD := fun W (h1 : Slz W W.heap.size A5 us) (h2 : Slz W W.heap.size A2 ys) => sameDb_any A5 A2 us ys c5 c2 W (by omega) (fun x hx => by have := hue x hx; omega) h1 h2
      rw [hd5, D2.out, decide_eq_true rfl] at CD
      clear hb5 hz5 L4 Y4 V4 zx x0 x1 x2 hd5 huv
      go_wp2_with fail
      refine (CD _ U5.out Y5.out).mono ?_
      rintro e w6 ⟨rfl, hb6⟩
      have L6 := Lib.hid (L5.out.call hb6)
      clear hb6
      go_wp2_with fail
      go_ret
      exact ⟨ret_bool (by simp [hm2]), L6.out.bel⟩

  · go_enter Try.func9, Try.ntmps9
    go_wp2
    go_ret
    exact ⟨rfl, by (repeat (first | exact Below.refl _ _ | (refine Below.alloc ?_ (by first | exact Nat.le_refl _ | omega | (simp; done) | (simp; omega)) _) | (refine Below.setCell ?_ (by first | exact Nat.le_refl _ | omega | (simp; done) | (simp; omega)) _) | exact Below.drew ‹_›))⟩

end Go.Proofs.Ytimebipgiicmiaa
