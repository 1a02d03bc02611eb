/-
  The walk of FnExactDbValid over this seat.
-/
import Derived.Test.YtimebipgiicmiaaZx
import Derived.Test.YtimebipgiicmiaaId
namespace Go.Proofs.Ytimebipgiicmiaa
open Go.RowKit Go.Maps

/-- A list that came in. -/
structure LB1 (w : World) (A : Option Addr) (zs : List Lz) (W : World) : Prop where
  sl : Slz W W.heap.size A zs
  bel : Below w.heap.size w W
theorem LB1.call {w w1 w2 : World} {A : Option Addr} {zs : List Lz} (h : LB1 w A zs w1) (hb : Below w1.heap.size w1 w2) : LB1 w A zs w2 := ⟨h.sl.grow hb, h.bel.trans (hb.mono h.bel.size)⟩

set_option maxRecDepth 100000 in
set_option maxHeartbeats 1600000 in
theorem exactDbValid_walk (A : Option Addr) (zs : List Lz) (c : Nat) (w : World) (hmax : zs.length ≤ maxLen) (hmes : ∀ z ∈ zs, z.es.length ≤ maxLen) (hS : Slz w w.heap.size A zs) :
   Calls Try.prog 4 #[.slice A zs.length c] w fun e w' => e = .returned (.bool true) ∧ Below w.heap.size w w' := by
  have L1 := Lib.hid (show LB1 w A zs w from ⟨hS, Below.refl _ _⟩)
  have CZ := fun W (h : Slz W W.heap.size A zs) => szLsaS_any A zs c 1048576 W hmax hmes (by omega) h
  clear hS
  go_enter Try.func4, Try.ntmps4
  go_wp2_with fail
  refine (CZ _ L1.out.sl).mono ?_
  rintro e w1 ⟨r, rfl, hr, hb1⟩
  have L2 := Lib.hid (L1.out.call hb1)
  clear hb1 CZ L1
  rcases hr with rfl | ⟨h0, -, hm, hes, -⟩
  · go_wp2_with fail
    go_ret
    exact ⟨rfl, L2.out.bel⟩
  · have h0' : ¬ r < 0 := by omega
    have hes2 : ∀ z ∈ zs, z.es.length ≤ 2000000 := fun z hz => by have := hes z hz; omega
    have HES : Hid (∀ xs : List Lz, datL xs = datL zs → xs.length ≤ 2000000 ∧ ∀ z ∈ xs, z.es.length ≤ 2000000) := Lib.hid (fun xs hd => same_short2 hd hm hes)
    have CT := fun W (h : Slz W W.heap.size A zs) => toLsaS_any A zs c W (by omega) hes2 h
    clear hes hes2 hm hmes
    go_wp2_with fail
    refine (CT _ L2.out.sl).mono ?_
    rintro e w3 ⟨xs, X3, c3, rfl, hd3, hz3, hb3⟩
    have L3 := Lib.hid (L2.out.call hb3)
    have CS := dbValid_spec X3 xs c3 w3 (HES.out _ hd3).1 (HES.out _ hd3).2 (hz3.slz hb3.size)
    rw [hd3] at CS
    clear hz3 hb3 L2 hd3
    obtain ⟨b, hb⟩ : ∃ b, dbB (datL zs) = b := ⟨_, rfl⟩
    rw [hb] at CS
    go_wp2_with fail
    refine CS.mono ?_
    clear CS
    rintro e w4 ⟨rfl, hb4⟩
    have L4 := Lib.hid (L3.out.call hb4)
    clear hb4 L3
    go_wp2_with fail
    refine (CT _ L4.out.sl).mono ?_
    rintro e w5 ⟨xs, X5, c5, rfl, hd5, hz5, hb5⟩
    have L5 := Lib.hid (L4.out.call hb5)
    have S5 := Lib.hid (hz5.slz hb5.size)
    have CI := fun W (h : Slz W W.heap.size X5 xs) => dbValid_impl X5 xs c5 W (HES.out _ hd5).1 (HES.out _ hd5).2 h
    rw [hd5, hb] at CI
    have CE := fun (Y : Option Addr) (ys : List Lz) (cy : Nat) W (hd : datL ys = datL zs) (h1 : Slz W W.heap.size X5 xs) (h2 : Slz W W.heap.size Y ys) => eqLsaS_same X5 Y xs ys c5 cy W (hd5.trans hd.symm) (HES.out _ hd5).1 (HES.out _ hd5).2 h1 h2
    clear hz5 hb5 L4 hb hd5
    go_wp2_with fail
    refine (CI _ S5.out).mono ?_
    clear CI
    rintro e w7 ⟨rfl, hb7⟩
    have L7 := Lib.hid (L5.out.call hb7)
    have S7 := Lib.hid (S5.out.grow hb7)
    clear hb7 L5 S5
    have hbb : (b != b) = false := by cases b <;> rfl
    go_wp2_with fail
    refine (CT _ L7.out.sl).mono ?_
    rintro e w8 ⟨ys, Y8, c8, rfl, hd8, hz8, hb8⟩
    have L8 := Lib.hid (L7.out.call hb8)
    have CE := CE Y8 ys c8 w8 hd8 (S7.out.grow hb8) (hz8.slz hb8.size)
    clear hz8 hb8 L7 S7 hd8
    go_wp2_with fail
    refine CE.mono ?_
    rintro e w9 ⟨rfl, hb9⟩
    have L9 := Lib.hid (L8.out.call hb9)
    clear hb9
    go_wp2_with fail
    go_ret
    exact ⟨rfl, L9.out.bel⟩

end Go.Proofs.Ytimebipgiicmiaa
