/-
  Contracts over this seat: the program's DbPut.
-/
import Derived.Test.YtimebipgiicmiacIl
import Derived.Test.YtimebipgiicmiacZd
import Derived.Handy
namespace Go.Proofs.Ytimebipgiicmiac
open Go.RowKit Go.Maps

theorem findZ_map (zs : List Lz) (o : Int) : (findZ zs o).map Lz.d = getL (datL zs) o := (findZ_get zs o).symm
theorem cmpM_putC {f : Int → Option Lz} {db : List La} (hf : ∀ o, (f o).map Lz.d = getL db o) (z : Lz) : cmpM f z = putC db z.d := by
  have e : getL db z.d.o = (f z.o).map Lz.d := (hf z.o).symm
  unfold cmpM putC
  rw [e]
  cases f z.o with
  | none => rfl
  | some x =>
    dsimp only [Option.map_some]
    repeat' split
    all_goals first | rfl | omega
theorem slM_find {W : World} {B : Nat} {A : Option Addr} {zs : List Lz} (h : Slz W B A zs) (hes : ∀ z ∈ zs, z.es.length ≤ 2000000) : SlM W B (findZ zs) := fun o z hz => by
  obtain ⟨h1, -⟩ := findZ_at hz
  obtain ⟨k, hk⟩ := List.getElem?_of_mem h1
  obtain ⟨b, off, -, -, -, -, -, h2⟩ := h k z hk
  exact ⟨hes z h1, h2⟩
theorem slM_put {W : World} {B : Nat} {f : Int → Option Lz} {z : Lz} (h : SlM W B f) (hz : Slb W B z.A z.es) (hl : z.es.length ≤ 2000000) : SlM W B (putM f z) := fun o x hx => by
  rcases putM_mem hx with rfl | hx
  · exact ⟨hl, hz⟩
  · exact h o x hx

set_option maxRecDepth 100000 in
set_option maxHeartbeats 1600000 in
theorem dbPut_impl (A : Option Addr) (zs : List Lz) (c : Nat) (l : Lz) (w : World) (hm : zs.length ≤ 1000000) (hes : ∀ z ∈ zs, z.es.length ≤ 2000000) (hle : l.es.length ≤ 2000000) (hS : Slz w w.heap.size A zs) (hL : Slb w w.heap.size l.A l.es) :
   Calls Try.prog 35 #[.slice A zs.length c, l.v] w (PutZ (putD (datL zs) l.d) (putN (datL zs) l.d) w) := by
  have S0 := Lib.hid (show ST w l.o l.q l.A l.es.length l.c (w.alloc (.cells #[.int .i64 l.o, .int .i64 l.q, .slice l.A l.es.length l.c] 28)) from ⟨by (repeat (first | exact Below.refl _ _ | (refine Below.alloc ?_ (by first | exact Nat.le_refl _ | omega | (simp; done) | (simp; omega)) _) | (refine Below.setCell ?_ (by first | exact Nat.le_refl _ | omega | (simp; done) | (simp; omega)) _) | exact Below.drew ‹_›)), Box.new w _ _⟩)
  have HS := Lib.hid hS
  have HL := Lib.hid hL
  have CV := fun W (h : Slz W W.heap.size A zs) => dbValid_impl A zs c W (by omega) hes h
  have CL := fun W (h : Slb W W.heap.size l.A l.es) => lsaValid_impl l W hle h
  have HES := Lib.hid hes
  clear hS hL hes
  cases h1 : dbB (datL zs) with
  | false =>
    rw [h1] at CV
    have HP : Hid (putD (datL zs) l.d = [] ∧ putN (datL zs) l.d = 3) := Lib.hid (by unfold putD putN; rw [h1]; exact ⟨rfl, rfl⟩)
    clear h1
    obtain ⟨lo, lq, les, lA, lc, lg⟩ := l
    dsimp only at *
    go_enter Try.func35, Try.ntmps35
    go_wp2_with fail
    refine (CV _ ((HS.out.below S0.out.bel).more S0.out.bel.size)).mono ?_
    rintro e w1 ⟨rfl, hb1⟩
    have S1 := Lib.hid (S0.out.call hb1)
    clear hb1
    have Z1 := Lib.hid (ZI.start w.heap.size w1 S1.out.bel.size)
    go_wp2_with fail
    go_returns
    exact ⟨[], _, 0, by rw [HP.out.2]; rfl, by rw [HP.out.1]; rfl, Z1.out, S1.out.bel.alloc S1.out.bel.size _⟩
  | true =>
    rw [h1] at CV
    cases h2 : laB l.d with
    | false =>
      rw [h2] at CL
      have HP : Hid (putD (datL zs) l.d = [] ∧ putN (datL zs) l.d = 3) := Lib.hid (by unfold putD putN; rw [h1, h2]; exact ⟨rfl, rfl⟩)
      clear h1 h2
      obtain ⟨lo, lq, les, lA, lc, lg⟩ := l
      dsimp only at *
      go_enter Try.func35, Try.ntmps35
      go_wp2_with fail
      refine (CV _ ((HS.out.below S0.out.bel).more S0.out.bel.size)).mono ?_
      rintro e w1 ⟨rfl, hb1⟩
      have S1 := Lib.hid (S0.out.call hb1)
      clear hb1
      obtain ⟨zl, l0, l1, l2, -, -, -⟩ := S1.out.box.three
      go_wp2_with fail
      refine (CL _ ((HL.out.below S1.out.bel).more S1.out.bel.size)).mono ?_
      rintro e w2 ⟨rfl, hb2⟩
      have S2 := Lib.hid (S1.out.call hb2)
      clear hb2
      have Z2 := Lib.hid (ZI.start w.heap.size w2 S2.out.bel.size)
      go_wp2_with fail
      go_returns
      exact ⟨[], _, 0, by rw [HP.out.2]; rfl, by rw [HP.out.1]; rfl, Z2.out, S2.out.bel.alloc S2.out.bel.size _⟩
    | true =>
      rw [h2] at CL
      have HP : Hid (putD (datL zs) l.d = putL (datL zs) l.d ∧ putN (datL zs) l.d = putC (datL zs) l.d) := Lib.hid (by unfold putD putN; rw [h1, h2]; exact ⟨rfl, rfl⟩)
      have CO := fun W (h : Slz W W.heap.size A zs) => databaseOf_any A zs c W (by omega) h1 h
      have HV := Lib.hid h1
      have HW := Lib.hid h2
      have HF := Lib.hid (findZ_map zs)
      have hlo := (laB_rng h2).1
      have hsh := (db_short h1).1
      have hpc := cmpM_putC (f := findZ zs) (db := datL zs) (findZ_map zs) l
      have HPC := Lib.hid hpc
      clear hpc
      clear h1 h2
      obtain ⟨lo, lq, les, lA, lc, lg⟩ := l
      dsimp only at *
      go_enter Try.func35, Try.ntmps35
      go_wp2_with fail
      refine (CV _ ((HS.out.below S0.out.bel).more S0.out.bel.size)).mono ?_
      rintro e w1 ⟨rfl, hb1⟩
      have S1 := Lib.hid (S0.out.call hb1)
      clear hb1
      obtain ⟨zl, l0, l1, l2, -, -, -⟩ := S1.out.box.three
      go_wp2_with fail
      refine (CL _ ((HL.out.below S1.out.bel).more S1.out.bel.size)).mono ?_
      rintro e w2 ⟨rfl, hb2⟩
      have S2 := Lib.hid (S1.out.call hb2)
      clear hb2 zl l0 l1 l2
      obtain ⟨zl, l0, l1, l2, -, -, -⟩ := S2.out.box.three
      go_wp2_with fail
      refine (CO _ ((HS.out.below S2.out.bel).more S2.out.bel.size)).mono ?_
      clear CO
      rintro e w3 ⟨b, rfl, hbb, hm3, hb3⟩
      have S3 := Lib.hid (S2.out.call hb3)
      have M3 := Lib.hid hm3
      have hbw : w.heap.size < b := Nat.lt_of_lt_of_le S2.out.box.lt hbb
      clear hb3 hm3 zl l0 l1 l2 hbb
      obtain ⟨zl, l0, l1, l2, -, -, -⟩ := S3.out.box.three
      go_wp2_with fail
      refine (put_any b zs.length (findZ zs) ⟨lo, lq, les, lA, lc, lg⟩ w3 hlo (by omega) M3.out).mono ?_
      rintro e w4 ⟨rfl, hm4, hg4⟩
      have S4 : Hid (ST w lo lq lA les.length lc w4) := Lib.hid ⟨S3.out.bel.grown hg4 S3.out.bel.size (fun j e => by cases e; omega), (hg4.block _ S3.out.box.lt (fun e => by cases e; omega)).trans S3.out.box⟩
      have M4 := Lib.hid hm4
      clear hm4 hg4 zl l0 l1 l2 S3 M3
      have hbl := M4.out.lt
      have hv := dbB_inv HV.out
      have CX := list_any b (zs.length + 1) (putM (findZ zs) ⟨lo, lq, les, lA, lc, lg⟩) (putL (datL zs) ⟨lo, lq, les⟩) w4 (by omega) (putM_org (findZ_org HV.out) hlo) M4.out (slM_put (slM_find ((HS.out.below S4.out.bel).more S4.out.bel.size) HES.out) ((HL.out.below S4.out.bel).more S4.out.bel.size) hle) (putL_srt hv.2) (fun o => putM_get HF.out hv.2 ⟨lo, lq, les, lA, lc, lg⟩ o)
      clear hv
      go_wp2_with fail
      refine CX.mono ?_
      clear CX
      rintro e w5 ⟨ys, A3, c3, rfl, hd3, hz3, hb3⟩
      have S5 := Lib.hid (S4.out.call hb3)
      have Z5 := Lib.hid hz3
      have D5 := Lib.hid hd3
      clear hb3 hz3 hd3
      go_wp2_with fail
      go_returns
      exact ⟨ys, A3, c3, by rw [HP.out.2, ← HPC.out]; rfl, by rw [HP.out.1]; exact D5.out, Z5.out.down S4.out.bel.size, S5.out.bel⟩

end Go.Proofs.Ytimebipgiicmiac
