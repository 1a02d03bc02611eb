/-
  The walk of FnDbGraphBack over this seat.
-/
import Derived.Test.YtimebipgiicmiacFnLsaOfw
import Derived.Test.YtimebipgiicmiacIg
import Derived.Test.YtimebipgiicmiacAr
namespace Go.Proofs.Ytimebipgiicmiac
open Go.RowKit Go.Maps

theorem Slz.call {w w' : World} {A : Option Addr} {zs : List Lz} (h : Slz w w.heap.size A zs) (hb : Below w.heap.size w w') : Slz w' w'.heap.size A zs := h.grow hb
theorem allT_db {n : Nat} {ls : List Lk} (hg : gvB (n : Int) ls = true) {q : Int} (hq : 1 ≤ q ∧ q ≤ 99) {k : Nat} (hk : k ≤ n) : dbB (allT (n : Int) ls q k) = true :=
  dbB_of (fun x hx => by
    obtain ⟨j, hj, rfl⟩ := allT_mem.1 hx
    exact ofL_valid hg ⟨by omega, by omega⟩ hq) (allT_srt _ _ _ _)

set_option maxRecDepth 100000 in
set_option maxHeartbeats 1600000 in
theorem fnDbGraphBack_walk (A : Option Addr) (len c : Nat) (Am : Option Addr) (len' c' : Nat) (f f' : Nat → Int) (w : World) (hlc : len ≤ c) (hc : c ≤ maxLen) (hB : Byt w w.heap.size A len f) (_hlc' : len' ≤ c') (_hc' : c' ≤ maxLen) (_hB' : Byt w w.heap.size Am len' f') :
   Calls Try.prog 7 #[.slice A len c, .slice Am len' c'] w fun e w' => e = .returned (.bool true) ∧ Below w.heap.size w w' := by
  have HB := Lib.hid hB
  clear hB _hB'
  by_cases hl : len ≤ 1048576 ∧ len' ≤ 1048576
  · obtain ⟨hl, hl'⟩ := hl
    go_enter Try.func7, Try.ntmps7
    go_wp2_with fail
    refine (drawVal_any A len c f w hlc hc HB.out).mono ?_
    rintro e w1 ⟨n, ls, A1, g1, c1, rfl, ⟨hn0, hn1, hls, hg1, ho, hb1⟩⟩
    have hb1a : Below w1.heap.size w1 (w1.alloc (.cells #[.int .i64 n, .slice A1 ls.length c1] 33)) := by (repeat (first | exact Below.refl _ _ | (refine Below.alloc ?_ (by first | exact Nat.le_refl _ | omega | (simp; done) | (simp; omega)) _) | (refine Below.setCell ?_ (by first | exact Nat.le_refl _ | omega | (simp; done) | (simp; omega)) _) | exact Below.drew ‹_›))
    have L1 := Lib.hid (show LO w w1.heap.size n A1 ls c1 _ from ⟨Box.new w1 33 #[.int .i64 n, .slice A1 ls.length c1], (ho.sl.below hb1a).more hb1a.size, hb1.trans (hb1a.mono hb1.size)⟩)
    have CV := fun W (h : Sl W W.heap.size A1 ls) => valid_impl n A1 ls c1 W (by omega) h
    have CS := fun W (h : Sl W W.heap.size A1 ls) => valid_spec_any n A1 ls c1 W (by omega) (by omega) h
    have CI := fun (k q : Int) W (h : Sl W W.heap.size A1 ls) => lsaOf_impl n A1 ls c1 k q W (by omega) h
    have CE := fun (A2 : Option Addr) (c2 : Nat) W (h : Sl W W.heap.size A2 ls) (k : Sl W W.heap.size A1 ls) => sameGraph_same n A2 A1 ls c2 c1 W (by omega) h k
    clear hb1 hb1a ho HB hg1
    cases hv : gvB n ls with
    | false =>
      rw [hv] at CV CS
      clear hv
      go_wp2_with fail
      refine (CV _ L1.out.sl).mono ?_
      rintro e w2 ⟨rfl, hb2⟩
      have L2 := Lib.hid (L1.out.call hb2)
      clear hb2 L1
      generalize w1.heap.size = G at *
      obtain ⟨zg, g0, g1', -, -⟩ := L2.out.gbx.two
      go_wp2_with fail
      refine (CS _ L2.out.sl).mono ?_
      rintro e w3 ⟨rfl, hb3⟩
      have L3 := Lib.hid (L2.out.call hb3)
      clear hb3
      go_wp2_with fail
      go_ret
      exact ⟨ret_bool (by simp), L3.out.bel⟩
    | true =>
      rw [hv] at CV CS
      obtain ⟨hfit, hn1', hn8, hl14⟩ := gvB_fit hv
      obtain ⟨m, rfl⟩ : ∃ m : Nat, n = (m : Int) := ⟨n.toNat, by omega⟩
      have HV := Lib.hid hv
      clear hv hfit
      go_wp2_with fail
      refine (CV _ L1.out.sl).mono ?_
      clear CV
      rintro e w2 ⟨rfl, hb2⟩
      have L2 := Lib.hid (L1.out.call hb2)
      clear hb2 L1
      generalize w1.heap.size = G at *
      obtain ⟨zg, g0, g1', -, -⟩ := L2.out.gbx.two
      go_wp2_with fail
      refine (CS _ L2.out.sl).mono ?_
      clear CS
      rintro e w3 ⟨rfl, hb3⟩
      have L3 := Lib.hid ((L2.out.call hb3).call (W' := w3.alloc (.cells #[] 28)) (by (repeat (first | exact Below.refl _ _ | (refine Below.alloc ?_ (by first | exact Nat.le_refl _ | omega | (simp; done) | (simp; omega)) _) | (refine Below.setCell ?_ (by first | exact Nat.le_refl _ | omega | (simp; done) | (simp; omega)) _) | exact Below.drew ‹_›))))
      clear hb3 L2 zg g0 g1'
      obtain ⟨q, hq⟩ : ∃ q : Int, q = 1 + (len' : Int) % 9 := ⟨_, rfl⟩
      have HQ : Hid (1 ≤ q ∧ q ≤ 99) := Lib.hid (by omega)
      have HQE := Lib.hid hq
      clear hq
      go_wp2_with fail
      go_loopw [9, 8] (fun i v wr => ∃ (k : Nat) (ys : List Lz) (A5 : Option Addr) (c5 : Nat), k ≤ m ∧ i = .int .i64 (k : Int) ∧ v = .slice A5 ys.length c5 ∧ Hid (datL ys = allT (m : Int) ls q k) ∧ Hid (Slz wr wr.heap.size A5 ys) ∧ Hid (LO w G (m : Int) A1 ls c1 wr)) (fun i _ _ => m - (intOf i).toNat)
      case atStart => exact ⟨0, [], _, _, Nat.zero_le _, rfl, rfl, Lib.hid rfl, Lib.hid (fun k x h => by simp at h), L3⟩
      case round =>
        obtain ⟨k, ys, A5, c5, hk, rfl, rfl, HD, Z4, L4⟩ := hrel
        clear L3
        obtain ⟨zg, g0, g1', -, -⟩ := L4.out.gbx.two
        by_cases hlt : k < m
        · have hlti : (k : Int) < (m : Int) := by omega
          go_wp2_with fail
          refine (CI (k : Int) (1 + (len' : Int) % 9) _ L4.out.sl).mono ?_
          clear CI
          rintro e w5 ⟨z, rfl, hd, hin, hb5⟩
          have hob : lofB (m : Int) ls (k : Int) q = true := by
            unfold lofB
            rw [HV.out]
            have := HQ.out
            unfold inB
            simp
            omega
          have hdd : z.d = ofL (m : Int) ls (k : Int) q := by
            rw [hd, ← HQE.out]
            unfold lofL
            rw [hob]
            rfl
          have hlz : z.es.length ≤ 2000000 := by
            have : z.es = ofT (m : Int) ls (k : Int) m := by
              have h1 : z.d.es = (ofL (m : Int) ls (k : Int) q).es := by rw [hdd]
              exact h1
            rw [this]
            have := ofT_len (nn := (m : Int)) (ls := ls) (o := (k : Int)) m
            omega
          have hdb : dbB (datL ys) = true := by rw [HD.out]; exact allT_db HV.out HQ.out hk
          obtain ⟨hy8, hye⟩ := db_short hdb
          have hlv : laB z.d = true := by rw [hdd]; exact ofL_valid HV.out ⟨by omega, by omega⟩ HQ.out
          have HP : Hid (putD (datL ys) z.d = allT (m : Int) ls q (k + 1)) := Lib.hid (by
            unfold putD
            rw [hdb, hlv, HD.out, hdd]
            exact allT_put _ _ _ _)
          have hb5a : Below w5.heap.size w5 (w5.alloc (.cells #[.int .i64 z.o, .int .i64 z.q, .slice z.A z.es.length z.c] 28)) := by (repeat (first | exact Below.refl _ _ | (refine Below.alloc ?_ (by first | exact Nat.le_refl _ | omega | (simp; done) | (simp; omega)) _) | (refine Below.setCell ?_ (by first | exact Nat.le_refl _ | omega | (simp; done) | (simp; omega)) _) | exact Below.drew ‹_›))
          have L5 := Lib.hid ((L4.out.call hb5).call hb5a)
          have Z5 := Lib.hid ((Z4.out.call hb5).call hb5a)
          have Y5 := Lib.hid (LZ.new hin)
          have CP := dbPut_impl A5 ys c5 z (w5.alloc (.cells #[.int .i64 z.o, .int .i64 z.q, .slice z.A z.es.length z.c] 28)) (by omega) (fun y hy => by have := hye y hy; omega) hlz Z5.out Y5.out.le
          rw [HP.out] at CP
          generalize putN (datL ys) z.d = pn at *
          clear hob hdd hlz hdb hy8 hye hlv hb5 hb5a hd hin L4 Z4 zg g0 g1'
          obtain ⟨zo, zq, zes, zA, zc, zg⟩ := z
          dsimp only at *
          go_wp2_with fail
          refine CP.mono ?_
          clear CP
          rintro e w6 ⟨xs, A6, c6, rfl, hdx, hI, hb6⟩
          have L6 := Lib.hid (L5.out.call hb6)
          have Z6 := Lib.hid (hI.slz hb6.size)
          have DX := Lib.hid hdx
          clear hb6 hdx hI L5 Z5 Y5
          go_wp2_with fail
          go_roundw
          case rel => exact ⟨k + 1, xs, A6, c6, hlt, by go_num, rfl, DX, Z6, L6⟩
          case measure => simp [intOf]; omega
        · have hlti : ¬ (k : Int) < (m : Int) := by omega
          obtain rfl : k = m := by omega
          have hdb : dbB (datL ys) = true := by rw [HD.out]; exact allT_db HV.out HQ.out (Nat.le_refl _)
          obtain ⟨hy8, hye⟩ := db_short hdb
          have hgl : graphL (datL ys) k = ls := by rw [HD.out]; exact graph_all HV.out HQ.out
          have CG := dbGraph_impl (k : Int) A5 ys c5 wr (by omega) (fun y hy => by have := hye y hy; omega) Z4.out
          rw [if_pos (by unfold grB; rw [hdb, Int.toNat_natCast, hgl]; unfold inB; simp; omega), Int.toNat_natCast, hgl] at CG
          clear hdb hy8 hye hgl CI
          go_wp2_with fail
          refine CG.mono ?_
          clear CG
          rintro e w7 ⟨A7, g7, c7, rfl, hg7, ho7, hb7⟩
          have hb7a : Below w7.heap.size w7 (w7.alloc (.cells #[.int .i64 (k : Int), .slice A7 ls.length c7] 33)) := by (repeat (first | exact Below.refl _ _ | (refine Below.alloc ?_ (by first | exact Nat.le_refl _ | omega | (simp; done) | (simp; omega)) _) | (refine Below.setCell ?_ (by first | exact Nat.le_refl _ | omega | (simp; done) | (simp; omega)) _) | exact Below.drew ‹_›))
          have M7 := Lib.hid (L4.out.call hb7)
          have L7 := Lib.hid ((L4.out.call hb7).call hb7a)
          have S7 := Lib.hid ((ho7.sl.below hb7a).more hb7a.size)
          clear hb7 hb7a ho7 L4 Z4 zg g0 g1' hg7
          obtain ⟨zg, g0, g1', -, -⟩ := M7.out.gbx.two
          go_wp2_with fail
          refine (CE A7 c7 _ S7.out L7.out.sl).mono ?_
          rintro e w8 ⟨rfl, hb8⟩
          have L8 := Lib.hid (L7.out.call hb8)
          clear hb8
          go_wp2_with fail
          go_ret
          exact ⟨rfl, L8.out.bel⟩
  · rcases Nat.lt_or_ge 1048576 len with h | h
    · go_enter Try.func7, Try.ntmps7
      go_wp2
      go_ret
      exact ⟨rfl, by (repeat (first | exact Below.refl _ _ | (refine Below.alloc ?_ (by first | exact Nat.le_refl _ | omega | (simp; done) | (simp; omega)) _) | (refine Below.setCell ?_ (by first | exact Nat.le_refl _ | omega | (simp; done) | (simp; omega)) _) | exact Below.drew ‹_›))⟩
    · have h' : 1048576 < len' := by omega
      clear hl
      go_enter Try.func7, Try.ntmps7
      go_wp2
      go_ret
      exact ⟨rfl, by (repeat (first | exact Below.refl _ _ | (refine Below.alloc ?_ (by first | exact Nat.le_refl _ | omega | (simp; done) | (simp; omega)) _) | (refine Below.setCell ?_ (by first | exact Nat.le_refl _ | omega | (simp; done) | (simp; omega)) _) | exact Below.drew ‹_›))⟩
end Go.Proofs.Ytimebipgiicmiac
