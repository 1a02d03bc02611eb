/-
  Contracts over this seat: the specification's LsaOf.
-/
import Derived.Test.YtimebipgiicmiacZk
namespace Go.Proofs.Ytimebipgiicmiac
open Go.RowKit Go.Maps

def lofB (n : Int) (ls : List Lk) (o q : Int) : Bool := gvB n ls && inB o 0 (n - 1) && inB q 1 99
def lofL (n : Int) (ls : List Lk) (o q : Int) : La := if lofB n ls o q then ofL n ls o q else ⟨0, 0, []⟩
/-- An announcement and a bool: the answer of LsaOf. -/
def LofR (d : La) (ok : Bool) (w : World) (e : Ending) (w' : World) : Prop := ∃ z : Lz, e = .returned (.tuple #[z.v, .bool ok]) ∧ z.d = d ∧ InnZ w' w.heap.size z ∧ Below w.heap.size w w'

set_option maxRecDepth 100000 in
set_option maxHeartbeats 1600000 in
theorem lsaOf_spec (n : Int) (A : Option Addr) (ls : List Lk) (c : Nat) (o q : Int) (w : World) (hm : ls.length ≤ 2000000) (hnu : n ≤ 9223372036854775807) (hS : Sl w w.heap.size A ls) :
   Calls Try.prog 10 #[gval n A ls.length c, .int .i64 o, .int .i64 q] w (LofR (lofL n ls o q) (lofB n ls o q) w) := by
  have HS := Lib.hid hS
  have CV := fun W (h : Sl W W.heap.size A ls) => valid_spec_any n A ls c W hm hnu h
  have CI := fun W => l6In_any q 1 99 W
  have HG := Lib.hid ((Box.new w 33 #[.int .i64 n, .slice A ls.length c]).alloc (.cells #[.int .i64 0, .int .i64 0, .slice none 0 0] 28))
  have R0 := Box.new (w.alloc (.cells #[.int .i64 n, .slice A ls.length c] 33)) 28 #[.int .i64 0, .int .i64 0, .slice none 0 0]
  rw [World.size_alloc] at R0
  have HR := Lib.hid R0
  have B0 := Lib.hid (show Below w.heap.size w ((w.alloc (.cells #[.int .i64 n, .slice A ls.length c] 33)).alloc (.cells #[.int .i64 0, .int .i64 0, .slice none 0 0] 28)) by (repeat (first | exact Below.refl _ _ | (refine Below.alloc ?_ (by first | exact Nat.le_refl _ | omega | (simp; done) | (simp; omega)) _) | (refine Below.setCell ?_ (by first | exact Nat.le_refl _ | omega | (simp; done) | (simp; omega)) _) | exact Below.drew ‹_›)))
  clear hS R0
  cases hv : gvB n ls with
  | false =>
    rw [hv] at CV
    have hb : lofB n ls o q = false := by unfold lofB; rw [hv]; rfl
    have HL : Hid (lofL n ls o q = ⟨0, 0, []⟩) := Lib.hid (by unfold lofL; rw [hb]; rfl)
    rw [hb]
    clear hv hb CI
    go_enter Try.func10, Try.ntmps10
    have R0 := HR
    have K0 := HG
    clear HR HG
    go_wp2_with fail
    refine (CV _ ((HS.out.below B0.out).more B0.out.size)).mono ?_
    rintro e w1 ⟨rfl, hb⟩
    have B1 := Lib.hid (B0.out.trans (hb.mono B0.out.size))
    have R1 := Lib.hid (R0.out.below hb R0.out.lt)
    have K1 := Lib.hid (K0.out.below hb K0.out.lt)
    obtain ⟨z1, e1, f1, -, -⟩ := K1.out.two
    clear hb R0 K0 B0
    obtain ⟨z4, r0, r1, r2, q0, q1, q2⟩ := R1.out.three
    obtain ⟨b4, x0, x1, x2⟩ := ret_three R1.out (.int .i64 0) (.int .i64 0) (.slice none 0 0)
    go_wp2_with fail
    refine bodyPost_ret (v := .tuple #[(⟨0, 0, [], none, 0, w.heap.size⟩ : Lz).v, .bool false]) (by simp [results, Try.results10, go_sem, x0, x1, x2]) rfl ?_
    exact ⟨⟨0, 0, [], none, 0, w.heap.size⟩, rfl, HL.out.symm, ⟨fun h => absurd h (by simp), Nat.le_refl _, Nat.le_refl _⟩, ((B1.out.setCell (p := ⟨w.heap.size + 1, 0, none⟩) (Nat.le_succ _) _).setCell (p := ⟨w.heap.size + 1, 1, none⟩) (Nat.le_succ _) _).setCell (p := ⟨w.heap.size + 1, 2, none⟩) (Nat.le_succ _) _⟩
  | true =>
    rw [hv] at CV
    obtain ⟨hn1, hn8, -⟩ := gvB_n hv
    have CN := fun V W => l1Node_any n V o W hn1 hn8
    cases ho : inB o 0 (n - 1) with
    | false =>
      rw [ho] at CN
      have hb : lofB n ls o q = false := by unfold lofB; rw [ho]; simp
      have HL : Hid (lofL n ls o q = ⟨0, 0, []⟩) := Lib.hid (by unfold lofL; rw [hb]; rfl)
      rw [hb]
      clear hv ho hb CI
      go_enter Try.func10, Try.ntmps10
      have R0 := HR
      have K0 := HG
      clear HR HG
      go_wp2_with fail
      refine (CV _ ((HS.out.below B0.out).more B0.out.size)).mono ?_
      rintro e w1 ⟨rfl, hb⟩
      have B1 := Lib.hid (B0.out.trans (hb.mono B0.out.size))
      have R1 := Lib.hid (R0.out.below hb R0.out.lt)
      have K1 := Lib.hid (K0.out.below hb K0.out.lt)
      obtain ⟨z1, e1, f1, -, -⟩ := K1.out.two
      clear hb R0 K0 B0
      go_wp2_with fail
      refine (CN _ _).mono ?_
      rintro e w2 ⟨rfl, hb⟩
      have B2 := Lib.hid (B1.out.trans (hb.mono B1.out.size))
      have R2 := Lib.hid (R1.out.below hb R1.out.lt)
      have K2 := Lib.hid (K1.out.below hb K1.out.lt)
      obtain ⟨z2, e2, f2, -, -⟩ := K2.out.two
      clear hb R1 K1 B1
      obtain ⟨z4, r0, r1, r2, q0, q1, q2⟩ := R2.out.three
      obtain ⟨b4, x0, x1, x2⟩ := ret_three R2.out (.int .i64 0) (.int .i64 0) (.slice none 0 0)
      go_wp2_with fail
      refine bodyPost_ret (v := .tuple #[(⟨0, 0, [], none, 0, w.heap.size⟩ : Lz).v, .bool false]) (by simp [results, Try.results10, go_sem, x0, x1, x2]) rfl ?_
      exact ⟨⟨0, 0, [], none, 0, w.heap.size⟩, rfl, HL.out.symm, ⟨fun h => absurd h (by simp), Nat.le_refl _, Nat.le_refl _⟩, ((B2.out.setCell (p := ⟨w.heap.size + 1, 0, none⟩) (Nat.le_succ _) _).setCell (p := ⟨w.heap.size + 1, 1, none⟩) (Nat.le_succ _) _).setCell (p := ⟨w.heap.size + 1, 2, none⟩) (Nat.le_succ _) _⟩
    | true =>
      rw [ho] at CN
      cases hq : inB q 1 99 with
      | false =>
        rw [hq] at CI
        have hb : lofB n ls o q = false := by unfold lofB; rw [hq]; simp
        have HL : Hid (lofL n ls o q = ⟨0, 0, []⟩) := Lib.hid (by unfold lofL; rw [hb]; rfl)
        rw [hb]
        clear hv ho hq hb
        go_enter Try.func10, Try.ntmps10
        have R0 := HR
        have K0 := HG
        clear HR HG
        go_wp2_with fail
        refine (CV _ ((HS.out.below B0.out).more B0.out.size)).mono ?_
        rintro e w1 ⟨rfl, hb⟩
        have B1 := Lib.hid (B0.out.trans (hb.mono B0.out.size))
        have R1 := Lib.hid (R0.out.below hb R0.out.lt)
        have K1 := Lib.hid (K0.out.below hb K0.out.lt)
        obtain ⟨z1, e1, f1, -, -⟩ := K1.out.two
        clear hb R0 K0 B0
        go_wp2_with fail
        refine (CN _ _).mono ?_
        rintro e w2 ⟨rfl, hb⟩
        have B2 := Lib.hid (B1.out.trans (hb.mono B1.out.size))
        have R2 := Lib.hid (R1.out.below hb R1.out.lt)
        have K2 := Lib.hid (K1.out.below hb K1.out.lt)
        obtain ⟨z2, e2, f2, -, -⟩ := K2.out.two
        clear hb R1 K1 B1
        go_wp2_with fail
        refine (CI _).mono ?_
        rintro e w3 ⟨rfl, rfl⟩
        obtain ⟨z4, r0, r1, r2, q0, q1, q2⟩ := R2.out.three
        obtain ⟨b4, x0, x1, x2⟩ := ret_three R2.out (.int .i64 0) (.int .i64 0) (.slice none 0 0)
        go_wp2_with fail
        refine bodyPost_ret (v := .tuple #[(⟨0, 0, [], none, 0, w.heap.size⟩ : Lz).v, .bool false]) (by simp [results, Try.results10, go_sem, x0, x1, x2]) rfl ?_
        exact ⟨⟨0, 0, [], none, 0, w.heap.size⟩, rfl, HL.out.symm, ⟨fun h => absurd h (by simp), Nat.le_refl _, Nat.le_refl _⟩, ((B2.out.setCell (p := ⟨w.heap.size + 1, 0, none⟩) (Nat.le_succ _) _).setCell (p := ⟨w.heap.size + 1, 1, none⟩) (Nat.le_succ _) _).setCell (p := ⟨w.heap.size + 1, 2, none⟩) (Nat.le_succ _) _⟩
      | true =>
        rw [hq] at CI
        have hb : lofB n ls o q = true := by unfold lofB; rw [hv, ho, hq]; rfl
        have HL : Hid (lofL n ls o q = ofL n ls o q) := Lib.hid (by unfold lofL; rw [hb]; rfl)
        rw [hb]
        obtain ⟨m, rfl⟩ : ∃ m : Nat, n = (m : Int) := ⟨n.toNat, by omega⟩
        have CO := fun W (h : Sl W W.heap.size A ls) => l11of_any m A ls c o q W (by omega) hv hm h
        clear hv ho hq hb
        go_enter Try.func10, Try.ntmps10
        have R0 := HR
        have K0 := HG
        clear HR HG
        go_wp2_with fail
        refine (CV _ ((HS.out.below B0.out).more B0.out.size)).mono ?_
        rintro e w1 ⟨rfl, hb⟩
        have B1 := Lib.hid (B0.out.trans (hb.mono B0.out.size))
        have R1 := Lib.hid (R0.out.below hb R0.out.lt)
        have K1 := Lib.hid (K0.out.below hb K0.out.lt)
        obtain ⟨z1, e1, f1, -, -⟩ := K1.out.two
        clear hb R0 K0 B0
        go_wp2_with fail
        refine (CN _ _).mono ?_
        rintro e w2 ⟨rfl, hb⟩
        have B2 := Lib.hid (B1.out.trans (hb.mono B1.out.size))
        have R2 := Lib.hid (R1.out.below hb R1.out.lt)
        have K2 := Lib.hid (K1.out.below hb K1.out.lt)
        obtain ⟨z2, e2, f2, -, -⟩ := K2.out.two
        clear hb R1 K1 B1
        go_wp2_with fail
        refine (CI _).mono ?_
        rintro e w3 ⟨rfl, rfl⟩
        go_wp2_with fail
        refine (CO _ ((HS.out.below B2.out).more B2.out.size)).mono ?_
        rintro e w4 ⟨⟨zo, zq, zes, zA, zc, zg⟩, rfl, hd, hI, hb4⟩
        have B4 := Lib.hid (B2.out.trans (hb4.mono B2.out.size))
        have R4 := Lib.hid (R2.out.below hb4 R2.out.lt)
        have hz2 := R2.out.lt
        have HI := Lib.hid hI
        have HD := Lib.hid hd
        clear hb4 hd hI R2 B2 K2
        obtain ⟨z4, r0, r1, r2, q0, q1, q2⟩ := R4.out.three
        obtain ⟨b4, x0, x1, x2⟩ := ret_three R4.out (.int .i64 zo) (.int .i64 zq) (.slice zA zes.length zc)
        go_wp2_with fail
        refine bodyPost_ret (v := .tuple #[(⟨zo, zq, zes, zA, zc, zg⟩ : Lz).v, .bool true]) (by simp [results, Try.results10, go_sem, x0, x1, x2]) rfl ?_
        have hg := HI.out.2.1
        dsimp only at hg
        refine ⟨⟨zo, zq, zes, zA, zc, zg⟩, rfl, by rw [HL.out]; exact HD.out, ⟨((HI.out.1.set_far ?_ _).set_far ?_ _).set_far ?_ _, ?_, HI.out.2.2⟩, ((B4.out.setCell (p := ⟨w.heap.size + 1, 0, none⟩) (Nat.le_succ _) _).setCell (p := ⟨w.heap.size + 1, 1, none⟩) (Nat.le_succ _) _).setCell (p := ⟨w.heap.size + 1, 2, none⟩) (Nat.le_succ _) _⟩
        · show zg ≠ w.heap.size + 1; omega
        · show zg ≠ w.heap.size + 1; omega
        · show zg ≠ w.heap.size + 1; omega
        · show w.heap.size ≤ zg; omega

end Go.Proofs.Ytimebipgiicmiac
