/-
  Contracts over this seat: the specification's DbGraph.
-/
import Derived.Test.YtnkohgdfipgdoabZi
namespace Go.Proofs.Ytnkohgdfipgdoab
open Go.RowKit Go.Maps

/-- Whether the announcements make a graph of n nodes. -/
def grB (n : Int) (db : List La) : Bool := inB n 1 8 && dbB db && decide ((graphL db n.toNat).length ≤ 14)

set_option maxRecDepth 100000 in
set_option maxHeartbeats 1600000 in
theorem dbGraph_spec (n : Int) (A : Option Addr) (zs : List Lz) (c : Nat) (w : World) (hm : zs.length ≤ 1000000) (hes : ∀ z ∈ zs, z.es.length ≤ 2000000) (hS : Slz w w.heap.size A zs) :
   Calls Try.prog 23 #[.int .i64 n, .slice A zs.length c] w (if grB n (datL zs) = true then GRes n (graphL (datL zs) n.toNat) true w else GRes 0 [] false w) := by
  have HS := Lib.hid hS
  have CV := fun W (h : Slz W W.heap.size A zs) => dbValid_spec A zs c W (by omega) hes h
  have CI := l6In_any n 1 8
  have HR := Lib.hid (Box.new w 48 #[.int .i64 0, .slice none 0 0])
  have B0 := Lib.hid (show Below w.heap.size w (w.alloc (.cells #[.int .i64 0, .slice none 0 0] 48)) by (repeat (first | exact Below.refl _ _ | (refine Below.alloc ?_ (by first | exact Nat.le_refl _ | omega | (simp; done) | (simp; omega)) _) | (refine Below.setCell ?_ (by first | exact Nat.le_refl _ | omega | (simp; done) | (simp; omega)) _) | exact Below.drew ‹_›)))
  clear hS
  cases hi : inB n 1 8 with
  | false =>
    rw [hi] at CI
    rw [if_neg (by unfold grB; rw [hi]; exact Bool.false_ne_true)]
    clear hi CV
    go_enter Try.func23, Try.ntmps23
    go_wp2_with fail
    refine (CI _).mono ?_
    rintro e w1 ⟨rfl, rfl⟩
    have B1 := B0
    obtain ⟨z1, f0, f1, q0, q1⟩ := HR.out.two
    clear HR B0
    go_wp2_with fail
    refine bodyPost_ret (v := .tuple #[gval 0 none 0 0, .bool false]) (by simp [results, Try.results23, go_sem, f0, f1]) rfl ⟨none, w.heap.size, 0, rfl, Nat.le_refl _, fun h => absurd h (by simp), ?_⟩
    exact B1.out
  | true =>
    rw [hi] at CI
    cases hd : dbB (datL zs) with
    | false =>
      rw [hd] at CV
      rw [if_neg (by unfold grB; rw [hd]; simp)]
      clear hi hd
      go_enter Try.func23, Try.ntmps23
      go_wp2_with fail
      refine (CI _).mono ?_
      rintro e w1 ⟨rfl, rfl⟩
      have B1 := B0
      have R1 := HR
      clear HR B0
      go_wp2_with fail
      refine (CV _ ((HS.out.below B1.out).more B1.out.size)).mono ?_
      rintro e w2 ⟨rfl, hb2⟩
      have B2 := Lib.hid (B1.out.trans (hb2.mono B1.out.size))
      obtain ⟨z1, f0, f1, q0, q1⟩ := (R1.out.below hb2 R1.out.lt).two
      clear hb2 R1 B1
      go_wp2_with fail
      refine bodyPost_ret (v := .tuple #[gval 0 none 0 0, .bool false]) (by simp [results, Try.results23, go_sem, f0, f1]) rfl ⟨none, w.heap.size, 0, rfl, Nat.le_refl _, fun h => absurd h (by simp), ?_⟩
      exact (B2.out.setCell (by simp) _).setCell (by simp) _
    | true =>
      rw [hd] at CV
      have hn : 1 ≤ n ∧ n ≤ 8 := by
        unfold inB at hi
        simpa using hi
      obtain ⟨m, rfl⟩ : ∃ m : Nat, n = (m : Int) := ⟨n.toNat, by omega⟩
      have hm8 : m ≤ 8 := by omega
      have CG := fun W (h : Slz W W.heap.size A zs) => l11graph_any m hm8 A zs c W hm hes h
      have hgv := graphL_gv (dbB_inv hd).1 (m := m) (by omega)
      have hlen : (graphL (datL zs) m).length ≤ 64 := by
        have := topG_len (datL zs) hm8 m
        unfold graphL
        omega
      have CX := fun (A' : Option Addr) (c' : Nat) W (h : Sl W W.heap.size A' (graphL (datL zs) m)) => valid_spec_any (m : Int) A' (graphL (datL zs) m) c' W (by omega) (by omega) h
      rw [hgv] at CX
      have hgr : grB (m : Int) (datL zs) = decide ((graphL (datL zs) m).length ≤ 14) := by
        unfold grB
        rw [hi, hd, Int.toNat_natCast]
        rfl
      rw [hgr, Int.toNat_natCast]
      clear hgv hgr hi hd hes
      generalize graphL (datL zs) m = gl at *
      by_cases h14 : gl.length ≤ 14
      · rw [decide_eq_true h14, if_pos rfl]
        rw [decide_eq_true h14] at CX
        go_enter Try.func23, Try.ntmps23
        go_wp2_with fail
        refine (CI _).mono ?_
        rintro e w1 ⟨rfl, rfl⟩
        have B1 := B0
        have R1 := HR
        clear HR B0
        go_wp2_with fail
        refine (CV _ ((HS.out.below B1.out).more B1.out.size)).mono ?_
        rintro e w2 ⟨rfl, hb2⟩
        have B2 := Lib.hid (B1.out.trans (hb2.mono B1.out.size))
        have R2 := Lib.hid (R1.out.below hb2 R1.out.lt)
        clear hb2 R1 B1
        go_wp2_with fail
        refine (CG w2 ((HS.out.below B2.out).more B2.out.size)).mono ?_
        rintro e w3 ⟨A3, g3, c3, rfl, hg3, ho3, hb3⟩
        have B3 := Lib.hid (B2.out.trans (hb3.mono B2.out.size))
        have R3 := Lib.hid (R2.out.below hb3 R2.out.lt)
        have hz2 := R2.out.lt
        have O3 := Lib.hid (ho3.below ((Below.refl _ _).alloc (Nat.le_refl _) (.cells #[.int .i64 (m : Int), .slice A3 gl.length c3] 48)))
        have R4 := Lib.hid (R3.out.alloc (.cells #[.int .i64 (m : Int), .slice A3 gl.length c3] 48))
        have X4 := Lib.hid (Box.new w3 48 #[.int .i64 (m : Int), .slice A3 gl.length c3])
        have B4 := Lib.hid (B3.out.alloc B3.out.size (.cells #[.int .i64 (m : Int), .slice A3 gl.length c3] 48))
        clear hb3 ho3 R2 B2 CI CV CG HS
        go_wp2_with fail
        refine (CX A3 c3 _ O3.out.sl).mono ?_
        rintro e w5 ⟨rfl, hb5⟩
        have B5 := Lib.hid (B4.out.trans (hb5.mono B4.out.size))
        have O5 := Lib.hid (O3.out.below hb5)
        have RR := R4.out.below hb5 R4.out.lt
        have XX := X4.out.below hb5 X4.out.lt
        clear hb5 B4 O3 R4 X4 CX
        generalize w3.heap.size = ob at *
        obtain ⟨z1, f0, f1, q0, q1⟩ := RR.two
        obtain ⟨z2, e0, e1, p0, p1⟩ := XX.two
        clear RR XX
        go_wp2_with fail
        refine bodyPost_ret (v := .tuple #[gval (m : Int) A3 gl.length c3, .bool true]) (by simp [results, Try.results23, go_sem, f0, f1]) rfl ⟨A3, g3, c3, rfl, by omega, ?_, ?_⟩
        · exact (O5.out.set_far (by dsimp only; omega) _).set_far (by dsimp only; omega) _
        · exact (B5.out.setCell (by simp) _).setCell (by simp) _
      · rw [decide_eq_false h14, if_neg Bool.false_ne_true]
        rw [decide_eq_false h14] at CX
        go_enter Try.func23, Try.ntmps23
        go_wp2_with fail
        refine (CI _).mono ?_
        rintro e w1 ⟨rfl, rfl⟩
        have B1 := B0
        have R1 := HR
        clear HR B0
        go_wp2_with fail
        refine (CV _ ((HS.out.below B1.out).more B1.out.size)).mono ?_
        rintro e w2 ⟨rfl, hb2⟩
        have B2 := Lib.hid (B1.out.trans (hb2.mono B1.out.size))
        have R2 := Lib.hid (R1.out.below hb2 R1.out.lt)
        clear hb2 R1 B1
        go_wp2_with fail
        refine (CG w2 ((HS.out.below B2.out).more B2.out.size)).mono ?_
        rintro e w3 ⟨A3, g3, c3, rfl, hg3, ho3, hb3⟩
        have B3 := Lib.hid (B2.out.trans (hb3.mono B2.out.size))
        have R3 := Lib.hid (R2.out.below hb3 R2.out.lt)
        have hz2 := R2.out.lt
        have O3 := Lib.hid (ho3.below ((Below.refl _ _).alloc (Nat.le_refl _) (.cells #[.int .i64 (m : Int), .slice A3 gl.length c3] 48)))
        have R4 := Lib.hid (R3.out.alloc (.cells #[.int .i64 (m : Int), .slice A3 gl.length c3] 48))
        have X4 := Lib.hid (Box.new w3 48 #[.int .i64 (m : Int), .slice A3 gl.length c3])
        have B4 := Lib.hid (B3.out.alloc B3.out.size (.cells #[.int .i64 (m : Int), .slice A3 gl.length c3] 48))
        clear hb3 ho3 R2 B2 CI CV CG HS
        go_wp2_with fail
        refine (CX A3 c3 _ O3.out.sl).mono ?_
        rintro e w5 ⟨rfl, hb5⟩
        have B5 := Lib.hid (B4.out.trans (hb5.mono B4.out.size))
        have O5 := Lib.hid (O3.out.below hb5)
        have RR := R4.out.below hb5 R4.out.lt
        have XX := X4.out.below hb5 X4.out.lt
        clear hb5 B4 O3 R4 X4 CX
        generalize w3.heap.size = ob at *
        obtain ⟨z1, f0, f1, q0, q1⟩ := RR.two
        obtain ⟨z2, e0, e1, p0, p1⟩ := XX.two
        clear RR XX
        go_wp2_with fail
        refine bodyPost_ret (v := .tuple #[gval 0 none 0 0, .bool false]) (by simp [results, Try.results23, go_sem, f0, f1]) rfl ⟨none, w.heap.size, 0, rfl, Nat.le_refl _, fun h => absurd h (by simp), ?_⟩
        exact (B5.out.setCell (by simp) _).setCell (by simp) _
end Go.Proofs.Ytnkohgdfipgdoab
