/-
  Contracts over this seat: DbGraph of lists as long as an exact law takes them; the state of its exact law.
-/
import Derived.Test.YtimebipgiicmiacIg
import Derived.Test.YtimebipgiicmiacEx
import Derived.Test.YtimebipgiicmiacZx
import Derived.Test.YtimebipgiicmiacB1
namespace Go.Proofs.Ytimebipgiicmiac
open Go.RowKit Go.Maps

set_option maxRecDepth 100000 in
set_option maxHeartbeats 1600000 in
theorem dbGraph_specB (n : Int) (A : Option Addr) (zs : List Lz) (c : Nat) (w : World) (hm : zs.length ≤ 1048576) (hes : ∀ z ∈ zs, z.es.length ≤ 2000000) (hS : Slz w w.heap.size A zs) :
   Calls Try.prog 24 #[.int .i64 n, .slice A zs.length c] w (if grB n (datL zs) = true then GRes n (graphL (datL zs) n.toNat) true w else GRes 0 [] false w) := by
  have HS := Lib.hid hS
  have CV := fun W (h : Slz W W.heap.size A zs) => dbValid_spec A zs c W (by omega) hes h
  have CI := l6In_any n 1 8
  have HR := Lib.hid (Box.new w 33 #[.int .i64 0, .slice none 0 0])
  have B0 := Lib.hid (show Below w.heap.size w (w.alloc (.cells #[.int .i64 0, .slice none 0 0] 33)) by (repeat (first | exact Below.refl _ _ | (refine Below.alloc ?_ (by first | exact Nat.le_refl _ | omega | (simp; done) | (simp; omega)) _) | (refine Below.setCell ?_ (by first | exact Nat.le_refl _ | omega | (simp; done) | (simp; omega)) _) | exact Below.drew ‹_›)))
  clear hS
  cases hi : inB n 1 8 with
  | false =>
    rw [hi] at CI
    rw [if_neg (by unfold grB; rw [hi]; exact Bool.false_ne_true)]
    clear hi CV
    go_enter Try.func24, Try.ntmps24
    go_wp2_with fail
    refine (CI _).mono ?_
    rintro e w1 ⟨rfl, rfl⟩
    have B1 := B0
    obtain ⟨z1, f0, f1, q0, q1⟩ := HR.out.two
    clear HR B0
    go_wp2_with fail
    refine bodyPost_ret (v := .tuple #[gval 0 none 0 0, .bool false]) (by simp [results, Try.results24, go_sem, f0, f1]) rfl ⟨none, w.heap.size, 0, rfl, Nat.le_refl _, fun h => absurd h (by simp), ?_⟩
    exact B1.out
  | true =>
    rw [hi] at CI
    cases hd : dbB (datL zs) with
    | false =>
      rw [hd] at CV
      rw [if_neg (by unfold grB; rw [hd]; simp)]
      clear hi hd
      go_enter Try.func24, Try.ntmps24
      go_wp2_with fail
      refine (CI _).mono ?_
      rintro e w1 ⟨rfl, rfl⟩
      have B1 := B0
      have R1 := HR
      clear HR B0
      go_wp2_with fail
      refine (CV _ ((HS.out.below B1.out).more B1.out.size)).mono ?_
      rintro e w2 ⟨rfl, hb2⟩
      have B2 := Lib.hid (B1.out.trans (hb2.mono B1.out.size))
      obtain ⟨z1, f0, f1, q0, q1⟩ := (R1.out.below hb2 R1.out.lt).two
      clear hb2 R1 B1
      go_wp2_with fail
      refine bodyPost_ret (v := .tuple #[gval 0 none 0 0, .bool false]) (by simp [results, Try.results24, go_sem, f0, f1]) rfl ⟨none, w.heap.size, 0, rfl, Nat.le_refl _, fun h => absurd h (by simp), ?_⟩
      exact (B2.out.setCell (by simp) _).setCell (by simp) _
    | true =>
      rw [hd] at CV
      have hn : 1 ≤ n ∧ n ≤ 8 := by
        unfold inB at hi
        simpa using hi
      obtain ⟨m, rfl⟩ : ∃ m : Nat, n = (m : Int) := ⟨n.toNat, by omega⟩
      have hm8 : m ≤ 8 := by omega
      have CG := fun W (h : Slz W W.heap.size A zs) => l11graph_any m hm8 A zs c W (by have := (db_short hd).1; omega) hes h
      have hgv := graphL_gv (dbB_inv hd).1 (m := m) (by omega)
      have hlen : (graphL (datL zs) m).length ≤ 64 := by
        have := topG_len (datL zs) hm8 m
        unfold graphL
        omega
      have CX := fun (A' : Option Addr) (c' : Nat) W (h : Sl W W.heap.size A' (graphL (datL zs) m)) => valid_spec_any (m : Int) A' (graphL (datL zs) m) c' W (by omega) (by omega) h
      rw [hgv] at CX
      have hgr : grB (m : Int) (datL zs) = decide ((graphL (datL zs) m).length ≤ 14) := by
        unfold grB
        rw [hi, hd, Int.toNat_natCast]
        rfl
      rw [hgr, Int.toNat_natCast]
      clear hgv hgr hi hd hes
      generalize graphL (datL zs) m = gl at *
      by_cases h14 : gl.length ≤ 14
      · rw [decide_eq_true h14, if_pos rfl]
        rw [decide_eq_true h14] at CX
        go_enter Try.func24, Try.ntmps24
        go_wp2_with fail
        refine (CI _).mono ?_
        rintro e w1 ⟨rfl, rfl⟩
        have B1 := B0
        have R1 := HR
        clear HR B0
        go_wp2_with fail
        refine (CV _ ((HS.out.below B1.out).more B1.out.size)).mono ?_
        rintro e w2 ⟨rfl, hb2⟩
        have B2 := Lib.hid (B1.out.trans (hb2.mono B1.out.size))
        have R2 := Lib.hid (R1.out.below hb2 R1.out.lt)
        clear hb2 R1 B1
        go_wp2_with fail
        refine (CG w2 ((HS.out.below B2.out).more B2.out.size)).mono ?_
        rintro e w3 ⟨A3, g3, c3, rfl, hg3, ho3, hb3⟩
        have B3 := Lib.hid (B2.out.trans (hb3.mono B2.out.size))
        have R3 := Lib.hid (R2.out.below hb3 R2.out.lt)
        have hz2 := R2.out.lt
        have O3 := Lib.hid (ho3.below ((Below.refl _ _).alloc (Nat.le_refl _) (.cells #[.int .i64 (m : Int), .slice A3 gl.length c3] 33)))
        have R4 := Lib.hid (R3.out.alloc (.cells #[.int .i64 (m : Int), .slice A3 gl.length c3] 33))
        have X4 := Lib.hid (Box.new w3 33 #[.int .i64 (m : Int), .slice A3 gl.length c3])
        have B4 := Lib.hid (B3.out.alloc B3.out.size (.cells #[.int .i64 (m : Int), .slice A3 gl.length c3] 33))
        clear hb3 ho3 R2 B2 CI CV CG HS
        go_wp2_with fail
        refine (CX A3 c3 _ O3.out.sl).mono ?_
        rintro e w5 ⟨rfl, hb5⟩
        have B5 := Lib.hid (B4.out.trans (hb5.mono B4.out.size))
        have O5 := Lib.hid (O3.out.below hb5)
        have RR := R4.out.below hb5 R4.out.lt
        have XX := X4.out.below hb5 X4.out.lt
        clear hb5 B4 O3 R4 X4 CX
        generalize w3.heap.size = ob at *
        obtain ⟨z1, f0, f1, q0, q1⟩ := RR.two
        obtain ⟨z2, e0, e1, p0, p1⟩ := XX.two
        clear RR XX
        go_wp2_with fail
        refine bodyPost_ret (v := .tuple #[gval (m : Int) A3 gl.length c3, .bool true]) (by simp [results, Try.results24, go_sem, f0, f1]) rfl ⟨A3, g3, c3, rfl, by omega, ?_, ?_⟩
        · exact (O5.out.set_far (by dsimp only; omega) _).set_far (by dsimp only; omega) _
        · exact (B5.out.setCell (by simp) _).setCell (by simp) _
      · rw [decide_eq_false h14, if_neg Bool.false_ne_true]
        rw [decide_eq_false h14] at CX
        go_enter Try.func24, Try.ntmps24
        go_wp2_with fail
        refine (CI _).mono ?_
        rintro e w1 ⟨rfl, rfl⟩
        have B1 := B0
        have R1 := HR
        clear HR B0
        go_wp2_with fail
        refine (CV _ ((HS.out.below B1.out).more B1.out.size)).mono ?_
        rintro e w2 ⟨rfl, hb2⟩
        have B2 := Lib.hid (B1.out.trans (hb2.mono B1.out.size))
        have R2 := Lib.hid (R1.out.below hb2 R1.out.lt)
        clear hb2 R1 B1
        go_wp2_with fail
        refine (CG w2 ((HS.out.below B2.out).more B2.out.size)).mono ?_
        rintro e w3 ⟨A3, g3, c3, rfl, hg3, ho3, hb3⟩
        have B3 := Lib.hid (B2.out.trans (hb3.mono B2.out.size))
        have R3 := Lib.hid (R2.out.below hb3 R2.out.lt)
        have hz2 := R2.out.lt
        have O3 := Lib.hid (ho3.below ((Below.refl _ _).alloc (Nat.le_refl _) (.cells #[.int .i64 (m : Int), .slice A3 gl.length c3] 33)))
        have R4 := Lib.hid (R3.out.alloc (.cells #[.int .i64 (m : Int), .slice A3 gl.length c3] 33))
        have X4 := Lib.hid (Box.new w3 33 #[.int .i64 (m : Int), .slice A3 gl.length c3])
        have B4 := Lib.hid (B3.out.alloc B3.out.size (.cells #[.int .i64 (m : Int), .slice A3 gl.length c3] 33))
        clear hb3 ho3 R2 B2 CI CV CG HS
        go_wp2_with fail
        refine (CX A3 c3 _ O3.out.sl).mono ?_
        rintro e w5 ⟨rfl, hb5⟩
        have B5 := Lib.hid (B4.out.trans (hb5.mono B4.out.size))
        have O5 := Lib.hid (O3.out.below hb5)
        have RR := R4.out.below hb5 R4.out.lt
        have XX := X4.out.below hb5 X4.out.lt
        clear hb5 B4 O3 R4 X4 CX
        generalize w3.heap.size = ob at *
        obtain ⟨z1, f0, f1, q0, q1⟩ := RR.two
        obtain ⟨z2, e0, e1, p0, p1⟩ := XX.two
        clear RR XX
        go_wp2_with fail
        refine bodyPost_ret (v := .tuple #[gval 0 none 0 0, .bool false]) (by simp [results, Try.results24, go_sem, f0, f1]) rfl ⟨none, w.heap.size, 0, rfl, Nat.le_refl _, fun h => absurd h (by simp), ?_⟩
        exact (B5.out.setCell (by simp) _).setCell (by simp) _
set_option maxRecDepth 100000 in
set_option maxHeartbeats 1600000 in
theorem dbGraph_implB (n : Int) (A : Option Addr) (zs : List Lz) (c : Nat) (w : World) (hm : zs.length ≤ 1048576) (hes : ∀ z ∈ zs, z.es.length ≤ 2000000) (hS : Slz w w.heap.size A zs) :
   Calls Try.prog 26 #[.int .i64 n, .slice A zs.length c] w (if grB n (datL zs) = true then GRes n (graphL (datL zs) n.toNat) true w else GRes 0 [] false w) := by
  have HS := Lib.hid hS
  have CV := fun W (h : Slz W W.heap.size A zs) => dbValid_impl A zs c W (by omega) hes h
  have HR := Lib.hid (Box.new w 33 #[.int .i64 0, .slice none 0 0])
  have B0 := Lib.hid (show Below w.heap.size w (w.alloc (.cells #[.int .i64 0, .slice none 0 0] 33)) by (repeat (first | exact Below.refl _ _ | (refine Below.alloc ?_ (by first | exact Nat.le_refl _ | omega | (simp; done) | (simp; omega)) _) | (refine Below.setCell ?_ (by first | exact Nat.le_refl _ | omega | (simp; done) | (simp; omega)) _) | exact Below.drew ‹_›)))
  clear hS
  cases hi : inB n 1 8 with
  | false =>
    rw [if_neg (by unfold grB; rw [hi]; exact Bool.false_ne_true)]
    have hn : n < 1 ∨ 8 < n := by
      unfold inB at hi
      simp at hi
      omega
    clear hi CV
    obtain ⟨z1, f0, f1, q0, q1⟩ := HR.out.two
    rcases hn with hn | hn
    · go_enter Try.func26, Try.ntmps26
      go_wp2_with fail
      refine bodyPost_ret (v := .tuple #[gval 0 none 0 0, .bool false]) (by simp [results, Try.results26, go_sem]) rfl ⟨none, w.heap.size, 0, rfl, Nat.le_refl _, fun h => absurd h (by simp), ?_⟩
      exact B0.out
    · have hn' : ¬ n < 1 := by omega
      go_enter Try.func26, Try.ntmps26
      go_wp2_with fail
      refine bodyPost_ret (v := .tuple #[gval 0 none 0 0, .bool false]) (by simp [results, Try.results26, go_sem]) rfl ⟨none, w.heap.size, 0, rfl, Nat.le_refl _, fun h => absurd h (by simp), ?_⟩
      exact B0.out
  | true =>
    have hn : 1 ≤ n ∧ n ≤ 8 := by
      unfold inB at hi
      simpa using hi
    have hn1 : ¬ n < 1 := by omega
    have hn2 : ¬ 8 < n := by omega
    cases hd : dbB (datL zs) with
    | false =>
      rw [hd] at CV
      rw [if_neg (by unfold grB; rw [hd]; simp)]
      clear hi hd
      go_enter Try.func26, Try.ntmps26
      go_wp2_with fail
      refine (CV _ ((HS.out.below B0.out).more B0.out.size)).mono ?_
      rintro e w2 ⟨rfl, hb2⟩
      have B2 := Lib.hid (B0.out.trans (hb2.mono B0.out.size))
      have R2 := Lib.hid (HR.out.below hb2 HR.out.lt)
      clear hb2 HR B0
      obtain ⟨z1, f0, f1, q0, q1⟩ := R2.out.two
      obtain ⟨x0, x1⟩ := ret_two' R2.out (.int .i64 0) (.slice none 0 0)
      go_wp2_with fail
      refine bodyPost_ret (v := .tuple #[gval 0 none 0 0, .bool false]) (by simp [results, Try.results26, go_sem, x0, x1]) rfl ⟨none, w.heap.size, 0, rfl, Nat.le_refl _, fun h => absurd h (by simp), ?_⟩
      exact (B2.out.setCell (by simp) _).setCell (by simp) _
    | true =>
      rw [hd] at CV
      obtain ⟨m, rfl⟩ : ∃ m : Nat, n = (m : Int) := ⟨n.toNat, by omega⟩
      have hm8 : m ≤ 8 := by omega
      have HV := Lib.hid hd
      have CD := fun W (h : Slz W W.heap.size A zs) => databaseOf_any A zs c W (by omega) hd h
      have CL := fun (b : Nat) W (h : OwnM W b zs.length (findZ zs)) (h2 : Slz W W.heap.size A zs) => links_any m hm8 b zs.length (findZ zs) (datL zs) W (fun o => (findZ_map zs o).symm) (dbB_inv hd).1 h (fun o z hz => by
        have hzm := (findZ_at hz).1
        obtain ⟨k, hk⟩ := List.getElem?_of_mem hzm
        obtain ⟨_, _, -, -, -, -, -, h5⟩ := h2 k z hk
        exact ⟨h5, hes z hzm⟩)
      have hlen : (graphL (datL zs) m).length ≤ 64 := by
        have := topG_len (datL zs) hm8 m
        unfold graphL
        omega
      have hgr : grB (m : Int) (datL zs) = decide ((graphL (datL zs) m).length ≤ 14) := by
        unfold grB
        rw [hi, hd, Int.toNat_natCast]
        rfl
      rw [hgr, Int.toNat_natCast]
      clear hgr hi hd hes
      generalize graphL (datL zs) m = gl at *
      by_cases h14 : gl.length ≤ 14
      · have h14' : ¬ (14 : Int) < (gl.length : Int) := by omega
        rw [decide_eq_true h14, if_pos rfl]
        go_enter Try.func26, Try.ntmps26
        go_wp2_with fail
        refine (CV _ ((HS.out.below B0.out).more B0.out.size)).mono ?_
        clear CV
        rintro e w2 ⟨rfl, hb2⟩
        have B2 := Lib.hid (B0.out.trans (hb2.mono B0.out.size))
        have R2 := Lib.hid (HR.out.below hb2 HR.out.lt)
        clear hb2 HR B0
        go_wp2_with fail
        refine (CD _ ((HS.out.below B2.out).more B2.out.size)).mono ?_
        clear CD
        rintro e w3 ⟨b, rfl, hbb, hm3, hb3⟩
        have B3 := Lib.hid (B2.out.trans (hb3.mono B2.out.size))
        have R3 := Lib.hid (R2.out.below hb3 R2.out.lt)
        have M3 := Lib.hid hm3
        clear hb3 hm3 hbb R2 B2
        go_wp2_with fail
        refine (CL b _ M3.out ((HS.out.below B3.out).more B3.out.size)).mono ?_
        clear CL
        rintro e w4 ⟨A4, g4, c4, rfl, hg4, ho4, hb4⟩
        have B4 := Lib.hid (B3.out.trans (hb4.mono B3.out.size))
        have R4 := Lib.hid (R3.out.below hb4 R3.out.lt)
        have hR := R3.out.lt
        have hg : w.heap.size < g4 := by omega
        have O4 := Lib.hid ho4
        clear hb4 ho4 R3 B3 M3
        obtain ⟨z1, f0, f1, q0, q1⟩ := R4.out.two
        obtain ⟨x0, x1⟩ := ret_two' R4.out (.int .i64 (m : Int)) (.slice A4 gl.length c4)
        go_wp2_with fail
        refine bodyPost_ret (v := .tuple #[gval (m : Int) A4 gl.length c4, .bool true]) (by simp [results, Try.results26, go_sem, x0, x1]) rfl ⟨A4, g4, c4, rfl, by omega, ?_, (B4.out.setCell (by simp) _).setCell (by simp) _⟩
        intro h0
        obtain ⟨e, cs, hh, hc⟩ := O4.out h0
        exact ⟨e, cs, (Below.heap_setCell _ ⟨w.heap.size, 1, none⟩ _ g4 (by show g4 ≠ w.heap.size; omega)).trans ((Below.heap_setCell _ ⟨w.heap.size, 0, none⟩ _ g4 (by show g4 ≠ w.heap.size; omega)).trans hh), hc⟩
      · have h14' : (14 : Int) < (gl.length : Int) := by omega
        rw [decide_eq_false h14, if_neg Bool.false_ne_true]
        go_enter Try.func26, Try.ntmps26
        go_wp2_with fail
        refine (CV _ ((HS.out.below B0.out).more B0.out.size)).mono ?_
        clear CV
        rintro e w2 ⟨rfl, hb2⟩
        have B2 := Lib.hid (B0.out.trans (hb2.mono B0.out.size))
        have R2 := Lib.hid (HR.out.below hb2 HR.out.lt)
        clear hb2 HR B0
        go_wp2_with fail
        refine (CD _ ((HS.out.below B2.out).more B2.out.size)).mono ?_
        clear CD
        rintro e w3 ⟨b, rfl, hbb, hm3, hb3⟩
        have B3 := Lib.hid (B2.out.trans (hb3.mono B2.out.size))
        have R3 := Lib.hid (R2.out.below hb3 R2.out.lt)
        have M3 := Lib.hid hm3
        clear hb3 hm3 hbb R2 B2
        go_wp2_with fail
        refine (CL b _ M3.out ((HS.out.below B3.out).more B3.out.size)).mono ?_
        clear CL
        rintro e w4 ⟨A4, g4, c4, rfl, hg4, ho4, hb4⟩
        have B4 := Lib.hid (B3.out.trans (hb4.mono B3.out.size))
        have R4 := Lib.hid (R3.out.below hb4 R3.out.lt)
        have hR := R3.out.lt
        have hg : w.heap.size < g4 := by omega
        have O4 := Lib.hid ho4
        clear hb4 ho4 R3 B3 M3
        obtain ⟨z1, f0, f1, q0, q1⟩ := R4.out.two
        obtain ⟨x0, x1⟩ := ret_two' R4.out (.int .i64 0) (.slice none 0 0)
        go_wp2_with fail
        refine bodyPost_ret (v := .tuple #[gval 0 none 0 0, .bool false]) (by simp [results, Try.results26, go_sem, x0, x1]) rfl ⟨none, w.heap.size, 0, rfl, Nat.le_refl _, fun h => absurd h (by simp), ?_⟩
        exact (B4.out.setCell (by simp) _).setCell (by simp) _

/-- Both answer the same graph, of at most 14 links. -/
theorem dbGraph_both (n : Int) (zs : List Lz) (hm : zs.length ≤ 1048576) (hes : ∀ z ∈ zs, z.es.length ≤ 2000000) : ∃ (m : Int) (rs : List Lk) (ok : Bool), rs.length ≤ 14 ∧
    (∀ (ys : List Lz) (A : Option Addr) (c : Nat) (W : World), datL ys = datL zs → Slz W W.heap.size A ys → Calls Try.prog 26 #[.int .i64 n, .slice A ys.length c] W (GRes m rs ok W)) ∧
    (∀ (ys : List Lz) (A : Option Addr) (c : Nat) (W : World), datL ys = datL zs → Slz W W.heap.size A ys → Calls Try.prog 24 #[.int .i64 n, .slice A ys.length c] W (GRes m rs ok W)) := by
  have hy : ∀ ys : List Lz, datL ys = datL zs → ys.length ≤ 1048576 ∧ ∀ y ∈ ys, y.es.length ≤ 2000000 := fun ys hd => by
    refine ⟨by have := congrArg List.length hd; simp [datL] at this; omega, fun y hy => ?_⟩
    have h1 : y.d ∈ datL ys := List.mem_map.2 ⟨y, hy, rfl⟩
    rw [hd] at h1
    obtain ⟨z, hz, e⟩ := List.mem_map.1 h1
    have : y.es = z.es := congrArg La.es e.symm
    rw [this]
    exact hes z hz
  cases hg : grB n (datL zs) with
  | true =>
    refine ⟨n, graphL (datL zs) n.toNat, true, ?_, fun ys A c W hd h => ?_, fun ys A c W hd h => ?_⟩
    · unfold grB at hg
      simp only [Bool.and_eq_true, decide_eq_true_eq] at hg
      exact hg.2
    · have := dbGraph_implB n A ys c W (hy ys hd).1 (hy ys hd).2 h
      rw [hd, if_pos hg] at this
      exact this
    · have := dbGraph_specB n A ys c W (hy ys hd).1 (hy ys hd).2 h
      rw [hd, if_pos hg] at this
      exact this
  | false =>
    refine ⟨0, [], false, by simp, fun ys A c W hd h => ?_, fun ys A c W hd h => ?_⟩
    · have := dbGraph_implB n A ys c W (hy ys hd).1 (hy ys hd).2 h
      rw [hd, if_neg (by rw [hg]; exact Bool.false_ne_true)] at this
      exact this
    · have := dbGraph_specB n A ys c W (hy ys hd).1 (hy ys hd).2 h
      rw [hd, if_neg (by rw [hg]; exact Bool.false_ne_true)] at this
      exact this

/-- The specification's answer in its box, below block B0. -/
structure PG (B0 T : Nat) (A : Option Addr) (g c : Nat) (m : Int) (rs : List Lk) (W : World) : Prop where
  box : Box W T 33 #[.int .i64 m, .slice A rs.length c]
  own : Own1 W A g rs
  lt : T < B0
  lg : 0 < rs.length → g < B0
theorem PG.b {B0 T g c : Nat} {A : Option Addr} {m : Int} {rs : List Lk} {W W' : World} (h : PG B0 T A g c m rs W) (hb : Below B0 W W') : PG B0 T A g c m rs W' :=
  ⟨h.box.below hb h.lt, fun hp => by
    obtain ⟨e, cs, hh, hc⟩ := h.own hp
    exact ⟨e, cs, (hb.block _ (h.lg hp)).trans hh, hc⟩, h.lt, h.lg⟩
/-- The program's answer in its box, its links (or marks) in block g. -/
structure LG (Y g : Nat) (A : Option Addr) (k c : Nat) (m : Int) (es : List Lk) (W : World) : Prop where
  box : Box W Y 33 #[.int .i64 m, .slice A k c]
  own : Own1 W A g es
section
variable {Y g k c : Nat} {A : Option Addr} {m : Int} {es : List Lk} {W W' : World}
theorem LG.kx {X : Nat → Prop} (h : LG Y g A k c m es W) (hk : Kx X W W') (hx : ∀ i, X i → i ≠ Y ∧ (0 < es.length → i ≠ g)) : LG Y g A k c m es W' :=
  ⟨hk.box h.box (fun e => (hx _ e).1 rfl), fun hp => by
    obtain ⟨e, cs, hh, hc⟩ := h.own hp
    exact ⟨e, cs, (hk.block g (heap_lt hh) (fun e => (hx _ e).2 hp rfl)).trans hh, hc⟩⟩
theorem LG.call (h : LG Y g A k c m es W) (hb : Below W.heap.size W W') : LG Y g A k c m es W' := h.kx (X := fun _ => False) (Kx.of_below hb) (fun _ e => e.elim)
end
theorem KeepO.kx {B B1 : Nat} {W W' : World} (h : KeepO B B1 W W') : Kx (fun i => B ≤ i ∧ i < B1) W W' := ⟨h.os, h.tape, h.output, h.size, fun i hi hx => h.block i hi (by omega)⟩
theorem one_fresh {w : World} {A : Option Addr} {g : Nat} {ls : List Lk} (h : Own1 w A g ls) : ∃ g', Own1 w A g' ls ∧ ((0 < ls.length ∧ g' = g) ∨ g' = w.heap.size) := by
  by_cases hp : 0 < ls.length
  · exact ⟨g, h, .inl ⟨hp, rfl⟩⟩
  · exact ⟨w.heap.size, fun h => absurd h hp, .inr rfl⟩
end Go.Proofs.Ytimebipgiicmiac
