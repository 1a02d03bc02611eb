/-
  Contracts over this seat: AdjacencySync, of the program and of the specification.
-/
import Derived.Test.YtnkohgdfipgdoabF1
import Derived.Test.YtnkohgdfipgdoabBg
import Derived.Test.YtnkohgdfipgdoabZt
namespace Go.Proofs.Ytnkohgdfipgdoab
open Go.RowKit Go.Maps

def syncB (s g : Int) (db other : List La) : Bool := adjB s g && dbB db && dbB other
/-- What AdjacencySync answers. -/
def syncA (s g : Int) (db other : List La) : Int × Int := if syncB s g db other then (if missD db other = [] ∧ missD other db = [] then onA 4 s g else onA 3 s g) else (0, 0)
theorem sync_not {s g : Int} {db other : List La} (h : syncB s g db other = false) : syncA s g db other = (0, 0) := by unfold syncA; rw [h]; rfl
theorem sync_same {s g : Int} {db other : List La} (h : syncB s g db other = true) (h1 : missD db other = []) (h2 : missD other db = []) : syncA s g db other = onA 4 s g := by unfold syncA; rw [h, if_pos rfl, if_pos ⟨h1, h2⟩]
theorem sync_less {s g : Int} {db other : List La} (h : syncB s g db other = true) (h1 : ¬ (missD db other = [] ∧ missD other db = [])) : syncA s g db other = onA 3 s g := by unfold syncA; rw [h, if_pos rfl, if_neg h1]
theorem onA_three (s g : Int) : onA 3 s g = if s = 3 then (2, g) else (s, g) := rfl
theorem onA_four (s g : Int) : onA 4 s g = if s = 2 then (3, g) else (s, g) := rfl

set_option maxHeartbeats 4000000 in
theorem sync_impl (s g : Int) (A : Option Addr) (zs : List Lz) (c : Nat) (B : Option Addr) (os : List Lz) (cb : Nat) (w : World) (hm : zs.length ≤ 1048576) (hes : ∀ z ∈ zs, z.es.length ≤ 2000000) (hmo : os.length ≤ 1048576) (hoe : ∀ z ∈ os, z.es.length ≤ 2000000) (hS : Slz w w.heap.size A zs) (hO : Slz w w.heap.size B os) :
   Calls Try.prog 13 #[adjV s g, .slice A zs.length c, .slice B os.length cb] w fun e w' => e = .returned (adjV (syncA s g (datL zs) (datL os)).1 (syncA s g (datL zs) (datL os)).2) ∧ Below w.heap.size w w' := by
  have S0 := Lib.hid (AB.start w s g)
  have HS := Lib.hid hS
  have HO := Lib.hid hO
  have CV := fun W => adjValid_impl s g W
  have CZ := fun W (h : Slz W W.heap.size A zs) => dbValid_impl A zs c W (by omega) hes h
  have CW := fun W (h : Slz W W.heap.size B os) => dbValid_impl B os cb W (by omega) hoe h
  have CX := fun W (h1 : Slz W W.heap.size A zs) (h2 : Slz W W.heap.size B os) => dbMissing_implB A zs c B os cb W (by omega) hes (by omega) hoe h1 h2
  have CY := fun W (h1 : Slz W W.heap.size B os) (h2 : Slz W W.heap.size A zs) => dbMissing_implB B os cb A zs c W (by omega) hoe (by omega) hes h1 h2
  clear hS hO hes hoe
  cases h1 : adjB s g with
  | false =>
    have hb : syncB s g (datL zs) (datL os) = false := by unfold syncB; rw [h1]; rfl
    rw [h1] at CV
    rw [sync_not hb]
    clear hb h1 CZ CW CX CY
    go_enter Try.func13, Try.ntmps13
    go_wp2_with fail
    refine (CV _).mono ?_
    rintro e w1 ⟨rfl, hb1⟩
    have S1 := Lib.hid (S0.out.call hb1)
    clear hb1 S0
    obtain ⟨z0, a0, a1, z1, r0, r1, q0, q1⟩ := S1.out.six
    have SF := Lib.hid (S1.out.set 0 0)
    obtain ⟨-, -, -, y1, y2, y3, -, -⟩ := SF.out.six
    go_wp2_with fail
    refine bodyPost_ret (v := adjV 0 0) (by simp [results, Try.results13, go_sem, y2, y3]) rfl ⟨rfl, SF.out.bel⟩
  | true =>
    rw [h1] at CV
    cases h2 : dbB (datL zs) with
    | false =>
      have hb : syncB s g (datL zs) (datL os) = false := by unfold syncB; rw [h2]; simp
      rw [h2] at CZ
      rw [sync_not hb]
      clear hb h1 h2 CW CX CY
      go_enter Try.func13, Try.ntmps13
      go_wp2_with fail
      refine (CV _).mono ?_
      rintro e w1 ⟨rfl, hb1⟩
      have S1 := Lib.hid (S0.out.call hb1)
      clear hb1 S0
      go_wp2_with fail
      refine (CZ _ ((HS.out.below S1.out.bel).more S1.out.bel.size)).mono ?_
      rintro e w2 ⟨rfl, hb2⟩
      have S2 := Lib.hid (S1.out.call hb2)
      clear hb2 S1
      obtain ⟨z0, a0, a1, z1, r0, r1, q0, q1⟩ := S2.out.six
      have SF := Lib.hid (S2.out.set 0 0)
      obtain ⟨-, -, -, y1, y2, y3, -, -⟩ := SF.out.six
      go_wp2_with fail
      refine bodyPost_ret (v := adjV 0 0) (by simp [results, Try.results13, go_sem, y2, y3]) rfl ⟨rfl, SF.out.bel⟩
    | true =>
      rw [h2] at CZ
      cases h3 : dbB (datL os) with
      | false =>
        have hb : syncB s g (datL zs) (datL os) = false := by unfold syncB; rw [h3]; simp
        rw [h3] at CW
        rw [sync_not hb]
        clear hb h1 h2 h3 CX CY
        go_enter Try.func13, Try.ntmps13
        go_wp2_with fail
        refine (CV _).mono ?_
        rintro e w1 ⟨rfl, hb1⟩
        have S1 := Lib.hid (S0.out.call hb1)
        clear hb1 S0
        go_wp2_with fail
        refine (CZ _ ((HS.out.below S1.out.bel).more S1.out.bel.size)).mono ?_
        rintro e w2 ⟨rfl, hb2⟩
        have S2 := Lib.hid (S1.out.call hb2)
        clear hb2 S1
        go_wp2_with fail
        refine (CW _ ((HO.out.below S2.out.bel).more S2.out.bel.size)).mono ?_
        rintro e w3 ⟨rfl, hb3⟩
        have S3 := Lib.hid (S2.out.call hb3)
        clear hb3 S2
        obtain ⟨z0, a0, a1, z1, r0, r1, q0, q1⟩ := S3.out.six
        have SF := Lib.hid (S3.out.set 0 0)
        obtain ⟨-, -, -, y1, y2, y3, -, -⟩ := SF.out.six
        go_wp2_with fail
        refine bodyPost_ret (v := adjV 0 0) (by simp [results, Try.results13, go_sem, y2, y3]) rfl ⟨rfl, SF.out.bel⟩
      | true =>
        rw [h3] at CW
        have hb : syncB s g (datL zs) (datL os) = true := by unfold syncB; rw [h1, h2, h3]; rfl
        obtain ⟨n, rfl, hn, hg0, hg3, -⟩ := adjB_cases h1
        have CO3 := fun W => on_any 3 n g W (by omega) hn hg0 hg3
        have CO4 := fun W => on_any 4 n g W (by omega) hn hg0 hg3
        clear h1 h2 h3
        by_cases hx : missD (datL zs) (datL os) = []
        · by_cases hy : missD (datL os) (datL zs) = []
          · rw [sync_same hb hx hy]
            rw [hx] at CX
            rw [hy] at CY
            have CO := CO4
            clear hb hx hy CO3 CO4
            generalize onA 4 (n : Int) g = r at *
            obtain ⟨u, v⟩ := r
            go_enter Try.func13, Try.ntmps13
            go_wp2_with fail
            refine (CV _).mono ?_
            rintro e w1 ⟨rfl, hb1⟩
            have S1 := Lib.hid (S0.out.call hb1)
            clear hb1 S0
            go_wp2_with fail
            refine (CZ _ ((HS.out.below S1.out.bel).more S1.out.bel.size)).mono ?_
            rintro e w2 ⟨rfl, hb2⟩
            have S2 := Lib.hid (S1.out.call hb2)
            clear hb2 S1
            go_wp2_with fail
            refine (CW _ ((HO.out.below S2.out.bel).more S2.out.bel.size)).mono ?_
            rintro e w3 ⟨rfl, hb3⟩
            have S3 := Lib.hid (S2.out.call hb3)
            clear hb3 S2
            go_wp2_with fail
            refine (CX _ ((HS.out.below S3.out.bel).more S3.out.bel.size) ((HO.out.below S3.out.bel).more S3.out.bel.size)).mono ?_
            rintro e w4 ⟨Am4, gm4, cm4, rfl, -, -, hb4⟩
            have S4 := Lib.hid (S3.out.call hb4)
            clear hb4 S3
            go_wp2_with fail
            refine (CY _ ((HO.out.below S4.out.bel).more S4.out.bel.size) ((HS.out.below S4.out.bel).more S4.out.bel.size)).mono ?_
            rintro e w5 ⟨Am5, gm5, cm5, rfl, -, -, hb5⟩
            have S5 := Lib.hid (S4.out.call hb5)
            clear hb5 S4
            obtain ⟨z0, a0, a1, z1, r0, r1, q0, q1⟩ := S5.out.six
            go_wp2_with fail
            refine (CO _).mono ?_
            rintro e w6 ⟨rfl, hb6⟩
            have S6 := Lib.hid (S5.out.call hb6)
            clear hb6 S5 z0 a0 a1 z1 r0 r1 q0 q1
            obtain ⟨z0, a0, a1, z1, r0, r1, q0, q1⟩ := S6.out.six
            have SF := Lib.hid (S6.out.set u v)
            obtain ⟨-, -, -, y1, y2, y3, -, -⟩ := SF.out.six
            go_wp2_with fail
            refine bodyPost_ret (v := adjV u v) (by simp [results, Try.results13, go_sem, y2, y3]) rfl ⟨rfl, SF.out.bel⟩
          · rw [sync_less hb (fun h => hy h.2)]
            rw [hx] at CX
            generalize missD (datL os) (datL zs) = ys at *
            obtain ⟨x0, xr, rfl⟩ := List.exists_cons_of_ne_nil hy
            have CO := CO3
            clear hb hx hy CO3 CO4
            generalize onA 3 (n : Int) g = r at *
            obtain ⟨u, v⟩ := r
            go_enter Try.func13, Try.ntmps13
            go_wp2_with fail
            refine (CV _).mono ?_
            rintro e w1 ⟨rfl, hb1⟩
            have S1 := Lib.hid (S0.out.call hb1)
            clear hb1 S0
            go_wp2_with fail
            refine (CZ _ ((HS.out.below S1.out.bel).more S1.out.bel.size)).mono ?_
            rintro e w2 ⟨rfl, hb2⟩
            have S2 := Lib.hid (S1.out.call hb2)
            clear hb2 S1
            go_wp2_with fail
            refine (CW _ ((HO.out.below S2.out.bel).more S2.out.bel.size)).mono ?_
            rintro e w3 ⟨rfl, hb3⟩
            have S3 := Lib.hid (S2.out.call hb3)
            clear hb3 S2
            go_wp2_with fail
            refine (CX _ ((HS.out.below S3.out.bel).more S3.out.bel.size) ((HO.out.below S3.out.bel).more S3.out.bel.size)).mono ?_
            rintro e w4 ⟨Am4, gm4, cm4, rfl, -, -, hb4⟩
            have S4 := Lib.hid (S3.out.call hb4)
            clear hb4 S3
            go_wp2_with fail
            refine (CY _ ((HO.out.below S4.out.bel).more S4.out.bel.size) ((HS.out.below S4.out.bel).more S4.out.bel.size)).mono ?_
            rintro e w5 ⟨Am5, gm5, cm5, rfl, -, -, hb5⟩
            have S5 := Lib.hid (S4.out.call hb5)
            clear hb5 S4
            obtain ⟨z0, a0, a1, z1, r0, r1, q0, q1⟩ := S5.out.six
            go_wp2_with fail
            refine (CO _).mono ?_
            rintro e w6 ⟨rfl, hb6⟩
            have S6 := Lib.hid (S5.out.call hb6)
            clear hb6 S5 z0 a0 a1 z1 r0 r1 q0 q1
            obtain ⟨z0, a0, a1, z1, r0, r1, q0, q1⟩ := S6.out.six
            have SF := Lib.hid (S6.out.set u v)
            obtain ⟨-, -, -, y1, y2, y3, -, -⟩ := SF.out.six
            go_wp2_with fail
            refine bodyPost_ret (v := adjV u v) (by simp [results, Try.results13, go_sem, y2, y3]) rfl ⟨rfl, SF.out.bel⟩
        · rw [sync_less hb (fun h => hx h.1)]
          generalize missD (datL zs) (datL os) = xs at *
          obtain ⟨x0, xr, rfl⟩ := List.exists_cons_of_ne_nil hx
          have CO := CO3
          clear hb hx CO3 CO4 CY
          generalize onA 3 (n : Int) g = r at *
          obtain ⟨u, v⟩ := r
          go_enter Try.func13, Try.ntmps13
          go_wp2_with fail
          refine (CV _).mono ?_
          rintro e w1 ⟨rfl, hb1⟩
          have S1 := Lib.hid (S0.out.call hb1)
          clear hb1 S0
          go_wp2_with fail
          refine (CZ _ ((HS.out.below S1.out.bel).more S1.out.bel.size)).mono ?_
          rintro e w2 ⟨rfl, hb2⟩
          have S2 := Lib.hid (S1.out.call hb2)
          clear hb2 S1
          go_wp2_with fail
          refine (CW _ ((HO.out.below S2.out.bel).more S2.out.bel.size)).mono ?_
          rintro e w3 ⟨rfl, hb3⟩
          have S3 := Lib.hid (S2.out.call hb3)
          clear hb3 S2
          go_wp2_with fail
          refine (CX _ ((HS.out.below S3.out.bel).more S3.out.bel.size) ((HO.out.below S3.out.bel).more S3.out.bel.size)).mono ?_
          rintro e w4 ⟨Am4, gm4, cm4, rfl, -, -, hb4⟩
          have S4 := Lib.hid (S3.out.call hb4)
          clear hb4 S3
          obtain ⟨z0, a0, a1, z1, r0, r1, q0, q1⟩ := S4.out.six
          go_wp2_with fail
          refine (CO _).mono ?_
          rintro e w5 ⟨rfl, hb5⟩
          have S5 := Lib.hid (S4.out.call hb5)
          clear hb5 S4 z0 a0 a1 z1 r0 r1 q0 q1
          obtain ⟨z0, a0, a1, z1, r0, r1, q0, q1⟩ := S5.out.six
          have SF := Lib.hid (S5.out.set u v)
          obtain ⟨-, -, -, y1, y2, y3, -, -⟩ := SF.out.six
          go_wp2_with fail
          refine bodyPost_ret (v := adjV u v) (by simp [results, Try.results13, go_sem, y2, y3]) rfl ⟨rfl, SF.out.bel⟩

set_option maxHeartbeats 4000000 in
theorem sync_spec (s g : Int) (A : Option Addr) (zs : List Lz) (c : Nat) (B : Option Addr) (os : List Lz) (cb : Nat) (w : World) (hm : zs.length ≤ 1048576) (hes : ∀ z ∈ zs, z.es.length ≤ 2000000) (hmo : os.length ≤ 1048576) (hoe : ∀ z ∈ os, z.es.length ≤ 2000000) (hS : Slz w w.heap.size A zs) (hO : Slz w w.heap.size B os) :
   Calls Try.prog 10 #[adjV s g, .slice A zs.length c, .slice B os.length cb] w fun e w' => e = .returned (adjV (syncA s g (datL zs) (datL os)).1 (syncA s g (datL zs) (datL os)).2) ∧ Below w.heap.size w w' := by
  have S0 := Lib.hid (AB.start w s g)
  have HS := Lib.hid hS
  have HO := Lib.hid hO
  have CV := fun W => adjValid_spec s g W
  have CZ := fun W (h : Slz W W.heap.size A zs) => dbValid_spec A zs c W (by omega) hes h
  have CW := fun W (h : Slz W W.heap.size B os) => dbValid_spec B os cb W (by omega) hoe h
  have CX := fun W (h1 : Slz W W.heap.size A zs) (h2 : Slz W W.heap.size B os) => dbMissing_specB A zs c B os cb W (by omega) hes (by omega) hoe h1 h2
  have CY := fun W (h1 : Slz W W.heap.size B os) (h2 : Slz W W.heap.size A zs) => dbMissing_specB B os cb A zs c W (by omega) hoe (by omega) hes h1 h2
  clear hS hO hes hoe
  cases h1 : adjB s g with
  | false =>
    have hb : syncB s g (datL zs) (datL os) = false := by unfold syncB; rw [h1]; rfl
    rw [h1] at CV
    rw [sync_not hb]
    clear hb h1 CZ CW CX CY
    go_enter Try.func10, Try.ntmps10
    go_wp2_with fail
    refine (CV _).mono ?_
    rintro e w1 ⟨rfl, hb1⟩
    have S1 := Lib.hid (S0.out.call hb1)
    clear hb1 S0
    obtain ⟨z0, a0, a1, z1, r0, r1, q0, q1⟩ := S1.out.six
    have SF := Lib.hid (S1.out.set 0 0)
    obtain ⟨-, -, -, y1, y2, y3, -, -⟩ := SF.out.six
    go_wp2_with fail
    refine bodyPost_ret (v := adjV 0 0) (by simp [results, Try.results10, go_sem, y2, y3]) rfl ⟨rfl, SF.out.bel⟩
  | true =>
    rw [h1] at CV
    cases h2 : dbB (datL zs) with
    | false =>
      have hb : syncB s g (datL zs) (datL os) = false := by unfold syncB; rw [h2]; simp
      rw [h2] at CZ
      rw [sync_not hb]
      clear hb h1 h2 CW CX CY
      go_enter Try.func10, Try.ntmps10
      go_wp2_with fail
      refine (CV _).mono ?_
      rintro e w1 ⟨rfl, hb1⟩
      have S1 := Lib.hid (S0.out.call hb1)
      clear hb1 S0
      go_wp2_with fail
      refine (CZ _ ((HS.out.below S1.out.bel).more S1.out.bel.size)).mono ?_
      rintro e w2 ⟨rfl, hb2⟩
      have S2 := Lib.hid (S1.out.call hb2)
      clear hb2 S1
      obtain ⟨z0, a0, a1, z1, r0, r1, q0, q1⟩ := S2.out.six
      have SF := Lib.hid (S2.out.set 0 0)
      obtain ⟨-, -, -, y1, y2, y3, -, -⟩ := SF.out.six
      go_wp2_with fail
      refine bodyPost_ret (v := adjV 0 0) (by simp [results, Try.results10, go_sem, y2, y3]) rfl ⟨rfl, SF.out.bel⟩
    | true =>
      rw [h2] at CZ
      cases h3 : dbB (datL os) with
      | false =>
        have hb : syncB s g (datL zs) (datL os) = false := by unfold syncB; rw [h3]; simp
        rw [h3] at CW
        rw [sync_not hb]
        clear hb h1 h2 h3 CX CY
        go_enter Try.func10, Try.ntmps10
        go_wp2_with fail
        refine (CV _).mono ?_
        rintro e w1 ⟨rfl, hb1⟩
        have S1 := Lib.hid (S0.out.call hb1)
        clear hb1 S0
        go_wp2_with fail
        refine (CZ _ ((HS.out.below S1.out.bel).more S1.out.bel.size)).mono ?_
        rintro e w2 ⟨rfl, hb2⟩
        have S2 := Lib.hid (S1.out.call hb2)
        clear hb2 S1
        go_wp2_with fail
        refine (CW _ ((HO.out.below S2.out.bel).more S2.out.bel.size)).mono ?_
        rintro e w3 ⟨rfl, hb3⟩
        have S3 := Lib.hid (S2.out.call hb3)
        clear hb3 S2
        obtain ⟨z0, a0, a1, z1, r0, r1, q0, q1⟩ := S3.out.six
        have SF := Lib.hid (S3.out.set 0 0)
        obtain ⟨-, -, -, y1, y2, y3, -, -⟩ := SF.out.six
        go_wp2_with fail
        refine bodyPost_ret (v := adjV 0 0) (by simp [results, Try.results10, go_sem, y2, y3]) rfl ⟨rfl, SF.out.bel⟩
      | true =>
        rw [h3] at CW
        have hb : syncB s g (datL zs) (datL os) = true := by unfold syncB; rw [h1, h2, h3]; rfl
        obtain ⟨n, rfl, hn, hg0, hg3, -⟩ := adjB_cases h1
        have CO3 := fun W => on_any 3 n g W (by omega) hn hg0 hg3
        have CO4 := fun W => on_any 4 n g W (by omega) hn hg0 hg3
        clear h1 h2 h3
        by_cases hs2 : n < 2
        · have hs2' : (n : Int) < 2 := by omega
          have hr : syncA (n : Int) g (datL zs) (datL os) = ((n : Int), g) := by
            unfold syncA
            rw [hb, if_pos rfl, onA_three, onA_four, if_neg (show ¬ (n : Int) = 2 by omega), if_neg (show ¬ (n : Int) = 3 by omega)]
            split <;> rfl
          rw [hr]
          clear hb hr CO3 CO4 CX CY
          go_enter Try.func10, Try.ntmps10
          go_wp2_with fail
          refine (CV _).mono ?_
          rintro e w1 ⟨rfl, hb1⟩
          have S1 := Lib.hid (S0.out.call hb1)
          clear hb1 S0
          go_wp2_with fail
          refine (CZ _ ((HS.out.below S1.out.bel).more S1.out.bel.size)).mono ?_
          rintro e w2 ⟨rfl, hb2⟩
          have S2 := Lib.hid (S1.out.call hb2)
          clear hb2 S1
          go_wp2_with fail
          refine (CW _ ((HO.out.below S2.out.bel).more S2.out.bel.size)).mono ?_
          rintro e w3 ⟨rfl, hb3⟩
          have S3 := Lib.hid (S2.out.call hb3)
          clear hb3 S2
          obtain ⟨z0, a0, a1, z1, r0, r1, q0, q1⟩ := S3.out.six
          have SF := Lib.hid (S3.out.set n g)
          obtain ⟨-, -, -, y1, y2, y3, -, -⟩ := SF.out.six
          go_wp2_with fail
          refine bodyPost_ret (v := adjV n g) (by simp [results, Try.results10, go_sem, y2, y3]) rfl ⟨rfl, SF.out.bel⟩
        · have hs2' : ¬ (n : Int) < 2 := by omega
          by_cases hx : missD (datL zs) (datL os) = []
          · by_cases hy : missD (datL os) (datL zs) = []
            · have hr : syncA (n : Int) g (datL zs) (datL os) = (3, g) := by
                rw [sync_same hb hx hy, onA_four]
                split
                · rfl
                · rw [show (n : Int) = 3 by omega]
              rw [hr]
              rw [hx] at CX
              rw [hy] at CY
              clear hb hx hy CO3 CO4 hr
              go_enter Try.func10, Try.ntmps10
              go_wp2_with fail
              refine (CV _).mono ?_
              rintro e w1 ⟨rfl, hb1⟩
              have S1 := Lib.hid (S0.out.call hb1)
              clear hb1 S0
              go_wp2_with fail
              refine (CZ _ ((HS.out.below S1.out.bel).more S1.out.bel.size)).mono ?_
              rintro e w2 ⟨rfl, hb2⟩
              have S2 := Lib.hid (S1.out.call hb2)
              clear hb2 S1
              go_wp2_with fail
              refine (CW _ ((HO.out.below S2.out.bel).more S2.out.bel.size)).mono ?_
              rintro e w3 ⟨rfl, hb3⟩
              have S3 := Lib.hid (S2.out.call hb3)
              clear hb3 S2
              obtain ⟨z0, a0, a1, z1, r0, r1, q0, q1⟩ := S3.out.six
              go_wp2_with fail
              refine (CX _ ((HS.out.below S3.out.bel).more S3.out.bel.size) ((HO.out.below S3.out.bel).more S3.out.bel.size)).mono ?_
              rintro e w4 ⟨Am4, gm4, cm4, rfl, -, -, hb4⟩
              have S4 := Lib.hid (S3.out.call hb4)
              clear hb4 S3 z0 a0 a1 z1 r0 r1 q0 q1
              go_wp2_with fail
              refine (CY _ ((HO.out.below S4.out.bel).more S4.out.bel.size) ((HS.out.below S4.out.bel).more S4.out.bel.size)).mono ?_
              rintro e w5 ⟨Am5, gm5, cm5, rfl, -, -, hb5⟩
              have S5 := Lib.hid (S4.out.call hb5)
              clear hb5 S4
              obtain ⟨z0, a0, a1, z1, r0, r1, q0, q1⟩ := S5.out.six
              have SF := Lib.hid (S5.out.set 3 g)
              obtain ⟨-, -, -, y1, y2, y3, -, -⟩ := SF.out.six
              go_wp2_with fail
              refine bodyPost_ret (v := adjV 3 g) (by simp [results, Try.results10, go_sem, y2, y3]) rfl ⟨rfl, SF.out.bel⟩
            · have hr : syncA (n : Int) g (datL zs) (datL os) = (2, g) := by
                rw [sync_less hb (fun h => hy h.2), onA_three]
                split
                · rfl
                · rw [show (n : Int) = 2 by omega]
              rw [hr]
              rw [hx] at CX
              generalize missD (datL os) (datL zs) = ys at *
              have hl : ((ys.length : Int) == 0) = false := by have : ys.length ≠ 0 := fun h => hy (List.length_eq_zero_iff.1 h); exact beq_eq_false_iff_ne.2 (by omega)
              clear hb hx hy CO3 CO4 hr
              go_enter Try.func10, Try.ntmps10
              go_wp2_with fail
              refine (CV _).mono ?_
              rintro e w1 ⟨rfl, hb1⟩
              have S1 := Lib.hid (S0.out.call hb1)
              clear hb1 S0
              go_wp2_with fail
              refine (CZ _ ((HS.out.below S1.out.bel).more S1.out.bel.size)).mono ?_
              rintro e w2 ⟨rfl, hb2⟩
              have S2 := Lib.hid (S1.out.call hb2)
              clear hb2 S1
              go_wp2_with fail
              refine (CW _ ((HO.out.below S2.out.bel).more S2.out.bel.size)).mono ?_
              rintro e w3 ⟨rfl, hb3⟩
              have S3 := Lib.hid (S2.out.call hb3)
              clear hb3 S2
              obtain ⟨z0, a0, a1, z1, r0, r1, q0, q1⟩ := S3.out.six
              go_wp2_with fail
              refine (CX _ ((HS.out.below S3.out.bel).more S3.out.bel.size) ((HO.out.below S3.out.bel).more S3.out.bel.size)).mono ?_
              rintro e w4 ⟨Am4, gm4, cm4, rfl, -, -, hb4⟩
              have S4 := Lib.hid (S3.out.call hb4)
              clear hb4 S3 z0 a0 a1 z1 r0 r1 q0 q1
              go_wp2_with fail
              refine (CY _ ((HO.out.below S4.out.bel).more S4.out.bel.size) ((HS.out.below S4.out.bel).more S4.out.bel.size)).mono ?_
              rintro e w5 ⟨Am5, gm5, cm5, rfl, -, -, hb5⟩
              have S5 := Lib.hid (S4.out.call hb5)
              clear hb5 S4
              obtain ⟨z0, a0, a1, z1, r0, r1, q0, q1⟩ := S5.out.six
              have SF := Lib.hid (S5.out.set 2 g)
              obtain ⟨-, -, -, y1, y2, y3, -, -⟩ := SF.out.six
              go_wp2_with fail
              refine bodyPost_ret (v := adjV 2 g) (by simp [results, Try.results10, go_sem, y2, y3]) rfl ⟨rfl, SF.out.bel⟩
          · have hr : syncA (n : Int) g (datL zs) (datL os) = (2, g) := by
              rw [sync_less hb (fun h => hx h.1), onA_three]
              split
              · rfl
              · rw [show (n : Int) = 2 by omega]
            rw [hr]
            generalize missD (datL zs) (datL os) = xs at *
            have hl : ((xs.length : Int) == 0) = false := by have : xs.length ≠ 0 := fun h => hx (List.length_eq_zero_iff.1 h); exact beq_eq_false_iff_ne.2 (by omega)
            clear hb hx CO3 CO4 hr CY
            go_enter Try.func10, Try.ntmps10
            go_wp2_with fail
            refine (CV _).mono ?_
            rintro e w1 ⟨rfl, hb1⟩
            have S1 := Lib.hid (S0.out.call hb1)
            clear hb1 S0
            go_wp2_with fail
            refine (CZ _ ((HS.out.below S1.out.bel).more S1.out.bel.size)).mono ?_
            rintro e w2 ⟨rfl, hb2⟩
            have S2 := Lib.hid (S1.out.call hb2)
            clear hb2 S1
            go_wp2_with fail
            refine (CW _ ((HO.out.below S2.out.bel).more S2.out.bel.size)).mono ?_
            rintro e w3 ⟨rfl, hb3⟩
            have S3 := Lib.hid (S2.out.call hb3)
            clear hb3 S2
            obtain ⟨z0, a0, a1, z1, r0, r1, q0, q1⟩ := S3.out.six
            go_wp2_with fail
            refine (CX _ ((HS.out.below S3.out.bel).more S3.out.bel.size) ((HO.out.below S3.out.bel).more S3.out.bel.size)).mono ?_
            rintro e w4 ⟨Am4, gm4, cm4, rfl, -, -, hb4⟩
            have S4 := Lib.hid (S3.out.call hb4)
            clear hb4 S3 z0 a0 a1 z1 r0 r1 q0 q1
            obtain ⟨z0, a0, a1, z1, r0, r1, q0, q1⟩ := S4.out.six
            have SF := Lib.hid (S4.out.set 2 g)
            obtain ⟨-, -, -, y1, y2, y3, -, -⟩ := SF.out.six
            go_wp2_with fail
            refine bodyPost_ret (v := adjV 2 g) (by simp [results, Try.results10, go_sem, y2, y3]) rfl ⟨rfl, SF.out.bel⟩
end Go.Proofs.Ytnkohgdfipgdoab
