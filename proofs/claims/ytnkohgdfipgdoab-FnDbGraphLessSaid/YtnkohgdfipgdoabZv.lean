/-
  Contracts over this seat: the specification's LsaValid and DbValid.
-/
import Derived.Test.YtnkohgdfipgdoabZm
namespace Go.Proofs.Ytnkohgdfipgdoab
open Go.RowKit Go.Maps

theorem laB_no {l : La} {k : Nat} (hk : k < l.es.length) (h : endB l.o l.es k = false) : laB l = false := by
  apply Bool.eq_false_iff.2
  intro hp
  unfold laB at hp
  simp only [Bool.and_eq_true, List.all_eq_true, List.mem_range] at hp
  rw [hp.1.1 k hk] at h
  cases h
def dk_lt (es : List Lb) (k : Nat) (_ek : Int) (d : Lb) : Prop := ∀ d', 0 < k → es[k - 1]? = some d' → d' = d
theorem laB_all {l : La} (h : ∀ k, k < l.es.length → endB l.o l.es k = true) : laB l = (inB l.o 0 7 && inB l.q 1 99) := by
  unfold laB
  have : (List.range l.es.length).all (endB l.o l.es) = true := by
    simp only [List.all_eq_true, List.mem_range]
    exact h
  rw [this, Bool.true_and]

set_option maxRecDepth 100000 in
set_option maxHeartbeats 1600000 in
theorem lsaValid_spec (z : Lz) (w : World) (hm : z.es.length ≤ 2000000) (hS : Slb w w.heap.size z.A z.es) :
   Calls Try.prog 41 #[z.v] w fun e w' => e = .returned (.bool (laB z.d)) ∧ Below w.heap.size w w' := by
  obtain ⟨o, q, es, A, c, g⟩ := z
  dsimp only at *
  have HB := Lib.hid (show Below w.heap.size w (w.alloc (.cells #[.int .i64 o, .int .i64 q, .slice A es.length c] 54)) by (repeat (first | exact Below.refl _ _ | (refine Below.alloc ?_ (by first | exact Nat.le_refl _ | omega | (simp; done) | (simp; omega)) _) | (refine Below.setCell ?_ (by first | exact Nat.le_refl _ | omega | (simp; done) | (simp; omega)) _) | exact Below.drew ‹_›)))
  have HG := Lib.hid (Box.new w 54 #[.int .i64 o, .int .i64 q, .slice A es.length c])
  have HS := Lib.hid hS
  have HNO : Hid (∀ {k : Nat}, k < es.length → endB o es k = false → laB ⟨o, q, es⟩ = false) := Lib.hid (fun hk h => laB_no (l := ⟨o, q, es⟩) hk h)
  have HAL : Hid ((∀ k, k < es.length → endB o es k = true) → laB ⟨o, q, es⟩ = (inB o 0 7 && inB q 1 99)) := Lib.hid (fun h => laB_all (l := ⟨o, q, es⟩) h)
  clear hS
  go_enter Try.func41, Try.ntmps41
  go_wp2_with fail
  go_loopw [3] (fun i wr => ∃ k : Nat, k ≤ es.length ∧ i = .int .i64 (k : Int) ∧ Hid (∀ j, j < k → endB o es j = true) ∧ Below w.heap.size w wr ∧ Hid (Box wr w.heap.size 54 #[.int .i64 o, .int .i64 q, .slice A es.length c])) (fun i _ => es.length - (intOf i).toNat)
  case atStart => exact ⟨0, Nat.zero_le _, rfl, Lib.hid (fun j h => by omega), HB.out, HG⟩
  case round =>
    obtain ⟨k, hk, rfl, HJ, hb, G1⟩ := hrel
    have B1 := Lib.hid hb
    have z1 := G1.out.lt
    have f0 := G1.out.cell 0
    have f1 := G1.out.cell 1
    have f2 := G1.out.cell 2
    simp only [List.getElem?_toArray, List.getElem?_cons_zero, List.getElem?_cons_succ] at f0 f1 f2
    clear HB HG
    by_cases hlt : k < es.length
    · obtain ⟨x, hx⟩ : ∃ x, es[k]? = some x := ⟨_, List.getElem?_eq_getElem hlt⟩
      obtain ⟨b, off, rfl, hbb, hc1, hc2⟩ := (HS.out.below hb) k x hx
      have HEB : Hid (endB o es k = true ↔ ((0 ≤ x.k ∧ x.k ≤ 7) ∧ x.k ≠ o ∧ 1 ≤ x.a ∧ x.a ≤ 20) ∧ (∀ d, 0 < k → es[k - 1]? = some d → d.k < x.k)) := Lib.hid (endB_at hx)
      have hz := hb.size
      obtain ⟨ek, ea⟩ := x
      dsimp only at *
      have HX := Lib.hid hx
      clear hx hb
      by_cases h1 : 0 ≤ ek ∧ ek ≤ 7
      · have hin : inB ek 0 7 = true := by unfold inB; simp; omega
        by_cases h2 : ek = o
        · have h2' : (ek == o) = true := by simp [h2]
          have HEF : Hid (endB o es k = false) := Lib.hid (Bool.eq_false_iff.2 (fun h => (HEB.out.1 h).1.2.1 h2))
          clear h2
          go_wp2_with fail
          have E1 := Lib.hid (Box.new wr 56 #[.int .i64 ek, .int .i64 ea])
          have B2 := Lib.hid (B1.out.alloc B1.out.size (.cells #[.int .i64 ek, .int .i64 ea] 56))
          have G2 := Lib.hid (G1.out.alloc (.cells #[.int .i64 ek, .int .i64 ea] 56))
          generalize wr.alloc (.cells #[.int .i64 ek, .int .i64 ea] 56) = W1 at *
          generalize wr.heap.size = eb at *
          have zg := G2.out.lt
          have g0 := G2.out.cell 0
          have g2 := G2.out.cell 2
          obtain ⟨ze, e0, e1, -, -⟩ := E1.out.two
          simp only [List.getElem?_toArray, List.getElem?_cons_zero, List.getElem?_cons_succ] at g0 g2
          have hX := fun (x : Ext W1.drew) (bb oo : Nat) (h : bb < W1.heap.size) => (show x.w.cell? ⟨bb, oo, none⟩ = W1.cell? ⟨bb, oo, none⟩ from x.cell bb oo h)
          refine wp_region_staged 33 (by kernel_rfl) (by kernel_rfl) ?_
          refine stage_seg _ 31 [0, 1] (by kernel_rfl) (by kernel_rfl) (by kernel_rfl) (by kernel_rfl) ?_
          (simp only [List.map_cons, List.map_nil, List.getElem?_cons_zero, List.getElem?_cons_succ, Option.getD_some]); (repeat (go_big_quiet_step (fail))); (refine wpQuiet_nil ?_)
          refine stage_call _ 30 2 (by kernel_rfl) (by rfl) (by kernel_rfl) (by rfl) ?_
          go_wp2_with fail
          refine (l6In_any ek 0 7 _).mono ?_
          rintro e w1 ⟨rfl, rfl⟩
          refine ⟨Below.refl _ _, ?_⟩
          rw [hin]
          clear hin
          refine stage_seg _ 19 [3, 4, 5, 6, 7, 8, 9, 10, 11, 12, 13] (by kernel_rfl) (by kernel_rfl) (by kernel_rfl) (by kernel_rfl) ?_
          (simp only [List.map_cons, List.map_nil, List.getElem?_cons_zero, List.getElem?_cons_succ, Option.getD_some]); (repeat (go_big_quiet_step (fail))); (refine wpQuiet_nil ?_)
          refine stage_skip _ 18 14 (by kernel_rfl) (by rfl) (by kernel_rfl) (by rfl) ?_
          go_simp
          refine stage_seg _ 0 [15, 16, 17, 18, 19, 20, 21, 22, 23, 24, 25, 26, 27, 28, 29, 30, 31, 32] (by kernel_rfl) (by kernel_rfl) (by kernel_rfl) (by kernel_rfl) ?_
          (simp only [List.map_cons, List.map_nil, List.getElem?_cons_zero, List.getElem?_cons_succ, Option.getD_some]); (repeat (go_big_quiet_step (fail))); (refine wpQuiet_nil ?_)
          refine stage_end (by kernel_rfl) ?_
          clear hX
          go_wp2_with fail
          go_ret
          exact ⟨ret_bool (HNO.out hlt HEF.out).symm, B2.out.drew⟩
        · have h2' : (ek == o) = false := by simpa using h2
          by_cases h3 : 1 ≤ ea ∧ ea ≤ 20
          · have hin2 : inB ea 1 20 = true := by unfold inB; simp; omega
            by_cases hk0 : k = 0
            · subst hk0
              have HET : Hid (endB o es 0 = true) := Lib.hid (HEB.out.2 ⟨⟨h1, h2, h3.1, h3.2⟩, fun d h => absurd h (by omega)⟩)
              clear h2
              simp only [Nat.zero_mul, Nat.add_zero] at hc1 hc2
              go_wp2_with fail
              have E1 := Lib.hid (Box.new wr 56 #[.int .i64 ek, .int .i64 ea])
              have B2 := Lib.hid (B1.out.alloc B1.out.size (.cells #[.int .i64 ek, .int .i64 ea] 56))
              have G2 := Lib.hid (G1.out.alloc (.cells #[.int .i64 ek, .int .i64 ea] 56))
              generalize wr.alloc (.cells #[.int .i64 ek, .int .i64 ea] 56) = W1 at *
              generalize wr.heap.size = eb at *
              have zg := G2.out.lt
              have g0 := G2.out.cell 0
              have g2 := G2.out.cell 2
              obtain ⟨ze, e0, e1, -, -⟩ := E1.out.two
              simp only [List.getElem?_toArray, List.getElem?_cons_zero, List.getElem?_cons_succ] at g0 g2
              have hX := fun (x : Ext W1.drew) (bb oo : Nat) (h : bb < W1.heap.size) => (show x.w.cell? ⟨bb, oo, none⟩ = W1.cell? ⟨bb, oo, none⟩ from x.cell bb oo h)
              refine wp_region_staged 33 (by kernel_rfl) (by kernel_rfl) ?_
              refine stage_seg _ 31 [0, 1] (by kernel_rfl) (by kernel_rfl) (by kernel_rfl) (by kernel_rfl) ?_
              (simp only [List.map_cons, List.map_nil, List.getElem?_cons_zero, List.getElem?_cons_succ, Option.getD_some]); (repeat (go_big_quiet_step (fail))); (refine wpQuiet_nil ?_)
              refine stage_call _ 30 2 (by kernel_rfl) (by rfl) (by kernel_rfl) (by rfl) ?_
              go_wp2_with fail
              refine (l6In_any ek 0 7 _).mono ?_
              rintro e w1 ⟨rfl, rfl⟩
              refine ⟨Below.refl _ _, ?_⟩
              rw [hin]
              clear hin
              refine stage_seg _ 19 [3, 4, 5, 6, 7, 8, 9, 10, 11, 12, 13] (by kernel_rfl) (by kernel_rfl) (by kernel_rfl) (by kernel_rfl) ?_
              (simp only [List.map_cons, List.map_nil, List.getElem?_cons_zero, List.getElem?_cons_succ, Option.getD_some]); (repeat (go_big_quiet_step (fail))); (refine wpQuiet_nil ?_)
              refine stage_call _ 18 14 (by kernel_rfl) (by rfl) (by kernel_rfl) (by rfl) ?_
              go_wp2_with fail
              refine (l6In_any ea 1 20 _).mono ?_
              rintro e w2 ⟨rfl, rfl⟩
              refine ⟨Below.refl _ _, ?_⟩
              rw [hin2]
              clear hin2
              refine stage_seg _ 0 [15, 16, 17, 18, 19, 20, 21, 22, 23, 24, 25, 26, 27, 28, 29, 30, 31, 32] (by kernel_rfl) (by kernel_rfl) (by kernel_rfl) (by kernel_rfl) ?_
              (simp only [List.map_cons, List.map_nil, List.getElem?_cons_zero, List.getElem?_cons_succ, Option.getD_some]); (repeat (go_big_quiet_step (fail))); (refine wpQuiet_nil ?_)
              refine stage_end (by kernel_rfl) ?_
              clear hX
              go_wp2_with fail
              go_roundw
              case rel => exact ⟨1, hlt, by go_num, Lib.hid (fun j hj => by
                obtain rfl : j = 0 := by omega
                exact HET.out), B2.out.drew, Lib.hid (show Box W1.drew w.heap.size 54 #[.int .i64 o, .int .i64 q, .slice _ es.length c] from G2.out)⟩
              case measure => simp [intOf]; omega
            · obtain ⟨p, hp1⟩ : ∃ p : Nat, k = p + 1 := ⟨k - 1, by omega⟩
              have hsub : (k : Int) - 1 = (p : Int) := by omega
              have hwp : IntKind.i64.wrap (p : Int) = (p : Int) := IntWalk.i64_in _ (by omega)
              have hpl : p < es.length := by omega
              have hk0' : 0 < k := by omega
              have hpk : k - 1 = p := by omega
              obtain ⟨d, hd⟩ : ∃ d, es[p]? = some d := ⟨_, List.getElem?_eq_getElem hpl⟩
              have HDL : Hid (dk_lt es k ek d) := Lib.hid (fun d' hk0 hd' => by
                rw [hpk, hd] at hd'
                cases hd'
                rfl)
              obtain ⟨b', off', e', _, hd1, hd2⟩ := (HS.out.below B1.out) p d hd
              cases e'
              obtain ⟨dk, da⟩ := d
              dsimp only at *
              have HD := Lib.hid hd
              clear hp1 hk0 hd hpk
              by_cases h4 : dk < ek
              · have h4' : ¬ ek ≤ dk := by omega
                have HET : Hid (endB o es k = true) := Lib.hid (HEB.out.2 ⟨⟨h1, h2, h3.1, h3.2⟩, fun d' h0 hd' => by have := HDL.out d' h0 hd'; subst this; exact h4⟩)
                clear h2
                go_wp2_with fail
                have E1 := Lib.hid (Box.new wr 56 #[.int .i64 ek, .int .i64 ea])
                have B2 := Lib.hid (B1.out.alloc B1.out.size (.cells #[.int .i64 ek, .int .i64 ea] 56))
                have G2 := Lib.hid (G1.out.alloc (.cells #[.int .i64 ek, .int .i64 ea] 56))
                generalize wr.alloc (.cells #[.int .i64 ek, .int .i64 ea] 56) = W1 at *
                generalize wr.heap.size = eb at *
                obtain ⟨b2, off2, e2, hbw, hp1, hp2⟩ := (HS.out.below B2.out) p ⟨dk, da⟩ HD.out
                cases e2
                have zb2 : b < W1.heap.size := by have := B2.out.size; omega
                have zg := G2.out.lt
                have g0 := G2.out.cell 0
                have g2 := G2.out.cell 2
                obtain ⟨ze, e0, e1, -, -⟩ := E1.out.two
                simp only [List.getElem?_toArray, List.getElem?_cons_zero, List.getElem?_cons_succ] at g0 g2
                have hX := fun (x : Ext W1.drew) (bb oo : Nat) (h : bb < W1.heap.size) => (show x.w.cell? ⟨bb, oo, none⟩ = W1.cell? ⟨bb, oo, none⟩ from x.cell bb oo h)
                refine wp_region_staged 33 (by kernel_rfl) (by kernel_rfl) ?_
                refine stage_seg _ 31 [0, 1] (by kernel_rfl) (by kernel_rfl) (by kernel_rfl) (by kernel_rfl) ?_
                (simp only [List.map_cons, List.map_nil, List.getElem?_cons_zero, List.getElem?_cons_succ, Option.getD_some]); (repeat (go_big_quiet_step (fail))); (refine wpQuiet_nil ?_)
                refine stage_call _ 30 2 (by kernel_rfl) (by rfl) (by kernel_rfl) (by rfl) ?_
                go_wp2_with fail
                refine (l6In_any ek 0 7 _).mono ?_
                rintro e w1 ⟨rfl, rfl⟩
                refine ⟨Below.refl _ _, ?_⟩
                rw [hin]
                clear hin
                refine stage_seg _ 19 [3, 4, 5, 6, 7, 8, 9, 10, 11, 12, 13] (by kernel_rfl) (by kernel_rfl) (by kernel_rfl) (by kernel_rfl) ?_
                (simp only [List.map_cons, List.map_nil, List.getElem?_cons_zero, List.getElem?_cons_succ, Option.getD_some]); (repeat (go_big_quiet_step (fail))); (refine wpQuiet_nil ?_)
                refine stage_call _ 18 14 (by kernel_rfl) (by rfl) (by kernel_rfl) (by rfl) ?_
                go_wp2_with fail
                refine (l6In_any ea 1 20 _).mono ?_
                rintro e w2 ⟨rfl, rfl⟩
                refine ⟨Below.refl _ _, ?_⟩
                rw [hin2]
                clear hin2
                refine stage_seg _ 0 [15, 16, 17, 18, 19, 20, 21, 22, 23, 24, 25, 26, 27, 28, 29, 30, 31, 32] (by kernel_rfl) (by kernel_rfl) (by kernel_rfl) (by kernel_rfl) ?_
                (simp only [List.map_cons, List.map_nil, List.getElem?_cons_zero, List.getElem?_cons_succ, Option.getD_some]); (repeat (go_big_quiet_step (fail))); (refine wpQuiet_nil ?_)
                refine stage_end (by kernel_rfl) ?_
                clear hX
                go_wp2_with fail
                go_roundw
                case rel => exact ⟨k + 1, hlt, by go_num, Lib.hid (fun j hj => by
                  by_cases hjk : j < k
                  · exact HJ.out j hjk
                  · obtain rfl : j = k := by omega
                    exact HET.out), B2.out.drew, Lib.hid (show Box W1.drew w.heap.size 54 #[.int .i64 o, .int .i64 q, .slice _ es.length c] from G2.out)⟩
                case measure => simp [intOf]; omega
              · have h4' : ek ≤ dk := by omega
                have HEF : Hid (endB o es k = false) := Lib.hid (Bool.eq_false_iff.2 (fun h => h4 ((HEB.out.1 h).2 ⟨dk, da⟩ hk0' (by rw [show k - 1 = p by omega]; exact HD.out))))
                clear h2 h4
                go_wp2_with fail
                have E1 := Lib.hid (Box.new wr 56 #[.int .i64 ek, .int .i64 ea])
                have B2 := Lib.hid (B1.out.alloc B1.out.size (.cells #[.int .i64 ek, .int .i64 ea] 56))
                have G2 := Lib.hid (G1.out.alloc (.cells #[.int .i64 ek, .int .i64 ea] 56))
                generalize wr.alloc (.cells #[.int .i64 ek, .int .i64 ea] 56) = W1 at *
                generalize wr.heap.size = eb at *
                obtain ⟨b2, off2, e2, hbw, hp1, hp2⟩ := (HS.out.below B2.out) p ⟨dk, da⟩ HD.out
                cases e2
                have zb2 : b < W1.heap.size := by have := B2.out.size; omega
                have zg := G2.out.lt
                have g0 := G2.out.cell 0
                have g2 := G2.out.cell 2
                obtain ⟨ze, e0, e1, -, -⟩ := E1.out.two
                simp only [List.getElem?_toArray, List.getElem?_cons_zero, List.getElem?_cons_succ] at g0 g2
                have hX := fun (x : Ext W1.drew) (bb oo : Nat) (h : bb < W1.heap.size) => (show x.w.cell? ⟨bb, oo, none⟩ = W1.cell? ⟨bb, oo, none⟩ from x.cell bb oo h)
                refine wp_region_staged 33 (by kernel_rfl) (by kernel_rfl) ?_
                refine stage_seg _ 31 [0, 1] (by kernel_rfl) (by kernel_rfl) (by kernel_rfl) (by kernel_rfl) ?_
                (simp only [List.map_cons, List.map_nil, List.getElem?_cons_zero, List.getElem?_cons_succ, Option.getD_some]); (repeat (go_big_quiet_step (fail))); (refine wpQuiet_nil ?_)
                refine stage_call _ 30 2 (by kernel_rfl) (by rfl) (by kernel_rfl) (by rfl) ?_
                go_wp2_with fail
                refine (l6In_any ek 0 7 _).mono ?_
                rintro e w1 ⟨rfl, rfl⟩
                refine ⟨Below.refl _ _, ?_⟩
                rw [hin]
                clear hin
                refine stage_seg _ 19 [3, 4, 5, 6, 7, 8, 9, 10, 11, 12, 13] (by kernel_rfl) (by kernel_rfl) (by kernel_rfl) (by kernel_rfl) ?_
                (simp only [List.map_cons, List.map_nil, List.getElem?_cons_zero, List.getElem?_cons_succ, Option.getD_some]); (repeat (go_big_quiet_step (fail))); (refine wpQuiet_nil ?_)
                refine stage_call _ 18 14 (by kernel_rfl) (by rfl) (by kernel_rfl) (by rfl) ?_
                go_wp2_with fail
                refine (l6In_any ea 1 20 _).mono ?_
                rintro e w2 ⟨rfl, rfl⟩
                refine ⟨Below.refl _ _, ?_⟩
                rw [hin2]
                clear hin2
                refine stage_seg _ 0 [15, 16, 17, 18, 19, 20, 21, 22, 23, 24, 25, 26, 27, 28, 29, 30, 31, 32] (by kernel_rfl) (by kernel_rfl) (by kernel_rfl) (by kernel_rfl) ?_
                (simp only [List.map_cons, List.map_nil, List.getElem?_cons_zero, List.getElem?_cons_succ, Option.getD_some]); (repeat (go_big_quiet_step (fail))); (refine wpQuiet_nil ?_)
                refine stage_end (by kernel_rfl) ?_
                clear hX
                go_wp2_with fail
                go_ret
                exact ⟨ret_bool (HNO.out hlt HEF.out).symm, B2.out.drew⟩
          · have hin2 : inB ea 1 20 = false := by unfold inB; simp; omega
            have HEF : Hid (endB o es k = false) := Lib.hid (Bool.eq_false_iff.2 (fun h => h3 (HEB.out.1 h).1.2.2))
            clear h2 h3
            go_wp2_with fail
            have E1 := Lib.hid (Box.new wr 56 #[.int .i64 ek, .int .i64 ea])
            have B2 := Lib.hid (B1.out.alloc B1.out.size (.cells #[.int .i64 ek, .int .i64 ea] 56))
            have G2 := Lib.hid (G1.out.alloc (.cells #[.int .i64 ek, .int .i64 ea] 56))
            generalize wr.alloc (.cells #[.int .i64 ek, .int .i64 ea] 56) = W1 at *
            generalize wr.heap.size = eb at *
            have zg := G2.out.lt
            have g0 := G2.out.cell 0
            have g2 := G2.out.cell 2
            obtain ⟨ze, e0, e1, -, -⟩ := E1.out.two
            simp only [List.getElem?_toArray, List.getElem?_cons_zero, List.getElem?_cons_succ] at g0 g2
            have hX := fun (x : Ext W1.drew) (bb oo : Nat) (h : bb < W1.heap.size) => (show x.w.cell? ⟨bb, oo, none⟩ = W1.cell? ⟨bb, oo, none⟩ from x.cell bb oo h)
            refine wp_region_staged 33 (by kernel_rfl) (by kernel_rfl) ?_
            refine stage_seg _ 31 [0, 1] (by kernel_rfl) (by kernel_rfl) (by kernel_rfl) (by kernel_rfl) ?_
            (simp only [List.map_cons, List.map_nil, List.getElem?_cons_zero, List.getElem?_cons_succ, Option.getD_some]); (repeat (go_big_quiet_step (fail))); (refine wpQuiet_nil ?_)
            refine stage_call _ 30 2 (by kernel_rfl) (by rfl) (by kernel_rfl) (by rfl) ?_
            go_wp2_with fail
            refine (l6In_any ek 0 7 _).mono ?_
            rintro e w1 ⟨rfl, rfl⟩
            refine ⟨Below.refl _ _, ?_⟩
            rw [hin]
            clear hin
            refine stage_seg _ 19 [3, 4, 5, 6, 7, 8, 9, 10, 11, 12, 13] (by kernel_rfl) (by kernel_rfl) (by kernel_rfl) (by kernel_rfl) ?_
            (simp only [List.map_cons, List.map_nil, List.getElem?_cons_zero, List.getElem?_cons_succ, Option.getD_some]); (repeat (go_big_quiet_step (fail))); (refine wpQuiet_nil ?_)
            refine stage_call _ 18 14 (by kernel_rfl) (by rfl) (by kernel_rfl) (by rfl) ?_
            go_wp2_with fail
            refine (l6In_any ea 1 20 _).mono ?_
            rintro e w2 ⟨rfl, rfl⟩
            refine ⟨Below.refl _ _, ?_⟩
            rw [hin2]
            clear hin2
            refine stage_seg _ 0 [15, 16, 17, 18, 19, 20, 21, 22, 23, 24, 25, 26, 27, 28, 29, 30, 31, 32] (by kernel_rfl) (by kernel_rfl) (by kernel_rfl) (by kernel_rfl) ?_
            (simp only [List.map_cons, List.map_nil, List.getElem?_cons_zero, List.getElem?_cons_succ, Option.getD_some]); (repeat (go_big_quiet_step (fail))); (refine wpQuiet_nil ?_)
            refine stage_end (by kernel_rfl) ?_
            clear hX
            go_wp2_with fail
            go_ret
            exact ⟨ret_bool (HNO.out hlt HEF.out).symm, B2.out.drew⟩
      · have hin : inB ek 0 7 = false := by unfold inB; simp; omega
        have HEF : Hid (endB o es k = false) := Lib.hid (Bool.eq_false_iff.2 (fun h => h1 (HEB.out.1 h).1.1))
        clear h1
        go_wp2_with fail
        have E1 := Lib.hid (Box.new wr 56 #[.int .i64 ek, .int .i64 ea])
        have B2 := Lib.hid (B1.out.alloc B1.out.size (.cells #[.int .i64 ek, .int .i64 ea] 56))
        have G2 := Lib.hid (G1.out.alloc (.cells #[.int .i64 ek, .int .i64 ea] 56))
        generalize wr.alloc (.cells #[.int .i64 ek, .int .i64 ea] 56) = W1 at *
        generalize wr.heap.size = eb at *
        have zg := G2.out.lt
        have g0 := G2.out.cell 0
        have g2 := G2.out.cell 2
        obtain ⟨ze, e0, e1, -, -⟩ := E1.out.two
        simp only [List.getElem?_toArray, List.getElem?_cons_zero, List.getElem?_cons_succ] at g0 g2
        have hX := fun (x : Ext W1.drew) (bb oo : Nat) (h : bb < W1.heap.size) => (show x.w.cell? ⟨bb, oo, none⟩ = W1.cell? ⟨bb, oo, none⟩ from x.cell bb oo h)
        refine wp_region_staged 33 (by kernel_rfl) (by kernel_rfl) ?_
        refine stage_seg _ 31 [0, 1] (by kernel_rfl) (by kernel_rfl) (by kernel_rfl) (by kernel_rfl) ?_
        (simp only [List.map_cons, List.map_nil, List.getElem?_cons_zero, List.getElem?_cons_succ, Option.getD_some]); (repeat (go_big_quiet_step (fail))); (refine wpQuiet_nil ?_)
        refine stage_call _ 30 2 (by kernel_rfl) (by rfl) (by kernel_rfl) (by rfl) ?_
        go_wp2_with fail
        refine (l6In_any ek 0 7 _).mono ?_
        rintro e w1 ⟨rfl, rfl⟩
        refine ⟨Below.refl _ _, ?_⟩
        rw [hin]
        clear hin
        refine stage_seg _ 19 [3, 4, 5, 6, 7, 8, 9, 10, 11, 12, 13] (by kernel_rfl) (by kernel_rfl) (by kernel_rfl) (by kernel_rfl) ?_
        (simp only [List.map_cons, List.map_nil, List.getElem?_cons_zero, List.getElem?_cons_succ, Option.getD_some]); (repeat (go_big_quiet_step (fail))); (refine wpQuiet_nil ?_)
        refine stage_skip _ 18 14 (by kernel_rfl) (by rfl) (by kernel_rfl) (by rfl) ?_
        go_simp
        refine stage_seg _ 0 [15, 16, 17, 18, 19, 20, 21, 22, 23, 24, 25, 26, 27, 28, 29, 30, 31, 32] (by kernel_rfl) (by kernel_rfl) (by kernel_rfl) (by kernel_rfl) ?_
        (simp only [List.map_cons, List.map_nil, List.getElem?_cons_zero, List.getElem?_cons_succ, Option.getD_some]); (repeat (go_big_quiet_step (fail))); (refine wpQuiet_nil ?_)
        refine stage_end (by kernel_rfl) ?_
        clear hX
        go_wp2_with fail
        go_ret
        exact ⟨ret_bool (HNO.out hlt HEF.out).symm, B2.out.drew⟩
    · obtain rfl : k = es.length := by omega
      have HL := Lib.hid (HAL.out HJ.out)
      clear hb
      go_wp2_with (go_at_call 40; refine (l6In_any _ _ _ _).mono ?_; rintro e w2 ⟨rfl, rfl⟩)
      all_goals
        go_ret
        exact ⟨ret_bool (by rw [HL.out]; simp_all), B1.out⟩

theorem dbAt_iff {zs : List Lz} {k : Nat} {z : Lz} (hz : zs[k]? = some z) : dbAt (datL zs) k = true ↔ laB z.d = true ∧ ∀ d, 0 < k → zs[k - 1]? = some d → d.o < z.o := by
  unfold dbAt datL
  rw [List.getElem?_map, hz, List.getElem?_map]
  simp only [Option.map_some, Bool.and_eq_true, Bool.or_eq_true, decide_eq_true_eq]
  constructor
  · rintro ⟨h1, h2⟩
    refine ⟨h1, fun d h0 hd => ?_⟩
    rcases h2 with h2 | h2
    · omega
    · rw [hd] at h2
      simpa using h2
  · rintro ⟨h1, h2⟩
    refine ⟨h1, ?_⟩
    by_cases h0 : k = 0
    · exact .inl h0
    · right
      cases hd : zs[k - 1]? with
      | none => rfl
      | some d => simpa using h2 d (by omega) hd
theorem dbB_no {db : List La} {k : Nat} (hk : k < db.length) (h : dbAt db k = false) : dbB db = false := by
  apply Bool.eq_false_iff.2
  intro hp
  unfold dbB at hp
  simp only [List.all_eq_true, List.mem_range] at hp
  rw [hp k hk] at h
  cases h
theorem dbB_all {db : List La} (h : ∀ k, k < db.length → dbAt db k = true) : dbB db = true := by
  unfold dbB
  simp only [List.all_eq_true, List.mem_range]
  exact h

set_option maxRecDepth 100000 in
set_option maxHeartbeats 1600000 in
theorem dbValid_spec (A : Option Addr) (zs : List Lz) (c : Nat) (w : World) (hm : zs.length ≤ 2000000) (hes : ∀ z ∈ zs, z.es.length ≤ 2000000) (hS : Slz w w.heap.size A zs) :
   Calls Try.prog 18 #[.slice A zs.length c] w fun e w' => e = .returned (.bool (dbB (datL zs))) ∧ Below w.heap.size w w' := by
  have HS := Lib.hid hS
  have HES := Lib.hid hes
  have HNO : Hid (∀ {k : Nat}, k < zs.length → dbAt (datL zs) k = false → dbB (datL zs) = false) := Lib.hid (fun hk h => dbB_no (by simpa [datL] using hk) h)
  have HAL : Hid ((∀ k, k < zs.length → dbAt (datL zs) k = true) → dbB (datL zs) = true) := Lib.hid (fun h => dbB_all (fun k hk => h k (by simpa [datL] using hk)))
  have HAT : Hid (∀ (k : Nat) (z : Lz), zs[k]? = some z → (dbAt (datL zs) k = true ↔ laB z.d = true ∧ ∀ d, 0 < k → zs[k - 1]? = some d → d.o < z.o)) := Lib.hid (fun k z h => dbAt_iff h)
  clear hS hes
  go_enter Try.func18, Try.ntmps18
  go_wp2_with fail
  go_loopw [3] (fun i wr => ∃ k : Nat, k ≤ zs.length ∧ i = .int .i64 (k : Int) ∧ Hid (∀ j, j < k → dbAt (datL zs) j = true) ∧ Below w.heap.size w wr) (fun i _ => zs.length - (intOf i).toNat)
  case atStart => exact ⟨0, Nat.zero_le _, rfl, Lib.hid (fun j h => by omega), Below.refl _ _⟩
  case round =>
    obtain ⟨k, hk, rfl, HJ, hb⟩ := hrel
    have B1 := Lib.hid hb
    by_cases hlt : k < zs.length
    · obtain ⟨x, hx⟩ : ∃ x, zs[k]? = some x := ⟨_, List.getElem?_eq_getElem hlt⟩
      obtain ⟨b, off, rfl, hbb, hc1, hc2, hc3, hin⟩ := (HS.out.below hb) k x hx
      have HI := Lib.hid hin
      have hxl := HES.out x (List.mem_of_getElem? hx)
      have HA := Lib.hid (HAT.out k x hx)
      have hz := hb.size
      have z1 : b < wr.heap.size := by omega
      have CV := fun W (h : Slb W W.heap.size x.A x.es) => lsaValid_spec x W hxl h
      obtain ⟨zo, zq, zes, zA, zc, zg⟩ := x
      dsimp only at *
      have HZ := Lib.hid hx
      clear hx hb hin
      cases hv : laB ⟨zo, zq, zes⟩ with
      | false =>
        rw [hv] at CV
        have HEF : Hid (dbAt (datL zs) k = false) := Lib.hid (Bool.eq_false_iff.2 (fun h => by have := (HA.out.1 h).1; rw [hv] at this; cases this))
        clear hv
        go_wp2_with fail
        have hX := fun (x : Ext wr.drew) (bb oo : Nat) (h : bb < wr.heap.size) => (show x.w.cell? ⟨bb, oo, none⟩ = wr.cell? ⟨bb, oo, none⟩ from x.cell bb oo h)
        refine wp_region_staged 24 (by kernel_rfl) (by kernel_rfl) ?_
        refine stage_seg _ 20 [0, 1, 2, 3] (by kernel_rfl) (by kernel_rfl) (by kernel_rfl) (by kernel_rfl) ?_
        (simp only [List.map_cons, List.map_nil, List.getElem?_cons_zero, List.getElem?_cons_succ, Option.getD_some]); (repeat (go_big_quiet_step (fail))); (refine wpQuiet_nil ?_)
        refine stage_call _ 19 4 (by kernel_rfl) (by rfl) (by kernel_rfl) (by rfl) ?_
        go_wp2_with fail
        refine (CV wr.drew (Slb.more (w := wr.drew) HI.out hz)).mono ?_
        clear CV
        rintro e w4 ⟨rfl, hb4⟩
        refine ⟨hb4, ?_⟩
        have B4 := Lib.hid (B1.out.drew.trans (hb4.mono hz))
        clear hb4 hX hc1 hc2 hc3
        refine stage_seg _ 0 [5, 6, 7, 8, 9, 10, 11, 12, 13, 14, 15, 16, 17, 18, 19, 20, 21, 22, 23] (by kernel_rfl) (by kernel_rfl) (by kernel_rfl) (by kernel_rfl) ?_
        (simp only [List.map_cons, List.map_nil, List.getElem?_cons_zero, List.getElem?_cons_succ, Option.getD_some]); (repeat (go_big_quiet_step (fail))); (refine wpQuiet_nil ?_)
        refine stage_end (by kernel_rfl) ?_
        go_wp2_with fail
        go_ret
        exact ⟨ret_bool (HNO.out hlt HEF.out).symm, B4.out⟩
      | true =>
        rw [hv] at CV
        have HV := Lib.hid hv
        clear hv
        by_cases hk0 : k = 0
        · subst hk0
          have HET : Hid (dbAt (datL zs) 0 = true) := Lib.hid (HA.out.2 ⟨HV.out, fun d h => absurd h (by omega)⟩)
          simp only [Nat.zero_mul, Nat.add_zero] at hc1 hc2 hc3
          go_wp2_with fail
          have hX := fun (x : Ext wr.drew) (bb oo : Nat) (h : bb < wr.heap.size) => (show x.w.cell? ⟨bb, oo, none⟩ = wr.cell? ⟨bb, oo, none⟩ from x.cell bb oo h)
          refine wp_region_staged 24 (by kernel_rfl) (by kernel_rfl) ?_
          refine stage_seg _ 20 [0, 1, 2, 3] (by kernel_rfl) (by kernel_rfl) (by kernel_rfl) (by kernel_rfl) ?_
          (simp only [List.map_cons, List.map_nil, List.getElem?_cons_zero, List.getElem?_cons_succ, Option.getD_some]); (repeat (go_big_quiet_step (fail))); (refine wpQuiet_nil ?_)
          refine stage_call _ 19 4 (by kernel_rfl) (by rfl) (by kernel_rfl) (by rfl) ?_
          go_wp2_with fail
          refine (CV wr.drew (Slb.more (w := wr.drew) HI.out hz)).mono ?_
          clear CV
          rintro e w4 ⟨rfl, hb4⟩
          refine ⟨hb4, ?_⟩
          have B4 := Lib.hid (B1.out.drew.trans (hb4.mono hz))
          clear hb4 hX hc1 hc2 hc3
          refine stage_seg _ 0 [5, 6, 7, 8, 9, 10, 11, 12, 13, 14, 15, 16, 17, 18, 19, 20, 21, 22, 23] (by kernel_rfl) (by kernel_rfl) (by kernel_rfl) (by kernel_rfl) ?_
          (simp only [List.map_cons, List.map_nil, List.getElem?_cons_zero, List.getElem?_cons_succ, Option.getD_some]); (repeat (go_big_quiet_step (fail))); (refine wpQuiet_nil ?_)
          refine stage_end (by kernel_rfl) ?_
          go_wp2_with fail
          go_roundw
          case rel => exact ⟨1, hlt, by go_num, Lib.hid (fun j hj => by
            obtain rfl : j = 0 := by omega
            exact HET.out), B4.out⟩
          case measure => simp [intOf]; omega
        · obtain ⟨p, hp1⟩ : ∃ p : Nat, k = p + 1 := ⟨k - 1, by omega⟩
          have hsub : (k : Int) - 1 = (p : Int) := by omega
          have hwp : IntKind.i64.wrap (p : Int) = (p : Int) := IntWalk.i64_in _ (by omega)
          have hpl : p < zs.length := by omega
          have hk0' : 0 < k := by omega
          have hpk : k - 1 = p := by omega
          obtain ⟨d, hd⟩ : ∃ d, zs[p]? = some d := ⟨_, List.getElem?_eq_getElem hpl⟩
          have HD := Lib.hid hd
          have HPK := Lib.hid hpk
          clear hp1 hk0 hd hpk
          by_cases h4 : d.o < zo
          · have h4' : ¬ zo ≤ d.o := by omega
            have HET : Hid (dbAt (datL zs) k = true) := Lib.hid (HA.out.2 ⟨HV.out, fun d' h0 hd' => by rw [HPK.out, HD.out] at hd'; cases hd'; exact h4⟩)
            go_wp2_with fail
            have hX := fun (x : Ext wr.drew) (bb oo : Nat) (h : bb < wr.heap.size) => (show x.w.cell? ⟨bb, oo, none⟩ = wr.cell? ⟨bb, oo, none⟩ from x.cell bb oo h)
            refine wp_region_staged 24 (by kernel_rfl) (by kernel_rfl) ?_
            refine stage_seg _ 20 [0, 1, 2, 3] (by kernel_rfl) (by kernel_rfl) (by kernel_rfl) (by kernel_rfl) ?_
            (simp only [List.map_cons, List.map_nil, List.getElem?_cons_zero, List.getElem?_cons_succ, Option.getD_some]); (repeat (go_big_quiet_step (fail))); (refine wpQuiet_nil ?_)
            refine stage_call _ 19 4 (by kernel_rfl) (by rfl) (by kernel_rfl) (by rfl) ?_
            go_wp2_with fail
            refine (CV wr.drew (Slb.more (w := wr.drew) HI.out hz)).mono ?_
            clear CV
            rintro e w4 ⟨rfl, hb4⟩
            refine ⟨hb4, ?_⟩
            have B4 := Lib.hid (B1.out.drew.trans (hb4.mono hz))
            clear hb4 hX hc1 hc2 hc3
            have hz4 := B4.out.size
            obtain ⟨b3, off3, e3, hb3, hd1, -, -, -⟩ := (HS.out.below B4.out) p d HD.out
            cases e3
            obtain ⟨b5, off5, e5, hb5, hd2, -, -, -⟩ := (HS.out.below B4.out) k ⟨zo, zq, zes, zA, zc, zg⟩ HZ.out
            cases e5
            have zb4 : b < w4.heap.size := by omega
            dsimp only at hd1 hd2
            have hX4 := fun (x : Ext w4) (bb o : Nat) (h : bb < w4.heap.size) => x.cell bb o h
            refine stage_seg _ 0 [5, 6, 7, 8, 9, 10, 11, 12, 13, 14, 15, 16, 17, 18, 19, 20, 21, 22, 23] (by kernel_rfl) (by kernel_rfl) (by kernel_rfl) (by kernel_rfl) ?_
            (simp only [List.map_cons, List.map_nil, List.getElem?_cons_zero, List.getElem?_cons_succ, Option.getD_some]); (repeat (go_big_quiet_step (fail))); (refine wpQuiet_nil ?_)
            refine stage_end (by kernel_rfl) ?_
            clear hX4
            go_wp2_with fail
            go_roundw
            case rel => exact ⟨k + 1, hlt, by go_num, Lib.hid (fun j hj => by
              by_cases hjk : j < k
              · exact HJ.out j hjk
              · obtain rfl : j = k := by omega
                exact HET.out), B4.out⟩
            case measure => simp [intOf]; omega
          · have h4' : zo ≤ d.o := by omega
            have HEF : Hid (dbAt (datL zs) k = false) := Lib.hid (Bool.eq_false_iff.2 (fun h => h4 ((HA.out.1 h).2 d hk0' (by rw [HPK.out]; exact HD.out))))
            clear h4
            go_wp2_with fail
            have hX := fun (x : Ext wr.drew) (bb oo : Nat) (h : bb < wr.heap.size) => (show x.w.cell? ⟨bb, oo, none⟩ = wr.cell? ⟨bb, oo, none⟩ from x.cell bb oo h)
            refine wp_region_staged 24 (by kernel_rfl) (by kernel_rfl) ?_
            refine stage_seg _ 20 [0, 1, 2, 3] (by kernel_rfl) (by kernel_rfl) (by kernel_rfl) (by kernel_rfl) ?_
            (simp only [List.map_cons, List.map_nil, List.getElem?_cons_zero, List.getElem?_cons_succ, Option.getD_some]); (repeat (go_big_quiet_step (fail))); (refine wpQuiet_nil ?_)
            refine stage_call _ 19 4 (by kernel_rfl) (by rfl) (by kernel_rfl) (by rfl) ?_
            go_wp2_with fail
            refine (CV wr.drew (Slb.more (w := wr.drew) HI.out hz)).mono ?_
            clear CV
            rintro e w4 ⟨rfl, hb4⟩
            refine ⟨hb4, ?_⟩
            have B4 := Lib.hid (B1.out.drew.trans (hb4.mono hz))
            clear hb4 hX hc1 hc2 hc3
            have hz4 := B4.out.size
            obtain ⟨b3, off3, e3, hb3, hd1, -, -, -⟩ := (HS.out.below B4.out) p d HD.out
            cases e3
            obtain ⟨b5, off5, e5, hb5, hd2, -, -, -⟩ := (HS.out.below B4.out) k ⟨zo, zq, zes, zA, zc, zg⟩ HZ.out
            cases e5
            have zb4 : b < w4.heap.size := by omega
            dsimp only at hd1 hd2
            have hX4 := fun (x : Ext w4) (bb o : Nat) (h : bb < w4.heap.size) => x.cell bb o h
            refine stage_seg _ 0 [5, 6, 7, 8, 9, 10, 11, 12, 13, 14, 15, 16, 17, 18, 19, 20, 21, 22, 23] (by kernel_rfl) (by kernel_rfl) (by kernel_rfl) (by kernel_rfl) ?_
            (simp only [List.map_cons, List.map_nil, List.getElem?_cons_zero, List.getElem?_cons_succ, Option.getD_some]); (repeat (go_big_quiet_step (fail))); (refine wpQuiet_nil ?_)
            refine stage_end (by kernel_rfl) ?_
            clear hX4
            go_wp2_with fail
            go_ret
            exact ⟨ret_bool (HNO.out hlt HEF.out).symm, B4.out⟩
    · obtain rfl : k = zs.length := by omega
      have HL := Lib.hid (HAL.out HJ.out)
      clear hb
      go_wp2_with fail
      go_ret
      exact ⟨ret_bool HL.out.symm, B1.out⟩

end Go.Proofs.Ytnkohgdfipgdoab
