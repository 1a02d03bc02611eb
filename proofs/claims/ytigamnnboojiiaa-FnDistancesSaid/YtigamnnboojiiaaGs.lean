/-
  A contract over this seat: the specification's GraphValid answers the Boolean gvB, too.
-/
import Derived.Test.YtigamnnboojiiaaGr
namespace Go.Proofs.Ytigamnnboojiiaa
open Go.RowKit

theorem Ext.olds {wr : World} {o : Obj} (x : Ext (wr.alloc o)) : ∀ (b i : Nat), b < wr.heap.size → x.w.cell? ⟨b, i, none⟩ = wr.cell? ⟨b, i, none⟩ := fun b i h => x.old b i h

theorem allowsB_a {n : Int} {l : Lk} (h : ¬ inB l.a 0 (n - 1) = true) : ¬ allowsB n l = true := by
  unfold allowsB; simp [h]
theorem allowsB_of {n : Int} {l : Lk} (h : inB l.a 0 (n - 1) = true) : allowsB n l = (inB l.b (l.a + 1) (n - 1) && inB l.c 1 20) := by
  unfold allowsB; unfold inB at *; rw [Bool.eq_iff_iff]; simp at *; omega

set_option maxRecDepth 100000 in
set_option maxHeartbeats 800000 in
theorem valid_spec (n : Int) (A : Option Addr) (ls : List Lk) (c : Nat) (w : World) (hm : ls.length ≤ 2000000) (hnl : -9223372036854775808 < n) (hnu : n ≤ 9223372036854775807)
    (h1 : Sl w w.heap.size A ls) :
   Calls Try.prog 37 #[gval n A ls.length c] w fun e w' => e = .returned (.bool (gvB n ls)) ∧ Below w.heap.size w w' := by
  have H1 := Lib.hid h1
  clear h1
  go_enter Try.func37, Try.ntmps37
  go_wp2
  go_loopw [3] (fun i wr => ∃ k : Nat, k ≤ ls.length ∧ i = .int .i64 k ∧ Below w.heap.size w wr ∧ w.heap.size < wr.heap.size ∧ wr.cell? ⟨w.heap.size, 0, none⟩ = some (.int .i64 n) ∧ wr.cell? ⟨w.heap.size, 1, none⟩ = some (.slice A ls.length c) ∧ ∀ j, j < k → okAt n ls j = true) (fun i _ => ls.length - (intOf i).toNat)
  case atStart => exact ⟨0, Nat.zero_le _, rfl, by (repeat (first | exact Below.refl _ _ | (refine Below.alloc ?_ (by first | exact Nat.le_refl _ | omega | (simp; done) | (simp; omega)) _) | (refine Below.setCell ?_ (by first | exact Nat.le_refl _ | omega | (simp; done) | (simp; omega)) _) | exact Below.drew ‹_›)), by simp, by simp [World.cell?_alloc_new], by simp [World.cell?_alloc_new], fun j h => by omega⟩
  case round =>
    obtain ⟨k, hk, rfl, hb, hz, hg0, hg1, hall⟩ := hrel
    have HA := Lib.hid hall
    clear hall
    by_cases hlt : k < ls.length
    · obtain ⟨l, hl⟩ : ∃ x, ls[k]? = some x := ⟨_, List.getElem?_eq_getElem hlt⟩
      obtain ⟨b, off, rfl, hbb, hc1, hc2, hc3⟩ := (H1.out.below hb) k l hl
      have HL := Lib.hid hl
      have hbb1 : b < wr.heap.size := by omega
      clear hl
      by_cases ha : inB l.a 0 (n - 1) = true
      · have ha' : 0 ≤ l.a ∧ l.a ≤ n - 1 := by unfold inB at ha; simpa using ha
        obtain ⟨ha1, ha2⟩ := ha'
        have hAB := allowsB_of ha
        have HAB := Lib.hid hAB
        have Ca : ∀ W : World, Calls Try.prog 54 #[.int .i64 l.a, .int .i64 0, .int .i64 (n - 1)] W fun e w' => e = .returned (.bool true) ∧ W = w' := fun W => by
          have := l6In_any l.a 0 (n - 1) W
          rwa [ha] at this
        clear ha hAB
        go_wp2_with (first | (go_at_call 54; refine (Ca _).mono ?_; clear Ca; rintro e w' ⟨rfl, rfl⟩) | (go_at_call 54; refine (l6In_any _ _ _ _).mono ?_; rintro e w' ⟨rfl, rfl⟩))
        · go_ret
          exact ⟨ret_bool (gvB_no hlt (okAt_bad HL.out (by rw [HAB.out]; simp [show inB l.c 1 20 = false by simpa using ‹(!inB l.c 1 20) = true›]))), hb.trans (by (repeat (first | exact Below.refl _ _ | (refine Below.alloc ?_ (by first | exact Nat.le_refl _ | omega | (simp; done) | (simp; omega)) _) | (refine Below.setCell ?_ (by first | exact Nat.le_refl _ | omega | (simp; done) | (simp; omega)) _) | exact Below.drew ‹_›)))⟩
        · have HAL : Hid (allowsB n l = true) := by
            unfold Hid
            rw [HAB.out]
            simp [show inB l.c 1 20 = true by simpa using ‹(!inB l.c 1 20) = false›, ‹inB l.b (l.a + 1) (n - 1) = true›]
          have hXo := fun (x : Ext (wr.alloc (.cells #[.int .i64 l.a, .int .i64 l.b, .int .i64 l.c] 47))) (bb o : Nat) (h : bb < wr.heap.size) => x.old bb o h
          have hXn := fun (x : Ext (wr.alloc (.cells #[.int .i64 l.a, .int .i64 l.b, .int .i64 l.c] 47))) (o : Nat) => x.new o
          by_cases hk0 : k = 0
          · subst hk0
            simp only [Nat.zero_mul, Nat.add_zero] at hc1 hc2 hc3
            refine wp_region_ext (by kernel_rfl) (by kernel_rfl) ?_
            repeat (go_big_quiet_step (fail))
            (refine wpQuiet_nil ?_); (rintro _ ⟨X, rfl⟩); (have hw1 := X.below); (generalize X.w = w1 at *); (clear X)
            clear hXo hXn
            go_wp2
            go_roundw
            case rel => exact ⟨1, hlt, rfl, valid_rel hb hz hg0 hg1 HA.out hw1 (okAt_zero HL.out HAL.out)⟩
            case measure => simp [intOf]; omega
          · obtain ⟨m, hmm⟩ : ∃ x, ls[k - 1]? = some x := ⟨_, List.getElem?_eq_getElem (by omega)⟩
            obtain ⟨b', off', hbe, hbb', hd1, hd2, hd3⟩ := (H1.out.below hb) (k - 1) m hmm
            cases hbe
            have HM := Lib.hid hmm
            clear hmm
            have hkn : 0 < k := by omega
            by_cases g1 : l.a < m.a
            · refine wp_region_ext (by kernel_rfl) (by kernel_rfl) ?_
              repeat (go_big_quiet_step (fail))
              (refine wpQuiet_nil ?_); (rintro _ ⟨X, rfl⟩); (have hw1 := X.below); (generalize X.w = w1 at *); (clear X)
              clear hXo hXn
              go_wp2
              go_ret
              exact ⟨ret_bool (gvB_no hlt (by rw [okAt_succ HL.out HM.out hkn HAL.out]; unfold beforeB; simp; omega)), hb.trans (Below.trans (by (repeat (first | exact Below.refl _ _ | (refine Below.alloc ?_ (by first | exact Nat.le_refl _ | omega | (simp; done) | (simp; omega)) _) | (refine Below.setCell ?_ (by first | exact Nat.le_refl _ | omega | (simp; done) | (simp; omega)) _) | exact Below.drew ‹_›))) (hw1.mono (by simp; omega)))⟩
            · have g1' : decide (l.a < m.a) = false := by simpa using g1
              have G1 := Lib.hid g1
              clear g1
              by_cases g2 : m.a = l.a
              · have g2' : (m.a == l.a) = true := by simpa using g2
                have G2 := Lib.hid g2
                clear g2
                refine wp_region_ext (by kernel_rfl) (by kernel_rfl) ?_
                repeat (go_big_quiet_step (fail))
                (refine wpQuiet_nil ?_); (rintro _ ⟨X, rfl⟩); (have hw1 := X.below); (generalize X.w = w1 at *); (clear X)
                clear hXo hXn
                go_wp2
                · go_ret
                  have h5 : l.b ≤ m.b := by assumption
                  exact ⟨ret_bool (gvB_no hlt (by rw [okAt_succ HL.out HM.out hkn HAL.out]; unfold beforeB; have := G2.out; simp; omega)), hb.trans (Below.trans (by (repeat (first | exact Below.refl _ _ | (refine Below.alloc ?_ (by first | exact Nat.le_refl _ | omega | (simp; done) | (simp; omega)) _) | (refine Below.setCell ?_ (by first | exact Nat.le_refl _ | omega | (simp; done) | (simp; omega)) _) | exact Below.drew ‹_›))) (hw1.mono (by simp; omega)))⟩
                · go_roundw
                  case rel =>
                    have h5 : m.b < l.b := by omega
                    exact ⟨k + 1, hlt, by go_num, valid_rel hb hz hg0 hg1 HA.out hw1 (by rw [okAt_succ HL.out HM.out hkn HAL.out]; unfold beforeB; have := G2.out; simp; omega)⟩
                  case measure => simp [intOf]; omega
              · have g2' : (m.a == l.a) = false := by simpa using g2
                have G2 := Lib.hid g2
                clear g2
                refine wp_region_ext (by kernel_rfl) (by kernel_rfl) ?_
                repeat (go_big_quiet_step (fail))
                (refine wpQuiet_nil ?_); (rintro _ ⟨X, rfl⟩); (have hw1 := X.below); (generalize X.w = w1 at *); (clear X)
                clear hXo hXn
                go_wp2
                go_roundw
                case rel => exact ⟨k + 1, hlt, by go_num, valid_rel hb hz hg0 hg1 HA.out hw1 (by rw [okAt_succ HL.out HM.out hkn HAL.out]; unfold beforeB; have := G2.out; have := G1.out; simp; omega)⟩
                case measure => simp [intOf]; omega
        · go_ret
          exact ⟨ret_bool (gvB_no hlt (okAt_bad HL.out (by rw [HAB.out]; simp [show inB l.b (l.a + 1) (n - 1) = false by simpa using ‹¬inB l.b (l.a + 1) (n - 1) = true›]))), hb.trans (by (repeat (first | exact Below.refl _ _ | (refine Below.alloc ?_ (by first | exact Nat.le_refl _ | omega | (simp; done) | (simp; omega)) _) | (refine Below.setCell ?_ (by first | exact Nat.le_refl _ | omega | (simp; done) | (simp; omega)) _) | exact Below.drew ‹_›)))⟩
      · have Ca : ∀ W : World, Calls Try.prog 54 #[.int .i64 l.a, .int .i64 0, .int .i64 (n - 1)] W fun e w' => e = .returned (.bool false) ∧ W = w' := fun W => by
          have := l6In_any l.a 0 (n - 1) W
          rwa [show inB l.a 0 (n - 1) = false by simpa using ha] at this
        have HAL := Lib.hid (allowsB_a ha)
        clear ha
        go_wp2_with (go_at_call 54; refine (Ca _).mono ?_; rintro e w' ⟨rfl, rfl⟩)
        go_ret
        exact ⟨ret_bool (gvB_no hlt (okAt_bad HL.out HAL.out)), hb.trans (by (repeat (first | exact Below.refl _ _ | (refine Below.alloc ?_ (by first | exact Nat.le_refl _ | omega | (simp; done) | (simp; omega)) _) | (refine Below.setCell ?_ (by first | exact Nat.le_refl _ | omega | (simp; done) | (simp; omega)) _) | exact Below.drew ‹_›)))⟩
    · go_wp2_with (go_at_call 54; refine (l6In_any _ _ _ _).mono ?_; rintro e w' ⟨rfl, rfl⟩)
      · go_ret
        refine ⟨ret_bool ?_, hb⟩
        have h8 := ‹inB n 1 8 = true›
        by_cases h14 : ls.length ≤ 14
        · rw [← gvB_yes h8 h14 fun j hj => HA.out j (by omega)]
          simp; omega
        · unfold gvB
          simp [h14]
          omega
      · go_ret
        refine ⟨ret_bool ?_, hb⟩
        unfold gvB
        simp [show inB n 1 8 = false by simpa using ‹¬inB n 1 8 = true›]

/-! ### A number of nodes that is not positive -/
theorem neg_rel {n : Int} {v : Value} {w wr w1 : World} {o : Obj} (hb : Below w.heap.size w wr) (hz : w.heap.size < wr.heap.size)
    (hg0 : wr.cell? ⟨w.heap.size, 0, none⟩ = some (.int .i64 n)) (hg1 : wr.cell? ⟨w.heap.size, 1, none⟩ = some v)
    (hw : Below (wr.alloc o).heap.size (wr.alloc o) w1) :
    Below w.heap.size w w1 ∧ w.heap.size < w1.heap.size ∧ w1.cell? ⟨w.heap.size, 0, none⟩ = some (.int .i64 n) ∧ w1.cell? ⟨w.heap.size, 1, none⟩ = some v := by
  have := valid_rel (ls := []) (n := n) (k := 0) hb hz hg0 hg1 (fun _ h => absurd h (by omega)) hw (by simp [okAt])
  exact ⟨this.1, this.2.1, this.2.2.1, this.2.2.2.1⟩

set_option maxRecDepth 100000 in
set_option maxHeartbeats 800000 in
theorem valid_spec_neg (n : Int) (A : Option Addr) (ls : List Lk) (c : Nat) (w : World) (hm : ls.length ≤ 2000000) (hn : n ≤ 0)
    (h1 : Sl w w.heap.size A ls) :
   Calls Try.prog 37 #[gval n A ls.length c] w fun e w' => e = .returned (.bool false) ∧ Below w.heap.size w w' := by
  have H1 := Lib.hid h1
  clear h1
  go_enter Try.func37, Try.ntmps37
  go_wp2
  go_loopw [3] (fun i wr => ∃ k : Nat, k ≤ ls.length ∧ i = .int .i64 k ∧ Below w.heap.size w wr ∧ w.heap.size < wr.heap.size ∧ wr.cell? ⟨w.heap.size, 0, none⟩ = some (.int .i64 n) ∧ wr.cell? ⟨w.heap.size, 1, none⟩ = some (.slice A ls.length c)) (fun i _ => ls.length - (intOf i).toNat)
  case atStart => exact ⟨0, Nat.zero_le _, rfl, by (repeat (first | exact Below.refl _ _ | (refine Below.alloc ?_ (by first | exact Nat.le_refl _ | omega | (simp; done) | (simp; omega)) _) | (refine Below.setCell ?_ (by first | exact Nat.le_refl _ | omega | (simp; done) | (simp; omega)) _) | exact Below.drew ‹_›)), by simp, by simp [World.cell?_alloc_new], by simp [World.cell?_alloc_new]⟩
  case round =>
    obtain ⟨k, hk, rfl, hb, hz, hg0, hg1⟩ := hrel
    by_cases hlt : k < ls.length
    · obtain ⟨l, hl⟩ : ∃ x, ls[k]? = some x := ⟨_, List.getElem?_eq_getElem hlt⟩
      obtain ⟨b, off, rfl, hbb, hc1, hc2, hc3⟩ := (H1.out.below hb) k l hl
      have hbb1 : b < wr.heap.size := by omega
      clear hl
      go_wp2_with (go_at_call 54; refine (l6In_any _ _ _ _).mono ?_; rintro e w' ⟨rfl, rfl⟩)
      · go_ret
        exact ⟨rfl, hb.trans (by (repeat (first | exact Below.refl _ _ | (refine Below.alloc ?_ (by first | exact Nat.le_refl _ | omega | (simp; done) | (simp; omega)) _) | (refine Below.setCell ?_ (by first | exact Nat.le_refl _ | omega | (simp; done) | (simp; omega)) _) | exact Below.drew ‹_›)))⟩
      · have hXo := fun (x : Ext (wr.alloc (.cells #[.int .i64 l.a, .int .i64 l.b, .int .i64 l.c] 47))) (bb o : Nat) (h : bb < wr.heap.size) => x.old bb o h
        have hXn := fun (x : Ext (wr.alloc (.cells #[.int .i64 l.a, .int .i64 l.b, .int .i64 l.c] 47))) (o : Nat) => x.new o
        by_cases hk0 : k = 0
        · subst hk0
          simp only [Nat.zero_mul, Nat.add_zero] at hc1 hc2 hc3
          refine wp_region_ext (by kernel_rfl) (by kernel_rfl) ?_
          repeat (go_big_quiet_step (fail))
          (refine wpQuiet_nil ?_); (rintro _ ⟨X, rfl⟩); (have hw1 := X.below); (generalize X.w = w1 at *); (clear X)
          clear hXo hXn
          go_wp2
          go_roundw
          case rel => exact ⟨1, hlt, rfl, neg_rel hb hz hg0 hg1 hw1⟩
          case measure => simp [intOf]; omega
        · obtain ⟨m, hmm⟩ : ∃ x, ls[k - 1]? = some x := ⟨_, List.getElem?_eq_getElem (by omega)⟩
          obtain ⟨b', off', hbe, hbb', hd1, hd2, hd3⟩ := (H1.out.below hb) (k - 1) m hmm
          cases hbe
          clear hmm
          have hkn : 0 < k := by omega
          by_cases g1 : l.a < m.a
          · refine wp_region_ext (by kernel_rfl) (by kernel_rfl) ?_
            repeat (go_big_quiet_step (fail))
            (refine wpQuiet_nil ?_); (rintro _ ⟨X, rfl⟩); (have hw1 := X.below); (generalize X.w = w1 at *); (clear X)
            clear hXo hXn
            go_wp2
            go_ret
            exact ⟨rfl, hb.trans (Below.trans (by (repeat (first | exact Below.refl _ _ | (refine Below.alloc ?_ (by first | exact Nat.le_refl _ | omega | (simp; done) | (simp; omega)) _) | (refine Below.setCell ?_ (by first | exact Nat.le_refl _ | omega | (simp; done) | (simp; omega)) _) | exact Below.drew ‹_›))) (hw1.mono (by simp; omega)))⟩
          · have g1' : decide (l.a < m.a) = false := by simpa using g1
            clear g1
            by_cases g2 : m.a = l.a
            · have g2' : (m.a == l.a) = true := by simpa using g2
              clear g2
              refine wp_region_ext (by kernel_rfl) (by kernel_rfl) ?_
              repeat (go_big_quiet_step (fail))
              (refine wpQuiet_nil ?_); (rintro _ ⟨X, rfl⟩); (have hw1 := X.below); (generalize X.w = w1 at *); (clear X)
              clear hXo hXn
              go_wp2
              · go_ret
                exact ⟨rfl, hb.trans (Below.trans (by (repeat (first | exact Below.refl _ _ | (refine Below.alloc ?_ (by first | exact Nat.le_refl _ | omega | (simp; done) | (simp; omega)) _) | (refine Below.setCell ?_ (by first | exact Nat.le_refl _ | omega | (simp; done) | (simp; omega)) _) | exact Below.drew ‹_›))) (hw1.mono (by simp; omega)))⟩
              · go_roundw
                case rel => exact ⟨k + 1, hlt, by go_num, neg_rel hb hz hg0 hg1 hw1⟩
                case measure => simp [intOf]; omega
            · have g2' : (m.a == l.a) = false := by simpa using g2
              clear g2
              refine wp_region_ext (by kernel_rfl) (by kernel_rfl) ?_
              repeat (go_big_quiet_step (fail))
              (refine wpQuiet_nil ?_); (rintro _ ⟨X, rfl⟩); (have hw1 := X.below); (generalize X.w = w1 at *); (clear X)
              clear hXo hXn
              go_wp2
              go_roundw
              case rel => exact ⟨k + 1, hlt, by go_num, neg_rel hb hz hg0 hg1 hw1⟩
              case measure => simp [intOf]; omega
      · go_ret
        exact ⟨rfl, hb.trans (by (repeat (first | exact Below.refl _ _ | (refine Below.alloc ?_ (by first | exact Nat.le_refl _ | omega | (simp; done) | (simp; omega)) _) | (refine Below.setCell ?_ (by first | exact Nat.le_refl _ | omega | (simp; done) | (simp; omega)) _) | exact Below.drew ‹_›)))⟩
      · go_ret
        exact ⟨rfl, hb.trans (by (repeat (first | exact Below.refl _ _ | (refine Below.alloc ?_ (by first | exact Nat.le_refl _ | omega | (simp; done) | (simp; omega)) _) | (refine Below.setCell ?_ (by first | exact Nat.le_refl _ | omega | (simp; done) | (simp; omega)) _) | exact Below.drew ‹_›)))⟩
    · have hf : ∀ W : World, Calls Try.prog 54 #[.int .i64 n, .int .i64 1, .int .i64 8] W fun e w' => e = .returned (.bool false) ∧ W = w' := fun W => by
        have := l6In_any n 1 8 W
        rwa [show inB n 1 8 = false by unfold inB; simp; omega] at this
      go_wp2_with (go_at_call 54; refine (hf _).mono ?_; rintro e w' ⟨rfl, rfl⟩)
      go_ret
      exact ⟨rfl, hb⟩

/-- Whatever the number of nodes. -/
theorem valid_spec_any (n : Int) (A : Option Addr) (ls : List Lk) (c : Nat) (w : World) (hm : ls.length ≤ 2000000) (hnu : n ≤ 9223372036854775807)
    (h1 : Sl w w.heap.size A ls) :
   Calls Try.prog 37 #[gval n A ls.length c] w fun e w' => e = .returned (.bool (gvB n ls)) ∧ Below w.heap.size w w' := by
  by_cases h : 0 < n
  · exact valid_spec n A ls c w hm (by omega) hnu h1
  · have : gvB n ls = false := by unfold gvB inB; simp; omega
    rw [this]
    exact valid_spec_neg n A ls c w hm (by omega) h1

end Go.Proofs.Ytigamnnboojiiaa
