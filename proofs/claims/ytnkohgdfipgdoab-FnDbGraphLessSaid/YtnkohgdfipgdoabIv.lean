/-
  Contracts over this seat: the program's LsaValid and DbValid.
-/
import Derived.Test.YtnkohgdfipgdoabZc
namespace Go.Proofs.Ytnkohgdfipgdoab
open Go.RowKit Go.Maps

theorem number_any (n : Int) (w : World) :
   Calls Try.prog 81 #[.int .i64 n] w fun e w' => e = .returned (.bool (inB n 0 7)) ∧ Below w.heap.size w w' := by
  go_enter Try.func81, Try.ntmps81
  go_wp2
  all_goals
    go_ret
    exact ⟨ret_bool (by unfold inB; rw [Bool.eq_iff_iff]; simp_all <;> omega), by (repeat (first | exact Below.refl _ _ | (refine Below.alloc ?_ (by first | exact Nat.le_refl _ | omega | (simp; done) | (simp; omega)) _) | (refine Below.setCell ?_ (by first | exact Nat.le_refl _ | omega | (simp; done) | (simp; omega)) _) | exact Below.drew ‹_›))⟩
theorem seqv_any (n : Int) (w : World) :
   Calls Try.prog 82 #[.int .i64 n] w fun e w' => e = .returned (.bool (inB n 1 99)) ∧ Below w.heap.size w w' := by
  go_enter Try.func82, Try.ntmps82
  go_wp2
  all_goals
    go_ret
    exact ⟨ret_bool (by unfold inB; rw [Bool.eq_iff_iff]; simp_all <;> omega), by (repeat (first | exact Below.refl _ _ | (refine Below.alloc ?_ (by first | exact Nat.le_refl _ | omega | (simp; done) | (simp; omega)) _) | (refine Below.setCell ?_ (by first | exact Nat.le_refl _ | omega | (simp; done) | (simp; omega)) _) | exact Below.drew ‹_›))⟩
theorem costv_any (n : Int) (w : World) :
   Calls Try.prog 79 #[.int .i64 n] w fun e w' => e = .returned (.bool (inB n 1 20)) ∧ Below w.heap.size w w' := by
  go_enter Try.func79, Try.ntmps79
  go_wp2
  all_goals
    go_ret
    exact ⟨ret_bool (by unfold inB; rw [Bool.eq_iff_iff]; simp_all <;> omega), by (repeat (first | exact Below.refl _ _ | (refine Below.alloc ?_ (by first | exact Nat.le_refl _ | omega | (simp; done) | (simp; omega)) _) | (refine Below.setCell ?_ (by first | exact Nat.le_refl _ | omega | (simp; done) | (simp; omega)) _) | exact Below.drew ‹_›))⟩
/-- May the neighbour e stand in an announcement of o? -/
def alwB (o : Int) (e : Lb) : Bool := inB e.k 0 7 && !decide (e.k = o) && inB e.a 1 20
theorem alw_any (o q : Int) (v : Value) (e : Lb) (w : World) :
   Calls Try.prog 83 #[.agg #[.int .i64 o, .int .i64 q, v], .agg #[.int .i64 e.k, .int .i64 e.a]] w fun x w' => x = .returned (.bool (alwB o e)) ∧ Below w.heap.size w w' := by
  obtain ⟨ek, ea⟩ := e
  dsimp only
  have hb := Box.new w 54 #[.int .i64 o, .int .i64 q, v]
  have HA := Lib.hid (hb.alloc (.cells #[.int .i64 ek, .int .i64 ea] 56))
  have HE := Lib.hid (Box.new (w.alloc (.cells #[.int .i64 o, .int .i64 q, v] 54)) 56 #[.int .i64 ek, .int .i64 ea])
  have B0 := Lib.hid (show Below w.heap.size w ((w.alloc (.cells #[.int .i64 o, .int .i64 q, v] 54)).alloc (.cells #[.int .i64 ek, .int .i64 ea] 56)) by (repeat (first | exact Below.refl _ _ | (refine Below.alloc ?_ (by first | exact Nat.le_refl _ | omega | (simp; done) | (simp; omega)) _) | (refine Below.setCell ?_ (by first | exact Nat.le_refl _ | omega | (simp; done) | (simp; omega)) _) | exact Below.drew ‹_›)))
  clear hb
  go_enter Try.func83, Try.ntmps83
  go_wp2_with fail
  refine (number_any ek _).mono ?_
  rintro x w1 ⟨rfl, hb1⟩
  have A1 := Lib.hid (HA.out.below hb1 (by first | (simp; done) | (simp; omega)))
  have E1 := Lib.hid (HE.out.below hb1 (by first | (simp; done) | (simp; omega)))
  have B1 := Lib.hid (B0.out.trans (hb1.mono (by simp; omega)))
  have a0 := A1.out.cell 0
  have e0 := E1.out.cell 0
  have e1 := E1.out.cell 1
  have za := A1.out.lt
  have ze := E1.out.lt
  simp only [World.size_alloc, List.getElem?_toArray, List.getElem?_cons_zero, List.getElem?_cons_succ] at a0 e0 e1 za ze
  clear hb1 HA HE B0
  cases h1 : inB ek 0 7 with
  | false =>
    have HV : Hid (alwB o ⟨ek, ea⟩ = false) := Lib.hid (by unfold alwB; rw [h1]; rfl)
    go_wp2_with fail
    go_ret
    exact ⟨ret_bool HV.out.symm, B1.out⟩
  | true =>
    by_cases h2 : ek = o
    · have HV : Hid (alwB o ⟨ek, ea⟩ = false) := Lib.hid (by unfold alwB; rw [decide_eq_true h2]; simp)
      have h2' : (ek != o) = false := by simp [h2]
      go_wp2_with fail
      go_ret
      exact ⟨ret_bool HV.out.symm, B1.out⟩
    · have HV : Hid (alwB o ⟨ek, ea⟩ = inB ea 1 20) := Lib.hid (by unfold alwB; rw [h1, decide_eq_false h2]; rfl)
      have h2' : (ek == o) = false := by simpa using h2
      go_wp2_with fail
      refine (costv_any ea _).mono ?_
      rintro x w2 ⟨rfl, hb2⟩
      have B2 := Lib.hid (B1.out.trans (hb2.mono B1.out.size))
      clear hb2
      go_wp2_with fail
      go_ret
      exact ⟨ret_bool (by rw [HV.out]; simp [h2]), B2.out⟩

theorem endB_bad {o : Int} {es : List Lb} {k : Nat} {e : Lb} (he : es[k]? = some e) (h : alwB o e = false) : endB o es k = false := by
  unfold endB
  rw [he]
  unfold alwB at h
  dsimp only
  rw [h]
  rfl
theorem endB_first {o : Int} {es : List Lb} {e : Lb} (he : es[0]? = some e) (h : alwB o e = true) : endB o es 0 = true := by
  unfold endB
  rw [he]
  unfold alwB at h
  dsimp only
  rw [h]
  simp
theorem endB_next {o : Int} {es : List Lb} {k : Nat} {e d : Lb} (he : es[k]? = some e) (hd : es[k - 1]? = some d) (hk : 0 < k) (h : alwB o e = true) : endB o es k = decide (d.k < e.k) := by
  unfold endB
  rw [he]
  unfold alwB at h
  dsimp only
  rw [h, hd]
  simp
  omega
theorem lsav_rel {o q : Int} {v : Value} {es : List Lb} {w wr w1 : World} {k : Nat} {ob : Obj} (hb : Below w.heap.size w wr) (hg : Box wr w.heap.size 54 #[.int .i64 o, .int .i64 q, v]) (hall : ∀ j, j < k → endB o es j = true)
    (hw : Below (wr.alloc ob).heap.size (wr.alloc ob) w1) (hok : endB o es k = true) :
    Below w.heap.size w w1 ∧ Hid (Box w1 w.heap.size 54 #[.int .i64 o, .int .i64 q, v]) ∧ Hid (∀ j, j < k + 1 → endB o es j = true) := by
  have hw2 : Below wr.heap.size wr w1 := ((Below.refl _ _).alloc (Nat.le_refl _) _).trans (hw.mono (by simp))
  refine ⟨hb.trans (hw2.mono hb.size), Lib.hid (hg.below hw2 hg.lt), Lib.hid fun j hj => ?_⟩
  by_cases h : j < k
  · exact hall j h
  · obtain rfl : j = k := by omega
    exact hok

set_option maxRecDepth 100000 in
set_option maxHeartbeats 1600000 in
theorem lsaValid_impl (z : Lz) (w : World) (hm : z.es.length ≤ 2000000) (hS : Slb w w.heap.size z.A z.es) :
   Calls Try.prog 57 #[z.v] w fun e w' => e = .returned (.bool (laB z.d)) ∧ Below w.heap.size w w' := by
  obtain ⟨o, q, es, A, c, g⟩ := z
  dsimp only at *
  have HB := Lib.hid (show Below w.heap.size w (w.alloc (.cells #[.int .i64 o, .int .i64 q, .slice A es.length c] 54)) by (repeat (first | exact Below.refl _ _ | (refine Below.alloc ?_ (by first | exact Nat.le_refl _ | omega | (simp; done) | (simp; omega)) _) | (refine Below.setCell ?_ (by first | exact Nat.le_refl _ | omega | (simp; done) | (simp; omega)) _) | exact Below.drew ‹_›)))
  have HG := Lib.hid (Box.new w 54 #[.int .i64 o, .int .i64 q, .slice A es.length c])
  have H1 := Lib.hid hS
  have HNO : Hid (∀ {k : Nat}, k < es.length → endB o es k = false → laB ⟨o, q, es⟩ = false) := Lib.hid (fun hk h => laB_no (l := ⟨o, q, es⟩) hk h)
  have HAL : Hid ((∀ k, k < es.length → endB o es k = true) → laB ⟨o, q, es⟩ = (inB o 0 7 && inB q 1 99)) := Lib.hid (fun h => laB_all (l := ⟨o, q, es⟩) h)
  have HV : Hid (laB ⟨o, q, es⟩ = ((List.range es.length).all (endB o es) && inB o 0 7 && inB q 1 99)) := Lib.hid rfl
  clear hS
  go_enter Try.func57, Try.ntmps57
  go_wp2_with fail
  refine (number_any o _).mono ?_
  rintro x w1 ⟨rfl, hb1⟩
  have G1 := Lib.hid (HG.out.below hb1 (by simp))
  have B1 := Lib.hid (HB.out.trans (hb1.mono (by simp)))
  obtain ⟨zg, f0, f1, f2, -, -, -⟩ := G1.out.three
  clear hb1 HG HB
  cases h1 : inB o 0 7 with
  | false =>
    have hv := HV.out
    rw [h1, Bool.and_false, Bool.false_and] at hv
    go_wp2_with fail
    go_ret
    exact ⟨ret_bool hv.symm, B1.out⟩
  | true =>
    go_wp2_with fail
    refine (seqv_any q _).mono ?_
    rintro x w2 ⟨rfl, hb2⟩
    have G2 := Lib.hid (G1.out.below hb2 G1.out.lt)
    have B2 := Lib.hid (B1.out.trans (hb2.mono B1.out.size))
    clear hb2 G1 B1 zg f0 f1 f2
    obtain ⟨zg, f0, f1, f2, -, -, -⟩ := G2.out.three
    cases h2 : inB q 1 99 with
    | false =>
      have hv := HV.out
      rw [h2, Bool.and_false] at hv
      go_wp2_with fail
      go_ret
      exact ⟨ret_bool hv.symm, B2.out⟩
    | true =>
      rw [h1, h2] at HAL
      clear HV h1 h2
      go_wp2_with fail
      go_loopw [18] (fun i wr => ∃ k : Nat, k ≤ es.length ∧ i = .int .i64 (k : Int) ∧ Below w.heap.size w wr ∧ Hid (Box wr w.heap.size 54 #[.int .i64 o, .int .i64 q, .slice A es.length c]) ∧ Hid (∀ j, j < k → endB o es j = true)) (fun i _ => es.length - (intOf i).toNat)
      case atStart => exact ⟨0, Nat.zero_le _, rfl, B2.out, G2, Lib.hid (fun j h => by omega)⟩
      case round =>
        obtain ⟨k, hk, rfl, hb, G3, HA⟩ := hrel
        clear B2 G2 zg f0 f1 f2
        obtain ⟨zg, f0, f1, f2, -, -, -⟩ := G3.out.three
        by_cases hlt : k < es.length
        · obtain ⟨l, hl⟩ : ∃ x, es[k]? = some x := ⟨_, List.getElem?_eq_getElem hlt⟩
          obtain ⟨b, off, rfl, hbb, hc1, hc2⟩ := (H1.out.below hb) k l hl
          have HL := Lib.hid hl
          have hbb1 : b < wr.heap.size := by omega
          clear hl
          have hXo := fun (x : Ext (wr.alloc (.cells #[.int .i64 l.k, .int .i64 l.a] 56))) (bb o : Nat) (h : bb < wr.heap.size) => x.old bb o h
          have hXn := fun (x : Ext (wr.alloc (.cells #[.int .i64 l.k, .int .i64 l.a] 56))) (o : Nat) => x.new o
          by_cases hal : alwB o l = true
          · have C1 : ∀ W : World, Calls Try.prog 83 #[.agg #[.int .i64 o, .int .i64 q, .slice (some ⟨b, off, none⟩) es.length c], .agg #[.int .i64 l.k, .int .i64 l.a]] W fun e w' => e = .returned (.bool true) ∧ Below W.heap.size W w' := fun W => by
              have := alw_any o q (.slice (some ⟨b, off, none⟩) es.length c) l W
              rwa [hal] at this
            have HAL2 := Lib.hid hal
            clear hal
            by_cases hk0 : k = 0
            · subst hk0
              simp only [Nat.zero_mul, Nat.add_zero] at hc1 hc2
              go_wp2
              refine wp_region_ext (by kernel_rfl) (by kernel_rfl) ?_
              repeat (go_big_quiet_step (first | (go_at_call 83; exact Calls.ext_of (C1 _))))
              (refine wpQuiet_nil ?_); (rintro _ ⟨X, rfl⟩); (have hw1 := X.below); (generalize X.w = w1 at *); (clear X)
              clear hXo hXn
              go_wp2
              go_roundw
              case rel => exact ⟨1, hlt, rfl, lsav_rel hb G3.out HA.out hw1 (endB_first HL.out HAL2.out)⟩
              case measure => simp [intOf]; omega
            · obtain ⟨m, hmm⟩ : ∃ x, es[k - 1]? = some x := ⟨_, List.getElem?_eq_getElem (by omega)⟩
              obtain ⟨b', off', hbe, hbb', hd1, hd2⟩ := (H1.out.below hb) (k - 1) m hmm
              cases hbe
              have HM := Lib.hid hmm
              clear hmm
              have hkn : 0 < k := by omega
              go_wp2
              refine wp_region_ext (by kernel_rfl) (by kernel_rfl) ?_
              repeat (go_big_quiet_step (first | (go_at_call 83; exact Calls.ext_of (C1 _))))
              (refine wpQuiet_nil ?_); (rintro _ ⟨X, rfl⟩); (have hw1 := X.below); (generalize X.w = w1 at *); (clear X)
              clear hXo hXn
              go_wp2
              · go_ret
                exact ⟨ret_bool (HNO.out hlt (by rw [endB_next HL.out HM.out hkn HAL2.out]; simpa using ‹_›)).symm, hb.trans (Below.trans (by (repeat (first | exact Below.refl _ _ | (refine Below.alloc ?_ (by first | exact Nat.le_refl _ | omega | (simp; done) | (simp; omega)) _) | (refine Below.setCell ?_ (by first | exact Nat.le_refl _ | omega | (simp; done) | (simp; omega)) _) | exact Below.drew ‹_›))) (hw1.mono (by simp; omega)))⟩
              · go_roundw
                case rel => exact ⟨k + 1, hlt, by go_num, lsav_rel hb G3.out HA.out hw1 (by rw [endB_next HL.out HM.out hkn HAL2.out]; simpa using ‹_›)⟩
                case measure => simp [intOf]; omega
          · have C1 : ∀ W : World, Calls Try.prog 83 #[.agg #[.int .i64 o, .int .i64 q, .slice (some ⟨b, off, none⟩) es.length c], .agg #[.int .i64 l.k, .int .i64 l.a]] W fun e w' => e = .returned (.bool false) ∧ Below W.heap.size W w' := fun W => by
              have := alw_any o q (.slice (some ⟨b, off, none⟩) es.length c) l W
              rwa [show alwB o l = false by simpa using hal] at this
            have HAL2 : Hid (alwB o l = false) := Lib.hid (by simpa using hal)
            clear hal
            go_wp2
            refine wp_region_ext (by kernel_rfl) (by kernel_rfl) ?_
            repeat (go_big_quiet_step (first | (go_at_call 83; exact Calls.ext_of (C1 _))))
            (refine wpQuiet_nil ?_); (rintro _ ⟨X, rfl⟩); (have hw1 := X.below); (generalize X.w = w1 at *); (clear X)
            clear hXo hXn
            go_wp2
            go_ret
            exact ⟨ret_bool (HNO.out hlt (endB_bad HL.out HAL2.out)).symm, hb.trans (Below.trans (by (repeat (first | exact Below.refl _ _ | (refine Below.alloc ?_ (by first | exact Nat.le_refl _ | omega | (simp; done) | (simp; omega)) _) | (refine Below.setCell ?_ (by first | exact Nat.le_refl _ | omega | (simp; done) | (simp; omega)) _) | exact Below.drew ‹_›))) (hw1.mono (by simp; omega)))⟩
        · go_wp2
          go_ret
          exact ⟨ret_bool (by rw [HAL.out (fun j hj => HA.out j (by omega))]; rfl), hb⟩

end Go.Proofs.Ytnkohgdfipgdoab
