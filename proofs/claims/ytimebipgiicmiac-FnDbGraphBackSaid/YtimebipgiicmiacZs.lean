/-
  Contracts over this seat: how the laws compare announcements.
-/
import Derived.Test.YtimebipgiicmiacZr
namespace Go.Proofs.Ytimebipgiicmiac
open Go.RowKit Go.Maps

deriving instance DecidableEq for Lb
deriving instance DecidableEq for La
theorem take_ne {α : Type} {xs ys : List α} {k : Nat} {x y : α} (hx : xs[k]? = some x) (hy : ys[k]? = some y) (h : x ≠ y) : xs ≠ ys := by
  rintro rfl
  rw [hx] at hy
  exact h (Option.some.inj hy)
set_option maxRecDepth 100000 in
set_option maxHeartbeats 1600000 in
theorem sameEnds_any (A1 A2 : Option Addr) (xs ys : List Lb) (c1 c2 : Nat) (w : World) (hm : xs.length ≤ 2000000) (h1 : Slb w w.heap.size A1 xs) (h2 : Slb w w.heap.size A2 ys) :
   Calls Try.prog 53 #[.slice A1 xs.length c1, .slice A2 ys.length c2] w fun e w' => e = .returned (.bool (decide (xs = ys))) ∧ Below w.heap.size w w' := by
  have R1 := Lib.hid h1
  have R2 := Lib.hid h2
  clear h1 h2
  by_cases hl : xs.length = ys.length
  · have HLE := Lib.hid hl
    have hlb : ((xs.length : Int) != (ys.length : Int)) = false := by simp; omega
    generalize hn : ys.length = m at *
    have HM := Lib.hid hn
    clear hn hl
    go_enter Try.func53, Try.ntmps53
    go_wp2_with fail
    go_loopw [5] (fun i wr => ∃ k : Nat, k ≤ xs.length ∧ i = .int .i64 k ∧ Hid (∀ j, j < k → xs[j]? = ys[j]?) ∧ Below w.heap.size w wr) (fun i _ => xs.length - (intOf i).toNat)
    case atStart => exact ⟨0, Nat.zero_le _, rfl, Lib.hid (fun j h => by omega), Below.refl _ _⟩
    case round =>
      obtain ⟨k, hk, rfl, HJ, hb⟩ := hrel
      have hky : k < xs.length → k < ys.length := fun h => by have := HLE.out; have := HM.out; omega
      have hkm : k < xs.length → k < m := fun h => by have := HLE.out; omega
      have B1 := Lib.hid hb
      have hz := hb.size
      by_cases hlt : k < xs.length
      · obtain ⟨x, hx⟩ : ∃ x, xs[k]? = some x := ⟨_, List.getElem?_eq_getElem hlt⟩
        obtain ⟨y, hy⟩ : ∃ y, ys[k]? = some y := ⟨_, List.getElem?_eq_getElem (hky hlt)⟩
        obtain ⟨b, off, rfl, hbb, hc1, hc2⟩ := (R1.out.below hb) k x hx
        obtain ⟨b', off', rfl, hbb', hd1, hd2⟩ := (R2.out.below hb) k y hy
        have hm' := hkm hlt
        have z1 : b < wr.heap.size := by omega
        have z2 : b' < wr.heap.size := by omega
        have HX := Lib.hid hx
        have HY := Lib.hid hy
        obtain ⟨xk, xa⟩ := x
        obtain ⟨yk, ya⟩ := y
        dsimp only at hc1 hc2 hd1 hd2
        clear hx hy hb hky hkm
        by_cases e1 : xk = yk
        · subst e1
          by_cases e2 : xa = ya
          · subst e2
            go_wp2_with fail
            try go_quiet (fail)
            try go_wp2
            go_roundw
            case rel => exact ⟨k + 1, hlt, by go_num, Lib.hid (fun j hj => by
              by_cases hjk : j < k
              · exact HJ.out j hjk
              · obtain rfl : j = k := by omega
                rw [HX.out, HY.out]), by first | exact B1.out | exact B1.out.drew | exact ⟨B1.out.os, B1.out.tape, B1.out.output, B1.out.size, B1.out.block⟩⟩
            case measure => simp [intOf]; omega
          · have e2' : (xa == ya) = false := by simpa using e2
            have HF : Hid (decide (xs = ys) = false) := Lib.hid (decide_eq_false (take_ne HX.out HY.out (fun h => e2 (congrArg Lb.a h))))
            clear e2
            go_wp2_with fail
            try go_quiet (fail)
            try go_wp2
            go_ret
            exact ⟨by rw [HF.out]; rfl, by first | exact B1.out | exact B1.out.drew | exact ⟨B1.out.os, B1.out.tape, B1.out.output, B1.out.size, B1.out.block⟩⟩
        · have e1' : (xk == yk) = false := by simpa using e1
          have HF : Hid (decide (xs = ys) = false) := Lib.hid (decide_eq_false (take_ne HX.out HY.out (fun h => e1 (congrArg Lb.k h))))
          clear e1
          go_wp2_with fail
          try go_quiet (fail)
          try go_wp2
          go_ret
          exact ⟨by rw [HF.out]; rfl, by first | exact B1.out | exact B1.out.drew | exact ⟨B1.out.os, B1.out.tape, B1.out.output, B1.out.size, B1.out.block⟩⟩
      · have hge : xs.length ≤ k := by omega
        have HF : Hid (decide (xs = ys) = true) := Lib.hid (decide_eq_true (List.ext_getElem? fun j => by
          by_cases hj : j < k
          · exact HJ.out j hj
          · have := HLE.out
            have := HM.out
            rw [List.getElem?_eq_none (by omega), List.getElem?_eq_none (by omega)]))
        clear hb hky hkm
        go_wp2_with fail
        go_ret
        exact ⟨by rw [HF.out]; rfl, B1.out⟩
  · have hlb : ((xs.length : Int) != (ys.length : Int)) = true := by simp; omega
    have HF : Hid (decide (xs = ys) = false) := Lib.hid (decide_eq_false (fun h => hl (by rw [h])))
    clear hl
    go_enter Try.func53, Try.ntmps53
    go_wp2_with fail
    go_ret
    exact ⟨by rw [HF.out]; rfl, Below.refl _ _⟩

set_option maxRecDepth 100000 in
set_option maxHeartbeats 1600000 in
theorem sameLsa_any (x y : Lz) (w : World) (hm : x.es.length ≤ 2000000) (h1 : Slb w w.heap.size x.A x.es) (h2 : Slb w w.heap.size y.A y.es) :
   Calls Try.prog 19 #[x.v, y.v] w fun e w' => e = .returned (.bool (decide (x.d = y.d))) ∧ Below w.heap.size w w' := by
  obtain ⟨xo, xq, xes, xA, xc, xg⟩ := x
  obtain ⟨yo, yq, yes, yA, yc, yg⟩ := y
  dsimp only at *
  have hb : Below w.heap.size w ((w.alloc (.cells #[.int .i64 xo, .int .i64 xq, .slice xA xes.length xc] 28)).alloc (.cells #[.int .i64 yo, .int .i64 yq, .slice yA yes.length yc] 28)) := by (repeat (first | exact Below.refl _ _ | (refine Below.alloc ?_ (by first | exact Nat.le_refl _ | omega | (simp; done) | (simp; omega)) _) | (refine Below.setCell ?_ (by first | exact Nat.le_refl _ | omega | (simp; done) | (simp; omega)) _) | exact Below.drew ‹_›))
  have CE := sameEnds_any xA yA xes yes xc yc _ hm ((h1.below hb).more hb.size) ((h2.below hb).more hb.size)
  have HB := Lib.hid hb
  clear h1 h2 hb
  by_cases ho : xo = yo
  · subst ho
    by_cases hq : xq = yq
    · subst hq
      have HF : Hid (decide ((⟨xo, xq, xes⟩ : La) = ⟨xo, xq, yes⟩) = decide (xes = yes)) := Lib.hid (by simp)
      generalize decide (xes = yes) = bb at *
      go_enter Try.func19, Try.ntmps19
      go_wp2_with fail
      refine CE.mono ?_
      rintro e w1 ⟨rfl, hb1⟩
      have B1 := Lib.hid (HB.out.trans (hb1.mono HB.out.size))
      clear hb1
      go_wp2_with fail
      go_ret
      exact ⟨by rw [HF.out]; rfl, B1.out⟩
    · have hq' : (xq == yq) = false := by simpa using hq
      have HF : Hid (decide ((⟨xo, xq, xes⟩ : La) = ⟨xo, yq, yes⟩) = false) := Lib.hid (by simp [hq])
      clear hq CE
      go_enter Try.func19, Try.ntmps19
      go_wp2_with fail
      go_ret
      exact ⟨by rw [HF.out]; rfl, HB.out⟩
  · have ho' : (xo == yo) = false := by simpa using ho
    have HF : Hid (decide ((⟨xo, xq, xes⟩ : La) = ⟨yo, yq, yes⟩) = false) := Lib.hid (by simp [ho])
    clear ho CE
    go_enter Try.func19, Try.ntmps19
    go_wp2_with fail
    go_ret
    exact ⟨by rw [HF.out]; rfl, HB.out⟩

theorem datL_ne {xs ys : List Lz} {k : Nat} {x y : Lz} (hx : xs[k]? = some x) (hy : ys[k]? = some y) (h : x.d ≠ y.d) : datL xs ≠ datL ys :=
  take_ne (k := k) (x := x.d) (y := y.d) (by unfold datL; rw [List.getElem?_map, hx]; rfl) (by unfold datL; rw [List.getElem?_map, hy]; rfl) h

theorem seqL_find (zs : List Lz) (o : Int) : seqL (datL zs) o = match findZ zs o with
    | some z => z.q
    | none => 0 := by
  unfold seqL
  rw [findZ_get]
  cases findZ zs o <;> rfl

end Go.Proofs.Ytimebipgiicmiac
