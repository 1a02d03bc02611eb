/-
  Contracts over this seat: slices.Clone of neighbours; the program's map of announcements: made of a list, compared, put.
-/
import Derived.Test.YtnkohgdfipgdoabMl
import Derived.Test.YtnkohgdfipgdoabId
import Derived.Maps.OwnOps
namespace Go.Proofs.Ytnkohgdfipgdoab
open Go.RowKit Go.Maps

/-- Neighbours in memory of their own. -/
def NewE (es : List Lb) (w : World) (e : Ending) (w' : World) : Prop := ∃ A g c, e = .returned (.slice A es.length c) ∧ w.heap.size ≤ g ∧ Owne w' A g es ∧ es.length ≤ c ∧ Below w.heap.size w w'

set_option maxRecDepth 100000 in
theorem clone_ends (A : Option Addr) (es : List Lb) (c : Nat) (w : World) (hm : es.length ≤ 2000000) (h : Slb w w.heap.size A es) :
   Calls Try.prog 71 #[.slice A es.length c] w (NewE es w) := by
  obtain ⟨i0, hi, hz0, hz1, hz2⟩ := info_parts infoEnd
  cases A with
  | none =>
    have he : es = [] := by
      cases es with
      | nil => rfl
      | cons x r => obtain ⟨_, _, h, _⟩ := h 0 x rfl; cases h
    subst he
    have hnil := fun (w : World) => Lib.run_eql_slice_nil (P := Try.prog) w 52 56 none 0 c 0 0 Try.underlying52
    go_enter Try.func71, Try.ntmps71
    go_wp2_with fail
    go_ret
    exact ⟨none, w.heap.size, 0, rfl, Nat.le_refl _, fun h => absurd h (by simp), Nat.le_refl _, Below.refl _ _⟩
  | some ad =>
    have hown := World.ownsRow_made (base := w.heap.size) (e := 56) (size := 2) w #[] 0 (Nat.le_refl _) (by unfold maxLen; omega) rfl
    have HO := Lib.hid hown
    have HN : Hid (∀ j u, (flatB es)[j]? = some u → (w.alloc (.cells #[] 56)).cell? (ad.add j) = some u) := Lib.hid (fun j u hj => by
      cases es with
      | nil => simp [flatB] at hj
      | cons x r =>
        obtain ⟨b, off, e, _⟩ := h 0 x rfl
        cases e
        exact (h.below ((Below.refl w.heap.size w).alloc (Nat.le_refl _) (.cells #[] 56))).flat j u hj)
    clear h hown
    have hnil := fun (w : World) => Lib.run_eql_slice_nil (P := Try.prog) w 52 56 (some ad) es.length c 0 0 Try.underlying52
    go_enter Try.func71, Try.ntmps71
    go_wp2_with (at_builtin; refine wpList_append_own _ rfl _ _ 52 rfl w.heap.size 56 i0 _ 2 16 Try.underlying52 hi hz0 hz1 hz2 rfl (by decide) _ 0 [] rfl HO.out ad es.length c (flatB es) rfl (by rw [flatB_len]) HN.out (flatB_one es) (by unfold maxLen; omega) (by omega) (by simp) ?_; intro v' w1 hown1 hgrow _; simp only [Nat.zero_add, List.nil_append] at hown1; have HW := Lib.hid hown1; have HG := Lib.hid hgrow; clear hown1 hgrow)
    obtain ⟨A', g', c', rfl, hg', _, ho, hc'⟩ := own_slicee HW.out (Nat.le_trans (by simp) HG.out.size)
    go_ret
    exact ⟨A', g', c', rfl, hg', ho, hc', Below.trans (B := w.heap.size) (by (repeat (first | exact Below.refl _ _ | (refine Below.alloc ?_ (by first | exact Nat.le_refl _ | omega | (simp; done) | (simp; omega)) _) | (refine Below.setCell ?_ (by first | exact Nat.le_refl _ | omega | (simp; done) | (simp; omega)) _) | exact Below.drew ‹_›))) ((Below.refl _ _).grown HG.out (by simp) (fun k e => by cases e; exact Nat.le_refl _))⟩

/-- The code of a put. -/
def cmpM (f : Int → Option Lz) (z : Lz) : Int := match f z.o with
  | some x => if x.q < z.q then 0 else if x.q = z.q then 1 else 2
  | none => 0
set_option maxRecDepth 100000 in
set_option maxHeartbeats 800000 in
theorem compare_any (b n : Nat) (f : Int → Option Lz) (z : Lz) (w : World) (ho : 0 ≤ z.o ∧ z.o ≤ 7) (h : OwnM w b n f) :
   Calls Try.prog 43 #[.map (some b), z.v] w fun e w' => e = .returned (.int .i64 (cmpM f z)) ∧ Below w.heap.size w w' := by
  obtain ⟨o, q, es, A, c, g⟩ := z
  dsimp only at *
  have hl := (h.call (show Below w.heap.size w (w.alloc (.cells #[.int .i64 o, .int .i64 q, .slice A es.length c] 54)) by (repeat (first | exact Below.refl _ _ | (refine Below.alloc ?_ (by first | exact Nat.le_refl _ | omega | (simp; done) | (simp; omega)) _) | (refine Below.setCell ?_ (by first | exact Nat.le_refl _ | omega | (simp; done) | (simp; omega)) _) | exact Below.drew ‹_›)))).look (o := o) (by omega)
  cases hf : f o with
  | none =>
    have HV : Hid (cmpM f ⟨o, q, es, A, c, g⟩ = 0) := Lib.hid (by unfold cmpM; rw [hf])
    have hrun := (hl.2 hf).1
    clear hl hf h
    go_enter Try.func43, Try.ntmps43
    go_wp2
    go_ret
    exact ⟨ret_int HV.out.symm, by (repeat (first | exact Below.refl _ _ | (refine Below.alloc ?_ (by first | exact Nat.le_refl _ | omega | (simp; done) | (simp; omega)) _) | (refine Below.setCell ?_ (by first | exact Nat.le_refl _ | omega | (simp; done) | (simp; omega)) _) | exact Below.drew ‹_›))⟩
  | some x =>
    have hrun := (hl.1 x hf).1
    obtain ⟨xo, xq, xes, xA, xc, xg⟩ := x
    have HV : Hid (cmpM f ⟨o, q, es, A, c, g⟩ = if xq < q then 0 else if xq = q then 1 else 2) := Lib.hid (by unfold cmpM; rw [hf])
    try dsimp only at hrun
    clear hl hf h
    by_cases h1 : xq < q
    · have HR : Hid (cmpM f ⟨o, q, es, A, c, g⟩ = 0) := Lib.hid (by rw [HV.out, if_pos h1])
      go_enter Try.func43, Try.ntmps43
      go_wp2
      go_ret
      exact ⟨ret_int HR.out.symm, by (repeat (first | exact Below.refl _ _ | (refine Below.alloc ?_ (by first | exact Nat.le_refl _ | omega | (simp; done) | (simp; omega)) _) | (refine Below.setCell ?_ (by first | exact Nat.le_refl _ | omega | (simp; done) | (simp; omega)) _) | exact Below.drew ‹_›))⟩
    · by_cases h2 : xq = q
      · have HR : Hid (cmpM f ⟨o, q, es, A, c, g⟩ = 1) := Lib.hid (by rw [HV.out, if_neg h1, if_pos h2])
        have h2' : (xq == q) = true := by simp [h2]
        go_enter Try.func43, Try.ntmps43
        go_wp2
        go_ret
        exact ⟨ret_int HR.out.symm, by (repeat (first | exact Below.refl _ _ | (refine Below.alloc ?_ (by first | exact Nat.le_refl _ | omega | (simp; done) | (simp; omega)) _) | (refine Below.setCell ?_ (by first | exact Nat.le_refl _ | omega | (simp; done) | (simp; omega)) _) | exact Below.drew ‹_›))⟩
      · have HR : Hid (cmpM f ⟨o, q, es, A, c, g⟩ = 2) := Lib.hid (by rw [HV.out, if_neg h1, if_neg h2])
        have h2' : (xq == q) = false := by simp [h2]
        go_enter Try.func43, Try.ntmps43
        go_wp2
        go_ret
        exact ⟨ret_int HR.out.symm, by (repeat (first | exact Below.refl _ _ | (refine Below.alloc ?_ (by first | exact Nat.le_refl _ | omega | (simp; done) | (simp; omega)) _) | (refine Below.setCell ?_ (by first | exact Nat.le_refl _ | omega | (simp; done) | (simp; omega)) _) | exact Below.drew ‹_›))⟩

theorem cmpM_put {f : Int → Option Lz} {z : Lz} : (cmpM f z = 0 → putM f z = setM f z) ∧ (cmpM f z ≠ 0 → putM f z = f) := by
  unfold cmpM putM
  cases f z.o with
  | none => exact ⟨fun _ => rfl, fun h => absurd rfl h⟩
  | some x =>
    dsimp only
    by_cases h1 : x.q < z.q
    · rw [if_pos h1, if_pos h1]; exact ⟨fun _ => rfl, fun h => absurd rfl h⟩
    · rw [if_neg h1, if_neg h1]
      refine ⟨fun h => ?_, fun _ => rfl⟩
      split at h <;> omega
/-- What a put leaves. -/
def PutB (b n : Nat) (f : Int → Option Lz) (z : Lz) (w : World) (e : Ending) (w' : World) : Prop :=
  e = .returned (.int .i64 (cmpM f z)) ∧ OwnM w' b (n + 1) (putM f z) ∧ w.grownBy w' (some b)
set_option maxRecDepth 100000 in
set_option maxHeartbeats 800000 in
theorem put_any (b n : Nat) (f : Int → Option Lz) (z : Lz) (w : World) (ho : 0 ≤ z.o ∧ z.o ≤ 7) (hn : n ≤ 2000000) (h : OwnM w b n f) :
   Calls Try.prog 44 #[.map (some b), z.v] w (PutB b n f z w) := by
  have hbl := h.lt
  have hb0 : Below w.heap.size w (w.alloc (.cells #[.int .i64 z.o, .int .i64 z.q, .slice z.A z.es.length z.c] 54)) := by (repeat (first | exact Below.refl _ _ | (refine Below.alloc ?_ (by first | exact Nat.le_refl _ | omega | (simp; done) | (simp; omega)) _) | (refine Below.setCell ?_ (by first | exact Nat.le_refl _ | omega | (simp; done) | (simp; omega)) _) | exact Below.drew ‹_›))
  have HM := Lib.hid (h.call hb0)
  obtain ⟨k, hke⟩ : ∃ k, k = cmpM f z := ⟨_, rfl⟩
  have CC := fun W (h : OwnM W b n f) => compare_any b n f z W ho h
  rw [← hke] at CC
  have HX := Lib.hid (Box.new w 54 #[.int .i64 z.o, .int .i64 z.q, .slice z.A z.es.length z.c])
  have HB := Lib.hid hb0
  have hpp := cmpM_put (f := f) (z := z)
  rw [← hke] at hpp
  have HP := Lib.hid hpp
  have HKE := Lib.hid hke
  have HZ : Hid (∀ w1 : World, OwnM w1 b n f → ∃ w', (Instr.mapUpdate 80 (.map (some b)) (.int .i64 z.o) z.v).run Try.prog w1 = .ok () w' ∧ OwnM w' b (n + 1) (setM f z) ∧ w1.grownBy w' (some b) ∧ w1.heap.size = w'.heap.size) := Lib.hid (fun w1 h1 => h1.store z (by omega) (by unfold maxLen; omega))
  clear h hb0 hpp hke
  obtain ⟨o, q, es, A, c, g⟩ := z
  dsimp only at *
  go_enter Try.func44, Try.ntmps44
  go_wp2_with fail
  refine (CC _ HM.out).mono ?_
  rintro e w1 ⟨rfl, hb1⟩
  have M1 := Lib.hid (HM.out.call hb1)
  have X1 := Lib.hid (HX.out.below hb1 (by simp))
  have B1 := Lib.hid (HB.out.trans (hb1.mono (by simp)))
  clear hb1 HM HX HB CC
  by_cases hk : k = 0
  · have h1 := HP.out.1 hk
    subst hk
    obtain ⟨w2, hrun, hm2, hg2, hs2⟩ := HZ.out w1 M1.out
    have G2 : Hid (w.grownBy w2 (some b)) := Lib.hid (grown_trans ⟨B1.out.os, B1.out.tape, B1.out.output, B1.out.size, fun k hk _ => B1.out.block k hk⟩ hg2)
    have M2 : Hid (OwnM w2 b (n + 1) (putM f ⟨o, q, es, A, c, g⟩)) := Lib.hid (by rw [h1]; exact hm2)
    obtain ⟨zx, x0, x1, x2, -, -, -⟩ := X1.out.three
    clear h1 hm2 hg2 M1 HZ HP
    go_wp2_with fail
    go_ret
    exact ⟨ret_int HKE.out, M2.out, G2.out⟩
  · have h1 := HP.out.2 hk
    have hk' : (k == 0) = false := by simp [hk]
    have M2 : Hid (OwnM w1 b (n + 1) (putM f ⟨o, q, es, A, c, g⟩)) := Lib.hid (by rw [h1]; exact M1.out.mono (by omega))
    clear h1 HZ HP
    go_wp2_with fail
    go_ret
    exact ⟨ret_int HKE.out, M2.out, ⟨B1.out.os, B1.out.tape, B1.out.output, B1.out.size, fun k hk _ => B1.out.block k hk⟩⟩

end Go.Proofs.Ytnkohgdfipgdoab
