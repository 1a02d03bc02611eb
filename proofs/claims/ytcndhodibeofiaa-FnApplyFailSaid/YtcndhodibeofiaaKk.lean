/-
  Contracts over this seat: the greatest of candidates by a comparison that is a method value.
-/
import Derived.Test.YtcndhodibeofiaaKj
import Derived.Test.YtcndhodibeofiaaKf
namespace Go.Proofs.Ytcndhodibeofiaa
open Go.RowKit Go.Maps

theorem LexO.total {o : Int} {x y : Lk} (h : ¬ LexO o x y) : LexO o y x := by unfold LexO LexLe at *; omega
theorem LexO.trans {o : Int} {x y z : Lk} (h : LexO o x y) (h' : LexO o y z) : LexO o x z := by unfold LexO LexLe at *; omega
theorem LexO.refl (o : Int) (x : Lk) : LexO o x x := by unfold LexO LexLe; omega
/-- m is the greatest of the first k. -/
def Mx (o : Int) (xs : List Lk) (k : Nat) (m : Lk) : Prop := m ∈ xs ∧ ∀ d ∈ xs.take k, LexO o d m
theorem Mx.start (o : Int) {xs : List Lk} {x : Lk} (h : xs[0]? = some x) : Mx o xs 1 x := by
  refine ⟨List.mem_of_getElem? h, fun d hd => ?_⟩
  cases xs with
  | nil => simp at h
  | cons a r =>
    simp at h hd
    subst h
    subst hd
    exact LexO.refl _ _
theorem Mx.stay {o : Int} {xs : List Lk} {k : Nat} {m x : Lk} (h : Mx o xs k m) (hx : xs[k]? = some x) (hl : LexO o x m) : Mx o xs (k + 1) m := by
  refine ⟨h.1, fun d hd => ?_⟩
  rw [List.take_add_one, hx] at hd
  rcases List.mem_append.1 hd with hd | hd
  · exact h.2 d hd
  · simp at hd
    subst hd
    exact hl
theorem Mx.next {o : Int} {xs : List Lk} {k : Nat} {m x : Lk} (h : Mx o xs k m) (hx : xs[k]? = some x) (hl : ¬ LexO o x m) : Mx o xs (k + 1) x := by
  refine ⟨List.mem_of_getElem? hx, fun d hd => ?_⟩
  rw [List.take_add_one, hx] at hd
  rcases List.mem_append.1 hd with hd | hd
  · exact (h.2 d hd).trans (LexO.total hl)
  · simp at hd
    subst hd
    exact LexO.refl _ _

set_option maxRecDepth 100000 in
set_option maxHeartbeats 4000000 in
theorem maxf_any (o : Int) (A : Option Addr) (xs : List Lk) (c : Nat) (w : World) (hm : xs.length ≤ 1048576) (h0 : 0 < xs.length) (hS : Sl w w.heap.size A xs) :
   Calls Try.prog 39 #[.slice A xs.length c, .func (.func 40) #[.int .i64 o] #[]] w fun e w' => (∃ m, e = .returned (cdV m) ∧ m ∈ xs ∧ ∀ d ∈ xs, LexO o d m) ∧ Below w.heap.size w w' := by
  have HS := Lib.hid hS
  obtain ⟨y, hy⟩ : ∃ y, xs[0]? = some y := ⟨_, List.getElem?_eq_getElem h0⟩
  obtain ⟨b, off, rfl, hbb, hc0, hc1, hc2⟩ := hS 0 y hy
  have HY := Lib.hid hy
  clear hy hS
  obtain ⟨ya, yb, yc⟩ := y
  dsimp only at hc0 hc1 hc2
  simp only [Nat.zero_mul, Nat.add_zero] at hc0 hc1 hc2
  have hn1 : ¬ (xs.length : Int) < 1 := by omega
  go_enter Try.func39, Try.ntmps39
  go_wp2_with fail
  have K1 : Box ((w.alloc (.cells #[.int .i64 0, .int .i64 0, .int .i64 0] 36)).alloc (.cells #[.int .i64 ya, .int .i64 yb, .int .i64 yc] 36)) w.heap.size 36 #[.int .i64 0, .int .i64 0, .int .i64 0] := (Box.new w _ _).alloc _
  have K2 : Box ((w.alloc (.cells #[.int .i64 0, .int .i64 0, .int .i64 0] 36)).alloc (.cells #[.int .i64 ya, .int .i64 yb, .int .i64 yc] 36)) (w.heap.size + 1) 36 #[.int .i64 ya, .int .i64 yb, .int .i64 yc] := by have := Box.new (w.alloc (.cells #[.int .i64 0, .int .i64 0, .int .i64 0] 36)) 36 #[.int .i64 ya, .int .i64 yb, .int .i64 yc]; simpa using this
  have hw0 : Below w.heap.size w ((w.alloc (.cells #[.int .i64 0, .int .i64 0, .int .i64 0] 36)).alloc (.cells #[.int .i64 ya, .int .i64 yb, .int .i64 yc] 36)) := by (repeat (first | exact Below.refl _ _ | (refine Below.alloc ?_ (by first | exact Nat.le_refl _ | omega | (simp; done) | (simp; omega)) _) | (refine Below.setCell ?_ (by first | exact Nat.le_refl _ | omega | (simp; done) | (simp; omega)) _) | exact Below.drew ‹_›))
  generalize ((w.alloc (.cells #[.int .i64 0, .int .i64 0, .int .i64 0] 36)).alloc (.cells #[.int .i64 ya, .int .i64 yb, .int .i64 yc] 36)) = W at *
  go_loopw [6] (fun i wr => ∃ (k : Nat) (m : Lk), 0 < k ∧ k ≤ xs.length ∧ i = .int .i64 (k : Int) ∧ Hid (Mx o xs k m) ∧ Box wr w.heap.size 36 #[.int .i64 0, .int .i64 0, .int .i64 0] ∧ Box wr (w.heap.size + 1) 36 #[.int .i64 m.a, .int .i64 m.b, .int .i64 m.c] ∧ Below w.heap.size w wr) (fun i _ => xs.length - (intOf i).toNat)
  case atStart => exact ⟨1, ⟨ya, yb, yc⟩, by omega, h0, rfl, Lib.hid (Mx.start o HY.out), K1, K2, hw0⟩
  case round =>
    obtain ⟨k, m, hk0, hk, rfl, HM, k1, k2, hb⟩ := hrel
    clear K1 K2 hw0 HY hc0 hc1 hc2
    have hbs := hb.size
    have K1 := Lib.hid k1
    have K2 := Lib.hid k2
    have HB := Lib.hid hb
    obtain ⟨z2, p0, p1, p2, f0, f1, f2⟩ := k2.tri
    clear k1 k2
    by_cases hlt : k < xs.length
    · obtain ⟨x, hx⟩ : ∃ x, xs[k]? = some x := ⟨_, List.getElem?_eq_getElem hlt⟩
      obtain ⟨b', off', he', hbb', hc0, hc1, hc2⟩ := (HS.out.below hb) k x hx
      cases he'
      have hbb1 : b < wr.heap.size := by omega
      have C1 := fun W => compare_any' o x m W
      have HX := Lib.hid hx
      obtain ⟨xa, xb, xc⟩ := x
      obtain ⟨ma, mb, mc⟩ := m
      dsimp only [cdV] at hc0 hc1 hc2 p0 p1 p2 K2 C1
      clear hx hb
      go_upto_region 7 with fail
      have hX := fun (x : ExtB wr.heap.size wr.drew) (bb o : Nat) (h : bb < wr.heap.size) => (show x.w.cell? ⟨bb, o, none⟩ = wr.cell? ⟨bb, o, none⟩ from x.cell bb o h)
      refine wp_region_stg 8 wr.heap.size (by kernel_rfl) (by kernel_rfl) ?_
      refine stg_seg _ 2 [0, 1, 2, 3, 4, 5] (by kernel_rfl) (by kernel_rfl) (by kernel_rfl) (by kernel_rfl) ?_
      (simp only [List.map_cons, List.map_nil, List.getElem?_cons_zero, List.getElem?_cons_succ, Option.getD_some]); (repeat (go_big_quiet_step (fail))); (refine wpQuiet_nil ?_)
      clear hX
      refine stg_one _ 1 6 (by kernel_rfl) (by rfl) (by kernel_rfl) (by rfl) ?_
      go_wp2_with fail
      refine (C1 _).mono ?_
      clear C1
      rintro e w1 ⟨⟨r, rfl, hr⟩, hb1⟩
      refine ⟨hb1, wr.heap.size, Nat.le_refl _, ?_⟩
      have hb2 := below_dk hb1
      have H1 := Lib.hid (HB.out.trans (hb2.mono hbs))
      have k1' := K1.out.below hb2 K1.out.lt
      have k2' := K2.out.below hb2 K2.out.lt
      have K3 := Lib.hid k1'
      have K4 := Lib.hid k2'
      obtain ⟨z3, q0, q1, q2, g0, g1, g2⟩ := k2'.tri
      have hd := (HS.out.below H1.out) k ⟨xa, xb, xc⟩ HX.out
      obtain ⟨b', off', he', hbb2, hd0, hd1, hd2⟩ := hd
      cases he'
      have hbs1 := H1.out.size
      clear hb1 hb2 k1' k2' K1 K2 HB p0 p1 p2 f0 f1 f2 hc0 hc1 hc2
      have hX := fun (x : ExtB wr.heap.size w1) (bb o : Nat) (h : bb < wr.heap.size) => (show x.w.cell? ⟨bb, o, none⟩ = w1.cell? ⟨bb, o, none⟩ from x.cell bb o h)
      by_cases hl : LexO o ⟨xa, xb, xc⟩ ⟨ma, mb, mc⟩
      · have hr0 : ¬ 0 < r := fun h => (hr.1 h) hl
        have HL := Lib.hid hl
        clear hl hr
        refine stg_seg _ 0 [7] (by kernel_rfl) (by kernel_rfl) (by kernel_rfl) (by kernel_rfl) ?_
        (simp only [List.map_cons, List.map_nil, List.getElem?_cons_zero, List.getElem?_cons_succ, Option.getD_some]); (repeat (go_big_quiet_step (fail))); (refine wpQuiet_nil ?_)
        refine stg_end (by kernel_rfl) ?_
        clear hX
        go_wp2_with fail
        go_roundw
        case rel => exact ⟨k + 1, ⟨ma, mb, mc⟩, by omega, hlt, by go_num, Lib.hid (HM.out.stay HX.out HL.out), K3.out, K4.out, H1.out⟩
        case measure => simp [intOf]; omega
      · have hr0 : 0 < r := hr.2 hl
        have HL := Lib.hid hl
        clear hl hr
        refine stg_seg _ 0 [7] (by kernel_rfl) (by kernel_rfl) (by kernel_rfl) (by kernel_rfl) ?_
        (simp only [List.map_cons, List.map_nil, List.getElem?_cons_zero, List.getElem?_cons_succ, Option.getD_some]); (repeat (go_big_quiet_step (fail))); (refine wpQuiet_nil ?_)
        refine stg_end (by kernel_rfl) ?_
        clear hX
        have T := ret_tri K4.out (.int .i64 xa) (.int .i64 xb) (.int .i64 xc)
        have T' := Lib.hid T
        clear T
        go_wp2_with fail
        go_roundw
        case rel =>
          have hk1 : Below (w.heap.size + 1) w1 (((w1.setCell ⟨w.heap.size + 1, 0, none⟩ (.int .i64 xa)).setCell ⟨w.heap.size + 1, 1, none⟩ (.int .i64 xb)).setCell ⟨w.heap.size + 1, 2, none⟩ (.int .i64 xc)) := by (repeat (first | exact Below.refl _ _ | (refine Below.alloc ?_ (by first | exact Nat.le_refl _ | omega | (simp; done) | (simp; omega)) _) | (refine Below.setCell ?_ (by first | exact Nat.le_refl _ | omega | (simp; done) | (simp; omega)) _) | exact Below.drew ‹_›))
          exact ⟨k + 1, ⟨xa, xb, xc⟩, by omega, hlt, by go_num, Lib.hid (HM.out.next HX.out HL.out), K3.out.below hk1 (by omega), T'.out.1, H1.out.trans (hk1.mono (by omega))⟩
        case measure => simp [intOf]; omega
    · obtain rfl : k = xs.length := by omega
      have hge : ¬ ((xs.length : Int) < (xs.length : Int)) := by omega
      obtain ⟨ma, mb, mc⟩ := m
      dsimp only at p0 p1 p2 f0 f1 f2 K2
      obtain ⟨y2, e0, e1, e2, j0, j1, j2⟩ := K1.out.tri
      obtain ⟨-, t0, t1, t2⟩ := ret_tri K1.out (.int .i64 ma) (.int .i64 mb) (.int .i64 mc)
      go_wp2_with fail
      refine bodyPost_ret (v := cdV ⟨ma, mb, mc⟩) (by simp [results, Try.results39, go_sem, t0, t1, t2]) rfl ?_
      refine ⟨⟨⟨ma, mb, mc⟩, rfl, HM.out.1, fun d hd => HM.out.2 d (by rw [List.take_length]; exact hd)⟩, HB.out.trans (by (repeat (first | exact Below.refl _ _ | (refine Below.alloc ?_ (by first | exact Nat.le_refl _ | omega | (simp; done) | (simp; omega)) _) | (refine Below.setCell ?_ (by first | exact Nat.le_refl _ | omega | (simp; done) | (simp; omega)) _) | exact Below.drew ‹_›)))⟩

end Go.Proofs.Ytcndhodibeofiaa
