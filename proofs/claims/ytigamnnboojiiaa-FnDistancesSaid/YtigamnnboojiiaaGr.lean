/-
  Contracts over this seat: toGraph lays a copy of a graph in new memory; GraphValid, of the program and of the specification, answers the Boolean gvB.
-/
import Derived.Test.YtigamnnboojiiaaBase
namespace Go.Proofs.Ytigamnnboojiiaa
open Go.RowKit

abbrev gval (n : Int) (A : Option Addr) (len c : Nat) : Value := .agg #[.int .i64 n, .slice A len c]

theorem Arr.far {w : World} {g : Nat} {ls : List Lk} (h : Arr w g ls) {p : Addr} (hp : g ≠ p.block) (u : Value) : Arr (w.setCell p u) g ls := by
  obtain ⟨cs, hh, hc⟩ := h
  exact ⟨cs, (Below.heap_setCell w p u g hp).trans hh, hc⟩

/-- What 'toGraph' leaves. -/
def MadeG (n : Int) (ls : List Lk) (w : World) (e : Ending) (w' : World) : Prop :=
  ∃ g, e = .returned (gval n (some ⟨g, 0, none⟩) ls.length ls.length) ∧ w.heap.size ≤ g ∧ Arr w' g ls ∧ Below w.heap.size w w'

set_option maxHeartbeats 400000 in
theorem toGraph_any (n : Int) (A : Option Addr) (ls : List Lk) (c : Nat) (w : World) (hm : ls.length ≤ 2000000)
    (h1 : Sl w w.heap.size A ls) :
   Calls Try.prog 15 #[gval n A ls.length c] w (MadeG n ls w) := by
  have H1 := Lib.hid h1
  clear h1
  go_enter Try.func15, Try.ntmps15
  go_wp2_with (first | (go_at_call 40; refine (toLinkS_any A ls c _ hm ((H1.out.below (by (repeat (first | exact Below.refl _ _ | (refine Below.alloc ?_ (by first | exact Nat.le_refl _ | omega | (simp; done) | (simp; omega)) _) | (refine Below.setCell ?_ (by first | exact Nat.le_refl _ | omega | (simp; done) | (simp; omega)) _) | exact Below.drew ‹_›)))).more (by simp; omega))).mono ?_; rintro e w1 ⟨g, rfl, hg, harr, hb⟩; obtain ⟨hc, hf⟩ := bcell hb; have hz := hb.size; have HB := Lib.hid hb; have HA := Lib.hid harr; have hgl := harr.lt; clear hb harr))
  simp only [World.size_alloc] at hg hz
  refine bodyPost_ret (v := gval n (some ⟨g, 0, none⟩) ls.length ls.length) (by simp [results, Try.results15, go_sem, hc]) rfl ⟨g, rfl, by omega, ?_, ?_⟩
  · exact ((HA.out.far (by simp; omega) _).far (by simp; omega) _).far (by simp; omega) _
  · exact (((Below.trans (by (repeat (first | exact Below.refl _ _ | (refine Below.alloc ?_ (by first | exact Nat.le_refl _ | omega | (simp; done) | (simp; omega)) _) | (refine Below.setCell ?_ (by first | exact Nat.le_refl _ | omega | (simp; done) | (simp; omega)) _) | exact Below.drew ‹_›))) (HB.out.mono (by simp; omega))).setCell (by simp; omega) _).setCell (by simp) _).setCell (by simp) _

/-! ### GraphValid -/
def okAt (n : Int) (ls : List Lk) (k : Nat) : Bool :=
  match ls[k]? with
  | none => true
  | some l => allowsB n l && (if k = 0 then true else match ls[k - 1]? with
    | some m => beforeB m l
    | none => true)
def gvB (n : Int) (ls : List Lk) : Bool := inB n 1 8 && decide (ls.length ≤ 14) && (List.range ls.length).all (okAt n ls)
theorem okAt_bad {n : Int} {ls : List Lk} {k : Nat} {l : Lk} (h : ls[k]? = some l) (ha : ¬ allowsB n l = true) : okAt n ls k = false := by
  unfold okAt
  simp [h, ha]
theorem okAt_zero {n : Int} {ls : List Lk} {l : Lk} (h : ls[0]? = some l) (ha : allowsB n l = true) : okAt n ls 0 = true := by
  unfold okAt
  simp [h, ha]
theorem okAt_succ {n : Int} {ls : List Lk} {k : Nat} {l m : Lk} (h : ls[k]? = some l) (hm : ls[k - 1]? = some m) (hk : 0 < k) (ha : allowsB n l = true) : okAt n ls k = beforeB m l := by
  unfold okAt
  simp [h, ha, hm, show k ≠ 0 by omega]
theorem valid_rel {n : Int} {v : Value} {ls : List Lk} {w wr w1 : World} {k : Nat} {o : Obj} (hb : Below w.heap.size w wr) (hz : w.heap.size < wr.heap.size)
    (hg0 : wr.cell? ⟨w.heap.size, 0, none⟩ = some (.int .i64 n)) (hg1 : wr.cell? ⟨w.heap.size, 1, none⟩ = some v) (hall : ∀ j, j < k → okAt n ls j = true)
    (hw : Below (wr.alloc o).heap.size (wr.alloc o) w1) (hok : okAt n ls k = true) :
    Below w.heap.size w w1 ∧ w.heap.size < w1.heap.size ∧ w1.cell? ⟨w.heap.size, 0, none⟩ = some (.int .i64 n) ∧ w1.cell? ⟨w.heap.size, 1, none⟩ = some v ∧ ∀ j, j < k + 1 → okAt n ls j = true := by
  have hw2 : Below wr.heap.size wr w1 := ((Below.refl _ _).alloc (Nat.le_refl _) _).trans (hw.mono (by simp))
  refine ⟨hb.trans (hw2.mono hb.size), Nat.lt_of_lt_of_le hz hw2.size, ?_, ?_, fun j hj => ?_⟩
  · exact (hw2.cell (p := ⟨w.heap.size, 0, none⟩) hz).trans hg0
  · exact (hw2.cell (p := ⟨w.heap.size, 1, none⟩) hz).trans hg1
  · by_cases h : j < k
    · exact hall j h
    · obtain rfl : j = k := by omega
      exact hok
theorem gvB_no {n : Int} {ls : List Lk} {k : Nat} (hk : k < ls.length) (h : okAt n ls k = false) : false = gvB n ls := by
  symm
  unfold gvB
  have : (List.range ls.length).all (okAt n ls) = false := by
    rw [List.all_eq_false]
    exact ⟨k, by simpa using hk, by simp [h]⟩
  simp [this]
theorem gvB_yes {n : Int} {ls : List Lk} (h0 : inB n 1 8 = true) (h1 : ls.length ≤ 14) (h : ∀ j, j < ls.length → okAt n ls j = true) : true = gvB n ls := by
  symm
  unfold gvB
  have : (List.range ls.length).all (okAt n ls) = true := by
    rw [List.all_eq_true]
    intro j hj
    exact h j (by simpa using hj)
  simp [this, h0, h1]

theorem Ext.old {wr : World} {o : Obj} (x : Ext (wr.alloc o)) (b i : Nat) (h : b < wr.heap.size) : x.w.cell? ⟨b, i, none⟩ = wr.cell? ⟨b, i, none⟩ :=
  (x.cell b i (by simp; omega)).trans (World.cell?_alloc_lt wr o ⟨b, i, none⟩ h)
theorem Ext.new {wr : World} {cs : Array Value} {t : TypeId} (x : Ext (wr.alloc (.cells cs t))) (i : Nat) : x.w.cell? ⟨wr.heap.size, i, none⟩ = cs[i]? :=
  (x.cell wr.heap.size i (by simp)).trans (cell_of_row _ wr.heap.size i cs t (0, 0) (heap_alloc_new wr _))

set_option maxHeartbeats 800000 in
theorem valid_impl (n : Int) (A : Option Addr) (ls : List Lk) (c : Nat) (w : World) (hm : ls.length ≤ 2000000)
    (h1 : Sl w w.heap.size A ls) :
   Calls Try.prog 49 #[gval n A ls.length c] w fun e w' => e = .returned (.bool (gvB n ls)) ∧ Below w.heap.size w w' := by
  have H1 := Lib.hid h1
  clear h1
  by_cases hn : 1 ≤ n ∧ n ≤ 8 ∧ ls.length ≤ 14
  · obtain ⟨hn1, hn2, hn3⟩ := hn
    go_enter Try.func49, Try.ntmps49
    go_wp2
    go_loopw [22] (fun i wr => ∃ k : Nat, k ≤ ls.length ∧ i = .int .i64 k ∧ Below w.heap.size w wr ∧ w.heap.size < wr.heap.size ∧ wr.cell? ⟨w.heap.size, 0, none⟩ = some (.int .i64 n) ∧ wr.cell? ⟨w.heap.size, 1, none⟩ = some (.slice A ls.length c) ∧ ∀ j, j < k → okAt n ls j = true) (fun i _ => ls.length - (intOf i).toNat)
    case atStart => exact ⟨0, Nat.zero_le _, rfl, by (repeat (first | exact Below.refl _ _ | (refine Below.alloc ?_ (by first | exact Nat.le_refl _ | omega | (simp; done) | (simp; omega)) _) | (refine Below.setCell ?_ (by first | exact Nat.le_refl _ | omega | (simp; done) | (simp; omega)) _) | exact Below.drew ‹_›)), by simp, by simp [World.cell?_alloc_new], by simp [World.cell?_alloc_new], fun j h => by omega⟩
    case round =>
      obtain ⟨k, hk, rfl, hb, hz, hg0, hg1, hall⟩ := hrel
      have HA := Lib.hid hall
      clear hall
      by_cases hlt : k < ls.length
      · obtain ⟨l, hl⟩ : ∃ x, ls[k]? = some x := ⟨_, List.getElem?_eq_getElem hlt⟩
        obtain ⟨b, off, rfl, hbb, hc1, hc2, hc3⟩ := (H1.out.below hb) k l hl
        have HL := Lib.hid hl
        have hbb1 : b < wr.heap.size := by omega
        clear hl
        have hXo := fun (x : Ext (wr.alloc (.cells #[.int .i64 l.a, .int .i64 l.b, .int .i64 l.c] 47))) (bb o : Nat) (h : bb < wr.heap.size) => x.old bb o h
        have hXn := fun (x : Ext (wr.alloc (.cells #[.int .i64 l.a, .int .i64 l.b, .int .i64 l.c] 47))) (o : Nat) => x.new o
        by_cases hal : allowsB n l = true
        · have C1 : ∀ W : World, Calls Try.prog 67 #[gval n (some ⟨b, off, none⟩) ls.length c, l.v] W fun e w' => e = .returned (.bool true) ∧ Below W.heap.size W w' := fun W => by
            have := allows_any n (.slice (some ⟨b, off, none⟩) ls.length c) l W
            rwa [hal] at this
          have HAL := Lib.hid hal
          clear hal
          by_cases hk0 : k = 0
          · subst hk0
            simp only [Nat.zero_mul, Nat.add_zero] at hc1 hc2 hc3
            go_wp2
            refine wp_region_ext (by kernel_rfl) (by kernel_rfl) ?_
            repeat (go_big_quiet_step (first | (go_at_call 67; exact Calls.ext_of (C1 _))))
            (refine wpQuiet_nil ?_); (rintro _ ⟨X, rfl⟩); (have hw1 := X.below); (generalize X.w = w1 at *); (clear X)
            clear hXo hXn
            go_wp2
            go_roundw
            case rel => exact ⟨1, hlt, rfl, valid_rel hb hz hg0 hg1 HA.out hw1 (okAt_zero HL.out HAL.out)⟩
            case measure => simp [intOf]; omega
          · obtain ⟨m, hmm⟩ : ∃ x, ls[k - 1]? = some x := ⟨_, List.getElem?_eq_getElem (by omega)⟩
            obtain ⟨b', off', hbe, hbb', hd1, hd2, hd3⟩ := (H1.out.below hb) (k - 1) m hmm
            cases hbe
            have HM := Lib.hid hmm
            clear hmm
            have hkn : 0 < k := by omega
            go_wp2
            refine wp_region_ext (by kernel_rfl) (by kernel_rfl) ?_
            repeat (go_big_quiet_step (first | (go_at_call 67; exact Calls.ext_of (C1 _)) | (go_at_call 68; exact Calls.ext_of (before_any m l _))))
            (refine wpQuiet_nil ?_); (rintro _ ⟨X, rfl⟩); (have hw1 := X.below); (generalize X.w = w1 at *); (clear X)
            clear hXo hXn
            go_wp2
            · go_ret
              exact ⟨ret_bool (gvB_no hlt (by rw [okAt_succ HL.out HM.out hkn HAL.out]; simpa using ‹(!beforeB m l) = true›)), hb.trans (Below.trans (by (repeat (first | exact Below.refl _ _ | (refine Below.alloc ?_ (by first | exact Nat.le_refl _ | omega | (simp; done) | (simp; omega)) _) | (refine Below.setCell ?_ (by first | exact Nat.le_refl _ | omega | (simp; done) | (simp; omega)) _) | exact Below.drew ‹_›))) (hw1.mono (by simp; omega)))⟩
            · go_roundw
              case rel => exact ⟨k + 1, hlt, by go_num, valid_rel hb hz hg0 hg1 HA.out hw1 (by rw [okAt_succ HL.out HM.out hkn HAL.out]; simpa using ‹(!beforeB m l) = false›)⟩
              case measure => simp [intOf]; omega
        · have C1 : ∀ W : World, Calls Try.prog 67 #[gval n (some ⟨b, off, none⟩) ls.length c, l.v] W fun e w' => e = .returned (.bool false) ∧ Below W.heap.size W w' := fun W => by
            have := allows_any n (.slice (some ⟨b, off, none⟩) ls.length c) l W
            rwa [show allowsB n l = false by simpa using hal] at this
          have HAL := Lib.hid hal
          clear hal
          go_wp2
          refine wp_region_ext (by kernel_rfl) (by kernel_rfl) ?_
          repeat (go_big_quiet_step (first | (go_at_call 67; exact Calls.ext_of (C1 _))))
          (refine wpQuiet_nil ?_); (rintro _ ⟨X, rfl⟩); (have hw1 := X.below); (generalize X.w = w1 at *); (clear X)
          clear hXo hXn
          go_wp2
          go_ret
          exact ⟨ret_bool (gvB_no hlt (okAt_bad HL.out HAL.out)), hb.trans (Below.trans (by (repeat (first | exact Below.refl _ _ | (refine Below.alloc ?_ (by first | exact Nat.le_refl _ | omega | (simp; done) | (simp; omega)) _) | (refine Below.setCell ?_ (by first | exact Nat.le_refl _ | omega | (simp; done) | (simp; omega)) _) | exact Below.drew ‹_›))) (hw1.mono (by simp; omega)))⟩
      · go_wp2
        go_ret
        exact ⟨ret_bool (gvB_yes (by simp [inB, hn1, hn2]) hn3 fun j hj => HA.out j (by omega)), hb⟩
  · have hn' : n < 1 ∨ (1 ≤ n ∧ 8 < n) ∨ (1 ≤ n ∧ n ≤ 8 ∧ 14 < ls.length) := by omega
    have hv : false = gvB n ls := by
      symm
      unfold gvB inB
      simp
      omega
    have HV := Lib.hid hv
    clear hv hn
    rcases hn' with h | ⟨h, h'⟩ | ⟨h, h', h''⟩
    · go_enter Try.func49, Try.ntmps49
      go_wp2
      go_ret
      exact ⟨ret_bool HV.out, by (repeat (first | exact Below.refl _ _ | (refine Below.alloc ?_ (by first | exact Nat.le_refl _ | omega | (simp; done) | (simp; omega)) _) | (refine Below.setCell ?_ (by first | exact Nat.le_refl _ | omega | (simp; done) | (simp; omega)) _) | exact Below.drew ‹_›))⟩
    · go_enter Try.func49, Try.ntmps49
      go_wp2
      go_ret
      exact ⟨ret_bool HV.out, by (repeat (first | exact Below.refl _ _ | (refine Below.alloc ?_ (by first | exact Nat.le_refl _ | omega | (simp; done) | (simp; omega)) _) | (refine Below.setCell ?_ (by first | exact Nat.le_refl _ | omega | (simp; done) | (simp; omega)) _) | exact Below.drew ‹_›))⟩
    · go_enter Try.func49, Try.ntmps49
      go_wp2
      go_ret
      exact ⟨ret_bool HV.out, by (repeat (first | exact Below.refl _ _ | (refine Below.alloc ?_ (by first | exact Nat.le_refl _ | omega | (simp; done) | (simp; omega)) _) | (refine Below.setCell ?_ (by first | exact Nat.le_refl _ | omega | (simp; done) | (simp; omega)) _) | exact Below.drew ‹_›))⟩

end Go.Proofs.Ytigamnnboojiiaa
