/-
  Contracts over this seat: what the exact laws do with routes and tables.
-/
import Derived.Test.YtohflcbpjjnccabTg
import Derived.Test.YtohflcbpjjnccabEi
import Derived.Test.YtohflcbpjjnccabA2
import Derived.Test.YtohflcbpjjnccabB1
namespace Go.Proofs.Ytohflcbpjjnccab
open Go.RowKit

theorem toRoute_any (l : Lk) (w : World) :
   Calls Try.prog 18 #[l.v] w fun e w' => e = .returned l.v ∧ Below w.heap.size w w' := by
  go_enter Try.func18, Try.ntmps18
  go_wp2
  refine bodyPost_ret (v := l.v) (by simp [results, Try.results18, go_sem]) rfl ⟨rfl, ?_⟩
  (repeat (first | exact Below.refl _ _ | (refine Below.alloc ?_ (by first | exact Nat.le_refl _ | omega | (simp; done) | (simp; omega)) _) | (refine Below.setCell ?_ (by first | exact Nat.le_refl _ | omega | (simp; done) | (simp; omega)) _) | exact Below.drew ‹_›))

theorem eqRoute_any (l m : Lk) (w : World) :
   Calls Try.prog 71 #[l.v, m.v] w fun e w' => e = .returned (.bool (eqLinkB l m)) ∧ Below w.heap.size w w' := by
  go_enter Try.func71, Try.ntmps71
  go_wp2
  all_goals
    go_ret
    exact ⟨ret_bool (by unfold eqLinkB; simp_all [bne_iff_ne]), by (repeat (first | exact Below.refl _ _ | (refine Below.alloc ?_ (by first | exact Nat.le_refl _ | omega | (simp; done) | (simp; omega)) _) | (refine Below.setCell ?_ (by first | exact Nat.le_refl _ | omega | (simp; done) | (simp; omega)) _) | exact Below.drew ‹_›))⟩

set_option maxHeartbeats 400000 in
theorem eqRouteS_any (A1 A2 : Option Addr) (xs ys : List Lk) (c1 c2 : Nat) (w : World) (hm : xs.length ≤ 2000000)
    (h1 : Sl w w.heap.size A1 xs) (h2 : Sl w w.heap.size A2 ys) :
   Calls Try.prog 45 #[.slice A1 xs.length c1, .slice A2 ys.length c2] w fun e w' => e = .returned (.bool (eqLksB xs ys)) ∧ Below w.heap.size w w' := by
  by_cases hlen : xs.length = ys.length
  · have hl : ((xs.length : Int) != (ys.length : Int)) = false := by simp [hlen]
    have HL := Lib.hid hlen
    go_enter Try.func45, Try.ntmps45
    clear hlen
    go_wp2
    go_loopw [5] (fun i wr => ∃ k : Nat, k ≤ xs.length ∧ i = .int .i64 k ∧ Below w.heap.size w wr ∧ (∀ j x y, j < k → xs[j]? = some x → ys[j]? = some y → eqLinkB x y = true)) (fun i _ => xs.length - (intOf i).toNat)
    case atStart => exact ⟨0, Nat.zero_le _, rfl, Below.refl _ _, fun j _ _ h => by omega⟩
    case round =>
      obtain ⟨k, hk, rfl, hb, hall⟩ := hrel
      by_cases hlt : k < xs.length
      · have hlt2 : k < ys.length := by rw [← HL.out]; exact hlt
        obtain ⟨x, hx⟩ : ∃ x, xs[k]? = some x := ⟨_, List.getElem?_eq_getElem hlt⟩
        obtain ⟨y, hy⟩ : ∃ y, ys[k]? = some y := ⟨_, List.getElem?_eq_getElem hlt2⟩
        obtain ⟨b, off, rfl, hbb, hc1, hc2, hc3⟩ := (h1.below hb) k x hx
        obtain ⟨b', off', rfl, hbb', hd1, hd2, hd3⟩ := (h2.below hb) k y hy
        have HX := Lib.hid hx
        have HY := Lib.hid hy
        have HA := Lib.hid hall
        have hz := hb.size
        have hbb1 : b < wr.heap.size := by omega
        have hbb2 : b' < wr.heap.size := by omega
        clear hx hy hall h1 h2
        have hX := fun (x : Ext wr) (bb o : Nat) (h : bb < wr.heap.size) => x.cell bb o h
        go_wp2
        refine wp_region_ext (by kernel_rfl) (by kernel_rfl) ?_
        repeat (go_big_quiet_step (first | (go_at_call 71; exact Calls.ext_of (eqRoute_any _ _ _))))
        (refine wpQuiet_nil ?_); (rintro _ ⟨X, rfl⟩); (have hw1 := X.below); (generalize X.w = w1 at *); (clear X)
        clear hX
        go_wp2
        · go_ret
          exact ⟨ret_bool (eqLksB_no HX.out HY.out ‹_›), hb.trans (hw1.mono hz)⟩
        · go_roundw
          case rel =>
            refine ⟨k + 1, hlt, by go_num, hb.trans (hw1.mono hz), fun j x' y' hj e1 e2 => ?_⟩
            by_cases hjk : j < k
            · exact HA.out j x' y' hjk e1 e2
            · obtain rfl : j = k := by omega
              rw [HX.out] at e1
              rw [HY.out] at e2
              cases e1
              cases e2
              simpa using ‹(!eqLinkB x y) = false›
          case measure => simp [intOf]; omega
      · have hge : xs.length ≤ k := by omega
        have HA := Lib.hid hall
        clear hall h1 h2
        go_wp2
        go_ret
        exact ⟨ret_bool (eqLksB_yes HL.out fun j x y hj => HA.out j x y (by omega)), hb⟩
  · have hl : ((xs.length : Int) != (ys.length : Int)) = true := by simp; omega
    go_enter Try.func45, Try.ntmps45
    go_wp2
    go_ret
    refine ⟨ret_bool ?_, Below.refl _ _⟩
    by_cases e : eqLksB xs ys = true
    · exact absurd (congrArg List.length ((eqLksB_iff _ _).1 e)) hlen
    · simpa using e

theorem toRoute_at (l : Lk) (wr : World) {g : Nat} {t : TypeId} {cs : Array Value} {k : Nat} (hcs : wr.heap[g]? = some (.cells cs t (0, 0))) (hs : k * 3 + 2 < cs.size) :
   Calls Try.prog 18 #[l.v] wr fun e w1 => e = .returned l.v ∧ Below wr.heap.size wr w1 ∧ Hid (w1.heap[g]? = some (.cells cs t (0, 0))) ∧ (∀ i, w1.frozen? ⟨g, i, none⟩ = false) ∧
     (∃ v, w1.cell? ⟨g, k * 3, none⟩ = some v) ∧ (∃ v, w1.cell? ⟨g, k * 3 + 1, none⟩ = some v) ∧ (∃ v, w1.cell? ⟨g, k * 3 + 2, none⟩ = some v) :=
  (toRoute_any l wr).mono fun e w1 ⟨he, hb⟩ => by
    have hh := (hb.block _ (heap_lt hcs)).trans hcs
    exact ⟨he, hb, hh, heap_frozen hh, cell_in hh (by omega), cell_in hh (by omega), cell_in hh hs⟩

def MadeRt (ls : List Lk) (w : World) (e : Ending) (w' : World) : Prop :=
  ∃ g, e = .returned (.slice (some ⟨g, 0, none⟩) ls.length ls.length) ∧ w.heap.size ≤ g ∧ Arrt w' g ls ∧ Below w.heap.size w w' ∧ Room w' g ls.length
set_option maxHeartbeats 400000 in
theorem toRouteS_any (A : Option Addr) (ls : List Lk) (c : Nat) (w : World) (hm : ls.length ≤ 2000000)
    (h1 : Sl w w.heap.size A ls) :
   Calls Try.prog 38 #[.slice A ls.length c] w (MadeRt ls w) := by
  obtain ⟨i0, hi, hz0, hz1, hz2⟩ := info_parts infoRoute
  have H1 := Lib.hid h1
  clear h1
  go_enter Try.func38, Try.ntmps38
  go_wp2_with (first | (at_make; refine wpList_make_full _ rfl _ _ 28 rfl w.heap.size 38 i0 _ 3 Try.underlying28 hi hz0 hz1 _ _ _ _ ls.length rfl rfl rfl rfl (by rw [hz2]; omega) (by unfold maxLen; omega) (Nat.le_refl _) ?_; intro w1 hown hgrow))
  obtain ⟨cs0, hh0, hs0, hg0, _, _⟩ := own_arr hown
  have HB := Lib.hid ((Below.refl w.heap.size w).grown hgrow (Nat.le_refl _) (fun _ h => by cases h))
  have HH := Lib.hid hh0
  have HS := Lib.hid hs0
  clear hown hgrow hh0 hs0 hg0 hi hz0 hz1 hz2
  go_loopw [4] (fun i wr => ∃ k : Nat, k ≤ ls.length ∧ i = .int .i64 k ∧ Below w.heap.size w wr ∧ ∃ cs : Array Value, wr.heap[w.heap.size]? = some (.cells cs 38 (0, 0)) ∧ cs.size = ls.length * 3 ∧ Upto cs ls k) (fun i _ => ls.length - (intOf i).toNat)
  case atStart => exact ⟨0, Nat.zero_le _, rfl, HB.out, cs0, HH.out, HS.out, fun j _ h => by omega⟩
  case round =>
    obtain ⟨k, hk, rfl, hb, cs, hcs, hsz, hup⟩ := hrel
    have HU := Lib.hid hup
    have HC := Lib.hid hcs
    have HZ := Lib.hid hsz
    have hgl : w.heap.size < wr.heap.size := heap_lt hcs
    clear hup HB HH HS
    by_cases hlt : k < ls.length
    · obtain ⟨l, hl⟩ : ∃ x, ls[k]? = some x := ⟨_, List.getElem?_eq_getElem hlt⟩
      obtain ⟨b, off, rfl, hbb, hc1, hc2, hc3⟩ := (H1.out.below hb) k l hl
      have HL := Lib.hid hl
      clear hl hcs hsz
      have hs3 : k * 3 + 2 < cs.size := by rw [HZ.out]; omega
      have C1 := toRoute_at l wr HC.out hs3
      go_wp2_with (first | (go_at_call 18; refine C1.mono ?_; clear C1; rintro e w1 ⟨rfl, hb1, HH, hf, ⟨v0, hd0⟩, ⟨v1, hd1⟩, ⟨v2, hd2⟩⟩))
      go_roundw
      case rel => exact ⟨k + 1, hlt, by go_num, (((hb.trans (hb1.mono hb.size)).setCell (Nat.le_refl _) _).setCell (Nat.le_refl _) _).setCell (Nat.le_refl _) _, _, heap_set (heap_set (heap_set HH.out _ _) _ _) _ _, by simp only [Array.size_setIfInBounds]; exact HZ.out, HU.out.succ HL.out hs3⟩
      case measure => simp [intOf]; omega
    · obtain rfl : k = ls.length := by omega
      go_wp2
      go_ret
      exact ⟨_, rfl, Nat.le_refl _, ⟨cs, HC.out, fun j l hl => HU.out j l (List.getElem?_eq_some_iff.1 hl).1 hl⟩, hb, by unfold maxLen; omega, cs, HC.out, HZ.out⟩

/-- Where there is an element, the slice lies at the head of block g, which begins with the routes ls. -/
def Own1t (w : World) (A : Option Addr) (g : Nat) (ls : List Lk) : Prop := 0 < ls.length → A = some ⟨g, 0, none⟩ ∧ Arrt w g ls
theorem arrt_size {w : World} {g : Nat} {ls : List Lk} (h : Arrt w g ls) : ∃ cs : Array Value, w.heap[g]? = some (.cells cs 38 (0, 0)) ∧ (0 < ls.length → ls.length * 3 ≤ cs.size) := by
  obtain ⟨cs, hh, hc⟩ := h
  refine ⟨cs, hh, fun hp => ?_⟩
  obtain ⟨_, _, h3⟩ := hc (ls.length - 1) _ (List.getElem?_eq_getElem (by omega))
  have := (Array.getElem?_eq_some_iff.1 h3).1
  omega

set_option maxHeartbeats 400000 in
theorem markRouteS_any (A : Option Addr) (g : Nat) (ls : List Lk) (c : Nat) (k : Int) (w : World) (hm : ls.length ≤ 2000000) (hk0 : 0 ≤ k) (hk1 : k ≤ 10000000) (h : Own1t w A g ls) :
   Calls Try.prog 52 #[.slice A ls.length c, .int .i64 k] w fun e w' => e = .returned (.int .i64 (k + 3 * ls.length)) ∧ Own1t w' A g (marks k ls.length) ∧ w.grownBy w' (some g) := by
  by_cases hp : ls.length = 0
  · have e0 : ls = [] := List.eq_nil_of_length_eq_zero hp
    subst e0
    clear h hp
    go_enter Try.func52, Try.ntmps52
    go_wp2
    go_loopw [1, 5] (fun a i wr => a = .int .i64 k ∧ i = .int .i64 0 ∧ wr = w) (fun _ _ _ => 0)
    case atStart => exact ⟨rfl, rfl, rfl⟩
    case round =>
      obtain ⟨rfl, rfl, rfl⟩ := hrel
      go_wp2
      go_ret
      exact ⟨ret_int (by simp), fun h => absurd h (by simp [marks]), World.grownBy.refl _ _⟩
  · obtain ⟨rfl, harr⟩ := h (by omega)
    obtain ⟨cs0, hh0, hs0⟩ := arrt_size harr
    have HS := Lib.hid (hs0 (by omega))
    have HH := Lib.hid hh0
    clear h harr hh0 hs0 hp
    go_enter Try.func52, Try.ntmps52
    go_wp2
    go_loopw [1, 5] (fun a i wr => ∃ j : Nat, j ≤ ls.length ∧ i = .int .i64 j ∧ a = .int .i64 (k + 3 * j) ∧ w.grownBy wr (some g) ∧ ∃ cs : Array Value, wr.heap[g]? = some (.cells cs 38 (0, 0)) ∧ ls.length * 3 ≤ cs.size ∧ Upto cs (marks k ls.length) j) (fun _ i _ => ls.length - (intOf i).toNat)
    case atStart => exact ⟨0, Nat.zero_le _, rfl, by simp, World.grownBy.refl _ _, cs0, HH.out, HS.out, fun j _ h => by omega⟩
    case round =>
      obtain ⟨j, hj, rfl, rfl, hg, cs, hcs, hsz, hup⟩ := hrel
      have HU := Lib.hid hup
      have HC := Lib.hid hcs
      have HG := Lib.hid hg
      clear hup hg
      by_cases hlt : j < ls.length
      · have hf := heap_frozen hcs
        have hs3 : j * 3 + 2 < cs.size := by omega
        obtain ⟨v0, hd0⟩ := cell_in hcs (i := j * 3) (by omega)
        obtain ⟨v1, hd1⟩ := cell_in hcs (i := j * 3 + 1) (by omega)
        obtain ⟨v2, hd2⟩ := cell_in hcs (i := j * 3 + 2) (by omega)
        have HN : Hid (Upto (((cs.setIfInBounds (j * 3) (.int .i64 (k + 3 * (j : Int)))).setIfInBounds (j * 3 + 1) (.int .i64 (k + 3 * (j : Int) + 1))).setIfInBounds (j * 3 + 2) (.int .i64 (k + 3 * (j : Int) + 1 + 1))) (marks k ls.length) (j + 1)) := marks_succ HU.out hlt hs3
        clear hcs
        go_wp2
        go_roundw
        case rel =>
          exact ⟨j + 1, hlt, by go_num, int_eq (by omega), grown_set (grown_set (grown_set HG.out _ _) _ _) _ _, _, heap_set (heap_set (heap_set HC.out _ _) _ _) _ _, by simp only [Array.size_setIfInBounds]; exact hsz, HN.out⟩
        case measure => simp [intOf]; omega
      · obtain rfl : j = ls.length := by omega
        clear hcs
        go_wp2
        go_ret
        exact ⟨rfl, fun _ => ⟨rfl, cs, HC.out, fun i l hl => HU.out i l (by have := (List.getElem?_eq_some_iff.1 hl).1; rwa [marks_len] at this) hl⟩, HG.out⟩

set_option maxHeartbeats 400000 in
theorem heldRouteS_any (A : Option Addr) (g n : Nat) (c : Nat) (k : Int) (w : World) (hm : n ≤ 2000000) (hk0 : 0 ≤ k) (hk1 : k ≤ 10000000) (h : Own1t w A g (marks k n)) :
   Calls Try.prog 54 #[.slice A n c, .int .i64 k] w fun e w' => e = .returned (.int .i64 (k + 3 * n)) ∧ w = w' := by
  by_cases hp : n = 0
  · subst hp
    clear h
    go_enter Try.func54, Try.ntmps54
    go_wp2
    go_loopw [1, 5] (fun a i wr => a = .int .i64 k ∧ i = .int .i64 0 ∧ wr = w) (fun _ _ _ => 0)
    case atStart => exact ⟨rfl, rfl, rfl⟩
    case round =>
      obtain ⟨rfl, rfl, rfl⟩ := hrel
      go_wp2
      go_ret
      exact ⟨ret_int (by simp), rfl⟩
  · obtain ⟨rfl, harr⟩ := h (by rw [marks_len]; omega)
    have R := Lib.hid (harr.sl harr.lt)
    clear h harr hp
    go_enter Try.func54, Try.ntmps54
    go_wp2
    go_loop [1, 5] (fun a i => ∃ j : Nat, j ≤ n ∧ i = .int .i64 j ∧ a = .int .i64 (k + 3 * j)) (fun _ i => n - (intOf i).toNat)
    case atStart => exact ⟨0, Nat.zero_le _, rfl, by simp⟩
    case round =>
      obtain ⟨j, hj, rfl, rfl⟩ := hrel
      by_cases hlt : j < n
      · obtain ⟨b, off, hbe, hbb, hc1, hc2, hc3⟩ := R.out j _ (marks_at hlt)
        cases hbe
        simp only [Nat.zero_add] at hc1 hc2 hc3
        go_wp2
        go_round
        case rel => exact ⟨j + 1, hlt, by go_num, int_eq (by omega)⟩
        case measure => simp [intOf]; omega
      · obtain rfl : j = n := by omega
        go_wp2
        go_ret
        exact ⟨rfl, rfl⟩

theorem Own1t.below {w w' : World} {A : Option Addr} {g : Nat} {ls : List Lk} (h : Own1t w A g ls) (hb : Below w.heap.size w w') : Own1t w' A g ls := fun hp => by
  obtain ⟨e, ha⟩ := h hp
  exact ⟨e, ha.below hb ha.lt⟩
theorem Own1t.sl {w : World} {A : Option Addr} {g : Nat} {ls : List Lk} (h : Own1t w A g ls) : Sl w w.heap.size A ls := fun k l hl => by
  obtain ⟨rfl, ha⟩ := h (by have := (List.getElem?_eq_some_iff.1 hl).1; omega)
  exact ha.sl ha.lt k l hl
theorem Own1t.block {w w' : World} {A : Option Addr} {g : Nat} {ls : List Lk} (h : Own1t w A g ls) (hb : w'.heap[g]? = w.heap[g]?) : Own1t w' A g ls := fun hp => ⟨(h hp).1, (h hp).2.block hb⟩

set_option maxHeartbeats 400000 in
/-- The exact laws lay a table anew. -/
theorem toTable_any (A : Option Addr) (rs : List Lk) (c : Nat) (B : Option Addr) (hs : List Int) (d : Nat) (w : World) (hm : rs.length ≤ 2000000) (hmh : hs.length ≤ 2000000) (h1 : Sl w w.heap.size A rs) (h2 : Sli w w.heap.size B hs) :
   Calls Try.prog 14 #[tbV A rs.length c B hs.length d] w fun e w' => ∃ v, e = .returned v ∧ NewTb rs hs w v w' := by
  have B0 : Below w.heap.size w (((w.alloc (.cells #[.slice A rs.length c, .slice B hs.length d] 25)).alloc (.cells #[.slice none 0 0, .slice none 0 0] 30)).alloc (.cells #[.slice none 0 0, .slice none 0 0] 30)) := by (repeat (first | exact Below.refl _ _ | (refine Below.alloc ?_ (by first | exact Nat.le_refl _ | omega | (simp; done) | (simp; omega)) _) | (refine Below.setCell ?_ (by first | exact Nat.le_refl _ | omega | (simp; done) | (simp; omega)) _) | exact Below.drew ‹_›))
  have I0 := ((Box.new w 25 #[.slice A rs.length c, .slice B hs.length d]).alloc (.cells #[.slice none 0 0, .slice none 0 0] 30)).alloc (.cells #[.slice none 0 0, .slice none 0 0] 30)
  have R0 := (Box.new (w.alloc (.cells #[.slice A rs.length c, .slice B hs.length d] 25)) 30 #[.slice none 0 0, .slice none 0 0]).alloc (.cells #[.slice none 0 0, .slice none 0 0] 30)
  have O0 := Box.new ((w.alloc (.cells #[.slice A rs.length c, .slice B hs.length d] 25)).alloc (.cells #[.slice none 0 0, .slice none 0 0] 30)) 30 #[.slice none 0 0, .slice none 0 0]
  simp only [World.size_alloc] at R0 O0
  have C1 := toRouteS_any A rs c _ hm ((h1.below B0).more B0.size)
  have HS := Lib.hid h2
  have HB := Lib.hid B0
  have HI := Lib.hid I0
  have HR := Lib.hid R0
  have HO := Lib.hid O0
  have hz : w.heap.size + 1 + 1 < (((w.alloc (.cells #[.slice A rs.length c, .slice B hs.length d] 25)).alloc (.cells #[.slice none 0 0, .slice none 0 0] 30)).alloc (.cells #[.slice none 0 0, .slice none 0 0] 30)).heap.size := O0.lt
  clear h1 h2 B0 I0 R0 O0
  go_enter Try.func14, Try.ntmps14
  go_wp2_with fail
  refine C1.mono ?_
  clear C1
  rintro e w1 ⟨g, rfl, hg, ha, hb1, hr⟩
  have B1 := Lib.hid (HB.out.trans (hb1.mono HB.out.size))
  have I1 := Lib.hid (HI.out.below hb1 HI.out.lt)
  have R1 := Lib.hid (HR.out.below hb1 HR.out.lt)
  have O1 := Lib.hid (HO.out.below hb1 HO.out.lt)
  have HG := Lib.hid (show w.heap.size + 1 + 1 < g by omega)
  have HA := Lib.hid ha
  have HM := Lib.hid hr
  obtain ⟨zi, i0, i1, -, -⟩ := I1.out.two
  obtain ⟨zo, o0, o1, p0, p1⟩ := O1.out.two
  clear hb1 ha hr hg HB HI HR HO hz
  go_wp2_with fail
  have S1 : Below w.heap.size w (w1.setCell ⟨w.heap.size + 1 + 1, 0, none⟩ (.slice (some ⟨g, 0, none⟩) rs.length rs.length)) := B1.out.setCell (p := ⟨w.heap.size + 1 + 1, 0, none⟩) (by dsimp only; omega) _
  have O2 : Box (w1.setCell ⟨w.heap.size + 1 + 1, 0, none⟩ (.slice (some ⟨g, 0, none⟩) rs.length rs.length)) (w.heap.size + 1 + 1) 30 #[.slice (some ⟨g, 0, none⟩) rs.length rs.length, .slice none 0 0] := heap_set O1.out 0 _
  have R2 : Box (w1.setCell ⟨w.heap.size + 1 + 1, 0, none⟩ (.slice (some ⟨g, 0, none⟩) rs.length rs.length)) (w.heap.size + 1) 30 #[.slice none 0 0, .slice none 0 0] := (Below.heap_setCell w1 ⟨w.heap.size + 1 + 1, 0, none⟩ _ _ (by dsimp only; omega)).trans R1.out
  have A2 := HA.out.block (Below.heap_setCell w1 ⟨w.heap.size + 1 + 1, 0, none⟩ (.slice (some ⟨g, 0, none⟩) rs.length rs.length) g (by have := HG.out; dsimp only; omega))
  have M2 := HM.out.block (Below.heap_setCell w1 ⟨w.heap.size + 1 + 1, 0, none⟩ (.slice (some ⟨g, 0, none⟩) rs.length rs.length) g (by have := HG.out; dsimp only; omega))
  clear zi i0 i1 zo o0 o1 p0 p1 I1 R1 O1 HA HM B1
  generalize w1.setCell ⟨w.heap.size + 1 + 1, 0, none⟩ (.slice (some ⟨g, 0, none⟩) rs.length rs.length) = W1 at *
  refine (toIntS_any B hs d W1 hmh ((HS.out.below S1).more S1.size)).mono ?_
  rintro e w2 ⟨g', rfl, hg', ha', hb2⟩
  have B2 := Lib.hid (S1.trans (hb2.mono S1.size))
  have O3 := Lib.hid (O2.below hb2 O2.lt)
  have R3 := Lib.hid (R2.below hb2 R2.lt)
  have A3 := Lib.hid (A2.below hb2 A2.lt)
  have M3 := Lib.hid (M2.below hb2 M2.lt)
  have N3 := Lib.hid ha'
  have HG2 := Lib.hid (show w.heap.size + 1 + 1 < g' by have := O2.lt; omega)
  obtain ⟨zo, o0, o1, p0, p1⟩ := O3.out.two
  obtain ⟨zr, r0, r1, q0, q1⟩ := R3.out.two
  have X3 := Lib.hid (show Box (w2.setCell ⟨w.heap.size + 1 + 1, 1, none⟩ (.slice (some ⟨g', 0, none⟩) hs.length hs.length)) (w.heap.size + 1) 30 #[.slice none 0 0, .slice none 0 0] from (Below.heap_setCell w2 ⟨w.heap.size + 1 + 1, 1, none⟩ _ _ (by dsimp only; omega)).trans R3.out)
  clear hb2 ha' hg' S1 O2 R2 A2 M2
  go_wp2_with fail
  obtain ⟨-, x0, x1⟩ := ret_two X3.out (.slice (some ⟨g, 0, none⟩) rs.length rs.length) (.slice (some ⟨g', 0, none⟩) hs.length hs.length)
  have hfin : ∀ k, k ≠ w.heap.size + 1 → k ≠ w.heap.size + 1 + 1 → (((w2.setCell ⟨w.heap.size + 1 + 1, 1, none⟩ (.slice (some ⟨g', 0, none⟩) hs.length hs.length)).setCell ⟨w.heap.size + 1, 0, none⟩ (.slice (some ⟨g, 0, none⟩) rs.length rs.length)).setCell ⟨w.heap.size + 1, 1, none⟩ (.slice (some ⟨g', 0, none⟩) hs.length hs.length)).heap[k]? = w2.heap[k]? := fun k h1 h2 =>
    (Below.heap_setCell _ ⟨w.heap.size + 1, 1, none⟩ _ k h1).trans ((Below.heap_setCell _ ⟨w.heap.size + 1, 0, none⟩ _ k h1).trans (Below.heap_setCell w2 ⟨w.heap.size + 1 + 1, 1, none⟩ _ k h2))
  have hg := HG.out
  have hg2 := HG2.out
  refine bodyPost_ret (v := tbV (some ⟨g, 0, none⟩) rs.length rs.length (some ⟨g', 0, none⟩) hs.length hs.length) (by simp [results, Try.results14, go_sem, x0, x1]) rfl ⟨_, rfl, g, rs.length, g', hs.length, rfl, by omega, by omega, A3.out.block (hfin g (by omega) (by omega)), N3.out.block (hfin g' (by omega) (by omega)), ?_, Nat.le_refl _, Nat.le_refl _, M3.out.block (hfin g (by omega) (by omega))⟩
  exact ((B2.out.setCell (p := ⟨w.heap.size + 1 + 1, 1, none⟩) (by dsimp only; omega) _).setCell (p := ⟨w.heap.size + 1, 0, none⟩) (by dsimp only; omega) _).setCell (p := ⟨w.heap.size + 1, 1, none⟩) (by dsimp only; omega) _

set_option maxHeartbeats 400000 in
/-- Equal tables are equal. -/
theorem eqTable_same (A1 A2 : Option Addr) (rs : List Lk) (c1 c2 : Nat) (B1 B2 : Option Addr) (hs : List Int) (d1 d2 : Nat) (w : World) (hm : rs.length ≤ 2000000) (hmh : hs.length ≤ 2000000) (h1 : Sl w w.heap.size A1 rs) (h2 : Sl w w.heap.size A2 rs) (k1 : Sli w w.heap.size B1 hs) (k2 : Sli w w.heap.size B2 hs) :
   Calls Try.prog 16 #[tbV A1 rs.length c1 B1 hs.length d1, tbV A2 rs.length c2 B2 hs.length d2] w fun e w' => e = .returned (.bool true) ∧ Below w.heap.size w w' := by
  have B0 : Below w.heap.size w ((w.alloc (.cells #[.slice A1 rs.length c1, .slice B1 hs.length d1] 30)).alloc (.cells #[.slice A2 rs.length c2, .slice B2 hs.length d2] 30)) := by (repeat (first | exact Below.refl _ _ | (refine Below.alloc ?_ (by first | exact Nat.le_refl _ | omega | (simp; done) | (simp; omega)) _) | (refine Below.setCell ?_ (by first | exact Nat.le_refl _ | omega | (simp; done) | (simp; omega)) _) | exact Below.drew ‹_›))
  have I0 := (Box.new w 30 #[.slice A1 rs.length c1, .slice B1 hs.length d1]).alloc (.cells #[.slice A2 rs.length c2, .slice B2 hs.length d2] 30)
  have J0 := Box.new (w.alloc (.cells #[.slice A1 rs.length c1, .slice B1 hs.length d1] 30)) 30 #[.slice A2 rs.length c2, .slice B2 hs.length d2]
  simp only [World.size_alloc] at J0
  have C1 := eqRouteS_any A1 A2 rs rs c1 c2 _ hm ((h1.below B0).more B0.size) ((h2.below B0).more B0.size)
  rw [(eqLksB_iff rs rs).2 rfl] at C1
  have HB := Lib.hid B0
  have HI := Lib.hid I0
  have HJ := Lib.hid J0
  have HK1 := Lib.hid k1
  have HK2 := Lib.hid k2
  clear h1 h2 k1 k2 B0 I0 J0
  go_enter Try.func16, Try.ntmps16
  go_wp2_with fail
  refine C1.mono ?_
  clear C1
  rintro e w1 ⟨rfl, hb1⟩
  have B1' := Lib.hid (HB.out.trans (hb1.mono HB.out.size))
  obtain ⟨zi, i0, i1, -, -⟩ := (HI.out.below hb1 HI.out.lt).two
  obtain ⟨zj, j0, j1, -, -⟩ := (HJ.out.below hb1 HJ.out.lt).two
  clear hb1 HI HJ HB
  go_wp2_with fail
  refine (eqIntS_same B1 B2 hs d1 d2 w1 hmh ((HK1.out.below B1'.out).more B1'.out.size) ((HK2.out.below B1'.out).more B1'.out.size)).mono ?_
  rintro e w2 ⟨rfl, hb2⟩
  have B2' := Lib.hid (B1'.out.trans (hb2.mono B1'.out.size))
  clear hb2 zi i0 i1 zj j0 j1
  go_wp2_with fail
  go_ret
  exact ⟨rfl, B2'.out⟩

set_option maxHeartbeats 400000 in
theorem markTable_any (g : Nat) (rs : List Lk) (c : Nat) (g' : Nat) (hs : List Int) (d : Nat) (k : Int) (w : World) (hm : rs.length ≤ 2000000) (hmh : hs.length ≤ 2000000) (hk0 : 0 ≤ k) (hk1 : k ≤ 1000000) (h1 : Arrt w g rs) (h2 : Arri w g' hs) :
   Calls Try.prog 20 #[tbV (some ⟨g, 0, none⟩) rs.length c (some ⟨g', 0, none⟩) hs.length d, .int .i64 k] w fun e w' => e = .returned (.int .i64 (k + 3 * rs.length + hs.length)) ∧ Own1t w' (some ⟨g, 0, none⟩) g (marks k rs.length) ∧ Own1i w' (some ⟨g', 0, none⟩) g' (markis (k + 3 * rs.length) hs.length) ∧ Kx (fun b => b = g ∨ b = g') w w' := by
  have hne := arr_ne h1 h2
  have hgl := h1.lt
  have hgl' := h2.lt
  have B0 : Below w.heap.size w (w.alloc (.cells #[.slice (some ⟨g, 0, none⟩) rs.length c, .slice (some ⟨g', 0, none⟩) hs.length d] 30)) := by (repeat (first | exact Below.refl _ _ | (refine Below.alloc ?_ (by first | exact Nat.le_refl _ | omega | (simp; done) | (simp; omega)) _) | (refine Below.setCell ?_ (by first | exact Nat.le_refl _ | omega | (simp; done) | (simp; omega)) _) | exact Below.drew ‹_›))
  have I0 := Box.new w 30 #[.slice (some ⟨g, 0, none⟩) rs.length c, .slice (some ⟨g', 0, none⟩) hs.length d]
  have C1 := markRouteS_any (some ⟨g, 0, none⟩) g rs c k _ hm hk0 (by omega) (fun _ => ⟨rfl, h1.below B0 hgl⟩)
  have HK := Lib.hid (Kx.of_below (X := fun b => b = g ∨ b = g') B0)
  have H2 := Lib.hid (show Own1i _ (some ⟨g', 0, none⟩) g' hs from fun _ => ⟨rfl, h2.below B0 hgl'⟩)
  have HI := Lib.hid I0
  clear h1 h2 B0 I0
  go_enter Try.func20, Try.ntmps20
  go_wp2_with fail
  refine C1.mono ?_
  clear C1
  rintro e w1 ⟨rfl, ho, hg⟩
  have I1 := Lib.hid (show Box w1 w.heap.size 30 _ from (hg.block w.heap.size (by simp) (fun e => by have := Option.some.inj e; omega)).trans HI.out)
  have K1 := Lib.hid (HK.out.grown hg (fun _ => .inl rfl))
  have O1 := Lib.hid ho
  have C2 := markIntS_any (some ⟨g', 0, none⟩) g' hs d (k + 3 * rs.length) w1 hmh (by omega) (by omega) (H2.out.grownFar hg (fun e => hne e.symm))
  obtain ⟨zi, i0, i1, -, -⟩ := I1.out.two
  clear hg ho HI HK H2
  go_wp2_with fail
  refine C2.mono ?_
  clear C2
  rintro e w2 ⟨rfl, ho2, hg2⟩
  have K2 := Lib.hid (K1.out.grown hg2 (fun _ => .inr rfl))
  have O2 := Lib.hid ho2
  have O3 := Lib.hid (show Own1t w2 (some ⟨g, 0, none⟩) g (marks k rs.length) from fun hp => ⟨rfl, (O1.out hp).2.block (hg2.block g (O1.out hp).2.lt (fun e => hne (Option.some.inj e)))⟩)
  clear hg2 ho2 zi i0 i1
  go_wp2_with fail
  go_ret
  exact ⟨rfl, O3.out, O2.out, K2.out⟩

set_option maxHeartbeats 400000 in
theorem heldTable_any (A : Option Addr) (g n c : Nat) (B : Option Addr) (g' m d : Nat) (k : Int) (w : World) (hm : n ≤ 2000000) (hmh : m ≤ 2000000) (hk0 : 0 ≤ k) (hk1 : k ≤ 1000000) (h1 : Own1t w A g (marks k n)) (h2 : Own1i w B g' (markis (k + 3 * n) m)) :
   Calls Try.prog 21 #[tbV A n c B m d, .int .i64 k] w fun e w' => e = .returned (.int .i64 (k + 3 * n + m)) ∧ Below w.heap.size w w' := by
  have B0 : Below w.heap.size w (w.alloc (.cells #[.slice A n c, .slice B m d] 30)) := by (repeat (first | exact Below.refl _ _ | (refine Below.alloc ?_ (by first | exact Nat.le_refl _ | omega | (simp; done) | (simp; omega)) _) | (refine Below.setCell ?_ (by first | exact Nat.le_refl _ | omega | (simp; done) | (simp; omega)) _) | exact Below.drew ‹_›))
  have C1 := heldRouteS_any A g n c k _ hm hk0 (by omega) (h1.below B0)
  have C2 := heldIntS_any B g' m d (k + 3 * n) _ hmh (by omega) (by omega) (h2.below B0)
  have hk2 : ¬ k + 3 * (n : Int) < 0 := by omega
  have hk3 : ¬ k + 3 * (n : Int) + (m : Int) < 0 := by omega
  clear h1 h2 B0
  go_enter Try.func21, Try.ntmps21
  go_wp2_with fail
  refine C1.mono ?_
  clear C1
  rintro e w1 ⟨rfl, rfl⟩
  go_wp2_with fail
  refine C2.mono ?_
  clear C2
  rintro e w2 ⟨rfl, rfl⟩
  go_wp2_with fail
  go_ret
  exact ⟨rfl, by (repeat (first | exact Below.refl _ _ | (refine Below.alloc ?_ (by first | exact Nat.le_refl _ | omega | (simp; done) | (simp; omega)) _) | (refine Below.setCell ?_ (by first | exact Nat.le_refl _ | omega | (simp; done) | (simp; omega)) _) | exact Below.drew ‹_›))⟩

theorem szRouteS_any (A : Option Addr) (n c : Nat) (l : Int) (w : World) (hn : n ≤ maxLen) (h0 : 0 ≤ l) (h1 : l ≤ 1048576) :
   Calls Try.prog 33 #[.slice A n c, .int .i64 l] w fun e w' => e = .returned (.int .i64 (if l < (n : Int) then -1 else l - n)) ∧ w = w' := by
  have hw : IntKind.i64.wrap (l - (n : Int)) = l - (n : Int) := IntWalk.i64_in _ (by unfold maxLen at hn; omega)
  by_cases h : l < (n : Int)
  · have hl : l - (n : Int) < 0 := by omega
    rw [if_pos h]
    go_enter Try.func33, Try.ntmps33
    go_wp2
    go_ret
    exact ⟨rfl, rfl⟩
  · have hl : ¬ l - (n : Int) < 0 := by omega
    rw [if_neg h]
    go_enter Try.func33, Try.ntmps33
    go_wp2
    go_ret
    exact ⟨rfl, rfl⟩
theorem szIntS_any (A : Option Addr) (n c : Nat) (l : Int) (w : World) (hn : n ≤ maxLen) (h0 : 0 ≤ l) (h1 : l ≤ 1048576) :
   Calls Try.prog 34 #[.slice A n c, .int .i64 l] w fun e w' => e = .returned (.int .i64 (if l < (n : Int) then -1 else l - n)) ∧ w = w' := by
  have hw : IntKind.i64.wrap (l - (n : Int)) = l - (n : Int) := IntWalk.i64_in _ (by unfold maxLen at hn; omega)
  by_cases h : l < (n : Int)
  · have hl : l - (n : Int) < 0 := by omega
    rw [if_pos h]
    go_enter Try.func34, Try.ntmps34
    go_wp2
    go_ret
    exact ⟨rfl, rfl⟩
  · have hl : ¬ l - (n : Int) < 0 := by omega
    rw [if_neg h]
    go_enter Try.func34, Try.ntmps34
    go_wp2
    go_ret
    exact ⟨rfl, rfl⟩
set_option maxHeartbeats 400000 in
/-- A table that is too big, or the size that is left. -/
theorem szTable_any (A : Option Addr) (n c : Nat) (B : Option Addr) (m d : Nat) (w : World) (hn : n ≤ maxLen) (hm : m ≤ maxLen) :
   Calls Try.prog 12 #[tbV A n c B m d, .int .i64 1048576] w fun e w' => ∃ r : Int, e = .returned (.int .i64 r) ∧ (r < 0 ∨ (0 ≤ r ∧ n ≤ 1048576 ∧ m ≤ 1048576)) ∧ Below w.heap.size w w' := by
  have C1 := fun W => szRouteS_any A n c 1048576 W hn (by omega) (by omega)
  by_cases h : (1048576 : Int) < (n : Int)
  · rw [if_pos h] at C1
    go_enter Try.func12, Try.ntmps12
    go_wp2_with fail
    refine (C1 _).mono ?_
    clear C1
    rintro e w1 ⟨rfl, rfl⟩
    go_wp2_with fail
    go_ret
    exact ⟨-1, rfl, .inl (by omega), by (repeat (first | exact Below.refl _ _ | (refine Below.alloc ?_ (by first | exact Nat.le_refl _ | omega | (simp; done) | (simp; omega)) _) | (refine Below.setCell ?_ (by first | exact Nat.le_refl _ | omega | (simp; done) | (simp; omega)) _) | exact Below.drew ‹_›))⟩
  · rw [if_neg h] at C1
    have hl : ¬ (1048576 : Int) - (n : Int) < 0 := by omega
    have C2 := fun W => szIntS_any B m d (1048576 - (n : Int)) W hm (by omega) (by omega)
    by_cases h2 : (1048576 : Int) - (n : Int) < (m : Int)
    · rw [if_pos h2] at C2
      go_enter Try.func12, Try.ntmps12
      go_wp2_with fail
      refine (C1 _).mono ?_
      clear C1
      rintro e w1 ⟨rfl, rfl⟩
      go_wp2_with fail
      refine (C2 _).mono ?_
      clear C2
      rintro e w2 ⟨rfl, rfl⟩
      go_wp2_with fail
      go_ret
      exact ⟨-1, rfl, .inl (by omega), by (repeat (first | exact Below.refl _ _ | (refine Below.alloc ?_ (by first | exact Nat.le_refl _ | omega | (simp; done) | (simp; omega)) _) | (refine Below.setCell ?_ (by first | exact Nat.le_refl _ | omega | (simp; done) | (simp; omega)) _) | exact Below.drew ‹_›))⟩
    · rw [if_neg h2] at C2
      have hl2 : ¬ (1048576 : Int) - (n : Int) - (m : Int) < 0 := by omega
      go_enter Try.func12, Try.ntmps12
      go_wp2_with fail
      refine (C1 _).mono ?_
      clear C1
      rintro e w1 ⟨rfl, rfl⟩
      go_wp2_with fail
      refine (C2 _).mono ?_
      clear C2
      rintro e w2 ⟨rfl, rfl⟩
      go_wp2_with fail
      go_ret
      exact ⟨_, rfl, .inr ⟨by omega, by omega, by omega⟩, by (repeat (first | exact Below.refl _ _ | (refine Below.alloc ?_ (by first | exact Nat.le_refl _ | omega | (simp; done) | (simp; omega)) _) | (refine Below.setCell ?_ (by first | exact Nat.le_refl _ | omega | (simp; done) | (simp; omega)) _) | exact Below.drew ‹_›))⟩
end Go.Proofs.Ytohflcbpjjnccab
