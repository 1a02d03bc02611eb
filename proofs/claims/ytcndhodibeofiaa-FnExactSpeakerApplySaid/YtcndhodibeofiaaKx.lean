/-
  Contracts over this seat: candidates in memory: what the exact laws do with them.
-/
import Derived.Test.YtcndhodibeofiaaKe
import Derived.Test.YtcndhodibeofiaaA2
namespace Go.Proofs.Ytcndhodibeofiaa
open Go.RowKit

theorem toCand_any (l : Lk) (w : World) :
   Calls Try.prog 29 #[l.v] w fun e w' => e = .returned l.v ∧ Below w.heap.size w w' := by
  go_enter Try.func29, Try.ntmps29
  go_wp2
  refine bodyPost_ret (v := l.v) (by simp [results, Try.results29, go_sem]) rfl ⟨rfl, ?_⟩
  (repeat (first | exact Below.refl _ _ | (refine Below.alloc ?_ (by first | exact Nat.le_refl _ | omega | (simp; done) | (simp; omega)) _) | (refine Below.setCell ?_ (by first | exact Nat.le_refl _ | omega | (simp; done) | (simp; omega)) _) | exact Below.drew ‹_›))

theorem eqCand_any (l m : Lk) (w : World) :
   Calls Try.prog 31 #[l.v, m.v] w fun e w' => e = .returned (.bool (eqLinkB l m)) ∧ Below w.heap.size w w' := by
  go_enter Try.func31, Try.ntmps31
  go_wp2
  all_goals
    go_ret
    exact ⟨ret_bool (by unfold eqLinkB; simp_all [bne_iff_ne]), by (repeat (first | exact Below.refl _ _ | (refine Below.alloc ?_ (by first | exact Nat.le_refl _ | omega | (simp; done) | (simp; omega)) _) | (refine Below.setCell ?_ (by first | exact Nat.le_refl _ | omega | (simp; done) | (simp; omega)) _) | exact Below.drew ‹_›))⟩

set_option maxHeartbeats 400000 in
theorem eqCandS_any (A1 A2 : Option Addr) (xs ys : List Lk) (c1 c2 : Nat) (w : World) (hm : xs.length ≤ 2000000)
    (h1 : Sl w w.heap.size A1 xs) (h2 : Sl w w.heap.size A2 ys) :
   Calls Try.prog 17 #[.slice A1 xs.length c1, .slice A2 ys.length c2] w fun e w' => e = .returned (.bool (eqLksB xs ys)) ∧ Below w.heap.size w w' := by
  by_cases hlen : xs.length = ys.length
  · have hl : ((xs.length : Int) != (ys.length : Int)) = false := by simp [hlen]
    have HL := Lib.hid hlen
    go_enter Try.func17, Try.ntmps17
    clear hlen
    go_wp2
    go_loopw [5] (fun i wr => ∃ k : Nat, k ≤ xs.length ∧ i = .int .i64 k ∧ Below w.heap.size w wr ∧ (∀ j x y, j < k → xs[j]? = some x → ys[j]? = some y → eqLinkB x y = true)) (fun i _ => xs.length - (intOf i).toNat)
    case atStart => exact ⟨0, Nat.zero_le _, rfl, Below.refl _ _, fun j _ _ h => by omega⟩
    case round =>
      obtain ⟨k, hk, rfl, hb, hall⟩ := hrel
      by_cases hlt : k < xs.length
      · have hlt2 : k < ys.length := by rw [← HL.out]; exact hlt
        obtain ⟨x, hx⟩ : ∃ x, xs[k]? = some x := ⟨_, List.getElem?_eq_getElem hlt⟩
        obtain ⟨y, hy⟩ : ∃ y, ys[k]? = some y := ⟨_, List.getElem?_eq_getElem hlt2⟩
        obtain ⟨b, off, rfl, hbb, hc1, hc2, hc3⟩ := (h1.below hb) k x hx
        obtain ⟨b', off', rfl, hbb', hd1, hd2, hd3⟩ := (h2.below hb) k y hy
        have HX := Lib.hid hx
        have HY := Lib.hid hy
        have HA := Lib.hid hall
        have hz := hb.size
        have hbb1 : b < wr.heap.size := by omega
        have hbb2 : b' < wr.heap.size := by omega
        clear hx hy hall h1 h2
        have hX := fun (x : Ext wr) (bb o : Nat) (h : bb < wr.heap.size) => x.cell bb o h
        go_wp2
        refine wp_region_ext (by kernel_rfl) (by kernel_rfl) ?_
        repeat (go_big_quiet_step (first | (go_at_call 31; exact Calls.ext_of (eqCand_any _ _ _))))
        (refine wpQuiet_nil ?_); (rintro _ ⟨X, rfl⟩); (have hw1 := X.below); (generalize X.w = w1 at *); (clear X)
        clear hX
        go_wp2
        · go_ret
          exact ⟨ret_bool (eqLksB_no HX.out HY.out ‹_›), hb.trans (hw1.mono hz)⟩
        · go_roundw
          case rel =>
            refine ⟨k + 1, hlt, by go_num, hb.trans (hw1.mono hz), fun j x' y' hj e1 e2 => ?_⟩
            by_cases hjk : j < k
            · exact HA.out j x' y' hjk e1 e2
            · obtain rfl : j = k := by omega
              rw [HX.out] at e1
              rw [HY.out] at e2
              cases e1
              cases e2
              simpa using ‹(!eqLinkB x y) = false›
          case measure => simp [intOf]; omega
      · have hge : xs.length ≤ k := by omega
        have HA := Lib.hid hall
        clear hall h1 h2
        go_wp2
        go_ret
        exact ⟨ret_bool (eqLksB_yes HL.out fun j x y hj => HA.out j x y (by omega)), hb⟩
  · have hl : ((xs.length : Int) != (ys.length : Int)) = true := by simp; omega
    go_enter Try.func17, Try.ntmps17
    go_wp2
    go_ret
    refine ⟨ret_bool ?_, Below.refl _ _⟩
    by_cases e : eqLksB xs ys = true
    · exact absurd (congrArg List.length ((eqLksB_iff _ _).1 e)) hlen
    · simpa using e

/-- What 'toLinkS' leaves. -/
def MadeK (ls : List Lk) (w : World) (e : Ending) (w' : World) : Prop :=
  ∃ g, e = .returned (.slice (some ⟨g, 0, none⟩) ls.length ls.length) ∧ w.heap.size ≤ g ∧ Arrk w' g ls ∧ Below w.heap.size w w'

theorem toCand_at (l : Lk) (wr : World) {g : Nat} {t : TypeId} {cs : Array Value} {k : Nat} (hcs : wr.heap[g]? = some (.cells cs t (0, 0))) (hs : k * 3 + 2 < cs.size) :
   Calls Try.prog 29 #[l.v] wr fun e w1 => e = .returned l.v ∧ Below wr.heap.size wr w1 ∧ Hid (w1.heap[g]? = some (.cells cs t (0, 0))) ∧ (∀ i, w1.frozen? ⟨g, i, none⟩ = false) ∧
     (∃ v, w1.cell? ⟨g, k * 3, none⟩ = some v) ∧ (∃ v, w1.cell? ⟨g, k * 3 + 1, none⟩ = some v) ∧ (∃ v, w1.cell? ⟨g, k * 3 + 2, none⟩ = some v) :=
  (toCand_any l wr).mono fun e w1 ⟨he, hb⟩ => by
    have hh := (hb.block _ (heap_lt hcs)).trans hcs
    exact ⟨he, hb, hh, heap_frozen hh, cell_in hh (by omega), cell_in hh (by omega), cell_in hh hs⟩

set_option maxHeartbeats 400000 in
theorem toCandS_any (A : Option Addr) (ls : List Lk) (c : Nat) (w : World) (hm : ls.length ≤ 2000000)
    (h1 : Sl w w.heap.size A ls) :
   Calls Try.prog 15 #[.slice A ls.length c] w (MadeK ls w) := by
  obtain ⟨i0, hi, hz0, hz1, hz2⟩ := info_parts infoCand
  have H1 := Lib.hid h1
  clear h1
  go_enter Try.func15, Try.ntmps15
  go_wp2_with (first | (at_make; refine wpList_make_full _ rfl _ _ 25 rfl w.heap.size 36 i0 _ 3 Try.underlying25 hi hz0 hz1 _ _ _ _ ls.length rfl rfl rfl rfl (by rw [hz2]; omega) (by unfold maxLen; omega) (Nat.le_refl _) ?_; intro w1 hown hgrow))
  obtain ⟨cs0, hh0, hs0, hg0, _, _⟩ := own_arr hown
  have HB := Lib.hid ((Below.refl w.heap.size w).grown hgrow (Nat.le_refl _) (fun _ h => by cases h))
  have HH := Lib.hid hh0
  have HS := Lib.hid hs0
  clear hown hgrow hh0 hs0 hg0 hi hz0 hz1 hz2
  go_loopw [4] (fun i wr => ∃ k : Nat, k ≤ ls.length ∧ i = .int .i64 k ∧ Below w.heap.size w wr ∧ ∃ cs : Array Value, wr.heap[w.heap.size]? = some (.cells cs 36 (0, 0)) ∧ cs.size = ls.length * 3 ∧ Upto cs ls k) (fun i _ => ls.length - (intOf i).toNat)
  case atStart => exact ⟨0, Nat.zero_le _, rfl, HB.out, cs0, HH.out, HS.out, fun j _ h => by omega⟩
  case round =>
    obtain ⟨k, hk, rfl, hb, cs, hcs, hsz, hup⟩ := hrel
    have HU := Lib.hid hup
    have HC := Lib.hid hcs
    have HZ := Lib.hid hsz
    have hgl : w.heap.size < wr.heap.size := heap_lt hcs
    clear hup HB HH HS
    by_cases hlt : k < ls.length
    · obtain ⟨l, hl⟩ : ∃ x, ls[k]? = some x := ⟨_, List.getElem?_eq_getElem hlt⟩
      obtain ⟨b, off, rfl, hbb, hc1, hc2, hc3⟩ := (H1.out.below hb) k l hl
      have HL := Lib.hid hl
      clear hl hcs hsz
      have hs3 : k * 3 + 2 < cs.size := by rw [HZ.out]; omega
      have C1 := toCand_at l wr HC.out hs3
      go_wp2_with (first | (go_at_call 29; refine C1.mono ?_; clear C1; rintro e w1 ⟨rfl, hb1, HH, hf, ⟨v0, hd0⟩, ⟨v1, hd1⟩, ⟨v2, hd2⟩⟩))
      go_roundw
      case rel => exact ⟨k + 1, hlt, by go_num, (((hb.trans (hb1.mono hb.size)).setCell (Nat.le_refl _) _).setCell (Nat.le_refl _) _).setCell (Nat.le_refl _) _, _, heap_set (heap_set (heap_set HH.out _ _) _ _) _ _, by simp only [Array.size_setIfInBounds]; exact HZ.out, HU.out.succ HL.out hs3⟩
      case measure => simp [intOf]; omega
    · obtain rfl : k = ls.length := by omega
      go_wp2
      go_ret
      exact ⟨_, rfl, Nat.le_refl _, ⟨cs, HC.out, fun j l hl => HU.out j l (List.getElem?_eq_some_iff.1 hl).1 hl⟩, hb⟩

theorem arrk_size {w : World} {g : Nat} {ls : List Lk} (h : Arrk w g ls) : ∃ cs : Array Value, w.heap[g]? = some (.cells cs 36 (0, 0)) ∧ (0 < ls.length → ls.length * 3 ≤ cs.size) := by
  obtain ⟨cs, hh, hc⟩ := h
  refine ⟨cs, hh, fun hp => ?_⟩
  obtain ⟨_, _, h3⟩ := hc (ls.length - 1) _ (List.getElem?_eq_getElem (by omega))
  have := (Array.getElem?_eq_some_iff.1 h3).1
  omega

set_option maxHeartbeats 400000 in
theorem markCandS_any (A : Option Addr) (g : Nat) (ls : List Lk) (c : Nat) (k : Int) (w : World) (hm : ls.length ≤ 2000000) (hk0 : 0 ≤ k) (hk1 : k ≤ 10000000) (h : Ownk w A g ls) :
   Calls Try.prog 22 #[.slice A ls.length c, .int .i64 k] w fun e w' => e = .returned (.int .i64 (k + 3 * ls.length)) ∧ Ownk w' A g (marks k ls.length) ∧ w.grownBy w' (some g) := by
  by_cases hp : ls.length = 0
  · have e0 : ls = [] := List.eq_nil_of_length_eq_zero hp
    subst e0
    clear h hp
    go_enter Try.func22, Try.ntmps22
    go_wp2
    go_loopw [1, 5] (fun a i wr => a = .int .i64 k ∧ i = .int .i64 0 ∧ wr = w) (fun _ _ _ => 0)
    case atStart => exact ⟨rfl, rfl, rfl⟩
    case round =>
      obtain ⟨rfl, rfl, rfl⟩ := hrel
      go_wp2
      go_ret
      exact ⟨ret_int (by simp), fun h => absurd h (by simp [marks]), World.grownBy.refl _ _⟩
  · obtain ⟨rfl, harr⟩ := h (by omega)
    obtain ⟨cs0, hh0, hs0⟩ := arrk_size harr
    have HS := Lib.hid (hs0 (by omega))
    have HH := Lib.hid hh0
    clear h harr hh0 hs0 hp
    go_enter Try.func22, Try.ntmps22
    go_wp2
    go_loopw [1, 5] (fun a i wr => ∃ j : Nat, j ≤ ls.length ∧ i = .int .i64 j ∧ a = .int .i64 (k + 3 * j) ∧ w.grownBy wr (some g) ∧ ∃ cs : Array Value, wr.heap[g]? = some (.cells cs 36 (0, 0)) ∧ ls.length * 3 ≤ cs.size ∧ Upto cs (marks k ls.length) j) (fun _ i _ => ls.length - (intOf i).toNat)
    case atStart => exact ⟨0, Nat.zero_le _, rfl, by simp, World.grownBy.refl _ _, cs0, HH.out, HS.out, fun j _ h => by omega⟩
    case round =>
      obtain ⟨j, hj, rfl, rfl, hg, cs, hcs, hsz, hup⟩ := hrel
      have HU := Lib.hid hup
      have HC := Lib.hid hcs
      have HG := Lib.hid hg
      clear hup hg
      by_cases hlt : j < ls.length
      · have hf := heap_frozen hcs
        have hs3 : j * 3 + 2 < cs.size := by omega
        obtain ⟨v0, hd0⟩ := cell_in hcs (i := j * 3) (by omega)
        obtain ⟨v1, hd1⟩ := cell_in hcs (i := j * 3 + 1) (by omega)
        obtain ⟨v2, hd2⟩ := cell_in hcs (i := j * 3 + 2) (by omega)
        have HN : Hid (Upto (((cs.setIfInBounds (j * 3) (.int .i64 (k + 3 * (j : Int)))).setIfInBounds (j * 3 + 1) (.int .i64 (k + 3 * (j : Int) + 1))).setIfInBounds (j * 3 + 2) (.int .i64 (k + 3 * (j : Int) + 1 + 1))) (marks k ls.length) (j + 1)) := marks_succ HU.out hlt hs3
        clear hcs
        go_wp2
        go_roundw
        case rel =>
          exact ⟨j + 1, hlt, by go_num, int_eq (by omega), grown_set (grown_set (grown_set HG.out _ _) _ _) _ _, _, heap_set (heap_set (heap_set HC.out _ _) _ _) _ _, by simp only [Array.size_setIfInBounds]; exact hsz, HN.out⟩
        case measure => simp [intOf]; omega
      · obtain rfl : j = ls.length := by omega
        clear hcs
        go_wp2
        go_ret
        exact ⟨rfl, fun _ => ⟨rfl, cs, HC.out, fun i l hl => HU.out i l (by have := (List.getElem?_eq_some_iff.1 hl).1; rwa [marks_len] at this) hl⟩, HG.out⟩

set_option maxHeartbeats 400000 in
theorem heldCandS_any (A : Option Addr) (g n : Nat) (c : Nat) (k : Int) (w : World) (hm : n ≤ 2000000) (hk0 : 0 ≤ k) (hk1 : k ≤ 10000000) (h : Ownk w A g (marks k n)) :
   Calls Try.prog 23 #[.slice A n c, .int .i64 k] w fun e w' => e = .returned (.int .i64 (k + 3 * n)) ∧ w = w' := by
  by_cases hp : n = 0
  · subst hp
    clear h
    go_enter Try.func23, Try.ntmps23
    go_wp2
    go_loopw [1, 5] (fun a i wr => a = .int .i64 k ∧ i = .int .i64 0 ∧ wr = w) (fun _ _ _ => 0)
    case atStart => exact ⟨rfl, rfl, rfl⟩
    case round =>
      obtain ⟨rfl, rfl, rfl⟩ := hrel
      go_wp2
      go_ret
      exact ⟨ret_int (by simp), rfl⟩
  · obtain ⟨rfl, harr⟩ := h (by rw [marks_len]; omega)
    have R := Lib.hid (harr.sl harr.lt)
    clear h harr hp
    go_enter Try.func23, Try.ntmps23
    go_wp2
    go_loop [1, 5] (fun a i => ∃ j : Nat, j ≤ n ∧ i = .int .i64 j ∧ a = .int .i64 (k + 3 * j)) (fun _ i => n - (intOf i).toNat)
    case atStart => exact ⟨0, Nat.zero_le _, rfl, by simp⟩
    case round =>
      obtain ⟨j, hj, rfl, rfl⟩ := hrel
      by_cases hlt : j < n
      · obtain ⟨b, off, hbe, hbb, hc1, hc2, hc3⟩ := R.out j _ (marks_at hlt)
        cases hbe
        simp only [Nat.zero_add] at hc1 hc2 hc3
        go_wp2
        go_round
        case rel => exact ⟨j + 1, hlt, by go_num, int_eq (by omega)⟩
        case measure => simp [intOf]; omega
      · obtain rfl : j = n := by omega
        go_wp2
        go_ret
        exact ⟨rfl, rfl⟩

theorem szCand_ok (v : Option Addr) (n c : Nat) (w : World) (hn : n ≤ 1048576) :
   Calls Try.prog 13 #[.slice v n c, .int .i64 1048576] w fun e w' => e = .returned (.int .i64 (1048576 - (n : Int))) ∧ w = w' := by
  go_enter Try.func13, Try.ntmps13
  go_wp2
  go_ret
  exact ⟨rfl, rfl⟩
theorem szCand_no (v : Option Addr) (n c : Nat) (w : World) (hn : 1048576 < n) (hm : n ≤ maxLen) :
   Calls Try.prog 13 #[.slice v n c, .int .i64 1048576] w fun e w' => e = .returned (.int .i64 (-1)) ∧ w = w' := by
  unfold maxLen at hm
  go_enter Try.func13, Try.ntmps13
  go_wp2
  go_ret
  exact ⟨rfl, rfl⟩
theorem Ownk.alloc {w : World} {A : Option Addr} {g : Nat} {ls : List Lk} (h : Ownk w A g ls) (o : Obj) : Ownk (w.alloc o) A g ls :=
  h.below ((Below.refl _ _).alloc (Nat.le_refl _) _)
end Go.Proofs.Ytcndhodibeofiaa
