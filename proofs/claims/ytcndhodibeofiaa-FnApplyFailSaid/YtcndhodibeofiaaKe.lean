/-
  Contracts over this seat: rows of candidates; SpeakerApply of the specification; what the laws do with candidates.
-/
import Derived.Test.YtcndhodibeofiaaKd
import Derived.Test.YtcndhodibeofiaaA2
import Derived.Test.YtcndhodibeofiaaA4
namespace Go.Proofs.Ytcndhodibeofiaa
open Go.RowKit Go.Maps

theorem infoCand : (Try.prog.info? 36).map (fun i => (i.zero, i.size, i.bytes)) = some (some (.agg #[.int .i64 0, .int .i64 0, .int .i64 0]), 3, 24) := by kernel_rfl
/-- Block g is an array whose first elements are the candidates ls. -/
def Arrk (w : World) (g : Nat) (ls : List Lk) : Prop :=
  ∃ cs : Array Value, w.heap[g]? = some (.cells cs 36 (0, 0)) ∧ ∀ k l, ls[k]? = some l → cs[k * 3]? = some (.int .i64 l.a) ∧ cs[k * 3 + 1]? = some (.int .i64 l.b) ∧ cs[k * 3 + 2]? = some (.int .i64 l.c)
theorem Arrk.lt {w : World} {g : Nat} {ls : List Lk} (h : Arrk w g ls) : g < w.heap.size := by
  obtain ⟨cs, h, _⟩ := h
  exact heap_lt h
theorem Arrk.sl {w : World} {g B : Nat} {ls : List Lk} (h : Arrk w g ls) (hB : g < B) : Sl w B (some ⟨g, 0, none⟩) ls := by
  obtain ⟨cs, hh, hc⟩ := h
  intro k l hl
  obtain ⟨h1, h2, h3⟩ := hc k l hl
  refine ⟨g, 0, rfl, hB, ?_, ?_, ?_⟩
  · rw [cell_of_row w g _ cs _ _ hh]; simpa using h1
  · rw [cell_of_row w g _ cs _ _ hh]; simpa using h2
  · rw [cell_of_row w g _ cs _ _ hh]; simpa using h3
theorem Arrk.below {w w' : World} {g B : Nat} {ls : List Lk} (h : Arrk w g ls) (hb : Below B w w') (hg : g < B) : Arrk w' g ls := by
  obtain ⟨cs, hh, hc⟩ := h
  exact ⟨cs, (hb.block g hg).trans hh, hc⟩
def Ownk (w : World) (A : Option Addr) (g : Nat) (ls : List Lk) : Prop := 0 < ls.length → A = some ⟨g, 0, none⟩ ∧ Arrk w g ls
theorem Ownk.grownFar {w w' : World} {A : Option Addr} {g g' : Nat} {ls : List Lk} (h : Ownk w A g ls) (hg : w.grownBy w' (some g')) (hne : g ≠ g') : Ownk w' A g ls := fun hp => by
  obtain ⟨e, cs, hh, hc⟩ := h hp
  exact ⟨e, cs, (hg.block g (heap_lt hh) (fun e => hne (Option.some.inj e))).trans hh, hc⟩
theorem Ownk.below {w w' : World} {A : Option Addr} {g : Nat} {ls : List Lk} (h : Ownk w A g ls) (hb : Below w.heap.size w w') : Ownk w' A g ls := fun hp => by
  obtain ⟨e, ha⟩ := h hp
  exact ⟨e, ha.below hb ha.lt⟩
theorem Ownk.sl {w : World} {A : Option Addr} {g : Nat} {ls : List Lk} (h : Ownk w A g ls) : Sl w w.heap.size A ls := fun k l hl => by
  obtain ⟨rfl, ha⟩ := h (by have := (List.getElem?_eq_some_iff.1 hl).1; omega)
  exact ha.sl ha.lt k l hl
theorem own_slicek {w : World} {base n : Nat} {v : Value} {ls : List Lk} (h : w.ownsRow base 36 3 v n (flat ls)) (hb : base ≤ w.heap.size) :
    ∃ A g c, v = .slice A ls.length c ∧ base ≤ g ∧ n = ls.length ∧ Ownk w A g ls ∧ ls.length ≤ c := by
  have hn : n = ls.length := by have := h.1; rw [flat_len] at this; omega
  subst hn
  rcases h.2 with ⟨rfl, h0⟩ | ⟨g, cap, cur, rfl, hbg, hh, hn, _, hs, ht⟩
  · exact ⟨none, w.heap.size, 0, by rw [h0], hb, rfl, fun hp => by omega, by omega⟩
  · refine ⟨_, g, cap, rfl, hbg, rfl, fun _ => ⟨rfl, cur, hh, fun k l hl => ?_⟩, hn⟩
    have hk : k < ls.length := (List.getElem?_eq_some_iff.1 hl).1
    obtain ⟨h1, h2, h3⟩ := flat_at ls k l hl
    rw [← ht] at h1 h2 h3
    rw [List.getElem?_take_of_lt (by omega), Array.getElem?_toList] at h1 h2 h3
    exact ⟨h1, h2, h3⟩
/-- New candidates. -/
def NewK (ls : List Lk) (w : World) (e : Ending) (w' : World) : Prop :=
  ∃ A g c, e = .returned (.slice A ls.length c) ∧ w.heap.size ≤ g ∧ Ownk w' A g ls ∧ Below w.heap.size w w'
/-- Candidates in a row that is newer than a world. -/
structure QK (w : World) (v : Value) (out : List Lk) (W : World) : Prop where
  row : W.ownsRow w.heap.size 36 3 v out.length (flat out)
  bel : Below w.heap.size w W
theorem QK.call {w : World} {v : Value} {out : List Lk} {W W' : World} (h : QK w v out W) (hb : Below W.heap.size W W') : QK w v out W' :=
  ⟨h.row.kept ⟨hb.os, hb.tape, hb.output, hb.size, fun k hk _ => hb.block k hk⟩ (row := none) (by
    by_cases h : v.ownBlock = none
    · exact .inl h
    · exact .inr h), h.bel.trans (hb.mono h.bel.size)⟩
theorem QK.start (w : World) : QK w (.slice (some ⟨w.heap.size, 0, none⟩) 0 0) [] (w.alloc (.cells #[] 36)) :=
  ⟨World.ownsRow_made (base := w.heap.size) (e := 36) (size := 3) w #[] 0 (Nat.le_refl _) (by unfold maxLen; omega) rfl, (Below.refl _ _).alloc (Nat.le_refl _) _⟩
theorem QK.append {w W W' : World} {v v' : Value} {out : List Lk} {x : Lk} {o : Obj} (h : QK w v out W) (hown : W'.ownsRow w.heap.size 36 3 v' (out.length + 1) (flat out ++ [.int .i64 x.a, .int .i64 x.b, .int .i64 x.c])) (hg : (W.alloc o).grownBy W' v.ownBlock) : QK w v' (out ++ [x]) W' := by
  have hz := h.bel.size
  refine ⟨by rw [List.length_append, flat_append]; exact hown, ?_⟩
  exact (h.bel.alloc hz _).grown hg (by simp; omega) (fun j e => (h.row.lt j e).1)
theorem QK.done {w : World} {v : Value} {out : List Lk} {W : World} (h : QK w v out W) : NewK out w (.returned v) W := by
  obtain ⟨A, g, c, e, hg, _, ho, _⟩ := own_slicek h.row h.bel.size
  exact ⟨A, g, c, by rw [e], hg, ho, h.bel⟩
theorem apL_next {xs : List Lk} {k : Nat} {x : Lk} (h : xs[k]? = some x) (s b : Int) : apL (xs.take (k + 1)) s b = apL (xs.take k) s b ++ [apC s b x] := by
  unfold apL
  rw [List.take_add_one, h, List.map_append]
  rfl

set_option maxRecDepth 100000 in
set_option maxHeartbeats 4000000 in
theorem apply_spec (A : Option Addr) (xs : List Lk) (c : Nat) (w : World) (hm : xs.length ≤ 1048576) (hS : Sl w w.heap.size A xs) :
   Calls Try.prog 20 #[.slice A xs.length c] w (NewK (apA xs) w) := by
  obtain ⟨i0, hi, hz0, hz10, hz20⟩ := info_parts infoCand
  have HS := Lib.hid hS
  have CV := fun W (h : Sl W W.heap.size A xs) => candValid_spec A xs c W (by omega) h
  have CE := fun W (h : Sl W W.heap.size A xs) => elect_any A xs c W (by omega) h
  have Q0 := Lib.hid (QK.start w)
  clear hS
  cases hv : cdB xs with
  | false =>
    have he : apA xs = [] := by unfold apA; rw [hv]; rfl
    rw [hv] at CV
    rw [he]
    clear hv he
    go_enter Try.func20, Try.ntmps20
    go_wp2_with fail
    refine (CV _ ((HS.out.below Q0.out.bel).more Q0.out.bel.size)).mono ?_
    rintro e w1 ⟨rfl, hb1⟩
    have Q1 := Lib.hid (Q0.out.call hb1)
    clear hb1
    go_wp2_with fail
    have hfin := Q1.out.done
    go_ret
    exact hfin
  | true =>
    have HA : Hid (apA xs = apL xs (spS xs) (bkS xs (spS xs))) := Lib.hid (by unfold apA elA; rw [hv]; rfl)
    rw [hv] at CV
    obtain ⟨s, hs⟩ : ∃ s, spS xs = s := ⟨_, rfl⟩
    obtain ⟨bk, hbk⟩ : ∃ bk, bkS xs s = bk := ⟨_, rfl⟩
    rw [hs, hbk] at CE HA
    clear hv hs hbk
    go_enter Try.func20, Try.ntmps20
    go_wp2_with fail
    refine (CV _ ((HS.out.below Q0.out.bel).more Q0.out.bel.size)).mono ?_
    rintro e w1 ⟨rfl, hb1⟩
    have Q1 := Lib.hid (Q0.out.call hb1)
    clear hb1 Q0 CV
    go_wp2_with fail
    refine (CE _ ((HS.out.below Q1.out.bel).more Q1.out.bel.size)).mono ?_
    rintro e w2 ⟨rfl, hb2⟩
    have Q2 := Lib.hid (Q1.out.call hb2)
    clear hb2 Q1 CE
    go_wp2_with fail
    go_loopw [6, 3] (fun i v wr => ∃ (k : Nat) (out : List Lk), k ≤ xs.length ∧ i = .int .i64 (k : Int) ∧ Hid (out = apL (xs.take k) s bk) ∧ out.length ≤ k ∧ Hid (QK w v out wr)) (fun i _ _ => xs.length - (intOf i).toNat)
    case atStart => exact ⟨0, [], Nat.zero_le _, rfl, Lib.hid rfl, Nat.le_refl _, Q2⟩
    case round =>
      obtain ⟨k, out, hk, rfl, HDk, hok, Q⟩ := hrel
      clear Q2
      have hbs := Q.out.bel.size
      obtain ⟨A9, g9, c9, rfl, -, -, -, -⟩ := own_slicek Q.out.row hbs
      by_cases hlt : k < xs.length
      · obtain ⟨x, hx⟩ : ∃ x, xs[k]? = some x := ⟨_, List.getElem?_eq_getElem hlt⟩
        obtain ⟨b, off, rfl, hbb, hc0, hc1, hc2⟩ := (HS.out.below Q.out.bel) k x hx
        have hbb1 : b < wr.heap.size := by omega
        have HX := Lib.hid (apL_next hx s bk)
        have HCC := Lib.hid (show apC s bk x = ⟨x.a, x.b, if x.a = s then 2 else if x.a = bk then 1 else 0⟩ from rfl)
        clear hx
        obtain ⟨xa, xb, xc⟩ := x
        dsimp only at hc0 hc1 hc2
        have Q2 := fun cl : Int => Q.out.call ((Below.refl _ _).alloc (Nat.le_refl _) (.cells #[.int .i64 xa, .int .i64 xb, .int .i64 cl] 36))
        have hN := fun cl : Int => new3 (wr.alloc (.cells #[.int .i64 xa, .int .i64 xb, .int .i64 cl] 36)) (.int .i64 xa) (.int .i64 xb) (.int .i64 cl) 36
        simp only [World.size_alloc] at hN
        by_cases h1 : xa = bk
        · have h1' : (xa == bk) = true := by simp [h1]
          by_cases h2 : xa = s
          · have h2' : (xa == s) = true := by simp [h2]
            have HC : Hid (apC s bk ⟨xa, xb, xc⟩ = ⟨xa, xb, 2⟩) := Lib.hid (by rw [HCC.out]; simp [h2])
            clear h1 h2
            go_wp2_with (at_builtin; refine wpList_append_own _ rfl _ _ 25 rfl w.heap.size 36 i0 _ 3 24 Try.underlying25 hi hz0 hz10 hz20 rfl (by decide) _ out.length (flat out) rfl ((Q2 2).row.alloc _) ⟨wr.heap.size + 1, 0, none⟩ 1 1 [.int .i64 xa, .int .i64 xb, .int .i64 2] rfl rfl (hN 2) (one3 _ _ _) (by unfold maxLen; omega) (by omega) (by simp; omega) ?_; intro v' w9 hown hgrow _; have Q9 := Lib.hid ((Q2 2).append (x := ⟨xa, xb, 2⟩) hown hgrow); clear hown hgrow)
            go_roundw
            case rel => exact ⟨k + 1, out ++ [⟨xa, xb, 2⟩], hlt, by go_num, Lib.hid (by rw [HX.out, HDk.out]; congr 1; rw [HC.out]), by simp; omega, Q9⟩
            case measure => simp [intOf]; omega
          · have h2' : (xa == s) = false := by simpa using h2
            have HC : Hid (apC s bk ⟨xa, xb, xc⟩ = ⟨xa, xb, 1⟩) := Lib.hid (by rw [HCC.out]; dsimp only; rw [if_neg h2, if_pos h1])
            clear h1 h2
            go_wp2_with (at_builtin; refine wpList_append_own _ rfl _ _ 25 rfl w.heap.size 36 i0 _ 3 24 Try.underlying25 hi hz0 hz10 hz20 rfl (by decide) _ out.length (flat out) rfl ((Q2 1).row.alloc _) ⟨wr.heap.size + 1, 0, none⟩ 1 1 [.int .i64 xa, .int .i64 xb, .int .i64 1] rfl rfl (hN 1) (one3 _ _ _) (by unfold maxLen; omega) (by omega) (by simp; omega) ?_; intro v' w9 hown hgrow _; have Q9 := Lib.hid ((Q2 1).append (x := ⟨xa, xb, 1⟩) hown hgrow); clear hown hgrow)
            go_roundw
            case rel => exact ⟨k + 1, out ++ [⟨xa, xb, 1⟩], hlt, by go_num, Lib.hid (by rw [HX.out, HDk.out]; congr 1; rw [HC.out]), by simp; omega, Q9⟩
            case measure => simp [intOf]; omega
        · have h1' : (xa == bk) = false := by simpa using h1
          by_cases h2 : xa = s
          · have h2' : (xa == s) = true := by simp [h2]
            have HC : Hid (apC s bk ⟨xa, xb, xc⟩ = ⟨xa, xb, 2⟩) := Lib.hid (by rw [HCC.out]; simp [h2])
            clear h1 h2
            go_wp2_with (at_builtin; refine wpList_append_own _ rfl _ _ 25 rfl w.heap.size 36 i0 _ 3 24 Try.underlying25 hi hz0 hz10 hz20 rfl (by decide) _ out.length (flat out) rfl ((Q2 2).row.alloc _) ⟨wr.heap.size + 1, 0, none⟩ 1 1 [.int .i64 xa, .int .i64 xb, .int .i64 2] rfl rfl (hN 2) (one3 _ _ _) (by unfold maxLen; omega) (by omega) (by simp; omega) ?_; intro v' w9 hown hgrow _; have Q9 := Lib.hid ((Q2 2).append (x := ⟨xa, xb, 2⟩) hown hgrow); clear hown hgrow)
            go_roundw
            case rel => exact ⟨k + 1, out ++ [⟨xa, xb, 2⟩], hlt, by go_num, Lib.hid (by rw [HX.out, HDk.out]; congr 1; rw [HC.out]), by simp; omega, Q9⟩
            case measure => simp [intOf]; omega
          · have h2' : (xa == s) = false := by simpa using h2
            have HC : Hid (apC s bk ⟨xa, xb, xc⟩ = ⟨xa, xb, 0⟩) := Lib.hid (by rw [HCC.out]; dsimp only; rw [if_neg h2, if_neg h1])
            clear h1 h2
            go_wp2_with (at_builtin; refine wpList_append_own _ rfl _ _ 25 rfl w.heap.size 36 i0 _ 3 24 Try.underlying25 hi hz0 hz10 hz20 rfl (by decide) _ out.length (flat out) rfl ((Q2 0).row.alloc _) ⟨wr.heap.size + 1, 0, none⟩ 1 1 [.int .i64 xa, .int .i64 xb, .int .i64 0] rfl rfl (hN 0) (one3 _ _ _) (by unfold maxLen; omega) (by omega) (by simp; omega) ?_; intro v' w9 hown hgrow _; have Q9 := Lib.hid ((Q2 0).append (x := ⟨xa, xb, 0⟩) hown hgrow); clear hown hgrow)
            go_roundw
            case rel => exact ⟨k + 1, out ++ [⟨xa, xb, 0⟩], hlt, by go_num, Lib.hid (by rw [HX.out, HDk.out]; congr 1; rw [HC.out]), by simp; omega, Q9⟩
            case measure => simp [intOf]; omega
      · obtain rfl : k = xs.length := by omega
        have hge : ¬ ((xs.length : Int) < (xs.length : Int)) := by omega
        go_wp2_with fail
        have hfin := Q.out.done
        have he : out = apA xs := by rw [HDk.out, HA.out, List.take_length]
        go_ret
        rw [← he]
        exact hfin
end Go.Proofs.Ytcndhodibeofiaa
