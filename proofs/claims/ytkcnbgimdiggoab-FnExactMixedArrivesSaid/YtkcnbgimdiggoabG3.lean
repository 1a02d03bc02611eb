/-
  Contracts over this seat: MixedLoop of the specification.
-/
import Derived.Test.YtkcnbgimdiggoabG2
namespace Go.Proofs.Ytkcnbgimdiggoab
open Go.RowKit Go.Maps

/-- What MixedLoop answers. -/
def loopA (nn : Int) (ls : List Lk) (x t : Int) (ch : List Int) : List Int := if vwB nn ls [0, t] && idxB ls x then (nodL nn.toNat).filter (walkB (mixH nn ls x.toNat t ch) nn.toNat) else []
/-- Reached from m in j steps. -/
def rchB (n : Nat) (H : Int → List Int) (m : Nat) : Nat → Nat → Bool
  | 0, y => decide (y = m)
  | j + 1, y => nxtP H (rchB n H m j) n y
theorem rch_walk {n : Nat} {H : Int → List Int} (hr : InR n H) {m : Nat} (hm : m < n) : ∀ (j i : Nat), (∃ x, x < n ∧ rchB n H m j x = true ∧ walkB H i (x : Int) = true) ↔ walkB H (j + i) (m : Int) = true
  | 0, i => by
    rw [Nat.zero_add]
    constructor
    · rintro ⟨x, hx, h1, h2⟩
      have : x = m := of_decide_eq_true h1
      subst this
      exact h2
    · intro h
      exact ⟨m, hm, by show decide (m = m) = true; simp, h⟩
  | j + 1, i => by
    have ih := rch_walk hr hm j (i + 1)
    rw [show j + 1 + i = j + (i + 1) by omega, ← ih]
    constructor
    · rintro ⟨x, hx, h1, h2⟩
      have h1 : nxtP H (rchB n H m j) n x = true := h1
      unfold nxtP at h1
      obtain ⟨z, hz, h3⟩ := List.any_eq_true.1 h1
      rw [Bool.and_eq_true, decide_eq_true_eq] at h3
      exact ⟨z, List.mem_range.1 hz, h3.1, List.any_eq_true.2 ⟨(x : Int), h3.2, h2⟩⟩
    · rintro ⟨z, hz, h1, h2⟩
      obtain ⟨y, hy, h3⟩ := List.any_eq_true.1 h2
      have hyr := hr (z : Int) y (by omega) (by omega) hy
      obtain ⟨x, rfl⟩ : ∃ x : Nat, y = (x : Int) := ⟨y.toNat, by omega⟩
      refine ⟨x, by omega, ?_, h3⟩
      show nxtP H (rchB n H m j) n x = true
      unfold nxtP
      exact List.any_eq_true.2 ⟨z, List.mem_range.2 hz, by rw [h1]; simpa using hy⟩
theorem rch_any {n : Nat} {H : Int → List Int} (hr : InR n H) {m : Nat} (hm : m < n) {q : Nat → Bool} (hq : ∀ y, y < n → q y = rchB n H m n y) : (List.range n).any q = walkB H n (m : Int) := by
  have h := rch_walk hr hm n 0
  rw [Nat.add_zero] at h
  rw [Bool.eq_iff_iff, ← h, List.any_eq_true]
  constructor
  · rintro ⟨x, hx, h1⟩
    have hx := List.mem_range.1 hx
    exact ⟨x, hx, by rw [← hq x hx]; exact h1, rfl⟩
  · rintro ⟨x, hx, h1, -⟩
    exact ⟨x, List.mem_range.2 hx, by rw [hq x hx]; exact h1⟩
theorem nxtP_ext {H : Int → List Int} {n : Nat} {p q : Nat → Bool} (h : ∀ x, x < n → p x = q x) (y : Nat) : nxtP H p n y = nxtP H q n y := by
  unfold nxtP
  rw [Bool.eq_iff_iff, List.any_eq_true, List.any_eq_true]
  constructor
  · rintro ⟨x, hx, e⟩
    exact ⟨x, hx, by rw [← h x (List.mem_range.1 hx)]; exact e⟩
  · rintro ⟨x, hx, e⟩
    exact ⟨x, hx, by rw [h x (List.mem_range.1 hx)]; exact e⟩
theorem any_next (q : Nat → Bool) (x : Nat) : (List.range (x + 1)).any q = ((List.range x).any q || q x) := by
  rw [List.range_succ, List.any_append]
  simp

set_option maxRecDepth 100000 in
set_option maxHeartbeats 3200000 in
theorem mixLoop_spec (nn : Int) (A : Option Addr) (ls : List Lk) (c : Nat) (x t : Int) (B : Option Addr) (ch : List Int) (cb : Nat) (w : World) (hm : ls.length ≤ 2000000) (hnu : nn ≤ 9223372036854775807) (hA : 0 < ls.length → ∃ g, A = some ⟨g, 0, none⟩) (hlc : ls.length ≤ c) (hmb : ch.length ≤ 2000000) (hS : Sl w w.heap.size A ls) (hB : Sli w w.heap.size B ch) :
   Calls Try.prog 17 #[gval nn A ls.length c, .int .i64 x, .int .i64 t, .slice B ch.length cb] w (NewI (loopA nn ls x t ch) w) := by
  obtain ⟨i0, hi, hz0, hz10, hz20⟩ := info_parts infoInt
  have HS := Lib.hid hS
  have HBB := Lib.hid hB
  have P0 := Lib.hid (PL_start w #[.int .i64 nn, .slice A ls.length c])
  have C1 := fun W (h : Sl W W.heap.size A ls) => l21ok_any nn A ls c 0 x t W hm hnu h
  clear hS hB
  unfold loopA
  by_cases hn0 : nn ≤ 0
  · have hr : (vwB nn ls [0, t] && idxB ls x) = false := by
      cases h : (vwB nn ls [0, t] && idxB ls x) with
      | false => rfl
      | true =>
        rw [Bool.and_eq_true] at h
        have := vwB_two h.1
        omega
    rw [hr, if_neg (by simp)]
    clear hr C1
    go_enter Try.func17, Try.ntmps17
    go_wp2_with fail
    go_loopw [9, 10] (fun v i wr => v = .slice (some ⟨w.heap.size + 1, 0, none⟩) 0 0 ∧ i = .int .i64 0 ∧ Hid (PL w #[.int .i64 nn, .slice A ls.length c] v [] wr)) (fun _ _ _ => 0)
    case atStart => exact ⟨rfl, rfl, P0⟩
    case round =>
      obtain ⟨rfl, rfl, P⟩ := hrel
      obtain ⟨zg, g0, g1, -, -⟩ := P.out.box.two
      go_wp2_with fail
      have hfin := P.out.done
      go_ret
      exact hfin
  · have hn1 : 0 < nn := by omega
    cases h1 : (vwB nn ls [0, t] && idxB ls x) with
    | false =>
      rw [h1] at C1
      rw [if_neg (by simp)]
      clear h1
      go_enter Try.func17, Try.ntmps17
      go_wp2_with fail
      go_loopw [9, 10] (fun v i wr => v = .slice (some ⟨w.heap.size + 1, 0, none⟩) 0 0 ∧ i = .int .i64 0 ∧ Hid (PL w #[.int .i64 nn, .slice A ls.length c] v [] wr)) (fun _ _ _ => 0)
      case atStart => exact ⟨rfl, rfl, P0⟩
      case round =>
        obtain ⟨rfl, rfl, P⟩ := hrel
        obtain ⟨zg, g0, g1, -, -⟩ := P.out.box.two
        go_wp2_with fail
        refine (C1 _ ((HS.out.below P.out.bel).more P.out.bel.size)).mono ?_
        rintro e w1 ⟨rfl, hb1⟩
        have P1 := Lib.hid (P.out.call hb1)
        clear hb1 P zg g0 g1
        go_wp2_with fail
        have hfin := P1.out.done
        go_ret
        exact hfin
    | true =>
      rw [h1] at C1
      rw [if_pos rfl]
      rw [Bool.and_eq_true] at h1
      obtain ⟨hv, hi'⟩ := h1
      obtain ⟨hg, hs, ht⟩ := vwB_two hv
      obtain ⟨k, l, rfl, hl⟩ := idx_at hi'
      have hkl := (List.getElem?_eq_some_iff.1 hl).1
      obtain ⟨g, rfl⟩ := hA (by omega)
      obtain ⟨n, rfl⟩ : ∃ n : Nat, nn = (n : Int) := ⟨nn.toNat, by omega⟩
      have hn8 := (gvB_fit hg).2.2.1
      rw [show ((n : Int)).toNat = n by omega, show ((k : Int)).toNat = k by omega]
      have CN := fun gs p W h h' h'' => l22next_any n g ls c k t B ch cb gs p W hg hkl ht hlc hmb h h' h''
      have HRA := Lib.hid (fun (m : Nat) (hm : m < n) (q : Nat → Bool) (hq : ∀ y, y < n → q y = rchB n (mixH (n : Int) ls k t ch) m n y) => rch_any (mix_range (k := k) (ch := ch) hg ht) hm hq)
      have hmk := make_bools n (by omega)
      have HFN := Lib.hid (nodL_next (walkB (mixH (n : Int) ls k t ch) n))
      clear hv hi' hg hs ht hl hA
      generalize mixH (n : Int) ls k t ch = H at *
      go_enter Try.func17, Try.ntmps17
      go_wp2_with fail
      go_loopw [9, 10] (fun v i wr => ∃ (m : Nat) (out : List Int), m ≤ n ∧ i = .int .i64 (m : Int) ∧ Hid (out = (nodL m).filter (walkB H n)) ∧ out.length ≤ m ∧ Hid (PL w #[.int .i64 (n : Int), .slice (some ⟨g, 0, none⟩) ls.length c] v out wr)) (fun _ i _ => n - (intOf i).toNat)
      case atStart => exact ⟨0, [], Nat.zero_le _, rfl, Lib.hid rfl, Nat.le_refl _, P0⟩
      case round =>
        obtain ⟨m, out, hmn, rfl, HD1, hol, P⟩ := hrel
        clear P0
        obtain ⟨A9, g9, c9, rfl, -, -⟩ := own_slicei P.out.row (by have := P.out.box.lt; omega)
        obtain ⟨zg, g0, g1, -, -⟩ := P.out.box.two
        by_cases hlt : m < n
        · have hlti : (m : Int) < (n : Int) := by omega
          have HX := Lib.hid (HFN.out m)
          have HR := Lib.hid (HRA.out m hlt)
          go_wp2_with fail
          refine (C1 _ ((HS.out.below P.out.bel).more P.out.bel.size)).mono ?_
          rintro e w1 ⟨rfl, hb1⟩
          have P1 := Lib.hid (P.out.call hb1)
          clear hb1 P zg g0 g1
          obtain ⟨zg, g0, g1, -, -⟩ := P1.out.box.two
          have K1 := Box.new w1 4 (bools n (fun _ => false))
          have k1a := K1.cell m
          rw [bools_at _ hlt] at k1a
          have k1f := K1.frozen m
          have k1z := K1.lt
          clear K1
          go_wp2_with fail
          clear k1a k1f k1z
          have SS1 := Lib.hid (show Box (w1.alloc (.cells ((bools n (fun _ => false)).setIfInBounds m (.bool true)) 4)) w1.heap.size 4 (bools n (fun j => if j = m then true else false)) by rw [← bools_set n m (fun _ => false) true]; exact Box.new _ _ _)
          have PS := Lib.hid (P1.out.call ((Below.refl _ _).alloc (Nat.le_refl _) (.cells ((bools n (fun _ => false)).setIfInBounds m (.bool true)) 4)))
          clear P1 zg g0 g1
          generalize w1.alloc (.cells ((bools n (fun _ => false)).setIfInBounds m (.bool true)) 4) = W0 at *
          generalize w1.heap.size = gs0 at *
          go_loopw [11, 12] (fun u i wr => ∃ (j gs : Nat) (q : Nat → Bool), j ≤ n ∧ u = .slice (some ⟨gs, 0, none⟩) n n ∧ i = .int .i64 (j : Int) ∧ Hid (∀ y, y < n → q y = rchB n H m j y) ∧ Hid (Box wr gs 4 (bools n q)) ∧ Hid (PL w #[.int .i64 (n : Int), .slice (some ⟨g, 0, none⟩) ls.length c] (.slice A9 out.length c9) out wr)) (fun _ i _ => n - (intOf i).toNat)
          case atStart => exact ⟨0, gs0, _, Nat.zero_le _, rfl, rfl, Lib.hid (fun y _ => by
            show (if y = m then true else false) = decide (y = m)
            by_cases e : y = m <;> simp [e]), SS1, PS⟩
          case round =>
            obtain ⟨j, gs, q, hj, rfl, rfl, HQ, SS, P2⟩ := hrel
            clear SS1 PS
            obtain ⟨zg, g0, g1, -, -⟩ := P2.out.box.two
            by_cases hjl : j < n
            · have hjli : (j : Int) < (n : Int) := by omega
              have CX := CN gs q wr ((HS.out.below P2.out.bel).more P2.out.bel.size) ((HBB.out.below P2.out.bel).more P2.out.bel.size) SS.out
              clear CN
              go_wp2_with fail
              refine CX.mono ?_
              clear CX
              rintro e w3 ⟨go3, q3, rfl, -, hbx, hq3, hb3⟩
              have P3 := Lib.hid (P2.out.call hb3)
              have SS3 := Lib.hid hbx
              have HQ3 := Lib.hid hq3
              clear hbx hq3 hb3 P2 zg g0 g1
              go_wp2_with fail
              go_roundw
              case rel => exact ⟨j + 1, go3, q3, hjl, rfl, by go_num, Lib.hid (fun y hy => by rw [HQ3.out y hy]; exact nxtP_ext HQ.out y), SS3, P3⟩
              case measure => simp [intOf]; omega
            · obtain rfl : j = n := by omega
              have hge : ¬ ((j : Int) < (j : Int)) := by omega
              have HRQ := Lib.hid (HR.out q HQ.out)
              clear HR HQ CN
              go_wp2_with fail
              go_loopw [13, 14] (fun f i wr => ∃ (b : Bool) (z : Nat), z ≤ j ∧ f = .bool b ∧ i = .int .i64 (z : Int) ∧ Hid (b = (List.range z).any q) ∧ Hid (Box wr gs 4 (bools j q)) ∧ Hid (PL w #[.int .i64 (j : Int), .slice (some ⟨g, 0, none⟩) ls.length c] (.slice A9 out.length c9) out wr)) (fun _ i _ => j - (intOf i).toNat)
              case atStart => exact ⟨false, 0, Nat.zero_le _, rfl, rfl, Lib.hid (by simp), SS, P2⟩
              case round =>
                obtain ⟨b, z, hz, rfl, rfl, HBV, SS4, P4⟩ := hrel
                clear SS P2 zg g0 g1
                obtain ⟨zg, g0, g1, -, -⟩ := P4.out.box.two
                by_cases hzl : z < j
                · have hzli : (z : Int) < (j : Int) := by omega
                  have HAN := Lib.hid (any_next q z)
                  have cz := SS4.out.cell z
                  rw [bools_at q hzl] at cz
                  have zs := SS4.out.lt
                  cases b with
                  | true =>
                    go_wp2_with fail
                    go_roundw
                    case rel => exact ⟨true, z + 1, hzl, rfl, by go_num, Lib.hid (by rw [HAN.out, ← HBV.out]; rfl), SS4, P4⟩
                    case measure => simp [intOf]; omega
                  | false =>
                    go_wp2_with fail
                    go_roundw
                    case rel => exact ⟨q z, z + 1, hzl, rfl, by go_num, Lib.hid (by rw [HAN.out, ← HBV.out]; rfl), SS4, P4⟩
                    case measure => simp [intOf]; omega
                · obtain rfl : z = j := by omega
                  have HBW := Lib.hid (show walkB H z (m : Int) = b by rw [← HRQ.out, HBV.out])
                  clear HBV HRQ
                  cases b with
                  | true =>
                    have hzp := P4.out.bel.size
                    have hzb := P4.out.box.lt
                    have P5 := P4.out
                    have hP5 := Lib.hid P5
                    clear P5
                    go_wp2_with (at_builtin; refine wpList_append_own_at _ rfl _ _ 28 rfl (w.heap.size + 1) 3 i0 _ 1 8 Try.underlying28 hi hz0 hz10 hz20 rfl (by decide) _ out.length (out.map (Value.int .i64)) rfl (hP5.out.row.alloc _) ⟨wr.heap.size, 0, none⟩ 1 1 [.int .i64 (m : Int)] rfl rfl (cell_one_new _ _ _) (fun u hu => by simp at hu; subst hu; rfl) (by unfold maxLen; omega) (by omega) (by simp; omega) ?_; intro v' w9 hown' hgrow hnil hat; have P9 := Lib.hid (hP5.out.append (x := (m : Int)) hown' hgrow); clear hown' hgrow hnil hat)
                    go_roundw
                    case rel => exact ⟨m + 1, out ++ [(m : Int)], hlt, by go_num, Lib.hid (by rw [HX.out, HBW.out, ← HD1.out]; rfl), by simp; omega, P9⟩
                    case measure => simp [intOf]; omega
                  | false =>
                    go_wp2_with fail
                    go_roundw
                    case rel => exact ⟨m + 1, out, hlt, by go_num, Lib.hid (by rw [HX.out, HBW.out, ← HD1.out]; simp), by omega, P4⟩
                    case measure => simp [intOf]; omega
        · obtain rfl : m = n := by omega
          have hge : ¬ ((m : Int) < (m : Int)) := by omega
          have HE := Lib.hid HD1.out
          go_wp2_with fail
          have hfin := P.out.done
          go_ret
          rw [← HE.out]
          exact hfin
end Go.Proofs.Ytkcnbgimdiggoab

/-
  Contracts over this seat: MixedArrives of the specification.
-/
namespace Go.Proofs.Ytkcnbgimdiggoab
open Go.RowKit Go.Maps

/-- What MixedArrives answers. -/
def arrA (nn : Int) (ls : List Lk) (x t : Int) (ch : List Int) : List Int := if vwB nn ls [0, t] && idxB ls x then (nodL nn.toNat).filter (arrB (mixH nn ls x.toNat t ch) t nn.toNat) else []
theorem sweep_step {n : Nat} {H : Int → List Int} {t : Int} (hr : InR n H) (ht : 0 ≤ t ∧ t < (n : Int)) {r i : Nat} {q : Nat → Bool} (h1 : ∀ y, y < n → y < i → arrB H t (r + 1) (y : Int) = true → q y = true) (h2 : ∀ y, y < n → arrB H t r (y : Int) = true → q y = true)
    (h3 : ∀ y, y < n → q y = true → arrB H t n (y : Int) = true) (hi : i < n) {b : Bool} (hb : b = (decide (0 < (H (i : Int)).length) && (H (i : Int)).all (fun y => q y.toNat))) :
    (∀ y, y < n → y < i + 1 → arrB H t (r + 1) (y : Int) = true → (if y = i then (q i || b) else q y) = true) ∧ (∀ y, y < n → arrB H t r (y : Int) = true → (if y = i then (q i || b) else q y) = true) ∧ (∀ y, y < n → (if y = i then (q i || b) else q y) = true → arrB H t n (y : Int) = true) := by
  refine ⟨fun y hy hyi ha => ?_, fun y hy ha => ?_, fun y hy hq => ?_⟩
  · by_cases e : y = i
    · subst e
      rw [if_pos rfl]
      rcases arr_step ha with ha | ⟨hne, hall⟩
      · rw [h2 y hy ha]
        rfl
      · have hbt : b = true := by
          rw [hb, Bool.and_eq_true]
          refine ⟨decide_eq_true (by
            rcases Nat.eq_zero_or_pos (H (y : Int)).length with e | e
            · exact absurd (List.eq_nil_of_length_eq_zero e) hne
            · exact e), List.all_eq_true.2 fun z hz => ?_⟩
          have hzr := hr (y : Int) z (by omega) (by omega) hz
          exact h2 z.toNat (by omega) (by rw [show ((z.toNat : Nat) : Int) = z by omega]; exact hall z hz)
        rw [hbt, Bool.or_true]
    · rw [if_neg e]
      exact h1 y hy (by omega) ha
  · by_cases e : y = i
    · subst e
      rw [if_pos rfl, h2 y hy ha]
      rfl
    · rw [if_neg e]
      exact h2 y hy ha
  · by_cases e : y = i
    · subst e
      rw [if_pos rfl, Bool.or_eq_true] at hq
      rcases hq with hq | hq
      · exact h3 y hy hq
      · rw [hb, Bool.and_eq_true, decide_eq_true_eq, List.all_eq_true] at hq
        refine arr_fix hr ht (by omega) (by omega) (fun e => by rw [e] at hq; simp at hq) fun z hz => ?_
        have hzr := hr (y : Int) z (by omega) (by omega) hz
        have := h3 z.toNat (by omega) (hq.2 z hz)
        rwa [show ((z.toNat : Nat) : Int) = z by omega] at this
    · rw [if_neg e] at hq
      exact h3 y hy hq
theorem PL.setArr {w : World} {gv : Array Value} {v : Value} {out : List Int} {W : World} (h : PL w gv v out W) {gs : Nat} {cs : Array Value} (hb : Box W gs 4 cs) (hgs : w.heap.size < gs) (i : Nat) (u : Value) : PL w gv v out (W.setCell ⟨gs, i, none⟩ u) :=
  ⟨h.row.kept (grown_set (World.grownBy.refl W (some gs)) i u) (.inr (own_box_ne h.row hb (by decide))), h.bel.setCell (p := ⟨gs, i, none⟩) (Nat.le_of_lt hgs) _, (Below.heap_setCell W ⟨gs, i, none⟩ u w.heap.size (by show w.heap.size ≠ gs; omega)).trans h.box⟩
theorem PL.arrApp {w : World} {gv : Array Value} {v : Value} {out : List Int} {W W' : World} (h : PL w gv v out W) {gs : Nat} {cs : Array Value} (hb : Box W gs 4 cs) {o : Obj} (hg : (W.alloc o).grownBy W' v.ownBlock) : Box W' gs 4 cs :=
  (hg.block gs (by have := hb.lt; simp; omega) (fun e => own_box_ne h.row hb (by decide) e.symm)).trans (hb.alloc o)
theorem all_next {hs : List Int} {j : Nat} {y : Int} (q : Int → Bool) (h : hs[j]? = some y) : (hs.take (j + 1)).all q = ((hs.take j).all q && q y) := by
  rw [List.take_add_one, h, List.all_append]
  simp

set_option maxRecDepth 100000 in
set_option maxHeartbeats 3200000 in
theorem mixArr_spec (nn : Int) (A : Option Addr) (ls : List Lk) (c : Nat) (x t : Int) (B : Option Addr) (ch : List Int) (cb : Nat) (w : World) (hm : ls.length ≤ 2000000) (hnu : nn ≤ 9223372036854775807) (hA : 0 < ls.length → ∃ g, A = some ⟨g, 0, none⟩) (hlc : ls.length ≤ c) (hmb : ch.length ≤ 2000000) (hS : Sl w w.heap.size A ls) (hB : Sli w w.heap.size B ch) :
   Calls Try.prog 25 #[gval nn A ls.length c, .int .i64 x, .int .i64 t, .slice B ch.length cb] w (NewI (arrA nn ls x t ch) w) := by
  obtain ⟨i0, hi, hz0, hz10, hz20⟩ := info_parts infoInt
  have HS := Lib.hid hS
  have HBB := Lib.hid hB
  have P0 := Lib.hid (PL_start w #[.int .i64 nn, .slice A ls.length c])
  have C1 := fun W (h : Sl W W.heap.size A ls) => l21ok_any nn A ls c 0 x t W hm hnu h
  clear hS hB
  unfold arrA
  cases h1 : (vwB nn ls [0, t] && idxB ls x) with
  | false =>
    rw [h1] at C1
    rw [if_neg (by simp)]
    clear h1
    go_enter Try.func25, Try.ntmps25
    go_wp2_with fail
    refine (C1 _ ((HS.out.below P0.out.bel).more P0.out.bel.size)).mono ?_
    rintro e w1 ⟨rfl, hb1⟩
    have P1 := Lib.hid (P0.out.call hb1)
    clear hb1
    go_wp2_with fail
    have hfin := P1.out.done
    go_ret
    exact hfin
  | true =>
    rw [h1] at C1
    rw [if_pos rfl]
    rw [Bool.and_eq_true] at h1
    obtain ⟨hv, hi'⟩ := h1
    obtain ⟨hg, hs, ht⟩ := vwB_two hv
    obtain ⟨k, l, rfl, hl⟩ := idx_at hi'
    have hkl := (List.getElem?_eq_some_iff.1 hl).1
    obtain ⟨g, rfl⟩ := hA (by omega)
    obtain ⟨n, rfl⟩ : ∃ n : Nat, nn = (n : Int) := ⟨nn.toNat, by omega⟩
    obtain ⟨tn, rfl⟩ : ∃ q : Nat, t = (q : Int) := ⟨t.toNat, by omega⟩
    have htn : tn < n := by omega
    have hn8 := (gvB_fit hg).2.2.1
    rw [show ((n : Int)).toNat = n by omega, show ((k : Int)).toNat = k by omega]
    have CP := fun (y : Nat) (hy : y < n) W h h' => l22hops_any n g ls c k (tn : Int) B ch cb (y : Int) W hg hkl ht ⟨by omega, by omega⟩ hlc hmb h h'
    have HIR := Lib.hid (mix_range (k := k) (ch := ch) hg ht)
    have HH8 := Lib.hid (fun y : Int => (show (mixH (n : Int) ls k (tn : Int) ch y).length ≤ 8 by
      unfold mixH
      split
      · exact hops_len _ _ _ _
      · exact Nat.le_trans (List.length_filter_le _ _) (hops_len _ _ _ _)))
    have hmk := make_bools n (by omega)
    have HFN := Lib.hid (nodL_next (arrB (mixH (n : Int) ls k (tn : Int) ch) (tn : Int) n))
    have HSW := Lib.hid (fun (r i : Nat) (q : Nat → Bool) h1 h2 h3 (hi : i < n) (b : Bool) hb => sweep_step (mix_range (k := k) (ch := ch) hg ht) ht (r := r) (i := i) (q := q) h1 h2 h3 hi (b := b) hb)
    clear hv hi' hg hs ht hl hA
    generalize mixH (n : Int) ls k (tn : Int) ch = H at *
    go_enter Try.func25, Try.ntmps25
    go_wp2_with fail
    refine (C1 _ ((HS.out.below P0.out.bel).more P0.out.bel.size)).mono ?_
    rintro e w1 ⟨rfl, hb1⟩
    have P1 := Lib.hid (P0.out.call hb1)
    clear hb1 P0 C1
    obtain ⟨zg, g0, g1, -, -⟩ := P1.out.box.two
    have K1 := Box.new w1 4 (bools n (fun _ => false))
    have k1a := K1.cell tn
    rw [bools_at _ htn] at k1a
    have k1f := K1.frozen tn
    have k1z := K1.lt
    have htni : (tn : Int) < (n : Int) := by omega
    clear K1
    go_wp2_with fail
    clear k1a k1f k1z
    have SS1 := Lib.hid (show Box (w1.alloc (.cells ((bools n (fun _ => false)).setIfInBounds tn (.bool true)) 4)) w1.heap.size 4 (bools n (fun j => if j = tn then true else false)) by rw [← bools_set n tn (fun _ => false) true]; exact Box.new _ _ _)
    have PS := Lib.hid (P1.out.call ((Below.refl _ _).alloc (Nat.le_refl _) (.cells ((bools n (fun _ => false)).setIfInBounds tn (.bool true)) 4)))
    clear P1 g0 g1
    generalize w1.alloc (.cells ((bools n (fun _ => false)).setIfInBounds tn (.bool true)) 4) = W0 at *
    generalize w1.heap.size = gs at *
    go_loopw [11] (fun i wr => ∃ (r : Nat) (q : Nat → Bool), r ≤ n ∧ i = .int .i64 (r : Int) ∧ Hid ((∀ y, y < n → arrB H (tn : Int) r (y : Int) = true → q y = true) ∧ (∀ y, y < n → q y = true → arrB H (tn : Int) n (y : Int) = true)) ∧ Hid (Box wr gs 4 (bools n q)) ∧ Hid (PL w #[.int .i64 (n : Int), .slice (some ⟨g, 0, none⟩) ls.length c] (.slice (some ⟨w.heap.size + 1, 0, none⟩) 0 0) [] wr)) (fun i _ => n - (intOf i).toNat)
    case atStart => exact ⟨0, _, Nat.zero_le _, rfl, Lib.hid ⟨fun y hy ha => by
        have : (y : Int) = (tn : Int) := of_decide_eq_true ha
        show (if y = tn then true else false) = true
        rw [if_pos (by omega)], fun y hy hq => by
        have e : y = tn := by
          by_cases e : y = tn
          · exact e
          · rw [if_neg e] at hq; cases hq
        subst e
        exact arr_add H (y : Int) 0 (y : Int) (by show decide ((y : Int) = (y : Int)) = true; simp) n |> fun h => by rwa [Nat.zero_add] at h⟩, SS1, PS⟩
    case round =>
      obtain ⟨r, q, hr, rfl, HQ, SS, P⟩ := hrel
      clear SS1 PS
      obtain ⟨zg', g0, g1, -, -⟩ := P.out.box.two
      by_cases hlt : r < n
      · have hlti : (r : Int) < (n : Int) := by omega
        go_wp2_with fail
        go_loopw [12] (fun i wr => ∃ (y : Nat) (q : Nat → Bool), y ≤ n ∧ i = .int .i64 (y : Int) ∧ Hid ((∀ z, z < n → z < y → arrB H (tn : Int) (r + 1) (z : Int) = true → q z = true) ∧ (∀ z, z < n → arrB H (tn : Int) r (z : Int) = true → q z = true) ∧ (∀ z, z < n → q z = true → arrB H (tn : Int) n (z : Int) = true)) ∧ Hid (Box wr gs 4 (bools n q)) ∧ Hid (PL w #[.int .i64 (n : Int), .slice (some ⟨g, 0, none⟩) ls.length c] (.slice (some ⟨w.heap.size + 1, 0, none⟩) 0 0) [] wr)) (fun i _ => n - (intOf i).toNat)
        case atStart => exact ⟨0, q, Nat.zero_le _, rfl, Lib.hid ⟨fun z _ h => by omega, HQ.out.1, HQ.out.2⟩, SS, P⟩
        case round =>
          obtain ⟨y, q, hy, rfl, HQ2, SS2, P2⟩ := hrel
          clear SS P HQ g0 g1 zg'
          obtain ⟨zg', g0, g1, -, -⟩ := P2.out.box.two
          by_cases hyl : y < n
          · have hyli : (y : Int) < (n : Int) := by omega
            have HHX := Lib.hid (HIR.out (y : Int))
            have hh8 := HH8.out (y : Int)
            have CX := CP y hyl
            have HSW2 := Lib.hid (fun (b : Bool) hb => HSW.out r y q HQ2.out.1 HQ2.out.2.1 HQ2.out.2.2 hyl b hb)
            clear HQ2
            generalize H (y : Int) = hs at *
            go_wp2_with fail
            refine (CX _ ((HS.out.below P2.out.bel).more P2.out.bel.size) ((HBB.out.below P2.out.bel).more P2.out.bel.size)).mono ?_
            clear CX
            rintro e w3 ⟨A3, g3, c3, rfl, hg3, ho3, hb⟩
            have P3 := Lib.hid (P2.out.call hb)
            have SS3 := Lib.hid (SS2.out.below hb SS2.out.lt)
            have O3 := Lib.hid ho3
            clear hb ho3 P2 SS2 g0 g1 zg' hg3
            go_wp2_with fail
            go_loopw [14, 15] (fun f i wr => ∃ (b : Bool) (j : Nat), j ≤ hs.length ∧ f = .bool b ∧ i = .int .i64 (j : Int) ∧ Hid (b = (decide (0 < hs.length) && (hs.take j).all (fun z => q z.toNat))) ∧ Hid (Own1i wr A3 g3 hs) ∧ Hid (Box wr gs 4 (bools n q)) ∧ Hid (PL w #[.int .i64 (n : Int), .slice (some ⟨g, 0, none⟩) ls.length c] (.slice (some ⟨w.heap.size + 1, 0, none⟩) 0 0) [] wr)) (fun _ i _ => hs.length - (intOf i).toNat)
            case atStart => exact ⟨_, 0, Nat.zero_le _, rfl, rfl, Lib.hid (by simp), O3, SS3, P3⟩
            case round =>
              obtain ⟨b, j, hj, rfl, rfl, HBV, O4, SS4, P4⟩ := hrel
              clear O3 SS3 P3
              by_cases hjl : j < hs.length
              · obtain ⟨z, hz⟩ : ∃ z, hs[j]? = some z := ⟨_, List.getElem?_eq_getElem hjl⟩
                have hzr := HHX.out z (by omega) hyli (List.mem_of_getElem? hz)
                obtain ⟨zn, rfl⟩ : ∃ q : Nat, z = (q : Int) := ⟨z.toNat, by omega⟩
                have HAN := Lib.hid (all_next (fun z => q z.toNat) hz)
                obtain ⟨rfl, z3, cz⟩ := O4.out.at hz
                have hzn : zn < n := by omega
                have cq := SS4.out.cell zn
                rw [bools_at q hzn] at cq
                have zs := SS4.out.lt
                clear hz
                cases b with
                | false =>
                  go_wp2_with fail
                  go_roundw
                  case rel => exact ⟨false, j + 1, hjl, rfl, by go_num, Lib.hid (by rw [HAN.out, ← Bool.and_assoc, ← HBV.out]; rfl), O4, SS4, P4⟩
                  case measure => simp [intOf]; omega
                | true =>
                  go_wp2_with fail
                  go_roundw
                  case rel => exact ⟨q zn, j + 1, hjl, rfl, by go_num, Lib.hid (by rw [HAN.out, ← Bool.and_assoc, ← HBV.out, Bool.true_and, Int.toNat_natCast]), O4, SS4, P4⟩
                  case measure => simp [intOf]; omega
              · obtain rfl : j = hs.length := by omega
                have hge : ¬ ((hs.length : Int) < (hs.length : Int)) := by omega
                have HB2 := Lib.hid (show b = (decide (0 < hs.length) && hs.all (fun z => q z.toNat)) by rw [HBV.out, List.take_length])
                have HSW3 := Lib.hid (HSW2.out b HB2.out)
                have cq := SS4.out.cell y
                rw [bools_at q hyl] at cq
                have cf := SS4.out.frozen y
                have zs := SS4.out.lt
                clear HBV HB2 HSW2
                have hgs2 : w.heap.size < gs := by
                  have := zg
                  omega
                obtain ⟨qy, hqy⟩ : ∃ qy, q y = qy := ⟨_, rfl⟩
                have HQY := Lib.hid hqy
                rw [hqy] at cq
                clear hqy
                cases qy with
                | true =>
                  go_wp2_with fail
                  go_roundw
                  case rel => exact ⟨y + 1, fun z => if z = y then (q y || b) else q z, hyl, by go_num, HSW3, Lib.hid (by rw [HQY.out, Bool.true_or, ← bools_set]; exact heap_set SS4.out y _), Lib.hid (P4.out.setArr SS4.out hgs2 y _)⟩
                  case measure => simp [intOf]; omega
                | false =>
                  go_wp2_with fail
                  go_roundw
                  case rel => exact ⟨y + 1, fun z => if z = y then (q y || b) else q z, hyl, by go_num, HSW3, Lib.hid (by rw [HQY.out, Bool.false_or, ← bools_set]; exact heap_set SS4.out y _), Lib.hid (P4.out.setArr SS4.out hgs2 y _)⟩
                  case measure => simp [intOf]; omega
          · obtain rfl : y = n := by omega
            have hge : ¬ ((y : Int) < (y : Int)) := by omega
            go_wp2_with fail
            go_roundw
            case rel => exact ⟨r + 1, q, hlt, by go_num, Lib.hid ⟨fun z hz ha => HQ2.out.1 z hz hz ha, HQ2.out.2.2⟩, SS2, P2⟩
            case measure => simp [intOf]; omega
      · obtain rfl : r = n := by omega
        have hge : ¬ ((r : Int) < (r : Int)) := by omega
        have HQF := Lib.hid (fun (y : Nat) (hy : y < r) => (show q y = arrB H (tn : Int) r (y : Int) by rw [Bool.eq_iff_iff]; exact ⟨HQ.out.2 y hy, HQ.out.1 y hy⟩))
        clear HQ CP HSW HH8 HIR
        go_wp2_with fail
        go_loopw [9, 16] (fun v i wr => ∃ (y : Nat) (out : List Int), y ≤ r ∧ i = .int .i64 (y : Int) ∧ Hid (out = (nodL y).filter (arrB H (tn : Int) r)) ∧ out.length ≤ y ∧ Hid (Box wr gs 4 (bools r q)) ∧ Hid (PL w #[.int .i64 (r : Int), .slice (some ⟨g, 0, none⟩) ls.length c] v out wr)) (fun _ i _ => r - (intOf i).toNat)
        case atStart => exact ⟨0, [], Nat.zero_le _, rfl, Lib.hid rfl, Nat.le_refl _, SS, P⟩
        case round =>
          obtain ⟨y, out, hy, rfl, HD1, hol, SS2, P2⟩ := hrel
          clear SS P g0 g1 zg'
          obtain ⟨A9, g9, c9, rfl, -, -⟩ := own_slicei P2.out.row (by have := P2.out.box.lt; omega)
          obtain ⟨zg', g0, g1, -, -⟩ := P2.out.box.two
          by_cases hyl : y < r
          · have hyli : (y : Int) < (r : Int) := by omega
            have HX := Lib.hid (HFN.out y)
            have cq := SS2.out.cell y
            rw [bools_at q hyl] at cq
            have zs := SS2.out.lt
            have hqy := HQF.out y hyl
            obtain ⟨qy, hqq⟩ : ∃ qy, q y = qy := ⟨_, rfl⟩
            rw [hqq] at cq
            have HQY := Lib.hid (show arrB H (tn : Int) r (y : Int) = qy by rw [← hqy, hqq])
            clear hqy hqq
            cases qy with
            | true =>
              have hzp := P2.out.bel.size
              have hzb := P2.out.box.lt
              go_wp2_with (at_builtin; refine wpList_append_own_at _ rfl _ _ 28 rfl (w.heap.size + 1) 3 i0 _ 1 8 Try.underlying28 hi hz0 hz10 hz20 rfl (by decide) _ out.length (out.map (Value.int .i64)) rfl (P2.out.row.alloc _) ⟨wr.heap.size, 0, none⟩ 1 1 [.int .i64 (y : Int)] rfl rfl (cell_one_new _ _ _) (fun u hu => by simp at hu; subst hu; rfl) (by unfold maxLen; omega) (by omega) (by simp; omega) ?_; intro v' w9 hown' hgrow hnil hat; have P9 := Lib.hid (P2.out.append (x := (y : Int)) hown' hgrow); have SS9 := Lib.hid (P2.out.arrApp SS2.out hgrow); clear hown' hgrow hnil hat)
              go_roundw
              case rel => exact ⟨y + 1, out ++ [(y : Int)], hyl, by go_num, Lib.hid (by rw [HX.out, HQY.out, ← HD1.out]; rfl), by simp; omega, SS9, P9⟩
              case measure => simp [intOf]; omega
            | false =>
              go_wp2_with fail
              go_roundw
              case rel => exact ⟨y + 1, out, hyl, by go_num, Lib.hid (by rw [HX.out, HQY.out, ← HD1.out]; simp), by omega, SS2, P2⟩
              case measure => simp [intOf]; omega
          · obtain rfl : y = r := by omega
            have hge : ¬ ((y : Int) < (y : Int)) := by omega
            have HE := Lib.hid HD1.out
            go_wp2_with fail
            have hfin := P2.out.done
            go_ret
            rw [← HE.out]
            exact hfin
end Go.Proofs.Ytkcnbgimdiggoab
