/-
  Contracts over this seat: announcements in the exact laws: their size, copies, comparison, marks.
-/
import Derived.Test.YtimebipgiicmiacZc
namespace Go.Proofs.Ytimebipgiicmiac
open Go.RowKit Go.Maps

/-- How many marks a list takes. -/
def cntZ : List Lz → Nat
  | [] => 0
  | z :: r => 2 + 2 * z.es.length + cntZ r
theorem cntZ_next {zs : List Lz} {k : Nat} {z : Lz} (h : zs[k]? = some z) : cntZ (zs.take (k + 1)) = cntZ (zs.take k) + (2 + 2 * z.es.length) := by
  induction zs generalizing k with
  | nil => simp at h
  | cons x r ih =>
    cases k with
    | zero =>
      simp at h
      subst h
      simp [cntZ]
    | succ k =>
      have := ih (by simpa using h)
      rw [List.take_succ_cons, List.take_succ_cons]
      unfold cntZ
      omega
def leftI (left : Int) (n : Nat) : Int := if left - n < 0 then -1 else left - n
theorem szEndS_any (A : Option Addr) (n c : Nat) (left : Int) (w : World) (hn : n ≤ maxLen) (hl : 0 ≤ left ∧ left ≤ 1048576) :
   Calls Try.prog 82 #[.slice A n c, .int .i64 left] w fun e w' => e = .returned (.int .i64 (leftI left n)) ∧ Below w.heap.size w w' := by
  have hw : IntKind.i64.wrap (left - (n : Int)) = left - (n : Int) := IntWalk.i64_in _ (by unfold maxLen at hn; omega)
  by_cases h : left - (n : Int) < 0
  · have hv : leftI left n = -1 := by unfold leftI; rw [if_pos h]
    have HV := Lib.hid hv
    clear hv
    go_enter Try.func82, Try.ntmps82
    go_wp2
    go_ret
    exact ⟨ret_int HV.out.symm, by (repeat (first | exact Below.refl _ _ | (refine Below.alloc ?_ (by first | exact Nat.le_refl _ | omega | (simp; done) | (simp; omega)) _) | (refine Below.setCell ?_ (by first | exact Nat.le_refl _ | omega | (simp; done) | (simp; omega)) _) | exact Below.drew ‹_›))⟩
  · have hv : leftI left n = left - n := by unfold leftI; rw [if_neg h]
    have HV := Lib.hid hv
    clear hv
    go_enter Try.func82, Try.ntmps82
    go_wp2
    go_ret
    exact ⟨ret_int HV.out.symm, by (repeat (first | exact Below.refl _ _ | (refine Below.alloc ?_ (by first | exact Nat.le_refl _ | omega | (simp; done) | (simp; omega)) _) | (refine Below.setCell ?_ (by first | exact Nat.le_refl _ | omega | (simp; done) | (simp; omega)) _) | exact Below.drew ‹_›))⟩
theorem leftI_cases (left : Int) (n : Nat) (_h0 : 0 ≤ left) : (leftI left n = -1) ∨ (0 ≤ leftI left n ∧ leftI left n = left - n ∧ (n : Int) ≤ left) := by
  unfold leftI
  split <;> omega
theorem szLsa_any (z : Lz) (left : Int) (w : World) (hn : z.es.length ≤ maxLen) (hl : 0 ≤ left ∧ left ≤ 1048576) :
   Calls Try.prog 56 #[z.v, .int .i64 left] w fun e w' => e = .returned (.int .i64 (leftI left z.es.length)) ∧ Below w.heap.size w w' := by
  obtain ⟨o, q, es, A, c, g⟩ := z
  dsimp only at *
  have CE := fun W => szEndS_any A es.length c left W hn hl
  have HC := Lib.hid (leftI_cases left es.length hl.1)
  have HB := Lib.hid (show Below w.heap.size w (w.alloc (.cells #[.int .i64 o, .int .i64 q, .slice A es.length c] 91)) by (repeat (first | exact Below.refl _ _ | (refine Below.alloc ?_ (by first | exact Nat.le_refl _ | omega | (simp; done) | (simp; omega)) _) | (refine Below.setCell ?_ (by first | exact Nat.le_refl _ | omega | (simp; done) | (simp; omega)) _) | exact Below.drew ‹_›)))
  obtain ⟨r, hr⟩ : ∃ r, leftI left es.length = r := ⟨_, rfl⟩
  rw [hr] at CE HC
  have HR := Lib.hid hr
  clear hr
  go_enter Try.func56, Try.ntmps56
  go_wp2_with fail
  refine (CE _).mono ?_
  rintro e w1 ⟨rfl, hb1⟩
  have B1 := Lib.hid (HB.out.trans (hb1.mono (by simp)))
  clear hb1
  rcases HC.out with rfl | ⟨h0, -, -⟩
  · go_wp2_with fail
    go_ret
    exact ⟨ret_int HR.out.symm, B1.out⟩
  · have h0' : ¬ r < 0 := by omega
    go_wp2_with fail
    go_ret
    exact ⟨ret_int HR.out.symm, B1.out⟩
/-- What szLsaS leaves: nought or more only where the list is short. -/
def SzZ (left : Int) (zs : List Lz) (w : World) (e : Ending) (w' : World) : Prop :=
  ∃ r : Int, e = .returned (.int .i64 r) ∧ (r = -1 ∨ (0 ≤ r ∧ r ≤ left ∧ zs.length ≤ 1048576 ∧ (∀ z ∈ zs, z.es.length ≤ 1048576) ∧ (cntZ zs : Int) ≤ 2 * (left - r))) ∧ Below w.heap.size w w'
set_option maxRecDepth 100000 in
set_option maxHeartbeats 800000 in
theorem szLsaS_any (A : Option Addr) (zs : List Lz) (c : Nat) (left : Int) (w : World) (hn : zs.length ≤ maxLen) (hes : ∀ z ∈ zs, z.es.length ≤ maxLen) (hl : 0 ≤ left ∧ left ≤ 1048576) (hS : Slz w w.heap.size A zs) :
   Calls Try.prog 23 #[.slice A zs.length c, .int .i64 left] w (SzZ left zs w) := by
  have HS := Lib.hid hS
  have HES := Lib.hid hes
  have hw : IntKind.i64.wrap (left - (zs.length : Int)) = left - (zs.length : Int) := IntWalk.i64_in _ (by unfold maxLen at hn; omega)
  clear hS hes
  by_cases h : left - (zs.length : Int) < 0
  · go_enter Try.func23, Try.ntmps23
    go_wp2
    go_ret
    exact ⟨-1, rfl, .inl rfl, by (repeat (first | exact Below.refl _ _ | (refine Below.alloc ?_ (by first | exact Nat.le_refl _ | omega | (simp; done) | (simp; omega)) _) | (refine Below.setCell ?_ (by first | exact Nat.le_refl _ | omega | (simp; done) | (simp; omega)) _) | exact Below.drew ‹_›))⟩
  · have hzl : zs.length ≤ 1048576 := by omega
    go_enter Try.func23, Try.ntmps23
    go_wp2_with fail
    go_loopw [1, 5] (fun v i wr => ∃ (k : Nat) (l : Int), k ≤ zs.length ∧ i = .int .i64 (k : Int) ∧ v = .int .i64 l ∧ 0 ≤ l ∧ l ≤ left ∧ Hid ((cntZ (zs.take k) : Int) + 2 * ((zs.length : Int) - k) ≤ 2 * (left - l)) ∧ Hid (∀ (j : Nat) (z : Lz), j < k → zs[j]? = some z → z.es.length ≤ 1048576) ∧ Hid (Below w.heap.size w wr)) (fun _ i _ => zs.length - (intOf i).toNat)
    case atStart => exact ⟨0, left - (zs.length : Int), Nat.zero_le _, rfl, rfl, by omega, by omega, Lib.hid (by simp [cntZ]; omega), Lib.hid (fun j z h => by omega), Lib.hid (Below.refl _ _)⟩
    case round =>
      obtain ⟨k, l, hk, rfl, rfl, hl0, hl1, HCN, HJ, B1⟩ := hrel
      by_cases hlt : k < zs.length
      · obtain ⟨z, hz⟩ : ∃ x, zs[k]? = some x := ⟨_, List.getElem?_eq_getElem hlt⟩
        obtain ⟨b, off, rfl, hbb, hc1, hc2, hc3, -⟩ := (HS.out.below B1.out) k z hz
        have hsz := B1.out.size
        have zb : b < wr.heap.size := by omega
        have CZ := fun W => szLsa_any z l W (HES.out z (List.mem_of_getElem? hz)) ⟨hl0, by omega⟩
        have HC := Lib.hid (leftI_cases l z.es.length hl0)
        have HZ := Lib.hid hz
        have HNX := Lib.hid (cntZ_next hz)
        obtain ⟨r, hr⟩ : ∃ r, leftI l z.es.length = r := ⟨_, rfl⟩
        rw [hr] at CZ HC
        clear hz hr
        go_wp2_with fail
        refine (CZ _).mono ?_
        rintro e w1 ⟨rfl, hb1⟩
        have B2 := Lib.hid (B1.out.trans (hb1.mono hsz))
        clear hb1 CZ
        rcases HC.out with rfl | ⟨h0, h1, h2⟩
        · go_wp2_with fail
          go_ret
          exact ⟨-1, rfl, .inl rfl, B2.out⟩
        · have h0' : ¬ r < 0 := by omega
          have hrl : r ≤ l := by omega
          have H1 := Lib.hid h1
          clear h1
          go_wp2_with fail
          go_roundw
          case rel => exact ⟨k + 1, r, hlt, by go_num, rfl, h0, by omega, Lib.hid (by have h3 := HNX.out; have h4 := HCN.out; have h5 := H1.out; push_cast; omega), Lib.hid (fun j x hj hx => by
            by_cases hjk : j < k
            · exact HJ.out j x hjk hx
            · obtain rfl : j = k := by omega
              have := HZ.out
              rw [hx] at this
              cases this
              omega), B2⟩
          case measure => simp [intOf]; omega
      · go_wp2_with fail
        go_ret
        obtain rfl : k = zs.length := by omega
        have hcn := HCN.out
        rw [List.take_length] at hcn
        exact ⟨l, rfl, .inr ⟨hl0, hl1, hzl, fun z hz => by
          obtain ⟨j, hj⟩ := List.getElem?_of_mem hz
          exact HJ.out j z (List.getElem?_eq_some_iff.1 hj).1 hj, by omega⟩, B1.out⟩

set_option maxHeartbeats 400000 in
theorem toLsa_any (z : Lz) (w : World) (hm : z.es.length ≤ 2000000) (hS : Slb w w.heap.size z.A z.es) :
   Calls Try.prog 59 #[z.v] w (OneZ z.d w) := by
  obtain ⟨o, q, es, A, c, g⟩ := z
  dsimp only at *
  have H1 := Lib.hid hS
  clear hS
  go_enter Try.func59, Try.ntmps59
  go_wp2_with fail
  refine (toEndS_any A es c _ hm ((H1.out.below (by (repeat (first | exact Below.refl _ _ | (refine Below.alloc ?_ (by first | exact Nat.le_refl _ | omega | (simp; done) | (simp; omega)) _) | (refine Below.setCell ?_ (by first | exact Nat.le_refl _ | omega | (simp; done) | (simp; omega)) _) | exact Below.drew ‹_›)))).more (by simp; omega))).mono ?_
  rintro e w1 ⟨g1, rfl, hg, harr, hb⟩
  obtain ⟨hc, hf⟩ := bcell hb
  have hz := hb.size
  have HB := Lib.hid hb
  have HA := Lib.hid harr
  have hgl := harr.lt
  clear hb harr
  simp only [World.size_alloc] at hg hz
  go_wp2_with fail
  refine bodyPost_ret (v := (⟨o, q, es, some ⟨g1, 0, none⟩, es.length, g1⟩ : Lz).v) (by simp [results, Try.results59, go_sem, hc]) rfl ⟨⟨o, q, es, some ⟨g1, 0, none⟩, es.length, g1⟩, rfl, rfl, ⟨?_, ?_, Nat.le_refl _⟩, ?_⟩
  · have h1 : Owne w1 (some ⟨g1, 0, none⟩) g1 es := fun _ => ⟨rfl, HA.out⟩
    exact (((h1.set_far (p := ⟨w.heap.size + 2, 2, none⟩) (by show g1 ≠ w.heap.size + 2; omega) _).set_far (p := ⟨w.heap.size + 1, 0, none⟩) (by show g1 ≠ w.heap.size + 1; omega) _).set_far (p := ⟨w.heap.size + 1, 1, none⟩) (by show g1 ≠ w.heap.size + 1; omega) _).set_far (p := ⟨w.heap.size + 1, 2, none⟩) (by show g1 ≠ w.heap.size + 1; omega) _
  · show w.heap.size ≤ g1; omega
  · have hB0 : Below w.heap.size w w1 := Below.trans (by (repeat (first | exact Below.refl _ _ | (refine Below.alloc ?_ (by first | exact Nat.le_refl _ | omega | (simp; done) | (simp; omega)) _) | (refine Below.setCell ?_ (by first | exact Nat.le_refl _ | omega | (simp; done) | (simp; omega)) _) | exact Below.drew ‹_›))) (HB.out.mono (by simp; omega))
    exact (((hB0.setCell (p := ⟨w.heap.size + 2, 2, none⟩) (by show w.heap.size ≤ w.heap.size + 2; omega) _).setCell (p := ⟨w.heap.size + 1, 0, none⟩) (Nat.le_succ _) _).setCell (p := ⟨w.heap.size + 1, 1, none⟩) (Nat.le_succ _) _).setCell (p := ⟨w.heap.size + 1, 2, none⟩) (Nat.le_succ _) _


theorem flat_arr {cs : Array Value} {ys : List Lz} (hs : cs.size = ys.length * 3) (h : ∀ (j : Nat) (z : Lz), ys[j]? = some z → cs[j * 3]? = some (.int .i64 z.o) ∧ cs[j * 3 + 1]? = some (.int .i64 z.q) ∧ cs[j * 3 + 2]? = some (.slice z.A z.es.length z.c)) : cs.toList = flatZ ys := by
  refine List.ext_getElem? fun i => ?_
  rw [Array.getElem?_toList]
  by_cases hi : i < ys.length * 3
  · have hj : i / 3 < ys.length := by omega
    have hz := List.getElem?_eq_getElem hj
    obtain ⟨h0, h1, h2⟩ := h _ _ hz
    obtain ⟨f0, f1, f2⟩ := flatZ_at ys _ _ hz
    have hr : i = i / 3 * 3 ∨ i = i / 3 * 3 + 1 ∨ i = i / 3 * 3 + 2 := by omega
    rcases hr with hr | hr | hr
    · rw [hr, h0, f0]
    · rw [hr, h1, f1]
    · rw [hr, h2, f2]
  · rw [Array.getElem?_eq_none (by omega), List.getElem?_eq_none (by rw [flatZ_len]; omega)]
/-- A row of announcements under way: k of n are there. -/
structure UZ (w : World) (zs : List Lz) (k : Nat) (cs : Array Value) (ys : List Lz) (W : World) : Prop where
  hh : W.heap[w.heap.size]? = some (.cells cs 28 (0, 0))
  sz : cs.size = zs.length * 3
  len : ys.length = k
  dat : datL ys = (datL zs).take k
  at_ : ∀ (j : Nat) (z : Lz), ys[j]? = some z → cs[j * 3]? = some (.int .i64 z.o) ∧ cs[j * 3 + 1]? = some (.int .i64 z.q) ∧ cs[j * 3 + 2]? = some (.slice z.A z.es.length z.c)
  inn : ∀ y ∈ ys, InnZ W (w.heap.size + 1) y
  dis : ys.Pairwise (fun a b => 0 < a.es.length → 0 < b.es.length → a.g ≠ b.g)
  bel : Below w.heap.size w W
theorem UZ.step {w W w1 : World} {zs : List Lz} {k : Nat} {cs : Array Value} {ys : List Lz} (h : UZ w zs k cs ys W) {z y : Lz} (hz : zs[k]? = some z) (hd : y.d = z.d) (hi : InnZ w1 W.heap.size y) (hb : Below W.heap.size W w1) :
    UZ w zs (k + 1) (((cs.setIfInBounds (k * 3) (.int .i64 y.o)).setIfInBounds (k * 3 + 1) (.int .i64 y.q)).setIfInBounds (k * 3 + 2) (.slice y.A y.es.length y.c)) (ys ++ [y])
      (((w1.setCell ⟨w.heap.size, k * 3, none⟩ (.int .i64 y.o)).setCell ⟨w.heap.size, k * 3 + 1, none⟩ (.int .i64 y.q)).setCell ⟨w.heap.size, k * 3 + 2, none⟩ (.slice y.A y.es.length y.c)) := by
  have hkl := (List.getElem?_eq_some_iff.1 hz).1
  have hgl := heap_lt h.hh
  have hh1 : w1.heap[w.heap.size]? = some (.cells cs 28 (0, 0)) := (hb.block _ hgl).trans h.hh
  refine ⟨heap_set (heap_set (heap_set hh1 _ _) _ _) _ _, by simp only [Array.size_setIfInBounds]; exact h.sz, by rw [List.length_append, h.len]; rfl, ?_, ?_, ?_, ?_, ?_⟩
  · rw [datL_next hz, ← h.dat, ← hd]
    simp [datL]
  · intro j x hj
    have hsz := h.sz
    simp only [Array.getElem?_setIfInBounds, Array.size_setIfInBounds]
    by_cases hjk : j < k
    · rw [List.getElem?_append_left (by rw [h.len]; exact hjk)] at hj
      obtain ⟨h0, h1, h2⟩ := h.at_ j x hj
      refine ⟨?_, ?_, ?_⟩
      · rw [if_neg (by omega), if_neg (by omega), if_neg (by omega)]; exact h0
      · rw [if_neg (by omega), if_neg (by omega), if_neg (by omega)]; exact h1
      · rw [if_neg (by omega), if_neg (by omega), if_neg (by omega)]; exact h2
    · have hjl := (List.getElem?_eq_some_iff.1 hj).1
      rw [List.length_append, h.len] at hjl
      obtain rfl : j = k := by simp at hjl; omega
      rw [List.getElem?_append_right (by rw [h.len]; exact Nat.le_refl _), h.len] at hj
      simp at hj
      subst hj
      refine ⟨?_, ?_, ?_⟩
      · rw [if_neg (by omega), if_neg (by omega), if_pos rfl, if_pos (by omega)]
      · rw [if_neg (by omega), if_pos rfl, if_pos (by omega)]
      · rw [if_pos rfl, if_pos (by omega)]
  · intro x hx
    have far : ∀ {x : Lz}, InnZ w1 (w.heap.size + 1) x → InnZ (((w1.setCell ⟨w.heap.size, k * 3, none⟩ (.int .i64 y.o)).setCell ⟨w.heap.size, k * 3 + 1, none⟩ (.int .i64 y.q)).setCell ⟨w.heap.size, k * 3 + 2, none⟩ (.slice y.A y.es.length y.c)) (w.heap.size + 1) x := fun {x} hx => by
      have hne : x.g ≠ w.heap.size := by have := hx.2.1; omega
      exact ⟨((hx.1.set_far (p := ⟨w.heap.size, k * 3, none⟩) hne _).set_far (p := ⟨w.heap.size, k * 3 + 1, none⟩) hne _).set_far (p := ⟨w.heap.size, k * 3 + 2, none⟩) hne _, hx.2.1, hx.2.2⟩
    rcases List.mem_append.1 hx with hx | hx
    · have := h.inn x hx
      exact far ⟨this.1.below hb, this.2.1, this.2.2⟩
    · obtain rfl : x = y := by simpa using hx
      exact far (hi.weak (by omega))
  · rw [List.pairwise_append]
    refine ⟨h.dis, by simp, fun a ha b hb2 h1 h2 => ?_⟩
    obtain rfl : b = y := by simpa using hb2
    have := ((h.inn a ha).1 h1).2.lt
    have := hi.2.1
    omega
  · have h1 := h.bel.trans (hb.mono h.bel.size)
    exact ((h1.setCell (p := ⟨w.heap.size, k * 3, none⟩) (Nat.le_refl _) _).setCell (p := ⟨w.heap.size, k * 3 + 1, none⟩) (Nat.le_refl _) _).setCell (p := ⟨w.heap.size, k * 3 + 2, none⟩) (Nat.le_refl _) _

set_option maxRecDepth 100000 in
set_option maxHeartbeats 800000 in
theorem toLsaS_any (A : Option Addr) (zs : List Lz) (c : Nat) (w : World) (hm : zs.length ≤ 2000000) (hes : ∀ z ∈ zs, z.es.length ≤ 2000000) (hS : Slz w w.heap.size A zs) :
   Calls Try.prog 25 #[.slice A zs.length c] w (NewZ (datL zs) w) := by
  obtain ⟨i0, hi, hz0, hz1, hz2⟩ := info_parts infoLsa
  have H1 := Lib.hid hS
  have HES := Lib.hid hes
  clear hS hes
  go_enter Try.func25, Try.ntmps25
  go_wp2_with (first | (at_make; refine wpList_make_full _ rfl _ _ 56 rfl w.heap.size 28 i0 _ 3 Try.underlying56 hi hz0 hz1 _ _ _ _ zs.length rfl rfl rfl rfl (by rw [hz2]; omega) (by unfold maxLen; omega) (Nat.le_refl _) ?_; intro w1 hown hgrow))
  obtain ⟨cs0, hh0, hs0, hg0, _, _⟩ := own_arr hown
  have U0 := Lib.hid (show UZ w zs 0 cs0 [] w1 from ⟨hh0, hs0, rfl, rfl, fun j z h => by simp at h, by simp, .nil, (Below.refl w.heap.size w).grown hgrow (Nat.le_refl _) (fun _ h => by cases h)⟩)
  clear hown hgrow hh0 hs0 hg0 hi hz0 hz1 hz2
  go_loopw [4] (fun i wr => ∃ (k : Nat) (cs : Array Value) (ys : List Lz), k ≤ zs.length ∧ i = .int .i64 k ∧ Hid (UZ w zs k cs ys wr)) (fun i _ => zs.length - (intOf i).toNat)
  case atStart => exact ⟨0, cs0, [], Nat.zero_le _, rfl, U0⟩
  case round =>
    obtain ⟨k, cs, ys, hk, rfl, U1⟩ := hrel
    clear U0
    by_cases hlt : k < zs.length
    · obtain ⟨z, hz⟩ : ∃ x, zs[k]? = some x := ⟨_, List.getElem?_eq_getElem hlt⟩
      obtain ⟨b, off, rfl, hbb, hc1, hc2, hc3, hin⟩ := (H1.out.below U1.out.bel) k z hz
      have hsz := U1.out.bel.size
      have zb : b < wr.heap.size := by omega
      have HZ := Lib.hid hz
      have CT := toLsa_any z wr (HES.out z (List.mem_of_getElem? hz)) (hin.more hsz)
      have hgl := heap_lt U1.out.hh
      have hcz := U1.out.sz
      obtain ⟨zo, zq, zes, zA, zc, zg⟩ := z
      dsimp only at *
      clear hz hin
      go_wp2_with fail
      refine CT.mono ?_
      clear CT
      rintro e w2 ⟨y, rfl, hd, hiy, hb2⟩
      have hh2 : w2.heap[w.heap.size]? = some (.cells cs 28 (0, 0)) := (hb2.block _ hgl).trans U1.out.hh
      have q0 := heap_frozen hh2 (k * 3)
      have q1 := heap_frozen hh2 (k * 3 + 1)
      have q2 := heap_frozen hh2 (k * 3 + 2)
      obtain ⟨v0, x0⟩ := cell_in hh2 (i := k * 3) (by omega)
      obtain ⟨v1, x1⟩ := cell_in hh2 (i := k * 3 + 1) (by omega)
      obtain ⟨v2, x2⟩ := cell_in hh2 (i := k * 3 + 2) (by omega)
      have U2 := Lib.hid (U1.out.step HZ.out hd hiy hb2)
      have hgl2 := heap_lt hh2
      obtain ⟨yo, yq, yes, yA, yc, yg⟩ := y
      clear hd hiy hb2 hh2 hcz hc1 hc2 hc3 hgl
      go_wp2_with fail
      go_roundw
      case rel => exact ⟨k + 1, _, _, hlt, by go_num, U2⟩
      case measure => simp [intOf]; omega
    · obtain rfl : k = zs.length := by omega
      go_wp2_with fail
      go_ret
      obtain ⟨hh, hsz, hlen, hdat, hat, hinn, hdis, hbel⟩ := U1.out
      have hdat2 : datL ys = datL zs := by rw [hdat, show zs.length = (datL zs).length by simp [datL], List.take_length]
      refine ⟨ys, some ⟨w.heap.size, 0, none⟩, zs.length, by rw [hlen]; rfl, hdat2, ⟨?_, fun y hy => (hinn y hy).weak (Nat.le_succ _), hdis⟩, hbel⟩
      rw [hlen]
      refine ⟨by rw [flatZ_len, hlen], .inr ⟨w.heap.size, zs.length, cs, rfl, Nat.le_refl _, hh, Nat.le_refl _, by unfold maxLen; omega, hsz, ?_⟩⟩
      rw [flat_arr (by rw [hlen]; exact hsz) hat, List.take_of_length_le (by rw [flatZ_len, hlen]; exact Nat.le_refl _)]

theorem eqLsa_same (x y : Lz) (w : World) (hd : x.d = y.d) (hm : x.es.length ≤ 2000000) (h1 : Slb w w.heap.size x.A x.es) (h2 : Slb w w.heap.size y.A y.es) :
   Calls Try.prog 13 #[x.v, y.v] w fun e w' => e = .returned (.bool true) ∧ Below w.heap.size w w' := by
  obtain ⟨xo, xq, xes, xA, xc, xg⟩ := x
  obtain ⟨yo, yq, yes, yA, yc, yg⟩ := y
  cases hd
  dsimp only at *
  have R1 := Lib.hid h1
  have R2 := Lib.hid h2
  have CE := fun W (h1 : Slb W W.heap.size xA xes) (h2 : Slb W W.heap.size yA xes) => eqEndS_same xA yA xes xc yc W hm h1 h2
  have hb0 : Below w.heap.size w ((w.alloc (.cells #[.int .i64 xo, .int .i64 xq, .slice xA xes.length xc] 28)).alloc (.cells #[.int .i64 xo, .int .i64 xq, .slice yA xes.length yc] 28)) := by (repeat (first | exact Below.refl _ _ | (refine Below.alloc ?_ (by first | exact Nat.le_refl _ | omega | (simp; done) | (simp; omega)) _) | (refine Below.setCell ?_ (by first | exact Nat.le_refl _ | omega | (simp; done) | (simp; omega)) _) | exact Below.drew ‹_›))
  have HB := Lib.hid hb0
  clear h1 h2 hb0
  go_enter Try.func13, Try.ntmps13
  go_wp2_with fail
  refine (CE _ ((R1.out.below HB.out).more HB.out.size) ((R2.out.below HB.out).more HB.out.size)).mono ?_
  rintro e w1 ⟨rfl, hb1⟩
  have B1 := Lib.hid (HB.out.trans (hb1.mono HB.out.size))
  clear hb1
  go_wp2_with fail
  go_ret
  exact ⟨rfl, B1.out⟩

set_option maxRecDepth 100000 in
set_option maxHeartbeats 800000 in
theorem eqLsaS_same (A1 A2 : Option Addr) (xs ys : List Lz) (c1 c2 : Nat) (w : World) (hd : datL xs = datL ys) (hm : xs.length ≤ 2000000) (hes : ∀ x ∈ xs, x.es.length ≤ 2000000) (h1 : Slz w w.heap.size A1 xs) (h2 : Slz w w.heap.size A2 ys) :
   Calls Try.prog 27 #[.slice A1 xs.length c1, .slice A2 ys.length c2] w fun e w' => e = .returned (.bool true) ∧ Below w.heap.size w w' := by
  have R1 := Lib.hid h1
  have R2 := Lib.hid h2
  have HES := Lib.hid hes
  have hlen : ys.length = xs.length := by have := congrArg List.length hd; simpa [datL] using this.symm
  have HD : Hid (∀ (k : Nat) (x y : Lz), xs[k]? = some x → ys[k]? = some y → x.d = y.d) := Lib.hid (fun k x y hx hy => by
    have e1 : (datL xs)[k]? = some x.d := by simp [datL, hx]
    have e2 : (datL ys)[k]? = some y.d := by simp [datL, hy]
    rw [hd, e2] at e1
    exact (Option.some.inj e1).symm)
  rw [hlen]
  have HL := Lib.hid hlen
  clear h1 h2 hes hd hlen
  go_enter Try.func27, Try.ntmps27
  go_wp2_with fail
  go_loopw [5] (fun i wr => ∃ k : Nat, k ≤ xs.length ∧ i = .int .i64 k ∧ Hid (Below w.heap.size w wr)) (fun i _ => xs.length - (intOf i).toNat)
  case atStart => exact ⟨0, Nat.zero_le _, rfl, Lib.hid (Below.refl _ _)⟩
  case round =>
    obtain ⟨k, hk, rfl, B1⟩ := hrel
    by_cases hlt : k < xs.length
    · obtain ⟨x, hx⟩ : ∃ x, xs[k]? = some x := ⟨_, List.getElem?_eq_getElem hlt⟩
      obtain ⟨y, hy⟩ : ∃ y, ys[k]? = some y := ⟨_, List.getElem?_eq_getElem (by have := HL.out; omega)⟩
      obtain ⟨b, off, rfl, hbb, hc1, hc2, hc3, hs1⟩ := (R1.out.below B1.out) k x hx
      obtain ⟨b', off', rfl, hbb', hd1, hd2, hd3, hs2⟩ := (R2.out.below B1.out) k y hy
      have hsz := B1.out.size
      have zb : b < wr.heap.size := by omega
      have zb' : b' < wr.heap.size := by omega
      have CE := eqLsa_same x y wr.drew (HD.out k x y hx hy) (HES.out x (List.mem_of_getElem? hx)) (Slb.more (w := wr.drew) hs1 hsz) (Slb.more (w := wr.drew) hs2 hsz)
      obtain ⟨xo, xq, xes, xA, xc, xg⟩ := x
      obtain ⟨yo, yq, yes, yA, yc, yg⟩ := y
      dsimp only at *
      clear hx hy hs1 hs2
      go_wp2_with fail
      have hX := fun (x : Ext wr.drew) (bb oo : Nat) (h : bb < wr.heap.size) => (show x.w.cell? ⟨bb, oo, none⟩ = wr.cell? ⟨bb, oo, none⟩ from x.cell bb oo h)
      refine wp_region_staged 10 (by kernel_rfl) (by kernel_rfl) ?_
      refine stage_seg _ 2 [0, 1, 2, 3, 4, 5, 6, 7] (by kernel_rfl) (by kernel_rfl) (by kernel_rfl) (by kernel_rfl) ?_
      (simp only [List.map_cons, List.map_nil, List.getElem?_cons_zero, List.getElem?_cons_succ, Option.getD_some]); (repeat (go_big_quiet_step (fail))); (refine wpQuiet_nil ?_)
      refine stage_call _ 1 8 (by kernel_rfl) (by rfl) (by kernel_rfl) (by rfl) ?_
      go_wp2_with fail
      refine CE.mono ?_
      clear CE
      rintro e w2 ⟨rfl, hb2⟩
      refine ⟨hb2, ?_⟩
      have B2 := Lib.hid (B1.out.drew.trans (hb2.mono hsz))
      clear hb2 hX
      refine stage_seg _ 0 [9] (by kernel_rfl) (by kernel_rfl) (by kernel_rfl) (by kernel_rfl) ?_
      (simp only [List.map_cons, List.map_nil, List.getElem?_cons_zero, List.getElem?_cons_succ, Option.getD_some]); (repeat (go_big_quiet_step (fail))); (refine wpQuiet_nil ?_)
      refine stage_end (by kernel_rfl) ?_
      go_wp2_with fail
      go_roundw
      case rel => exact ⟨k + 1, hlt, by go_num, B2⟩
      case measure => simp [intOf]; omega
    · go_wp2_with fail
      go_ret
      exact ⟨rfl, B1.out⟩

theorem same_short {xs zs : List Lz} (hd : datL xs = datL zs) (hm : zs.length ≤ 1048576) (hes : ∀ z ∈ zs, z.es.length ≤ 1048576) : xs.length ≤ 1048576 ∧ ∀ z ∈ xs, z.es.length ≤ 1048576 := by
  have hl : xs.length = zs.length := by have := congrArg List.length hd; simpa [datL] using this
  refine ⟨by omega, fun z hz => ?_⟩
  have h1 : z.d ∈ datL zs := by rw [← hd]; exact List.mem_map.2 ⟨z, hz, rfl⟩
  obtain ⟨y, hy, e⟩ := List.mem_map.1 h1
  have h2 := hes y hy
  have e2 : y.es = z.es := congrArg La.es e
  rw [← e2]
  exact h2
theorem same_short2 {xs zs : List Lz} (hd : datL xs = datL zs) (hm : zs.length ≤ 1048576) (hes : ∀ z ∈ zs, z.es.length ≤ 1048576) : xs.length ≤ 2000000 ∧ ∀ z ∈ xs, z.es.length ≤ 2000000 := by
  obtain ⟨h1, h2⟩ := same_short hd hm hes
  exact ⟨by omega, fun z hz => by have := h2 z hz; omega⟩
theorem same_cnt {xs zs : List Lz} (hd : datL xs = datL zs) : cntZ xs = cntZ zs := by
  induction xs generalizing zs with
  | nil =>
    cases zs with
    | nil => rfl
    | cons z r => simp [datL] at hd
  | cons x xs ih =>
    cases zs with
    | nil => simp [datL] at hd
    | cons z r =>
      have h1 : x.d = z.d := by have := congrArg (·[0]?) hd; simpa [datL] using this
      have h2 : datL xs = datL r := by have := congrArg List.tail hd; simpa [datL] using this
      have e : x.es = z.es := congrArg La.es h1
      unfold cntZ
      rw [ih h2, e]

end Go.Proofs.Ytimebipgiicmiac
