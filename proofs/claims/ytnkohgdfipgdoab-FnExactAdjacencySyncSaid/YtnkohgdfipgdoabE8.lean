/-
  Contracts over this seat: announcements in the exact laws: their size, copies, comparison, marks.
-/
import Derived.Test.YtnkohgdfipgdoabZc
import Derived.Test.YtnkohgdfipgdoabZg
namespace Go.Proofs.Ytnkohgdfipgdoab
open Go.RowKit Go.Maps

/-- How many marks a list takes. -/
def cntZ : List Lz → Nat
  | [] => 0
  | z :: r => 2 + 2 * z.es.length + cntZ r
theorem cntZ_next {zs : List Lz} {k : Nat} {z : Lz} (h : zs[k]? = some z) : cntZ (zs.take (k + 1)) = cntZ (zs.take k) + (2 + 2 * z.es.length) := by
  induction zs generalizing k with
  | nil => simp at h
  | cons x r ih =>
    cases k with
    | zero =>
      simp at h
      subst h
      simp [cntZ]
    | succ k =>
      have := ih (by simpa using h)
      rw [List.take_succ_cons, List.take_succ_cons]
      unfold cntZ
      omega
def leftI (left : Int) (n : Nat) : Int := if left - n < 0 then -1 else left - n
theorem szEndS_any (A : Option Addr) (n c : Nat) (left : Int) (w : World) (hn : n ≤ maxLen) (hl : 0 ≤ left ∧ left ≤ 1048576) :
   Calls Try.prog 54 #[.slice A n c, .int .i64 left] w fun e w' => e = .returned (.int .i64 (leftI left n)) ∧ Below w.heap.size w w' := by
  have hw : IntKind.i64.wrap (left - (n : Int)) = left - (n : Int) := IntWalk.i64_in _ (by unfold maxLen at hn; omega)
  by_cases h : left - (n : Int) < 0
  · have hv : leftI left n = -1 := by unfold leftI; rw [if_pos h]
    have HV := Lib.hid hv
    clear hv
    go_enter Try.func54, Try.ntmps54
    go_wp2
    go_ret
    exact ⟨ret_int HV.out.symm, by (repeat (first | exact Below.refl _ _ | (refine Below.alloc ?_ (by first | exact Nat.le_refl _ | omega | (simp; done) | (simp; omega)) _) | (refine Below.setCell ?_ (by first | exact Nat.le_refl _ | omega | (simp; done) | (simp; omega)) _) | exact Below.drew ‹_›))⟩
  · have hv : leftI left n = left - n := by unfold leftI; rw [if_neg h]
    have HV := Lib.hid hv
    clear hv
    go_enter Try.func54, Try.ntmps54
    go_wp2
    go_ret
    exact ⟨ret_int HV.out.symm, by (repeat (first | exact Below.refl _ _ | (refine Below.alloc ?_ (by first | exact Nat.le_refl _ | omega | (simp; done) | (simp; omega)) _) | (refine Below.setCell ?_ (by first | exact Nat.le_refl _ | omega | (simp; done) | (simp; omega)) _) | exact Below.drew ‹_›))⟩
theorem leftI_cases (left : Int) (n : Nat) (_h0 : 0 ≤ left) : (leftI left n = -1) ∨ (0 ≤ leftI left n ∧ leftI left n = left - n ∧ (n : Int) ≤ left) := by
  unfold leftI
  split <;> omega
theorem szLsa_any (z : Lz) (left : Int) (w : World) (hn : z.es.length ≤ maxLen) (hl : 0 ≤ left ∧ left ≤ 1048576) :
   Calls Try.prog 28 #[z.v, .int .i64 left] w fun e w' => e = .returned (.int .i64 (leftI left z.es.length)) ∧ Below w.heap.size w w' := by
  obtain ⟨o, q, es, A, c, g⟩ := z
  dsimp only at *
  have CE := fun W => szEndS_any A es.length c left W hn hl
  have HC := Lib.hid (leftI_cases left es.length hl.1)
  have HB := Lib.hid (show Below w.heap.size w (w.alloc (.cells #[.int .i64 o, .int .i64 q, .slice A es.length c] 66)) by (repeat (first | exact Below.refl _ _ | (refine Below.alloc ?_ (by first | exact Nat.le_refl _ | omega | (simp; done) | (simp; omega)) _) | (refine Below.setCell ?_ (by first | exact Nat.le_refl _ | omega | (simp; done) | (simp; omega)) _) | exact Below.drew ‹_›)))
  obtain ⟨r, hr⟩ : ∃ r, leftI left es.length = r := ⟨_, rfl⟩
  rw [hr] at CE HC
  have HR := Lib.hid hr
  clear hr
  go_enter Try.func28, Try.ntmps28
  go_wp2_with fail
  refine (CE _).mono ?_
  rintro e w1 ⟨rfl, hb1⟩
  have B1 := Lib.hid (HB.out.trans (hb1.mono (by simp)))
  clear hb1
  rcases HC.out with rfl | ⟨h0, -, -⟩
  · go_wp2_with fail
    go_ret
    exact ⟨ret_int HR.out.symm, B1.out⟩
  · have h0' : ¬ r < 0 := by omega
    go_wp2_with fail
    go_ret
    exact ⟨ret_int HR.out.symm, B1.out⟩
/-- What szLsaS leaves: nought or more only where the list is short. -/
def SzZ (left : Int) (zs : List Lz) (w : World) (e : Ending) (w' : World) : Prop :=
  ∃ r : Int, e = .returned (.int .i64 r) ∧ (r = -1 ∨ (0 ≤ r ∧ r ≤ left ∧ zs.length ≤ 1048576 ∧ (∀ z ∈ zs, z.es.length ≤ 1048576) ∧ (cntZ zs : Int) ≤ 2 * (left - r))) ∧ Below w.heap.size w w'
set_option maxRecDepth 100000 in
set_option maxHeartbeats 800000 in
theorem szLsaS_any (A : Option Addr) (zs : List Lz) (c : Nat) (left : Int) (w : World) (hn : zs.length ≤ maxLen) (hes : ∀ z ∈ zs, z.es.length ≤ maxLen) (hl : 0 ≤ left ∧ left ≤ 1048576) (hS : Slz w w.heap.size A zs) :
   Calls Try.prog 9 #[.slice A zs.length c, .int .i64 left] w (SzZ left zs w) := by
  have HS := Lib.hid hS
  have HES := Lib.hid hes
  have hw : IntKind.i64.wrap (left - (zs.length : Int)) = left - (zs.length : Int) := IntWalk.i64_in _ (by unfold maxLen at hn; omega)
  clear hS hes
  by_cases h : left - (zs.length : Int) < 0
  · go_enter Try.func9, Try.ntmps9
    go_wp2
    go_ret
    exact ⟨-1, rfl, .inl rfl, by (repeat (first | exact Below.refl _ _ | (refine Below.alloc ?_ (by first | exact Nat.le_refl _ | omega | (simp; done) | (simp; omega)) _) | (refine Below.setCell ?_ (by first | exact Nat.le_refl _ | omega | (simp; done) | (simp; omega)) _) | exact Below.drew ‹_›))⟩
  · have hzl : zs.length ≤ 1048576 := by omega
    go_enter Try.func9, Try.ntmps9
    go_wp2_with fail
    go_loopw [1, 5] (fun v i wr => ∃ (k : Nat) (l : Int), k ≤ zs.length ∧ i = .int .i64 (k : Int) ∧ v = .int .i64 l ∧ 0 ≤ l ∧ l ≤ left ∧ Hid ((cntZ (zs.take k) : Int) + 2 * ((zs.length : Int) - k) ≤ 2 * (left - l)) ∧ Hid (∀ (j : Nat) (z : Lz), j < k → zs[j]? = some z → z.es.length ≤ 1048576) ∧ Hid (Below w.heap.size w wr)) (fun _ i _ => zs.length - (intOf i).toNat)
    case atStart => exact ⟨0, left - (zs.length : Int), Nat.zero_le _, rfl, rfl, by omega, by omega, Lib.hid (by simp [cntZ]; omega), Lib.hid (fun j z h => by omega), Lib.hid (Below.refl _ _)⟩
    case round =>
      obtain ⟨k, l, hk, rfl, rfl, hl0, hl1, HCN, HJ, B1⟩ := hrel
      by_cases hlt : k < zs.length
      · obtain ⟨z, hz⟩ : ∃ x, zs[k]? = some x := ⟨_, List.getElem?_eq_getElem hlt⟩
        obtain ⟨b, off, rfl, hbb, hc1, hc2, hc3, -⟩ := (HS.out.below B1.out) k z hz
        have hsz := B1.out.size
        have zb : b < wr.heap.size := by omega
        have CZ := fun W => szLsa_any z l W (HES.out z (List.mem_of_getElem? hz)) ⟨hl0, by omega⟩
        have HC := Lib.hid (leftI_cases l z.es.length hl0)
        have HZ := Lib.hid hz
        have HNX := Lib.hid (cntZ_next hz)
        obtain ⟨r, hr⟩ : ∃ r, leftI l z.es.length = r := ⟨_, rfl⟩
        rw [hr] at CZ HC
        clear hz hr
        go_wp2_with fail
        refine (CZ _).mono ?_
        rintro e w1 ⟨rfl, hb1⟩
        have B2 := Lib.hid (B1.out.trans (hb1.mono hsz))
        clear hb1 CZ
        rcases HC.out with rfl | ⟨h0, h1, h2⟩
        · go_wp2_with fail
          go_ret
          exact ⟨-1, rfl, .inl rfl, B2.out⟩
        · have h0' : ¬ r < 0 := by omega
          have hrl : r ≤ l := by omega
          have H1 := Lib.hid h1
          clear h1
          go_wp2_with fail
          go_roundw
          case rel => exact ⟨k + 1, r, hlt, by go_num, rfl, h0, by omega, Lib.hid (by have h3 := HNX.out; have h4 := HCN.out; have h5 := H1.out; push_cast; omega), Lib.hid (fun j x hj hx => by
            by_cases hjk : j < k
            · exact HJ.out j x hjk hx
            · obtain rfl : j = k := by omega
              have := HZ.out
              rw [hx] at this
              cases this
              omega), B2⟩
          case measure => simp [intOf]; omega
      · go_wp2_with fail
        go_ret
        obtain rfl : k = zs.length := by omega
        have hcn := HCN.out
        rw [List.take_length] at hcn
        exact ⟨l, rfl, .inr ⟨hl0, hl1, hzl, fun z hz => by
          obtain ⟨j, hj⟩ := List.getElem?_of_mem hz
          exact HJ.out j z (List.getElem?_eq_some_iff.1 hj).1 hj, by omega⟩, B1.out⟩

set_option maxHeartbeats 400000 in
theorem toLsa_any (z : Lz) (w : World) (hm : z.es.length ≤ 2000000) (hS : Slb w w.heap.size z.A z.es) :
   Calls Try.prog 30 #[z.v] w (OneZ z.d w) := by
  obtain ⟨o, q, es, A, c, g⟩ := z
  dsimp only at *
  have H1 := Lib.hid hS
  clear hS
  go_enter Try.func30, Try.ntmps30
  go_wp2_with fail
  refine (toEndS_any A es c _ hm ((H1.out.below (by (repeat (first | exact Below.refl _ _ | (refine Below.alloc ?_ (by first | exact Nat.le_refl _ | omega | (simp; done) | (simp; omega)) _) | (refine Below.setCell ?_ (by first | exact Nat.le_refl _ | omega | (simp; done) | (simp; omega)) _) | exact Below.drew ‹_›)))).more (by simp; omega))).mono ?_
  rintro e w1 ⟨g1, rfl, hg, harr, hb⟩
  obtain ⟨hc, hf⟩ := bcell hb
  have hz := hb.size
  have HB := Lib.hid hb
  have HA := Lib.hid harr
  have hgl := harr.lt
  clear hb harr
  simp only [World.size_alloc] at hg hz
  go_wp2_with fail
  refine bodyPost_ret (v := (⟨o, q, es, some ⟨g1, 0, none⟩, es.length, g1⟩ : Lz).v) (by simp [results, Try.results30, go_sem, hc]) rfl ⟨⟨o, q, es, some ⟨g1, 0, none⟩, es.length, g1⟩, rfl, rfl, ⟨?_, ?_, Nat.le_refl _⟩, ?_⟩
  · have h1 : Owne w1 (some ⟨g1, 0, none⟩) g1 es := fun _ => ⟨rfl, HA.out⟩
    exact (((h1.set_far (p := ⟨w.heap.size + 2, 2, none⟩) (by show g1 ≠ w.heap.size + 2; omega) _).set_far (p := ⟨w.heap.size + 1, 0, none⟩) (by show g1 ≠ w.heap.size + 1; omega) _).set_far (p := ⟨w.heap.size + 1, 1, none⟩) (by show g1 ≠ w.heap.size + 1; omega) _).set_far (p := ⟨w.heap.size + 1, 2, none⟩) (by show g1 ≠ w.heap.size + 1; omega) _
  · show w.heap.size ≤ g1; omega
  · have hB0 : Below w.heap.size w w1 := Below.trans (by (repeat (first | exact Below.refl _ _ | (refine Below.alloc ?_ (by first | exact Nat.le_refl _ | omega | (simp; done) | (simp; omega)) _) | (refine Below.setCell ?_ (by first | exact Nat.le_refl _ | omega | (simp; done) | (simp; omega)) _) | exact Below.drew ‹_›))) (HB.out.mono (by simp; omega))
    exact (((hB0.setCell (p := ⟨w.heap.size + 2, 2, none⟩) (by show w.heap.size ≤ w.heap.size + 2; omega) _).setCell (p := ⟨w.heap.size + 1, 0, none⟩) (Nat.le_succ _) _).setCell (p := ⟨w.heap.size + 1, 1, none⟩) (Nat.le_succ _) _).setCell (p := ⟨w.heap.size + 1, 2, none⟩) (Nat.le_succ _) _


theorem flat_arr {cs : Array Value} {ys : List Lz} (hs : cs.size = ys.length * 3) (h : ∀ (j : Nat) (z : Lz), ys[j]? = some z → cs[j * 3]? = some (.int .i64 z.o) ∧ cs[j * 3 + 1]? = some (.int .i64 z.q) ∧ cs[j * 3 + 2]? = some (.slice z.A z.es.length z.c)) : cs.toList = flatZ ys := by
  refine List.ext_getElem? fun i => ?_
  rw [Array.getElem?_toList]
  by_cases hi : i < ys.length * 3
  · have hj : i / 3 < ys.length := by omega
    have hz := List.getElem?_eq_getElem hj
    obtain ⟨h0, h1, h2⟩ := h _ _ hz
    obtain ⟨f0, f1, f2⟩ := flatZ_at ys _ _ hz
    have hr : i = i / 3 * 3 ∨ i = i / 3 * 3 + 1 ∨ i = i / 3 * 3 + 2 := by omega
    rcases hr with hr | hr | hr
    · rw [hr, h0, f0]
    · rw [hr, h1, f1]
    · rw [hr, h2, f2]
  · rw [Array.getElem?_eq_none (by omega), List.getElem?_eq_none (by rw [flatZ_len]; omega)]
/-- A row of announcements under way: k of n are there. -/
structure UZ (w : World) (zs : List Lz) (k : Nat) (cs : Array Value) (ys : List Lz) (W : World) : Prop where
  hh : W.heap[w.heap.size]? = some (.cells cs 54 (0, 0))
  sz : cs.size = zs.length * 3
  len : ys.length = k
  dat : datL ys = (datL zs).take k
  at_ : ∀ (j : Nat) (z : Lz), ys[j]? = some z → cs[j * 3]? = some (.int .i64 z.o) ∧ cs[j * 3 + 1]? = some (.int .i64 z.q) ∧ cs[j * 3 + 2]? = some (.slice z.A z.es.length z.c)
  inn : ∀ y ∈ ys, InnZ W (w.heap.size + 1) y
  dis : ys.Pairwise (fun a b => 0 < a.es.length → 0 < b.es.length → a.g ≠ b.g)
  bel : Below w.heap.size w W
theorem UZ.step {w W w1 : World} {zs : List Lz} {k : Nat} {cs : Array Value} {ys : List Lz} (h : UZ w zs k cs ys W) {z y : Lz} (hz : zs[k]? = some z) (hd : y.d = z.d) (hi : InnZ w1 W.heap.size y) (hb : Below W.heap.size W w1) :
    UZ w zs (k + 1) (((cs.setIfInBounds (k * 3) (.int .i64 y.o)).setIfInBounds (k * 3 + 1) (.int .i64 y.q)).setIfInBounds (k * 3 + 2) (.slice y.A y.es.length y.c)) (ys ++ [y])
      (((w1.setCell ⟨w.heap.size, k * 3, none⟩ (.int .i64 y.o)).setCell ⟨w.heap.size, k * 3 + 1, none⟩ (.int .i64 y.q)).setCell ⟨w.heap.size, k * 3 + 2, none⟩ (.slice y.A y.es.length y.c)) := by
  have hkl := (List.getElem?_eq_some_iff.1 hz).1
  have hgl := heap_lt h.hh
  have hh1 : w1.heap[w.heap.size]? = some (.cells cs 54 (0, 0)) := (hb.block _ hgl).trans h.hh
  refine ⟨heap_set (heap_set (heap_set hh1 _ _) _ _) _ _, by simp only [Array.size_setIfInBounds]; exact h.sz, by rw [List.length_append, h.len]; rfl, ?_, ?_, ?_, ?_, ?_⟩
  · rw [datL_next hz, ← h.dat, ← hd]
    simp [datL]
  · intro j x hj
    have hsz := h.sz
    simp only [Array.getElem?_setIfInBounds, Array.size_setIfInBounds]
    by_cases hjk : j < k
    · rw [List.getElem?_append_left (by rw [h.len]; exact hjk)] at hj
      obtain ⟨h0, h1, h2⟩ := h.at_ j x hj
      refine ⟨?_, ?_, ?_⟩
      · rw [if_neg (by omega), if_neg (by omega), if_neg (by omega)]; exact h0
      · rw [if_neg (by omega), if_neg (by omega), if_neg (by omega)]; exact h1
      · rw [if_neg (by omega), if_neg (by omega), if_neg (by omega)]; exact h2
    · have hjl := (List.getElem?_eq_some_iff.1 hj).1
      rw [List.length_append, h.len] at hjl
      obtain rfl : j = k := by simp at hjl; omega
      rw [List.getElem?_append_right (by rw [h.len]; exact Nat.le_refl _), h.len] at hj
      simp at hj
      subst hj
      refine ⟨?_, ?_, ?_⟩
      · rw [if_neg (by omega), if_neg (by omega), if_pos rfl, if_pos (by omega)]
      · rw [if_neg (by omega), if_pos rfl, if_pos (by omega)]
      · rw [if_pos rfl, if_pos (by omega)]
  · intro x hx
    have far : ∀ {x : Lz}, InnZ w1 (w.heap.size + 1) x → InnZ (((w1.setCell ⟨w.heap.size, k * 3, none⟩ (.int .i64 y.o)).setCell ⟨w.heap.size, k * 3 + 1, none⟩ (.int .i64 y.q)).setCell ⟨w.heap.size, k * 3 + 2, none⟩ (.slice y.A y.es.length y.c)) (w.heap.size + 1) x := fun {x} hx => by
      have hne : x.g ≠ w.heap.size := by have := hx.2.1; omega
      exact ⟨((hx.1.set_far (p := ⟨w.heap.size, k * 3, none⟩) hne _).set_far (p := ⟨w.heap.size, k * 3 + 1, none⟩) hne _).set_far (p := ⟨w.heap.size, k * 3 + 2, none⟩) hne _, hx.2.1, hx.2.2⟩
    rcases List.mem_append.1 hx with hx | hx
    · have := h.inn x hx
      exact far ⟨this.1.below hb, this.2.1, this.2.2⟩
    · obtain rfl : x = y := by simpa using hx
      exact far (hi.weak (by omega))
  · rw [List.pairwise_append]
    refine ⟨h.dis, by simp, fun a ha b hb2 h1 h2 => ?_⟩
    obtain rfl : b = y := by simpa using hb2
    have := ((h.inn a ha).1 h1).2.lt
    have := hi.2.1
    omega
  · have h1 := h.bel.trans (hb.mono h.bel.size)
    exact ((h1.setCell (p := ⟨w.heap.size, k * 3, none⟩) (Nat.le_refl _) _).setCell (p := ⟨w.heap.size, k * 3 + 1, none⟩) (Nat.le_refl _) _).setCell (p := ⟨w.heap.size, k * 3 + 2, none⟩) (Nat.le_refl _) _

set_option maxRecDepth 100000 in
set_option maxHeartbeats 800000 in
theorem toLsaS_any (A : Option Addr) (zs : List Lz) (c : Nat) (w : World) (hm : zs.length ≤ 2000000) (hes : ∀ z ∈ zs, z.es.length ≤ 2000000) (hS : Slz w w.heap.size A zs) :
   Calls Try.prog 12 #[.slice A zs.length c] w (NewZ (datL zs) w) := by
  obtain ⟨i0, hi, hz0, hz1, hz2⟩ := info_parts infoLsa
  have H1 := Lib.hid hS
  have HES := Lib.hid hes
  clear hS hes
  go_enter Try.func12, Try.ntmps12
  go_wp2_with (first | (at_make; refine wpList_make_full _ rfl _ _ 29 rfl w.heap.size 54 i0 _ 3 Try.underlying29 hi hz0 hz1 _ _ _ _ zs.length rfl rfl rfl rfl (by rw [hz2]; omega) (by unfold maxLen; omega) (Nat.le_refl _) ?_; intro w1 hown hgrow))
  obtain ⟨cs0, hh0, hs0, hg0, _, _⟩ := own_arr hown
  have U0 := Lib.hid (show UZ w zs 0 cs0 [] w1 from ⟨hh0, hs0, rfl, rfl, fun j z h => by simp at h, by simp, .nil, (Below.refl w.heap.size w).grown hgrow (Nat.le_refl _) (fun _ h => by cases h)⟩)
  clear hown hgrow hh0 hs0 hg0 hi hz0 hz1 hz2
  go_loopw [4] (fun i wr => ∃ (k : Nat) (cs : Array Value) (ys : List Lz), k ≤ zs.length ∧ i = .int .i64 k ∧ Hid (UZ w zs k cs ys wr)) (fun i _ => zs.length - (intOf i).toNat)
  case atStart => exact ⟨0, cs0, [], Nat.zero_le _, rfl, U0⟩
  case round =>
    obtain ⟨k, cs, ys, hk, rfl, U1⟩ := hrel
    clear U0
    by_cases hlt : k < zs.length
    · obtain ⟨z, hz⟩ : ∃ x, zs[k]? = some x := ⟨_, List.getElem?_eq_getElem hlt⟩
      obtain ⟨b, off, rfl, hbb, hc1, hc2, hc3, hin⟩ := (H1.out.below U1.out.bel) k z hz
      have hsz := U1.out.bel.size
      have zb : b < wr.heap.size := by omega
      have HZ := Lib.hid hz
      have CT := toLsa_any z wr (HES.out z (List.mem_of_getElem? hz)) (hin.more hsz)
      have hgl := heap_lt U1.out.hh
      have hcz := U1.out.sz
      obtain ⟨zo, zq, zes, zA, zc, zg⟩ := z
      dsimp only at *
      clear hz hin
      go_wp2_with fail
      refine CT.mono ?_
      clear CT
      rintro e w2 ⟨y, rfl, hd, hiy, hb2⟩
      have hh2 : w2.heap[w.heap.size]? = some (.cells cs 54 (0, 0)) := (hb2.block _ hgl).trans U1.out.hh
      have q0 := heap_frozen hh2 (k * 3)
      have q1 := heap_frozen hh2 (k * 3 + 1)
      have q2 := heap_frozen hh2 (k * 3 + 2)
      obtain ⟨v0, x0⟩ := cell_in hh2 (i := k * 3) (by omega)
      obtain ⟨v1, x1⟩ := cell_in hh2 (i := k * 3 + 1) (by omega)
      obtain ⟨v2, x2⟩ := cell_in hh2 (i := k * 3 + 2) (by omega)
      have U2 := Lib.hid (U1.out.step HZ.out hd hiy hb2)
      have hgl2 := heap_lt hh2
      obtain ⟨yo, yq, yes, yA, yc, yg⟩ := y
      clear hd hiy hb2 hh2 hcz hc1 hc2 hc3 hgl
      go_wp2_with fail
      go_roundw
      case rel => exact ⟨k + 1, _, _, hlt, by go_num, U2⟩
      case measure => simp [intOf]; omega
    · obtain rfl : k = zs.length := by omega
      go_wp2_with fail
      go_ret
      obtain ⟨hh, hsz, hlen, hdat, hat, hinn, hdis, hbel⟩ := U1.out
      have hdat2 : datL ys = datL zs := by rw [hdat, show zs.length = (datL zs).length by simp [datL], List.take_length]
      refine ⟨ys, some ⟨w.heap.size, 0, none⟩, zs.length, by rw [hlen]; rfl, hdat2, ⟨?_, fun y hy => (hinn y hy).weak (Nat.le_succ _), hdis⟩, hbel⟩
      rw [hlen]
      refine ⟨by rw [flatZ_len, hlen], .inr ⟨w.heap.size, zs.length, cs, rfl, Nat.le_refl _, hh, Nat.le_refl _, by unfold maxLen; omega, hsz, ?_⟩⟩
      rw [flat_arr (by rw [hlen]; exact hsz) hat, List.take_of_length_le (by rw [flatZ_len, hlen]; exact Nat.le_refl _)]

theorem eqLsa_same (x y : Lz) (w : World) (hd : x.d = y.d) (hm : x.es.length ≤ 2000000) (h1 : Slb w w.heap.size x.A x.es) (h2 : Slb w w.heap.size y.A y.es) :
   Calls Try.prog 34 #[x.v, y.v] w fun e w' => e = .returned (.bool true) ∧ Below w.heap.size w w' := by
  obtain ⟨xo, xq, xes, xA, xc, xg⟩ := x
  obtain ⟨yo, yq, yes, yA, yc, yg⟩ := y
  cases hd
  dsimp only at *
  have R1 := Lib.hid h1
  have R2 := Lib.hid h2
  have CE := fun W (h1 : Slb W W.heap.size xA xes) (h2 : Slb W W.heap.size yA xes) => eqEndS_same xA yA xes xc yc W hm h1 h2
  have hb0 : Below w.heap.size w ((w.alloc (.cells #[.int .i64 xo, .int .i64 xq, .slice xA xes.length xc] 54)).alloc (.cells #[.int .i64 xo, .int .i64 xq, .slice yA xes.length yc] 54)) := by (repeat (first | exact Below.refl _ _ | (refine Below.alloc ?_ (by first | exact Nat.le_refl _ | omega | (simp; done) | (simp; omega)) _) | (refine Below.setCell ?_ (by first | exact Nat.le_refl _ | omega | (simp; done) | (simp; omega)) _) | exact Below.drew ‹_›))
  have HB := Lib.hid hb0
  clear h1 h2 hb0
  go_enter Try.func34, Try.ntmps34
  go_wp2_with fail
  refine (CE _ ((R1.out.below HB.out).more HB.out.size) ((R2.out.below HB.out).more HB.out.size)).mono ?_
  rintro e w1 ⟨rfl, hb1⟩
  have B1 := Lib.hid (HB.out.trans (hb1.mono HB.out.size))
  clear hb1
  go_wp2_with fail
  go_ret
  exact ⟨rfl, B1.out⟩

set_option maxRecDepth 100000 in
set_option maxHeartbeats 800000 in
theorem eqLsaS_same (A1 A2 : Option Addr) (xs ys : List Lz) (c1 c2 : Nat) (w : World) (hd : datL xs = datL ys) (hm : xs.length ≤ 2000000) (hes : ∀ x ∈ xs, x.es.length ≤ 2000000) (h1 : Slz w w.heap.size A1 xs) (h2 : Slz w w.heap.size A2 ys) :
   Calls Try.prog 15 #[.slice A1 xs.length c1, .slice A2 ys.length c2] w fun e w' => e = .returned (.bool true) ∧ Below w.heap.size w w' := by
  have R1 := Lib.hid h1
  have R2 := Lib.hid h2
  have HES := Lib.hid hes
  have hlen : ys.length = xs.length := by have := congrArg List.length hd; simpa [datL] using this.symm
  have HD : Hid (∀ (k : Nat) (x y : Lz), xs[k]? = some x → ys[k]? = some y → x.d = y.d) := Lib.hid (fun k x y hx hy => by
    have e1 : (datL xs)[k]? = some x.d := by simp [datL, hx]
    have e2 : (datL ys)[k]? = some y.d := by simp [datL, hy]
    rw [hd, e2] at e1
    exact (Option.some.inj e1).symm)
  rw [hlen]
  have HL := Lib.hid hlen
  clear h1 h2 hes hd hlen
  go_enter Try.func15, Try.ntmps15
  go_wp2_with fail
  go_loopw [5] (fun i wr => ∃ k : Nat, k ≤ xs.length ∧ i = .int .i64 k ∧ Hid (Below w.heap.size w wr)) (fun i _ => xs.length - (intOf i).toNat)
  case atStart => exact ⟨0, Nat.zero_le _, rfl, Lib.hid (Below.refl _ _)⟩
  case round =>
    obtain ⟨k, hk, rfl, B1⟩ := hrel
    by_cases hlt : k < xs.length
    · obtain ⟨x, hx⟩ : ∃ x, xs[k]? = some x := ⟨_, List.getElem?_eq_getElem hlt⟩
      obtain ⟨y, hy⟩ : ∃ y, ys[k]? = some y := ⟨_, List.getElem?_eq_getElem (by have := HL.out; omega)⟩
      obtain ⟨b, off, rfl, hbb, hc1, hc2, hc3, hs1⟩ := (R1.out.below B1.out) k x hx
      obtain ⟨b', off', rfl, hbb', hd1, hd2, hd3, hs2⟩ := (R2.out.below B1.out) k y hy
      have hsz := B1.out.size
      have zb : b < wr.heap.size := by omega
      have zb' : b' < wr.heap.size := by omega
      have CE := eqLsa_same x y wr.drew (HD.out k x y hx hy) (HES.out x (List.mem_of_getElem? hx)) (Slb.more (w := wr.drew) hs1 hsz) (Slb.more (w := wr.drew) hs2 hsz)
      obtain ⟨xo, xq, xes, xA, xc, xg⟩ := x
      obtain ⟨yo, yq, yes, yA, yc, yg⟩ := y
      dsimp only at *
      clear hx hy hs1 hs2
      go_wp2_with fail
      have hX := fun (x : Ext wr.drew) (bb oo : Nat) (h : bb < wr.heap.size) => (show x.w.cell? ⟨bb, oo, none⟩ = wr.cell? ⟨bb, oo, none⟩ from x.cell bb oo h)
      refine wp_region_staged 10 (by kernel_rfl) (by kernel_rfl) ?_
      refine stage_seg _ 2 [0, 1, 2, 3, 4, 5, 6, 7] (by kernel_rfl) (by kernel_rfl) (by kernel_rfl) (by kernel_rfl) ?_
      (simp only [List.map_cons, List.map_nil, List.getElem?_cons_zero, List.getElem?_cons_succ, Option.getD_some]); (repeat (go_big_quiet_step (fail))); (refine wpQuiet_nil ?_)
      refine stage_call _ 1 8 (by kernel_rfl) (by rfl) (by kernel_rfl) (by rfl) ?_
      go_wp2_with fail
      refine CE.mono ?_
      clear CE
      rintro e w2 ⟨rfl, hb2⟩
      refine ⟨hb2, ?_⟩
      have B2 := Lib.hid (B1.out.drew.trans (hb2.mono hsz))
      clear hb2 hX
      refine stage_seg _ 0 [9] (by kernel_rfl) (by kernel_rfl) (by kernel_rfl) (by kernel_rfl) ?_
      (simp only [List.map_cons, List.map_nil, List.getElem?_cons_zero, List.getElem?_cons_succ, Option.getD_some]); (repeat (go_big_quiet_step (fail))); (refine wpQuiet_nil ?_)
      refine stage_end (by kernel_rfl) ?_
      go_wp2_with fail
      go_roundw
      case rel => exact ⟨k + 1, hlt, by go_num, B2⟩
      case measure => simp [intOf]; omega
    · go_wp2_with fail
      go_ret
      exact ⟨rfl, B1.out⟩

theorem same_short {xs zs : List Lz} (hd : datL xs = datL zs) (hm : zs.length ≤ 1048576) (hes : ∀ z ∈ zs, z.es.length ≤ 1048576) : xs.length ≤ 1048576 ∧ ∀ z ∈ xs, z.es.length ≤ 1048576 := by
  have hl : xs.length = zs.length := by have := congrArg List.length hd; simpa [datL] using this
  refine ⟨by omega, fun z hz => ?_⟩
  have h1 : z.d ∈ datL zs := by rw [← hd]; exact List.mem_map.2 ⟨z, hz, rfl⟩
  obtain ⟨y, hy, e⟩ := List.mem_map.1 h1
  have h2 := hes y hy
  have e2 : y.es = z.es := congrArg La.es e
  rw [← e2]
  exact h2
theorem same_short2 {xs zs : List Lz} (hd : datL xs = datL zs) (hm : zs.length ≤ 1048576) (hes : ∀ z ∈ zs, z.es.length ≤ 1048576) : xs.length ≤ 2000000 ∧ ∀ z ∈ xs, z.es.length ≤ 2000000 := by
  obtain ⟨h1, h2⟩ := same_short hd hm hes
  exact ⟨by omega, fun z hz => by have := h2 z hz; omega⟩
theorem same_cnt {xs zs : List Lz} (hd : datL xs = datL zs) : cntZ xs = cntZ zs := by
  induction xs generalizing zs with
  | nil =>
    cases zs with
    | nil => rfl
    | cons z r => simp [datL] at hd
  | cons x xs ih =>
    cases zs with
    | nil => simp [datL] at hd
    | cons z r =>
      have h1 : x.d = z.d := by have := congrArg (·[0]?) hd; simpa [datL] using this
      have h2 : datL xs = datL r := by have := congrArg List.tail hd; simpa [datL] using this
      have e : x.es = z.es := congrArg La.es h1
      unfold cntZ
      rw [ih h2, e]

end Go.Proofs.Ytnkohgdfipgdoab

/-
  Contracts over this seat: marks on announcements, and what stays.
-/
namespace Go.Proofs.Ytnkohgdfipgdoab
open Go.RowKit Go.Maps

/-- The blocks outside B to B1 lie as they lay. -/
structure KeepO (B B1 : Nat) (w w' : World) : Prop where
  os : w'.os = w.os
  tape : w'.tape = w.tape
  output : w'.output = w.output
  size : w.heap.size ≤ w'.heap.size
  block : ∀ i, i < w.heap.size → (i < B ∨ B1 ≤ i) → w'.heap[i]? = w.heap[i]?
theorem KeepO.refl (B B1 : Nat) (w : World) : KeepO B B1 w w := ⟨rfl, rfl, rfl, Nat.le_refl _, fun _ _ _ => rfl⟩
theorem KeepO.trans {B B1 : Nat} {a b c : World} (h : KeepO B B1 a b) (k : KeepO B B1 b c) : KeepO B B1 a c :=
  ⟨k.os.trans h.os, k.tape.trans h.tape, k.output.trans h.output, Nat.le_trans h.size k.size, fun i hi ho => (k.block i (Nat.lt_of_lt_of_le hi h.size) ho).trans (h.block i hi ho)⟩
theorem KeepO.below {B B1 : Nat} {w w' : World} (h : KeepO B B1 w w') (hB : B ≤ w.heap.size) : Below B w w' := ⟨h.os, h.tape, h.output, h.size, fun i hi => h.block i (Nat.lt_of_lt_of_le hi hB) (.inl hi)⟩
theorem KeepO.of_below {B B1 : Nat} {w w' : World} (h : Below w.heap.size w w') : KeepO B B1 w w' := ⟨h.os, h.tape, h.output, h.size, fun i hi _ => h.block i hi⟩
theorem KeepO.of_grown {B B1 g : Nat} {w w' : World} (h : w.grownBy w' (some g)) (hg : (B ≤ g ∧ g < B1) ∨ g = w.heap.size) : KeepO B B1 w w' :=
  ⟨h.os, h.tape, h.output, h.size, fun i hi ho => h.block i hi (fun e => by have := Option.some.inj e; omega)⟩
theorem KeepO.setCell {B B1 : Nat} {w : World} {p : Addr} (h : B ≤ p.block ∧ p.block < B1) (u : Value) : KeepO B B1 w (w.setCell p u) :=
  ⟨rfl, rfl, rfl, by simp, fun i hi ho => Below.heap_setCell w p u i (by omega)⟩
/-- A row of a call's own above B1 is as it was. -/
theorem ZI.keepO {B B1 : Nat} {v : Value} {zs : List Lz} {W W' : World} (h : ZI B1 v zs W) (hk : KeepO B B1 W W') : ZI B1 v zs W' := by
  refine ⟨?_, fun z hz => ?_, h.dis⟩
  · refine ⟨h.row.1, ?_⟩
    rcases h.row.2 with h1 | ⟨g, cap, cur, e, hb, hh, rest⟩
    · exact .inl h1
    · exact .inr ⟨g, cap, cur, e, hb, (hk.block g (heap_lt hh) (.inr hb)).trans hh, rest⟩
  · obtain ⟨h1, h2, h3⟩ := h.inn z hz
    refine ⟨fun hp => ?_, h2, h3⟩
    obtain ⟨e, cs, hh, hc⟩ := h1 hp
    exact ⟨e, cs, (hk.block _ (heap_lt hh) (.inr h2)).trans hh, hc⟩
theorem InnZ.keepO {B B1 : Nat} {z : Lz} {W W' : World} (h : InnZ W B1 z) (hk : KeepO B B1 W W') : InnZ W' B1 z := by
  obtain ⟨h1, h2, h3⟩ := h
  refine ⟨fun hp => ?_, h2, h3⟩
  obtain ⟨e, cs, hh, hc⟩ := h1 hp
  exact ⟨e, cs, (hk.block _ (heap_lt hh) (.inr h2)).trans hh, hc⟩
/-- All blocks of a row lie below B1. -/
structure UpZ (B1 : Nat) (v : Value) (zs : List Lz) : Prop where
  row : ∀ j, v.ownBlock = some j → j < B1
  inn : ∀ z ∈ zs, 0 < z.es.length → z.g < B1
theorem ZI.up {B : Nat} {v : Value} {zs : List Lz} {W : World} (h : ZI B v zs W) : UpZ W.heap.size v zs := ⟨fun j e => (h.row.lt j e).2, fun _ hz hp => h.lt hz hp⟩

theorem set_gs2 {zs : List Lz} {k : Nat} {z z' : Lz} (hk : zs[k]? = some z) (e : z'.es.length = z.es.length ∧ z'.A = z.A ∧ z'.c = z.c ∧ z'.g = z.g) (i : Nat) (x : Lz) (h : (zs.set k z')[i]? = some x) : ∃ y, zs[i]? = some y ∧ y.g = x.g ∧ y.es.length = x.es.length ∧ y.A = x.A ∧ y.c = x.c ∧ ((i = k ∧ x = z') ∨ (i ≠ k ∧ x = y)) := by
  rw [List.getElem?_set] at h
  split at h
  · rename_i e1
    subst e1
    split at h
    · cases h
      exact ⟨z, hk, e.2.2.2.symm, e.1.symm, e.2.1.symm, e.2.2.1.symm, .inl ⟨rfl, rfl⟩⟩
    · cases h
  · rename_i e1
    exact ⟨x, h, rfl, rfl, rfl, rfl, .inr ⟨fun e => e1 e.symm, rfl⟩⟩
theorem set_dis {zs : List Lz} {k : Nat} {z z' : Lz} (hk : zs[k]? = some z) (e : z'.es.length = z.es.length ∧ z'.A = z.A ∧ z'.c = z.c ∧ z'.g = z.g) (hd : zs.Pairwise (fun a b => 0 < a.es.length → 0 < b.es.length → a.g ≠ b.g)) : (zs.set k z').Pairwise (fun a b => 0 < a.es.length → 0 < b.es.length → a.g ≠ b.g) := by
  rw [List.pairwise_iff_getElem]
  intro i j hi hj hij h1 h2
  obtain ⟨y, hy, e1, e2, _⟩ := set_gs2 hk e i _ (List.getElem?_eq_getElem hi)
  obtain ⟨u, hu, f1, f2, _⟩ := set_gs2 hk e j _ (List.getElem?_eq_getElem hj)
  rw [← e1, ← f1]
  rw [← e2] at h1
  rw [← f2] at h2
  obtain ⟨hi', rfl⟩ := List.getElem?_eq_some_iff.1 hy
  obtain ⟨hj', rfl⟩ := List.getElem?_eq_some_iff.1 hu
  exact List.pairwise_iff_getElem.1 hd i j hi' hj' hij h1 h2
/-- Another number in a row of a call's own. -/
theorem ZI.setV {B g c : Nat} {zs : List Lz} {W : World} (h : ZI B (.slice (some ⟨g, 0, none⟩) zs.length c) zs W) {k : Nat} {z z' : Lz} (hk : zs[k]? = some z) (e : z'.es = z.es ∧ z'.A = z.A ∧ z'.c = z.c ∧ z'.g = z.g) {r : Nat} {u : Value} (hf : flatZ (zs.set k z') = (flatZ zs).set (k * 3 + r) u) :
    ZI B (.slice (some ⟨g, 0, none⟩) zs.length c) (zs.set k z') (W.setCell ⟨g, k * 3 + r, none⟩ u) := by
  have e' : z'.es.length = z.es.length ∧ z'.A = z.A ∧ z'.c = z.c ∧ z'.g = z.g := ⟨by rw [e.1], e.2⟩
  obtain ⟨hrow, hinn, hdis⟩ := h
  obtain ⟨hl, hr⟩ := hrow
  rcases hr with ⟨he, _⟩ | ⟨g', cap, cur, he, hbg, hh, hn, h9, hs, ht⟩
  · cases he
  · cases he
    refine ⟨?_, fun x hx => ?_, set_dis hk e' hdis⟩
    · rw [List.length_set]
      refine ⟨by rw [flatZ_len, List.length_set], .inr ⟨g, c, cur.setIfInBounds (k * 3 + r) u, rfl, hbg, heap_set hh _ _, hn, h9, by simpa using hs, ?_⟩⟩
      rw [hf, Array.toList_setIfInBounds, List.take_set, ht]
    · obtain ⟨i, hi⟩ := List.getElem?_of_mem hx
      obtain ⟨y, hy, e1, e2, e3, e4, e5⟩ := set_gs2 hk e' i x hi
      have e6 : y.es = x.es := by
        rcases e5 with ⟨rfl, rfl⟩ | ⟨-, rfl⟩
        · rw [hk] at hy
          cases hy
          exact e.1.symm
        · rfl
      obtain ⟨h1, h2, h3⟩ := hinn y (List.mem_of_getElem? hy)
      rw [e1] at h1 h2
      rw [e6] at h1 h3
      rw [e3] at h1
      rw [e4] at h3
      refine ⟨fun hp => ?_, h2, h3⟩
      obtain ⟨e, cs, hh', hc⟩ := h1 hp
      have hne : x.g ≠ g := by
        intro e
        rw [e, hh] at hh'
        injection hh' with hh'
        injection hh' with _ h2
        exact absurd h2 (by decide)
      exact ⟨e, cs, (Below.heap_setCell W ⟨g, k * 3 + r, none⟩ _ x.g hne).trans hh', hc⟩
/-- Other neighbours of one announcement. -/
theorem ZI.mark {B : Nat} {v : Value} {zs : List Lz} {W W' : World} (h : ZI B v zs W) {k g' : Nat} {z : Lz} {es' : List Lb} (hk : zs[k]? = some z) (hl : es'.length = z.es.length) (hg : W.grownBy W' (some g')) (ho : Owne W' z.A g' es')
    (hg' : (0 < z.es.length ∧ g' = z.g) ∨ g' = W.heap.size) : ZI B v (zs.set k ⟨z.o, z.q, es', z.A, z.c, z.g⟩) W' := by
  have e' : (⟨z.o, z.q, es', z.A, z.c, z.g⟩ : Lz).es.length = z.es.length ∧ (⟨z.o, z.q, es', z.A, z.c, z.g⟩ : Lz).A = z.A ∧ (⟨z.o, z.q, es', z.A, z.c, z.g⟩ : Lz).c = z.c ∧ (⟨z.o, z.q, es', z.A, z.c, z.g⟩ : Lz).g = z.g := ⟨hl, rfl, rfl, rfl⟩
  have hz := h.inn z (List.mem_of_getElem? hk)
  have hfl : flatZ (zs.set k ⟨z.o, z.q, es', z.A, z.c, z.g⟩) = flatZ zs := by
    refine List.ext_getElem? fun i => ?_
    by_cases hi : i < zs.length * 3
    · have hj : i / 3 < zs.length := by omega
      have hj2 : i / 3 < (zs.set k ⟨z.o, z.q, es', z.A, z.c, z.g⟩).length := by rw [List.length_set]; exact hj
      obtain ⟨f0, f1, f2⟩ := flatZ_at _ _ _ (List.getElem?_eq_getElem hj2)
      obtain ⟨y, hy, e1, e2, e3, e4, e5⟩ := set_gs2 hk e' _ _ (List.getElem?_eq_getElem hj2)
      obtain ⟨g0, g1, g2⟩ := flatZ_at zs _ _ hy
      have e6 : y.o = (zs.set k ⟨z.o, z.q, es', z.A, z.c, z.g⟩)[i / 3].o ∧ y.q = (zs.set k ⟨z.o, z.q, es', z.A, z.c, z.g⟩)[i / 3].q := by
        rcases e5 with ⟨e7, e8⟩ | ⟨-, e8⟩
        · rw [e8]
          rw [e7, hk] at hy
          cases hy
          exact ⟨rfl, rfl⟩
        · rw [e8]; exact ⟨rfl, rfl⟩
      have hr : i = i / 3 * 3 ∨ i = i / 3 * 3 + 1 ∨ i = i / 3 * 3 + 2 := by omega
      rcases hr with hr | hr | hr
      · rw [hr, f0, g0, e6.1]
      · rw [hr, f1, g1, e6.2]
      · rw [hr, f2, g2, e3, e4, e2]
    · rw [List.getElem?_eq_none (by rw [flatZ_len, List.length_set]; omega), List.getElem?_eq_none (by rw [flatZ_len]; omega)]
  refine ⟨?_, fun x hx => ?_, set_dis hk e' h.dis⟩
  · rw [hfl, List.length_set]
    refine h.row.kept hg ?_
    rcases hg' with ⟨hp, rfl⟩ | rfl
    · right
      obtain ⟨-, cs, hh, -⟩ := hz.1 hp
      exact own_box_ne h.row hh (by decide)
    · by_cases hn : v.ownBlock = none
      · exact .inl hn
      · right
        intro e
        have := (h.row.lt _ e).2
        omega
  · obtain ⟨i, hi⟩ := List.getElem?_of_mem hx
    obtain ⟨y, hy, e1, e2, e3, e4, e5⟩ := set_gs2 hk e' i x hi
    rcases e5 with ⟨rfl, rfl⟩ | ⟨hik, rfl⟩
    · refine ⟨fun hp => ?_, hz.2.1, by show es'.length ≤ z.c; rw [hl]; exact hz.2.2⟩
      have hp' : 0 < z.es.length := by rw [← hl]; exact hp
      rcases hg' with ⟨-, rfl⟩ | h2
      · exact ho hp
      · exact absurd (ho hp).1 (by
          obtain ⟨e, cs, hh, -⟩ := hz.1 hp'
          rw [e]
          intro e9
          have e10 := congrArg Addr.block (Option.some.inj e9)
          have := heap_lt hh
          dsimp only at e10
          omega)
    · obtain ⟨h1, h2, h3⟩ := h.inn x (List.mem_of_getElem? hy)
      refine ⟨fun hp => ?_, h2, h3⟩
      obtain ⟨e, cs, hh, hc⟩ := h1 hp
      refine ⟨e, cs, (hg.block _ (heap_lt hh) (fun e9 => ?_)).trans hh, hc⟩
      have e10 := Option.some.inj e9
      rcases hg' with ⟨hp', rfl⟩ | h2
      · obtain ⟨hi1, hi2⟩ := List.getElem?_eq_some_iff.1 hy
        obtain ⟨hk1, hk2⟩ := List.getElem?_eq_some_iff.1 hk
        have hd := List.pairwise_iff_getElem.1 h.dis
        rcases Nat.lt_or_gt_of_ne hik with hlt | hgt
        · have := hd i k hi1 hk1 hlt
          rw [hi2, hk2] at this
          exact this hp hp' e10
        · have := hd k i hk1 hi1 hgt
          rw [hi2, hk2] at this
          exact this hp' hp e10.symm
      · have := heap_lt hh
        omega

end Go.Proofs.Ytnkohgdfipgdoab

/-
  Contracts over this seat: marks on announcements, in memory; they are held.
-/
namespace Go.Proofs.Ytnkohgdfipgdoab
open Go.RowKit Go.Maps

/-- The marks from k on. -/
def markZ : Int → List Lz → List Lz
  | _, [] => []
  | k, z :: r => ⟨k, k + 1, markLs (k + 2) z.es.length, z.A, z.c, z.g⟩ :: markZ (k + 2 + 2 * z.es.length) r
theorem markZ_len (k : Int) (zs : List Lz) : (markZ k zs).length = zs.length := by
  induction zs generalizing k with
  | nil => rfl
  | cons z r ih => simp [markZ, ih]
theorem markZ_at {k : Int} {zs : List Lz} {j : Nat} {z : Lz} (h : zs[j]? = some z) : (markZ k zs)[j]? = some ⟨k + cntZ (zs.take j), k + cntZ (zs.take j) + 1, markLs (k + cntZ (zs.take j) + 2) z.es.length, z.A, z.c, z.g⟩ := by
  induction zs generalizing k j with
  | nil => simp at h
  | cons x r ih =>
    cases j with
    | zero =>
      simp at h
      subst h
      simp [markZ, cntZ]
    | succ j =>
      have h2 := ih (k := k + 2 + 2 * x.es.length) (by simpa using h)
      unfold markZ
      rw [List.getElem?_cons_succ, h2, List.take_succ_cons, show cntZ (x :: r.take j) = 2 + 2 * x.es.length + cntZ (r.take j) from rfl]
      have e : k + 2 + 2 * (x.es.length : Int) + (cntZ (r.take j) : Int) = k + ((2 + 2 * x.es.length + cntZ (r.take j) : Nat) : Int) := by omega
      rw [e]
theorem mk_step {M zs : List Lz} {j : Nat} {m : Lz} (hl : M.length = zs.length) (hm : M[j]? = some m) : (M.take j ++ zs.drop j).set j m = M.take (j + 1) ++ zs.drop (j + 1) := by
  have hj := (List.getElem?_eq_some_iff.1 hm).1
  rw [List.set_append, if_neg (by rw [List.length_take]; omega), List.length_take, show j - min j M.length = 0 by omega, List.drop_eq_getElem_cons (show j < zs.length by omega), List.set_cons_zero, List.take_add_one, hm]
  simp
theorem mk_at {M zs : List Lz} {j : Nat} {z : Lz} (hl : M.length = zs.length) (hz : zs[j]? = some z) : (M.take j ++ zs.drop j)[j]? = some z := by
  have hj := (List.getElem?_eq_some_iff.1 hz).1
  rw [List.getElem?_append_right (by rw [List.length_take]; omega), List.length_take, List.getElem?_drop]
  rw [show j + (j - min j M.length) = j by omega]
  exact hz
theorem flatZ_setO (o : Int) : ∀ (zs : List Lz) (k : Nat) (z : Lz), zs[k]? = some z → flatZ (zs.set k ⟨o, z.q, z.es, z.A, z.c, z.g⟩) = (flatZ zs).set (k * 3 + 0) (.int .i64 o)
  | [], k, z, h => by simp at h
  | x :: zs, 0, z, h => by
    simp at h
    subst h
    rfl
  | x :: zs, k + 1, z, h => by
    have := flatZ_setO o zs k z (by simpa using h)
    rw [Nat.add_zero] at this
    rw [show (k + 1) * 3 + 0 = k * 3 + 1 + 1 + 1 by omega]
    simp only [List.set_cons_succ, flatZ, this]
theorem flatZ_setQ (q : Int) : ∀ (zs : List Lz) (k : Nat) (z : Lz), zs[k]? = some z → flatZ (zs.set k ⟨z.o, q, z.es, z.A, z.c, z.g⟩) = (flatZ zs).set (k * 3 + 1) (.int .i64 q)
  | [], k, z, h => by simp at h
  | x :: zs, 0, z, h => by
    simp at h
    subst h
    rfl
  | x :: zs, k + 1, z, h => by
    have := flatZ_setQ q zs k z (by simpa using h)
    rw [show (k + 1) * 3 + 1 = k * 3 + 1 + 1 + 1 + 1 by omega]
    simp only [List.set_cons_succ, flatZ, this]
theorem ZI.cells {B g n c : Nat} {zs : List Lz} {W : World} (h : ZI B (.slice (some ⟨g, 0, none⟩) n c) zs W) {k : Nat} {z : Lz} (hk : zs[k]? = some z) : g < W.heap.size ∧ B ≤ g ∧ W.cell? ⟨g, k * 3, none⟩ = some (.int .i64 z.o) ∧ W.cell? ⟨g, k * 3 + 1, none⟩ = some (.int .i64 z.q) ∧ W.cell? ⟨g, k * 3 + 2, none⟩ = some (.slice z.A z.es.length z.c) ∧
    W.frozen? ⟨g, k * 3, none⟩ = false ∧ W.frozen? ⟨g, k * 3 + 1, none⟩ = false := by
  rcases h.row.2 with ⟨e, _⟩ | ⟨g', cap, cs, e, hbg, hh, hn, _, hs, ht⟩
  · cases e
  cases e
  have hkl := (List.getElem?_eq_some_iff.1 hk).1
  have hl := h.row.1
  rw [flatZ_len] at hl
  obtain ⟨h1, h2, h3⟩ := flatZ_at zs k z hk
  rw [← ht] at h1 h2 h3
  rw [List.getElem?_take_of_lt (by omega), Array.getElem?_toList] at h1 h2 h3
  refine ⟨heap_lt hh, hbg, ?_, ?_, ?_, heap_frozen hh _, heap_frozen hh _⟩
  · rw [cell_of_row W g _ cs _ _ hh]; exact h1
  · rw [cell_of_row W g _ cs _ _ hh]; exact h2
  · rw [cell_of_row W g _ cs _ _ hh]; exact h3




end Go.Proofs.Ytnkohgdfipgdoab

/-
  The state of an exact law over announcements.
-/
namespace Go.Proofs.Ytnkohgdfipgdoab
open Go.RowKit Go.Maps

theorem ZI.keepL {B B1 Bx : Nat} {v : Value} {zs : List Lz} {W W' : World} (h : ZI Bx v zs W) (hk : KeepO B B1 W W') (hl : B1 ≤ Bx) : ZI Bx v zs W' :=
  h.keepO (B := B) (B1 := Bx) ⟨hk.os, hk.tape, hk.output, hk.size, fun i hi ho => hk.block i hi (by omega)⟩
theorem cntZ_le {zs : List Lz} {m : Nat} (h : ∀ z ∈ zs, z.es.length ≤ m) : cntZ zs ≤ zs.length * (2 + 2 * m) := by
  induction zs with
  | nil => simp [cntZ]
  | cons z r ih =>
    have h1 := h z (List.mem_cons_self ..)
    have h2 := ih (fun y hy => h y (List.mem_cons_of_mem _ hy))
    unfold cntZ
    rw [List.length_cons, Nat.add_mul, Nat.one_mul]
    omega
/-- What came in lies as it lay; what is wanted (P) lies below block B0. -/
structure EW (w : World) (Q : World → Prop) (B0 : Nat) (P : World → Prop) (W : World) : Prop where
  ex : Q W
  wn : P W
  sz : w.heap.size ≤ B0
  le : B0 ≤ W.heap.size
  bel : Below w.heap.size w W
  mq : ∀ {X Y : World}, Below B0 X Y → Q X → Q Y
  mp : ∀ {X Y : World}, Below B0 X Y → P X → P Y
theorem EW.b {w W W' : World} {Q P : World → Prop} {B0 : Nat} (h : EW w Q B0 P W) (hb : Below B0 W W') : EW w Q B0 P W' :=
  ⟨h.mq hb h.ex, h.mp hb h.wn, h.sz, Nat.le_trans h.le hb.size, h.bel.trans (hb.mono h.sz), h.mq, h.mp⟩
theorem EW.call {w W W' : World} {Q P : World → Prop} {B0 : Nat} (h : EW w Q B0 P W) (hb : Below W.heap.size W W') : EW w Q B0 P W' := h.b (hb.mono h.le)
theorem EW.keep {w W W' : World} {Q P : World → Prop} {B0 b b1 : Nat} (h : EW w Q B0 P W) (hk : KeepO b b1 W W') (h1 : B0 ≤ b) (h2 : b ≤ W.heap.size) : EW w Q B0 P W' := h.b ((hk.below h2).mono h1)
theorem EW.drew {w W : World} {Q P : World → Prop} {B0 : Nat} (h : EW w Q B0 P W) : EW w Q B0 P W.drew :=
  h.b ⟨rfl, rfl, rfl, Nat.le_refl _, fun _ _ => rfl⟩
/-- Two lists that came in. -/
def Q2 (w : World) (A : Option Addr) (zs : List Lz) (B : Option Addr) (os : List Lz) (W : World) : Prop := Slz W w.heap.size A zs ∧ Slz W w.heap.size B os ∧ w.heap.size ≤ W.heap.size
theorem Q2.b {w X Y : World} {A B : Option Addr} {zs os : List Lz} {B0 : Nat} (h : Q2 w A zs B os X) (hb : Below B0 X Y) (hl : w.heap.size ≤ B0) : Q2 w A zs B os Y := ⟨h.1.below (hb.mono hl), h.2.1.below (hb.mono hl), Nat.le_trans h.2.2 hb.size⟩
theorem Q2.s1 {w X : World} {A B : Option Addr} {zs os : List Lz} (h : Q2 w A zs B os X) : Slz X X.heap.size A zs := h.1.more h.2.2
theorem Q2.s2 {w X : World} {A B : Option Addr} {zs os : List Lz} (h : Q2 w A zs B os X) : Slz X X.heap.size B os := h.2.1.more h.2.2

theorem merge_short2 {db other : List La} {ys : List Lz} (h : datL ys = mergeD db other) : ys.length ≤ 8 ∧ (∀ y ∈ ys, y.es.length ≤ 8) := by
  have hv : dbB (datL ys) = true := by
    rw [h]
    unfold mergeD
    split
    · rename_i h
      simp only [Bool.and_eq_true] at h
      obtain ⟨h1, h2⟩ := dbB_inv h.1
      obtain ⟨h3, h4⟩ := dbB_inv h.2
      exact dbB_of (mergeL_val h2 h1 h3) (mergeL_srt h2)
    · rfl
  exact db_short hv
theorem missD_short2 (db other : List La) : (missD db other).length ≤ 8 := by
  unfold missD
  split
  · rename_i h
    simp only [Bool.and_eq_true] at h
    obtain ⟨h1, h2⟩ := dbB_inv h.2
    unfold missL
    rw [List.length_map]
    exact Nat.le_trans (List.length_filter_le _ _) (db_len h2 h1)
  · simp
theorem Own1i.keepO {B B1 : Nat} {W W' : World} {A : Option Addr} {g : Nat} {xs : List Int} (h : Own1i W A g xs) (hk : KeepO B B1 W W') (hl : B1 ≤ g) : Own1i W' A g xs := fun hp => by
  obtain ⟨e, cs, hh, hc⟩ := h hp
  exact ⟨e, cs, (hk.block _ (heap_lt hh) (.inr hl)).trans hh, hc⟩


end Go.Proofs.Ytnkohgdfipgdoab
