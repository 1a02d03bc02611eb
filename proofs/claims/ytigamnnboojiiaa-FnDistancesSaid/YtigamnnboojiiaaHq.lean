/-
  Contracts over this seat: heap.Push and heap.Pop at the heap of waiting nodes.
-/
import Derived.Test.YtigamnnboojiiaaHp
import Derived.Deep.LoopGhost
namespace Go.Proofs.Ytigamnnboojiiaa
open Go.RowKit

theorem HpW.popped {w : World} {B g cap : Nat} {cs : Array Value} {a : List Vs} (h : HpW w B g cap cs a) (_h0 : 0 < a.length) :
    HpW (w.setCell ⟨B, 0, none⟩ (.slice (some ⟨g, 0, none⟩) (a.length - 1) cap)) B g cap cs (a.take (a.length - 1)) := by
  have hl : (a.take (a.length - 1)).length = a.length - 1 := by simp
  refine ⟨?_, (Below.heap_setCell w _ _ _ (Ne.symm h.ne)).trans h.row, h.ne, by rw [hl]; have := h.len; omega, h.mx, h.size, fun k x hk => ?_⟩
  · rw [hl]
    have := heap_set (show w.heap[B]? = _ from h.box) 0 (.slice (some ⟨g, 0, none⟩) (a.length - 1) cap)
    unfold Box
    simpa using this
  · refine h.at' k x ?_
    have hkl := (List.getElem?_eq_some_iff.1 hk).1
    rw [hl] at hkl
    rwa [List.getElem?_take_of_lt hkl] at hk

set_option maxHeartbeats 800000 in
theorem hPop_any {B g cap : Nat} {cs : Array Value} {a : List Vs} (w : World) (h : HpW w B g cap cs a) {x : Vs} (h0 : 0 < a.length) (hx : a[a.length - 1]? = some x) (hm : a.length ≤ 2000000) :
   Calls Try.prog 95 #[.pointer (some ⟨B, 0, none⟩)] w fun e w' => e = .returned (.iface 58 x.v) ∧ HpW w' B g cap cs (a.take (a.length - 1)) ∧ Kx (fun k => k = B) w w' := by
  obtain ⟨n, hn⟩ : ∃ n, a.length = n + 1 := ⟨a.length - 1, by omega⟩
  have hB := h.box.cell 0
  have fB := h.box.frozen 0
  have zB := h.box.lt
  have zG := h.row.lt
  obtain ⟨c1, c2⟩ := h.cells hx
  have hsub : (a.length : Int) - 1 = (n : Int) := by omega
  have hcap := h.len
  have hnb : n ≤ 2000000 := by omega
  rw [hn] at hB c1 c2 hcap
  simp only [Nat.add_sub_cancel] at c1 c2
  simp at hB
  have HH := Lib.hid h
  have HN := Lib.hid hn
  clear h hx hn hsub h0
  go_enter Try.func95, Try.ntmps95
  go_wp2
  go_ret
  refine ⟨rfl, ?_, ?_⟩
  · have hp := HH.out.popped (by rw [HN.out]; omega)
    have e : a.length - 1 = n := by rw [HN.out]; omega
    rw [e] at hp ⊢
    exact hp.below ((Below.refl _ _).alloc (Nat.le_refl _) _)
  · exact ((Kx.refl (fun k => k = B) w).setCell (p := ⟨B, 0, none⟩) rfl _).alloc _

abbrev hv (B : Nat) : Value := .iface 62 (.pointer (some ⟨B, 0, none⟩))

set_option maxRecDepth 100000 in
set_option maxHeartbeats 800000 in
theorem up_any {B g cap : Nat} {cs : Array Value} {a : List Vs} (w : World) (h : HpW w B g cap cs a) (hm : a.length ≤ 2000000) (j : Nat) (hj : j < a.length) (hu : UpF a.length (ctf a) j) :
   Calls Try.prog 63 #[hv B, .int .i64 j] w fun e w' => e = .returned (.tuple #[]) ∧ ∃ cs' b, HpW w' B g cap cs' b ∧ Re a b ∧ Hp b ∧ Kx (fun k => k = g) w w' := by
  have HH := Lib.hid h
  have HU := Lib.hid hu
  clear h hu
  go_enter Try.func63, Try.ntmps63
  go_wp2
  go_loopw [1] (fun v wr => ∃ (i : Nat) (cs : Array Value) (b : List Vs), v = .int .i64 i ∧ i < b.length ∧ HpW wr B g cap cs b ∧ Re a b ∧ UpF b.length (ctf b) i ∧ Kx (fun k => k = g) w wr) (fun v _ => (intOf v).toNat)
  case atStart => exact ⟨j, cs, a, rfl, hj, HH.out, Re.refl _, HU.out, Kx.refl _ _⟩
  case round =>
    obtain ⟨i, cs, b, rfl, hi, hp, hr, hu, hk⟩ := hrel
    have hB : wr.cell? ⟨B, 0, none⟩ = some (.slice (some ⟨g, 0, none⟩) b.length cap) := hp.box.cell 0
    have m1 : ∀ N : Nat, Sem.run Try.prog (method (N + 1) 62 (.pointer (some ⟨B, 0, none⟩)) "Less") wr = .ok (93, .slice (some ⟨g, 0, none⟩) b.length cap) wr := mLess hB
    have hmb : b.length ≤ 2000000 := by have := hr.1; omega
    have HP := Lib.hid hp
    have HR := Lib.hid hr
    have HU := Lib.hid hu
    have HK := Lib.hid hk
    clear hp hr hu hk
    by_cases h0 : i = 0
    · subst h0
      go_wp2
      go_end0
      exact ⟨rfl, cs, b, HP.out, HR.out, HU.out.done (.inl rfl), HK.out⟩
    · have hip : 0 < i := by omega
      obtain ⟨x, hx⟩ : ∃ x, b[i]? = some x := ⟨_, List.getElem?_eq_getElem hi⟩
      obtain ⟨y, hy⟩ : ∃ y, b[(i - 1) / 2]? = some y := ⟨_, List.getElem?_eq_getElem (by omega)⟩
      have C1 := hLess_any wr HP.out hx hy
      have ei : (((i - 1) / 2 : Nat) : Int) = ((i : Int) - 1) / 2 := by omega
      have hne : (((i : Int) - 1) / 2 == (i : Int)) = false := by simp; omega
      rw [ei] at C1
      have EI := Lib.hid ei
      clear ei
      have HX := Lib.hid hx
      have HY := Lib.hid hy
      clear hx hy
      go_wp2_with (first
        | (go_at_call 93; refine C1.mono ?_; clear C1 m1 hB; rintro e w1 ⟨rfl, hb1⟩; have HP1 := Lib.hid (HP.out.below hb1); have HK1 := Lib.hid (HK.out.trans (Kx.of_below hb1)); clear hb1 HP HK; have hB1 : w1.cell? ⟨B, 0, none⟩ = some (.slice (some ⟨g, 0, none⟩) b.length cap) := HP1.out.box.cell 0; have m2 := mSwap hB1; have C2 := hSwap_any w1 HP1.out HY.out HX.out; rw [EI.out] at C2)
        | (go_at_call 94; refine C2.mono ?_; clear C2 m2 hB1; rintro e w2 ⟨rfl, hp2, hk2⟩; have HP2 := Lib.hid hp2; have HK2 := Lib.hid (HK1.out.trans hk2); clear hp2 hk2 HP1 HK1))
      · go_end0
        have hxy : ¬ x.ct < y.ct := by simp_all
        refine ⟨rfl, cs, b, HP1.out, HR.out, HU.out.done (.inr ?_), HK1.out⟩
        rw [ctf_at HX.out, ctf_at HY.out]; exact hxy
      · go_roundw
        case rel =>
          have hxy : x.ct < y.ct := by simp_all
          have hl := HU.out.step hip hi (by rw [ctf_at HX.out, ctf_at HY.out]; exact hxy)
          refine ⟨(i - 1) / 2, _, swp b ((i - 1) / 2) i, by rw [EI.out], by rw [swp_len]; omega, HP2.out, HR.out.swp (by omega) hi, ?_, HK2.out⟩
          rw [swp_len, swp_ctf (by omega) hi]
          exact hl
        case measure => simp [intOf]; omega
end Go.Proofs.Ytigamnnboojiiaa
