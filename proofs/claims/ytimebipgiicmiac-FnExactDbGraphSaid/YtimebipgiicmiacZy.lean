/-
  Contracts over this seat: marks on announcements, and what stays.
-/
import Derived.Test.YtimebipgiicmiacZx
namespace Go.Proofs.Ytimebipgiicmiac
open Go.RowKit Go.Maps

/-- The blocks outside B to B1 lie as they lay. -/
structure KeepO (B B1 : Nat) (w w' : World) : Prop where
  os : w'.os = w.os
  tape : w'.tape = w.tape
  output : w'.output = w.output
  size : w.heap.size ≤ w'.heap.size
  block : ∀ i, i < w.heap.size → (i < B ∨ B1 ≤ i) → w'.heap[i]? = w.heap[i]?
theorem KeepO.refl (B B1 : Nat) (w : World) : KeepO B B1 w w := ⟨rfl, rfl, rfl, Nat.le_refl _, fun _ _ _ => rfl⟩
theorem KeepO.trans {B B1 : Nat} {a b c : World} (h : KeepO B B1 a b) (k : KeepO B B1 b c) : KeepO B B1 a c :=
  ⟨k.os.trans h.os, k.tape.trans h.tape, k.output.trans h.output, Nat.le_trans h.size k.size, fun i hi ho => (k.block i (Nat.lt_of_lt_of_le hi h.size) ho).trans (h.block i hi ho)⟩
theorem KeepO.below {B B1 : Nat} {w w' : World} (h : KeepO B B1 w w') (hB : B ≤ w.heap.size) : Below B w w' := ⟨h.os, h.tape, h.output, h.size, fun i hi => h.block i (Nat.lt_of_lt_of_le hi hB) (.inl hi)⟩
theorem KeepO.of_below {B B1 : Nat} {w w' : World} (h : Below w.heap.size w w') : KeepO B B1 w w' := ⟨h.os, h.tape, h.output, h.size, fun i hi _ => h.block i hi⟩
theorem KeepO.of_grown {B B1 g : Nat} {w w' : World} (h : w.grownBy w' (some g)) (hg : (B ≤ g ∧ g < B1) ∨ g = w.heap.size) : KeepO B B1 w w' :=
  ⟨h.os, h.tape, h.output, h.size, fun i hi ho => h.block i hi (fun e => by have := Option.some.inj e; omega)⟩
theorem KeepO.setCell {B B1 : Nat} {w : World} {p : Addr} (h : B ≤ p.block ∧ p.block < B1) (u : Value) : KeepO B B1 w (w.setCell p u) :=
  ⟨rfl, rfl, rfl, by simp, fun i hi ho => Below.heap_setCell w p u i (by omega)⟩
/-- A row of a call's own above B1 is as it was. -/
theorem ZI.keepO {B B1 : Nat} {v : Value} {zs : List Lz} {W W' : World} (h : ZI B1 v zs W) (hk : KeepO B B1 W W') : ZI B1 v zs W' := by
  refine ⟨?_, fun z hz => ?_, h.dis⟩
  · refine ⟨h.row.1, ?_⟩
    rcases h.row.2 with h1 | ⟨g, cap, cur, e, hb, hh, rest⟩
    · exact .inl h1
    · exact .inr ⟨g, cap, cur, e, hb, (hk.block g (heap_lt hh) (.inr hb)).trans hh, rest⟩
  · obtain ⟨h1, h2, h3⟩ := h.inn z hz
    refine ⟨fun hp => ?_, h2, h3⟩
    obtain ⟨e, cs, hh, hc⟩ := h1 hp
    exact ⟨e, cs, (hk.block _ (heap_lt hh) (.inr h2)).trans hh, hc⟩
theorem InnZ.keepO {B B1 : Nat} {z : Lz} {W W' : World} (h : InnZ W B1 z) (hk : KeepO B B1 W W') : InnZ W' B1 z := by
  obtain ⟨h1, h2, h3⟩ := h
  refine ⟨fun hp => ?_, h2, h3⟩
  obtain ⟨e, cs, hh, hc⟩ := h1 hp
  exact ⟨e, cs, (hk.block _ (heap_lt hh) (.inr h2)).trans hh, hc⟩
/-- All blocks of a row lie below B1. -/
structure UpZ (B1 : Nat) (v : Value) (zs : List Lz) : Prop where
  row : ∀ j, v.ownBlock = some j → j < B1
  inn : ∀ z ∈ zs, 0 < z.es.length → z.g < B1
theorem ZI.up {B : Nat} {v : Value} {zs : List Lz} {W : World} (h : ZI B v zs W) : UpZ W.heap.size v zs := ⟨fun j e => (h.row.lt j e).2, fun _ hz hp => h.lt hz hp⟩

theorem set_gs2 {zs : List Lz} {k : Nat} {z z' : Lz} (hk : zs[k]? = some z) (e : z'.es.length = z.es.length ∧ z'.A = z.A ∧ z'.c = z.c ∧ z'.g = z.g) (i : Nat) (x : Lz) (h : (zs.set k z')[i]? = some x) : ∃ y, zs[i]? = some y ∧ y.g = x.g ∧ y.es.length = x.es.length ∧ y.A = x.A ∧ y.c = x.c ∧ ((i = k ∧ x = z') ∨ (i ≠ k ∧ x = y)) := by
  rw [List.getElem?_set] at h
  split at h
  · rename_i e1
    subst e1
    split at h
    · cases h
      exact ⟨z, hk, e.2.2.2.symm, e.1.symm, e.2.1.symm, e.2.2.1.symm, .inl ⟨rfl, rfl⟩⟩
    · cases h
  · rename_i e1
    exact ⟨x, h, rfl, rfl, rfl, rfl, .inr ⟨fun e => e1 e.symm, rfl⟩⟩
theorem set_dis {zs : List Lz} {k : Nat} {z z' : Lz} (hk : zs[k]? = some z) (e : z'.es.length = z.es.length ∧ z'.A = z.A ∧ z'.c = z.c ∧ z'.g = z.g) (hd : zs.Pairwise (fun a b => 0 < a.es.length → 0 < b.es.length → a.g ≠ b.g)) : (zs.set k z').Pairwise (fun a b => 0 < a.es.length → 0 < b.es.length → a.g ≠ b.g) := by
  rw [List.pairwise_iff_getElem]
  intro i j hi hj hij h1 h2
  obtain ⟨y, hy, e1, e2, _⟩ := set_gs2 hk e i _ (List.getElem?_eq_getElem hi)
  obtain ⟨u, hu, f1, f2, _⟩ := set_gs2 hk e j _ (List.getElem?_eq_getElem hj)
  rw [← e1, ← f1]
  rw [← e2] at h1
  rw [← f2] at h2
  obtain ⟨hi', rfl⟩ := List.getElem?_eq_some_iff.1 hy
  obtain ⟨hj', rfl⟩ := List.getElem?_eq_some_iff.1 hu
  exact List.pairwise_iff_getElem.1 hd i j hi' hj' hij h1 h2
/-- Another number in a row of a call's own. -/
theorem ZI.setV {B g c : Nat} {zs : List Lz} {W : World} (h : ZI B (.slice (some ⟨g, 0, none⟩) zs.length c) zs W) {k : Nat} {z z' : Lz} (hk : zs[k]? = some z) (e : z'.es = z.es ∧ z'.A = z.A ∧ z'.c = z.c ∧ z'.g = z.g) {r : Nat} {u : Value} (hf : flatZ (zs.set k z') = (flatZ zs).set (k * 3 + r) u) :
    ZI B (.slice (some ⟨g, 0, none⟩) zs.length c) (zs.set k z') (W.setCell ⟨g, k * 3 + r, none⟩ u) := by
  have e' : z'.es.length = z.es.length ∧ z'.A = z.A ∧ z'.c = z.c ∧ z'.g = z.g := ⟨by rw [e.1], e.2⟩
  obtain ⟨hrow, hinn, hdis⟩ := h
  obtain ⟨hl, hr⟩ := hrow
  rcases hr with ⟨he, _⟩ | ⟨g', cap, cur, he, hbg, hh, hn, h9, hs, ht⟩
  · cases he
  · cases he
    refine ⟨?_, fun x hx => ?_, set_dis hk e' hdis⟩
    · rw [List.length_set]
      refine ⟨by rw [flatZ_len, List.length_set], .inr ⟨g, c, cur.setIfInBounds (k * 3 + r) u, rfl, hbg, heap_set hh _ _, hn, h9, by simpa using hs, ?_⟩⟩
      rw [hf, Array.toList_setIfInBounds, List.take_set, ht]
    · obtain ⟨i, hi⟩ := List.getElem?_of_mem hx
      obtain ⟨y, hy, e1, e2, e3, e4, e5⟩ := set_gs2 hk e' i x hi
      have e6 : y.es = x.es := by
        rcases e5 with ⟨rfl, rfl⟩ | ⟨-, rfl⟩
        · rw [hk] at hy
          cases hy
          exact e.1.symm
        · rfl
      obtain ⟨h1, h2, h3⟩ := hinn y (List.mem_of_getElem? hy)
      rw [e1] at h1 h2
      rw [e6] at h1 h3
      rw [e3] at h1
      rw [e4] at h3
      refine ⟨fun hp => ?_, h2, h3⟩
      obtain ⟨e, cs, hh', hc⟩ := h1 hp
      have hne : x.g ≠ g := by
        intro e
        rw [e, hh] at hh'
        injection hh' with hh'
        injection hh' with _ h2
        exact absurd h2 (by decide)
      exact ⟨e, cs, (Below.heap_setCell W ⟨g, k * 3 + r, none⟩ _ x.g hne).trans hh', hc⟩
/-- Other neighbours of one announcement. -/
theorem ZI.mark {B : Nat} {v : Value} {zs : List Lz} {W W' : World} (h : ZI B v zs W) {k g' : Nat} {z : Lz} {es' : List Lb} (hk : zs[k]? = some z) (hl : es'.length = z.es.length) (hg : W.grownBy W' (some g')) (ho : Owne W' z.A g' es')
    (hg' : (0 < z.es.length ∧ g' = z.g) ∨ g' = W.heap.size) : ZI B v (zs.set k ⟨z.o, z.q, es', z.A, z.c, z.g⟩) W' := by
  have e' : (⟨z.o, z.q, es', z.A, z.c, z.g⟩ : Lz).es.length = z.es.length ∧ (⟨z.o, z.q, es', z.A, z.c, z.g⟩ : Lz).A = z.A ∧ (⟨z.o, z.q, es', z.A, z.c, z.g⟩ : Lz).c = z.c ∧ (⟨z.o, z.q, es', z.A, z.c, z.g⟩ : Lz).g = z.g := ⟨hl, rfl, rfl, rfl⟩
  have hz := h.inn z (List.mem_of_getElem? hk)
  have hfl : flatZ (zs.set k ⟨z.o, z.q, es', z.A, z.c, z.g⟩) = flatZ zs := by
    refine List.ext_getElem? fun i => ?_
    by_cases hi : i < zs.length * 3
    · have hj : i / 3 < zs.length := by omega
      have hj2 : i / 3 < (zs.set k ⟨z.o, z.q, es', z.A, z.c, z.g⟩).length := by rw [List.length_set]; exact hj
      obtain ⟨f0, f1, f2⟩ := flatZ_at _ _ _ (List.getElem?_eq_getElem hj2)
      obtain ⟨y, hy, e1, e2, e3, e4, e5⟩ := set_gs2 hk e' _ _ (List.getElem?_eq_getElem hj2)
      obtain ⟨g0, g1, g2⟩ := flatZ_at zs _ _ hy
      have e6 : y.o = (zs.set k ⟨z.o, z.q, es', z.A, z.c, z.g⟩)[i / 3].o ∧ y.q = (zs.set k ⟨z.o, z.q, es', z.A, z.c, z.g⟩)[i / 3].q := by
        rcases e5 with ⟨e7, e8⟩ | ⟨-, e8⟩
        · rw [e8]
          rw [e7, hk] at hy
          cases hy
          exact ⟨rfl, rfl⟩
        · rw [e8]; exact ⟨rfl, rfl⟩
      have hr : i = i / 3 * 3 ∨ i = i / 3 * 3 + 1 ∨ i = i / 3 * 3 + 2 := by omega
      rcases hr with hr | hr | hr
      · rw [hr, f0, g0, e6.1]
      · rw [hr, f1, g1, e6.2]
      · rw [hr, f2, g2, e3, e4, e2]
    · rw [List.getElem?_eq_none (by rw [flatZ_len, List.length_set]; omega), List.getElem?_eq_none (by rw [flatZ_len]; omega)]
  refine ⟨?_, fun x hx => ?_, set_dis hk e' h.dis⟩
  · rw [hfl, List.length_set]
    refine h.row.kept hg ?_
    rcases hg' with ⟨hp, rfl⟩ | rfl
    · right
      obtain ⟨-, cs, hh, -⟩ := hz.1 hp
      exact own_box_ne h.row hh (by decide)
    · by_cases hn : v.ownBlock = none
      · exact .inl hn
      · right
        intro e
        have := (h.row.lt _ e).2
        omega
  · obtain ⟨i, hi⟩ := List.getElem?_of_mem hx
    obtain ⟨y, hy, e1, e2, e3, e4, e5⟩ := set_gs2 hk e' i x hi
    rcases e5 with ⟨rfl, rfl⟩ | ⟨hik, rfl⟩
    · refine ⟨fun hp => ?_, hz.2.1, by show es'.length ≤ z.c; rw [hl]; exact hz.2.2⟩
      have hp' : 0 < z.es.length := by rw [← hl]; exact hp
      rcases hg' with ⟨-, rfl⟩ | h2
      · exact ho hp
      · exact absurd (ho hp).1 (by
          obtain ⟨e, cs, hh, -⟩ := hz.1 hp'
          rw [e]
          intro e9
          have e10 := congrArg Addr.block (Option.some.inj e9)
          have := heap_lt hh
          dsimp only at e10
          omega)
    · obtain ⟨h1, h2, h3⟩ := h.inn x (List.mem_of_getElem? hy)
      refine ⟨fun hp => ?_, h2, h3⟩
      obtain ⟨e, cs, hh, hc⟩ := h1 hp
      refine ⟨e, cs, (hg.block _ (heap_lt hh) (fun e9 => ?_)).trans hh, hc⟩
      have e10 := Option.some.inj e9
      rcases hg' with ⟨hp', rfl⟩ | h2
      · obtain ⟨hi1, hi2⟩ := List.getElem?_eq_some_iff.1 hy
        obtain ⟨hk1, hk2⟩ := List.getElem?_eq_some_iff.1 hk
        have hd := List.pairwise_iff_getElem.1 h.dis
        rcases Nat.lt_or_gt_of_ne hik with hlt | hgt
        · have := hd i k hi1 hk1 hlt
          rw [hi2, hk2] at this
          exact this hp hp' e10
        · have := hd k i hk1 hi1 hgt
          rw [hi2, hk2] at this
          exact this hp' hp e10.symm
      · have := heap_lt hh
        omega

end Go.Proofs.Ytimebipgiicmiac
