/-
  Contracts over this seat: the specification's GraphNeighbours; both lists are the same.
-/
import Derived.Test.YtbogpcnjniadfaaNbI
namespace Go.Proofs.Ytbogpcnjniadfaa
open Go.RowKit

def nbS (a : Int) (ls : List Lk) : Nat → List Int
  | 0 => []
  | k + 1 => nbS a ls k ++ (if 0 ≤ l1I (min a k) (max a k) ls then [(k : Int)] else [])
theorem nbS_len (a : Int) (ls : List Lk) (k : Nat) : (nbS a ls k).length ≤ k := by
  induction k with
  | zero => simp [nbS]
  | succ k ih =>
    simp only [nbS, List.length_append]
    split <;> simp <;> omega
theorem owns_kept {w w' : World} {base e size n : Nat} {v : Value} {xs : List Value} (h : w.ownsRow base e size v n xs) (hb : Below w.heap.size w w') : w'.ownsRow base e size v n xs :=
  h.kept (below_grown hb) (by
    by_cases h : v.ownBlock = none
    · exact .inl h
    · exact .inr h)

set_option maxRecDepth 100000 in
set_option maxHeartbeats 800000 in
theorem nb_spec (nn : Int) (A : Option Addr) (ls : List Lk) (c : Nat) (a : Int) (w : World) (hm : ls.length ≤ 2000000) (hnu : nn ≤ 9223372036854775807) (hS : Sl w w.heap.size A ls) :
   Calls Try.prog 22 #[gval nn A ls.length c, .int .i64 a] w (NewI (if gvB nn ls = true then nbS a ls 8 else []) w) := by
  obtain ⟨i0, hi, hz0, hz1, hz2⟩ := info_parts infoInt
  have HS := Lib.hid hS
  have hK := (Box.new w 29 #[.int .i64 nn, .slice A ls.length c]).alloc (.cells #[] 3)
  have hR := World.ownsRow_made (base := w.heap.size + 1) (e := 3) (size := 1) (w.alloc (.cells #[.int .i64 nn, .slice A ls.length c] 29)) #[] 0 (by simp) (by unfold maxLen; omega) rfl
  simp only [World.size_alloc] at hR
  have HK := Lib.hid hK
  have HR := Lib.hid hR
  clear hS hK hR
  cases hv : gvB nn ls with
  | true =>
    rw [if_pos rfl]
    have C1 : ∀ V : World, Sl V V.heap.size A ls → Calls Try.prog 16 #[gval nn A ls.length c] V fun e w' => e = .returned (.bool true) ∧ Below V.heap.size V w' := fun V hV => by
      have := valid_spec_any nn A ls c V hm hnu hV
      rwa [hv] at this
    clear hv
    go_enter Try.func22, Try.ntmps22
    go_wp2
    go_loopw [5, 6] (fun v i wr => ∃ k : Nat, k ≤ 8 ∧ i = .int .i64 k ∧ Below w.heap.size w wr ∧ Box wr w.heap.size 29 #[.int .i64 nn, .slice A ls.length c] ∧ wr.ownsRow (w.heap.size + 1) 3 1 v (nbS a ls k).length ((nbS a ls k).map (Value.int .i64))) (fun _ i _ => 8 - (intOf i).toNat)
    case atStart => exact ⟨0, by omega, rfl, by (repeat (first | exact Below.refl _ _ | (refine Below.alloc ?_ (by first | exact Nat.le_refl _ | omega | (simp; done) | (simp; omega)) _) | (refine Below.setCell ?_ (by first | exact Nat.le_refl _ | omega | (simp; done) | (simp; omega)) _) | exact Below.drew ‹_›)), HK.out, HR.out⟩
    case round =>
      obtain ⟨k, hk, rfl, hb, hbox, hrow⟩ := hrel
      have e10 := hbox.cell 0
      have e11 := hbox.cell 1
      have z1 := hbox.lt
      have HB := Lib.hid hb
      have HX := Lib.hid hbox
      have HW := Lib.hid hrow
      have S1 := Lib.hid ((HS.out.below hb).more (Nat.le_of_lt z1))
      clear hb hbox hrow
      by_cases hlt : k < 8
      · by_cases hx : 0 ≤ l1I (min a k) (max a k) ls
        · have HN : Hid (nbS a ls (k + 1) = nbS a ls k ++ [(k : Int)]) := by unfold Hid; simp only [nbS]; rw [if_pos hx]
          have C2 : ∀ V : World, Sl V V.heap.size A ls → Calls Try.prog 51 #[gval nn A ls.length c, .int .i64 a, .int .i64 k] V fun e w' => e = .returned (.int .i64 (l1I (min a k) (max a k) ls)) ∧ Below V.heap.size V w' := fun V hV => l1Link_any nn A ls c a k V hm hV
          generalize l1I (min a k) (max a k) ls = q at hx C2
          have hl8 := nbS_len a ls k
          go_wp2_with (first
            | (go_at_call 16; refine (C1 _ S1.out).mono ?_; rintro e w1 ⟨rfl, hb1⟩; have X1 := HX.out.below hb1 HX.out.lt; have f10 := X1.cell 0; have f11 := X1.cell 1; have y1 := X1.lt; have B1 := Lib.hid (HB.out.trans (hb1.mono (Nat.le_of_lt z1))); have W1 := Lib.hid (owns_kept HW.out hb1); clear hb1 e10 e11)
            | (go_at_call 51; refine (C2 _ ((HS.out.below B1.out).more (Nat.le_of_lt y1))).mono ?_; rintro e w2 ⟨rfl, hb2⟩; have X2 := Lib.hid (X1.below hb2 X1.lt); have y2 := X2.out.lt; have B2 := Lib.hid (B1.out.trans (hb2.mono (Nat.le_of_lt y1))); have W2 := Lib.hid (owns_kept W1.out hb2); clear hb2 f10 f11)
            | (at_builtin; refine wpList_append_own _ rfl _ _ 35 rfl (w.heap.size + 1) 3 i0 (.int .i64 0) 1 8 Try.underlying35 hi hz0 hz1 hz2 rfl (by decide) _ _ _ rfl (W2.out.alloc _) ⟨w2.heap.size, 0, none⟩ 1 1 [.int .i64 k] rfl rfl (cell_one_new _ _ _) (by simp [Value.oneCell']) (by unfold maxLen; omega) (by omega) (by simp; omega) ?_; intro v' w3 hown3 hgrow3 _; have W3 := Lib.hid hown3; have G3 := Lib.hid hgrow3; clear hown3 hgrow3))
          go_roundw
          case rel =>
            have hne := fun j e => (W2.out.lt j e).1
            refine ⟨k + 1, hlt, by go_num, ?_, ?_, ?_⟩
            · exact (B2.out.alloc (by omega) _).grown G3.out (by simp; omega) (fun j e => by have := hne j e; omega)
            · exact (G3.out.block w.heap.size (by simp; omega) (fun e => by have := hne _ e.symm; omega)).trans (X2.out.alloc _)
            · rw [HN.out]
              simpa using W3.out
          case measure => simp [intOf]; omega
        · have HN : Hid (nbS a ls (k + 1) = nbS a ls k) := by unfold Hid; simp only [nbS]; rw [if_neg hx]; simp
          have C2 : ∀ V : World, Sl V V.heap.size A ls → Calls Try.prog 51 #[gval nn A ls.length c, .int .i64 a, .int .i64 k] V fun e w' => e = .returned (.int .i64 (l1I (min a k) (max a k) ls)) ∧ Below V.heap.size V w' := fun V hV => l1Link_any nn A ls c a k V hm hV
          generalize l1I (min a k) (max a k) ls = q at hx C2
          go_wp2_with (first
            | (go_at_call 16; refine (C1 _ S1.out).mono ?_; rintro e w1 ⟨rfl, hb1⟩; have X1 := HX.out.below hb1 HX.out.lt; have f10 := X1.cell 0; have f11 := X1.cell 1; have y1 := X1.lt; have B1 := Lib.hid (HB.out.trans (hb1.mono (Nat.le_of_lt z1))); have W1 := Lib.hid (owns_kept HW.out hb1); clear hb1 e10 e11)
            | (go_at_call 51; refine (C2 _ ((HS.out.below B1.out).more (Nat.le_of_lt y1))).mono ?_; rintro e w2 ⟨rfl, hb2⟩; have X2 := Lib.hid (X1.below hb2 X1.lt); have B2 := Lib.hid (B1.out.trans (hb2.mono (Nat.le_of_lt y1))); have W2 := Lib.hid (owns_kept W1.out hb2); clear hb2 f10 f11))
          go_roundw
          case rel => exact ⟨k + 1, hlt, by go_num, B2.out, X2.out, by rw [HN.out]; exact W2.out⟩
          case measure => simp [intOf]; omega
      · obtain rfl : k = 8 := by omega
        obtain ⟨A', g', c', rfl, hg', _, ho⟩ := own_slicei HW.out (by omega)
        have HO := Lib.hid ho
        clear ho
        go_wp2
        go_ret
        exact ⟨A', g', c', rfl, by omega, HO.out, HB.out⟩
  | false =>
    rw [if_neg Bool.false_ne_true]
    have C1 : ∀ V : World, Sl V V.heap.size A ls → Calls Try.prog 16 #[gval nn A ls.length c] V fun e w' => e = .returned (.bool false) ∧ Below V.heap.size V w' := fun V hV => by
      have := valid_spec_any nn A ls c V hm hnu hV
      rwa [hv] at this
    clear hv
    go_enter Try.func22, Try.ntmps22
    go_wp2
    go_loopw [5, 6] (fun v i wr => i = .int .i64 0 ∧ v = .slice (some ⟨w.heap.size + 1, 0, none⟩) 0 0 ∧ Below w.heap.size w wr ∧ Box wr w.heap.size 29 #[.int .i64 nn, .slice A ls.length c]) (fun _ _ _ => 0)
    case atStart => exact ⟨rfl, rfl, by (repeat (first | exact Below.refl _ _ | (refine Below.alloc ?_ (by first | exact Nat.le_refl _ | omega | (simp; done) | (simp; omega)) _) | (refine Below.setCell ?_ (by first | exact Nat.le_refl _ | omega | (simp; done) | (simp; omega)) _) | exact Below.drew ‹_›)), HK.out⟩
    case round =>
      obtain ⟨rfl, rfl, hb, hbox⟩ := hrel
      have e10 := hbox.cell 0
      have e11 := hbox.cell 1
      have z1 := hbox.lt
      have HB := Lib.hid hb
      have S1 := Lib.hid ((HS.out.below hb).more (Nat.le_of_lt z1))
      clear hb hbox
      go_wp2_with (go_at_call 16; refine (C1 _ S1.out).mono ?_; rintro e w1 ⟨rfl, hb1⟩; have B1 := Lib.hid (HB.out.trans (hb1.mono (Nat.le_of_lt z1))); clear hb1)
      go_ret
      exact ⟨_, w.heap.size + 1, _, rfl, by omega, fun h => absurd h (by simp), B1.out⟩

/-! ### Both lists are one -/
theorem asc_ext : ∀ (xs ys : List Int), xs.Pairwise (· < ·) → ys.Pairwise (· < ·) → (∀ z, z ∈ xs ↔ z ∈ ys) → xs = ys
  | [], [], _, _, _ => rfl
  | [], y :: ys, _, _, h => absurd ((h y).2 (by simp)) (by simp)
  | x :: xs, [], _, _, h => absurd ((h x).1 (by simp)) (by simp)
  | x :: xs, y :: ys, hx, hy, h => by
    rw [List.pairwise_cons] at hx hy
    have hxy : x = y := by
      rcases List.mem_cons.1 ((h x).1 (by simp)) with e | e
      · exact e
      · rcases List.mem_cons.1 ((h y).2 (by simp)) with e' | e'
        · exact e'.symm
        · have := hx.1 y e'
          have := hy.1 x e
          omega
    subst hxy
    rw [asc_ext xs ys hx.2 hy.2 fun z => ⟨fun hz => ?_, fun hz => ?_⟩]
    · rcases List.mem_cons.1 ((h z).1 (by simp [hz])) with e | e
      · have := hx.1 z hz; omega
      · exact e
    · rcases List.mem_cons.1 ((h z).2 (by simp [hz])) with e | e
      · have := hy.1 z hz; omega
      · exact e
theorem nbS_mem {a : Int} {ls : List Lk} {k : Nat} {z : Int} : z ∈ nbS a ls k ↔ ∃ x : Nat, x < k ∧ z = x ∧ 0 ≤ l1I (min a x) (max a x) ls := by
  induction k with
  | zero => simp [nbS]
  | succ k ih =>
    simp only [nbS, List.mem_append, ih]
    constructor
    · rintro (⟨x, h1, h2⟩ | h)
      · exact ⟨x, by omega, h2⟩
      · split at h
        · rename_i hp
          simp at h
          exact ⟨k, by omega, h, hp⟩
        · simp at h
    · rintro ⟨x, h1, h2, h3⟩
      by_cases hx : x < k
      · exact .inl ⟨x, hx, h2, h3⟩
      · obtain rfl : x = k := by omega
        right
        rw [if_pos h3]
        simpa using h2
theorem nbS_asc (a : Int) (ls : List Lk) (k : Nat) : (nbS a ls k).Pairwise (· < ·) := by
  induction k with
  | zero => simp [nbS]
  | succ k ih =>
    rw [nbS, List.pairwise_append]
    refine ⟨ih, by split <;> simp, fun x hx y hy => ?_⟩
    obtain ⟨i, hi, rfl, _⟩ := nbS_mem.1 hx
    split at hy
    · simp at hy; omega
    · simp at hy
theorem l1I_nonneg {mn mx : Int} {ls : List Lk} : 0 ≤ l1I mn mx ls ↔ ∃ (j : Nat) (l : Lk), ls[j]? = some l ∧ l.a = mn ∧ l.b = mx := by
  unfold l1I
  cases hf : ls.findIdx? (fun l => decide (l.a = mn) && decide (l.b = mx)) with
  | none =>
    refine ⟨fun h => absurd h (by simp), fun ⟨j, l, hj, h1, h2⟩ => ?_⟩
    have := List.findIdx?_eq_none_iff.1 hf l (List.mem_of_getElem? hj)
    simp [h1, h2] at this
  | some k =>
    obtain ⟨hk, hk1, _⟩ := List.findIdx?_eq_some_iff_getElem.1 hf
    have hmt : ls[k].a = mn ∧ ls[k].b = mx := by simpa using hk1
    exact ⟨fun _ => ⟨k, ls[k], List.getElem?_eq_getElem hk, hmt⟩, fun _ => by simp⟩
theorem gvB_at {nn : Int} {ls : List Lk} (h : gvB nn ls = true) {j : Nat} {l : Lk} (hj : ls[j]? = some l) : 0 ≤ l.a ∧ l.a < l.b ∧ l.b < nn ∧ nn ≤ 8 ∧ 1 ≤ l.c ∧ l.c ≤ 20 := by
  unfold gvB at h
  simp only [Bool.and_eq_true, List.all_eq_true] at h
  have := h.2 j (by have := (List.getElem?_eq_some_iff.1 hj).1; simpa using this)
  unfold okAt at this
  rw [hj] at this
  simp only [Bool.and_eq_true] at this
  have h2 := this.1
  have h3 := h.1.1
  unfold allowsB inB at h2
  unfold inB at h3
  simp at h2 h3
  omega
theorem gvB_next {nn : Int} {ls : List Lk} (h : gvB nn ls = true) {j : Nat} {l m : Lk} (hj : ls[j]? = some m) (hl : ls[j + 1]? = some l) : m.a < l.a ∨ (m.a = l.a ∧ m.b < l.b) := by
  unfold gvB at h
  simp only [Bool.and_eq_true, List.all_eq_true] at h
  have := h.2 (j + 1) (by have := (List.getElem?_eq_some_iff.1 hl).1; simpa using this)
  have ha : allowsB nn l = true := by
    unfold okAt at this
    rw [hl] at this
    simp only [Bool.and_eq_true] at this
    exact this.1
  rw [okAt_succ hl (by simpa using hj) (by omega) ha] at this
  unfold beforeB at this
  simpa using this
theorem gvB_lex {nn : Int} {ls : List Lk} (h : gvB nn ls = true) {j : Nat} {m : Lk} (hj : ls[j]? = some m) : ∀ (k : Nat) (l : Lk), j < k → ls[k]? = some l → m.a < l.a ∨ (m.a = l.a ∧ m.b < l.b) := by
  intro k
  induction k with
  | zero => intro l hk; omega
  | succ k ih =>
    intro l hk hl
    have hkl : k < ls.length := by have := (List.getElem?_eq_some_iff.1 hl).1; omega
    have hq : ls[k]? = some ls[k] := List.getElem?_eq_getElem hkl
    have hn := gvB_next h hq hl
    by_cases hjk : j = k
    · subst hjk
      rw [hj] at hq
      injection hq with hq
      rw [hq]
      exact hn
    · have := ih _ (by omega) hq
      omega
theorem nbTo_hitMem {a : Int} {ls : List Lk} {j : Nat} {l : Lk} (hj : ls[j]? = some l) (ht : touchB l a = true) : (acrossI l a, j) ∈ nbTo a ls ls.length := by
  have hlt := (List.getElem?_eq_some_iff.1 hj).1
  obtain ⟨rest, hr⟩ := nbTo_prefix a ls (show j + 1 ≤ ls.length by omega)
  rw [hr, nbTo_hit hj ht]
  simp
theorem across_lt {a : Int} {l m : Lk} (hl : l.a < l.b) (hm : m.a < m.b) (tl : touchB l a = true) (tm : touchB m a = true) (h : m.a < l.a ∨ (m.a = l.a ∧ m.b < l.b)) : acrossI m a < acrossI l a := by
  unfold touchB at tl tm
  simp at tl tm
  unfold acrossI
  split <;> split <;> omega
theorem nbTo_asc {nn : Int} {ls : List Lk} (h : gvB nn ls = true) (a : Int) (k : Nat) : ((nbTo a ls k).map (·.1)).Pairwise (· < ·) := by
  induction k with
  | zero => simp [nbTo]
  | succ k ih =>
    rw [nbTo, List.map_append, List.pairwise_append]
    refine ⟨ih, ?_, fun x hx y hy => ?_⟩
    · split
      · split <;> simp
      · simp
    · obtain ⟨p, hp, rfl⟩ := List.mem_map.1 hx
      obtain ⟨j, m, hjk, hm, tm, rfl⟩ := nbTo_mem hp
      split at hy
      · rename_i l hl
        split at hy
        · rename_i tl
          simp at hy
          subst hy
          exact across_lt (gvB_ord h _ _ hl) (gvB_ord h _ _ hm) tl tm (gvB_lex h hm k l hjk hl)
        · simp at hy
      · simp at hy
theorem nb_eq {nn : Int} {ls : List Lk} (h : gvB nn ls = true) (a : Int) : (nbTo a ls ls.length).map (·.1) = nbS a ls 8 := by
  refine asc_ext _ _ (nbTo_asc h a _) (nbS_asc a ls 8) fun z => ⟨fun hz => ?_, fun hz => ?_⟩
  · obtain ⟨p, hp, rfl⟩ := List.mem_map.1 hz
    obtain ⟨j, l, _, hl, tl, rfl⟩ := nbTo_mem hp
    have hb := gvB_at h hl
    have hm := (match_iff (b := acrossI l a) (gvB_ord h _ _ hl)).1 ⟨tl, rfl⟩
    have hz0 : 0 ≤ acrossI l a ∧ acrossI l a < 8 := by unfold acrossI; split <;> omega
    obtain ⟨x, hx⟩ : ∃ x : Nat, acrossI l a = x := ⟨(acrossI l a).toNat, by omega⟩
    rw [nbS_mem]
    refine ⟨x, by omega, hx, l1I_nonneg.2 ⟨j, l, hl, ?_⟩⟩
    rw [hx] at hm
    exact hm
  · obtain ⟨x, hx, rfl, hp⟩ := nbS_mem.1 hz
    obtain ⟨j, l, hl, h1, h2⟩ := l1I_nonneg.1 hp
    obtain ⟨tl, hx⟩ := (match_iff (a := a) (b := (x : Int)) (gvB_ord h _ _ hl)).2 ⟨h1, h2⟩
    exact List.mem_map.2 ⟨_, nbTo_hitMem hl tl, hx⟩
theorem nbI_eq (nn : Int) (ls : List Lk) (a : Int) : (if gvB nn ls = true then nbS a ls 8 else []) = nbI nn ls a := by
  unfold nbI
  split
  · rename_i h
    rw [nb_eq h]
  · rfl
theorem nbI_len (nn : Int) (ls : List Lk) (a : Int) : (nbI nn ls a).length ≤ 8 := by
  rw [← nbI_eq]
  split
  · exact nbS_len a ls 8
  · simp

theorem nb_both (n : Int) (ls : List Lk) (x : Int) (hm : ls.length ≤ 2000000) (hnu : n ≤ 9223372036854775807) :
    ∃ (rs : List Int), rs.length ≤ 1000 ∧
      (∀ (g c : Nat) (w : World), Sl w w.heap.size (some ⟨g, 0, none⟩) ls → Calls Try.prog 23 #[gval n (some ⟨g, 0, none⟩) ls.length c, .int .i64 x] w (NewI rs w)) ∧
      (∀ (g c : Nat) (w : World), Sl w w.heap.size (some ⟨g, 0, none⟩) ls → Calls Try.prog 22 #[gval n (some ⟨g, 0, none⟩) ls.length c, .int .i64 x] w (NewI rs w)) := by
  refine ⟨nbI n ls x, by have := nbI_len n ls x; omega, fun g c w hs => nb_impl n _ ls c x w hm hs, fun g c w hs => ?_⟩
  rw [← nbI_eq]
  exact nb_spec n _ ls c x w hm hnu hs

end Go.Proofs.Ytbogpcnjniadfaa
