/-
  Contracts over this seat: GraphLink, of the program and of the specification.
-/
import Derived.Test.YtigamnnboojiiaaIter
namespace Go.Proofs.Ytigamnnboojiiaa
open Go.RowKit Go.Shelf

attribute [local go_sem] Oper.semAt_some

theorem nb_stops (N : Nat) (hN : 2 ≤ N) (Bg Bn n₀ : Nat) (P : Nat → Prop) (A : Option Addr) (ls : List Lk) (c : Nat) (nn n : Int) (hm : ls.length ≤ 2000000)
    (w : World) (hP0 : ∀ b, b < n₀ → P b) (hPn : P Bn) (hPlt : ∀ k, P k → k < w.heap.size)
    (hg : Box w Bg 30 #[.int .i64 nn, .slice A ls.length c]) (hn : Box w Bn 3 #[.int .i64 n]) (hn₀ : n₀ ≤ w.heap.size) (hS : Sl w n₀ A ls) :
    SeqStopsK Fence.wide N Try.prog 61 #[.pointer (some ⟨Bg, 0, none⟩), .pointer (some ⟨Bn, 0, none⟩)] (fun x : Int × Nat => #[Value.int .i64 x.1, Value.int .i64 (x.2 : Int)]) (KeepB P)
      (fun ys => ys = nbTo n ls ls.length) (fun pre => ∃ k, k ≤ ls.length ∧ pre = nbTo n ls k) ls.length w := fun l J Jx W hW hJ _ hY h0 =>
  nb_iter N hN l Bg Bn n₀ P A ls c nn n hm J Jx W hJ hP0 hPn (fun k hk => Nat.lt_of_lt_of_le (hPlt k hk) hW.size) hY (hg.below hW hg.lt) (hn.below hW hn.lt) (hS.below (hW.mono hn₀)) h0

theorem neighbours_any (nn : Int) (A : Option Addr) (len c : Nat) (n : Int) (w : World) :
   Calls Try.prog 46 #[gval nn A len c, .int .i64 n] w fun e w' => e = .returned (.func (.func 61) #[] #[.pointer (some ⟨w.heap.size, 0, none⟩), .pointer (some ⟨w.heap.size + 1, 0, none⟩)]) ∧
     (w.alloc (.cells #[.int .i64 nn, .slice A len c] 30)).alloc (.cells #[.int .i64 n] 3) = w' := by
  go_enter Try.func46, Try.ntmps46
  go_wp2
  go_ret
  exact ⟨rfl, rfl⟩

/-- The link's index of the first neighbour that is b, or -1. -/
def glI (b : Int) : List (Int × Nat) → Int
  | [] => -1
  | p :: ps => if p.1 = b then (p.2 : Int) else glI b ps
theorem glI_none (b : Int) (ps : List (Int × Nat)) (h : ∀ p ∈ ps, p.1 ≠ b) : glI b ps = -1 := by
  induction ps with
  | nil => rfl
  | cons p ps ih =>
    unfold glI
    rw [if_neg (h p (by simp))]
    exact ih fun q hq => h q (by simp [hq])
theorem glI_some (b : Int) (ini : List (Int × Nat)) (last : Int × Nat) (rest : List (Int × Nat)) (h : ∀ p ∈ ini, p.1 ≠ b) (hl : last.1 = b) : glI b (ini ++ [last] ++ rest) = (last.2 : Int) := by
  induction ini with
  | nil => simp [glI, hl]
  | cons p ps ih =>
    rw [List.cons_append, List.cons_append]
    unfold glI
    rw [if_neg (h p (by simp))]
    exact ih fun q hq => h q (by simp [hq])
theorem nbTo_prefix (n : Int) (ls : List Lk) {k m : Nat} (h : k ≤ m) : ∃ rest, nbTo n ls m = nbTo n ls k ++ rest := by
  induction m with
  | zero =>
    obtain rfl : k = 0 := by omega
    exact ⟨[], by simp⟩
  | succ m ih =>
    by_cases hk : k = m + 1
    · subst hk
      exact ⟨[], by simp⟩
    · obtain ⟨r, hr⟩ := ih (by omega)
      exact ⟨_, by rw [nbTo, hr, List.append_assoc]⟩

def linkI (nn : Int) (ls : List Lk) (a b : Int) : Int := if gvB nn ls = true then glI b (nbTo a ls ls.length) else -1

set_option maxRecDepth 100000 in
set_option maxHeartbeats 2000000 in
theorem link_impl (nn : Int) (A : Option Addr) (ls : List Lk) (c : Nat) (a b : Int) (w : World) (hm : ls.length ≤ 2000000) (hS : Sl w w.heap.size A ls) :
   Calls Try.prog 34 #[gval nn A ls.length c, .int .i64 a, .int .i64 b] w fun e w' => e = .returned (.int .i64 (linkI nn ls a b)) ∧ Below w.heap.size w w' := by
  have HS := Lib.hid hS
  clear hS
  obtain ⟨N, hN⟩ : ∃ N : Nat, 5 ≤ N := ⟨5, Nat.le_refl _⟩
  cases hv : gvB nn ls with
  | true =>
    have C1 : ∀ V : World, Sl V V.heap.size A ls → CallsIn Fence.wide (N - 1) Try.prog 49 #[gval nn A ls.length c] V fun e w' => e = .returned (.bool true) ∧ Below V.heap.size V w' := fun V hV => callsIn_wide.2 (by
      have := valid_impl nn A ls c V hm hV
      rwa [hv] at this)
    have hli : linkI nn ls a b = glI b (nbTo a ls ls.length) := by unfold linkI; rw [if_pos hv]
    rw [hli]
    clear hli hv
    refine (callsIn_wide (n := N)).1 ?_
    have h1 : 1 ≤ N := by omega
    refine callsIn_of_wp_marks Try.func34 rfl trivial ?_ rfl
    simp only [Try.ntmps34, List.size_toArray, List.length_cons, List.length_nil, Nat.reduceAdd, Nat.reduceSub, Array.replicate_succ, Array.replicate_zero, List.push_toArray, List.append_toArray, List.nil_append, List.cons_append]
    gi_wp2_with fail
    refine ⟨trivial, ?_⟩
    refine (C1 _ ((HS.out.below (by (repeat (first | exact Below.refl _ _ | (refine Below.alloc ?_ (by first | exact Nat.le_refl _ | omega | (simp; done) | (simp; omega)) _) | (refine Below.setCell ?_ (by first | exact Nat.le_refl _ | omega | (simp; done) | (simp; omega)) _) | exact Below.drew ‹_›)))).more (by simp; omega))).mono ?_
    rintro e w1 ⟨rfl, hb1⟩
    have K1 := Lib.hid (Box.below (((Box.new w 30 #[.int .i64 nn, .slice A ls.length c]).alloc (.cells #[.int .i64 b] 3)).alloc (.cells #[.int .i64 0] 3)) hb1 (by simp; omega))
    have L1 := Box.below ((Box.new (w.alloc (.cells #[.int .i64 nn, .slice A ls.length c] 30)) 3 #[.int .i64 b]).alloc (.cells #[.int .i64 0] 3)) hb1 (by simp)
    have M1 := Box.below (Box.new ((w.alloc (.cells #[.int .i64 nn, .slice A ls.length c] 30)).alloc (.cells #[.int .i64 b] 3)) 3 #[.int .i64 0]) hb1 (by simp)
    simp only [World.size_alloc] at L1 M1
    have B1 := Lib.hid (Below.trans (B := w.heap.size) (a := w) (by (repeat (first | exact Below.refl _ _ | (refine Below.alloc ?_ (by first | exact Nat.le_refl _ | omega | (simp; done) | (simp; omega)) _) | (refine Below.setCell ?_ (by first | exact Nat.le_refl _ | omega | (simp; done) | (simp; omega)) _) | exact Below.drew ‹_›))) (hb1.mono (by simp; omega)))
    have S1 := Lib.hid ((HS.out.below B1.out).more (Nat.le_of_lt K1.out.lt))
    have LL := Lib.hid L1
    have MM := Lib.hid M1
    have z1 := M1.lt
    have e10 := K1.out.cell 0
    have e11 := K1.out.cell 1
    clear hb1 L1 M1
    gi_wp2_with fail
    refine ⟨trivial, ?_⟩
    refine (callsIn_wide.2 (neighbours_any nn A ls.length c a w1)).mono ?_
    rintro e w2 ⟨rfl, rfl⟩
    gi_wp2_with fail
    have hG := (Box.new w1 30 #[.int .i64 nn, .slice A ls.length c]).alloc (.cells #[.int .i64 a] 3)
    have hNn := Box.new (w1.alloc (.cells #[.int .i64 nn, .slice A ls.length c] 30)) 3 #[.int .i64 a]
    rw [World.size_alloc] at hNn
    have hB2 : Below w1.heap.size w1 ((w1.alloc (.cells #[.int .i64 nn, .slice A ls.length c] 30)).alloc (.cells #[.int .i64 a] 3)) := by (repeat (first | exact Below.refl _ _ | (refine Below.alloc ?_ (by first | exact Nat.le_refl _ | omega | (simp; done) | (simp; omega)) _) | (refine Below.setCell ?_ (by first | exact Nat.le_refl _ | omega | (simp; done) | (simp; omega)) _) | exact Below.drew ‹_›))
    have L2 := LL.out.below hB2 LL.out.lt
    have M2 := MM.out.below hB2 MM.out.lt
    have S2 := S1.out.below hB2
    have D2 := B1.out.trans (hB2.mono (Nat.le_of_lt K1.out.lt))
    clear e10 e11
    refine wpIn_rangeFunc_ownG rfl h1 (gf := 61) (lb := #[.pointer (some ⟨w1.heap.size, 0, none⟩), .pointer (some ⟨w1.heap.size + 1, 0, none⟩)]) rfl trivial (enters_of Try.func61 (by kernel_rfl) rfl)
      (nb_stops (N - 1) (by omega) w1.heap.size (w1.heap.size + 1) w1.heap.size (fun k => k < w1.heap.size + 2) A ls c nn a hm _ (fun b h => by omega) (by omega) (fun k h => by simpa using h) hG hNn (by simp; omega) S2)
      (fun h k => h.trans k) (fun W l o o' hl h _ _ => KeepB.put (fun k h => by simpa using h) W l o o' hl h) (Below.refl _ _) (fun _ => rfl)
      (fun pre W => ((∀ p ∈ pre, p.1 ≠ b) ∧ W.cell? ⟨w.heap.size + 1, 0, none⟩ = some (.int .i64 b) ∧ W.cell? ⟨w.heap.size + 1 + 1, 0, none⟩ = some (.int .i64 0) ∧ W.frozen? ⟨w.heap.size + 1 + 1, 0, none⟩ = false) ∧ Below w.heap.size w W)
      (fun c pre W => (c = .ret ∧ ∃ ini last, pre = ini ++ [last] ∧ (∀ p ∈ ini, p.1 ≠ b) ∧ last.1 = b ∧ W.cell? ⟨w.heap.size + 1 + 1, 0, none⟩ = some (.int .i64 (last.2 : Int))) ∧ Below w.heap.size w W)
      (OwnFrom.and (Own.from (fun s A B row hs hg hr => ⟨hs.1, cell_kept hs.2.1 hg hr, cell_kept hs.2.2.1 hg hr, (frozen_kept hs.2.2.1 hg hr).trans hs.2.2.2⟩) _) (ownFrom_below (Nat.le_refl _) (by simp; omega)))
      (fun c => OwnFrom.and (Own.from (fun s A B row hs hg hr => by obtain ⟨hc, ini, last, e1, e2, e3, e4⟩ := hs; exact ⟨hc, ini, last, e1, e2, e3, cell_kept e4 hg hr⟩) _) (ownFrom_below (Nat.le_refl _) (by simp; omega)))
      ⟨⟨by simp, L2.cell 0, M2.cell 0, M2.frozen 0⟩, D2⟩
      (fun x => { tmps := #[gval nn A ls.length c, .int .i64 a, .int .i64 b, .pointer (some ⟨w.heap.size, 0, none⟩), undef, .pointer (some ⟨w.heap.size + 1, 0, none⟩), .pointer (some ⟨w.heap.size + 1 + 1, 0, none⟩), .int .i64 x.1, .int .i64 (x.2 : Int),
        .agg #[.int .i64 nn, .slice A ls.length c], .bool true, .bool false, .agg #[.int .i64 nn, .slice A ls.length c], .int .i64 a, .func (.func 61) #[] #[.pointer (some ⟨w1.heap.size, 0, none⟩), .pointer (some ⟨w1.heap.size + 1, 0, none⟩)], .int .i64 x.1, .int .i64 (x.2 : Int), undef, undef, undef, undef], defers := [] }) ?assign ?body ?done ?stop
    case assign =>
      intro l x W K hK
      gi_wp2
      exact hK
    case body =>
      rintro l pre x W ⟨⟨hp, hcb, hcr, hfr⟩, hB⟩ _
      by_cases hx : x.1 = b
      · have hx' : (x.1 == b) = true := by simpa using hx
        have HX := Lib.hid hx
        clear hx
        gi_wp2
        exact ⟨(KeepsOthers.setCell _ _ _).from _, ⟨rfl, pre, x, rfl, hp, HX.out, World.cell?_setCell_same' _ _ _ (by rw [hcr]; rfl)⟩, hB.setCell (by simp; omega) _⟩
      · have hx' : (x.1 == b) = false := by simpa using hx
        have HX := Lib.hid hx
        clear hx
        gi_wp2
        exact ⟨KeepsFrom.refl _ _, KeepB.refl _ _, ⟨fun p hp' => (List.mem_append.1 hp').elim (hp p) (fun e => by simp at e; subst e; exact HX.out), hcb, hcr, hfr⟩, hB⟩
    case done =>
      rintro D ys W hD rfl ⟨⟨hne, hcb, hcr, hfr⟩, hB⟩ hK
      gi_wp2
      have hK' := (KeepsOthers.setCell W ⟨w.heap.size + 1 + 1, 0, none⟩ (.int .i64 (-1))).same D _ hK rfl
      refine ⟨by simp, .inl ⟨_, _, rfl, run_takeDeferred hK', ?_⟩⟩
      have hc5 := cell_kept (World.cell?_setCell_same' W ⟨w.heap.size + 1 + 1, 0, none⟩ (.int .i64 (-1)) (by rw [hcr]; rfl)) (grownBy_putObj' _ D (.deferred none)) (fun r e => by cases e; exact ⟨_, hK', rfl⟩)
      refine ⟨.int .i64 (-1), ?_, by rw [glI_none b _ hne], (hB.setCell (p := ⟨w.heap.size + 1 + 1, 0, none⟩) (by simp; omega) _).trans (belowK_b (w := w) (Nat.le_refl _) _ D _ _ (by simp at hD; omega) hK' rfl rfl)⟩
      simp [results, Try.f34, go_sem, hc5]
    case stop =>
      rintro D c pre W hD ⟨k, hk, rfl⟩ ⟨⟨rfl, ini, last, e1, e2, e3, hcr⟩, hB⟩ hK
      gi_wp2
      refine ⟨by simp, .inl ⟨_, _, rfl, run_takeDeferred hK, ?_⟩⟩
      have hc5 := cell_kept hcr (grownBy_putObj' _ D (.deferred none)) (fun r e => by cases e; exact ⟨_, hK, rfl⟩)
      obtain ⟨rest, hrest⟩ := nbTo_prefix a ls hk
      refine ⟨.int .i64 (last.2 : Int), ?_, by rw [hrest, e1, glI_some b ini last rest e2 e3], hB.trans (belowK_b (w := w) (Nat.le_refl _) W D _ _ (by simp at hD; omega) hK rfl rfl)⟩
      simp [results, Try.f34, go_sem, hc5]
  | false =>
    have hli : linkI nn ls a b = -1 := by unfold linkI; rw [if_neg (by rw [hv]; exact Bool.false_ne_true)]
    rw [hli]
    have C1 : ∀ V : World, Sl V V.heap.size A ls → Calls Try.prog 49 #[gval nn A ls.length c] V fun e w' => e = .returned (.bool false) ∧ Below V.heap.size V w' := fun V hV => by
      have := valid_impl nn A ls c V hm hV
      rwa [hv] at this
    have hM := Box.new ((w.alloc (.cells #[.int .i64 nn, .slice A ls.length c] 30)).alloc (.cells #[.int .i64 b] 3)) 3 #[.int .i64 0]
    simp only [World.size_alloc] at hM
    have HM := Lib.hid hM
    clear hli hv hM
    go_enter Try.func34, Try.ntmps34
    go_wp2_with (go_at_call 49; refine (C1 _ ((HS.out.below (by (repeat (first | exact Below.refl _ _ | (refine Below.alloc ?_ (by first | exact Nat.le_refl _ | omega | (simp; done) | (simp; omega)) _) | (refine Below.setCell ?_ (by first | exact Nat.le_refl _ | omega | (simp; done) | (simp; omega)) _) | exact Below.drew ‹_›)))).more (by simp; omega))).mono ?_; rintro e w1 ⟨rfl, hb1⟩; have M1 := HM.out.below hb1 (by simp); have B1 := Lib.hid (Below.trans (B := w.heap.size) (a := w) (by (repeat (first | exact Below.refl _ _ | (refine Below.alloc ?_ (by first | exact Nat.le_refl _ | omega | (simp; done) | (simp; omega)) _) | (refine Below.setCell ?_ (by first | exact Nat.le_refl _ | omega | (simp; done) | (simp; omega)) _) | exact Below.drew ‹_›))) (hb1.mono (by simp; omega))); clear hb1; have f10 := M1.cell 0; have q10 := M1.frozen 0)
    have hc5 := World.cell?_setCell_same' w1 ⟨w.heap.size + 1 + 1, 0, none⟩ (.int .i64 (-1)) (by rw [f10]; rfl)
    exact bodyPost_ret (v := .int .i64 (-1)) (by simp [results, Try.f34, go_sem, hc5]) rfl ⟨rfl, B1.out.setCell (by simp; omega) _⟩

/-! ### The specification's -/
/-- The first link between mn and mx, or -1. -/
def l1I (mn mx : Int) (ls : List Lk) : Int := match ls.findIdx? (fun l => decide (l.a = mn) && decide (l.b = mx)) with
  | some k => (k : Int)
  | none => -1
theorem l1I_none {mn mx : Int} {ls : List Lk} (h : ∀ (j : Nat) (l : Lk), ls[j]? = some l → ¬ (l.a = mn ∧ l.b = mx)) : l1I mn mx ls = -1 := by
  unfold l1I
  rw [List.findIdx?_eq_none_iff.2]
  intro l hl
  obtain ⟨j, hj⟩ := List.getElem?_of_mem hl
  simpa using h j l hj
theorem l1I_some {mn mx : Int} {ls : List Lk} {k : Nat} {l : Lk} (hk : ls[k]? = some l) (ha : l.a = mn) (hb : l.b = mx) (h : ∀ (j : Nat) (l : Lk), j < k → ls[j]? = some l → ¬ (l.a = mn ∧ l.b = mx)) : l1I mn mx ls = (k : Int) := by
  unfold l1I
  have hlt := (List.getElem?_eq_some_iff.1 hk).1
  have he := (List.getElem?_eq_some_iff.1 hk).2
  rw [show ls.findIdx? (fun l => decide (l.a = mn) && decide (l.b = mx)) = some k from ?_]
  rw [List.findIdx?_eq_some_iff_getElem]
  refine ⟨hlt, by rw [he]; simp [ha, hb], fun j hj => ?_⟩
  have := h j ls[j] hj (List.getElem?_eq_getElem (by omega))
  simpa using this

theorem l1_next {mn mx : Int} {ls : List Lk} {k : Nat} {lk : Lk} (h : ∀ (j : Nat) (l : Lk), j < k → ls[j]? = some l → ¬ (l.a = mn ∧ l.b = mx)) (hk : ls[k]? = some lk) (hno : ¬ (lk.a = mn ∧ lk.b = mx)) :
    ∀ (j : Nat) (l : Lk), j < k + 1 → ls[j]? = some l → ¬ (l.a = mn ∧ l.b = mx) := by
  intro j l hj hl
  by_cases hjk : j < k
  · exact h j l hjk hl
  · obtain rfl : j = k := by omega
    rw [hk] at hl
    cases hl
    exact hno



/-! ### Both are one -/
theorem gvB_ord {nn : Int} {ls : List Lk} (h : gvB nn ls = true) : ∀ (j : Nat) (l : Lk), ls[j]? = some l → l.a < l.b := by
  intro j l hj
  unfold gvB at h
  simp only [Bool.and_eq_true, List.all_eq_true] at h
  have := h.2 j (by have := (List.getElem?_eq_some_iff.1 hj).1; simpa using this)
  unfold okAt at this
  rw [hj] at this
  simp only [Bool.and_eq_true] at this
  have h2 := this.1
  unfold allowsB at h2
  simp at h2
  exact h2.1.2
theorem nbTo_mem {n : Int} {ls : List Lk} {k : Nat} {p : Int × Nat} (h : p ∈ nbTo n ls k) : ∃ j l, j < k ∧ ls[j]? = some l ∧ touchB l n = true ∧ p = (acrossI l n, j) := by
  induction k with
  | zero => simp [nbTo] at h
  | succ k ih =>
    simp only [nbTo, List.mem_append] at h
    rcases h with h | h
    · obtain ⟨j, l, hj, r⟩ := ih h
      exact ⟨j, l, by omega, r⟩
    · split at h
      · rename_i l hl
        split at h
        · rename_i ht
          exact ⟨k, l, by omega, hl, ht, by simpa using h⟩
        · simp at h
      · simp at h
theorem match_iff {l : Lk} {a b : Int} (h : l.a < l.b) : (touchB l a = true ∧ acrossI l a = b) ↔ (l.a = min a b ∧ l.b = max a b) := by
  unfold touchB acrossI
  simp
  split <;> omega
theorem link_eq {nn : Int} {ls : List Lk} (h : gvB nn ls = true) (a b : Int) : glI b (nbTo a ls ls.length) = l1I (min a b) (max a b) ls := by
  have ho := gvB_ord h
  cases hf : ls.findIdx? (fun l => decide (l.a = min a b) && decide (l.b = max a b)) with
  | none =>
    have hn : ∀ (j : Nat) (l : Lk), ls[j]? = some l → ¬ (l.a = min a b ∧ l.b = max a b) := fun j l hj => by
      have := List.findIdx?_eq_none_iff.1 hf l (List.mem_of_getElem? hj)
      simpa using this
    rw [l1I_none hn, glI_none]
    intro p hp e
    obtain ⟨j, l, _, hl, ht, rfl⟩ := nbTo_mem hp
    exact hn j l hl ((match_iff (ho j l hl)).1 ⟨ht, e⟩)
  | some k =>
    obtain ⟨hk, hk1, hk2⟩ := List.findIdx?_eq_some_iff_getElem.1 hf
    have hl : ls[k]? = some ls[k] := List.getElem?_eq_getElem hk
    have hmt : ls[k].a = min a b ∧ ls[k].b = max a b := by simpa using hk1
    have hno : ∀ (j : Nat) (l : Lk), j < k → ls[j]? = some l → ¬ (l.a = min a b ∧ l.b = max a b) := fun j l hj he => by
      have := hk2 j hj
      have e := (List.getElem?_eq_some_iff.1 he).2
      rw [e] at this
      simpa using this
    rw [l1I_some hl hmt.1 hmt.2 hno]
    obtain ⟨ht, hx⟩ := (match_iff (ho k _ hl)).2 hmt
    obtain ⟨rest, hr⟩ := nbTo_prefix a ls (show k + 1 ≤ ls.length by omega)
    rw [hr, nbTo_hit hl ht, hx]
    refine glI_some b _ _ rest (fun p hp e => ?_) rfl
    obtain ⟨j, l, hj, he, ht', rfl⟩ := nbTo_mem hp
    exact hno j l hj he ((match_iff (ho j l he)).1 ⟨ht', e⟩)
theorem linkI_eq (nn : Int) (ls : List Lk) (a b : Int) : (if gvB nn ls = true then l1I (min a b) (max a b) ls else -1) = linkI nn ls a b := by
  unfold linkI
  split
  · rename_i h
    rw [link_eq h]
  · rfl

end Go.Proofs.Ytigamnnboojiiaa
