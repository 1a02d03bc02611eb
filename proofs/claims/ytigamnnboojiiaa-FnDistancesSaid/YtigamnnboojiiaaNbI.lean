/-
  Contracts over this seat: the program's GraphNeighbours.
-/
import Derived.Test.YtigamnnboojiiaaLink
import Derived.Maps.OwnIn
namespace Go.Proofs.Ytigamnnboojiiaa
open Go.RowKit Go.Shelf Go.Maps

attribute [local go_sem] Oper.semAt_some

theorem infoInt : (Try.prog.info? 3).map (fun i => (i.zero, i.size, i.bytes)) = some (some (.int .i64 0), 1, 8) := by kernel_rfl

/-- The neighbours, as they come. -/
def nbI (nn : Int) (ls : List Lk) (n : Int) : List Int := if gvB nn ls = true then (nbTo n ls ls.length).map (·.1) else []

/-- A slice of numbers in memory of its own. -/
def NewI (xs : List Int) (w : World) (e : Ending) (w' : World) : Prop :=
  ∃ A g c, e = .returned (.slice A xs.length c) ∧ w.heap.size ≤ g ∧ Own1i w' A g xs ∧ Below w.heap.size w w'

theorem own_slicei {w : World} {base n : Nat} {v : Value} {xs : List Int} (h : w.ownsRow base 3 1 v n (xs.map (Value.int .i64))) (hb : base ≤ w.heap.size) :
    ∃ A g c, v = .slice A xs.length c ∧ base ≤ g ∧ n = xs.length ∧ Own1i w A g xs := by
  have hn : n = xs.length := by have := h.1; simp at this; omega
  subst hn
  rcases h.2 with ⟨rfl, h0⟩ | ⟨g, cap, cur, rfl, hbg, hh, hn, _, hs, ht⟩
  · exact ⟨none, w.heap.size, 0, by rw [h0], hb, rfl, fun hp => by omega⟩
  · refine ⟨_, g, cap, rfl, hbg, rfl, fun _ => ⟨rfl, cur, hh, fun k x hk => ?_⟩⟩
    have hkl : k < xs.length := (List.getElem?_eq_some_iff.1 hk).1
    have h1 : (xs.map (Value.int .i64))[k]? = some (.int .i64 x) := by rw [List.getElem?_map, hk]; rfl
    rw [← ht, List.getElem?_take_of_lt (by omega), Array.getElem?_toList] at h1
    exact h1

set_option maxRecDepth 100000 in
set_option maxHeartbeats 2000000 in
theorem nb_impl (nn : Int) (A : Option Addr) (ls : List Lk) (c : Nat) (a : Int) (w : World) (hm : ls.length ≤ 2000000) (hS : Sl w w.heap.size A ls) :
   Calls Try.prog 26 #[gval nn A ls.length c, .int .i64 a] w (NewI (nbI nn ls a) w) := by
  obtain ⟨i0, hi, hz0, hz1, hz2⟩ := info_parts infoInt
  have HS := Lib.hid hS
  clear hS
  obtain ⟨N, hN⟩ : ∃ N : Nat, 5 ≤ N := ⟨5, Nat.le_refl _⟩
  cases hv : gvB nn ls with
  | true =>
    have C1 : ∀ V : World, Sl V V.heap.size A ls → CallsIn Fence.wide (N - 1) Try.prog 49 #[gval nn A ls.length c] V fun e w' => e = .returned (.bool true) ∧ Below V.heap.size V w' := fun V hV => callsIn_wide.2 (by
      have := valid_impl nn A ls c V hm hV
      rwa [hv] at this)
    have hli : nbI nn ls a = (nbTo a ls ls.length).map (·.1) := by unfold nbI; rw [if_pos hv]
    rw [hli]
    clear hli hv
    refine (callsIn_wide (n := N)).1 ?_
    have h1 : 1 ≤ N := by omega
    refine callsIn_of_wp_marks Try.func26 rfl trivial ?_ rfl
    simp only [Try.ntmps26, List.size_toArray, List.length_cons, List.length_nil, Nat.reduceAdd, Nat.reduceSub, Array.replicate_succ, Array.replicate_zero, List.push_toArray, List.append_toArray, List.nil_append, List.cons_append]
    gi_wp2_with fail
    refine ⟨trivial, ?_⟩
    refine (C1 _ ((HS.out.below (by (repeat (first | exact Below.refl _ _ | (refine Below.alloc ?_ (by first | exact Nat.le_refl _ | omega | (simp; done) | (simp; omega)) _) | (refine Below.setCell ?_ (by first | exact Nat.le_refl _ | omega | (simp; done) | (simp; omega)) _) | exact Below.drew ‹_›)))).more (by simp; omega))).mono ?_
    rintro e w1 ⟨rfl, hb1⟩
    have K1 := Lib.hid (Box.below (((Box.new w 30 #[.int .i64 nn, .slice A ls.length c]).alloc (.cells #[] 3)).alloc (.cells #[.slice (some ⟨w.heap.size + 1, 0, none⟩) 0 0] 26)) hb1 (by simp; omega))
    have L1 := Box.below ((Box.new (w.alloc (.cells #[.int .i64 nn, .slice A ls.length c] 30)) 3 #[]).alloc (.cells #[.slice (some ⟨w.heap.size + 1, 0, none⟩) 0 0] 26)) hb1 (by simp)
    have M1 := Box.below (Box.new ((w.alloc (.cells #[.int .i64 nn, .slice A ls.length c] 30)).alloc (.cells #[] 3)) 26 #[.slice (some ⟨w.heap.size + 1, 0, none⟩) 0 0]) hb1 (by simp)
    simp only [World.size_alloc] at L1 M1
    have B1 := Lib.hid (Below.trans (B := w.heap.size) (a := w) (by (repeat (first | exact Below.refl _ _ | (refine Below.alloc ?_ (by first | exact Nat.le_refl _ | omega | (simp; done) | (simp; omega)) _) | (refine Below.setCell ?_ (by first | exact Nat.le_refl _ | omega | (simp; done) | (simp; omega)) _) | exact Below.drew ‹_›))) (hb1.mono (by simp; omega)))
    have S1 := Lib.hid (HS.out.below B1.out)
    have LL := Lib.hid L1
    have MM := Lib.hid M1
    have z1 := M1.lt
    have e10 := K1.out.cell 0
    have e11 := K1.out.cell 1
    clear hb1 L1 M1
    gi_wp2_with fail
    refine ⟨trivial, ?_⟩
    refine (callsIn_wide.2 (neighbours_any nn A ls.length c a w1)).mono ?_
    rintro e w2 ⟨rfl, rfl⟩
    gi_wp2_with fail
    have hG := (Box.new w1 30 #[.int .i64 nn, .slice A ls.length c]).alloc (.cells #[.int .i64 a] 3)
    have hNn := Box.new (w1.alloc (.cells #[.int .i64 nn, .slice A ls.length c] 30)) 3 #[.int .i64 a]
    rw [World.size_alloc] at hNn
    have hB2 : Below w1.heap.size w1 ((w1.alloc (.cells #[.int .i64 nn, .slice A ls.length c] 30)).alloc (.cells #[.int .i64 a] 3)) := by (repeat (first | exact Below.refl _ _ | (refine Below.alloc ?_ (by first | exact Nat.le_refl _ | omega | (simp; done) | (simp; omega)) _) | (refine Below.setCell ?_ (by first | exact Nat.le_refl _ | omega | (simp; done) | (simp; omega)) _) | exact Below.drew ‹_›))
    have L2 := LL.out.below hB2 LL.out.lt
    have M2 := MM.out.below hB2 MM.out.lt
    have S2 := S1.out.below (hB2.mono (Nat.le_of_lt K1.out.lt))
    have D2 := B1.out.trans (hB2.mono (Nat.le_of_lt K1.out.lt))
    have hs2 : ((w1.alloc (.cells #[.int .i64 nn, .slice A ls.length c] 30)).alloc (.cells #[.int .i64 a] 3)).heap.size = w1.heap.size + 1 + 1 := by simp
    clear e10 e11
    generalize (w1.alloc (.cells #[.int .i64 nn, .slice A ls.length c] 30)).alloc (.cells #[.int .i64 a] 3) = W2 at *
    have HS2 := Lib.hid hs2
    clear hs2
    have R2 : W2.ownsRow w.heap.size 3 1 (.slice (some ⟨w.heap.size + 1, 0, none⟩) 0 0) 0 [] := ⟨by simp, .inr ⟨w.heap.size + 1, 0, #[], rfl, by omega, L2, Nat.le_refl _, by omega, rfl, by simp⟩⟩
    refine wpIn_rangeFunc_ownG rfl h1 (gf := 61) (lb := #[.pointer (some ⟨w1.heap.size, 0, none⟩), .pointer (some ⟨w1.heap.size + 1, 0, none⟩)]) rfl trivial (enters_of Try.func61 (by kernel_rfl) rfl)
      (nb_stops (N - 1) (by omega) w1.heap.size (w1.heap.size + 1) w.heap.size (fun k => k < w.heap.size ∨ k = w1.heap.size + 1) A ls c nn a hm _ (fun b h => .inl h) (.inr rfl) (fun k h => by have := HS2.out; omega) hG hNn (by have := HS2.out; omega) S2)
      (fun h k => h.trans k) (fun W l o o' hl h _ _ => KeepB.put (fun k h => by have := HS2.out; omega) W l o o' hl h) (Below.refl _ _) (fun _ => rfl)
      (fun pre W => (∃ v, Boxed W (w.heap.size + 1 + 1) 26 v ∧ W.ownsRow w.heap.size 3 1 v pre.length ((pre.map (·.1)).map (Value.int .i64)) ∧ (∀ g, v.ownBlock = some g → g = w.heap.size + 1 ∨ w1.heap.size + 2 ≤ g)) ∧ Below w.heap.size W2 W)
      (fun _ _ _ => False)
      (OwnFrom.and (Own.from (holdsRow_own w.heap.size (w.heap.size + 1 + 1) 26 3 1 (fun pre : List (Int × Nat) => pre.length) (fun pre => (pre.map (·.1)).map (Value.int .i64)) (fun _ v => ∀ g, v.ownBlock = some g → g = w.heap.size + 1 ∨ w1.heap.size + 2 ≤ g)) _) (ownFrom_below (by have := HS2.out; omega) (by have := HS2.out; omega)))
      (fun _ _ _ _ _ hs _ _ => hs)
      ⟨⟨_, M2, R2, fun g e => by simp [Value.ownBlock] at e; omega⟩, Below.refl _ _⟩
      (fun x => { tmps := #[gval nn A ls.length c, .int .i64 a, .pointer (some ⟨w.heap.size, 0, none⟩), undef, .slice none 0 0, .pointer (some ⟨w.heap.size + 1 + 1, 0, none⟩), .int .i64 x.1, .slice (some ⟨w.heap.size + 1, 0, none⟩) 0 0,
        .agg #[.int .i64 nn, .slice A ls.length c], .bool true, .bool false, undef, .agg #[.int .i64 nn, .slice A ls.length c], .int .i64 a, .func (.func 61) #[] #[.pointer (some ⟨w1.heap.size, 0, none⟩), .pointer (some ⟨w1.heap.size + 1, 0, none⟩)], .int .i64 x.1, .int .i64 (x.2 : Int), undef, undef, undef, undef, undef], defers := [] }) ?assign ?body ?done ?stop
    case assign =>
      intro l x W K hK
      gi_wp2
      exact hK
    case body =>
      rintro l pre x W ⟨⟨v, hv, hrow, hgg⟩, hB⟩ hlt
      have hc := hv.cell
      have hWs : w1.heap.size + 1 + 1 ≤ W.heap.size := by have := hB.size; have := HS2.out; omega
      have hlt' : pre.length ≤ 2000000 := by omega
      gi_wp2_with (gi_at_builtin; refine wpListIn_append_own_at _ rfl _ _ 26 rfl w.heap.size 3 i0 (.int .i64 0) 1 8 Try.underlying26 hi hz0 hz1 hz2 rfl (by decide) _ _ _ rfl (hrow.alloc _) ⟨W.heap.size, 0, none⟩ 1 1 [.int .i64 x.1] rfl rfl (cell_one_new _ _ _) (by simp [Value.oneCell']) (by unfold maxLen; omega) (by omega) (by simp; omega) ?_; intro v' w3 hown' hgrow _ hat; obtain ⟨g', cap', rfl⟩ := ownsRow_succ hown'; obtain ⟨hv1, hv2, hr2, hk2, hb2⟩ := hv.appended (by decide) hrow (by omega) (by omega) hown' hgrow; have hc1 := hv1.cell; have hf1 := hv1.frozen)
      refine ⟨hk2.from _, ⟨by have := hb2.size; simpa using this, fun k hk => ?_⟩, ⟨_, hv2, by simpa using hr2, fun g e => ?_⟩, hB.trans hb2⟩
      · refine (Below.heap_setCell w3 ⟨w.heap.size + 1 + 1, 0, none⟩ _ k (by dsimp only; omega)).trans ((hgrow.block k (by simp; omega) (fun e => ?_)).trans (Below.heap_alloc W _ k (by omega)))
        rcases hgg k e.symm with h | h <;> omega
      · simp [Value.ownBlock] at e
        subst e
        rcases hat with h | h
        · exact hgg g' (h.symm.trans rfl)
        · right
          simp [Value.ownBlock] at h
          omega
    case done =>
      rintro D ys W hD rfl ⟨⟨v, hv, hrow, hgg⟩, hB⟩ hK
      have hc := hv.cell
      gi_wp2
      refine ⟨by simp, .inl ⟨_, _, rfl, run_takeDeferred hK, ?_⟩⟩
      have hr := ownsRow_putObj hrow (.deferred none) hK rfl
      have hD2 := HS2.out
      have hBB := (D2.trans hB).trans (belowK_b (w := w) (Nat.le_refl _) W D _ (.deferred none) (by omega) hK rfl rfl)
      obtain ⟨A', g', c', rfl, hg', _, ho⟩ := own_slicei hr hBB.size
      exact ⟨_, results_tmp rfl _ _ _, A', g', c', by simp, hg', ho, hBB⟩
    case stop =>
      rintro D c pre W _ _ h _
      exact h.elim
  | false =>
    have hli : nbI nn ls a = [] := by unfold nbI; rw [if_neg (by rw [hv]; exact Bool.false_ne_true)]
    rw [hli]
    have C1 : ∀ V : World, Sl V V.heap.size A ls → Calls Try.prog 49 #[gval nn A ls.length c] V fun e w' => e = .returned (.bool false) ∧ Below V.heap.size V w' := fun V hV => by
      have := valid_impl nn A ls c V hm hV
      rwa [hv] at this
    have hM := Box.new ((w.alloc (.cells #[.int .i64 nn, .slice A ls.length c] 30)).alloc (.cells #[] 3)) 26 #[.slice (some ⟨w.heap.size + 1, 0, none⟩) 0 0]
    simp only [World.size_alloc] at hM
    have HM := Lib.hid hM
    clear hli hv hM
    go_enter Try.func26, Try.ntmps26
    go_wp2_with (go_at_call 49; refine (C1 _ ((HS.out.below (by (repeat (first | exact Below.refl _ _ | (refine Below.alloc ?_ (by first | exact Nat.le_refl _ | omega | (simp; done) | (simp; omega)) _) | (refine Below.setCell ?_ (by first | exact Nat.le_refl _ | omega | (simp; done) | (simp; omega)) _) | exact Below.drew ‹_›)))).more (by simp; omega))).mono ?_; rintro e w1 ⟨rfl, hb1⟩; have M1 := HM.out.below hb1 (by simp); have B1 := Lib.hid (Below.trans (B := w.heap.size) (a := w) (by (repeat (first | exact Below.refl _ _ | (refine Below.alloc ?_ (by first | exact Nat.le_refl _ | omega | (simp; done) | (simp; omega)) _) | (refine Below.setCell ?_ (by first | exact Nat.le_refl _ | omega | (simp; done) | (simp; omega)) _) | exact Below.drew ‹_›))) (hb1.mono (by simp; omega))); clear hb1; have f10 := M1.cell 0; have q10 := M1.frozen 0)
    go_ret
    exact ⟨_, w.heap.size + 1, _, rfl, by omega, fun h => absurd h (by simp), B1.out⟩

end Go.Proofs.Ytigamnnboojiiaa
