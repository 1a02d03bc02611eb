/-
  Contracts over this seat: slices.Insert of one route.
-/
import Derived.Test.YtohflcbpjjnccabTff
namespace Go.Proofs.Ytohflcbpjjnccab
open Go.RowKit Go.Maps

theorem box3_cells {w : World} {b t : Nat} {v0 v1 v2 : Value} (h : Box w b t #[v0, v1, v2]) : ∀ j u, [v0, v1, v2][j]? = some u → w.cell? ((⟨b, 0, none⟩ : Addr).add j) = some u := by
  obtain ⟨_, h0, h1, h2, _⟩ := h.trip
  intro j u hu
  match j, hu with
  | 0, hu => cases hu; exact h0
  | 1, hu => cases hu; exact h1
  | 2, hu => cases hu; exact h2
  | j + 3, hu => simp at hu
theorem insInfo : (Try.prog.info? 38).map (fun i => (i.zero, i.size, i.bytes)) = some (some (.agg #[.int .i64 0, .int .i64 0, .int .i64 0]), 3, 24) := infoRoute

set_option maxRecDepth 100000 in
set_option maxHeartbeats 1600000 in
theorem ins_end (base g c vb n : Nat) (us : List Lk) (r : Lk) (w : World) (hn : us.length = n) (hn9 : n ≤ 1000) (hrow : w.ownsRow base 38 3 (.slice (some ⟨g, 0, none⟩) n c) n (flat us)) (hb : base ≤ w.heap.size) (hv : Box w vb 38 #[.int .i64 r.a, .int .i64 r.b, .int .i64 r.c]) :
   Calls Try.prog 51 #[.slice (some ⟨g, 0, none⟩) n c, .int .i64 (n : Int), .slice (some ⟨vb, 0, none⟩) 1 1] w (InsRes (us ++ [r]) g base w) := by
  obtain ⟨i0, hi, hz0, hz1, hz2⟩ := info_parts infoRoute
  have hcells := box3_cells hv
  have HN := Lib.hid hn
  have HROW := Lib.hid hrow
  have HV := Lib.hid hcells
  have HH := Lib.hid hb
  have hnc : n ≤ c := by
    rcases hrow.2 with ⟨e, _⟩ | ⟨g', cap, cur, e, _, _, hle, _⟩
    · simp at e
    · simp only [Value.slice.injEq, Option.some.injEq, Addr.mk.injEq, and_true, true_and] at e
      omega
  clear hn hrow hcells hv hb
  by_cases hc : c = n
  · have hc1 : c ≤ n ∧ n ≤ c := by omega
    go_enter Try.func51, Try.ntmps51
    go_wp2_with (at_builtin; refine wpList_append_own _ rfl _ _ 28 rfl base 38 i0 _ 3 24 Try.underlying28 hi hz0 hz1 hz2 rfl (by decide) _ n (flat us) rfl HROW.out ⟨vb, 0, none⟩ 1 1 [.int .i64 r.a, .int .i64 r.b, .int .i64 r.c] rfl rfl HV.out (one3 _ _ _) (by unfold maxLen; omega) (by omega) HH.out ?_; intro v' w9 hown hgrow hnil)
    have hown2 : w9.ownsRow base 38 3 v' (n + 1) (flat (us ++ [r])) := by rw [flat_app]; exact hown
    obtain ⟨g', c', rfl, hg', hnn, ar, hc'⟩ := own_routes hown2 (fun e => by have := (hnil.1 e).1; cases this)
    rw [hnn] at hown2
    go_ret
    exact ⟨g', c', by rw [← hnn]; rfl, hg', ar, own_room hown2, hc', (Kx.refl _ _).grown hgrow (fun _ => rfl)⟩
  · go_enter Try.func51, Try.ntmps51
    go_wp2_with (at_builtin; refine wpList_append_own _ rfl _ _ 28 rfl base 38 i0 _ 3 24 Try.underlying28 hi hz0 hz1 hz2 rfl (by decide) _ n (flat us) rfl HROW.out ⟨vb, 0, none⟩ 1 1 [.int .i64 r.a, .int .i64 r.b, .int .i64 r.c] rfl rfl HV.out (one3 _ _ _) (by unfold maxLen; omega) (by omega) HH.out ?_; intro v' w9 hown hgrow hnil)
    have hown2 : w9.ownsRow base 38 3 v' (n + 1) (flat (us ++ [r])) := by rw [flat_app]; exact hown
    obtain ⟨g', c', rfl, hg', hnn, ar, hc'⟩ := own_routes hown2 (fun e => by have := (hnil.1 e).1; cases this)
    rw [hnn] at hown2
    go_ret
    exact ⟨g', c', by rw [← hnn]; rfl, hg', ar, own_room hown2, hc', (Kx.refl _ _).grown hgrow (fun _ => rfl)⟩

set_option maxRecDepth 100000 in
set_option maxHeartbeats 3200000 in
theorem ins_shift (base g c vb n i : Nat) (us : List Lk) (r : Lk) (w : World) (hn : us.length = n) (hn9 : n ≤ 1000) (hi : i < n) (hnc : n + 1 ≤ c) (hrow : w.ownsRow base 38 3 (.slice (some ⟨g, 0, none⟩) n c) n (flat us)) (hv : Box w vb 38 #[.int .i64 r.a, .int .i64 r.b, .int .i64 r.c]) (hne : vb ≠ g) :
   Calls Try.prog 51 #[.slice (some ⟨g, 0, none⟩) n c, .int .i64 (i : Int), .slice (some ⟨vb, 0, none⟩) 1 1] w (InsRes (us.take i ++ r :: us.drop i) g base w) := by
  obtain ⟨cur, hbg, hh, hcm, hsz, htk⟩ : ∃ cur : Array Value, base ≤ g ∧ w.heap[g]? = some (.cells cur 38 (0, 0)) ∧ c ≤ maxLen ∧ cur.size = c * 3 ∧ cur.toList.take (n * 3) = flat us := by
    rcases hrow.2 with ⟨e, _⟩ | ⟨g', cap, cur, e, hbg, hh, _, hm, hs, ht⟩
    · simp at e
    · simp only [Value.slice.injEq, Option.some.injEq, Addr.mk.injEq, and_true, true_and] at e
      obtain ⟨rfl, rfl⟩ := e
      exact ⟨cur, hbg, hh, hm, hs, ht⟩
  have hcells := box3_cells hv
  obtain ⟨CS, hCS⟩ : ∃ CS : List Value, cur = CS.toArray := ⟨cur.toList, by simp⟩
  subst hCS
  have hsz' : CS.length = c * 3 := by simpa using hsz
  have htk' : CS.take (n * 3) = flat (us.take i) ++ flat (us.drop i) := by rw [← flat_split]; simpa using htk
  have hL : (flat (us.take i)).length = i * 3 := flat_takelen (by omega)
  have hD : (flat (us.drop i)).length = (n - i) * 3 := by rw [flat_droplen, hn]
  have hend := shift_cells (R := [.int .i64 r.a, .int .i64 r.b, .int .i64 r.c]) hL hD rfl hi hnc hsz' htk'
  rw [← flat_ins] at hend
  have hcurD : ∀ j v, (flat (us.drop i))[j]? = some v → CS[i * 3 + j]? = some v := fun j v hj => by
    have hjl := (List.getElem?_eq_some_iff.1 hj).1
    have h1 : (CS.take (n * 3))[i * 3 + j]? = some v := by
      rw [htk', List.getElem?_append_right (by omega), hL, show i * 3 + j - i * 3 = j by omega]
      exact hj
    rwa [List.getElem?_take_of_lt (by omega)] at h1
  have hsrc : ∀ (W : World), (∀ o, W.cell? ⟨g, o, none⟩ = w.cell? ⟨g, o, none⟩) → ∀ j v, (flat (us.drop i))[j]? = some v → W.cell? ((⟨g, i * 3, none⟩ : Addr).add j) = some v := fun W hW j v hj => by
    rw [Addr.add_lit, hW, cell_of_row w g _ _ _ _ hh]
    simpa using hcurD j v hj
  have hcp1 : ∀ ty dc sc, (Builtin.copy_ #[28, 28] ty #[.slice (some ⟨g, (i + 1) * 3, none⟩) (n - i) dc, .slice (some ⟨g, i * 3, none⟩) (n + 1 - i) sc]).run Try.prog w.drew = .ok (goInt ((n - i : Nat) : Int)) (w.drew.setRow g (splice CS ((i + 1) * 3) (flat (us.drop i))).toArray) := fun ty dc sc =>
    run_copy3 w.drew ty g ((i + 1) * 3) _ dc ⟨g, i * 3, none⟩ _ sc (n - i) CS (flat (us.drop i)) hh (show Nat.min (n + 1 - i) (n - i) = n - i by change min (n + 1 - i) (n - i) = n - i; omega) hD (hsrc w.drew (fun o => rfl)) (by rw [hD, hsz']; omega) (flat_one _)
  have hh1 := setRow_heap w.drew g _ (splice CS ((i + 1) * 3) (flat (us.drop i))).toArray _ _ hh
  have hot1 : ∀ k, k ≠ g → (w.drew.setRow g (splice CS ((i + 1) * 3) (flat (us.drop i))).toArray).heap[k]? = w.heap[k]? := fun k hk => setRow_other w.drew g k _ hk
  have hbw1 : Below base w.drew (w.drew.setRow g (splice CS ((i + 1) * 3) (flat (us.drop i))).toArray) := below_setRow (Below.refl _ _) hbg _
  have hkx1 : Kx (fun b => b = g) w (w.drew.setRow g (splice CS ((i + 1) * 3) (flat (us.drop i))).toArray) := ⟨rfl, rfl, rfl, by simp, fun k _ hk => hot1 k hk⟩
  generalize w.drew.setRow g (splice CS ((i + 1) * 3) (flat (us.drop i))).toArray = W1 at *
  have hv1 : Box W1 vb 38 #[.int .i64 r.a, .int .i64 r.b, .int .i64 r.c] := (hot1 vb hne).trans hv
  have hlen1 : (splice CS ((i + 1) * 3) (flat (us.drop i))).length = c * 3 := by rw [length_splice _ _ _ (by rw [hD, hsz']; omega)]; exact hsz'
  generalize splice CS ((i + 1) * 3) (flat (us.drop i)) = C1 at *
  have hcp2 : ∀ ty dc, (Builtin.copy_ #[28, 28] ty #[.slice (some ⟨g, i * 3, none⟩) (n + 1 - i) dc, .slice (some ⟨vb, 0, none⟩) 1 1]).run Try.prog W1 = .ok (goInt 1) (W1.setRow g (splice C1 (i * 3) [.int .i64 r.a, .int .i64 r.b, .int .i64 r.c]).toArray) := fun ty dc =>
    run_copy3 W1 ty g (i * 3) _ dc ⟨vb, 0, none⟩ 1 1 1 C1 [.int .i64 r.a, .int .i64 r.b, .int .i64 r.c] hh1 (show Nat.min 1 (n + 1 - i) = 1 by change min 1 (n + 1 - i) = 1; omega) rfl (box3_cells hv1) (by simp only [List.length_cons, List.length_nil]; rw [hlen1]; omega) (one3 _ _ _)
  have hh2 := setRow_heap W1 g _ (splice C1 (i * 3) [.int .i64 r.a, .int .i64 r.b, .int .i64 r.c]).toArray _ _ hh1
  have hkx2 : Kx (fun b => b = g) w (W1.setRow g (splice C1 (i * 3) [.int .i64 r.a, .int .i64 r.b, .int .i64 r.c]).toArray) := hkx1.trans ⟨rfl, rfl, rfl, by simp, fun k _ hk => setRow_other W1 g k _ hk⟩
  generalize W1.setRow g (splice C1 (i * 3) [.int .i64 r.a, .int .i64 r.b, .int .i64 r.c]).toArray = W2 at *
  generalize splice C1 (i * 3) [.int .i64 r.a, .int .i64 r.b, .int .i64 r.c] = C2 at *
  obtain ⟨ar, rm⟩ := flat_row (ls := us.take i ++ r :: us.drop i) hh2 hend.1 hcm (by rw [← hend.2]; congr 1; simp; omega)
  have HEND := Lib.hid (show InsRes (us.take i ++ r :: us.drop i) g base w (.returned (.slice (some ⟨g, 0, none⟩) (n + 1) c)) W2 from ⟨g, c, by simp; omega, hbg, ar, rm, by simp; omega, hkx2⟩)
  have hsb : w.shape? g = some (38, c * 3) := by simp [World.shape?, hh, hsz']
  have hsa : w.shape? vb = some (38, 3) := by simp [World.shape?, show w.heap[vb]? = _ from hv]
  have hfa : w.frozen? ⟨vb, 0, none⟩ = false := hv.frozen 0
  have hfe : w.frozen? ⟨vb, 3, none⟩ = false := hv.frozen 3
  obtain ⟨i0, hi0, hz0, hz1, hz2⟩ := info_parts infoRoute
  have hov : ∀ o lb cb, (callFunc 74 #[.slice (some ⟨vb, 0, none⟩) 1 1, .slice (some ⟨g, o, none⟩) lb cb]).run Try.prog w = .ok (.value (.bool false)) w := fun o lb cb => by
    rw [run_callFunc_extern Try.func74 (by kernel_rfl) (by kernel_rfl) (by kernel_rfl) (e := Extern.SlicesOverlaps.overlaps #[28, 28] #[4]) (by kernel_rfl),
      Lib.run_overlaps_apart w 28 4 38 Try.underlying28 3 (fun w => by simp [Go.sizeOf, typeInfo, hi0, hz1]) ⟨vb, 0, none⟩ ⟨g, o, none⟩ 1 1 lb cb hne _ _ _ _ hsa hsb (by omega) hfa hfe]
    rfl
  have hw1 : IntKind.i64.wrap ((n : Int) + 1) = (n : Int) + 1 := IntWalk.i64_in _ (by omega)
  have hw2 : IntKind.i64.wrap ((i : Int) + 1) = (i : Int) + 1 := IntWalk.i64_in _ (by omega)
  have hz1' : ((i : Int) == (n : Int)) = false := by simp; omega
  have hz2' : ¬ ((c : Int) < (n : Int) + 1) := by omega
  have hcm' : c ≤ 9223372036854775807 := by unfold maxLen at hcm; omega
  have hci : ¬ (c = i) := by omega
  have hci1 : ¬ (c = i + 1) := by omega
  have htn1 : ((n : Int) + 1).toNat = n + 1 := by omega
  have htn2 : ((i : Int) + 1).toNat = i + 1 := by omega
  have hb1 : (0 : Int) ≤ (n : Int) + 1 := by omega
  have hb2 : (0 : Int) ≤ (i : Int) + 1 := by omega
  have hb3 : (n : Int) + 1 ≤ (c : Int) := by omega
  have hb4 : (i : Int) + 1 ≤ (n : Int) + 1 := by omega
  have hb5 : (i : Int) ≤ (n : Int) + 1 := by omega
  have hb6 : (i : Int) ≤ (n : Int) := by omega
  have HBW := Lib.hid hbw1
  have HC1 := Lib.hid hcp1
  have HC2 := Lib.hid hcp2
  clear hn hrow hv hne hh hcm hsz htk hcells hsz' htk' hL hD hend hcurD hsrc hcp1 hh1 hot1 hkx1 hbw1 hv1 hlen1 hcp2 hh2 hkx2 ar rm hsb hsa hfa hfe hi0 hz0 hz1 hz2 hbg
  go_enter Try.func51, Try.ntmps51
  go_wp2_with (simp only [hov])
  refine wp_region_stg 9 base (by kernel_rfl) (by kernel_rfl) ?_
  refine stg_seg _ 1 [0, 1, 2, 3, 4, 5, 6, 7] (by kernel_rfl) (by kernel_rfl) (by kernel_rfl) (by kernel_rfl) ?_
  (simp only [List.map_cons, List.map_nil, List.getElem?_cons_zero, List.getElem?_cons_succ, Option.getD_some]); (repeat (go_big_quiet_step (fail))); (refine wpQuiet_nil ?_)
  refine stg_one _ 0 8 (by kernel_rfl) (by rfl) (by kernel_rfl) (by rfl) ?_
  refine op_copy_run _ _ 28 28 rfl (.slice (some ⟨g, (i + 1) * 3, none⟩) (n - i) (c - (i + 1))) (.slice (some ⟨g, i * 3, none⟩) (n + 1 - i) (c - i)) (by rfl) (by rfl) (HC1.out _ _ _) ?_
  refine ⟨HBW.out, _, Nat.le_refl _, ?_⟩
  refine stg_end (by kernel_rfl) ?_
  have hc2 := HC2.out
  go_wp2_with (simp only [hc2])
  go_ret
  exact HEND.out

set_option maxRecDepth 100000 in
set_option maxHeartbeats 3200000 in
theorem ins_grow (base g vb n i : Nat) (us : List Lk) (r : Lk) (w : World) (hn : us.length = n) (hn9 : n ≤ 1000) (hi : i < n) (hrow : w.ownsRow base 38 3 (.slice (some ⟨g, 0, none⟩) n n) n (flat us)) (hb : base ≤ w.heap.size) (hv : Box w vb 38 #[.int .i64 r.a, .int .i64 r.b, .int .i64 r.c]) :
   Calls Try.prog 51 #[.slice (some ⟨g, 0, none⟩) n n, .int .i64 (i : Int), .slice (some ⟨vb, 0, none⟩) 1 1] w (InsRes (us.take i ++ r :: us.drop i) g base w) := by
  obtain ⟨i0, hi0, hz0, hz1, hz2⟩ := info_parts infoRoute
  obtain ⟨CS, hgw, hsrcU⟩ : ∃ CS : List Value, g < w.heap.size ∧ ∀ j v, (flat us)[j]? = some v → w.cell? ⟨g, j, none⟩ = some v := by
    rcases hrow.2 with ⟨e, _⟩ | ⟨g', cap, cur, e, hbg, hh, _, hm, hs, ht⟩
    · simp at e
    · simp only [Value.slice.injEq, Option.some.injEq, Addr.mk.injEq, and_true, true_and] at e
      obtain ⟨rfl, rfl⟩ := e
      refine ⟨[], heap_lt hh, fun j v hj => ?_⟩
      rw [cell_of_row w g j _ _ _ hh]
      rw [← ht] at hj
      have hjl : j < n * 3 := by
        have := (List.getElem?_eq_some_iff.1 hj).1
        rw [List.length_take] at this
        omega
      rw [List.getElem?_take_of_lt hjl] at hj
      simpa using hj
  clear CS
  have hL : (flat (us.take i)).length = i * 3 := flat_takelen (by omega)
  have hD : (flat (us.drop i)).length = (n - i) * 3 := by rw [flat_droplen, hn]
  have hold : (Builtin.firstCells i0.size i (.slice (some ⟨g, 0, none⟩) i n)).run Try.prog w.drew = .ok (flat (us.take i)).toArray w.drew := by
    rw [hz1]
    refine run_firstCells_some w.drew 3 i ⟨g, 0, none⟩ i n _ hL (fun j v hj => ?_)
    rw [Addr.add_lit, Nat.zero_add]
    refine hsrcU j v ?_
    rw [flat_split us i, List.getElem?_append_left (List.getElem?_eq_some_iff.1 hj).1]
    exact hj
  have hik : i + (n + 1 - i) = n + 1 := by omega
  have hkk : (n : Int) + 1 - (i : Int) = ((n + 1 - i : Nat) : Int) := by omega
  have hfit := growslice_fits (need := n + 1) (old := n) (bytes := 24) (by omega) (by omega)
  have hrz := fun ty => Lib.run_append_grow_zeros w 28 3 ty 38 i0 _ .i64 .i64 Try.underlying28 Try.underlying3 hi0 hz0 (some ⟨g, 0, none⟩) i n (flat (us.take i)) hold (n + 1 - i) (by omega) (by omega) (by omega) (by omega) (by rw [hz2]; omega) (by rw [hz2, hik]; exact hfit)
  simp only [hik, ← hkk] at hrz
  have hGn : n + 1 ≤ grownCap w (n + 1) n 38 := grownCap_ge w _ _ _
  have hGm : grownCap w (n + 1) n 38 ≤ maxLen := grownCap_le_maxLen w (n + 1) n 38 (by unfold maxLen; omega)
  generalize grownCap w (n + 1) n 38 = G at *
  obtain ⟨Z, hZ, hZl⟩ : ∃ Z : List Value, (flat (us.take i)).toArray ++ Builtin.zeroCells (Value.agg #[.int .i64 0, .int .i64 0, .int .i64 0]).cells (n + 1 - i) ++ Builtin.zeroCells (Value.agg #[.int .i64 0, .int .i64 0, .int .i64 0]).cells (G - (n + 1)) = (flat (us.take i) ++ Z).toArray ∧ (flat (us.take i) ++ Z).length = G * 3 := by
    refine ⟨(Builtin.zeroCells (Value.agg #[.int .i64 0, .int .i64 0, .int .i64 0]).cells (n + 1 - i)).toList ++ (Builtin.zeroCells (Value.agg #[.int .i64 0, .int .i64 0, .int .i64 0]).cells (G - (n + 1))).toList, ?_, ?_⟩
    · apply Array.ext'
      simp
    · have hc3 : (Value.agg #[.int .i64 0, .int .i64 0, .int .i64 0]).cells.size = 3 := rfl
      simp only [List.length_append, Array.length_toList, Builtin.zeroCells, Array.size_map, Array.size_range, hc3, hL]
      omega
  rw [hZ] at hrz
  have hh1 : (w.drew.alloc (.cells (flat (us.take i) ++ Z).toArray 38)).heap[w.heap.size]? = some (.cells (flat (us.take i) ++ Z).toArray 38 (0, 0)) := World.alloc_heap_new w.drew _
  have hot1 : ∀ k, k < w.heap.size → (w.drew.alloc (.cells (flat (us.take i) ++ Z).toArray 38)).heap[k]? = w.heap[k]? := fun k hk => Below.heap_alloc w.drew _ k hk
  have hbw1 : Below w.heap.size w (w.drew.alloc (.cells (flat (us.take i) ++ Z).toArray 38)) := (Below.refl _ _).drew.alloc (Nat.le_refl _) _
  generalize w.drew.alloc (.cells (flat (us.take i) ++ Z).toArray 38) = W1 at *
  have hv1 : Box W1 vb 38 #[.int .i64 r.a, .int .i64 r.b, .int .i64 r.c] := (hot1 vb hv.lt).trans hv
  have hend := fill_cells (R := [.int .i64 r.a, .int .i64 r.b, .int .i64 r.c]) hL hD rfl hi hGn hZl
  rw [← flat_ins] at hend
  have hcp1 : ∀ ty dc, (Builtin.copy_ #[28, 28] ty #[.slice (some ⟨w.heap.size, i * 3, none⟩) (n + 1 - i) dc, .slice (some ⟨vb, 0, none⟩) 1 1]).run Try.prog W1 = .ok (goInt 1) (W1.setRow w.heap.size (splice (flat (us.take i) ++ Z) (i * 3) [.int .i64 r.a, .int .i64 r.b, .int .i64 r.c]).toArray) := fun ty dc =>
    run_copy3 W1 ty w.heap.size (i * 3) _ dc ⟨vb, 0, none⟩ 1 1 1 (flat (us.take i) ++ Z) [.int .i64 r.a, .int .i64 r.b, .int .i64 r.c] hh1 (show Nat.min 1 (n + 1 - i) = 1 by change min 1 (n + 1 - i) = 1; omega) rfl (box3_cells hv1) (by simp only [List.length_cons, List.length_nil]; rw [hZl]; omega) (one3 _ _ _)
  have hh2 := setRow_heap W1 w.heap.size _ (splice (flat (us.take i) ++ Z) (i * 3) [.int .i64 r.a, .int .i64 r.b, .int .i64 r.c]).toArray _ _ hh1
  have hbw2 := below_setRow hbw1 (Nat.le_refl _) (splice (flat (us.take i) ++ Z) (i * 3) [.int .i64 r.a, .int .i64 r.b, .int .i64 r.c]).toArray
  have hlen2 : (splice (flat (us.take i) ++ Z) (i * 3) [.int .i64 r.a, .int .i64 r.b, .int .i64 r.c]).length = G * 3 := by rw [length_splice _ _ _ (by simp only [List.length_cons, List.length_nil]; rw [hZl]; omega)]; exact hZl
  generalize W1.setRow w.heap.size (splice (flat (us.take i) ++ Z) (i * 3) [.int .i64 r.a, .int .i64 r.b, .int .i64 r.c]).toArray = W2 at *
  generalize splice (flat (us.take i) ++ Z) (i * 3) [.int .i64 r.a, .int .i64 r.b, .int .i64 r.c] = C2 at *
  have hcp2 : ∀ ty dc sc, (Builtin.copy_ #[28, 28] ty #[.slice (some ⟨w.heap.size, (i + 1) * 3, none⟩) (n - i) dc, .slice (some ⟨g, i * 3, none⟩) (n - i) sc]).run Try.prog W2.drew = .ok (goInt ((n - i : Nat) : Int)) (W2.drew.setRow w.heap.size (splice C2 ((i + 1) * 3) (flat (us.drop i))).toArray) := fun ty dc sc =>
    run_copy3 W2.drew ty w.heap.size ((i + 1) * 3) _ dc ⟨g, i * 3, none⟩ _ sc (n - i) C2 (flat (us.drop i)) hh2 (show Nat.min (n - i) (n - i) = n - i by change min (n - i) (n - i) = n - i; omega) hD (fun j v hj => by
      rw [Addr.add_lit]
      refine ((hbw2.drew).cell (p := ⟨g, i * 3 + j, none⟩) hgw).trans (hsrcU _ v ?_)
      rw [flat_split us i, List.getElem?_append_right (by omega), hL, show i * 3 + j - i * 3 = j by omega]
      exact hj) (by rw [hD, hlen2]; omega) (flat_one _)
  have hh3 := setRow_heap W2.drew w.heap.size _ (splice C2 ((i + 1) * 3) (flat (us.drop i))).toArray _ _ hh2
  have hbw3 := below_setRow hbw2.drew (Nat.le_refl _) (splice C2 ((i + 1) * 3) (flat (us.drop i))).toArray
  have hbw4 : Below w.heap.size W2.drew (W2.drew.setRow w.heap.size (splice C2 ((i + 1) * 3) (flat (us.drop i))).toArray) := below_setRow (Below.refl _ _) (Nat.le_refl _) _
  generalize W2.drew.setRow w.heap.size (splice C2 ((i + 1) * 3) (flat (us.drop i))).toArray = W3 at *
  generalize splice C2 ((i + 1) * 3) (flat (us.drop i)) = C3 at *
  obtain ⟨ar, rm⟩ := flat_row (ls := us.take i ++ r :: us.drop i) hh3 hend.1 hGm (by rw [← hend.2]; congr 1; simp; omega)
  have HEND := Lib.hid (show InsRes (us.take i ++ r :: us.drop i) g base w (.returned (.slice (some ⟨w.heap.size, 0, none⟩) (n + 1) G)) W3 from ⟨w.heap.size, G, by simp; omega, hb, ar, rm, by simp; omega, Kx.of_below hbw3⟩)
  have hw1 : IntKind.i64.wrap ((n : Int) + 1) = (n : Int) + 1 := IntWalk.i64_in _ (by omega)
  have hw2 : IntKind.i64.wrap ((i : Int) + 1) = (i : Int) + 1 := IntWalk.i64_in _ (by omega)
  have hw3 : IntKind.i64.wrap ((n : Int) + 1 - (i : Int)) = (n : Int) + 1 - (i : Int) := IntWalk.i64_in _ (by omega)
  have hz1' : ((i : Int) == (n : Int)) = false := by simp; omega
  have hz2' : (n : Int) < (n : Int) + 1 := by omega
  have hcm' : G ≤ 9223372036854775807 := by unfold maxLen at hGm; omega
  have hci : ¬ (n = i) := by omega
  have hci1 : ¬ (G = i + 1) := by omega
  have hci2 : ¬ (G = i) := by omega
  have htn1 : ((n : Int) + 1).toNat = n + 1 := by omega
  have htn2 : ((i : Int) + 1).toNat = i + 1 := by omega
  have hb1 : (0 : Int) ≤ (n : Int) + 1 := by omega
  have hb2 : (0 : Int) ≤ (i : Int) + 1 := by omega
  have hb4 : (i : Int) + 1 ≤ (n : Int) + 1 := by omega
  have hb5 : (i : Int) ≤ (n : Int) + 1 := by omega
  have hb6 : (i : Int) ≤ (n : Int) := by omega
  have hb7 : i ≤ n := by omega
  have HBW := Lib.hid hbw4
  have HC2 := Lib.hid hcp2
  have HGn := Lib.hid hGn
  clear hn hrow hb hv hi0 hz0 hz1 hz2 hgw hsrcU hL hD hold hik hkk hfit hGm hZ hZl hh1 hot1 hbw1 hv1 hend hh2 hbw2 hlen2 hcp2 hh3 hbw3 hbw4 ar rm
  go_enter Try.func51, Try.ntmps51
  go_wp2_with (first | (at_builtin; refine Lib.wpList_append_run _ rfl _ _ _ _ rfl _ _ rfl rfl _ _ (hrz _) ?_) | simp only [hcp1])
  refine wp_region_stg 9 w.heap.size (by kernel_rfl) (by kernel_rfl) ?_
  refine stg_seg _ 1 [0, 1, 2, 3, 4, 5, 6, 7] (by kernel_rfl) (by kernel_rfl) (by kernel_rfl) (by kernel_rfl) ?_
  (simp only [List.map_cons, List.map_nil, List.getElem?_cons_zero, List.getElem?_cons_succ, Option.getD_some]); (repeat (go_big_quiet_step (fail))); (refine wpQuiet_nil ?_)
  refine stg_one _ 0 8 (by kernel_rfl) (by rfl) (by kernel_rfl) (by rfl) ?_
  refine op_copy_run _ _ 28 28 rfl (.slice (some ⟨w.heap.size, (i + 1) * 3, none⟩) (n - i) (G - (i + 1))) (.slice (some ⟨g, i * 3, none⟩) (n - i) (n - i)) (by rfl) (by rfl) (HC2.out _ _ _) ?_
  refine ⟨HBW.out, _, Nat.le_refl _, ?_⟩
  refine stg_end (by kernel_rfl) ?_
  go_wp2_with fail
  go_ret
  exact HEND.out

/-- One route put at place i. -/
theorem ins_any (base g c vb n i : Nat) (us : List Lk) (r : Lk) (w : World) (hn : us.length = n) (hn9 : n ≤ 1000) (hi : i ≤ n) (hrow : w.ownsRow base 38 3 (.slice (some ⟨g, 0, none⟩) n c) n (flat us)) (hb : base ≤ w.heap.size) (hv : Box w vb 38 #[.int .i64 r.a, .int .i64 r.b, .int .i64 r.c]) (hne : vb ≠ g) :
   Calls Try.prog 51 #[.slice (some ⟨g, 0, none⟩) n c, .int .i64 (i : Int), .slice (some ⟨vb, 0, none⟩) 1 1] w (InsRes (us.take i ++ r :: us.drop i) g base w) := by
  by_cases h : i = n
  · subst h
    have := ins_end base g c vb i us r w hn hn9 hrow hb hv
    rwa [List.take_of_length_le (by omega), List.drop_of_length_le (by omega)]
  · have hnc : n ≤ c := by
      rcases hrow.2 with ⟨e, _⟩ | ⟨g', cap, cur, e, _, _, hle, _⟩
      · simp at e
      · simp only [Value.slice.injEq, Option.some.injEq, Addr.mk.injEq, and_true, true_and] at e
        omega
    by_cases h2 : c = n
    · subst h2
      exact ins_grow base g vb c i us r w hn hn9 (by omega) hrow hb hv
    · exact ins_shift base g c vb n i us r w hn hn9 (by omega) (by omega) hrow hv hne
end Go.Proofs.Ytohflcbpjjnccab
