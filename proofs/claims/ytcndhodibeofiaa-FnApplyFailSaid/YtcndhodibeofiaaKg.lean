/-
  Contracts over this seat: the drawn candidates.
-/
import Derived.Test.YtcndhodibeofiaaKf
import Derived.Test.YtcndhodibeofiaaA5
namespace Go.Proofs.Ytcndhodibeofiaa
open Go.RowKit Go.Maps

/-- The state while candidates are drawn: the reader, the row. -/
structure KD (w : World) (R : Nat) (A : Option Addr) (len c : Nat) (f : Nat → Int) (P : Nat) (v : Value) (out : List Lk) (W : World) : Prop where
  rd : RD R A len c f P W
  row : W.ownsRow w.heap.size 36 3 v out.length (flat out)
  gr : w.grownBy W (some R)
section
variable {w w1 w2 : World} {R : Nat} {A : Option Addr} {len c : Nat} {f : Nat → Int} {P P' : Nat} {v v' : Value} {out : List Lk}
theorem KD.mono (h : KD w R A len c f P v out w1) (hP : P ≤ P') : KD w R A len c f P' v out w1 := ⟨h.rd.mono hP, h.row, h.gr⟩
theorem KD.picked (h : KD w R A len c f P v out w1) (hr : RD R A len c f P' w2) (hg : w1.grownBy w2 (some R)) : KD w R A len c f P' v out w2 := by
  obtain ⟨cs, hx⟩ := h.rd.box
  exact ⟨hr, owns_picked h.row hx (by decide) hg, grown_trans h.gr hg⟩
theorem KD.alloc (h : KD w R A len c f P v out w1) (o : Obj) : KD w R A len c f P v out (w1.alloc o) := ⟨h.rd.alloc o, h.row.alloc o, grown_alloc h.gr o⟩
theorem KD.append {W W' : World} {x : Lk} {o : Obj} (h : KD w R A len c f P v out W) (hRw : R < w.heap.size) (hown : W'.ownsRow w.heap.size 36 3 v' (out.length + 1) (flat out ++ [.int .i64 x.a, .int .i64 x.b, .int .i64 x.c])) (hg : (W.alloc o).grownBy W' v.ownBlock) : KD w R A len c f P v' (out ++ [x]) W' := by
  have hl := h.row.lt
  refine ⟨h.rd.below (((Below.refl (R + 1) W).alloc h.rd.lt o).grown hg (by have := h.rd.lt; simp; omega) (fun j e => by have := (hl j e).1; omega)), ?_, grown_far (grown_alloc h.gr o) hg (fun j e => (hl j e).1)⟩
  rw [List.length_append, flat_append]
  exact hown
end
theorem KD.setB {w w1 : World} {R : Nat} {A : Option Addr} {len c : Nat} {f : Nat → Int} {P G i : Nat} {v u : Value} {out : List Lk} {cs : Array Value} (h : KD w R A len c f P v out w1) (hRG : R < G) (hwG : w.heap.size ≤ G) (_hb : Box w1 G 36 cs) (hv : v.ownBlock ≠ some G) : KD w R A len c f P v out (w1.setCell ⟨G, i, none⟩ u) :=
  ⟨h.rd.set (q := ⟨G, i, none⟩) hRG u, h.row.kept (grown_set (World.grownBy.refl w1 (some G)) i u) (.inr hv), grown_setFar h.gr (p := ⟨G, i, none⟩) hwG u⟩
/-- One cell of the row is stored anew. -/
theorem Arrk.set {w : World} {g : Nat} {xs : List Lk} (h : Arrk w g xs) {k : Nat} {x y : Lk} (hk : xs[k]? = some x) (i : Nat) (hi : i < 3) (u : Int)
    (h0 : y.a = if i = 0 then u else x.a) (h1 : y.b = if i = 1 then u else x.b) (h2 : y.c = if i = 2 then u else x.c) : Arrk (w.setCell ⟨g, k * 3 + i, none⟩ (.int .i64 u)) g (xs.set k y) := by
  obtain ⟨cs, hh, hc⟩ := h
  refine ⟨_, heap_set hh (k * 3 + i) (.int .i64 u), fun j l hj => ?_⟩
  have hkl := (List.getElem?_eq_some_iff.1 hk).1
  have hks := (Array.getElem?_eq_some_iff.1 (hc k x hk).2.2).1
  simp only [Array.getElem?_setIfInBounds]
  by_cases e : j = k
  · subst e
    rw [List.getElem?_set_self hkl] at hj
    cases hj
    obtain ⟨c0, c1, c2⟩ := hc j x hk
    rw [h0, h1, h2]
    refine ⟨?_, ?_, ?_⟩
    · by_cases hi0 : i = 0
      · rw [if_pos (by omega), if_pos (by omega), if_pos hi0]
      · rw [if_neg (by omega), if_neg hi0]; exact c0
    · by_cases hi0 : i = 1
      · rw [if_pos (by omega), if_pos (by omega), if_pos hi0]
      · rw [if_neg (by omega), if_neg hi0]; exact c1
    · by_cases hi0 : i = 2
      · rw [if_pos (by omega), if_pos (by omega), if_pos hi0]
      · rw [if_neg (by omega), if_neg hi0]; exact c2
  · rw [List.getElem?_set_ne (fun x => e x.symm)] at hj
    rw [if_neg (by omega), if_neg (by omega), if_neg (by omega)]
    exact hc j l hj
/-- What 'l91Candidates' leaves. -/
def CandD (R : Nat) (w : World) (e : Ending) (w' : World) : Prop :=
  ∃ (xs : List Lk) (B : Option Addr) (cb : Nat), e = .returned (.slice B xs.length cb) ∧ xs.length ≤ 8 ∧ Sl w' w'.heap.size B xs ∧ w.grownBy w' (some R)

set_option maxRecDepth 100000 in
set_option maxHeartbeats 4000000 in
theorem l91cand_any (R : Nat) (A : Option Addr) (len c P : Nat) (f : Nat → Int) (w : World) (hlen : len ≤ 2000) (hP : P ≤ 50000) (hR : RD R A len c f P w) :
   Calls Try.prog 34 #[.pointer (some ⟨R, 0, none⟩)] w (CandD R w) := by
  obtain ⟨i0, hi, hz0, hz10, hz20⟩ := info_parts infoCand
  have hRw := hR.lt
  have S0 := Lib.hid (show KD w R A len c f P (.slice (some ⟨w.heap.size, 0, none⟩) 0 0) [] (w.alloc (.cells #[] 36)) from ⟨hR.alloc _, World.ownsRow_made (base := w.heap.size) (e := 36) (size := 3) w #[] 0 (Nat.le_refl _) (by unfold maxLen; omega) rfl, World.grownBy_alloc w _ _⟩)
  clear hR
  go_enter Try.func34, Try.ntmps34
  go_wp2_with fail
  refine (pick_rd R A len c P 3 f _ hlen (by omega) (by omega) (by omega) S0.out.rd).mono ?_
  rintro e w1 ⟨k1, rfl, hk1, hR1, hg1, hs1, -⟩
  have S1 := Lib.hid (S0.out.picked hR1 hg1)
  clear hR1 hg1 hs1 S0
  go_wp2_with fail
  go_loopw [5, 3] (fun i v wr => ∃ (k : Nat) (out : List Lk), k ≤ 8 ∧ i = .int .i64 (k : Int) ∧ out.length ≤ k ∧ Hid (KD w R A len c f (P + 1 + 4 * k) v out wr)) (fun i _ _ => 8 - (intOf i).toNat)
  case atStart => exact ⟨0, [], by omega, rfl, Nat.le_refl _, S1⟩
  case round =>
    obtain ⟨k, out, hk, rfl, hok, S⟩ := hrel
    clear S1
    have hwz := S.out.gr.size
    obtain ⟨A2, g2, c2, rfl, hg2, -, HOW, -⟩ := own_slicek S.out.row hwz
    by_cases hlt : k < 8
    · have hlti : (k : Int) < 8 := by omega
      clear HOW
      go_wp2_with fail
      refine (pick_rd R A len c _ 2 f _ hlen (by omega) (by omega) (by omega) S.out.rd).mono ?_
      rintro e w3 ⟨k3, rfl, hk3, hR3, hg3, hs3, -⟩
      have S3 := Lib.hid (S.out.picked hR3 hg3)
      clear hR3 hg3 hs3 S
      by_cases h3 : k3 = 0
      · subst h3
        go_wp2_with fail
        refine (pick_rd R A len c _ 4 f _ hlen (by omega) (by omega) (by omega) S3.out.rd).mono ?_
        rintro e w4 ⟨k4, rfl, hk4, hR4, hg4, hs4, -⟩
        have S4 := Lib.hid ((S3.out.picked hR4 hg4).alloc (.cells #[.int .i64 (k : Int), .int .i64 (k4 : Int), .int .i64 0] 36))
        have X4 := Lib.hid (Box.new w4 36 #[.int .i64 (k : Int), .int .i64 (k4 : Int), .int .i64 0])
        have hGw : w.heap.size ≤ w4.heap.size := (S3.out.picked hR4 hg4).gr.size
        have hOB : (Value.slice A2 out.length c2).ownBlock ≠ some w4.heap.size := fun e => by
          have := ((S3.out.picked hR4 hg4).row.lt _ e).2
          omega
        have HOB := Lib.hid hOB
        clear hR4 hg4 hs4 S3 hOB
        go_wp2_with fail
        generalize w4.alloc (.cells #[.int .i64 (k : Int), .int .i64 (k4 : Int), .int .i64 0] 36) = V4 at *
        generalize w4.heap.size = G at *
        have hGR : R < G := by omega
        refine (pick_rd R A len c _ 4 f _ hlen (by omega) (by omega) (by omega) S4.out.rd).mono ?_
        rintro e w5 ⟨k5, rfl, hk5, hR5, hg5, hs5, -⟩
        have S5 := Lib.hid (S4.out.picked hR5 hg5)
        have X5 := Lib.hid (X4.out.grown hg5 (by omega))
        clear hR5 hg5 hs5 S4 X4
        by_cases h5 : (k5 : Int) < (k1 : Int)
        · go_wp2_with fail
          refine (pick_rd R A len c _ 3 f _ hlen (by omega) (by omega) (by omega) S5.out.rd).mono ?_
          rintro e w6 ⟨k6, rfl, hk6, hR6, hg6, hs6, -⟩
          have S6 := Lib.hid (S5.out.picked hR6 hg6)
          have X6 := Lib.hid (X5.out.grown hg6 (by omega))
          have S7 := Lib.hid (S6.out.setB (i := 2) (u := .int .i64 (k6 : Int)) hGR hGw X6.out HOB.out)
          have X7 := Lib.hid (heap_set X6.out 2 (.int .i64 (k6 : Int)))
          have hX7 : Hid (Box (w6.setCell ⟨G, 2, none⟩ (.int .i64 (k6 : Int))) G 36 #[.int .i64 (k : Int), .int .i64 (k4 : Int), .int .i64 (k6 : Int)]) := X7
          obtain ⟨zx, x0, x1, x2, q0, q1, q2⟩ := X6.out.tri
          clear hR6 hg6 hs6 S5 X5 X7
          have hsz6 : (w6.setCell ⟨G, 2, none⟩ (.int .i64 (k6 : Int))).heap.size = w6.heap.size := by simp
          go_wp2_with (at_builtin; refine wpList_append_own _ rfl _ _ 25 rfl w.heap.size 36 i0 _ 3 24 Try.underlying25 hi hz0 hz10 hz20 rfl (by decide) _ out.length (flat out) rfl (S7.out.row.alloc _) ⟨w6.heap.size, 0, none⟩ 1 1 [.int .i64 (k : Int), .int .i64 (k4 : Int), .int .i64 (k6 : Int)] rfl rfl (by have hn := new3 (w6.setCell ⟨G, 2, none⟩ (.int .i64 (k6 : Int))) (.int .i64 (k : Int)) (.int .i64 (k4 : Int)) (.int .i64 (k6 : Int)) 36; rw [hsz6] at hn; exact hn) (one3 _ _ _) (by unfold maxLen; omega) (by omega) (by simp; omega) ?_; intro v' w9 hown hgrow _; have S9 := Lib.hid ((S7.out.append (x := ⟨(k : Int), (k4 : Int), (k6 : Int)⟩) hRw hown hgrow).mono (P' := P + 1 + 4 * (k + 1)) (by omega)); clear hown hgrow)
          go_roundw
          case rel => exact ⟨k + 1, out ++ [⟨(k : Int), (k4 : Int), (k6 : Int)⟩], by omega, by go_num, by simp; omega, S9⟩
          case measure => simp [intOf]; omega
        · obtain ⟨zx, x0, x1, x2, q0, q1, q2⟩ := X5.out.tri
          go_wp2_with (at_builtin; refine wpList_append_own _ rfl _ _ 25 rfl w.heap.size 36 i0 _ 3 24 Try.underlying25 hi hz0 hz10 hz20 rfl (by decide) _ out.length (flat out) rfl (S5.out.row.alloc _) ⟨w5.heap.size, 0, none⟩ 1 1 [.int .i64 (k : Int), .int .i64 (k4 : Int), .int .i64 0] rfl rfl (new3 _ _ _ _ _) (one3 _ _ _) (by unfold maxLen; omega) (by omega) (by simp; omega) ?_; intro v' w9 hown hgrow _; have S9 := Lib.hid ((S5.out.append (x := ⟨(k : Int), (k4 : Int), 0⟩) hRw hown hgrow).mono (P' := P + 1 + 4 * (k + 1)) (by omega)); clear hown hgrow)
          go_roundw
          case rel => exact ⟨k + 1, out ++ [⟨(k : Int), (k4 : Int), 0⟩], by omega, by go_num, by simp; omega, S9⟩
          case measure => simp [intOf]; omega
      · have h3' : ((k3 : Int) == 0) = false := by simpa using h3
        go_wp2_with fail
        go_roundw
        case rel => exact ⟨k + 1, out, by omega, by go_num, by omega, Lib.hid (S3.out.mono (by omega))⟩
        case measure => simp [intOf]; omega
    · obtain rfl : k = 8 := by omega
      have HO := Lib.hid HOW
      clear HOW
      by_cases hl0 : out.length = 0
      · have hl0' : ((out.length : Int) == 0) = true := by simp [hl0]
        go_wp2_with fail
        go_ret
        exact ⟨out, A2, c2, rfl, hok, HO.out.sl, S.out.gr⟩
      · have hl0' : ((out.length : Int) == 0) = false := beq_eq_false_iff_ne.2 (by omega)
        have hlp : 0 < out.length := by omega
        have hlpi : (1 : Int) ≤ (out.length : Int) := by omega
        go_wp2_with fail
        refine (pick_rd R A len c _ (out.length : Int) f _ hlen (by omega) (by omega) (by omega) S.out.rd).mono ?_
        rintro e w3 ⟨k3, rfl, hk3, hR3, hg3, hs3, -⟩
        have S3 := Lib.hid (S.out.picked hR3 hg3)
        have O3 := Lib.hid (HO.out.grownFar hg3 (by omega))
        clear hR3 hg3 hs3 S HO
        go_wp2_with fail
        refine (pick_rd R A len c _ 20 f _ hlen (by omega) (by omega) (by omega) S3.out.rd).mono ?_
        rintro e w4 ⟨k4, rfl, hk4, hR4, hg4, hs4, -⟩
        have S4 := Lib.hid (S3.out.picked hR4 hg4)
        have O4 := Lib.hid (O3.out.grownFar hg4 (by omega))
        clear hR4 hg4 hs4 S3 O3
        obtain ⟨x, hx⟩ : ∃ x, out[k3]? = some x := ⟨_, List.getElem?_eq_getElem (by omega)⟩
        have HX := Lib.hid hx
        obtain ⟨xa, xb, xc⟩ := x
        obtain ⟨hA2, ha4⟩ := O4.out hlp
        subst hA2
        have HA4 := Lib.hid ha4
        have hk3n : k3 < out.length := by omega
        clear hx ha4 O4
        by_cases h0 : k4 = 0
        · subst h0
          go_wp2_with fail
          refine (pick_rd R A len c _ 2 f _ hlen (by omega) (by omega) (by omega) S4.out.rd).mono ?_
          rintro e w5 ⟨k5, rfl, hk5, hR5, hg5, hs5, -⟩
          have S5 := Lib.hid (S4.out.picked hR5 hg5)
          have e5 : IntKind.i64.wrap ((k5 : Int) * 11) = (k5 : Int) * 11 := IntWalk.i64_in _ (by omega)
          have e6 : IntKind.i64.wrap ((k5 : Int) * 11 - 1) = (k5 : Int) * 11 - 1 := IntWalk.i64_in _ (by omega)
          have H5 : Hid (Arrk w5 g2 out) := Lib.hid (by
            obtain ⟨cs, hh, hc⟩ := HA4.out
            exact ⟨cs, (hg5.block g2 (heap_lt hh) (fun e => by have := Option.some.inj e; omega)).trans hh, hc⟩)
          obtain ⟨oc, of⟩ : w5.cell? ⟨g2, k3 * 3 + 1, none⟩ = some (.int .i64 xb) ∧ w5.frozen? ⟨g2, k3 * 3 + 1, none⟩ = false := by
            obtain ⟨cs, hh, hc⟩ := H5.out
            exact ⟨by rw [cell_of_row w5 g2 _ cs _ _ hh]; exact ((hc k3 _ HX.out).2.1), heap_frozen hh _⟩
          have T7 := Lib.hid (H5.out.set HX.out (y := ⟨xa, (k5 : Int) * 11 - 1, xc⟩) 1 (by omega) ((k5 : Int) * 11 - 1) rfl rfl rfl)
          clear hR5 hg5 hs5 HA4 S4
          go_wp2_with fail
          go_ret
          refine ⟨out.set k3 ⟨xa, (k5 : Int) * 11 - 1, xc⟩, some ⟨g2, 0, none⟩, c2, by (show Ending.returned (.slice (some ⟨g2, 0, none⟩) out.length c2) = _); rw [List.length_set], by rw [List.length_set]; exact hok, ?_, grown_setFar S5.out.gr (p := ⟨g2, k3 * 3 + 1, none⟩) hg2 _⟩
          exact T7.out.sl T7.out.lt
        · have h0' : ((k4 : Int) == 0) = false := beq_eq_false_iff_ne.2 (by omega)
          by_cases h1 : k4 = 1
          · subst h1
            go_wp2_with fail
            refine (pick_rd R A len c _ 2 f _ hlen (by omega) (by omega) (by omega) S4.out.rd).mono ?_
            rintro e w5 ⟨k5, rfl, hk5, hR5, hg5, hs5, -⟩
            have S5 := Lib.hid (S4.out.picked hR5 hg5)
            have e5 : IntKind.i64.wrap ((k5 : Int) * 4) = (k5 : Int) * 4 := IntWalk.i64_in _ (by omega)
            have e6 : IntKind.i64.wrap ((k5 : Int) * 4 - 1) = (k5 : Int) * 4 - 1 := IntWalk.i64_in _ (by omega)
            have H5 : Hid (Arrk w5 g2 out) := Lib.hid (by
              obtain ⟨cs, hh, hc⟩ := HA4.out
              exact ⟨cs, (hg5.block g2 (heap_lt hh) (fun e => by have := Option.some.inj e; omega)).trans hh, hc⟩)
            obtain ⟨oc, of⟩ : w5.cell? ⟨g2, k3 * 3 + 2, none⟩ = some (.int .i64 xc) ∧ w5.frozen? ⟨g2, k3 * 3 + 2, none⟩ = false := by
              obtain ⟨cs, hh, hc⟩ := H5.out
              exact ⟨by rw [cell_of_row w5 g2 _ cs _ _ hh]; exact ((hc k3 _ HX.out).2.2), heap_frozen hh _⟩
            have T7 := Lib.hid (H5.out.set HX.out (y := ⟨xa, xb, (k5 : Int) * 4 - 1⟩) 2 (by omega) ((k5 : Int) * 4 - 1) rfl rfl rfl)
            clear hR5 hg5 hs5 HA4 S4
            go_wp2_with fail
            go_ret
            refine ⟨out.set k3 ⟨xa, xb, (k5 : Int) * 4 - 1⟩, some ⟨g2, 0, none⟩, c2, by (show Ending.returned (.slice (some ⟨g2, 0, none⟩) out.length c2) = _); rw [List.length_set], by rw [List.length_set]; exact hok, ?_, grown_setFar S5.out.gr (p := ⟨g2, k3 * 3 + 2, none⟩) hg2 _⟩
            exact T7.out.sl T7.out.lt
          · have h1' : ((k4 : Int) == 1) = false := beq_eq_false_iff_ne.2 (by omega)
            by_cases h2 : k4 = 2
            · subst h2
              go_wp2_with fail
              refine (pick_rd R A len c _ 10 f _ hlen (by omega) (by omega) (by omega) S4.out.rd).mono ?_
              rintro e w5 ⟨k5, rfl, hk5, hR5, hg5, hs5, -⟩
              have S5 := Lib.hid (S4.out.picked hR5 hg5)
              have e6 : IntKind.i64.wrap ((k5 : Int) - 1) = (k5 : Int) - 1 := IntWalk.i64_in _ (by omega)
              have H5 : Hid (Arrk w5 g2 out) := Lib.hid (by
                obtain ⟨cs, hh, hc⟩ := HA4.out
                exact ⟨cs, (hg5.block g2 (heap_lt hh) (fun e => by have := Option.some.inj e; omega)).trans hh, hc⟩)
              obtain ⟨oc, of⟩ : w5.cell? ⟨g2, k3 * 3, none⟩ = some (.int .i64 xa) ∧ w5.frozen? ⟨g2, k3 * 3, none⟩ = false := by
                obtain ⟨cs, hh, hc⟩ := H5.out
                exact ⟨by rw [cell_of_row w5 g2 _ cs _ _ hh]; exact ((hc k3 _ HX.out).1), heap_frozen hh _⟩
              have T7 := Lib.hid (H5.out.set HX.out (y := ⟨(k5 : Int) - 1, xb, xc⟩) 0 (by omega) ((k5 : Int) - 1) rfl rfl rfl)
              clear hR5 hg5 hs5 HA4 S4
              go_wp2_with fail
              go_ret
              refine ⟨out.set k3 ⟨(k5 : Int) - 1, xb, xc⟩, some ⟨g2, 0, none⟩, c2, by (show Ending.returned (.slice (some ⟨g2, 0, none⟩) out.length c2) = _); rw [List.length_set], by rw [List.length_set]; exact hok, ?_, grown_setFar S5.out.gr (p := ⟨g2, k3 * 3, none⟩) hg2 _⟩
              exact T7.out.sl T7.out.lt
            · have h2' : ((k4 : Int) == 2) = false := beq_eq_false_iff_ne.2 (by omega)
              have hsl := HA4.out.sl HA4.out.lt
              clear h0 h1 h2
              go_wp2_with fail
              go_ret
              exact ⟨out, some ⟨g2, 0, none⟩, c2, rfl, hok, hsl, S4.out.gr⟩


theorem drawSpeakerElect_any (A : Option Addr) (len c : Nat) (f : Nat → Int) (w : World) (hlc : len ≤ c) (hc : c ≤ maxLen) (hB : Byt w w.heap.size A len f) :
   Calls Try.prog 24 #[.slice A len c] w fun e w' => ∃ (xs : List Lk) (B : Option Addr) (cb : Nat), e = .returned (.slice B xs.length cb) ∧ xs.length ≤ 8 ∧ Sl w' w'.heap.size B xs ∧ Below w.heap.size w w' := by
  have HB := Lib.hid hB
  clear hB
  go_enter Try.func24, Try.ntmps24
  go_wp2_with fail
  refine (open_any A len c f _ hlc hc HB.out).mono ?_
  rintro e w1 ⟨l1, hl1, rfl, hr1, hb1, hs1⟩
  have H1 := Lib.hid hr1
  have B1 := Lib.hid hb1
  have hz1 : w.heap.size ≤ w1.heap.size := by omega
  clear hr1 hb1 HB hs1
  go_wp2_with fail
  refine (l91cand_any _ A l1 c 0 f w1 hl1 (by omega) H1.out).mono ?_
  rintro e w2 ⟨xs, B, cb, rfl, hl8, hsl, hg2⟩
  have B2 := Lib.hid (B1.out.grown hg2 hz1 (fun k e => by injection e with e; omega))
  have HSL := Lib.hid hsl
  clear hg2 hsl
  go_wp2_with fail
  go_ret
  exact ⟨xs, B, cb, rfl, hl8, HSL.out, B2.out⟩

theorem drawSpeakerApply_any (A : Option Addr) (len c : Nat) (f : Nat → Int) (w : World) (hlc : len ≤ c) (hc : c ≤ maxLen) (hB : Byt w w.heap.size A len f) :
   Calls Try.prog 26 #[.slice A len c] w fun e w' => ∃ (xs : List Lk) (B : Option Addr) (cb : Nat), e = .returned (.slice B xs.length cb) ∧ xs.length ≤ 8 ∧ Sl w' w'.heap.size B xs ∧ Below w.heap.size w w' := by
  have HB := Lib.hid hB
  clear hB
  go_enter Try.func26, Try.ntmps26
  go_wp2_with fail
  refine (open_any A len c f _ hlc hc HB.out).mono ?_
  rintro e w1 ⟨l1, hl1, rfl, hr1, hb1, hs1⟩
  have H1 := Lib.hid hr1
  have B1 := Lib.hid hb1
  have hz1 : w.heap.size ≤ w1.heap.size := by omega
  clear hr1 hb1 HB hs1
  go_wp2_with fail
  refine (l91cand_any _ A l1 c 0 f w1 hl1 (by omega) H1.out).mono ?_
  rintro e w2 ⟨xs, B, cb, rfl, hl8, hsl, hg2⟩
  have B2 := Lib.hid (B1.out.grown hg2 hz1 (fun k e => by injection e with e; omega))
  have HSL := Lib.hid hsl
  clear hg2 hsl
  go_wp2_with fail
  go_ret
  exact ⟨xs, B, cb, rfl, hl8, HSL.out, B2.out⟩
end Go.Proofs.Ytcndhodibeofiaa
