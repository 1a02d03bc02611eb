/-
  A contract over this seat: the specification's distances.
-/
import Derived.Test.YtkcnbgimdiggoabA3
import Derived.Test.YtkcnbgimdiggoabA9
import Derived.Deep.DeepCutAuto
namespace Go.Proofs.Ytkcnbgimdiggoab
open Go.RowKit

def fl (n : Nat) (f : Int → Int) : List Int := (List.range n).map fun i : Nat => f (i : Int)
theorem fl_len (n : Nat) (f : Int → Int) : (fl n f).length = n := by simp [fl]
theorem fl_at {n : Nat} {f : Int → Int} {i : Nat} (h : i < n) : (fl n f)[i]? = some (f (i : Int)) := by simp [fl, h]
theorem Arri.cell {W : World} {g : Nat} {xs : List Int} (h : Arri W g xs) {i : Nat} {x : Int} (hx : xs[i]? = some x) : W.cell? ⟨g, i, none⟩ = some (.int .i64 x) := by
  obtain ⟨cs, hh, hc⟩ := h
  exact (cell_of_row W g i cs _ _ hh).trans (hc i x hx)
theorem Arri.frozen {W : World} {g : Nat} {xs : List Int} (h : Arri W g xs) (i : Nat) : W.frozen? ⟨g, i, none⟩ = false := by
  obtain ⟨cs, hh, _⟩ := h
  exact heap_frozen hh i
theorem Arri.set {W : World} {g n : Nat} {f : Int → Int} (h : Arri W g (fl n f)) {i : Nat} (x : Int) (hi : i < n) : Arri (W.setCell ⟨g, i, none⟩ (.int .i64 x)) g (fl n (upd f (i : Int) x)) := by
  obtain ⟨cs, hh, hc⟩ := h
  refine ⟨_, heap_set hh i _, fun k y hk => ?_⟩
  have hkn : k < n := by have := (List.getElem?_eq_some_iff.1 hk).1; rwa [fl_len] at this
  rw [fl_at hkn] at hk
  have hy := Option.some.inj hk
  have hsz := (Array.getElem?_eq_some_iff.1 (hc i _ (fl_at hi))).1
  rw [Array.getElem?_setIfInBounds]
  unfold upd at hy
  by_cases hki : i = k
  · subst hki
    rw [if_pos rfl] at hy
    rw [if_pos rfl, if_pos hsz, hy]
  · rw [if_neg (by omega)] at hy
    rw [if_neg hki, ← hy]
    exact hc k _ (fl_at hkn)

def Bd (f : Int → Int) (M : Int) : Prop := ∀ v, -1 ≤ f v ∧ f v ≤ M
theorem Bd.lower {f : Int → Int} {M : Int} (h : Bd f M) {u v e : Int} (h0 : 0 ≤ e) (he : e ≤ 20) (_hM : 0 ≤ M) : Bd (lower f u v e) (M + 20) := by
  intro x
  have hx := h x
  have hu := h u
  unfold Go.Proofs.Ytkcnbgimdiggoab.lower
  split
  · unfold upd
    split <;> omega
  · omega

/-- The state of the rounds. -/
def LS (w : World) (n : Nat) (A : Option Addr) (len c gd : Nat) (f : Int → Int) (M : Int) (W : World) : Prop :=
  Below w.heap.size w W ∧ w.heap.size < gd ∧ Box W w.heap.size 25 #[.int .i64 (n : Int), .slice A len c] ∧ Arri W gd (fl n f) ∧ Bd f M
theorem LS.alloc {w : World} {n : Nat} {A : Option Addr} {len c gd : Nat} {f : Int → Int} {M : Int} {W : World} (h : LS w n A len c gd f M W) (o : Obj) : LS w n A len c gd f M (W.alloc o) := by
  obtain ⟨h1, h2, h3, h4, h5⟩ := h
  exact ⟨h1.alloc (by have := h3.lt; omega) _, h2, h3.alloc _, h4.below ((Below.refl _ _).alloc (Nat.le_refl _) _) h4.lt, h5⟩
theorem LS.more {w : World} {n : Nat} {A : Option Addr} {len c gd : Nat} {f : Int → Int} {M M' : Int} {W : World} (h : LS w n A len c gd f M W) (hM : M ≤ M') : LS w n A len c gd f M' W := by
  obtain ⟨h1, h2, h3, h4, h5⟩ := h
  exact ⟨h1, h2, h3, h4, fun v => by have := h5 v; omega⟩
theorem LS.drew {w : World} {n : Nat} {A : Option Addr} {len c gd : Nat} {f : Int → Int} {M : Int} {W : World} (h : LS w n A len c gd f M W) : LS w n A len c gd f M W.drew := by
  obtain ⟨h1, h2, h3, h4, h5⟩ := h
  exact ⟨h1.drew, h2, h3, h4, h5⟩
/-- The distance of a link's end is lowered. -/
theorem LS.set {w : World} {n : Nat} {A : Option Addr} {len c gd : Nat} {f : Int → Int} {M : Int} {W : World} (h : LS w n A len c gd f M W) {u : Int} {v : Nat} {e : Int} (hv : v < n) (h0 : 0 ≤ e) (he : e ≤ 20) (hM : 0 ≤ M)
    (hc : 0 ≤ f u ∧ (f (v : Int) < 0 ∨ f u + e < f (v : Int))) : LS w n A len c gd (lower f u (v : Int) e) (M + 20) (W.setCell ⟨gd, v, none⟩ (.int .i64 (f u + e))) := by
  obtain ⟨h1, h2, h3, h4, h5⟩ := h
  refine ⟨h1.setCell (p := ⟨gd, v, none⟩) (by dsimp only; omega) _, h2, (Below.heap_setCell W _ _ _ (by dsimp only; omega)).trans h3, ?_, h5.lower h0 he hM⟩
  have := h4.set (f u + e) hv
  unfold lower
  rwa [if_pos hc]
theorem LS.same {w : World} {n : Nat} {A : Option Addr} {len c gd : Nat} {f : Int → Int} {M : Int} {W : World} (h : LS w n A len c gd f M W) {u v e : Int} (hc : ¬ (0 ≤ f u ∧ (f v < 0 ∨ f u + e < f v))) : LS w n A len c gd (lower f u v e) (M + 20) W := by
  have : lower f u v e = f := by unfold lower; rw [if_neg hc]
  rw [this]
  exact h.more (by omega)

theorem LS.drewN {w : World} {n : Nat} {A : Option Addr} {len c gd : Nat} {f : Int → Int} {M : Int} {W : World} (h : LS w n A len c gd f M W) (q : Nat) : LS w n A len c gd f M (W.drewN q) := by
  induction q with
  | zero => exact h
  | succ q ih => exact ih.drew
theorem Box.drewN {W : World} {b : Nat} {t : TypeId} {cs : Array Value} (h : Box W b t cs) (q : Nat) : Box (W.drewN q) b t cs := by
  induction q with
  | zero => exact h
  | succ q ih => exact ih

theorem foldl_take {f : Int → Int} {ls : List Lk} {i : Nat} {l : Lk} (h : ls[i]? = some l) : (ls.take (i + 1)).foldl relax f = relax ((ls.take i).foldl relax f) l := by
  rw [List.take_add_one, h, Option.toList_some, List.foldl_append]
  rfl

set_option maxRecDepth 100000 in
set_option maxHeartbeats 4000000 in
theorem l2d_any (n : Nat) (A : Option Addr) (ls : List Lk) (c : Nat) (s : Int) (w : World) (hn1 : 1 ≤ n) (hn8 : n ≤ 8) (hl : ls.length ≤ 14) (hf : Fit (n : Int) ls) (hs : 0 ≤ s ∧ s < (n : Int)) (hS : Sl w w.heap.size A ls) :
   Calls Try.prog 46 #[gval (n : Int) A ls.length c, .int .i64 s] w (NewI (fl n (bf (n : Int) ls s)) w) := by
  obtain ⟨i0, hi, hz0, hz1, hz2⟩ := info_parts infoInt
  obtain ⟨sn, rfl⟩ : ∃ sn : Nat, s = (sn : Int) := ⟨s.toNat, by omega⟩
  have hsn : sn < n := by omega
  have HS := Lib.hid hS
  have HF := Lib.hid hf
  clear hS hf hs
  go_enter Try.func46, Try.ntmps46
  go_wp2
  have G1 := (Box.new w 25 #[.int .i64 (n : Int), .slice A ls.length c]).alloc (.cells #[] 3)
  have E1 := Box.new (w.alloc (.cells #[.int .i64 (n : Int), .slice A ls.length c] 25)) 3 #[]
  rw [World.size_alloc] at E1
  have B1 : Below w.heap.size w ((w.alloc (.cells #[.int .i64 (n : Int), .slice A ls.length c] 25)).alloc (.cells #[] 3)) := by (repeat (first | exact Below.refl _ _ | (refine Below.alloc ?_ (by first | exact Nat.le_refl _ | omega | (simp; done) | (simp; omega)) _) | (refine Below.setCell ?_ (by first | exact Nat.le_refl _ | omega | (simp; done) | (simp; omega)) _) | exact Below.drew ‹_›))
  have R1 : World.ownsRow ((w.alloc (.cells #[.int .i64 (n : Int), .slice A ls.length c] 25)).alloc (.cells #[] 3)) (w.heap.size + 1) 3 1 (.slice (some ⟨w.heap.size + 1, 0, none⟩) 0 0) 0 [] := ⟨by simp, .inr ⟨w.heap.size + 1, 0, #[], rfl, Nat.le_refl _, E1, Nat.le_refl _, by omega, rfl, by simp⟩⟩
  generalize (w.alloc (.cells #[.int .i64 (n : Int), .slice A ls.length c] 25)).alloc (.cells #[] 3) = W1 at *
  have HG1 := Lib.hid G1
  have HB1 := Lib.hid B1
  have HR1 := Lib.hid R1
  clear G1 E1 B1 R1
  go_loopw [5, 6] (fun v5 v6 wr => ∃ k : Nat, k ≤ n ∧ v6 = .int .i64 k ∧ wr.ownsRow (w.heap.size + 1) 3 1 v5 k (List.replicate k (.int .i64 (-1))) ∧ Box wr w.heap.size 25 #[.int .i64 (n : Int), .slice A ls.length c] ∧ Below w.heap.size w wr) (fun _ v6 _ => n - (intOf v6).toNat)
  case atStart => exact ⟨0, Nat.zero_le _, rfl, HR1.out, HG1.out, HB1.out⟩
  case round =>
    obtain ⟨k, hk, rfl, hr, hg, hb⟩ := hrel
    have g0 : wr.cell? ⟨w.heap.size, 0, none⟩ = some (.int .i64 (n : Int)) := hg.cell 0
    have zg := hg.lt
    have HR := Lib.hid hr
    have HG := Lib.hid hg
    have HB := Lib.hid hb
    clear hr hg hb HG1 HB1 HR1
    by_cases hlt : k < n
    · go_wp2_with (at_builtin; refine wpList_append_own _ rfl _ _ 28 rfl (w.heap.size + 1) 3 i0 _ 1 8 Try.underlying28 hi hz0 hz1 hz2 rfl (by decide) _ k _ rfl (HR.out.alloc _) ⟨wr.heap.size, 0, none⟩ 1 1 [.int .i64 (-1)] rfl rfl (fun j u h => by obtain rfl : j = 0 := (by have := (List.getElem?_eq_some_iff.1 h).1; simpa using this); cases h; exact (Box.new wr 3 #[.int .i64 (-1)]).cell 0) (fun u hu => by simp at hu; subst hu; rfl) (by unfold maxLen; omega) (by omega) (by simp; omega) ?_; intro v' w3 hown' hgrow _; have HO := Lib.hid hown'; have HW := Lib.hid hgrow; clear hown' hgrow)
      go_roundw
      case rel =>
        have hl := HR.out.lt
        refine ⟨k + 1, hlt, by go_num, by rw [List.replicate_succ']; exact HO.out, ?_, ?_⟩
        · exact (HW.out.block _ (by simp; omega) (fun e => by have := (hl _ e.symm).1; omega)).trans (HG.out.alloc _)
        · exact (HB.out.alloc (by omega) _).grown HW.out (by simp; omega) (fun j e => by have := (hl j e).1; omega)
      case measure => simp [intOf]; omega
    · obtain rfl : k = n := by omega
      have hr := HR.out
      rw [show List.replicate k (Value.int .i64 (-1)) = (fl k (fun _ => -1)).map (Value.int .i64) by
        unfold fl
        refine List.ext_getElem (by simp) fun i h1 h2 => by simp] at hr
      obtain ⟨D, gd, cd, rfl, hgd, hlen, ho⟩ := own_slicei hr (by omega)
      obtain ⟨rfl, harr⟩ := ho (by rw [fl_len]; omega)
      rw [fl_len] at hlen
      have hq := harr.frozen sn
      have hc0 := harr.cell (fl_at hsn)
      have zgd := harr.lt
      have hL0 : LS w k A ls.length c gd (d0 (sn : Int)) 0 (wr.setCell ⟨gd, sn, none⟩ (.int .i64 0)) := by
        refine ⟨HB.out.setCell (p := ⟨gd, sn, none⟩) (by dsimp only; omega) _, by omega, (Below.heap_setCell wr _ _ _ (by dsimp only; omega)).trans HG.out, harr.set 0 hsn, fun v => ?_⟩
        unfold d0 upd
        split <;> first | omega | (dsimp only; omega)
      have HL0 := Lib.hid hL0
      simp only [fl_len]
      clear hr ho harr hlen hgd hL0
      go_wp2
      generalize wr.setCell ⟨gd, sn, none⟩ (.int .i64 0) = W2 at *
      clear hq hc0 zgd g0 zg HR HG HB
      go_loopw [7] (fun v7 wr => ∃ r : Nat, r ≤ k ∧ v7 = .int .i64 r ∧ LS w k A ls.length c gd (rnds ls (d0 (sn : Int)) r) (560 * r) wr) (fun v7 _ => k - (intOf v7).toNat)
      case atStart => exact ⟨0, Nat.zero_le _, rfl, HL0.out⟩
      case round =>
        obtain ⟨r, hr, rfl, hls⟩ := hrel
        have HL := Lib.hid hls
        have g0 : wr.cell? ⟨w.heap.size, 0, none⟩ = some (.int .i64 (k : Int)) := hls.2.2.1.cell 0
        have g1 : wr.cell? ⟨w.heap.size, 1, none⟩ = some (.slice A ls.length c) := hls.2.2.1.cell 1
        clear hls HL0
        by_cases hrk : r < k
        · go_wp2
          go_loopw [8] (fun v8 wi => ∃ i : Nat, i ≤ ls.length ∧ v8 = .int .i64 i ∧ LS w k A ls.length c gd ((ls.take i).foldl relax (rnds ls (d0 (sn : Int)) r)) (560 * r + 40 * i) wi) (fun v8 _ => ls.length - (intOf v8).toNat)
          case atStart => exact ⟨0, Nat.zero_le _, rfl, by simpa using HL.out⟩
          case round =>
            obtain ⟨i, hil, rfl, hls⟩ := hrel
            clear HL g0 g1
            have g1 : wr.cell? ⟨w.heap.size, 1, none⟩ = some (.slice A ls.length c) := hls.2.2.1.cell 1
            have HL := Lib.hid hls
            have zg := hls.2.2.1.lt
            by_cases hlt : i < ls.length
            · obtain ⟨lk, hlk⟩ : ∃ x, ls[i]? = some x := ⟨_, List.getElem?_eq_getElem hlt⟩
              obtain ⟨b, off, rfl, hbb, hc1, hc2, hc3⟩ := (HS.out.below hls.1) i lk hlk
              have hmem := List.mem_of_getElem? hlk
              have ha0 := HF.out.a0 lk hmem
              have hab := HF.out.ab lk hmem
              have hbn := HF.out.bn lk hmem
              have hc1' := HF.out.c1 lk hmem
              have hc20 := HF.out.c20 lk hmem
              have HK := Lib.hid hlk
              clear hls hlk hmem
              obtain ⟨la, lb, lc⟩ := lk
              dsimp only at *
              obtain ⟨a, rfl⟩ : ∃ a : Nat, la = (a : Int) := ⟨la.toNat, by omega⟩
              obtain ⟨d, rfl⟩ : ∃ d : Nat, lb = (d : Int) := ⟨lb.toNat, by omega⟩
              have han : a < k := by omega
              have hdn : d < k := by omega
              have hX := HL.out.alloc (.cells #[.int .i64 (a : Int), .int .i64 (d : Int), .int .i64 lc] 68)
              have bX := Box.new wr 68 #[.int .i64 (a : Int), .int .i64 (d : Int), .int .i64 lc]
              go_upto_region 14 with fail
              clear hc1 hc2 hc3 hbb g1 zg
              have HIL := Lib.hid hil
              have HFF := Lib.hid (foldl_take (f := rnds ls (d0 (sn : Int)) r) HK.out)
              have hgb : gd < wr.heap.size := HL.out.2.2.2.1.lt
              clear HL HK hil
              generalize wr.alloc (.cells #[.int .i64 (a : Int), .int .i64 (d : Int), .int .i64 lc] 68) = WX at *
              generalize wr.heap.size = bx at *
              generalize hfd : (ls.take i).foldl relax (rnds ls (d0 (sn : Int)) r) = f at *
              clear hfd
              have HLX := Lib.hid hX
              have HBX := Lib.hid bX
              have hb1 := hX.2.2.2.2 (a : Int)
              have hb2 := hX.2.2.2.2 (d : Int)
              have hr8 : r ≤ 8 := by omega
              have hi14 : i ≤ 14 := by omega
              have hbd : (560 * (r : Int) + 40 * (i : Int)) ≤ 6000 := by omega
              have e0 : WX.cell? ⟨bx, 0, none⟩ = some (.int .i64 (a : Int)) := bX.cell 0
              have e1 : WX.cell? ⟨bx, 1, none⟩ = some (.int .i64 (d : Int)) := bX.cell 1
              have e2 : WX.cell? ⟨bx, 2, none⟩ = some (.int .i64 lc) := bX.cell 2
              have da := hX.2.2.2.1.cell (fl_at han)
              have dd := hX.2.2.2.1.cell (fl_at hdn)
              have fq := hX.2.2.2.1.frozen
              clear hX bX
              go_cut [70] (fun sx wx => ∃ bb : Bool, sx = .bool bb ∧ (bb = true ↔ 0 ≤ f (a : Int) ∧ (f (d : Int) < 0 ∨ f (a : Int) + lc < f (d : Int))) ∧ ∃ q, wx = WX.drewN q)
              case first =>
                by_cases hA : 0 ≤ f (a : Int)
                · by_cases hB : f (d : Int) < 0
                  · go_quiet (fail); go_wp2
                    go_meet
                    case rel => exact ⟨_, rfl, by simp; omega, _, rfl⟩
                  · have hB' : decide (f (d : Int) < 0) = false := by simpa using hB
                    go_quiet (fail); go_wp2
                    go_meet
                    case rel => exact ⟨_, rfl, by simp; omega, _, rfl⟩
                · have hA' : decide (0 ≤ f (a : Int)) = false := by simpa using hA
                  go_quiet (fail); go_wp2
                  go_meet
                  case rel => exact ⟨_, rfl, by simp; omega, _, rfl⟩
              case rest =>
                obtain ⟨b1, rfl, hc1, q, rfl⟩ := hcut
                have LSX0 := Lib.hid (HLX.out.drewN q)
                have BOX0 := Lib.hid (HBX.out.drewN q)
                clear HLX HBX e0 e1 e2 da dd fq
                generalize WX.drewN q = WX1 at *
                cases b1 with
                | true =>
                  have hcc := Lib.hid (hc1.1 rfl)
                  clear hc1
                  have e0 : WX1.cell? ⟨bx, 0, none⟩ = some (.int .i64 (a : Int)) := BOX0.out.cell 0
                  have e1 : WX1.cell? ⟨bx, 1, none⟩ = some (.int .i64 (d : Int)) := BOX0.out.cell 1
                  have e2 : WX1.cell? ⟨bx, 2, none⟩ = some (.int .i64 lc) := BOX0.out.cell 2
                  have da := LSX0.out.2.2.2.1.cell (fl_at han)
                  have dd := LSX0.out.2.2.2.1.cell (fl_at hdn)
                  have fq := LSX0.out.2.2.2.1.frozen
                  have hb1 := LSX0.out.2.2.2.2 (a : Int)
                  have hb2 := LSX0.out.2.2.2.2 (d : Int)
                  go_upto_region 15 with fail
                  go_region
                  all_goals
                    have LSX1 := (LSX0.out.set (u := (a : Int)) (v := d) (e := lc) hdn (by omega) hc20 (by omega) hcc.out).drew
                    have BOX1 : Box ((WX1.setCell ⟨gd, d, none⟩ (.int .i64 (f (a : Int) + lc))).drew) bx 68 #[.int .i64 (a : Int), .int .i64 (d : Int), .int .i64 lc] := (Below.heap_setCell WX1 _ _ _ (by dsimp only; omega)).trans BOX0.out
                    generalize (WX1.setCell ⟨gd, d, none⟩ (.int .i64 (f (a : Int) + lc))).drew = WY at *
                    obtain ⟨f1, hf1⟩ : ∃ f1, lower f (a : Int) (d : Int) lc = f1 := ⟨_, rfl⟩
                    rw [hf1] at LSX1
                    have HF1 := Lib.hid hf1.symm
                    have LSX := Lib.hid LSX1
                    have BOX := Lib.hid BOX1
                    clear LSX0 BOX0 LSX1 BOX1 hf1 hcc
                    clear e0 e1 e2 da dd fq hb1 hb2
                    have e0 : WY.cell? ⟨bx, 0, none⟩ = some (.int .i64 (a : Int)) := BOX.out.cell 0
                    have e1 : WY.cell? ⟨bx, 1, none⟩ = some (.int .i64 (d : Int)) := BOX.out.cell 1
                    have e2 : WY.cell? ⟨bx, 2, none⟩ = some (.int .i64 lc) := BOX.out.cell 2
                    have da := LSX.out.2.2.2.1.cell (fl_at han)
                    have dd := LSX.out.2.2.2.1.cell (fl_at hdn)
                    have fq := LSX.out.2.2.2.1.frozen
                    have hb1 := LSX.out.2.2.2.2 (a : Int)
                    have hb2 := LSX.out.2.2.2.2 (d : Int)
                    go_upto_region 16 with fail
                    go_cut [112] (fun sx wx => ∃ bb : Bool, sx = .bool bb ∧ (bb = true ↔ 0 ≤ f1 (d : Int) ∧ (f1 (a : Int) < 0 ∨ f1 (d : Int) + lc < f1 (a : Int))) ∧ ∃ q, wx = WY.drewN q)
                    case first =>
                      by_cases hA : 0 ≤ f1 (d : Int)
                      · by_cases hB : f1 (a : Int) < 0
                        · go_quiet (fail); go_wp2
                          go_meet
                          case rel => exact ⟨_, rfl, by simp; omega, _, rfl⟩
                        · have hB' : decide (f1 (a : Int) < 0) = false := by simpa using hB
                          go_quiet (fail); go_wp2
                          go_meet
                          case rel => exact ⟨_, rfl, by simp; omega, _, rfl⟩
                      · have hA' : decide (0 ≤ f1 (d : Int)) = false := by simpa using hA
                        go_quiet (fail); go_wp2
                        go_meet
                        case rel => exact ⟨_, rfl, by simp; omega, _, rfl⟩
                    case rest =>
                      obtain ⟨b2, rfl, hc2, q2, rfl⟩ := hcut
                      have LSY := Lib.hid (LSX.out.drewN q2)
                      have BOY := Lib.hid (BOX.out.drewN q2)
                      clear LSX BOX e0 e1 e2 da dd fq
                      generalize WY.drewN q2 = WZ at *
                      cases b2 with
                      | true =>
                        have hcc := Lib.hid (hc2.1 rfl)
                        clear hc2
                        have e0 : WZ.cell? ⟨bx, 0, none⟩ = some (.int .i64 (a : Int)) := BOY.out.cell 0
                        have e1 : WZ.cell? ⟨bx, 1, none⟩ = some (.int .i64 (d : Int)) := BOY.out.cell 1
                        have e2 : WZ.cell? ⟨bx, 2, none⟩ = some (.int .i64 lc) := BOY.out.cell 2
                        have da := LSY.out.2.2.2.1.cell (fl_at han)
                        have dd := LSY.out.2.2.2.1.cell (fl_at hdn)
                        have fq := LSY.out.2.2.2.1.frozen
                        have hb1 := LSY.out.2.2.2.2 (a : Int)
                        have hb2 := LSY.out.2.2.2.2 (d : Int)
                        go_upto_region 17 with fail
                        go_region
                        all_goals go_wp2
                        all_goals
                          go_roundw
                          case rel =>
                            refine ⟨i + 1, hlt, by go_num, ?_⟩
                            rw [HFF.out]
                            have h := (LSY.out.set (u := (d : Int)) (v := a) (e := lc) han (by omega) hc20 (by omega) hcc.out).drew
                            have hfin := h.more (M' := 560 * (r : Int) + 40 * ((i + 1 : Nat) : Int)) (by omega)
                            rw [show relax f ⟨(a : Int), (d : Int), lc⟩ = lower f1 (d : Int) (a : Int) lc by rw [HF1.out]; rfl]
                            exact hfin
                          case measure => simp [intOf]; omega
                      | false =>
                        have hcc := Lib.hid (fun h => Bool.false_ne_true (hc2.2 h))
                        clear hc2
                        go_wp2
                        go_roundw
                        case rel =>
                          refine ⟨i + 1, hlt, by go_num, ?_⟩
                          rw [HFF.out]
                          have h := LSY.out.same (u := (d : Int)) (v := (a : Int)) (e := lc) hcc.out
                          have hfin := h.more (M' := 560 * (r : Int) + 40 * ((i + 1 : Nat) : Int)) (by omega)
                          rw [show relax f ⟨(a : Int), (d : Int), lc⟩ = lower f1 (d : Int) (a : Int) lc by rw [HF1.out]; rfl]
                          exact hfin
                        case measure => simp [intOf]; omega
                | false =>
                  have hcc := Lib.hid (fun h => Bool.false_ne_true (hc1.2 h))
                  clear hc1
                  have LSX1 := LSX0.out.same (u := (a : Int)) (v := (d : Int)) (e := lc) hcc.out
                  obtain ⟨f1, hf1⟩ : ∃ f1, lower f (a : Int) (d : Int) lc = f1 := ⟨_, rfl⟩
                  rw [hf1] at LSX1
                  have HF1 := Lib.hid hf1.symm
                  have LSX := Lib.hid LSX1
                  have BOX := Lib.hid BOX0.out
                  clear LSX0 BOX0 LSX1 hf1 hcc hb1 hb2
                  generalize WX1 = WY at *
                  have e0 : WY.cell? ⟨bx, 0, none⟩ = some (.int .i64 (a : Int)) := BOX.out.cell 0
                  have e1 : WY.cell? ⟨bx, 1, none⟩ = some (.int .i64 (d : Int)) := BOX.out.cell 1
                  have e2 : WY.cell? ⟨bx, 2, none⟩ = some (.int .i64 lc) := BOX.out.cell 2
                  have da := LSX.out.2.2.2.1.cell (fl_at han)
                  have dd := LSX.out.2.2.2.1.cell (fl_at hdn)
                  have fq := LSX.out.2.2.2.1.frozen
                  have hb1 := LSX.out.2.2.2.2 (a : Int)
                  have hb2 := LSX.out.2.2.2.2 (d : Int)
                  go_upto_region 16 with fail
                  go_cut [112] (fun sx wx => ∃ bb : Bool, sx = .bool bb ∧ (bb = true ↔ 0 ≤ f1 (d : Int) ∧ (f1 (a : Int) < 0 ∨ f1 (d : Int) + lc < f1 (a : Int))) ∧ ∃ q, wx = WY.drewN q)
                  case first =>
                    by_cases hA : 0 ≤ f1 (d : Int)
                    · by_cases hB : f1 (a : Int) < 0
                      · go_quiet (fail); go_wp2
                        go_meet
                        case rel => exact ⟨_, rfl, by simp; omega, _, rfl⟩
                      · have hB' : decide (f1 (a : Int) < 0) = false := by simpa using hB
                        go_quiet (fail); go_wp2
                        go_meet
                        case rel => exact ⟨_, rfl, by simp; omega, _, rfl⟩
                    · have hA' : decide (0 ≤ f1 (d : Int)) = false := by simpa using hA
                      go_quiet (fail); go_wp2
                      go_meet
                      case rel => exact ⟨_, rfl, by simp; omega, _, rfl⟩
                  case rest =>
                    obtain ⟨b2, rfl, hc2, q2, rfl⟩ := hcut
                    have LSY := Lib.hid (LSX.out.drewN q2)
                    have BOY := Lib.hid (BOX.out.drewN q2)
                    clear LSX BOX e0 e1 e2 da dd fq
                    generalize WY.drewN q2 = WZ at *
                    cases b2 with
                    | true =>
                      have hcc := Lib.hid (hc2.1 rfl)
                      clear hc2
                      have e0 : WZ.cell? ⟨bx, 0, none⟩ = some (.int .i64 (a : Int)) := BOY.out.cell 0
                      have e1 : WZ.cell? ⟨bx, 1, none⟩ = some (.int .i64 (d : Int)) := BOY.out.cell 1
                      have e2 : WZ.cell? ⟨bx, 2, none⟩ = some (.int .i64 lc) := BOY.out.cell 2
                      have da := LSY.out.2.2.2.1.cell (fl_at han)
                      have dd := LSY.out.2.2.2.1.cell (fl_at hdn)
                      have fq := LSY.out.2.2.2.1.frozen
                      have hb1 := LSY.out.2.2.2.2 (a : Int)
                      have hb2 := LSY.out.2.2.2.2 (d : Int)
                      go_upto_region 17 with fail
                      go_region
                      all_goals go_wp2
                      all_goals
                        go_roundw
                        case rel =>
                          refine ⟨i + 1, hlt, by go_num, ?_⟩
                          rw [HFF.out]
                          have h := (LSY.out.set (u := (d : Int)) (v := a) (e := lc) han (by omega) hc20 (by omega) hcc.out).drew
                          have hfin := h.more (M' := 560 * (r : Int) + 40 * ((i + 1 : Nat) : Int)) (by omega)
                          rw [show relax f ⟨(a : Int), (d : Int), lc⟩ = lower f1 (d : Int) (a : Int) lc by rw [HF1.out]; rfl]
                          exact hfin
                        case measure => simp [intOf]; omega
                    | false =>
                      have hcc := Lib.hid (fun h => Bool.false_ne_true (hc2.2 h))
                      clear hc2
                      go_wp2
                      go_roundw
                      case rel =>
                        refine ⟨i + 1, hlt, by go_num, ?_⟩
                        rw [HFF.out]
                        have h := LSY.out.same (u := (d : Int)) (v := (a : Int)) (e := lc) hcc.out
                        have hfin := h.more (M' := 560 * (r : Int) + 40 * ((i + 1 : Nat) : Int)) (by omega)
                        rw [show relax f ⟨(a : Int), (d : Int), lc⟩ = lower f1 (d : Int) (a : Int) lc by rw [HF1.out]; rfl]
                        exact hfin
                      case measure => simp [intOf]; omega
            · obtain rfl : i = ls.length := by omega
              clear hls
              go_wp2
              go_roundw
              case rel =>
                refine ⟨r + 1, hrk, by go_num, ?_⟩
                have h := HL.out.more (M' := 560 * ((r + 1 : Nat) : Int)) (by omega)
                rw [List.take_length] at h
                exact h
              case measure => simp [intOf]; omega
        · obtain rfl : r = k := by omega
          go_wp2
          go_ret
          obtain ⟨h1, h2, _, h4, _⟩ := HL.out
          have e : rnds ls (d0 (sn : Int)) r = bf (r : Int) ls (sn : Int) := by unfold bf; rw [Int.toNat_natCast]
          rw [e] at h4
          exact ⟨some ⟨gd, 0, none⟩, gd, cd, by rw [fl_len]; rfl, by omega, fun _ => ⟨rfl, h4⟩, h1⟩
end Go.Proofs.Ytkcnbgimdiggoab
