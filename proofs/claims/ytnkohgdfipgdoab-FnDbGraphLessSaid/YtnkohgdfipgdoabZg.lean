/-
  Contracts over this seat: the specification's DbMissing, and what an origin announces.
-/
import Derived.Test.YtnkohgdfipgdoabZd
namespace Go.Proofs.Ytnkohgdfipgdoab
open Go.RowKit Go.Maps

/-- Numbers in a row that is newer than a world. -/
structure QI (w : World) (v : Value) (out : List Int) (W : World) : Prop where
  row : W.ownsRow w.heap.size 3 1 v out.length (out.map (Value.int .i64))
  bel : Below w.heap.size w W
theorem QI.call {w : World} {v : Value} {out : List Int} {W W' : World} (h : QI w v out W) (hb : Below W.heap.size W W') : QI w v out W' :=
  ⟨owns_kept h.row hb, h.bel.trans (hb.mono h.bel.size)⟩
theorem QI.append {w W W' : World} {v v' : Value} {out : List Int} {x : Int} {o : Obj} (h : QI w v out W) (hown : W'.ownsRow w.heap.size 3 1 v' (out.length + 1) (out.map (Value.int .i64) ++ [.int .i64 x])) (hg : (W.alloc o).grownBy W' v.ownBlock) : QI w v' (out ++ [x]) W' := by
  have hz := h.bel.size
  refine ⟨by rw [List.length_append, List.map_append]; exact hown, ?_⟩
  exact (h.bel.alloc hz _).grown hg (by simp; omega) (fun j e => (h.row.lt j e).1)
theorem QI.done {w : World} {v : Value} {out : List Int} {W : World} (h : QI w v out W) : NewI out w (.returned v) W := by
  obtain ⟨A, g, c, e, hg, _, ho⟩ := own_slicei h.row h.bel.size
  exact ⟨A, g, c, by rw [e], hg, ho, h.bel⟩

def missD (db other : List La) : List Int := if dbB db && dbB other then missL db other else []
theorem missB_find (zs : List Lz) (z : Lz) : missB (datL zs) z.d = match findZ zs z.o with
    | some x => decide (x.q < z.q)
    | none => true := by
  unfold missB
  rw [findZ_get]
  cases findZ zs z.o <;> rfl
theorem missL_next {zs os : List Lz} {k : Nat} {z : Lz} (h : os[k]? = some z) : (((datL os).take (k + 1)).filter (missB (datL zs))).map La.o = (((datL os).take k).filter (missB (datL zs))).map La.o ++ (if missB (datL zs) z.d = true then [z.o] else []) := by
  rw [filter_next (p := missB (datL zs)) h, List.map_append]
  congr 1
  split <;> rfl

set_option maxRecDepth 100000 in
set_option maxHeartbeats 1600000 in
theorem dbMissing_spec (A : Option Addr) (zs : List Lz) (c : Nat) (B : Option Addr) (os : List Lz) (cb : Nat) (w : World) (hm : zs.length ≤ 1000000) (hes : ∀ z ∈ zs, z.es.length ≤ 2000000) (hmo : os.length ≤ 1000000) (hoe : ∀ z ∈ os, z.es.length ≤ 2000000) (hS : Slz w w.heap.size A zs) (hO : Slz w w.heap.size B os) :
   Calls Try.prog 29 #[.slice A zs.length c, .slice B os.length cb] w (NewI (missD (datL zs) (datL os)) w) := by
  obtain ⟨i0, hi, hz0, hz10, hz20⟩ := info_parts infoInt
  have HS := Lib.hid hS
  have HO := Lib.hid hO
  have CV := fun W (h : Slz W W.heap.size A zs) => dbValid_spec A zs c W (by omega) hes h
  have CW := fun W (h : Slz W W.heap.size B os) => dbValid_spec B os cb W (by omega) hoe h
  have CF := fun (o : Int) W (h : Slz W W.heap.size A zs) => l11find_any A zs c o W (by omega) h
  have Q0 := Lib.hid (show QI w (.slice (some ⟨w.heap.size, 0, none⟩) 0 0) [] (w.alloc (.cells #[] 3)) from ⟨⟨by simp, .inr ⟨w.heap.size, 0, #[], rfl, Nat.le_refl _, Box.new w 3 #[], Nat.le_refl _, by omega, rfl, by simp⟩⟩, by (repeat (first | exact Below.refl _ _ | (refine Below.alloc ?_ (by first | exact Nat.le_refl _ | omega | (simp; done) | (simp; omega)) _) | (refine Below.setCell ?_ (by first | exact Nat.le_refl _ | omega | (simp; done) | (simp; omega)) _) | exact Below.drew ‹_›))⟩)
  clear hS hO hes hoe
  by_cases hbb : dbB (datL zs) = true ∧ dbB (datL os) = true
  · obtain ⟨h1, h2⟩ := hbb
    rw [h1] at CV
    rw [h2] at CW
    have HP : Hid (missD (datL zs) (datL os) = missL (datL zs) (datL os)) := Lib.hid (by unfold missD; rw [h1, h2]; rfl)
    clear h1 h2
    go_enter Try.func29, Try.ntmps29
    go_wp2_with fail
    go_loopw [5, 6] (fun v i wr => ∃ (k : Nat) (out : List Int), k ≤ os.length ∧ i = .int .i64 (k : Int) ∧ Hid (out = (((datL os).take k).filter (missB (datL zs))).map La.o) ∧ out.length ≤ k ∧ QI w v out wr) (fun _ i _ => os.length - (intOf i).toNat)
    case atStart => exact ⟨0, [], Nat.zero_le _, rfl, Lib.hid rfl, Nat.le_refl _, Q0.out⟩
    case round =>
      obtain ⟨k, out, hk, rfl, HD, hok, hq⟩ := hrel
      have Q1 := Lib.hid hq
      obtain ⟨A9, g9, c9, rfl, -, -, -⟩ := own_slicei hq.row hq.bel.size
      clear hq Q0
      by_cases hlt : k < os.length
      · have hlti : (k : Int) < (os.length : Int) := by omega
        go_wp2_with fail
        refine (CV wr ((HS.out.below Q1.out.bel).more Q1.out.bel.size)).mono ?_
        rintro e w1 ⟨rfl, hb1⟩
        have Q2 := Lib.hid (Q1.out.call hb1)
        clear hb1 Q1
        go_wp2_with fail
        refine (CW w1 ((HO.out.below Q2.out.bel).more Q2.out.bel.size)).mono ?_
        rintro e w2 ⟨rfl, hb2⟩
        have Q3 := Lib.hid (Q2.out.call hb2)
        clear hb2 Q2
        obtain ⟨x, hx⟩ : ∃ x, os[k]? = some x := ⟨_, List.getElem?_eq_getElem hlt⟩
        obtain ⟨b, off, rfl, hbw, hc1, -, -, -⟩ := (HO.out.below Q3.out.bel) k x hx
        have z2 : b < w2.heap.size := by have := Q3.out.bel.size; omega
        have HX := Lib.hid hx
        have HN := Lib.hid (missL_next (zs := zs) hx)
        have HMB := Lib.hid (missB_find zs x)
        obtain ⟨zo, zq, zes, zA, zc, zg⟩ := x
        dsimp only at hc1
        clear hx
        go_wp2_with fail
        refine (CF zo w2 ((HS.out.below Q3.out.bel).more Q3.out.bel.size)).mono ?_
        rintro e w3 ⟨rfl, hb3⟩
        have Q4 := Lib.hid (Q3.out.call hb3)
        clear hb3 Q3 hc1 z2
        cases hf : findZ zs zo with
        | none =>
          have HM : Hid (missB (datL zs) ⟨zo, zq, zes⟩ = true) := Lib.hid (by have := HMB.out; rw [hf] at this; exact this)
          clear hf HMB
          unfold fndV
          have Q5 := Lib.hid (Q4.out.call ((Below.refl _ _).alloc (Nat.le_refl _) (.cells #[.int .i64 0, .int .i64 0, .slice none 0 0] 54)))
          have X5 := Lib.hid (Box.new w3 54 #[.int .i64 0, .int .i64 0, .slice none 0 0])
          go_wp2_with fail
          have hzw := Q5.out.bel.size
          generalize w3.alloc (.cells #[.int .i64 0, .int .i64 0, .slice none 0 0] 54) = W5 at *
          generalize w3.heap.size = ob at *
          obtain ⟨zob, p0, p1, p2, -, -, -⟩ := X5.out.three
          obtain ⟨b3, off3, e3, hb3, hd1, hd2, -, -⟩ := (HO.out.below Q5.out.bel) k ⟨zo, zq, zes, zA, zc, zg⟩ HX.out
          cases e3
          have z5 : b < W5.heap.size := by omega
          dsimp only at hd1 hd2
          have Q6 := Lib.hid (show QI w (.slice A9 out.length c9) out W5.drew from ⟨Q5.out.row, Q5.out.bel.drew⟩)
          have hX := fun (x : Ext W5.drew) (bb oo : Nat) (h : bb < W5.heap.size) => (show x.w.cell? ⟨bb, oo, none⟩ = W5.cell? ⟨bb, oo, none⟩ from x.cell bb oo h)
          refine wp_region_staged 12 (by kernel_rfl) (by kernel_rfl) ?_
          refine stage_seg _ 0 [0, 1, 2, 3, 4, 5, 6, 7, 8, 9, 10, 11] (by kernel_rfl) (by kernel_rfl) (by kernel_rfl) (by kernel_rfl) ?_
          (simp only [List.map_cons, List.map_nil, List.getElem?_cons_zero, List.getElem?_cons_succ, Option.getD_some]); (repeat (go_big_quiet_step (fail))); (refine wpQuiet_nil ?_)
          refine stage_end (by kernel_rfl) ?_
          have hd1 : W5.drew.cell? ⟨b, off + k * 3, none⟩ = some (.int .i64 zo) := hd1
          have z5 : b < W5.drew.heap.size := z5
          clear hX p0 p1 p2 zob X5 Q4 Q5 hd2
          generalize W5.drew = W6 at *
          go_wp2_with (at_builtin; refine wpList_append_own_at _ rfl _ _ 39 rfl w.heap.size 3 i0 _ 1 8 Try.underlying39 hi hz0 hz10 hz20 rfl (by decide) _ out.length _ rfl (owns_kept Q6.out.row ((Below.refl _ _).alloc (Nat.le_refl _) _)) ⟨W6.heap.size, 0, none⟩ 1 1 [.int .i64 zo] rfl rfl (cell_one_new _ _ _) (fun u hu => by simp at hu; subst hu; rfl) (by unfold maxLen; omega) (by omega) (by have := Q6.out.bel.size; simp; omega) ?_; intro v' w9 hown' hgrow hnil hat; have Q9 := Lib.hid (Q6.out.append (x := zo) hown' hgrow); clear hown' hgrow hnil hat)
          go_roundw
          case rel => exact ⟨k + 1, out ++ [zo], hlt, by go_num, Lib.hid (by
            have h1 := HN.out
            rw [if_pos HM.out] at h1
            rw [h1, ← HD.out]), by simp; omega, Q9.out⟩
          case measure => simp [intOf]; omega
        | some y =>
          obtain ⟨yo, yq, yes, yA, yc, yg⟩ := y
          unfold fndV
          have Q5 := Lib.hid (Q4.out.call ((Below.refl _ _).alloc (Nat.le_refl _) (.cells #[.int .i64 yo, .int .i64 yq, .slice yA yes.length yc] 54)))
          have X5 := Lib.hid (Box.new w3 54 #[.int .i64 yo, .int .i64 yq, .slice yA yes.length yc])
          by_cases hq : yq < zq
          · have HM : Hid (missB (datL zs) ⟨zo, zq, zes⟩ = true) := Lib.hid (by have := HMB.out; rw [hf] at this; rw [this]; exact decide_eq_true hq)
            clear hf HMB
            go_wp2_with fail
            have hzw := Q5.out.bel.size
            generalize w3.alloc (.cells #[.int .i64 yo, .int .i64 yq, .slice yA yes.length yc] 54) = W5 at *
            generalize w3.heap.size = ob at *
            obtain ⟨zob, p0, p1, p2, -, -, -⟩ := X5.out.three
            obtain ⟨b3, off3, e3, hb3, hd1, hd2, -, -⟩ := (HO.out.below Q5.out.bel) k ⟨zo, zq, zes, zA, zc, zg⟩ HX.out
            cases e3
            have z5 : b < W5.heap.size := by omega
            dsimp only at hd1 hd2
            have Q6 := Lib.hid (show QI w (.slice A9 out.length c9) out W5.drew from ⟨Q5.out.row, Q5.out.bel.drew⟩)
            have hX := fun (x : Ext W5.drew) (bb oo : Nat) (h : bb < W5.heap.size) => (show x.w.cell? ⟨bb, oo, none⟩ = W5.cell? ⟨bb, oo, none⟩ from x.cell bb oo h)
            refine wp_region_staged 12 (by kernel_rfl) (by kernel_rfl) ?_
            refine stage_seg _ 0 [0, 1, 2, 3, 4, 5, 6, 7, 8, 9, 10, 11] (by kernel_rfl) (by kernel_rfl) (by kernel_rfl) (by kernel_rfl) ?_
            (simp only [List.map_cons, List.map_nil, List.getElem?_cons_zero, List.getElem?_cons_succ, Option.getD_some]); (repeat (go_big_quiet_step (fail))); (refine wpQuiet_nil ?_)
            refine stage_end (by kernel_rfl) ?_
            have hd1 : W5.drew.cell? ⟨b, off + k * 3, none⟩ = some (.int .i64 zo) := hd1
            have z5 : b < W5.drew.heap.size := z5
            clear hX p0 p1 p2 zob X5 Q4 Q5 hd2
            generalize W5.drew = W6 at *
            go_wp2_with (at_builtin; refine wpList_append_own_at _ rfl _ _ 39 rfl w.heap.size 3 i0 _ 1 8 Try.underlying39 hi hz0 hz10 hz20 rfl (by decide) _ out.length _ rfl (owns_kept Q6.out.row ((Below.refl _ _).alloc (Nat.le_refl _) _)) ⟨W6.heap.size, 0, none⟩ 1 1 [.int .i64 zo] rfl rfl (cell_one_new _ _ _) (fun u hu => by simp at hu; subst hu; rfl) (by unfold maxLen; omega) (by omega) (by have := Q6.out.bel.size; simp; omega) ?_; intro v' w9 hown' hgrow hnil hat; have Q9 := Lib.hid (Q6.out.append (x := zo) hown' hgrow); clear hown' hgrow hnil hat)
            go_roundw
            case rel => exact ⟨k + 1, out ++ [zo], hlt, by go_num, Lib.hid (by
              have h1 := HN.out
              rw [if_pos HM.out] at h1
              rw [h1, ← HD.out]), by simp; omega, Q9.out⟩
            case measure => simp [intOf]; omega
          · have HM : Hid (¬ missB (datL zs) ⟨zo, zq, zes⟩ = true) := Lib.hid (by have := HMB.out; rw [hf] at this; rw [this]; simpa using hq)
            clear hf HMB
            go_wp2_with fail
            have hzw := Q5.out.bel.size
            generalize w3.alloc (.cells #[.int .i64 yo, .int .i64 yq, .slice yA yes.length yc] 54) = W5 at *
            generalize w3.heap.size = ob at *
            obtain ⟨zob, p0, p1, p2, -, -, -⟩ := X5.out.three
            obtain ⟨b3, off3, e3, hb3, hd1, hd2, -, -⟩ := (HO.out.below Q5.out.bel) k ⟨zo, zq, zes, zA, zc, zg⟩ HX.out
            cases e3
            have z5 : b < W5.heap.size := by omega
            dsimp only at hd1 hd2
            have Q6 := Lib.hid (show QI w (.slice A9 out.length c9) out W5.drew from ⟨Q5.out.row, Q5.out.bel.drew⟩)
            have hX := fun (x : Ext W5.drew) (bb oo : Nat) (h : bb < W5.heap.size) => (show x.w.cell? ⟨bb, oo, none⟩ = W5.cell? ⟨bb, oo, none⟩ from x.cell bb oo h)
            refine wp_region_staged 12 (by kernel_rfl) (by kernel_rfl) ?_
            refine stage_seg _ 0 [0, 1, 2, 3, 4, 5, 6, 7, 8, 9, 10, 11] (by kernel_rfl) (by kernel_rfl) (by kernel_rfl) (by kernel_rfl) ?_
            (simp only [List.map_cons, List.map_nil, List.getElem?_cons_zero, List.getElem?_cons_succ, Option.getD_some]); (repeat (go_big_quiet_step (fail))); (refine wpQuiet_nil ?_)
            refine stage_end (by kernel_rfl) ?_
            have hd1 : W5.drew.cell? ⟨b, off + k * 3, none⟩ = some (.int .i64 zo) := hd1
            have z5 : b < W5.drew.heap.size := z5
            clear hX p0 p1 p2 zob X5 Q4 Q5 hd2
            generalize W5.drew = W6 at *
            go_wp2_with fail
            go_roundw
            case rel => exact ⟨k + 1, out, hlt, by go_num, Lib.hid (by
              have h1 := HN.out
              rw [if_neg HM.out, List.append_nil] at h1
              rw [h1, ← HD.out]), by omega, Q6.out⟩
            case measure => simp [intOf]; omega
      · have hlti : ¬ (k : Int) < (os.length : Int) := by omega
        obtain rfl : k = os.length := by omega
        go_wp2_with fail
        have hfin := Q1.out.done
        have he : out = missD (datL zs) (datL os) := by
          rw [HD.out, HP.out, show os.length = (datL os).length by simp [datL], List.take_length]
          rfl
        go_ret
        rw [← he]
        exact hfin
  · have HP : Hid (missD (datL zs) (datL os) = []) := Lib.hid (by
      unfold missD
      rw [if_neg]
      intro h
      simp only [Bool.and_eq_true] at h
      exact hbb h)
    go_enter Try.func29, Try.ntmps29
    go_wp2_with fail
    go_loopw [5, 6] (fun v i wr => v = .slice (some ⟨w.heap.size, 0, none⟩) 0 0 ∧ i = .int .i64 0 ∧ Hid (QI w (.slice (some ⟨w.heap.size, 0, none⟩) 0 0) [] wr)) (fun _ _ _ => 0)
    case atStart => exact ⟨rfl, rfl, Q0⟩
    case round =>
      obtain ⟨rfl, rfl, Q1⟩ := hrel
      clear Q0
      by_cases hlt : 0 < os.length
      · have hlti : (0 : Int) < (os.length : Int) := by omega
        cases h1 : dbB (datL zs) with
        | false =>
          rw [h1] at CV
          clear h1 hbb
          go_wp2_with fail
          refine (CV wr ((HS.out.below Q1.out.bel).more Q1.out.bel.size)).mono ?_
          rintro e w1 ⟨rfl, hb1⟩
          have Q2 := Lib.hid (Q1.out.call hb1)
          clear hb1
          go_wp2_with fail
          have hfin := Q2.out.done
          go_ret
          rw [HP.out]
          exact hfin
        | true =>
          have h2 : dbB (datL os) = false := Bool.eq_false_iff.2 (fun h => hbb ⟨h1, h⟩)
          rw [h1] at CV
          rw [h2] at CW
          clear h1 h2 hbb
          go_wp2_with fail
          refine (CV wr ((HS.out.below Q1.out.bel).more Q1.out.bel.size)).mono ?_
          rintro e w1 ⟨rfl, hb1⟩
          have Q2 := Lib.hid (Q1.out.call hb1)
          clear hb1
          go_wp2_with fail
          refine (CW w1 ((HO.out.below Q2.out.bel).more Q2.out.bel.size)).mono ?_
          rintro e w2 ⟨rfl, hb2⟩
          have Q3 := Lib.hid (Q2.out.call hb2)
          clear hb2
          go_wp2_with fail
          have hfin := Q3.out.done
          go_ret
          rw [HP.out]
          exact hfin
      · have hlti : os.length = 0 := by omega
        clear hbb hlt
        go_wp2_with fail
        have hfin := Q1.out.done
        go_ret
        rw [HP.out]
        exact hfin

end Go.Proofs.Ytnkohgdfipgdoab
