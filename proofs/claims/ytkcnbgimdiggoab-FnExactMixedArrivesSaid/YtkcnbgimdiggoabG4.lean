/-
  Contracts over this seat: nodes that have changed, drawn.
-/
import Derived.Test.YtkcnbgimdiggoabG3
import Derived.Test.YtkcnbgimdiggoabDrawW
import Derived.Test.YtkcnbgimdiggoabVi
namespace Go.Proofs.Ytkcnbgimdiggoab
open Go.RowKit Go.Maps

theorem takeOwn {w : World} {A : Option Addr} {g : Nat} {xs : List Int} (h : Own1i w A g xs) (k : Nat) : Own1i w A g (xs.take k) := fun hp => by
  obtain ⟨e, cs, hh, hc⟩ := h (by rw [List.length_take] at hp; omega)
  refine ⟨e, cs, hh, fun j x hx => hc j x ?_⟩
  rw [List.getElem?_take] at hx
  split at hx
  · exact hx
  · cases hx
/-- Nodes that are drawn out of a list: the reader, the list, the row. -/
structure CIy (w : World) (R : Nat) (A : Option Addr) (len c : Nat) (f : Nat → Int) (P : Nat) (g2 : Nat) (A2 : Option Addr) (os : List Int) (v : Value) (out : List Int) (W : World) : Prop where
  rd : RD R A len c f P W
  own : Own1i W A2 g2 os
  row : W.ownsRow w.heap.size 3 1 v out.length (out.map (Value.int .i64))
  far : 0 < os.length → ∀ g, v.ownBlock = some g → g ≠ g2
  gb : w.grownBy W (some R)
  lo : w.heap.size ≤ g2
  lt : 0 < os.length → g2 < W.heap.size
section
variable {w : World} {R : Nat} {A : Option Addr} {len c : Nat} {f : Nat → Int} {P P' : Nat} {g2 : Nat} {A2 : Option Addr} {os : List Int} {v : Value} {out : List Int} {W W' : World}
theorem CIy.picked (h : CIy w R A len c f P g2 A2 os v out W) (hR : R < w.heap.size) (hr : RD R A len c f P' W') (hg : W.grownBy W' (some R)) : CIy w R A len c f P' g2 A2 os v out W' := by
  have hlo := h.lo
  exact ⟨hr, h.own.grownFar hg (by omega), h.row.kept hg (.inr (fun e => by have := (h.row.lt R e).1; omega)), h.far, grown_trans h.gb hg, h.lo, fun hp => Nat.lt_of_lt_of_le (h.lt hp) hg.size⟩
theorem CIy.mono (h : CIy w R A len c f P g2 A2 os v out W) (hP : P ≤ P') : CIy w R A len c f P' g2 A2 os v out W := ⟨h.rd.mono hP, h.own, h.row, h.far, h.gb, h.lo, h.lt⟩
theorem CIy.append (h : CIy w R A len c f P g2 A2 os v out W) (hR : R < w.heap.size) {x : Int} {v' : Value} {o : Obj}
    (hown : W'.ownsRow w.heap.size 3 1 v' (out.length + 1) (out.map (Value.int .i64) ++ [.int .i64 x])) (hg : (W.alloc o).grownBy W' v.ownBlock) (hat : v'.ownBlock = v.ownBlock ∨ v'.ownBlock = some (W.alloc o).heap.size) :
    CIy w R A len c f P g2 A2 os v' (out ++ [x]) W' := by
  have hl := h.row.lt
  have zs := h.gb.size
  have zr := h.rd.lt
  refine ⟨?_, fun hq => ?_, by rw [List.length_append, List.map_append]; exact hown, fun hq g e => ?_, ?_, h.lo, fun hq => ?_⟩
  · exact h.rd.below (((Below.refl _ _).alloc (by omega) _).grown hg (by simp; omega) (fun j e => by have := (hl j e).1; omega))
  · have z3 := h.lt hq
    obtain ⟨e, cs, hh, hc⟩ := h.own hq
    exact ⟨e, cs, (hg.block g2 (by simp; omega) (fun e => h.far hq g2 e.symm rfl)).trans ((Below.heap_alloc W _ _ z3).trans hh), hc⟩
  · have z3 := h.lt hq
    rcases hat with e2 | e2
    · exact h.far hq g (e2.symm.trans e)
    · rw [e] at e2
      simp at e2
      omega
  · have h1 := grown_alloc h.gb o
    exact ⟨hg.os.trans h1.os, hg.tape.trans h1.tape, hg.output.trans h1.output, Nat.le_trans h1.size hg.size, fun k hk hne => (hg.block k (by have := h1.size; omega) (fun e => by have := (hl k e.symm).1; omega)).trans (h1.block k hk hne)⟩
  · have := h.lt hq
    have := hg.size
    simp at this
    omega
end
theorem grownBelow {w W W' : World} {r : Option Nat} (h : w.grownBy W r) (hb : Below W.heap.size W W') : w.grownBy W' r := grown_trans h ⟨hb.os, hb.tape, hb.output, hb.size, fun k hk _ => hb.block k hk⟩
/-- Changed nodes that were drawn. -/
def DrawnC (w : World) (R : Nat) (A : Option Addr) (len c : Nat) (f : Nat → Int) (P : Nat) (e : Ending) (w' : World) : Prop :=
  ∃ (ch : List Int) (Ac : Option Addr) (gc cc : Nat), e = .returned (.slice Ac ch.length cc) ∧ ch.length ≤ 9 ∧ w.heap.size ≤ gc ∧ Own1i w' Ac gc ch ∧ RD R A len c f P w' ∧ w.grownBy w' (some R)

set_option maxRecDepth 100000 in
set_option maxHeartbeats 1600000 in
theorem changed_any (R : Nat) (A : Option Addr) (len c P : Nat) (f : Nat → Int) (n : Int) (A' : Option Addr) (g' : Nat) (ls : List Lk) (c' : Nat) (k t : Int) (w : World) (hlen : len ≤ 2000) (hP : P ≤ 20000) (hn : n ≤ 10) (hls : ls.length ≤ 16) (hR : RD R A len c f P w) (hG : Own1 w A' g' ls) :
   Calls Try.prog 50 #[.pointer (some ⟨R, 0, none⟩), gval n A' ls.length c', .int .i64 k, .int .i64 t] w (DrawnC w R A len c f (P + 11)) := by
  have hRw := hR.lt
  have HR := Lib.hid (hR.alloc (.cells #[.int .i64 n, .slice A' ls.length c'] 25))
  have HG := Lib.hid (World.grownBy_alloc w (.cells #[.int .i64 n, .slice A' ls.length c'] 25) (some R))
  have CU := updOrder_specC n A' ls c' k t (w.alloc (.cells #[.int .i64 n, .slice A' ls.length c'] 25)) (by omega) (by omega) (hG.alloc _).sl
  have ho8 := ordA_len8 n ls k t
  generalize ordA n ls k t = os at *
  obtain ⟨i0, hi, hz0, hz10, hz20⟩ := info_parts infoInt
  clear hR hG
  go_enter Try.func50, Try.ntmps50
  go_wp2_with fail
  refine CU.mono ?_
  clear CU
  rintro e w1 ⟨A2, g2, c2, rfl, hg2, ho2, hb1, hc2⟩
  have H1 := Lib.hid (HR.out.below (hb1.mono (by simp; omega)))
  have G1 := Lib.hid (grownBelow HG.out hb1)
  have O1 := Lib.hid ho2
  rw [World.size_alloc] at hg2
  clear hb1 ho2 HR HG
  go_wp2_with fail
  refine (pick_rd R A len c P 2 f _ hlen (by omega) (by omega) (by omega) H1.out).mono ?_
  rintro e w2 ⟨k1, rfl, hk1, hR2, hg, -, -⟩
  have H2 := Lib.hid hR2
  have G2 := Lib.hid (grown_trans G1.out hg)
  have O2 := Lib.hid (O1.out.grownFar hg (by omega))
  clear hR2 hg H1 G1 O1
  by_cases h0 : k1 = 0
  · subst h0
    go_wp2_with fail
    refine (pick_rd R A len c (P + 1) _ f _ hlen (by omega) (by omega) (by omega) H2.out).mono ?_
    rintro e w3 ⟨k2, rfl, hk2, hR3, hg, -, -⟩
    have H3 := Lib.hid (hR3.mono (show P + 1 + 1 ≤ P + 11 by omega))
    have G3 := Lib.hid (grown_trans G2.out hg)
    have O3 := Lib.hid (takeOwn (O2.out.grownFar hg (by omega)) k2)
    clear hR3 hg H2 G2 O2
    have hkc : (k2 : Int) ≤ (c2 : Int) := by omega
    have hkl : (os.take k2).length = k2 := by rw [List.length_take]; omega
    go_wp2_with fail
    go_ret
    refine ⟨os.take k2, A2, g2, c2, by rw [hkl]; rfl, by omega, by omega, O3.out, H3.out, G3.out⟩
  · have h0' : ((k1 : Int) == 0) = false := by simpa using h0
    clear h0
    go_upto_region 4 with fail
    have R2 := Box.new w2 3 #[]
    have hz2 := G2.out.size
    have I2 := Lib.hid (show CIy w R A len c f (P + 1) g2 A2 os (.slice (some ⟨w2.heap.size, 0, none⟩) 0 0) [] (w2.alloc (.cells #[] 3)) from
      ⟨H2.out.alloc _, O2.out.alloc _, ⟨by simp, .inr ⟨w2.heap.size, 0, #[], rfl, hz2, R2, Nat.le_refl _, by omega, rfl, by simp⟩⟩, fun hp g e => by
        have := (O2.out hp).2.lt
        simp [Value.ownBlock] at e
        omega, grown_alloc G2.out _, by omega, fun hp => by have := (O2.out hp).2.lt; simp; omega⟩)
    clear H2 G2 O2 R2
    go_wp2_with fail
    generalize w2.alloc (.cells #[] 3) = W0 at *
    go_loopw [10, 11] (fun v i wr => ∃ (j : Nat) (out : List Int), j ≤ os.length ∧ i = .int .i64 (j : Int) ∧ out.length ≤ j ∧ Hid (CIy w R A len c f (P + 1 + j) g2 A2 os v out wr)) (fun _ i _ => os.length - (intOf i).toNat)
    case atStart => exact ⟨0, [], Nat.zero_le _, rfl, Nat.le_refl _, I2⟩
    case round =>
      obtain ⟨j, out, hj, rfl, hol, I⟩ := hrel
      clear I2
      obtain ⟨A9, g9, c9, rfl, hg9, ho9⟩ := own_slicec I.out.row I.out.gb.size
      clear ho9
      by_cases hlt : j < os.length
      · go_wp2_with fail
        refine (pick_rd R A len c _ 2 f _ hlen (by omega) (by omega) (by omega) I.out.rd).mono ?_
        rintro e w4 ⟨k4, rfl, hk4, hR4, hg, -, -⟩
        have I4 := Lib.hid (I.out.picked hRw hR4 hg)
        clear hR4 hg I
        by_cases h4 : k4 = 0
        · subst h4
          obtain ⟨y, hy⟩ : ∃ y, os[j]? = some y := ⟨_, List.getElem?_eq_getElem hlt⟩
          obtain ⟨rfl, z3, cy⟩ := I4.out.own.at hy
          have hz4 := I4.out.gb.size
          clear hy
          go_wp2_with (at_builtin; refine wpList_append_own_at _ rfl _ _ 28 rfl w.heap.size 3 i0 _ 1 8 Try.underlying28 hi hz0 hz10 hz20 rfl (by decide) _ out.length _ rfl (I4.out.row.alloc _) ⟨w4.heap.size, 0, none⟩ 1 1 [.int .i64 y] rfl rfl (cell_one_new _ _ _) (fun u hu => by simp at hu; subst hu; rfl) (by unfold maxLen; omega) (by omega) (by simp; omega) ?_; intro v' w8 hown' hgrow hnil hat; have I8 := Lib.hid (I4.out.append hRw (x := y) hown' hgrow hat); clear hown' hgrow hnil hat)
          go_roundw
          case rel => exact ⟨j + 1, out ++ [y], hlt, by go_num, by simp; omega, I8⟩
          case measure => simp [intOf]; omega
        · have h4' : ((k4 : Int) == 0) = false := by simpa using h4
          clear h4
          go_wp2_with fail
          go_roundw
          case rel => exact ⟨j + 1, out, hlt, by go_num, by omega, I4⟩
          case measure => simp [intOf]; omega
      · obtain rfl : j = os.length := by omega
        have hge : ¬ ((os.length : Int) < (os.length : Int)) := by omega
        go_wp2_with fail
        refine (pick_rd R A len c _ 12 f _ hlen (by omega) (by omega) (by omega) I.out.rd).mono ?_
        rintro e w4 ⟨k4, rfl, hk4, hR4, hg, -, -⟩
        have I4 := Lib.hid (I.out.picked hRw hR4 hg)
        clear hR4 hg I
        by_cases h4 : k4 = 0
        · subst h4
          go_wp2_with fail
          refine (pick_rd R A len c _ 10 f _ hlen (by omega) (by omega) (by omega) I4.out.rd).mono ?_
          rintro e w5 ⟨k5, rfl, hk5, hR5, hg, -, -⟩
          have I5 := Lib.hid (I4.out.picked hRw hR5 hg)
          clear hR5 hg I4
          have hz5 := I5.out.gb.size
          have e5 : IntKind.i64.wrap ((k5 : Int) - 1) = (k5 : Int) - 1 := IntWalk.i64_in _ (by omega)
          go_wp2_with (at_builtin; refine wpList_append_own_at _ rfl _ _ 28 rfl w.heap.size 3 i0 _ 1 8 Try.underlying28 hi hz0 hz10 hz20 rfl (by decide) _ out.length _ rfl (I5.out.row.alloc _) ⟨w5.heap.size, 0, none⟩ 1 1 [.int .i64 ((k5 : Int) - 1)] rfl rfl (cell_one_new _ _ _) (fun u hu => by simp at hu; subst hu; rfl) (by unfold maxLen; omega) (by omega) (by simp; omega) ?_; intro v' w8 hown' hgrow hnil hat; have I8 := Lib.hid (I5.out.append hRw (x := (k5 : Int) - 1) hown' hgrow hat); clear hown' hgrow hnil hat)
          obtain ⟨A8, g8, c8, rfl, hg8, hc8, ho8⟩ := own_slicec (xs := out ++ [(k5 : Int) - 1]) I8.out.row I8.out.gb.size
          have O8 := Lib.hid ho8
          clear ho8
          go_ret
          exact ⟨out ++ [(k5 : Int) - 1], A8, g8, c8, rfl, by simp; omega, hg8, O8.out, I8.out.rd.mono (by omega), I8.out.gb⟩
        · have h4' : ((k4 : Int) == 0) = false := by simpa using h4
          clear h4
          obtain ⟨A8, g8, c8, e8, hg8, hc8, ho8⟩ := own_slicec I4.out.row I4.out.gb.size
          cases e8
          have O8 := Lib.hid ho8
          clear ho8
          go_wp2_with fail
          go_ret
          exact ⟨out, A9, g8, c9, rfl, by omega, hg8, O8.out, I4.out.rd.mono (by omega), I4.out.gb⟩
end Go.Proofs.Ytkcnbgimdiggoab

/-
  Contracts over this seat: what the laws of the order of updates draw.
-/
namespace Go.Proofs.Ytkcnbgimdiggoab
open Go.RowKit Go.Maps

set_option maxRecDepth 100000 in
set_option maxHeartbeats 3200000 in
theorem drawUO_any (A : Option Addr) (len c : Nat) (f : Nat → Int) (w : World) (hlc : len ≤ c) (hc : c ≤ maxLen) (hB : Byt w w.heap.size A len f) :
   Calls Try.prog 11 #[.slice A len c] w fun e w' => ∃ (n : Int) (ls : List Lk) (A' : Option Addr) (g' c' : Nat) (x y : Int), e = .returned (.tuple #[gval n A' ls.length c', .int .i64 x, .int .i64 y]) ∧ DG w n ls A' g' w' ∧ -1 ≤ x ∧ x ≤ 16 ∧ -1 ≤ y ∧ y ≤ 10 ∧ ls.length ≤ c' := by
  have HB := Lib.hid (hB.alloc (.cells #[.int .i64 0, .slice none 0 0] 25))
  have HQ := Lib.hid (Box.new w 25 #[.int .i64 0, .slice none 0 0])
  clear hB
  go_enter Try.func11, Try.ntmps11
  go_wp2_with fail
  refine (open_any A len c f _ hlc hc HB.out).mono ?_
  rintro e w1 ⟨l1, hl1, rfl, hr1, hb1, hs1⟩
  rw [World.size_alloc] at hr1 hb1 hs1
  have H1 := Lib.hid hr1
  have B1 := Lib.hid (Below.trans (B := w.heap.size) (a := w) (by (repeat (first | exact Below.refl _ _ | (refine Below.alloc ?_ (by first | exact Nat.le_refl _ | omega | (simp; done) | (simp; omega)) _) | (refine Below.setCell ?_ (by first | exact Nat.le_refl _ | omega | (simp; done) | (simp; omega)) _) | exact Below.drew ‹_›))) (hb1.mono (by omega)))
  have Q1 := Lib.hid (HQ.out.below hb1 (by omega))
  clear hr1 hb1 HQ HB
  have hq := World.size_alloc w (.cells #[.int .i64 0, .slice none 0 0] 25)
  rw [hq]
  go_wp2_with fail
  refine (spoilt_any _ A l1 c 0 f w1 hl1 (by omega) H1.out).mono ?_
  rintro e w2 ⟨n, ls, A2, g2, c2, rfl, hn0, hn1, hls, hg2, ho2, hr2, hb2, hcap⟩
  have D2 := Lib.hid (show DI w (w.heap.size + 1) w.heap.size w2.heap.size A l1 c f (0 + 1010) n ls A2 g2 c2 (w2.alloc (.cells #[.int .i64 n, .slice A2 ls.length c2] 25)) from
    ⟨hr2.alloc _, (Q1.out.grown hb2 (by omega)).alloc _, Box.new w2 _ _, ho2.alloc _, (B1.out.grown hb2 (by omega) (fun k e => by injection e with e; omega)).alloc (by have := hb2.size; omega) _,
      by omega, by omega, by omega, by omega, by have := hb2.size; omega, by omega, by have := hb2.size; omega⟩)
  have HCAP := Lib.hid hcap
  clear hr2 hb2 ho2 H1 B1 Q1 hcap
  generalize hG : w2.heap.size = G at *
  go_wp2_with fail
  refine (linkn_any _ A l1 c _ f n A2 ls.length c2 _ hl1 (by omega) hls D2.out.1).mono ?_
  rintro e w3 ⟨x, rfl, hx0, hx1, hr, hb⟩
  have D3 := Lib.hid (D2.out.node hr hb)
  clear hr hb D2 hG
  obtain ⟨zg, d0, d1, p0, p1⟩ := D3.out.2.2.1.two
  obtain ⟨zq, e0, e1, q0, q1⟩ := D3.out.2.1.two
  have D4 := Lib.hid D3.out.drew
  clear D3
  go_wp2_with fail
  go_region_law (go_simp; go_at_call 39; refine (node_any _ A l1 c _ f n A2 ls.length c2 _ hl1 (by omega) hn0 hn1 D4.out.1).mono ?_; rintro e w5 ⟨y, rfl, hy0, hy1, hr5, hb5⟩; have D5 := Lib.hid (D4.out.node hr5 hb5); obtain ⟨yg, x0, x1, r0, r1⟩ := D5.out.2.2.1.two; obtain ⟨yq, y0, y1, s0, s1⟩ := D5.out.2.1.two)
  all_goals
    go_wp2_with fail
    obtain ⟨b2, r0, r1⟩ := ret_two D5.out.2.1 (.int .i64 n) (.slice A2 ls.length c2)
    refine bodyPost_ret (v := .tuple #[gval n A2 ls.length c2, .int .i64 x, .int .i64 y]) (by simp [results, Try.results11, go_sem, r0, r1]) rfl ?_
    exact ⟨n, ls, A2, g2, c2, x, y, rfl, D5.out.dg hn0 hn1 hls _ _, hx0, hx1, hy0, hy1, HCAP.out⟩


set_option maxRecDepth 100000 in
set_option maxHeartbeats 3200000 in
theorem drawML_any (A : Option Addr) (len c : Nat) (f : Nat → Int) (w : World) (hlc : len ≤ c) (hc : c ≤ maxLen) (hB : Byt w w.heap.size A len f) :
   Calls Try.prog 16 #[.slice A len c] w fun e w' => ∃ (n : Int) (ls : List Lk) (A' : Option Addr) (g' c' : Nat) (x y : Int) (ch : List Int) (Ac : Option Addr) (gc cc : Nat), e = .returned (.tuple #[gval n A' ls.length c', .int .i64 x, .int .i64 y, .slice Ac ch.length cc]) ∧ DG w n ls A' g' w' ∧ -1 ≤ x ∧ x ≤ 16 ∧ -1 ≤ y ∧ y ≤ 10 ∧ ls.length ≤ c' ∧ ch.length ≤ 9 ∧ Own1i w' Ac gc ch := by
  have HB := Lib.hid (hB.alloc (.cells #[.int .i64 0, .slice none 0 0] 25))
  have HQ := Lib.hid (Box.new w 25 #[.int .i64 0, .slice none 0 0])
  clear hB
  go_enter Try.func16, Try.ntmps16
  go_wp2_with fail
  refine (open_any A len c f _ hlc hc HB.out).mono ?_
  rintro e w1 ⟨l1, hl1, rfl, hr1, hb1, hs1⟩
  rw [World.size_alloc] at hr1 hb1 hs1
  have H1 := Lib.hid hr1
  have B1 := Lib.hid (Below.trans (B := w.heap.size) (a := w) (by (repeat (first | exact Below.refl _ _ | (refine Below.alloc ?_ (by first | exact Nat.le_refl _ | omega | (simp; done) | (simp; omega)) _) | (refine Below.setCell ?_ (by first | exact Nat.le_refl _ | omega | (simp; done) | (simp; omega)) _) | exact Below.drew ‹_›))) (hb1.mono (by omega)))
  have Q1 := Lib.hid (HQ.out.below hb1 (by omega))
  clear hr1 hb1 HQ HB
  have hq := World.size_alloc w (.cells #[.int .i64 0, .slice none 0 0] 25)
  rw [hq]
  go_wp2_with fail
  refine (spoilt_any _ A l1 c 0 f w1 hl1 (by omega) H1.out).mono ?_
  rintro e w2 ⟨n, ls, A2, g2, c2, rfl, hn0, hn1, hls, hg2, ho2, hr2, hb2, hcap⟩
  have D2 := Lib.hid (show DI w (w.heap.size + 1) w.heap.size w2.heap.size A l1 c f (0 + 1010) n ls A2 g2 c2 (w2.alloc (.cells #[.int .i64 n, .slice A2 ls.length c2] 25)) from
    ⟨hr2.alloc _, (Q1.out.grown hb2 (by omega)).alloc _, Box.new w2 _ _, ho2.alloc _, (B1.out.grown hb2 (by omega) (fun k e => by injection e with e; omega)).alloc (by have := hb2.size; omega) _,
      by omega, by omega, by omega, by omega, by have := hb2.size; omega, by omega, by have := hb2.size; omega⟩)
  have HCAP := Lib.hid hcap
  clear hr2 hb2 ho2 H1 B1 Q1 hcap
  generalize hG : w2.heap.size = G at *
  go_wp2_with fail
  refine (linkn_any _ A l1 c _ f n A2 ls.length c2 _ hl1 (by omega) hls D2.out.1).mono ?_
  rintro e w3 ⟨x, rfl, hx0, hx1, hr, hb⟩
  have D3 := Lib.hid (D2.out.node hr hb)
  clear hr hb D2 hG
  obtain ⟨zg, d0, d1, p0, p1⟩ := D3.out.2.2.1.two
  obtain ⟨zq, e0, e1, q0, q1⟩ := D3.out.2.1.two
  go_wp2_with fail
  refine (node_any _ A l1 c _ f n A2 ls.length c2 _ hl1 (by omega) hn0 hn1 D3.out.1).mono ?_
  rintro e w4 ⟨y, rfl, hy0, hy1, hr, hb⟩
  have D4 := Lib.hid (D3.out.node hr hb)
  clear hr hb D3 zg d0 d1 p0 p1 zq e0 e1 q0 q1
  obtain ⟨zg, d0, d1, p0, p1⟩ := D4.out.2.2.1.two
  obtain ⟨zq, e0, e1, q0, q1⟩ := D4.out.2.1.two
  go_wp2_with fail
  refine (changed_any _ A l1 c _ f n A2 g2 ls c2 x y _ hl1 (by omega) hn1 hls D4.out.1 D4.out.2.2.2.1).mono ?_
  rintro e w5 ⟨ch, Ac, gc, cc, rfl, hch, hgc, hoc, hr, hb⟩
  have D5 := Lib.hid (D4.out.node hr hb)
  have O5 := Lib.hid hoc
  have hgR : gc ≠ w.heap.size + 1 := by have := D4.out.1.lt; omega
  have hgQ : gc ≠ w.heap.size := by have := D4.out.2.1.lt; omega
  clear hr hb hoc hgc D4 zg d0 d1 p0 p1 zq e0 e1 q0 q1
  have CL := fun (a b : Int) (Bc : Option Addr) (cs : List Int) (cd : Nat) W h1 (h : Own1 W A2 g2 ls) h2 => mixLoop_spec n A2 ls c2 a b Bc cs cd W (by omega) (by omega) (fun hp => ⟨g2, (h hp).1⟩) HCAP.out h1 h.sl h2
  go_wp2_with fail
  go_loopw [8, 9, 10, 11] (fun u v s i wr => ∃ (a b : Int) (cs : List Int) (Bc : Option Addr) (gd cd q : Nat), u = .int .i64 a ∧ v = .int .i64 b ∧ s = .slice Bc cs.length cd ∧ i = .int .i64 (q : Int) ∧ q ≤ 20 ∧ -1 ≤ a ∧ a ≤ 16 ∧ -1 ≤ b ∧ b ≤ 10 ∧ cs.length ≤ 9 ∧ gd ≠ w.heap.size + 1 ∧ gd ≠ w.heap.size ∧ Hid (Own1i wr Bc gd cs) ∧ Hid (DI w (w.heap.size + 1) w.heap.size G A l1 c f (2000 + 20 * q) n ls A2 g2 c2 wr)) (fun _ _ _ i _ => 20 - (intOf i).toNat)
  case atStart => exact ⟨x, y, ch, Ac, gc, cc, 0, rfl, rfl, rfl, rfl, by omega, hx0, hx1, hy0, hy1, hch, hgR, hgQ, O5, Lib.hid (D5.out.mono (by omega))⟩
  case round =>
    obtain ⟨a, b, cs, Bc, gd, cd, q, rfl, rfl, rfl, rfl, hq20, ha0, ha1, hb0, hb1, hcs, hdR, hdQ, O7, D7⟩ := hrel
    clear D5 O5
    by_cases hlt : q < 20
    · have hlti : (q : Int) < 20 := by omega
      obtain ⟨zg, d0, d1, p0, p1⟩ := D7.out.2.2.1.two
      obtain ⟨zq, e0, e1, q0, q1⟩ := D7.out.2.1.two
      have CX := CL a b Bc cs cd wr (by omega) D7.out.2.2.2.1 O7.out.sli
      clear CL
      generalize loopA n ls a b cs = lo at *
      go_wp2_with fail
      refine CX.mono ?_
      clear CX
      rintro e w8 ⟨A8, g8, c8, rfl, -, -, hb8⟩
      have D8 := Lib.hid (D7.out.call hb8)
      have O8 := Lib.hid (O7.out.below hb8)
      clear hb8 D7 O7 zg d0 d1 p0 p1 zq e0 e1 q0 q1
      by_cases hl0 : lo.length = 0
      · have hl0' : ((lo.length : Int) == 0) = true := by simp [hl0]
        clear hl0
        obtain ⟨zg, d0, d1, p0, p1⟩ := D8.out.2.2.1.two
        obtain ⟨zq, e0, e1, q0, q1⟩ := D8.out.2.1.two
        go_wp2_with fail
        refine (linkn_any _ A l1 c _ f n A2 ls.length c2 _ hl1 (by omega) hls D8.out.1).mono ?_
        rintro e w9 ⟨a9, rfl, ha90, ha91, hr, hb⟩
        have D9 := Lib.hid (D8.out.node hr hb)
        clear hr hb D8 O8 zg d0 d1 p0 p1 zq e0 e1 q0 q1
        obtain ⟨zg, d0, d1, p0, p1⟩ := D9.out.2.2.1.two
        obtain ⟨zq, e0, e1, q0, q1⟩ := D9.out.2.1.two
        go_wp2_with fail
        refine (node_any _ A l1 c _ f n A2 ls.length c2 _ hl1 (by omega) hn0 hn1 D9.out.1).mono ?_
        rintro e w10 ⟨b9, rfl, hb90, hb91, hr, hb⟩
        have D10 := Lib.hid (D9.out.node hr hb)
        clear hr hb D9 zg d0 d1 p0 p1 zq e0 e1 q0 q1
        obtain ⟨zg, d0, d1, p0, p1⟩ := D10.out.2.2.1.two
        obtain ⟨zq, e0, e1, q0, q1⟩ := D10.out.2.1.two
        go_wp2_with fail
        refine (changed_any _ A l1 c _ f n A2 g2 ls c2 a9 b9 _ hl1 (by omega) hn1 hls D10.out.1 D10.out.2.2.2.1).mono ?_
        rintro e w11 ⟨cs2, B2, gd2, cd2, rfl, hcs2, hgc, hoc, hr, hb⟩
        have D11 := Lib.hid (D10.out.node hr hb)
        have O11 := Lib.hid hoc
        have hgR2 : gd2 ≠ w.heap.size + 1 := by have := D10.out.1.lt; omega
        have hgQ2 : gd2 ≠ w.heap.size := by have := D10.out.2.1.lt; omega
        clear hr hb hoc hgc D10 zg d0 d1 p0 p1 zq e0 e1 q0 q1
        go_wp2_with fail
        go_roundw
        case rel => exact ⟨a9, b9, cs2, B2, gd2, cd2, q + 1, rfl, rfl, rfl, by go_num, by omega, ha90, ha91, hb90, hb91, hcs2, hgR2, hgQ2, O11, Lib.hid (D11.out.mono (by omega))⟩
        case measure => simp [intOf]; omega
      · have hl0' : ((lo.length : Int) == 0) = false := by simpa using hl0
        clear hl0
        have D7 := D8
        have O7 := O8
        clear D8 O8
        obtain ⟨zg, d0, d1, p0, p1⟩ := D7.out.2.2.1.two
        obtain ⟨zq, e0, e1, q0, q1⟩ := D7.out.2.1.two
        go_wp2_with fail
        obtain ⟨b2, r0, r1⟩ := ret_two D7.out.2.1 (.int .i64 n) (.slice A2 ls.length c2)
        refine bodyPost_ret (v := .tuple #[gval n A2 ls.length c2, .int .i64 a, .int .i64 b, .slice Bc cs.length cd]) (by simp [results, Try.results16, go_sem, r0, r1]) rfl ?_
        first | exact ⟨n, ls, A2, g2, c2, a, b, cs, Bc, gd, cd, rfl, D7.out.dg hn0 hn1 hls _ _, ha0, ha1, hb0, hb1, HCAP.out, hcs, (O7.out.setFar (p := ⟨w.heap.size, 0, none⟩) hdQ _).setFar (p := ⟨w.heap.size, 1, none⟩) hdQ _⟩ | exact ⟨n, ls, A2, g2, c2, a, b, cs, Bc, ⟨cd, rfl⟩, D7.out.dg hn0 hn1 hls _ _, ha0, ha1, hb0, hb1, HCAP.out, hcs, gd, (O7.out.setFar (p := ⟨w.heap.size, 0, none⟩) hdQ _).setFar (p := ⟨w.heap.size, 1, none⟩) hdQ _⟩
    · have hge : ¬ (q : Int) < 20 := by omega
      obtain ⟨zg, d0, d1, p0, p1⟩ := D7.out.2.2.1.two
      obtain ⟨zq, e0, e1, q0, q1⟩ := D7.out.2.1.two
      go_wp2_with fail
      obtain ⟨b2, r0, r1⟩ := ret_two D7.out.2.1 (.int .i64 n) (.slice A2 ls.length c2)
      refine bodyPost_ret (v := .tuple #[gval n A2 ls.length c2, .int .i64 a, .int .i64 b, .slice Bc cs.length cd]) (by simp [results, Try.results16, go_sem, r0, r1]) rfl ?_
      first | exact ⟨n, ls, A2, g2, c2, a, b, cs, Bc, gd, cd, rfl, D7.out.dg hn0 hn1 hls _ _, ha0, ha1, hb0, hb1, HCAP.out, hcs, (O7.out.setFar (p := ⟨w.heap.size, 0, none⟩) hdQ _).setFar (p := ⟨w.heap.size, 1, none⟩) hdQ _⟩ | exact ⟨n, ls, A2, g2, c2, a, b, cs, Bc, ⟨cd, rfl⟩, D7.out.dg hn0 hn1 hls _ _, ha0, ha1, hb0, hb1, HCAP.out, hcs, gd, (O7.out.setFar (p := ⟨w.heap.size, 0, none⟩) hdQ _).setFar (p := ⟨w.heap.size, 1, none⟩) hdQ _⟩

set_option maxRecDepth 100000 in
set_option maxHeartbeats 3200000 in
theorem drawMA_any (A : Option Addr) (len c : Nat) (f : Nat → Int) (w : World) (hlc : len ≤ c) (hc : c ≤ maxLen) (hB : Byt w w.heap.size A len f) :
   Calls Try.prog 24 #[.slice A len c] w fun e w' => ∃ (n : Int) (ls : List Lk) (A' : Option Addr) (g' c' : Nat) (x y : Int) (ch : List Int) (Ac : Option Addr) (gc cc : Nat), e = .returned (.tuple #[gval n A' ls.length c', .int .i64 x, .int .i64 y, .slice Ac ch.length cc]) ∧ DG w n ls A' g' w' ∧ -1 ≤ x ∧ x ≤ 16 ∧ -1 ≤ y ∧ y ≤ 10 ∧ ls.length ≤ c' ∧ ch.length ≤ 9 ∧ Own1i w' Ac gc ch := by
  have HB := Lib.hid (hB.alloc (.cells #[.int .i64 0, .slice none 0 0] 25))
  have HQ := Lib.hid (Box.new w 25 #[.int .i64 0, .slice none 0 0])
  clear hB
  go_enter Try.func24, Try.ntmps24
  go_wp2_with fail
  refine (drawML_any A len c f _ hlc hc HB.out).mono ?_
  rintro e w1 ⟨n, ls, A2, g2, c2, x, y, ch, Ac, gc, cc, rfl, ⟨hn0, hn1, hls, hg2, ho2, hb2⟩, hx0, hx1, hy0, hy1, hcap, hch, hoc⟩
  rw [World.size_alloc] at hg2 hb2
  have Q1 := HQ.out.below hb2 (by omega)
  have B1 := Lib.hid (Below.trans (B := w.heap.size) (a := w) (by (repeat (first | exact Below.refl _ _ | (refine Below.alloc ?_ (by first | exact Nat.le_refl _ | omega | (simp; done) | (simp; omega)) _) | (refine Below.setCell ?_ (by first | exact Nat.le_refl _ | omega | (simp; done) | (simp; omega)) _) | exact Below.drew ‹_›))) (hb2.mono (by omega)))
  have O1 := Lib.hid ho2
  have OC := Lib.hid hoc
  have HGC : Hid (0 < ch.length → gc ≠ w.heap.size) := Lib.hid (fun hp e => by
    obtain ⟨-, cs, hh, -⟩ := hoc hp
    rw [e] at hh
    unfold Box at Q1
    rw [hh] at Q1
    simp at Q1)
  clear HQ HB hb2 ho2 hoc
  obtain ⟨zq, e0, e1, q0, q1⟩ := Q1.two
  go_wp2_with fail
  obtain ⟨b2, r0, r1⟩ := ret_two Q1 (.int .i64 n) (.slice A2 ls.length c2)
  refine bodyPost_ret (v := .tuple #[gval n A2 ls.length c2, .int .i64 x, .int .i64 y, .slice Ac ch.length cc]) (by simp [results, Try.results24, go_sem, r0, r1]) rfl ?_
  exact ⟨n, ls, A2, g2, c2, x, y, ch, Ac, gc, cc, rfl, ⟨hn0, hn1, hls, by omega, (O1.out.set_box Q1 (by decide) 0 _).set_box (heap_set Q1 0 _) (by decide) 1 _, (B1.out.setCell (p := ⟨w.heap.size, 0, none⟩) (Nat.le_refl _) _).setCell (p := ⟨w.heap.size, 1, none⟩) (Nat.le_refl _) _⟩, hx0, hx1, hy0, hy1, hcap, hch, fun hp => ((OC.out.setFar (p := ⟨w.heap.size, 0, none⟩) (HGC.out hp) _).setFar (p := ⟨w.heap.size, 1, none⟩) (HGC.out hp) _) hp⟩

end Go.Proofs.Ytkcnbgimdiggoab
