/-
  A contract over this seat: the drawn announcement, its neighbours in memory of their own.
-/
import Derived.Test.YtnkohgdfipgdoabZl
import Derived.Test.YtnkohgdfipgdoabA5
namespace Go.Proofs.Ytnkohgdfipgdoab
open Go.RowKit Go.Maps

/-- The state while an announcement is drawn: the reader, the result's box, its own box, its neighbours. -/
structure ZG (w : World) (R : Nat) (A : Option Addr) (len c : Nat) (f : Nat → Int) (G : Nat) (P : Nat) (o q : Int) (v : Value) (out : List Lb) (W : World) : Prop where
  rd : RD R A len c f P W
  res : Box W w.heap.size 54 #[.int .i64 0, .int .i64 0, .slice none 0 0]
  box : Box W G 54 #[.int .i64 o, .int .i64 q, v]
  row : W.ownsRow (w.heap.size + 1) 56 2 v out.length (flatB out)
  gr : w.grownBy W (some R)
  sz : w.heap.size + 1 ≤ W.heap.size
section
variable {w w1 w2 : World} {R : Nat} {A : Option Addr} {len c : Nat} {f : Nat → Int} {G : Nat} {P P' : Nat} {o q : Int} {v : Value} {out : List Lb}
theorem ZG.picked (h : ZG w R A len c f G P o q v out w1) (hr : RD R A len c f P' w2) (hg : w1.grownBy w2 (some R)) (hRw : R < w.heap.size) (hRG : R < G) : ZG w R A len c f G P' o q v out w2 := by
  obtain ⟨cs, hx⟩ := h.rd.box
  exact ⟨hr, h.res.grown hg (by omega), h.box.grown hg (by omega), owns_picked h.row hx (by decide) hg, grown_trans h.gr hg, Nat.le_trans h.sz hg.size⟩
theorem ZG.drew (h : ZG w R A len c f G P o q v out w1) : ZG w R A len c f G P o q v out w1.drew := by
  obtain ⟨⟨p, hp, hx, hB⟩, h2, h3, h4, h5, h6⟩ := h
  exact ⟨⟨p, hp, hx, hB⟩, h2, h3, h4, ⟨h5.os, h5.tape, h5.output, h5.size, h5.block⟩, h6⟩
theorem ZG.mono (h : ZG w R A len c f G P o q v out w1) (hP : P ≤ P') : ZG w R A len c f G P' o q v out w1 := ⟨h.rd.mono hP, h.res, h.box, h.row, h.gr, h.sz⟩
theorem ZG.alloc (h : ZG w R A len c f G P o q v out w1) (ob : Obj) : ZG w R A len c f G P o q v out (w1.alloc ob) :=
  ⟨h.rd.alloc _, h.res.alloc _, h.box.alloc _, h.row.alloc _, grown_alloc h.gr _, by have := h.sz; simp; omega⟩
theorem ZG.set (h : ZG w R A len c f G P o q v out w1) (hRG : R < G) (hwG : w.heap.size < G) (i : Nat) (u : Value) {o' q' : Int} (hc : (#[Value.int .i64 o, .int .i64 q, v] : Array Value).setIfInBounds i u = #[.int .i64 o', .int .i64 q', v]) : ZG w R A len c f G P o' q' v out (w1.setCell ⟨G, i, none⟩ u) := by
  refine ⟨h.rd.set (q := ⟨G, i, none⟩) hRG u, (Below.heap_setCell w1 ⟨G, i, none⟩ u _ (by show w.heap.size ≠ G; omega)).trans h.res, ?_, h.row.kept (grown_set (World.grownBy.refl w1 (some G)) i u) (.inr (own_box_ne h.row h.box (by decide))), grown_setFar h.gr (p := ⟨G, i, none⟩) (by show w.heap.size ≤ G; omega) u, by simpa using h.sz⟩
  rw [← hc]
  exact heap_set h.box i u
/-- Behind an append onto the row, ahead of the store of the new slice. -/
theorem ZG.grown (h : ZG w R A len c f G P o q v out w1) (hRw : R < w.heap.size) (hRG : R < G) (hwG : w.heap.size < G) {l : Lb} {v' : Value} {ob : Obj}
    (hown : w2.ownsRow (w.heap.size + 1) 56 2 v' (out.length + 1) (flatB out ++ [.int .i64 l.k, .int .i64 l.a])) (hg : (w1.alloc ob).grownBy w2 v.ownBlock) :
    Box w2 G 54 #[.int .i64 o, .int .i64 q, v] ∧ ZG w R A len c f G P o q v' (out ++ [l]) (w2.setCell ⟨G, 2, none⟩ v') := by
  have hl := h.row.lt
  have b1 : Box w2 w.heap.size 54 #[.int .i64 0, .int .i64 0, .slice none 0 0] := (hg.block _ (by have := h.res.lt; simp; omega) (fun e => own_box_ne h.row h.res (by decide) e.symm)).trans (h.res.alloc ob)
  have b2 : Box w2 G 54 #[.int .i64 o, .int .i64 q, v] := (hg.block _ (by have := h.box.lt; simp; omega) (fun e => own_box_ne h.row h.box (by decide) e.symm)).trans (h.box.alloc ob)
  have r2 : RD R A len c f P w2 := h.rd.below (((Below.refl (R + 1) w1).alloc h.rd.lt ob).grown hg (by have := h.rd.lt; simp; omega) (fun j e => by have := (hl j e).1; omega))
  refine ⟨b2, r2.set (q := ⟨G, 2, none⟩) hRG v', (Below.heap_setCell w2 ⟨G, 2, none⟩ v' _ (by show w.heap.size ≠ G; omega)).trans b1, heap_set b2 2 v', ?_, grown_setFar (grown_far (grown_alloc h.gr ob) hg (fun j e => by have := (hl j e).1; omega)) (p := ⟨G, 2, none⟩) (by show w.heap.size ≤ G; omega) v', ?_⟩
  · have hk := hown.kept (grown_set (World.grownBy.refl w2 (some G)) 2 v') (.inr (own_box_ne hown b2 (by decide)))
    rw [flatB_append, List.length_append]
    exact hk
  · have h1 := hg.size
    have h2 := h.sz
    simp at h1 ⊢
    omega
end
def EndOk (e : Lb) : Prop := -1 ≤ e.k ∧ e.k ≤ 8 ∧ 0 ≤ e.a ∧ e.a ≤ 21
def LaOk (d : La) : Prop := -1 ≤ d.o ∧ d.o ≤ 8 ∧ 0 ≤ d.q ∧ d.q ≤ 100 ∧ d.es.length ≤ 8 ∧ ∀ e ∈ d.es, EndOk e
/-- What 'l91Lsa' leaves. -/
def LsaD (R : Nat) (A : Option Addr) (len c : Nat) (f : Nat → Int) (P : Nat) (w : World) (e : Ending) (w' : World) : Prop :=
  ∃ z : Lz, e = .returned z.v ∧ LaOk z.d ∧ InnZ w' w.heap.size z ∧ RD R A len c f P w' ∧ w.grownBy w' (some R)

set_option maxRecDepth 100000 in
set_option maxHeartbeats 4000000 in
theorem l91lsa_any (R : Nat) (A : Option Addr) (len c P : Nat) (f : Nat → Int) (w : World) (hlen : len ≤ 2000) (hP : P ≤ 100000) (hR : RD R A len c f P w) :
   Calls Try.prog 67 #[.pointer (some ⟨R, 0, none⟩)] w (LsaD R A len c f (P + 30) w) := by
  obtain ⟨i0, hi, hz0, hz10, hz20⟩ := info_parts infoEnd
  have hRw := hR.lt
  have HR := Lib.hid (hR.alloc (.cells #[.int .i64 0, .int .i64 0, .slice none 0 0] 54))
  have Q0 := Lib.hid (Box.new w 54 #[.int .i64 0, .int .i64 0, .slice none 0 0])
  clear hR
  go_enter Try.func67, Try.ntmps67
  go_wp2_with fail
  refine (pick_rd R A len c P 6 f _ hlen (by omega) (by omega) (by omega) HR.out).mono ?_
  rintro e w1 ⟨k1, rfl, hk1, hR1, hg1, hs1, -⟩
  have HR1 := Lib.hid hR1
  have Q1 := Lib.hid (Q0.out.grown hg1 (by omega))
  have g1 := Lib.hid (grown_trans (World.grownBy_alloc w _ _) hg1)
  rw [World.size_alloc] at hs1
  have z1 : w.heap.size < w1.heap.size := by omega
  clear hR1 hg1 Q0 HR hs1
  go_wp2_with fail
  refine (pick_rd R A len c _ 4 f _ hlen (by omega) (by omega) (by omega) HR1.out).mono ?_
  rintro e w2 ⟨k2, rfl, hk2, hR2, hg2, hs2, -⟩
  have g2 := grown_trans g1.out hg2
  have S0 : Hid (ZG w R A len c f (w2.heap.size + 1) (P + 2) (k1 : Int) (1 + (k2 : Int)) (.slice (some ⟨w2.heap.size, 0, none⟩) 0 0) [] ((w2.alloc (.cells #[] 56)).alloc (.cells #[.int .i64 (k1 : Int), .int .i64 (1 + (k2 : Int)), .slice (some ⟨w2.heap.size, 0, none⟩) 0 0] 54))) := Lib.hid (by
    have q2 := (Q1.out.grown hg2 (by omega))
    have b := Box.new (w2.alloc (.cells #[] 56)) 54 #[.int .i64 (k1 : Int), .int .i64 (1 + (k2 : Int)), .slice (some ⟨w2.heap.size, 0, none⟩) 0 0]
    rw [World.size_alloc] at b
    exact ⟨(hR2.alloc _).alloc _, (q2.alloc _).alloc _, b, (World.ownsRow_made (base := w.heap.size + 1) (e := 56) (size := 2) w2 #[] 0 (by omega) (by unfold maxLen; omega) rfl).alloc _, grown_alloc (grown_alloc g2 _) _, by simp; omega⟩)
  have hG : w.heap.size < w2.heap.size + 1 := by omega
  clear hR2 hg2 g2 g1 Q1 HR1 hs2
  go_wp2_with fail
  generalize hGG : w2.heap.size + 1 = G at *
  have hRG : R < G := by omega
  have hwG := hG
  have ho0 : (0 : Int) ≤ k1 := by omega
  generalize (k1 : Int) = o at *
  have hq0 : (1 : Int) ≤ 1 + (k2 : Int) := by omega
  have hq1 : 1 + (k2 : Int) ≤ 4 := by omega
  generalize (1 + (k2 : Int)) = q at *
  clear hGG hG
  go_loopw [4] (fun i wr => ∃ (n : Nat) (v : Value) (out : List Lb), n ≤ 6 ∧ i = .int .i64 (n : Int) ∧ out.length ≤ n ∧ Hid (∀ e ∈ out, EndOk e) ∧ Hid (ZG w R A len c f G (P + 2 + 2 * n) o q v out wr)) (fun i _ => 6 - (intOf i).toNat)
  case atStart => exact ⟨0, _, [], by omega, rfl, by simp, Lib.hid (fun e he => by simp at he), S0⟩
  case round =>
    obtain ⟨n, v, out, hn, rfl, hle, HE, S⟩ := hrel
    clear S0
    obtain ⟨zb, b0, b1, b2, -, -, -⟩ := S.out.box.three
    obtain ⟨A9, g9, c9, rfl, -, -, -, -⟩ := own_slicee S.out.row S.out.sz
    by_cases hlt : n < 6
    · have hlti : (n : Int) < 6 := by omega
      by_cases hno : (n : Int) = o
      · have hno' : ((n : Int) != o) = false := by simpa using hno
        have HNO := Lib.hid hno
        clear hno
        go_wp2_with fail
        go_roundw
        case rel => exact ⟨n + 1, _, out, by omega, by go_num, by omega, HE, Lib.hid (S.out.mono (by omega))⟩
        case measure => simp [intOf]; omega
      · have hno' : ((n : Int) != o) = true := by simpa using hno
        clear hno
        go_wp2_with fail
        refine (pick_rd R A len c _ 2 f _ hlen (by omega) (by omega) (by omega) S.out.rd).mono ?_
        rintro e w3 ⟨k3, rfl, hk3, hR3, hg3, hs3, -⟩
        have S3 := Lib.hid (S.out.picked hR3 hg3 hRw hRG)
        clear hR3 hg3 hs3 S zb b0 b1 b2
        by_cases h3 : k3 = 0
        · subst h3
          have SD := Lib.hid S3.out.drew
          obtain ⟨zb, b0, b1, b2, -, -, -⟩ := S3.out.box.three
          clear S3
          go_wp2_with fail
          go_region_law (first
            | (go_simp; go_at_call 38; refine (pick_rd R A len c _ _ f _ hlen (by omega) (by omega) (by omega) SD.out.rd).mono ?_; rintro e w5 ⟨k5, rfl, hk5, hR5, hg5, hs5, -⟩; have S5 := Lib.hid (SD.out.picked hR5 hg5 hRw hRG); have e5 : w5.cell? ⟨G, 2, none⟩ = _ := S5.out.box.cell 2; have z5 := S5.out.box.lt; clear SD hR5 hg5 hs5)
            | (refine step_append_lies _ rfl _ _ 52 rfl (w.heap.size + 1) 56 i0 _ 2 16 Try.underlying52 hi hz0 hz10 hz20 rfl (by decide) _ out.length (flatB out) rfl (S5.out.row.alloc _) ⟨w5.heap.size, 0, none⟩ 1 1 _ rfl rfl (new2 _ _ _ _) (one2 _ _) (by decide) (by unfold maxLen; omega) (by omega) (by have := S5.out.sz; simp; omega) _ rfl ?_; intro g8 cap8 w8 hown8 hgrow8 hat8 hlt8; have S8 := S5.out.grown hRw hRG hwG (l := ⟨(n : Int), IntKind.i64.wrap (1 + (k5 : Int))⟩) hown8 hgrow8; have e8 := S8.1.cell 2; have q8 := S8.1.frozen 2; have R8 := Lib.hid S8.2; clear S8 hown8 hgrow8 hat8 hlt8))
          all_goals
            go_wp2_with fail
            go_roundw
            case rel => exact ⟨n + 1, _, out ++ [⟨(n : Int), IntKind.i64.wrap (1 + (k5 : Int))⟩], by omega, by go_num, by simp; omega, Lib.hid (fun e he => by
              rcases List.mem_append.1 he with he | he
              · exact HE.out e he
              · obtain rfl : e = ⟨(n : Int), IntKind.i64.wrap (1 + (k5 : Int))⟩ := by simpa using he
                have hw5 : IntKind.i64.wrap (1 + (k5 : Int)) = 1 + (k5 : Int) := IntWalk.i64_in _ (by omega)
                rw [hw5]
                unfold EndOk
                dsimp only
                omega), Lib.hid (R8.out.mono (by omega))⟩
            case measure => simp [intOf]; omega
        · have h3' : ((k3 : Int) == 0) = false := by simpa using h3
          go_wp2_with fail
          go_roundw
          case rel => exact ⟨n + 1, _, out, by omega, by go_num, by omega, HE, Lib.hid (S3.out.mono (by omega))⟩
          case measure => simp [intOf]; omega
    · obtain rfl : n = 6 := by omega
      go_wp2_with fail
      refine (pick_rd R A len c _ 30 f _ hlen (by omega) (by omega) (by omega) S.out.rd).mono ?_
      rintro e w4 ⟨k4, rfl, hk4, hR4, hg4, hs4, -⟩
      have S4 := Lib.hid (S.out.picked hR4 hg4 hRw hRG)
      clear hR4 hg4 hs4 S zb b0 b1 b2
      by_cases h4 : k4 = 0
      · subst h4
        have SA := Lib.hid (S4.out.alloc (.cells #[.int .i64 0, .int .i64 99, .int .i64 100] 3))
        have XA := Lib.hid (Box.new w4 3 #[.int .i64 0, .int .i64 99, .int .i64 100])
        have zRA : R < w4.heap.size := S4.out.rd.lt
        clear S4
        go_wp2_with fail
        refine (pick_rd R A len c _ 3 f _ hlen (by omega) (by omega) (by omega) SA.out.rd).mono ?_
        rintro e w5 ⟨k5, rfl, hk5, hR5, hg5, hs5, -⟩
        have S5 := Lib.hid (SA.out.picked hR5 hg5 hRw hRG)
        have X5 := Lib.hid (XA.out.grown hg5 (by omega))
        obtain ⟨zb, b0, b1, b2, p0, p1, p2⟩ := S5.out.box.three
        have zq := X5.out.lt
        have y0 := X5.out.cell 0
        have y1 := X5.out.cell 1
        have y2 := X5.out.cell 2
        clear hR5 hg5 hs5 SA XA X5 zRA
        obtain rfl | rfl | rfl : k5 = 0 ∨ k5 = 1 ∨ k5 = 2 := by omega
        · have S6 := Lib.hid (S5.out.set hRG hwG 1 (.int .i64 0) (o' := o) (q' := 0) rfl)
          obtain ⟨A7, g7, c7, hv7, hg7, -, ho7, hc7⟩ := own_slicee S6.out.row S6.out.sz
          obtain ⟨e7, -, i7⟩ := Value.slice.inj hv7
          subst e7
          subst i7
          clear hv7
          obtain ⟨zt, t0, t1, t2, -, -, -⟩ := S6.out.box.three
          obtain ⟨zr, r0, r1, r2, u0, u1, u2⟩ := S6.out.res.three
          obtain ⟨b7, x0, x1, x2⟩ := ret_three S6.out.res (.int .i64 (o)) (.int .i64 (0)) (.slice A9 (out).length c9)
          have O7 := Lib.hid ho7
          clear ho7
          go_wp2_with fail
          refine bodyPost_ret (v := (⟨o, 0, out, A9, c9, g7⟩ : Lz).v) (by simp [results, Try.results67, go_sem, x0, x1, x2]) rfl ?_
          refine ⟨⟨o, 0, out, A9, c9, g7⟩, rfl, ⟨by dsimp only; omega, by dsimp only; omega, by dsimp only; omega, by dsimp only; omega, by simp; omega, HE.out⟩, ⟨((O7.out.set_far ?_ _).set_far ?_ _).set_far ?_ _, ?_, hc7⟩, (((S6.out.rd.set (q := ⟨w.heap.size, 0, none⟩) hRw _).set (q := ⟨w.heap.size, 1, none⟩) hRw _).set (q := ⟨w.heap.size, 2, none⟩) hRw _).mono (by omega), grown_setFar (p := ⟨w.heap.size, 2, none⟩) (grown_setFar (p := ⟨w.heap.size, 1, none⟩) (grown_setFar (p := ⟨w.heap.size, 0, none⟩) S6.out.gr (Nat.le_refl _) _) (Nat.le_refl _) _) (Nat.le_refl _) _⟩
          · show g7 ≠ w.heap.size; omega
          · show g7 ≠ w.heap.size; omega
          · show g7 ≠ w.heap.size; omega
          · show w.heap.size ≤ g7; omega
        · have S6 := Lib.hid (S5.out.set hRG hwG 1 (.int .i64 99) (o' := o) (q' := 99) rfl)
          obtain ⟨A7, g7, c7, hv7, hg7, -, ho7, hc7⟩ := own_slicee S6.out.row S6.out.sz
          obtain ⟨e7, -, i7⟩ := Value.slice.inj hv7
          subst e7
          subst i7
          clear hv7
          obtain ⟨zt, t0, t1, t2, -, -, -⟩ := S6.out.box.three
          obtain ⟨zr, r0, r1, r2, u0, u1, u2⟩ := S6.out.res.three
          obtain ⟨b7, x0, x1, x2⟩ := ret_three S6.out.res (.int .i64 (o)) (.int .i64 (99)) (.slice A9 (out).length c9)
          have O7 := Lib.hid ho7
          clear ho7
          go_wp2_with fail
          refine bodyPost_ret (v := (⟨o, 99, out, A9, c9, g7⟩ : Lz).v) (by simp [results, Try.results67, go_sem, x0, x1, x2]) rfl ?_
          refine ⟨⟨o, 99, out, A9, c9, g7⟩, rfl, ⟨by dsimp only; omega, by dsimp only; omega, by dsimp only; omega, by dsimp only; omega, by simp; omega, HE.out⟩, ⟨((O7.out.set_far ?_ _).set_far ?_ _).set_far ?_ _, ?_, hc7⟩, (((S6.out.rd.set (q := ⟨w.heap.size, 0, none⟩) hRw _).set (q := ⟨w.heap.size, 1, none⟩) hRw _).set (q := ⟨w.heap.size, 2, none⟩) hRw _).mono (by omega), grown_setFar (p := ⟨w.heap.size, 2, none⟩) (grown_setFar (p := ⟨w.heap.size, 1, none⟩) (grown_setFar (p := ⟨w.heap.size, 0, none⟩) S6.out.gr (Nat.le_refl _) _) (Nat.le_refl _) _) (Nat.le_refl _) _⟩
          · show g7 ≠ w.heap.size; omega
          · show g7 ≠ w.heap.size; omega
          · show g7 ≠ w.heap.size; omega
          · show w.heap.size ≤ g7; omega
        · have S6 := Lib.hid (S5.out.set hRG hwG 1 (.int .i64 100) (o' := o) (q' := 100) rfl)
          obtain ⟨A7, g7, c7, hv7, hg7, -, ho7, hc7⟩ := own_slicee S6.out.row S6.out.sz
          obtain ⟨e7, -, i7⟩ := Value.slice.inj hv7
          subst e7
          subst i7
          clear hv7
          obtain ⟨zt, t0, t1, t2, -, -, -⟩ := S6.out.box.three
          obtain ⟨zr, r0, r1, r2, u0, u1, u2⟩ := S6.out.res.three
          obtain ⟨b7, x0, x1, x2⟩ := ret_three S6.out.res (.int .i64 (o)) (.int .i64 (100)) (.slice A9 (out).length c9)
          have O7 := Lib.hid ho7
          clear ho7
          go_wp2_with fail
          refine bodyPost_ret (v := (⟨o, 100, out, A9, c9, g7⟩ : Lz).v) (by simp [results, Try.results67, go_sem, x0, x1, x2]) rfl ?_
          refine ⟨⟨o, 100, out, A9, c9, g7⟩, rfl, ⟨by dsimp only; omega, by dsimp only; omega, by dsimp only; omega, by dsimp only; omega, by simp; omega, HE.out⟩, ⟨((O7.out.set_far ?_ _).set_far ?_ _).set_far ?_ _, ?_, hc7⟩, (((S6.out.rd.set (q := ⟨w.heap.size, 0, none⟩) hRw _).set (q := ⟨w.heap.size, 1, none⟩) hRw _).set (q := ⟨w.heap.size, 2, none⟩) hRw _).mono (by omega), grown_setFar (p := ⟨w.heap.size, 2, none⟩) (grown_setFar (p := ⟨w.heap.size, 1, none⟩) (grown_setFar (p := ⟨w.heap.size, 0, none⟩) S6.out.gr (Nat.le_refl _) _) (Nat.le_refl _) _) (Nat.le_refl _) _⟩
          · show g7 ≠ w.heap.size; omega
          · show g7 ≠ w.heap.size; omega
          · show g7 ≠ w.heap.size; omega
          · show w.heap.size ≤ g7; omega
      · have h4' : ((k4 : Int) == 0) = false := by simpa using h4
        by_cases h5 : k4 = 1
        · subst h5
          go_wp2_with fail
          refine (pick_rd R A len c _ 10 f _ hlen (by omega) (by omega) (by omega) S4.out.rd).mono ?_
          rintro e w5 ⟨k5, rfl, hk5, hR5, hg5, hs5, -⟩
          have S5 := Lib.hid (S4.out.picked hR5 hg5 hRw hRG)
          obtain ⟨zb, b0, b1, b2, p0, p1, p2⟩ := S5.out.box.three
          clear hR5 hg5 hs5 S4
          have S6 := Lib.hid (S5.out.set hRG hwG 0 (.int .i64 ((k5 : Int) - 1)) (o' := (k5 : Int) - 1) (q' := q) rfl)
          have hx0 : (-1 : Int) ≤ (k5 : Int) - 1 := by omega
          have hx8 : (k5 : Int) - 1 ≤ 8 := by omega
          obtain ⟨A7, g7, c7, hv7, hg7, -, ho7, hc7⟩ := own_slicee S6.out.row S6.out.sz
          obtain ⟨e7, -, i7⟩ := Value.slice.inj hv7
          subst e7
          subst i7
          clear hv7
          obtain ⟨zt, t0, t1, t2, -, -, -⟩ := S6.out.box.three
          obtain ⟨zr, r0, r1, r2, u0, u1, u2⟩ := S6.out.res.three
          obtain ⟨b7, x0, x1, x2⟩ := ret_three S6.out.res (.int .i64 ((k5 : Int) - 1)) (.int .i64 (q)) (.slice A9 (out).length c9)
          have O7 := Lib.hid ho7
          clear ho7
          go_wp2_with fail
          refine bodyPost_ret (v := (⟨(k5 : Int) - 1, q, out, A9, c9, g7⟩ : Lz).v) (by simp [results, Try.results67, go_sem, x0, x1, x2]) rfl ?_
          refine ⟨⟨(k5 : Int) - 1, q, out, A9, c9, g7⟩, rfl, ⟨by dsimp only; omega, by dsimp only; omega, by dsimp only; omega, by dsimp only; omega, by simp; omega, HE.out⟩, ⟨((O7.out.set_far ?_ _).set_far ?_ _).set_far ?_ _, ?_, hc7⟩, (((S6.out.rd.set (q := ⟨w.heap.size, 0, none⟩) hRw _).set (q := ⟨w.heap.size, 1, none⟩) hRw _).set (q := ⟨w.heap.size, 2, none⟩) hRw _).mono (by omega), grown_setFar (p := ⟨w.heap.size, 2, none⟩) (grown_setFar (p := ⟨w.heap.size, 1, none⟩) (grown_setFar (p := ⟨w.heap.size, 0, none⟩) S6.out.gr (Nat.le_refl _) _) (Nat.le_refl _) _) (Nat.le_refl _) _⟩
          · show g7 ≠ w.heap.size; omega
          · show g7 ≠ w.heap.size; omega
          · show g7 ≠ w.heap.size; omega
          · show w.heap.size ≤ g7; omega
        · have h5' : ((k4 : Int) == 1) = false := by have : (k4 : Int) ≠ 1 := (by omega); simpa using this
          by_cases h6 : k4 = 2
          · subst h6
            have SD := Lib.hid S4.out.drew
            obtain ⟨zb, b0, b1, b2, -, -, -⟩ := S4.out.box.three
            clear S4
            go_wp2_with fail
            go_region_law (first
              | (go_simp; go_at_call 38; refine (pick_rd R A len c _ _ f _ hlen (by omega) (by omega) (by omega) SD.out.rd).mono ?_; rintro e w5 ⟨k5, rfl, hk5, hR5, hg5, hs5, -⟩; have S5 := Lib.hid (SD.out.picked hR5 hg5 hRw hRG); have e5 : w5.cell? ⟨G, 2, none⟩ = _ := S5.out.box.cell 2; have z5 := S5.out.box.lt; clear SD hR5 hg5 hs5)
              | (go_simp; go_at_call 38; refine (pick_rd R A len c _ _ f _ hlen (by omega) (by omega) (by omega) S5.out.rd).mono ?_; rintro e w6 ⟨k6, rfl, hk6, hR6, hg6, hs6, -⟩; have S6 := Lib.hid (S5.out.picked hR6 hg6 hRw hRG); have e6 : w6.cell? ⟨G, 2, none⟩ = _ := S6.out.box.cell 2; have z6 := S6.out.box.lt; clear S5 hR6 hg6 hs6)
              | (refine step_append_lies _ rfl _ _ 52 rfl (w.heap.size + 1) 56 i0 _ 2 16 Try.underlying52 hi hz0 hz10 hz20 rfl (by decide) _ out.length (flatB out) rfl (S6.out.row.alloc _) ⟨w6.heap.size, 0, none⟩ 1 1 _ rfl rfl (new2 _ _ _ _) (one2 _ _) (by decide) (by unfold maxLen; omega) (by omega) (by have := S6.out.sz; simp; omega) _ rfl ?_; intro g8 cap8 w8 hown8 hgrow8 hat8 hlt8; have S8 := S6.out.grown hRw hRG hwG (l := ⟨IntKind.i64.wrap ((k5 : Int) - 1), (k6 : Int)⟩) hown8 hgrow8; have e8 := S8.1.cell 2; have q8 := S8.1.frozen 2; have R8 := Lib.hid S8.2; clear S8 hown8 hgrow8 hat8 hlt8))
            all_goals
              have hw5 : IntKind.i64.wrap ((k5 : Int) - 1) = (k5 : Int) - 1 := IntWalk.i64_in _ (by omega)
              have HE8 : Hid (∀ e ∈ out ++ [⟨IntKind.i64.wrap ((k5 : Int) - 1), (k6 : Int)⟩], EndOk e) := Lib.hid (fun e he => by
                rcases List.mem_append.1 he with he | he
                · exact HE.out e he
                · obtain rfl : e = ⟨IntKind.i64.wrap ((k5 : Int) - 1), (k6 : Int)⟩ := by simpa using he
                  rw [hw5]
                  unfold EndOk
                  dsimp only
                  omega)
              clear hw5
              obtain ⟨A7, g7, c7, hv7, hg7, -, ho7, hc7⟩ := own_slicee R8.out.row R8.out.sz
              obtain ⟨e7, -, i7⟩ := Value.slice.inj hv7
              subst e7
              subst i7
              clear hv7
              obtain ⟨zt, t0, t1, t2, -, -, -⟩ := R8.out.box.three
              obtain ⟨zr, r0, r1, r2, u0, u1, u2⟩ := R8.out.res.three
              obtain ⟨b7, x0, x1, x2⟩ := ret_three R8.out.res (.int .i64 (o)) (.int .i64 (q)) (.slice (some ⟨g8, 0, none⟩) (out ++ [(⟨IntKind.i64.wrap ((k5 : Int) - 1), (k6 : Int)⟩ : Lb)]).length cap8)
              simp only [List.length_append, List.length_cons, List.length_nil, Nat.zero_add] at x0 x1 x2
              have O7 := Lib.hid ho7
              clear ho7
              go_wp2_with fail
              refine bodyPost_ret (v := (⟨o, q, out ++ [(⟨IntKind.i64.wrap ((k5 : Int) - 1), (k6 : Int)⟩ : Lb)], (some ⟨g8, 0, none⟩), cap8, g7⟩ : Lz).v) (by simp [results, Try.results67, go_sem, x0, x1, x2]) rfl ?_
              refine ⟨⟨o, q, out ++ [(⟨IntKind.i64.wrap ((k5 : Int) - 1), (k6 : Int)⟩ : Lb)], (some ⟨g8, 0, none⟩), cap8, g7⟩, rfl, ⟨by dsimp only; omega, by dsimp only; omega, by dsimp only; omega, by dsimp only; omega, by simp; omega, HE8.out⟩, ⟨((O7.out.set_far ?_ _).set_far ?_ _).set_far ?_ _, ?_, hc7⟩, (((R8.out.rd.set (q := ⟨w.heap.size, 0, none⟩) hRw _).set (q := ⟨w.heap.size, 1, none⟩) hRw _).set (q := ⟨w.heap.size, 2, none⟩) hRw _).mono (by omega), grown_setFar (p := ⟨w.heap.size, 2, none⟩) (grown_setFar (p := ⟨w.heap.size, 1, none⟩) (grown_setFar (p := ⟨w.heap.size, 0, none⟩) R8.out.gr (Nat.le_refl _) _) (Nat.le_refl _) _) (Nat.le_refl _) _⟩
              · show g7 ≠ w.heap.size; omega
              · show g7 ≠ w.heap.size; omega
              · show g7 ≠ w.heap.size; omega
              · show w.heap.size ≤ g7; omega
          · have h6' : ((k4 : Int) == 2) = false := by have : (k4 : Int) ≠ 2 := (by omega); simpa using this
            obtain ⟨A7, g7, c7, hv7, hg7, -, ho7, hc7⟩ := own_slicee S4.out.row S4.out.sz
            obtain ⟨e7, -, i7⟩ := Value.slice.inj hv7
            subst e7
            subst i7
            clear hv7
            obtain ⟨zt, t0, t1, t2, -, -, -⟩ := S4.out.box.three
            obtain ⟨zr, r0, r1, r2, u0, u1, u2⟩ := S4.out.res.three
            obtain ⟨b7, x0, x1, x2⟩ := ret_three S4.out.res (.int .i64 (o)) (.int .i64 (q)) (.slice A9 (out).length c9)
            have O7 := Lib.hid ho7
            clear ho7
            go_wp2_with fail
            refine bodyPost_ret (v := (⟨o, q, out, A9, c9, g7⟩ : Lz).v) (by simp [results, Try.results67, go_sem, x0, x1, x2]) rfl ?_
            refine ⟨⟨o, q, out, A9, c9, g7⟩, rfl, ⟨by dsimp only; omega, by dsimp only; omega, by dsimp only; omega, by dsimp only; omega, by simp; omega, HE.out⟩, ⟨((O7.out.set_far ?_ _).set_far ?_ _).set_far ?_ _, ?_, hc7⟩, (((S4.out.rd.set (q := ⟨w.heap.size, 0, none⟩) hRw _).set (q := ⟨w.heap.size, 1, none⟩) hRw _).set (q := ⟨w.heap.size, 2, none⟩) hRw _).mono (by omega), grown_setFar (p := ⟨w.heap.size, 2, none⟩) (grown_setFar (p := ⟨w.heap.size, 1, none⟩) (grown_setFar (p := ⟨w.heap.size, 0, none⟩) S4.out.gr (Nat.le_refl _) _) (Nat.le_refl _) _) (Nat.le_refl _) _⟩
            · show g7 ≠ w.heap.size; omega
            · show g7 ≠ w.heap.size; omega
            · show g7 ≠ w.heap.size; omega
            · show w.heap.size ≤ g7; omega
end Go.Proofs.Ytnkohgdfipgdoab
