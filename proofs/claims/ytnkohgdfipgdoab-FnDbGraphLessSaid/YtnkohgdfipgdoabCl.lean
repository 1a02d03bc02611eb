/-
  A contract over this seat: the drawn announcements that fit a graph (l91Close).
-/
import Derived.Test.YtnkohgdfipgdoabCk
namespace Go.Proofs.Ytnkohgdfipgdoab
open Go.RowKit Go.Maps

/-- The same, with an announcement in its box. -/
structure CL (w : World) (R : Nat) (A : Option Addr) (len c : Nat) (f : Nat → Int) (P : Nat) (v : Value) (zs : List Lz) (n : Int) (Ag : Option Addr) (gg cg : Nat) (ls : List Lk) (G : Nat) (z : Lz) (W : World) : Prop where
  zc : ZC w R A len c f P v zs n Ag gg cg ls W
  box : Box W G 54 #[.int .i64 z.o, .int .i64 z.q, .slice z.A z.es.length z.c]
  own : Owne W z.A z.g z.es
section
variable {w w1 w2 : World} {R : Nat} {A : Option Addr} {len c : Nat} {f : Nat → Int} {P P' : Nat} {v : Value} {zs : List Lz} {n : Int} {Ag : Option Addr} {gg cg : Nat} {ls : List Lk} {G : Nat} {z : Lz}
theorem CL.picked (h : CL w R A len c f P v zs n Ag gg cg ls G z w1) (hr : RD R A len c f P' w2) (hg : w1.grownBy w2 (some R)) (hRw : R < w.heap.size) (hRg : 0 < ls.length → gg ≠ R) (hG : G ≠ R) (hz : z.g ≠ R) : CL w R A len c f P' v zs n Ag gg cg ls G z w2 :=
  ⟨h.zc.picked hr hg hRw hRg, h.box.grown hg hG, h.own.grownFar hg hz⟩
theorem CL.drew (h : CL w R A len c f P v zs n Ag gg cg ls G z w1) : CL w R A len c f P v zs n Ag gg cg ls G z w1.drew := ⟨h.zc.drew, h.box, h.own⟩
theorem CL.mono (h : CL w R A len c f P v zs n Ag gg cg ls G z w1) (hP : P ≤ P') : CL w R A len c f P' v zs n Ag gg cg ls G z w1 := ⟨h.zc.mono hP, h.box, h.own⟩
theorem Arre.setA {w : World} {g : Nat} {es : List Lb} (h : Arre w g es) {k : Nat} {e : Lb} (hk : es[k]? = some e) (x : Int) : Arre (w.setCell ⟨g, k * 2 + 1, none⟩ (.int .i64 x)) g (es.set k ⟨e.k, x⟩) := by
  obtain ⟨cs, hh, hc⟩ := h
  refine ⟨_, heap_set hh (k * 2 + 1) (.int .i64 x), fun j l hj => ?_⟩
  have hkl := (List.getElem?_eq_some_iff.1 hk).1
  have hks := (Array.getElem?_eq_some_iff.1 (hc k e hk).2).1
  simp only [Array.getElem?_setIfInBounds]
  by_cases e' : j = k
  · subst e'
    rw [List.getElem?_set_self hkl] at hj
    cases hj
    rw [if_neg (by omega), if_pos rfl, if_pos hks]
    exact ⟨(hc j e hk).1, rfl⟩
  · rw [List.getElem?_set_ne (fun x => e' x.symm)] at hj
    rw [if_neg (by omega), if_neg (by omega)]
    exact hc j l hj
/-- One neighbour's cost is stored anew. -/
theorem CL.setA {B : Nat} {o q : Int} {es : List Lb} {g cz : Nat} (h : CL w R A len c f P v zs n Ag gg cg ls G ⟨o, q, es, some ⟨g, 0, none⟩, cz, g⟩ w1) {k : Nat} {e : Lb} (hk : es[k]? = some e) (x : Int) (hw : w.heap.size < B) (hR : R < B) (hB : B ≤ g) (hv : ∀ j, v.ownBlock = some j → j < B) (hz : ∀ z ∈ zs, 0 < z.es.length → z.g < B) (hg : 0 < ls.length → gg < B) (hG : G ≠ g) :
    CL w R A len c f P v zs n Ag gg cg ls G ⟨o, q, es.set k ⟨e.k, x⟩, some ⟨g, 0, none⟩, cz, g⟩ (w1.setCell ⟨g, k * 2 + 1, none⟩ (.int .i64 x)) := by
  have hb : Below B w1 (w1.setCell ⟨g, k * 2 + 1, none⟩ (.int .i64 x)) := (Below.refl _ _).setCell (p := ⟨g, k * 2 + 1, none⟩) hB _
  have hl := (List.getElem?_eq_some_iff.1 hk).1
  refine ⟨h.zc.far hb hw hR hv hz hg, ?_, fun _ => ⟨rfl, ((h.own (by show 0 < es.length; omega)).2).setA hk x⟩⟩
  have hbx := (Below.heap_setCell w1 ⟨g, k * 2 + 1, none⟩ (.int .i64 x) G (by show G ≠ g; exact hG)).trans h.box
  show Box _ G 54 #[.int .i64 o, .int .i64 q, .slice (some ⟨g, 0, none⟩) (es.set k ⟨e.k, x⟩).length cz]
  rw [List.length_set]
  exact hbx
/-- The announcement is stored into its box. -/
theorem CL.stored {B : Nat} {u0 u1 u2 : Value} (h : ZC w R A len c f P v zs n Ag gg cg ls w1) (hbx : Box w1 G 54 #[u0, u1, u2]) (ho : Owne w1 z.A z.g z.es) (hw : w.heap.size < B) (hR : R < B) (hB : B ≤ G) (hv : ∀ j, v.ownBlock = some j → j < B) (hz : ∀ z ∈ zs, 0 < z.es.length → z.g < B) (hg : 0 < ls.length → gg < B) (hG : z.g ≠ G) :
    CL w R A len c f P v zs n Ag gg cg ls G z (((w1.setCell ⟨G, 0, none⟩ (.int .i64 z.o)).setCell ⟨G, 1, none⟩ (.int .i64 z.q)).setCell ⟨G, 2, none⟩ (.slice z.A z.es.length z.c)) := by
  refine ⟨h.far ((((Below.refl B w1).setCell (p := ⟨G, 0, none⟩) hB _).setCell (p := ⟨G, 1, none⟩) hB _).setCell (p := ⟨G, 2, none⟩) hB _) hw hR hv hz hg, heap_set (heap_set (heap_set hbx 0 _) 1 _) 2 _, ?_⟩
  exact ((ho.set_far (p := ⟨G, 0, none⟩) hG _).set_far (p := ⟨G, 1, none⟩) hG _).set_far (p := ⟨G, 2, none⟩) hG _
theorem kx_swap {X : Nat → Prop} {w : World} {o o' : Obj} (hx : X w.heap.size) : Kx X (w.alloc o) (w.alloc o') :=
  ⟨rfl, rfl, rfl, by simp, fun i hi hx' => by
    have hlt : i < w.heap.size := by
      have hne : i ≠ w.heap.size := fun e => hx' (e ▸ hx)
      simp at hi
      omega
    exact (Below.heap_alloc w o' i hlt).trans (Below.heap_alloc w o i hlt).symm⟩
/-- The row grows by the announcement. -/
theorem CL.append {B : Nat} {v' : Value} {W' : World} {o : Obj} (h : CL w R A len c f P v zs n Ag gg cg ls G z w1) (hRw : R < w.heap.size) (hBw : w.heap.size ≤ B) (hz : ∀ x ∈ zs, 0 < x.es.length → x.g < B) (hzg : B ≤ z.g) (hzc : z.es.length ≤ z.c)
    (hown : W'.ownsRow w.heap.size 54 3 v' (zs.length + 1) (flatZ zs ++ [.int .i64 z.o, .int .i64 z.q, .slice z.A z.es.length z.c])) (hg : (w1.alloc o).grownBy W' v.ownBlock) (hgw : 0 < ls.length → gg < w.heap.size) : ZC w R A len c f P v' (zs ++ [z]) n Ag gg cg ls W' := by
  obtain ⟨⟨h1, h2, h3⟩, h4, h5⟩ := h.zc
  have hl := h2.row.lt
  refine ⟨⟨?_, h2.append ⟨h.own, by omega, hzc⟩ (fun x hx h1 _ => by have := hz x hx h1; omega) hown hg, grown_far (grown_alloc h3 _) hg (fun j e => (hl j e).1)⟩, ?_, fun hp => ?_⟩
  · exact h1.below (((Below.refl (R + 1) w1).alloc h1.lt _).grown hg (by have := h1.lt; simp; omega) (fun j e => by have := (hl j e).1; omega))
  · exact (hg.block _ (by have := h4.lt; simp; omega) (fun e => own_box_ne h2.row h4 (by decide) e.symm)).trans (h4.alloc o)
  · obtain ⟨e, cs, hh, hc⟩ := h5 hp
    have hgl := hgw hp
    exact ⟨e, cs, (hg.block gg (by have := heap_lt hh; simp; omega) (fun e' => by have := (hl gg e'.symm).1; omega)).trans ((Below.heap_alloc w1 o gg (heap_lt hh)).trans hh), hc⟩
end

set_option maxRecDepth 100000 in
set_option maxHeartbeats 8000000 in
theorem l91close_any (R : Nat) (A : Option Addr) (len c P : Nat) (f : Nat → Int) (m : Nat) (Ag : Option Addr) (gg cg : Nat) (ls : List Lk) (w : World) (hlen : len ≤ 2000) (hP : P ≤ 50000) (hm10 : m ≤ 10) (hls : ls.length ≤ 2000000) (hR : RD R A len c f P w) (hG : Own1 w Ag gg ls) (hRg : 0 < ls.length → gg ≠ R) :
   Calls Try.prog 47 #[.pointer (some ⟨R, 0, none⟩), gval (m : Int) Ag ls.length cg] w fun e w' => ∃ (zs : List Lz) (Az : Option Addr) (cz : Nat), e = .returned (.slice Az zs.length cz) ∧ zs.length ≤ 10 ∧ (∀ z ∈ zs, z.es.length ≤ 10) ∧ ZI w.heap.size (.slice Az zs.length cz) zs w' ∧ RD R A len c f (P + 100) w' ∧ w.grownBy w' (some R) := by
  obtain ⟨i0, hi, hz0, hz10, hz20⟩ := info_parts infoLsa
  have hRw := hR.lt
  have hgw : 0 < ls.length → gg < w.heap.size := fun hp => (hG hp).2.lt
  have CO := fun (o q : Int) W (h : Sl W W.heap.size Ag ls) => l11of_all m Ag ls cg o q W hm10 hls h
  have hzi := (ZI.start _ (w.alloc (.cells #[.int .i64 (m : Int), .slice Ag ls.length cg] 48)) (Nat.le_refl _)).down (show w.heap.size ≤ _ by simp)
  rw [World.size_alloc] at hzi
  have S0 := Lib.hid (show ZC w R A len c f P (.slice (some ⟨w.heap.size + 1, 0, none⟩) 0 0) [] (m : Int) Ag gg cg ls ((w.alloc (.cells #[.int .i64 (m : Int), .slice Ag ls.length cg] 48)).alloc (.cells #[] 54)) from ⟨⟨(hR.alloc _).alloc _, hzi, grown_alloc (World.grownBy_alloc w _ _) _⟩, (Box.new w _ _).alloc _, (hG.alloc _).alloc _⟩)
  have HGW := Lib.hid hgw
  have HRG := Lib.hid hRg
  clear hR hG hzi hgw hRg
  go_enter Try.func47, Try.ntmps47
  go_wp2_with fail
  go_loopw [6, 5] (fun i v wr => ∃ (k : Nat) (zs : List Lz), k ≤ m ∧ i = .int .i64 (k : Int) ∧ zs.length ≤ k ∧ Hid (∀ z ∈ zs, z.es.length ≤ 10) ∧ Hid (ZC w R A len c f (P + 5 * k) v zs (m : Int) Ag gg cg ls wr)) (fun i _ _ => m - (intOf i).toNat)
  case atStart => exact ⟨0, [], by omega, rfl, Nat.le_refl _, Lib.hid (fun z hz => by cases hz), S0⟩
  case round =>
    obtain ⟨k, zs, hk, rfl, hzk, HZ, S⟩ := hrel
    clear S0
    have hwz := S.out.zl.gr.size
    obtain ⟨A2, g2, c2, rfl, hg2, -, -, -, -⟩ := own_slicez S.out.zl.row.row hwz
    obtain ⟨hgbx, d0, d1, -, -⟩ := S.out.gbx.two
    by_cases hlt : k < m
    · have hlti : (k : Int) < (m : Int) := by omega
      go_wp2_with fail
      refine (pick_rd R A len c _ 8 f _ hlen (by omega) (by omega) (by omega) S.out.zl.rd).mono ?_
      rintro e w1 ⟨k1, rfl, hk1, hR1, hg1, hs1, -⟩
      have S1 := Lib.hid (S.out.picked hR1 hg1 hRw HRG.out)
      clear hR1 hg1 hs1 S hgbx d0 d1
      by_cases hk0 : 0 < (k1 : Int)
      · obtain ⟨hgbx, d0, d1, -, -⟩ := S1.out.gbx.two
        have hRR : R < w1.heap.size := S1.out.zl.rd.lt
        have S1d := Lib.hid S1.out.drew
        have hww : w.heap.size < w1.heap.size := hgbx
        have HVB := Lib.hid (fun j (e : (Value.slice A2 zs.length c2).ownBlock = some j) => (S1.out.zl.row.row.lt j e).2)
        have HZB := Lib.hid (fun z (hz : z ∈ zs) (hp : 0 < z.es.length) => S1.out.zl.row.lt hz hp)
        have HGB : Hid (0 < ls.length → gg < w1.heap.size) := Lib.hid (fun hp => by have := HGW.out hp; omega)
        generalize hB1 : w1.heap.size = B1 at *
        go_wp2_with fail
        have hX0 := fun (y : ExtX (fun b => b = R ∨ B1 ≤ b) w1.drew) => (y.cell w.heap.size 0 (show w.heap.size < w1.heap.size by omega) (by omega)).trans (show w1.drew.cell? ⟨w.heap.size, 0, none⟩ = _ from d0)
        have hX1 := fun (y : ExtX (fun b => b = R ∨ B1 ≤ b) w1.drew) => (y.cell w.heap.size 1 (show w.heap.size < w1.heap.size by omega) (by omega)).trans (show w1.drew.cell? ⟨w.heap.size, 1, none⟩ = _ from d1)
        have hsd : w1.drew.heap.size = B1 := hB1
        refine wp_region_stx 8 (fun b => b = R ∨ B1 ≤ b) (by kernel_rfl) (by kernel_rfl) ?_
        refine stx_seg _ 5 [0, 1, 2] (by kernel_rfl) (by kernel_rfl) (by kernel_rfl) (by kernel_rfl) ?_
        (simp only [List.map_cons, List.map_nil, List.getElem?_cons_zero, List.getElem?_cons_succ, Option.getD_some]); (repeat (go_big_quiet_step (fail))); (refine wpQuiet_nil ?_)
        clear hX0 hX1 d0 d1
        refine stx_two _ 4 3 6 (by rfl) (by rfl) (by rfl) (by kernel_rfl) (by rfl) (by rfl) ?_ ?_
        · go_wp2_with fail
          refine (pick_rd R A len c _ 3 f _ hlen (by omega) (by omega) (by omega) S1d.out.zl.rd).mono ?_
          rintro e w2 ⟨k2, rfl, hk2, hR2, hg2, hs2, -⟩
          refine ⟨⟨hg2.os, hg2.tape, hg2.output, hg2.size, fun k hk hx => hg2.block k hk (fun e => hx (.inl (by cases e; rfl)))⟩, _, fun _ h => h, ?_⟩
          have S2 := Lib.hid (S1d.out.picked hR2 hg2 hRw HRG.out)
          have hs12 : w2.heap.size = B1 := hs2.trans hsd
          clear hR2 hg2 hs2 S1d S1
          have eq2 : IntKind.i64.wrap (1 + (k2 : Int)) = 1 + (k2 : Int) := IntWalk.i64_in _ (by omega)
          refine stx_seg _ 3 [4] (by kernel_rfl) (by kernel_rfl) (by kernel_rfl) (by kernel_rfl) ?_
          (simp only [List.map_cons, List.map_nil, List.getElem?_cons_zero, List.getElem?_cons_succ, Option.getD_some]); (repeat (go_big_quiet_step (fail))); (refine wpQuiet_nil ?_)
          refine stx_two _ 2 5 6 (by rfl) (by rfl) (by rfl) (by kernel_rfl) (by rfl) (by rfl) ?_ ?_
          · go_wp2_with fail
            refine (CO (k : Int) (1 + (k2 : Int)) _ S2.out.gow.sl).mono ?_
            rintro e w3 ⟨⟨zo, zq, zes, zA, zc, zg⟩, rfl, hzd, hzi, hb3⟩
            refine ⟨Kx.of_below hb3, _, fun _ h => h, ?_⟩
            have hs23 := hb3.size
            have hzg : B1 ≤ zg := by have := hzi.2.1; dsimp only at this; omega
            have hzc : zes.length ≤ zc := hzi.2.2
            have hon : Owne w3 zA zg zes := hzi.1
            have hze : zes.length ≤ 10 := by
              have h1 := congrArg (fun d : La => d.es.length) hzd
              have h2 := ofG_len ls (k : Int) m
              dsimp only at h1
              omega
            clear hzd
            have S3 := Lib.hid (S2.out.call hb3)
            have hzG : 0 < zes.length → zg ≠ w3.heap.size := fun hp => by have := (hon hp).2.lt; omega
            have T3 := Lib.hid (show CL w R A len c f (P + 5 * k + 1 + 1) (.slice A2 zs.length c2) zs (m : Int) Ag gg cg ls w3.heap.size ⟨zo, zq, zes, zA, zc, zg⟩ (w3.alloc (.cells #[.int .i64 zo, .int .i64 zq, .slice zA zes.length zc] 54)) from
              ⟨S3.out.call ((Below.refl _ _).alloc (Nat.le_refl _) _), Box.new w3 _ _, hon.alloc _⟩)
            have hGR : w3.heap.size ≠ R := by omega
            have hGB1 : B1 ≤ w3.heap.size := by omega
            clear hb3 hzi S2 S3 hon
            refine stx_one _ 1 6 (by kernel_rfl) (by rfl) (by kernel_rfl) (by rfl) ?_
            go_wp2_with fail
            refine ⟨(Kx.refl _ _).alloc _, _, fun _ h => h, ?_⟩
            refine stx_one _ 0 7 (by kernel_rfl) (by rfl) (by kernel_rfl) (by rfl) ?_
            go_wp2_with fail
            refine ⟨kx_swap (.inr hGB1), _, fun _ h => h, ?_⟩
            refine stx_end (by kernel_rfl) ?_
            generalize w3.alloc (.cells #[.int .i64 zo, .int .i64 zq, .slice zA zes.length zc] 54) = W3 at *
            generalize w3.heap.size = G at *
            obtain ⟨zx, x0, x1, x2, -, -, -⟩ := T3.out.box.three
            by_cases hzs : zes = []
            · subst hzs
              clear zx x0 x1 x2
              obtain ⟨zx, x0, x1, x2, -, -, -⟩ := T3.out.box.three
              go_wp2_with (at_builtin; refine wpList_append_own _ rfl _ _ 29 rfl w.heap.size 54 i0 _ 3 40 Try.underlying29 hi hz0 hz10 hz20 rfl (by decide) _ zs.length (flatZ zs) rfl (T3.out.zc.zl.row.row.alloc _) ⟨W3.heap.size, 0, none⟩ 1 1 [.int .i64 zo, .int .i64 zq, .slice zA 0 zc] rfl rfl (new3z _ _ _ _ _) (one3z _ _ _ rfl rfl rfl) (by unfold maxLen; omega) (by omega) (by have := T3.out.zc.gbx.lt; simp; omega) ?_; intro v' w9 hown9 hgrow9 _; have S9 := Lib.hid ((T3.out.append (B := B1) hRw (by omega) HZB.out hzg hzc hown9 hgrow9 HGW.out).mono (P' := P + 5 * (k + 1)) (by omega)); clear hown9 hgrow9)
              go_roundw
              case rel => exact ⟨k + 1, zs ++ [⟨zo, zq, [], zA, zc, zg⟩], hlt, by go_num, by simp; omega, Lib.hid (fun z hz => by
                rcases List.mem_append.1 hz with hz | hz
                · exact HZ.out z hz
                · obtain rfl : z = ⟨zo, zq, [], zA, zc, zg⟩ := by simpa using hz
                  exact hze), S9⟩
              case measure => simp [intOf]; omega

            · have hlz : 0 < zes.length := List.length_pos_iff.2 hzs
              have hlzi : 0 < (zes.length : Int) := by omega
              obtain ⟨e, he⟩ := T3.out.own hlz
              dsimp only at e
              subst e
              clear he hzs
              have hzG' := hzG hlz
              go_wp2_with fail
              refine (pick_rd R A len c _ 4 f _ hlen (by omega) (by omega) (by omega) T3.out.zc.zl.rd).mono ?_
              rintro e w4 ⟨k4, rfl, hk4, hR4, hg4, hs4, -⟩
              have T4 := Lib.hid (T3.out.picked hR4 hg4 hRw HRG.out (by omega) (by show zg ≠ R; omega))
              clear hR4 hg4 hs4 T3 zx x0 x1 x2
              by_cases h4 : k4 = 0
              · subst h4
                obtain ⟨zx, x0, x1, x2, -, -, -⟩ := T4.out.box.three
                have T4d := Lib.hid T4.out.drew
                go_wp2_with fail
                have hX0 := fun (y : ExtX (fun b => b = R ∨ b = zg ∨ w4.heap.size ≤ b) w4.drew) => (y.cell G 2 zx (by omega)).trans (show w4.drew.cell? ⟨G, 2, none⟩ = _ from x2)
                refine wp_region_stx 13 (fun b => b = R ∨ b = zg ∨ w4.heap.size ≤ b) (by kernel_rfl) (by kernel_rfl) ?_
                refine stx_seg _ 6 [0, 1, 2, 3, 4, 5, 7] (by kernel_rfl) (by kernel_rfl) (by kernel_rfl) (by kernel_rfl) ?_
                (simp only [List.map_cons, List.map_nil, List.getElem?_cons_zero, List.getElem?_cons_succ, Option.getD_some]); (repeat (go_big_quiet_step (fail))); (refine wpQuiet_nil ?_)
                clear hX0 zx x0 x1 x2 T4
                refine stx_one _ 5 6 (by kernel_rfl) (by rfl) (by kernel_rfl) (by rfl) ?_
                go_wp2_with fail
                refine (pick_rd R A len c _ (zes.length : Int) f _ hlen (by omega) (by omega) (by omega) T4d.out.zc.zl.rd).mono ?_
                rintro e w5 ⟨k5, rfl, hk5, hR5, hg5, hs5, -⟩
                refine ⟨⟨hg5.os, hg5.tape, hg5.output, hg5.size, fun k hk hx => hg5.block k hk (fun e => hx (.inl (by cases e; rfl)))⟩, _, fun _ h => h, ?_⟩
                have T5 := Lib.hid (T4d.out.picked hR5 hg5 hRw HRG.out (by omega) (by show zg ≠ R; omega))
                clear hR5 hg5 hs5 T4d
                refine stx_one _ 4 8 (by kernel_rfl) (by rfl) (by kernel_rfl) (by rfl) ?_
                go_wp2_with fail
                refine (pick_rd R A len c _ 9 f _ hlen (by omega) (by omega) (by omega) T5.out.zc.zl.rd).mono ?_
                rintro e w6 ⟨k6, rfl, hk6, hR6, hg6, hs6, -⟩
                refine ⟨⟨hg6.os, hg6.tape, hg6.output, hg6.size, fun k hk hx => hg6.block k hk (fun e => hx (.inl (by cases e; rfl)))⟩, _, fun _ h => h, ?_⟩
                have T6 := Lib.hid (T5.out.picked hR6 hg6 hRw HRG.out (by omega) (by show zg ≠ R; omega))
                clear hR6 hg6 hs6 T5
                have e6 : IntKind.i64.wrap (1 + (k6 : Int)) = 1 + (k6 : Int) := IntWalk.i64_in _ (by omega)
                refine stx_seg _ 1 [9, 10, 11] (by kernel_rfl) (by kernel_rfl) (by kernel_rfl) (by kernel_rfl) ?_
                (simp only [List.map_cons, List.map_nil, List.getElem?_cons_zero, List.getElem?_cons_succ, Option.getD_some]); (repeat (go_big_quiet_step (fail))); (refine wpQuiet_nil ?_)
                obtain ⟨en, hen⟩ : ∃ en, zes[k5]? = some en := ⟨_, List.getElem?_eq_getElem (by omega)⟩
                have hoc : w6.cell? ⟨zg, k5 * 2 + 1, none⟩ = some (.int .i64 en.a) ∧ w6.frozen? ⟨zg, k5 * 2 + 1, none⟩ = false := by
                  obtain ⟨cs, hh, hc⟩ := (T6.out.own hlz).2
                  exact ⟨by rw [cell_of_row w6 zg _ cs _ _ hh]; exact (hc k5 en hen).2, heap_frozen hh _⟩
                obtain ⟨oc, of⟩ := hoc
                have T7 := Lib.hid (T6.out.setA (B := B1) hen (1 + (k6 : Int)) hww hRR hzg HVB.out HZB.out HGB.out (fun e => hzG' e.symm))
                have hze7 : (zes.set k5 ⟨en.k, 1 + (k6 : Int)⟩).length ≤ 10 := by rw [List.length_set]; exact hze
                have hzc7 : (zes.set k5 ⟨en.k, 1 + (k6 : Int)⟩).length ≤ zc := by rw [List.length_set]; exact hzc
                refine stx_one _ 0 12 (by kernel_rfl) (by rfl) (by kernel_rfl) (by rfl) ?_
                go_wp2_with fail
                refine ⟨(Kx.refl _ _).setCell (p := ⟨zg, k5 * 2 + 1, none⟩) (.inr (.inl rfl)) _, _, fun _ h => h, ?_⟩
                refine stx_end (by kernel_rfl) ?_
                generalize w6.setCell ⟨zg, k5 * 2 + 1, none⟩ (.int .i64 (1 + (k6 : Int))) = w7 at *
                have hlz2 : zes.length = (zes.set k5 ⟨en.k, 1 + (k6 : Int)⟩).length := by rw [List.length_set]
                rw [hlz2]
                clear T6 oc of hen e6 hze hzc hk5 hlz hlzi
                generalize zes.set k5 ⟨en.k, 1 + (k6 : Int)⟩ = zes at *
                clear hlz2
                have hze := hze7
                have hzc := hzc7
                obtain ⟨zx, x0, x1, x2, -, -, -⟩ := T7.out.box.three
                go_wp2_with (at_builtin; refine wpList_append_own _ rfl _ _ 29 rfl w.heap.size 54 i0 _ 3 40 Try.underlying29 hi hz0 hz10 hz20 rfl (by decide) _ zs.length (flatZ zs) rfl (T7.out.zc.zl.row.row.alloc _) ⟨w7.heap.size, 0, none⟩ 1 1 [.int .i64 zo, .int .i64 zq, .slice (some ⟨zg, 0, none⟩) zes.length zc] rfl rfl (new3z _ _ _ _ _) (one3z _ _ _ rfl rfl rfl) (by unfold maxLen; omega) (by omega) (by have := T7.out.zc.gbx.lt; simp; omega) ?_; intro v' w9 hown9 hgrow9 _; have S9 := Lib.hid ((T7.out.append (B := B1) hRw (by omega) HZB.out hzg hzc hown9 hgrow9 HGW.out).mono (P' := P + 5 * (k + 1)) (by omega)); clear hown9 hgrow9)
                go_roundw
                case rel => exact ⟨k + 1, zs ++ [⟨zo, zq, zes, some ⟨zg, 0, none⟩, zc, zg⟩], hlt, by go_num, by simp; omega, Lib.hid (fun z hz => by
                  rcases List.mem_append.1 hz with hz | hz
                  · exact HZ.out z hz
                  · obtain rfl : z = ⟨zo, zq, zes, some ⟨zg, 0, none⟩, zc, zg⟩ := by simpa using hz
                    exact hze), S9⟩
                case measure => simp [intOf]; omega
              · have h4' : ((k4 : Int) == 0) = false := by simpa using h4
                obtain ⟨zx, x0, x1, x2, -, -, -⟩ := T4.out.box.three
                go_wp2_with (at_builtin; refine wpList_append_own _ rfl _ _ 29 rfl w.heap.size 54 i0 _ 3 40 Try.underlying29 hi hz0 hz10 hz20 rfl (by decide) _ zs.length (flatZ zs) rfl (T4.out.zc.zl.row.row.alloc _) ⟨w4.heap.size, 0, none⟩ 1 1 [.int .i64 zo, .int .i64 zq, .slice (some ⟨zg, 0, none⟩) zes.length zc] rfl rfl (new3z _ _ _ _ _) (one3z _ _ _ rfl rfl rfl) (by unfold maxLen; omega) (by omega) (by have := T4.out.zc.gbx.lt; simp; omega) ?_; intro v' w9 hown9 hgrow9 _; have S9 := Lib.hid ((T4.out.append (B := B1) hRw (by omega) HZB.out hzg hzc hown9 hgrow9 HGW.out).mono (P' := P + 5 * (k + 1)) (by omega)); clear hown9 hgrow9)
                go_roundw
                case rel => exact ⟨k + 1, zs ++ [⟨zo, zq, zes, some ⟨zg, 0, none⟩, zc, zg⟩], hlt, by go_num, by simp; omega, Lib.hid (fun z hz => by
                  rcases List.mem_append.1 hz with hz | hz
                  · exact HZ.out z hz
                  · obtain rfl : z = ⟨zo, zq, zes, some ⟨zg, 0, none⟩, zc, zg⟩ := by simpa using hz
                    exact hze), S9⟩
                case measure => simp [intOf]; omega
          · go_wp2_with fail
            refine ⟨(Kx.refl _ _).alloc _, _, fun _ h => h, ?_⟩
            have S2a := Lib.hid (S2.out.call ((Below.refl _ _).alloc (Nat.le_refl _) (.cells #[.int .i64 0, .int .i64 0, .slice none 0 0] 54)))
            have X2 := Lib.hid (Box.new w2 54 #[.int .i64 0, .int .i64 0, .slice none 0 0])
            have hsz2 := World.size_alloc w2 (.cells #[.int .i64 0, .int .i64 0, .slice none 0 0] 54)
            rw [hs12] at X2 hsz2
            clear S2
            refine stx_one _ 1 5 (by kernel_rfl) (by rfl) (by kernel_rfl) (by rfl) ?_
            go_wp2_with fail
            refine (CO (k : Int) (1 + (k2 : Int)) _ S2a.out.gow.sl).mono ?_
            rintro e w3 ⟨⟨zo, zq, zes, zA, zc, zg⟩, rfl, hzd, hzi, hb3⟩
            refine ⟨Kx.of_below hb3, _, fun _ h => h, ?_⟩
            have hs23 := hb3.size
            have hzg : B1 ≤ zg := by have := hzi.2.1; dsimp only at this; rw [hsz2] at this; omega
            have hzc : zes.length ≤ zc := hzi.2.2
            have hon : Owne w3 zA zg zes := hzi.1
            have hze : zes.length ≤ 10 := by
              have h1 := congrArg (fun d : La => d.es.length) hzd
              have h2 := ofG_len ls (k : Int) m
              dsimp only at h1
              omega
            clear hzd
            have S3 := Lib.hid (S2a.out.call hb3)
            have X3 := Lib.hid (X2.out.below hb3 X2.out.lt)
            have hzGG : zg ≠ B1 := by have := hzi.2.1; dsimp only at this; rw [hsz2] at this; omega
            have hzG : 0 < zes.length → zg ≠ B1 := fun _ => hzGG
            have T3 := Lib.hid (CL.stored (z := ⟨zo, zq, zes, zA, zc, zg⟩) (B := B1) S3.out X3.out hon hww hRR (Nat.le_refl _) HVB.out HZB.out HGB.out hzGG)
            obtain ⟨zx, x0, x1, x2, q0, q1, q2⟩ := X3.out.three
            clear hb3 hzi S2a S3 hon X2 X3
            refine stx_one _ 0 7 (by kernel_rfl) (by rfl) (by kernel_rfl) (by rfl) ?_
            go_wp2_with fail
            clear x0 x1 x2 q0 q1 q2 zx
            refine ⟨(((Kx.refl _ _).setCell (p := ⟨B1, 0, none⟩) (.inr (Nat.le_refl _)) _).setCell (p := ⟨B1, 1, none⟩) (.inr (Nat.le_refl _)) _).setCell (p := ⟨B1, 2, none⟩) (.inr (Nat.le_refl _)) _, _, fun _ h => h, ?_⟩
            refine stx_end (by kernel_rfl) ?_
            generalize ((w3.setCell ⟨B1, 0, none⟩ (.int .i64 zo)).setCell ⟨B1, 1, none⟩ (.int .i64 zq)).setCell ⟨B1, 2, none⟩ (.slice zA zes.length zc) = W3 at *
            have hGR : B1 ≠ R := by omega
            obtain ⟨zx, x0, x1, x2, -, -, -⟩ := T3.out.box.three
            by_cases hzs : zes = []
            · subst hzs
              clear zx x0 x1 x2
              obtain ⟨zx, x0, x1, x2, -, -, -⟩ := T3.out.box.three
              go_wp2_with (at_builtin; refine wpList_append_own _ rfl _ _ 29 rfl w.heap.size 54 i0 _ 3 40 Try.underlying29 hi hz0 hz10 hz20 rfl (by decide) _ zs.length (flatZ zs) rfl (T3.out.zc.zl.row.row.alloc _) ⟨W3.heap.size, 0, none⟩ 1 1 [.int .i64 zo, .int .i64 zq, .slice zA 0 zc] rfl rfl (new3z _ _ _ _ _) (one3z _ _ _ rfl rfl rfl) (by unfold maxLen; omega) (by omega) (by have := T3.out.zc.gbx.lt; simp; omega) ?_; intro v' w9 hown9 hgrow9 _; have S9 := Lib.hid ((T3.out.append (B := B1) hRw (by omega) HZB.out hzg hzc hown9 hgrow9 HGW.out).mono (P' := P + 5 * (k + 1)) (by omega)); clear hown9 hgrow9)
              go_roundw
              case rel => exact ⟨k + 1, zs ++ [⟨zo, zq, [], zA, zc, zg⟩], hlt, by go_num, by simp; omega, Lib.hid (fun z hz => by
                rcases List.mem_append.1 hz with hz | hz
                · exact HZ.out z hz
                · obtain rfl : z = ⟨zo, zq, [], zA, zc, zg⟩ := by simpa using hz
                  exact hze), S9⟩
              case measure => simp [intOf]; omega

            · have hlz : 0 < zes.length := List.length_pos_iff.2 hzs
              have hlzi : 0 < (zes.length : Int) := by omega
              obtain ⟨e, he⟩ := T3.out.own hlz
              dsimp only at e
              subst e
              clear he hzs
              have hzG' := hzG hlz
              go_wp2_with fail
              refine (pick_rd R A len c _ 4 f _ hlen (by omega) (by omega) (by omega) T3.out.zc.zl.rd).mono ?_
              rintro e w4 ⟨k4, rfl, hk4, hR4, hg4, hs4, -⟩
              have T4 := Lib.hid (T3.out.picked hR4 hg4 hRw HRG.out (by omega) (by show zg ≠ R; omega))
              clear hR4 hg4 hs4 T3 zx x0 x1 x2
              by_cases h4 : k4 = 0
              · subst h4
                obtain ⟨zx, x0, x1, x2, -, -, -⟩ := T4.out.box.three
                have T4d := Lib.hid T4.out.drew
                go_wp2_with fail
                have hX0 := fun (y : ExtX (fun b => b = R ∨ b = zg ∨ w4.heap.size ≤ b) w4.drew) => (y.cell B1 2 zx (by omega)).trans (show w4.drew.cell? ⟨B1, 2, none⟩ = _ from x2)
                refine wp_region_stx 13 (fun b => b = R ∨ b = zg ∨ w4.heap.size ≤ b) (by kernel_rfl) (by kernel_rfl) ?_
                refine stx_seg _ 6 [0, 1, 2, 3, 4, 5, 7] (by kernel_rfl) (by kernel_rfl) (by kernel_rfl) (by kernel_rfl) ?_
                (simp only [List.map_cons, List.map_nil, List.getElem?_cons_zero, List.getElem?_cons_succ, Option.getD_some]); (repeat (go_big_quiet_step (fail))); (refine wpQuiet_nil ?_)
                clear hX0 zx x0 x1 x2 T4
                refine stx_one _ 5 6 (by kernel_rfl) (by rfl) (by kernel_rfl) (by rfl) ?_
                go_wp2_with fail
                refine (pick_rd R A len c _ (zes.length : Int) f _ hlen (by omega) (by omega) (by omega) T4d.out.zc.zl.rd).mono ?_
                rintro e w5 ⟨k5, rfl, hk5, hR5, hg5, hs5, -⟩
                refine ⟨⟨hg5.os, hg5.tape, hg5.output, hg5.size, fun k hk hx => hg5.block k hk (fun e => hx (.inl (by cases e; rfl)))⟩, _, fun _ h => h, ?_⟩
                have T5 := Lib.hid (T4d.out.picked hR5 hg5 hRw HRG.out (by omega) (by show zg ≠ R; omega))
                clear hR5 hg5 hs5 T4d
                refine stx_one _ 4 8 (by kernel_rfl) (by rfl) (by kernel_rfl) (by rfl) ?_
                go_wp2_with fail
                refine (pick_rd R A len c _ 9 f _ hlen (by omega) (by omega) (by omega) T5.out.zc.zl.rd).mono ?_
                rintro e w6 ⟨k6, rfl, hk6, hR6, hg6, hs6, -⟩
                refine ⟨⟨hg6.os, hg6.tape, hg6.output, hg6.size, fun k hk hx => hg6.block k hk (fun e => hx (.inl (by cases e; rfl)))⟩, _, fun _ h => h, ?_⟩
                have T6 := Lib.hid (T5.out.picked hR6 hg6 hRw HRG.out (by omega) (by show zg ≠ R; omega))
                clear hR6 hg6 hs6 T5
                have e6 : IntKind.i64.wrap (1 + (k6 : Int)) = 1 + (k6 : Int) := IntWalk.i64_in _ (by omega)
                refine stx_seg _ 1 [9, 10, 11] (by kernel_rfl) (by kernel_rfl) (by kernel_rfl) (by kernel_rfl) ?_
                (simp only [List.map_cons, List.map_nil, List.getElem?_cons_zero, List.getElem?_cons_succ, Option.getD_some]); (repeat (go_big_quiet_step (fail))); (refine wpQuiet_nil ?_)
                obtain ⟨en, hen⟩ : ∃ en, zes[k5]? = some en := ⟨_, List.getElem?_eq_getElem (by omega)⟩
                have hoc : w6.cell? ⟨zg, k5 * 2 + 1, none⟩ = some (.int .i64 en.a) ∧ w6.frozen? ⟨zg, k5 * 2 + 1, none⟩ = false := by
                  obtain ⟨cs, hh, hc⟩ := (T6.out.own hlz).2
                  exact ⟨by rw [cell_of_row w6 zg _ cs _ _ hh]; exact (hc k5 en hen).2, heap_frozen hh _⟩
                obtain ⟨oc, of⟩ := hoc
                have T7 := Lib.hid (T6.out.setA (B := B1) hen (1 + (k6 : Int)) hww hRR hzg HVB.out HZB.out HGB.out (fun e => hzG' e.symm))
                have hze7 : (zes.set k5 ⟨en.k, 1 + (k6 : Int)⟩).length ≤ 10 := by rw [List.length_set]; exact hze
                have hzc7 : (zes.set k5 ⟨en.k, 1 + (k6 : Int)⟩).length ≤ zc := by rw [List.length_set]; exact hzc
                refine stx_one _ 0 12 (by kernel_rfl) (by rfl) (by kernel_rfl) (by rfl) ?_
                go_wp2_with fail
                refine ⟨(Kx.refl _ _).setCell (p := ⟨zg, k5 * 2 + 1, none⟩) (.inr (.inl rfl)) _, _, fun _ h => h, ?_⟩
                refine stx_end (by kernel_rfl) ?_
                generalize w6.setCell ⟨zg, k5 * 2 + 1, none⟩ (.int .i64 (1 + (k6 : Int))) = w7 at *
                have hlz2 : zes.length = (zes.set k5 ⟨en.k, 1 + (k6 : Int)⟩).length := by rw [List.length_set]
                rw [hlz2]
                clear T6 oc of hen e6 hze hzc hk5 hlz hlzi
                generalize zes.set k5 ⟨en.k, 1 + (k6 : Int)⟩ = zes at *
                clear hlz2
                have hze := hze7
                have hzc := hzc7
                obtain ⟨zx, x0, x1, x2, -, -, -⟩ := T7.out.box.three
                go_wp2_with (at_builtin; refine wpList_append_own _ rfl _ _ 29 rfl w.heap.size 54 i0 _ 3 40 Try.underlying29 hi hz0 hz10 hz20 rfl (by decide) _ zs.length (flatZ zs) rfl (T7.out.zc.zl.row.row.alloc _) ⟨w7.heap.size, 0, none⟩ 1 1 [.int .i64 zo, .int .i64 zq, .slice (some ⟨zg, 0, none⟩) zes.length zc] rfl rfl (new3z _ _ _ _ _) (one3z _ _ _ rfl rfl rfl) (by unfold maxLen; omega) (by omega) (by have := T7.out.zc.gbx.lt; simp; omega) ?_; intro v' w9 hown9 hgrow9 _; have S9 := Lib.hid ((T7.out.append (B := B1) hRw (by omega) HZB.out hzg hzc hown9 hgrow9 HGW.out).mono (P' := P + 5 * (k + 1)) (by omega)); clear hown9 hgrow9)
                go_roundw
                case rel => exact ⟨k + 1, zs ++ [⟨zo, zq, zes, some ⟨zg, 0, none⟩, zc, zg⟩], hlt, by go_num, by simp; omega, Lib.hid (fun z hz => by
                  rcases List.mem_append.1 hz with hz | hz
                  · exact HZ.out z hz
                  · obtain rfl : z = ⟨zo, zq, zes, some ⟨zg, 0, none⟩, zc, zg⟩ := by simpa using hz
                    exact hze), S9⟩
                case measure => simp [intOf]; omega
              · have h4' : ((k4 : Int) == 0) = false := by simpa using h4
                obtain ⟨zx, x0, x1, x2, -, -, -⟩ := T4.out.box.three
                go_wp2_with (at_builtin; refine wpList_append_own _ rfl _ _ 29 rfl w.heap.size 54 i0 _ 3 40 Try.underlying29 hi hz0 hz10 hz20 rfl (by decide) _ zs.length (flatZ zs) rfl (T4.out.zc.zl.row.row.alloc _) ⟨w4.heap.size, 0, none⟩ 1 1 [.int .i64 zo, .int .i64 zq, .slice (some ⟨zg, 0, none⟩) zes.length zc] rfl rfl (new3z _ _ _ _ _) (one3z _ _ _ rfl rfl rfl) (by unfold maxLen; omega) (by omega) (by have := T4.out.zc.gbx.lt; simp; omega) ?_; intro v' w9 hown9 hgrow9 _; have S9 := Lib.hid ((T4.out.append (B := B1) hRw (by omega) HZB.out hzg hzc hown9 hgrow9 HGW.out).mono (P' := P + 5 * (k + 1)) (by omega)); clear hown9 hgrow9)
                go_roundw
                case rel => exact ⟨k + 1, zs ++ [⟨zo, zq, zes, some ⟨zg, 0, none⟩, zc, zg⟩], hlt, by go_num, by simp; omega, Lib.hid (fun z hz => by
                  rcases List.mem_append.1 hz with hz | hz
                  · exact HZ.out z hz
                  · obtain rfl : z = ⟨zo, zq, zes, some ⟨zg, 0, none⟩, zc, zg⟩ := by simpa using hz
                    exact hze), S9⟩
                case measure => simp [intOf]; omega
        · go_wp2_with fail
          refine ⟨((Kx.refl _ w1.drew).alloc _), _, fun _ h => h, ?_⟩
          have S1a := Lib.hid ((S1.out.call ((Below.refl _ _).alloc (Nat.le_refl _) (.cells #[.int .i64 0, .int .i64 0, .slice none 0 0] 54))).drew)
          have X1 := Lib.hid (Box.new w1 54 #[.int .i64 0, .int .i64 0, .slice none 0 0])
          have hsz1 := World.size_alloc w1 (.cells #[.int .i64 0, .int .i64 0, .slice none 0 0] 54)
          rw [hB1] at X1 hsz1
          clear S1d S1
          generalize w1.alloc (.cells #[.int .i64 0, .int .i64 0, .slice none 0 0] 54) = W1 at *
          refine stx_one _ 3 3 (by kernel_rfl) (by rfl) (by kernel_rfl) (by rfl) ?_
          go_wp2_with fail
          refine (pick_rd R A len c _ 3 f _ hlen (by omega) (by omega) (by omega) S1a.out.zl.rd).mono ?_
          rintro e w2 ⟨k2, rfl, hk2, hR2, hg2, hs2, -⟩
          refine ⟨⟨hg2.os, hg2.tape, hg2.output, hg2.size, fun k hk hx => hg2.block k hk (fun e => hx (.inl (by cases e; rfl)))⟩, _, fun _ h => h, ?_⟩
          have S2 := Lib.hid (S1a.out.picked hR2 hg2 hRw HRG.out)
          have X2 := Lib.hid (Box.grown (w := W1.drew) X1.out hg2 (by omega))
          have hs12 : w2.heap.size = B1 + 1 := hs2.trans hsz1
          clear hR2 hg2 hs2 S1a X1
          have eq2 : IntKind.i64.wrap (1 + (k2 : Int)) = 1 + (k2 : Int) := IntWalk.i64_in _ (by omega)
          refine stx_seg _ 2 [4] (by kernel_rfl) (by kernel_rfl) (by kernel_rfl) (by kernel_rfl) ?_
          (simp only [List.map_cons, List.map_nil, List.getElem?_cons_zero, List.getElem?_cons_succ, Option.getD_some]); (repeat (go_big_quiet_step (fail))); (refine wpQuiet_nil ?_)
          refine stx_one _ 1 5 (by kernel_rfl) (by rfl) (by kernel_rfl) (by rfl) ?_
          go_wp2_with fail
          refine (CO (k : Int) (1 + (k2 : Int)) _ S2.out.gow.sl).mono ?_
          rintro e w3 ⟨⟨zo, zq, zes, zA, zc, zg⟩, rfl, hzd, hzi, hb3⟩
          refine ⟨Kx.of_below hb3, _, fun _ h => h, ?_⟩
          have hs23 := hb3.size
          have hzg : B1 ≤ zg := by have := hzi.2.1; dsimp only at this; rw [hs12] at this; omega
          have hzc : zes.length ≤ zc := hzi.2.2
          have hon : Owne w3 zA zg zes := hzi.1
          have hze : zes.length ≤ 10 := by
            have h1 := congrArg (fun d : La => d.es.length) hzd
            have h2 := ofG_len ls (k : Int) m
            dsimp only at h1
            omega
          clear hzd
          have S3 := Lib.hid (S2.out.call hb3)
          have X3 := Lib.hid (X2.out.below hb3 X2.out.lt)
          have hzGG : zg ≠ B1 := by have := hzi.2.1; dsimp only at this; rw [hs12] at this; omega
          have hzG : 0 < zes.length → zg ≠ B1 := fun _ => hzGG
          have T3 := Lib.hid (CL.stored (z := ⟨zo, zq, zes, zA, zc, zg⟩) (B := B1) S3.out X3.out hon hww hRR (Nat.le_refl _) HVB.out HZB.out HGB.out hzGG)
          obtain ⟨zx, x0, x1, x2, q0, q1, q2⟩ := X3.out.three
          clear hb3 hzi S2 S3 hon X2 X3
          refine stx_one _ 0 7 (by kernel_rfl) (by rfl) (by kernel_rfl) (by rfl) ?_
          go_wp2_with fail
          clear x0 x1 x2 q0 q1 q2 zx
          refine ⟨(((Kx.refl _ _).setCell (p := ⟨B1, 0, none⟩) (.inr (Nat.le_refl _)) _).setCell (p := ⟨B1, 1, none⟩) (.inr (Nat.le_refl _)) _).setCell (p := ⟨B1, 2, none⟩) (.inr (Nat.le_refl _)) _, _, fun _ h => h, ?_⟩
          refine stx_end (by kernel_rfl) ?_
          generalize ((w3.setCell ⟨B1, 0, none⟩ (.int .i64 zo)).setCell ⟨B1, 1, none⟩ (.int .i64 zq)).setCell ⟨B1, 2, none⟩ (.slice zA zes.length zc) = W3 at *
          have hGR : B1 ≠ R := by omega
          obtain ⟨zx, x0, x1, x2, -, -, -⟩ := T3.out.box.three
          by_cases hzs : zes = []
          · subst hzs
            clear zx x0 x1 x2
            obtain ⟨zx, x0, x1, x2, -, -, -⟩ := T3.out.box.three
            go_wp2_with (at_builtin; refine wpList_append_own _ rfl _ _ 29 rfl w.heap.size 54 i0 _ 3 40 Try.underlying29 hi hz0 hz10 hz20 rfl (by decide) _ zs.length (flatZ zs) rfl (T3.out.zc.zl.row.row.alloc _) ⟨W3.heap.size, 0, none⟩ 1 1 [.int .i64 zo, .int .i64 zq, .slice zA 0 zc] rfl rfl (new3z _ _ _ _ _) (one3z _ _ _ rfl rfl rfl) (by unfold maxLen; omega) (by omega) (by have := T3.out.zc.gbx.lt; simp; omega) ?_; intro v' w9 hown9 hgrow9 _; have S9 := Lib.hid ((T3.out.append (B := B1) hRw (by omega) HZB.out hzg hzc hown9 hgrow9 HGW.out).mono (P' := P + 5 * (k + 1)) (by omega)); clear hown9 hgrow9)
            go_roundw
            case rel => exact ⟨k + 1, zs ++ [⟨zo, zq, [], zA, zc, zg⟩], hlt, by go_num, by simp; omega, Lib.hid (fun z hz => by
              rcases List.mem_append.1 hz with hz | hz
              · exact HZ.out z hz
              · obtain rfl : z = ⟨zo, zq, [], zA, zc, zg⟩ := by simpa using hz
                exact hze), S9⟩
            case measure => simp [intOf]; omega

          · have hlz : 0 < zes.length := List.length_pos_iff.2 hzs
            have hlzi : 0 < (zes.length : Int) := by omega
            obtain ⟨e, he⟩ := T3.out.own hlz
            dsimp only at e
            subst e
            clear he hzs
            have hzG' := hzG hlz
            go_wp2_with fail
            refine (pick_rd R A len c _ 4 f _ hlen (by omega) (by omega) (by omega) T3.out.zc.zl.rd).mono ?_
            rintro e w4 ⟨k4, rfl, hk4, hR4, hg4, hs4, -⟩
            have T4 := Lib.hid (T3.out.picked hR4 hg4 hRw HRG.out (by omega) (by show zg ≠ R; omega))
            clear hR4 hg4 hs4 T3 zx x0 x1 x2
            by_cases h4 : k4 = 0
            · subst h4
              obtain ⟨zx, x0, x1, x2, -, -, -⟩ := T4.out.box.three
              have T4d := Lib.hid T4.out.drew
              go_wp2_with fail
              have hX0 := fun (y : ExtX (fun b => b = R ∨ b = zg ∨ w4.heap.size ≤ b) w4.drew) => (y.cell B1 2 zx (by omega)).trans (show w4.drew.cell? ⟨B1, 2, none⟩ = _ from x2)
              refine wp_region_stx 13 (fun b => b = R ∨ b = zg ∨ w4.heap.size ≤ b) (by kernel_rfl) (by kernel_rfl) ?_
              refine stx_seg _ 6 [0, 1, 2, 3, 4, 5, 7] (by kernel_rfl) (by kernel_rfl) (by kernel_rfl) (by kernel_rfl) ?_
              (simp only [List.map_cons, List.map_nil, List.getElem?_cons_zero, List.getElem?_cons_succ, Option.getD_some]); (repeat (go_big_quiet_step (fail))); (refine wpQuiet_nil ?_)
              clear hX0 zx x0 x1 x2 T4
              refine stx_one _ 5 6 (by kernel_rfl) (by rfl) (by kernel_rfl) (by rfl) ?_
              go_wp2_with fail
              refine (pick_rd R A len c _ (zes.length : Int) f _ hlen (by omega) (by omega) (by omega) T4d.out.zc.zl.rd).mono ?_
              rintro e w5 ⟨k5, rfl, hk5, hR5, hg5, hs5, -⟩
              refine ⟨⟨hg5.os, hg5.tape, hg5.output, hg5.size, fun k hk hx => hg5.block k hk (fun e => hx (.inl (by cases e; rfl)))⟩, _, fun _ h => h, ?_⟩
              have T5 := Lib.hid (T4d.out.picked hR5 hg5 hRw HRG.out (by omega) (by show zg ≠ R; omega))
              clear hR5 hg5 hs5 T4d
              refine stx_one _ 4 8 (by kernel_rfl) (by rfl) (by kernel_rfl) (by rfl) ?_
              go_wp2_with fail
              refine (pick_rd R A len c _ 9 f _ hlen (by omega) (by omega) (by omega) T5.out.zc.zl.rd).mono ?_
              rintro e w6 ⟨k6, rfl, hk6, hR6, hg6, hs6, -⟩
              refine ⟨⟨hg6.os, hg6.tape, hg6.output, hg6.size, fun k hk hx => hg6.block k hk (fun e => hx (.inl (by cases e; rfl)))⟩, _, fun _ h => h, ?_⟩
              have T6 := Lib.hid (T5.out.picked hR6 hg6 hRw HRG.out (by omega) (by show zg ≠ R; omega))
              clear hR6 hg6 hs6 T5
              have e6 : IntKind.i64.wrap (1 + (k6 : Int)) = 1 + (k6 : Int) := IntWalk.i64_in _ (by omega)
              refine stx_seg _ 1 [9, 10, 11] (by kernel_rfl) (by kernel_rfl) (by kernel_rfl) (by kernel_rfl) ?_
              (simp only [List.map_cons, List.map_nil, List.getElem?_cons_zero, List.getElem?_cons_succ, Option.getD_some]); (repeat (go_big_quiet_step (fail))); (refine wpQuiet_nil ?_)
              obtain ⟨en, hen⟩ : ∃ en, zes[k5]? = some en := ⟨_, List.getElem?_eq_getElem (by omega)⟩
              have hoc : w6.cell? ⟨zg, k5 * 2 + 1, none⟩ = some (.int .i64 en.a) ∧ w6.frozen? ⟨zg, k5 * 2 + 1, none⟩ = false := by
                obtain ⟨cs, hh, hc⟩ := (T6.out.own hlz).2
                exact ⟨by rw [cell_of_row w6 zg _ cs _ _ hh]; exact (hc k5 en hen).2, heap_frozen hh _⟩
              obtain ⟨oc, of⟩ := hoc
              have T7 := Lib.hid (T6.out.setA (B := B1) hen (1 + (k6 : Int)) hww hRR hzg HVB.out HZB.out HGB.out (fun e => hzG' e.symm))
              have hze7 : (zes.set k5 ⟨en.k, 1 + (k6 : Int)⟩).length ≤ 10 := by rw [List.length_set]; exact hze
              have hzc7 : (zes.set k5 ⟨en.k, 1 + (k6 : Int)⟩).length ≤ zc := by rw [List.length_set]; exact hzc
              refine stx_one _ 0 12 (by kernel_rfl) (by rfl) (by kernel_rfl) (by rfl) ?_
              go_wp2_with fail
              refine ⟨(Kx.refl _ _).setCell (p := ⟨zg, k5 * 2 + 1, none⟩) (.inr (.inl rfl)) _, _, fun _ h => h, ?_⟩
              refine stx_end (by kernel_rfl) ?_
              generalize w6.setCell ⟨zg, k5 * 2 + 1, none⟩ (.int .i64 (1 + (k6 : Int))) = w7 at *
              have hlz2 : zes.length = (zes.set k5 ⟨en.k, 1 + (k6 : Int)⟩).length := by rw [List.length_set]
              rw [hlz2]
              clear T6 oc of hen e6 hze hzc hk5 hlz hlzi
              generalize zes.set k5 ⟨en.k, 1 + (k6 : Int)⟩ = zes at *
              clear hlz2
              have hze := hze7
              have hzc := hzc7
              obtain ⟨zx, x0, x1, x2, -, -, -⟩ := T7.out.box.three
              go_wp2_with (at_builtin; refine wpList_append_own _ rfl _ _ 29 rfl w.heap.size 54 i0 _ 3 40 Try.underlying29 hi hz0 hz10 hz20 rfl (by decide) _ zs.length (flatZ zs) rfl (T7.out.zc.zl.row.row.alloc _) ⟨w7.heap.size, 0, none⟩ 1 1 [.int .i64 zo, .int .i64 zq, .slice (some ⟨zg, 0, none⟩) zes.length zc] rfl rfl (new3z _ _ _ _ _) (one3z _ _ _ rfl rfl rfl) (by unfold maxLen; omega) (by omega) (by have := T7.out.zc.gbx.lt; simp; omega) ?_; intro v' w9 hown9 hgrow9 _; have S9 := Lib.hid ((T7.out.append (B := B1) hRw (by omega) HZB.out hzg hzc hown9 hgrow9 HGW.out).mono (P' := P + 5 * (k + 1)) (by omega)); clear hown9 hgrow9)
              go_roundw
              case rel => exact ⟨k + 1, zs ++ [⟨zo, zq, zes, some ⟨zg, 0, none⟩, zc, zg⟩], hlt, by go_num, by simp; omega, Lib.hid (fun z hz => by
                rcases List.mem_append.1 hz with hz | hz
                · exact HZ.out z hz
                · obtain rfl : z = ⟨zo, zq, zes, some ⟨zg, 0, none⟩, zc, zg⟩ := by simpa using hz
                  exact hze), S9⟩
              case measure => simp [intOf]; omega
            · have h4' : ((k4 : Int) == 0) = false := by simpa using h4
              obtain ⟨zx, x0, x1, x2, -, -, -⟩ := T4.out.box.three
              go_wp2_with (at_builtin; refine wpList_append_own _ rfl _ _ 29 rfl w.heap.size 54 i0 _ 3 40 Try.underlying29 hi hz0 hz10 hz20 rfl (by decide) _ zs.length (flatZ zs) rfl (T4.out.zc.zl.row.row.alloc _) ⟨w4.heap.size, 0, none⟩ 1 1 [.int .i64 zo, .int .i64 zq, .slice (some ⟨zg, 0, none⟩) zes.length zc] rfl rfl (new3z _ _ _ _ _) (one3z _ _ _ rfl rfl rfl) (by unfold maxLen; omega) (by omega) (by have := T4.out.zc.gbx.lt; simp; omega) ?_; intro v' w9 hown9 hgrow9 _; have S9 := Lib.hid ((T4.out.append (B := B1) hRw (by omega) HZB.out hzg hzc hown9 hgrow9 HGW.out).mono (P' := P + 5 * (k + 1)) (by omega)); clear hown9 hgrow9)
              go_roundw
              case rel => exact ⟨k + 1, zs ++ [⟨zo, zq, zes, some ⟨zg, 0, none⟩, zc, zg⟩], hlt, by go_num, by simp; omega, Lib.hid (fun z hz => by
                rcases List.mem_append.1 hz with hz | hz
                · exact HZ.out z hz
                · obtain rfl : z = ⟨zo, zq, zes, some ⟨zg, 0, none⟩, zc, zg⟩ := by simpa using hz
                  exact hze), S9⟩
              case measure => simp [intOf]; omega
      · go_wp2_with fail
        go_roundw
        case rel => exact ⟨k + 1, zs, hlt, by go_num, by omega, HZ, Lib.hid (S1.out.mono (by omega))⟩
        case measure => simp [intOf]; omega
    · obtain rfl : k = m := by omega
      have hlti : ¬ (k : Int) < (k : Int) := by omega
      go_wp2_with fail
      go_ret
      exact ⟨zs, A2, c2, rfl, by omega, HZ.out, S.out.zl.row, S.out.zl.rd.mono (by omega), S.out.zl.gr⟩
end Go.Proofs.Ytnkohgdfipgdoab
