/-
  Contracts over this seat: RepairStack of the specification.
-/
import Derived.Test.YtenlofomkchlaabGreatDoorVe
import Derived.Test.YtenlofomkchlaabGreatDoorVf
import Derived.Test.YtenlofomkchlaabGreatDoorVg
namespace Go.Proofs.YtenlofomkchlaabGreatDoor
open Go.RowKit Go.Maps

theorem RB.drew {w : World} {gv : Array Value} {g3 : Nat} {A3 : Option Addr} {xs : List Int} {v : Value} {out : List Lb} {W : World} (h : RB w gv g3 A3 xs v out W) : RB w gv g3 A3 xs v out W.drew :=
  ⟨h.row, h.far, h.own, h.bel.drew, h.box, h.lt3⟩
/-- All blocks that a row of labels beside a path may change. -/
def XR (B g3 : Nat) (b : Nat) : Prop := B < b ∧ b ≠ g3
theorem RB.keeps {w : World} {gv : Array Value} {g3 : Nat} {A3 : Option Addr} {xs : List Int} {v : Value} {out : List Lb} {W W' : World} {o : Obj} (h : RB w gv g3 A3 xs v out W) (hg : (W.alloc o).grownBy W' v.ownBlock) : Kx (XR w.heap.size g3) (W.alloc o) W' :=
  ⟨hg.os, hg.tape, hg.output, hg.size, fun k hk hx => hg.block k hk (fun e => by
    have h1 := h.row.lt k e.symm
    exact hx ⟨by omega, h.far k e.symm⟩)⟩
theorem RB.append' {w : World} {gv : Array Value} {g3 : Nat} {A3 : Option Addr} {xs : List Int} {v : Value} {out : List Lb} {W W' : World} (h : RB w gv g3 A3 xs v out W) (hp : 0 < xs.length) {x : Lb} {v' : Value} {o : Obj}
    (hown : W'.ownsRow (w.heap.size + 1) 45 2 v' (out.length + 1) (flatB out ++ [.int .i64 x.k, .int .i64 x.a])) (hg : (W.alloc o).grownBy W' v.ownBlock) : RB w gv g3 A3 xs v' (out ++ [x]) W' := by
  have hl := h.row.lt
  have z3 := h.lt3 hp
  have zb := h.box.lt
  have hO : Own1i W' A3 g3 xs := fun hq => by
    obtain ⟨e, cs, hh, hc⟩ := h.own hq
    exact ⟨e, cs, (hg.block g3 (by simp; omega) (fun e => h.far g3 e.symm rfl)).trans ((Below.heap_alloc W _ _ z3).trans hh), hc⟩
  refine ⟨by rw [List.length_append, flatB_append]; exact hown, fun g e e' => ?_, hO, ?_, ?_, fun _ => ?_⟩
  · subst e'
    obtain ⟨-, cs, hh, -⟩ := hO hp
    rcases hown.2 with ⟨rfl, -⟩ | ⟨g', cap, cur, rfl, -, hh', -⟩
    · simp [Value.ownBlock] at e
    · simp [Value.ownBlock] at e
      subst e
      rw [hh] at hh'
      simp at hh'
  · exact (h.bel.alloc (by omega) _).grown hg (by simp; omega) (fun j e => by have := (hl j e).1; omega)
  · exact (hg.block _ (by simp; omega) (fun e => by have := (hl _ e.symm).1; omega)).trans (h.box.alloc _)
  · have := hg.size
    simp at this
    omega
/-- Whether there is a repair. -/
def repB (nn : Int) (ls : List Lk) (s x t : Int) : Bool := !(rpP nn ls s x t).isEmpty
/-- What RepairStack answers. -/
def RepR (nn : Int) (ls : List Lk) (s x t : Int) (w : World) (e : Ending) (w' : World) : Prop :=
  ∃ A g c, e = .returned (.tuple #[.slice A (repA nn ls s x t).length c, .bool (repB nn ls s x t)]) ∧ w.heap.size ≤ g ∧ Ownb w' A g (repA nn ls s x t) ∧ Below w.heap.size w w' ∧ (repA nn ls s x t).length ≤ c
theorem rep_none {nn : Int} {ls : List Lk} {s x t : Int} (h : rpP nn ls s x t = []) : repA nn ls s x t = [] ∧ repB nn ls s x t = false := by
  unfold repA repB
  rw [h]
  exact ⟨rfl, rfl⟩
theorem rep_go {R out : List Lb} {nn : Int} {ls : List Lk} {x : Int} {p : List Int} {i : Nat} (h : ∃ m, p.length ≤ i + m + 1 ∧ R = out ++ repU nn ls x m (p.drop i)) (hi : i + 1 < p.length) : ∃ m, p.length ≤ i + m + 2 ∧ R = out ++ repU nn ls x (m + 1) (p.drop i) := by
  obtain ⟨m, hm, he⟩ := h
  match m, hm, he with
  | 0, hm, _ => omega
  | m + 1, hm, he => exact ⟨m, by omega, he⟩

set_option maxRecDepth 100000 in
set_option maxHeartbeats 4000000 in
theorem repStack_spec (nn : Int) (A : Option Addr) (ls : List Lk) (c : Nat) (s x t : Int) (w : World) (hm : ls.length ≤ 2000000) (hnu : nn ≤ 9223372036854775807) (hA : 0 < ls.length → ∃ g, A = some ⟨g, 0, none⟩) (hlc : ls.length ≤ c) (hS : Sl w w.heap.size A ls) :
   Calls Tryz.prog 6 #[gval nn A ls.length c, .int .i64 s, .int .i64 x, .int .i64 t] w (RepR nn ls s x t w) := by
  obtain ⟨i0, hi, hz0, hz10, hz20⟩ := info_parts infoLabel
  have B0 : Below w.heap.size w ((w.alloc (.cells #[.int .i64 nn, .slice A ls.length c] 25)).alloc (.cells #[] 45)) := by (repeat (first | exact Below.refl _ _ | (refine Below.alloc ?_ (by first | exact Nat.le_refl _ | omega | (simp; done) | (simp; omega)) _) | (refine Below.setCell ?_ (by first | exact Nat.le_refl _ | omega | (simp; done) | (simp; omega)) _) | exact Below.drew ‹_›))
  have G0 := Lib.hid ((Box.new w 25 #[.int .i64 nn, .slice A ls.length c]).alloc (.cells #[] 45))
  have E0 := Box.new (w.alloc (.cells #[.int .i64 nn, .slice A ls.length c] 25)) 45 #[]
  rw [World.size_alloc] at E0
  have E0 := Lib.hid E0
  have C1 := repPath_spec nn A ls c s x t _ hm hnu hA hlc ((hS.below B0).more B0.size)
  have HS := Lib.hid hS
  have HB := Lib.hid B0
  clear hS B0
  have HP : Hid (rpP nn ls s x t ≠ [] → _) := Lib.hid (fun h => rpP_some h)
  have hp8 := rpP_len nn ls s x t
  cases hpp : rpP nn ls s x t with
  | nil =>
    have HE := Lib.hid (rep_none hpp)
    rw [hpp] at C1
    clear hpp HP hp8
    go_enter Tryz.func6, Tryz.ntmps6
    go_wp2_with fail
    refine C1.mono ?_
    clear C1
    rintro e w1 ⟨A1, g1, c1, rfl, -, -, hb1⟩
    have B1 := Lib.hid (HB.out.trans (hb1.mono HB.out.size))
    clear hb1
    go_wp2_with fail
    go_returns
    unfold RepR
    rw [HE.out.1, HE.out.2]
    exact ⟨_, w.heap.size, 0, rfl, Nat.le_refl _, fun h => by simp at h, B1.out, Nat.le_refl _⟩
  | cons a0 p0 =>
    obtain ⟨n, k, l, rfl, rfl, hl, hg, hs, ht, hp⟩ := HP.out (by rw [hpp]; simp)
    have hnodes := isP_nodes ht hp
    have HE : Hid (repB (n : Int) ls s (k : Int) t = true ∧ repA (n : Int) ls s (k : Int) t = repU (n : Int) ls (k : Int) (a0 :: p0).length (a0 :: p0)) := Lib.hid (by
      unfold repB repA
      rw [hpp]
      exact ⟨rfl, rfl⟩)
    rw [hpp] at C1 hnodes hp8
    have hpos : 0 < (a0 :: p0).length := by simp
    generalize (a0 :: p0) = p at *
    clear HP hp ht
    obtain ⟨hf, hn1, hn8, hl14⟩ := gvB_fit hg
    have HRG := Lib.hid hnodes
    have HCS := Lib.hid (fun (a : Int) (tn : Nat) (h1 : 0 ≤ a ∧ a < (n : Int)) (h2 : tn < n) V (h : Sl V V.heap.size A ls) => l21safe_any n A ls c a tn k l V hl hg h1 h2 h)
    have HCL := Lib.hid (fun (a b : Int) V (h : Sl V V.heap.size A ls) => (show Calls Tryz.prog 15 #[gval (n : Int) A ls.length c, .int .i64 a, .int .i64 b] V fun e w' => e = .returned (.int .i64 (linkI (n : Int) ls a b)) ∧ Below V.heap.size V w' by
      have := l1Link_any (n : Int) A ls c a b V hm h
      rwa [show l1I (min a b) (max a b) ls = linkI (n : Int) ls a b by rw [← linkI_eq, if_pos hg]] at this))
    obtain ⟨m1, hm1⟩ : ∃ m, p.length = m + 1 := ⟨p.length - 1, by omega⟩
    have hm11 : p.length ≤ m1 + 1 := by omega
    have hm12 : m1 + 1 ≤ p.length := by omega
    clear hl hg hf hs hnodes hpp hm1
    go_enter Tryz.func6, Tryz.ntmps6
    go_wp2_with fail
    refine C1.mono ?_
    clear C1
    rintro e w1 ⟨A3, g3, c3, rfl, hg3, ho3, hb1⟩
    have Q1 := Lib.hid (RB.start E0.out G0.out hb1 HB.out hg3 ho3)
    have hg3w : w.heap.size < g3 := by simp at hg3; omega
    clear hb1 ho3 hg3 E0 G0 HB
    have hpe : ((p.length : Int) == 0) = false := by simp; intro h; subst h; simp at hpos
    go_wp2_with fail
    go_loopw [12, 10] (fun a v wr => ∃ (i : Nat) (out : List Lb), i < p.length ∧ a = .int .i64 (i : Int) ∧ Hid (∃ m, p.length ≤ i + m + 1 ∧ repA (n : Int) ls s (k : Int) t = out ++ repU (n : Int) ls (k : Int) m (p.drop i)) ∧ Hid (out.length ≤ i) ∧ Hid (RB w #[.int .i64 (n : Int), .slice A ls.length c] g3 A3 p v out wr)) (fun a _ _ => p.length - (intOf a).toNat)
    case atStart => exact ⟨0, [], hpos, rfl, Lib.hid ⟨p.length, by omega, by rw [HE.out.2]; rfl⟩, Lib.hid (Nat.le_refl _), Q1⟩
    case round =>
      obtain ⟨i, out, hip, rfl, HG, HLN, Q2⟩ := hrel
      clear Q1
      have hol := HLN.out
      obtain ⟨A9, g9, c9, rfl, hg9, -, ho9, hc9⟩ := own_sliceb Q2.out.row (by have := Q2.out.box.lt; omega)
      by_cases hi1 : i + 1 < p.length
      · obtain ⟨a, ha⟩ : ∃ a, p[i]? = some a := ⟨_, List.getElem?_eq_getElem hip⟩
        have HAA := Lib.hid ha
        have hia : (i : Int) + 1 < (p.length : Int) := by omega
        clear ha ho9
        go_wp2_with fail
        go_loopw [13] (fun e wr => ∃ j : Nat, i ≤ j ∧ j ≤ m1 ∧ e = .int .i64 (j : Int) ∧ Hid (∀ q y, j < q → p[q]? = some y → safeB (n : Int) ls a (k : Int) y = false) ∧ Hid (RB w #[.int .i64 (n : Int), .slice A ls.length c] g3 A3 p (.slice A9 out.length c9) out wr)) (fun e _ => (intOf e).toNat)
        case atStart => exact ⟨m1, by omega, Nat.le_refl _, by rw [show ((m1 : Nat) : Int) = (p.length : Int) - 1 by omega], Lib.hid (fun q y hq hy => by have := (List.getElem?_eq_some_iff.1 hy).1; omega), Q2⟩
        case round =>
          obtain ⟨j, hij, hjm, rfl, HF, Q3⟩ := hrel
          clear Q2
          by_cases hlt : i < j
          · obtain ⟨y, hy⟩ : ∃ y, p[j]? = some y := ⟨_, List.getElem?_eq_getElem (by omega)⟩
            obtain ⟨tn, rfl⟩ : ∃ q : Nat, y = (q : Int) := ⟨y.toNat, by have := HRG.out y (List.mem_of_getElem? hy); omega⟩
            have C4 := fun V h => HCS.out a tn (HRG.out a (List.mem_of_getElem? HAA.out)) (by have := HRG.out (tn : Int) (List.mem_of_getElem? hy); omega) V h
            obtain ⟨rfl, z3, ca⟩ := Q3.out.own.at HAA.out
            obtain ⟨-, -, cy⟩ := Q3.out.own.at hy
            obtain ⟨zq, f0, f1, -, -⟩ := Q3.out.box.two
            have HYY := Lib.hid hy
            have hji : (j : Int) < (p.length : Int) := by omega
            clear hy
            have hX := fun (x : Ext wr.drew) (bb oo : Nat) (h : bb < wr.heap.size) => (show x.w.cell? ⟨bb, oo, none⟩ = wr.cell? ⟨bb, oo, none⟩ from x.cell bb oo h)
            go_upto_region 8 with fail
            refine wp_region_staged 17 (by kernel_rfl) (by kernel_rfl) ?_
            refine stage_seg _ 3 [0, 1, 2, 3, 4, 5, 6, 7, 8, 9, 10, 11, 12, 13] (by kernel_rfl) (by kernel_rfl) (by kernel_rfl) (by kernel_rfl) ?_
            (simp only [List.map_cons, List.map_nil, List.getElem?_cons_zero, List.getElem?_cons_succ, Option.getD_some]); (repeat (go_big_quiet_step (fail))); (refine wpQuiet_nil ?_)
            refine stage_call _ 2 14 (by kernel_rfl) (by rfl) (by kernel_rfl) (by rfl) ?_
            go_wp2_with fail
            refine (C4 wr.drew ((Sl.below (w' := wr.drew) HS.out Q3.out.bel.drew).more Q3.out.bel.size)).mono ?_
            clear C4
            rintro e w5 ⟨rfl, hb5⟩
            refine ⟨hb5, ?_⟩
            have Q := Lib.hid (Q3.out.drew.call hb5)
            clear hb5 hX f0 f1 zq Q3 ca cy z3
            cases hsf : safeB (n : Int) ls a (k : Int) (tn : Int) with
            | false =>
              have HSF := Lib.hid hsf
              clear hsf
              refine stage_seg _ 0 [15, 16] (by kernel_rfl) (by kernel_rfl) (by kernel_rfl) (by kernel_rfl) ?_
              (simp only [List.map_cons, List.map_nil, List.getElem?_cons_zero, List.getElem?_cons_succ, Option.getD_some]); (repeat (go_big_quiet_step (fail))); (refine wpQuiet_nil ?_)
              refine stage_end (by kernel_rfl) ?_
              go_wp2_with fail
              go_roundw
              case rel => exact ⟨j - 1, by omega, by omega, by rw [show ((j - 1 : Nat) : Int) = (j : Int) - 1 by omega], Lib.hid (fun q y hq hy => by
                by_cases e : q = j
                · subst e
                  rw [HYY.out] at hy
                  cases hy
                  exact HSF.out
                · exact HF.out q y (by omega) hy), Q⟩
              case measure => simp [intOf]; omega
            | true =>
              have HNX : Hid (∃ m, p.length ≤ j + m + 1 ∧ repA (n : Int) ls s (k : Int) t = (out ++ [⟨1, (tn : Int)⟩]) ++ repU (n : Int) ls (k : Int) m (p.drop j)) := Lib.hid (by
                obtain ⟨m, h1, h2⟩ := rep_go HG.out hi1
                exact ⟨m, by omega, by rw [h2, repU_node m HAA.out hlt HYY.out hsf HF.out]; simp⟩)
              clear hsf HF HG
              refine stage_seg _ 0 [15, 16] (by kernel_rfl) (by kernel_rfl) (by kernel_rfl) (by kernel_rfl) ?_
              (simp only [List.map_cons, List.map_nil, List.getElem?_cons_zero, List.getElem?_cons_succ, Option.getD_some]); (repeat (go_big_quiet_step (fail))); (refine wpQuiet_nil ?_)
              refine stage_end (by kernel_rfl) ?_
              obtain ⟨-, z3, cy⟩ := Q.out.own.at HYY.out
              have hz5 := Q.out.bel.size
              have zb5 := Q.out.box.lt
              go_wp2_with (at_builtin; refine wpList_append_own_at _ rfl _ _ 28 rfl (w.heap.size + 1) 45 i0 _ 2 16 Tryz.underlying28 hi hz0 hz10 hz20 rfl (by decide) _ out.length _ rfl (Q.out.row.alloc _) ⟨w5.heap.size, 0, none⟩ 1 1 [.int .i64 1, .int .i64 (tn : Int)] rfl rfl (new2 _ _ _ _) (one2 _ _) (by unfold maxLen; omega) (by omega) (by simp; omega) ?_; intro v' w8 hown' hgrow hnil hat; have Q8 := Lib.hid (Q.out.append hpos (x := ⟨1, (tn : Int)⟩) hown' hgrow hat); clear hown' hgrow hnil hat)
              go_roundw
              case rel => exact ⟨j, out ++ [⟨1, (tn : Int)⟩], by omega, rfl, HNX, Lib.hid (by simp; omega), Q8⟩
              case measure => simp [intOf]; omega
          · obtain rfl : j = i := by omega
            obtain ⟨b, hb⟩ : ∃ b, p[j + 1]? = some b := ⟨_, List.getElem?_eq_getElem hi1⟩
            have HBB := Lib.hid hb
            have HNX : Hid (∃ m, p.length ≤ (j + 1) + m + 1 ∧ repA (n : Int) ls s (k : Int) t = (out ++ [⟨2, linkI (n : Int) ls a b⟩]) ++ repU (n : Int) ls (k : Int) m (p.drop (j + 1))) := Lib.hid (by
              obtain ⟨m, h1, h2⟩ := rep_go HG.out hi1
              exact ⟨m, by omega, by rw [h2, repU_link m HAA.out HBB.out HF.out]; simp⟩)
            have hX := fun (x : Ext wr.drew) (bb oo : Nat) (h : bb < wr.heap.size) => (show x.w.cell? ⟨bb, oo, none⟩ = wr.cell? ⟨bb, oo, none⟩ from x.cell bb oo h)
            clear hb HF HG
            go_upto_region 8 with fail
            refine wp_region_staged 17 (by kernel_rfl) (by kernel_rfl) ?_
            refine stage_seg _ 3 [0, 1, 2, 3, 4, 5, 6, 7, 8, 9, 10, 11, 12, 13] (by kernel_rfl) (by kernel_rfl) (by kernel_rfl) (by kernel_rfl) ?_
            (simp only [List.map_cons, List.map_nil, List.getElem?_cons_zero, List.getElem?_cons_succ, Option.getD_some]); (repeat (go_big_quiet_step (fail))); (refine wpQuiet_nil ?_)
            refine stage_skip _ 2 14 (by kernel_rfl) (by rfl) (by kernel_rfl) (by rfl) ?_
            go_simp
            refine stage_seg _ 0 [15, 16] (by kernel_rfl) (by kernel_rfl) (by kernel_rfl) (by kernel_rfl) ?_
            (simp only [List.map_cons, List.map_nil, List.getElem?_cons_zero, List.getElem?_cons_succ, Option.getD_some]); (repeat (go_big_quiet_step (fail))); (refine wpQuiet_nil ?_)
            refine stage_end (by kernel_rfl) ?_
            clear hX
            have Q5 := Lib.hid Q3.out.drew
            clear Q3
            generalize wr.drew = w5 at *
            obtain ⟨rfl, z3, ca⟩ := Q5.out.own.at HAA.out
            obtain ⟨-, -, cb⟩ := Q5.out.own.at HBB.out
            obtain ⟨zq, f0, f1, -, -⟩ := Q5.out.box.two
            have CL := HCL.out a b w5.drew ((Sl.below (w' := w5.drew) HS.out Q5.out.bel.drew).more Q5.out.bel.size)
            generalize linkI (n : Int) ls a b = lk at *
            go_upto_region 13 with fail
            have zg3 : w.heap.size ≠ g3 := by omega
            have nG : ¬ XR w.heap.size g3 w.heap.size := fun h => by have := h.1; omega
            have nP : ¬ XR w.heap.size g3 g3 := fun h => h.2 rfl
            have hX0 := fun (y : ExtX (XR w.heap.size g3) w5.drew) => (y.cell w.heap.size 0 zq nG).trans (show w5.drew.cell? ⟨w.heap.size, 0, none⟩ = _ from f0)
            have hX1 := fun (y : ExtX (XR w.heap.size g3) w5.drew) => (y.cell w.heap.size 1 zq nG).trans (show w5.drew.cell? ⟨w.heap.size, 1, none⟩ = _ from f1)
            have hX2 := fun (y : ExtX (XR w.heap.size g3) w5.drew) => (y.cell g3 j z3 nP).trans (show w5.drew.cell? ⟨g3, j, none⟩ = _ from ca)
            have hX3 := fun (y : ExtX (XR w.heap.size g3) w5.drew) => (y.cell g3 (j + 1) z3 nP).trans (show w5.drew.cell? ⟨g3, j + 1, none⟩ = _ from cb)
            refine wp_region_stx 15 (XR w.heap.size g3) (by kernel_rfl) (by kernel_rfl) ?_
            refine stx_seg _ 5 [0, 1, 2, 3, 4, 5, 6, 7, 8, 9] (by kernel_rfl) (by kernel_rfl) (by kernel_rfl) (by kernel_rfl) ?_
            (simp only [List.map_cons, List.map_nil, List.getElem?_cons_zero, List.getElem?_cons_succ, Option.getD_some]); (repeat (go_big_quiet_step (fail))); (refine wpQuiet_nil ?_)
            clear hX0 hX1 hX2 hX3 ca cb f0 f1
            refine stx_one _ 4 10 (by kernel_rfl) (by rfl) (by kernel_rfl) (by rfl) ?_
            go_wp2_with fail
            refine CL.mono ?_
            clear CL
            rintro e w9 ⟨rfl, hb9⟩
            refine ⟨Kx.of_below hb9, _, fun _ h => h, ?_⟩
            have Q9 := Lib.hid (Q5.out.drew.call hb9)
            have zq9 := Q9.out.box.lt
            have hz9 := Q9.out.bel.size
            clear hb9 Q5 zq
            refine stx_one _ 3 11 (by kernel_rfl) (by rfl) (by kernel_rfl) (by rfl) ?_
            go_wp2_with fail
            refine ⟨Kx.refl _ _, _, fun _ h => h, ?_⟩
            refine stx_one _ 2 12 (by kernel_rfl) (by rfl) (by kernel_rfl) (by rfl) ?_
            go_wp2_with fail
            refine ⟨(Kx.refl _ _).alloc _, _, fun _ h => h, ?_⟩
            refine stx_one _ 1 13 (by kernel_rfl) (by rfl) (by kernel_rfl) (by rfl) ?_
            refine wp_append_own _ _ _ 28 rfl (w.heap.size + 1) 45 i0 _ 2 16 Tryz.underlying28 hi hz0 hz10 hz20 rfl (by decide) _ out.length _ rfl (Q9.out.row.alloc _) ⟨w9.heap.size, 0, none⟩ 1 1 [.int .i64 2, .int .i64 lk] rfl rfl (new2 _ _ _ _) (one2 _ _) (by unfold maxLen; omega) (by omega) (by simp; omega) ?_
            intro v' w10 hown' hgrow _
            refine ⟨Q9.out.keeps hgrow, _, fun _ h => h, ?_⟩
            have Q10 := Lib.hid (Q9.out.append' hpos (x := ⟨2, lk⟩) hown' hgrow)
            clear hown' hgrow
            go_simp
            refine stx_seg _ 0 [14] (by kernel_rfl) (by kernel_rfl) (by kernel_rfl) (by kernel_rfl) ?_
            (simp only [List.map_cons, List.map_nil, List.getElem?_cons_zero, List.getElem?_cons_succ, Option.getD_some]); (repeat (go_big_quiet_step (fail))); (refine wpQuiet_nil ?_)
            refine stx_end (by kernel_rfl) ?_
            go_wp2_with fail
            go_roundw
            case rel => exact ⟨j + 1, out ++ [⟨2, lk⟩], by omega, by go_num, HNX, Lib.hid (by simp; omega), Q10⟩
            case measure => simp [intOf]; omega
      · have HFI : Hid (repA (n : Int) ls s (k : Int) t = out) := Lib.hid (by
          obtain ⟨m, h1, h2⟩ := HG.out
          rw [h2, repU_last m (by omega), List.append_nil])
        have hia : ¬ (i : Int) + 1 < (p.length : Int) := by omega
        go_wp2_with fail
        go_returns
        unfold RepR
        rw [HFI.out, HE.out.1]
        exact ⟨A9, g9, c9, rfl, by omega, ho9, Q2.out.bel, hc9⟩

end Go.Proofs.YtenlofomkchlaabGreatDoor
