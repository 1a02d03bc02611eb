/-
  Contracts over this seat: what becomes of an adjacency by an event (the program's table of method expressions).
-/
import Derived.Test.YtnkohgdfipgdoaaA5
import Derived.Deep.WholeRow
import Derived.Test.YtnkohgdfipgdoaaC1
namespace Go.Proofs.Ytnkohgdfipgdoaa
open Go.RowKit

abbrev adjV (s g : Int) : Value := .agg #[.int .i64 s, .int .i64 g]

theorem meet_any (s g : Int) (w : World) :
   Calls Try.prog 34 #[adjV s g] w fun e w' => e = .returned (adjV 1 0) ∧ Below w.heap.size w w' := by
  go_enter Try.func34, Try.ntmps34
  go_wp2
  refine bodyPost_ret (v := adjV 1 0) (by simp [results, Try.results34, go_sem]) rfl ⟨rfl, ?_⟩
  (repeat (first | exact Below.refl _ _ | (refine Below.alloc ?_ (by first | exact Nat.le_refl _ | omega | (simp; done) | (simp; omega)) _) | (refine Below.setCell ?_ (by first | exact Nat.le_refl _ | omega | (simp; done) | (simp; omega)) _) | exact Below.drew ‹_›))
theorem pair_any (s g : Int) (w : World) :
   Calls Try.prog 35 #[adjV s g] w fun e w' => e = .returned (adjV 2 0) ∧ Below w.heap.size w w' := by
  go_enter Try.func35, Try.ntmps35
  go_wp2
  refine bodyPost_ret (v := adjV 2 0) (by simp [results, Try.results35, go_sem]) rfl ⟨rfl, ?_⟩
  (repeat (first | exact Below.refl _ _ | (refine Below.alloc ?_ (by first | exact Nat.le_refl _ | omega | (simp; done) | (simp; omega)) _) | (refine Below.setCell ?_ (by first | exact Nat.le_refl _ | omega | (simp; done) | (simp; omega)) _) | exact Below.drew ‹_›))
theorem renew_any (s g : Int) (w : World) :
   Calls Try.prog 36 #[adjV s g] w fun e w' => e = .returned (adjV s 0) ∧ Below w.heap.size w w' := by
  go_enter Try.func36, Try.ntmps36
  go_wp2
  refine bodyPost_ret (v := adjV s 0) (by simp [results, Try.results36, go_sem]) rfl ⟨rfl, ?_⟩
  (repeat (first | exact Below.refl _ _ | (refine Below.alloc ?_ (by first | exact Nat.le_refl _ | omega | (simp; done) | (simp; omega)) _) | (refine Below.setCell ?_ (by first | exact Nat.le_refl _ | omega | (simp; done) | (simp; omega)) _) | exact Below.drew ‹_›))
theorem stay_any (s g : Int) (w : World) :
   Calls Try.prog 37 #[adjV s g] w fun e w' => e = .returned (adjV s g) ∧ Below w.heap.size w w' := by
  go_enter Try.func37, Try.ntmps37
  go_wp2
  refine bodyPost_ret (v := adjV s g) (by simp [results, Try.results37, go_sem]) rfl ⟨rfl, ?_⟩
  (repeat (first | exact Below.refl _ _ | (refine Below.alloc ?_ (by first | exact Nat.le_refl _ | omega | (simp; done) | (simp; omega)) _) | (refine Below.setCell ?_ (by first | exact Nat.le_refl _ | omega | (simp; done) | (simp; omega)) _) | exact Below.drew ‹_›))
theorem lag_any (s g : Int) (w : World) :
   Calls Try.prog 39 #[adjV s g] w fun e w' => e = .returned (adjV 2 g) ∧ Below w.heap.size w w' := by
  go_enter Try.func39, Try.ntmps39
  go_wp2
  refine bodyPost_ret (v := adjV 2 g) (by simp [results, Try.results39, go_sem]) rfl ⟨rfl, ?_⟩
  (repeat (first | exact Below.refl _ _ | (refine Below.alloc ?_ (by first | exact Nat.le_refl _ | omega | (simp; done) | (simp; omega)) _) | (refine Below.setCell ?_ (by first | exact Nat.le_refl _ | omega | (simp; done) | (simp; omega)) _) | exact Below.drew ‹_›))
theorem agree_any (s g : Int) (w : World) :
   Calls Try.prog 40 #[adjV s g] w fun e w' => e = .returned (adjV 3 g) ∧ Below w.heap.size w w' := by
  go_enter Try.func40, Try.ntmps40
  go_wp2
  refine bodyPost_ret (v := adjV 3 g) (by simp [results, Try.results40, go_sem]) rfl ⟨rfl, ?_⟩
  (repeat (first | exact Below.refl _ _ | (refine Below.alloc ?_ (by first | exact Nat.le_refl _ | omega | (simp; done) | (simp; omega)) _) | (refine Below.setCell ?_ (by first | exact Nat.le_refl _ | omega | (simp; done) | (simp; omega)) _) | exact Below.drew ‹_›))
theorem wait_any (s g : Int) (w : World) (h0 : 0 ≤ g) (h3 : g ≤ 3) :
   Calls Try.prog 38 #[adjV s g] w fun e w' => e = .returned (if g = 3 then adjV 0 0 else adjV s (g + 1)) ∧ Below w.heap.size w w' := by
  have hw : IntKind.i64.wrap (g + 1) = g + 1 := IntWalk.i64_in _ (by omega)
  by_cases hg : g = 3
  · subst hg
    go_enter Try.func38, Try.ntmps38
    go_wp2
    refine bodyPost_ret (v := adjV 0 0) (by simp [results, Try.results38, go_sem]) rfl ⟨rfl, ?_⟩
    (repeat (first | exact Below.refl _ _ | (refine Below.alloc ?_ (by first | exact Nat.le_refl _ | omega | (simp; done) | (simp; omega)) _) | (refine Below.setCell ?_ (by first | exact Nat.le_refl _ | omega | (simp; done) | (simp; omega)) _) | exact Below.drew ‹_›))
  · rw [if_neg hg]
    have hg' : (g + 1 == 4) = false := beq_eq_false_iff_ne.2 (by omega)
    go_enter Try.func38, Try.ntmps38
    go_wp2
    refine bodyPost_ret (v := adjV s (g + 1)) (by simp [results, Try.results38, go_sem]) rfl ⟨rfl, ?_⟩
    (repeat (first | exact Below.refl _ _ | (refine Below.alloc ?_ (by first | exact Nat.le_refl _ | omega | (simp; done) | (simp; omega)) _) | (refine Below.setCell ?_ (by first | exact Nat.le_refl _ | omega | (simp; done) | (simp; omega)) _) | exact Below.drew ‹_›))

/-- What becomes of an adjacency. -/
def onA (ev : Nat) (s g : Int) : Int × Int :=
  match ev with
  | 0 => (1, 0)
  | 1 => if s = 3 then (3, 0) else (2, 0)
  | 2 => if s = 0 then (s, g) else if g = 3 then (0, 0) else (s, g + 1)
  | 3 => if s = 3 then (2, g) else (s, g)
  | _ => if s = 2 then (3, g) else (s, g)
/-- A whole row into the block that was made last. -/
theorem wpList_store_new {P : Program} {ops : Array Oper} {rest : List Oper} {op : Oper} {a : Act} {w : World} {Q : Exit → Act → World → Prop} (hgd : op.guard = none) (hd : op.dst = none) (ty : TypeId) (x y : Operand) (ho : op.op = .store ty x y)
    (W : World) (c c' : Array Value) (b : Nat) (hW : w = W.alloc (.cells c ty)) (hx : a.eval x = .pointer (some ⟨b, 0, none⟩)) (hy : a.eval y = .agg c') (hb : b = W.heap.size)
    (hi : (P.info? ty).map (·.size) = some c'.size) (hsz : c.size = c'.size) (h1 : c'.all (·.oneCell') = true)
    (h : wpList P ops Q rest a (W.alloc (.cells c' ty))) : wpList P ops Q (op :: rest) a w := by
  subst hW hb
  refine wpList_plain hgd fun _ hK => ?_
  unfold Oper.wp execOp
  simp only [ho, hx, hy, Instr.storeAt, Instr.sureAddr, Sem.run_bind, Sem.run_pure, Result.andThen_ok, run_storeVar_new W ty c c' hi hsz h1]
  have h' : wpList P ops Q rest (a.put op.dst undef) (W.alloc (.cells c' ty)) := by rw [hd]; exact h
  exact hK _ _ h'
/-- The program's table, row by row. -/
def tabA : Array Value := #[.func (.func 34) #[] #[], .func (.func 34) #[] #[], .func (.func 34) #[] #[], .func (.func 34) #[] #[],
  .func (.func 35) #[] #[], .func (.func 35) #[] #[], .func (.func 35) #[] #[], .func (.func 36) #[] #[],
  .func (.func 37) #[] #[], .func (.func 38) #[] #[], .func (.func 38) #[] #[], .func (.func 38) #[] #[],
  .func (.func 37) #[] #[], .func (.func 37) #[] #[], .func (.func 37) #[] #[], .func (.func 39) #[] #[],
  .func (.func 37) #[] #[], .func (.func 37) #[] #[], .func (.func 40) #[] #[], .func (.func 37) #[] #[]]
set_option maxRecDepth 100000 in
set_option maxHeartbeats 1600000 in
theorem on_at (ev s : Nat) (g s' g' : Int) (F : Nat) (w : World) (hev : ev < 5) (hs : s < 4) (hM : F = 34 ∨ F = 35 ∨ F = 36 ∨ F = 37 ∨ F = 38 ∨ F = 39 ∨ F = 40) (hF : tabA[ev * 4 + s]? = some (.func (.func F) #[] #[]))
   (hC : ∀ W : World, Calls Try.prog F #[adjV s g] W fun e w' => e = .returned (adjV s' g') ∧ Below W.heap.size W w') :
   Calls Try.prog 25 #[adjV s g, .int .i64 ev] w fun e w' => e = .returned (adjV s' g') ∧ Below w.heap.size w w' := by
  have P0 := Lib.hid (((Box.new w 25 #[.int .i64 s, .int .i64 g]).alloc (.cells #[.int .i64 0, .int .i64 0] 25)).alloc (.cells tabA 53))
  have R0 := Lib.hid ((Box.new (w.alloc (.cells #[.int .i64 s, .int .i64 g] 25)) 25 #[.int .i64 0, .int .i64 0]).alloc (.cells tabA 53))
  have T0 := Lib.hid (Box.new ((w.alloc (.cells #[.int .i64 s, .int .i64 g] 25)).alloc (.cells #[.int .i64 0, .int .i64 0] 25)) 53 tabA)
  have B0 := Lib.hid (show Below w.heap.size w (((w.alloc (.cells #[.int .i64 s, .int .i64 g] 25)).alloc (.cells #[.int .i64 0, .int .i64 0] 25)).alloc (.cells tabA 53)) by (repeat (first | exact Below.refl _ _ | (refine Below.alloc ?_ (by first | exact Nat.le_refl _ | omega | (simp; done) | (simp; omega)) _) | (refine Below.setCell ?_ (by first | exact Nat.le_refl _ | omega | (simp; done) | (simp; omega)) _) | exact Below.drew ‹_›)))
  have HF := Lib.hid hF
  clear hF
  go_enter Try.func25, Try.ntmps25
  go_wp2_with (refine wpList_store_new rfl rfl _ (.tmp 5) (.tmp 11) rfl _ _ tabA _ rfl rfl rfl (by simp) (by kernel_rfl) (by rfl) (by kernel_rfl) ?_)
  generalize hW : ((w.alloc (.cells #[.int .i64 s, .int .i64 g] 25)).alloc (.cells #[.int .i64 0, .int .i64 0] 25)).alloc (.cells tabA 53) = W at *
  simp only [World.size_alloc] at R0 T0
  obtain ⟨z0, a0, a1, -, -⟩ := P0.out.two
  have zt := T0.out.lt
  have c0 := (T0.out.cell (ev * 4 + s)).trans HF.out
  clear hW
  have hX0 := fun (y : ExtX (fun b => b = w.heap.size + 1 ∨ W.heap.size ≤ b) W.drew) => (y.cell w.heap.size 0 z0 (by omega)).trans (show W.drew.cell? ⟨w.heap.size, 0, none⟩ = _ from a0)
  have hX1 := fun (y : ExtX (fun b => b = w.heap.size + 1 ∨ W.heap.size ≤ b) W.drew) => (y.cell w.heap.size 1 z0 (by omega)).trans (show W.drew.cell? ⟨w.heap.size, 1, none⟩ = _ from a1)
  have hX2 := fun (y : ExtX (fun b => b = w.heap.size + 1 ∨ W.heap.size ≤ b) W.drew) => (y.cell (w.heap.size + 1 + 1) (ev * 4 + s) zt (by omega)).trans (show W.drew.cell? ⟨w.heap.size + 1 + 1, ev * 4 + s, none⟩ = _ from c0)
  have he0 : (ev : Int) < 5 := by omega
  have hs0 : (s : Int) < 4 := by omega
  refine wp_region_stx 9 (fun b => b = w.heap.size + 1 ∨ W.heap.size ≤ b) (by kernel_rfl) (by kernel_rfl) ?_
  refine stx_seg _ 2 [0, 1, 2, 3, 4, 5, 6] (by kernel_rfl) (by kernel_rfl) (by kernel_rfl) (by kernel_rfl) ?_
  (simp only [List.map_cons, List.map_nil, List.getElem?_cons_zero, List.getElem?_cons_succ, Option.getD_some]); (repeat (go_big_quiet_step (fail))); (refine wpQuiet_nil ?_)
  clear hX0 hX1 hX2
  refine stx_one _ 1 7 (by kernel_rfl) (by rfl) (by kernel_rfl) (by rfl) ?_
  rcases hM with rfl | rfl | rfl | rfl | rfl | rfl | rfl
  all_goals
    go_wp2_with fail
    refine (hC _).mono ?_
    rintro e w1 ⟨rfl, hb1⟩
    refine ⟨Kx.of_below hb1, _, fun _ h => h, ?_⟩
    have R1 := Lib.hid (Box.below (w := W.drew) R0.out hb1 R0.out.lt)
    have B1 := Lib.hid (B0.out.drew.trans (hb1.mono B0.out.size))
    obtain ⟨zr, r0, r1, q0, q1⟩ := R1.out.two
    refine stx_one _ 0 8 (by kernel_rfl) (by rfl) (by kernel_rfl) (by rfl) ?_
    go_wp2_with fail
    refine ⟨((Kx.refl _ _).setCell (p := ⟨w.heap.size + 1, 0, none⟩) (.inl rfl) _).setCell (p := ⟨w.heap.size + 1, 1, none⟩) (.inl rfl) _, _, fun _ h => h, ?_⟩
    refine stx_end (by kernel_rfl) ?_
    obtain ⟨x2, x0, x1⟩ := ret_two R1.out (.int .i64 s') (.int .i64 g')
    clear q0 q1 r0 r1
    go_wp2_with fail
    refine bodyPost_ret (v := adjV s' g') (by simp [results, Try.results25, go_sem, x0, x1]) rfl ⟨rfl, ?_⟩
    exact (B1.out.setCell (p := ⟨w.heap.size + 1, 0, none⟩) (Nat.le_succ _) _).setCell (p := ⟨w.heap.size + 1, 1, none⟩) (Nat.le_succ _) _

theorem on_any (ev s : Nat) (g : Int) (w : World) (hev : ev < 5) (hs : s < 4) (h0 : 0 ≤ g) (h3 : g ≤ 3) :
   Calls Try.prog 25 #[adjV s g, .int .i64 ev] w fun e w' => e = .returned (adjV (onA ev s g).1 (onA ev s g).2) ∧ Below w.heap.size w w' := by
  have hC : ∀ W : World, Calls Try.prog 38 #[adjV s g] W fun e w' => e = .returned (adjV (if g = 3 then (0, 0) else ((s : Int), g + 1)).1 (if g = 3 then (0, 0) else ((s : Int), g + 1)).2) ∧ Below W.heap.size W w' := fun W => by
    have := wait_any s g W h0 h3
    by_cases hg : g = 3
    · rw [if_pos hg] at this ⊢
      exact this
    · rw [if_neg hg] at this ⊢
      exact this
  match ev, s, hev, hs with
  | 0, 0, _, _ => exact on_at 0 0 g 1 0 _ w (by omega) (by omega) (by decide) rfl (fun W => meet_any _ g W)
  | 0, 1, _, _ => exact on_at 0 1 g 1 0 _ w (by omega) (by omega) (by decide) rfl (fun W => meet_any _ g W)
  | 0, 2, _, _ => exact on_at 0 2 g 1 0 _ w (by omega) (by omega) (by decide) rfl (fun W => meet_any _ g W)
  | 0, 3, _, _ => exact on_at 0 3 g 1 0 _ w (by omega) (by omega) (by decide) rfl (fun W => meet_any _ g W)
  | 1, 0, _, _ => exact on_at 1 0 g 2 0 _ w (by omega) (by omega) (by decide) rfl (fun W => pair_any _ g W)
  | 1, 1, _, _ => exact on_at 1 1 g 2 0 _ w (by omega) (by omega) (by decide) rfl (fun W => pair_any _ g W)
  | 1, 2, _, _ => exact on_at 1 2 g 2 0 _ w (by omega) (by omega) (by decide) rfl (fun W => pair_any _ g W)
  | 1, 3, _, _ => exact on_at 1 3 g 3 0 _ w (by omega) (by omega) (by decide) rfl (fun W => renew_any _ g W)
  | 2, 0, _, _ => exact on_at 2 0 g 0 g _ w (by omega) (by omega) (by decide) rfl (fun W => stay_any _ g W)
  | 2, 1, _, _ => exact on_at 2 1 g _ _ _ w (by omega) (by omega) (by decide) rfl hC
  | 2, 2, _, _ => exact on_at 2 2 g _ _ _ w (by omega) (by omega) (by decide) rfl hC
  | 2, 3, _, _ => exact on_at 2 3 g _ _ _ w (by omega) (by omega) (by decide) rfl hC
  | 3, 0, _, _ => exact on_at 3 0 g 0 g _ w (by omega) (by omega) (by decide) rfl (fun W => stay_any _ g W)
  | 3, 1, _, _ => exact on_at 3 1 g 1 g _ w (by omega) (by omega) (by decide) rfl (fun W => stay_any _ g W)
  | 3, 2, _, _ => exact on_at 3 2 g 2 g _ w (by omega) (by omega) (by decide) rfl (fun W => stay_any _ g W)
  | 3, 3, _, _ => exact on_at 3 3 g 2 g _ w (by omega) (by omega) (by decide) rfl (fun W => lag_any _ g W)
  | 4, 0, _, _ => exact on_at 4 0 g 0 g _ w (by omega) (by omega) (by decide) rfl (fun W => stay_any _ g W)
  | 4, 1, _, _ => exact on_at 4 1 g 1 g _ w (by omega) (by omega) (by decide) rfl (fun W => stay_any _ g W)
  | 4, 2, _, _ => exact on_at 4 2 g 3 g _ w (by omega) (by omega) (by decide) rfl (fun W => agree_any _ g W)
  | 4, 3, _, _ => exact on_at 4 3 g 3 g _ w (by omega) (by omega) (by decide) rfl (fun W => stay_any _ g W)
end Go.Proofs.Ytnkohgdfipgdoaa
