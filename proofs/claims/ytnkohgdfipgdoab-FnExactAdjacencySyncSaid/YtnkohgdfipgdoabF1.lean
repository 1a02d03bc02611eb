/-
  Contracts over this seat: what becomes of an adjacency by an event (the program's table of method expressions).
-/
import Derived.Test.YtnkohgdfipgdoabA5
import Derived.Deep.WholeRow
import Derived.Test.YtnkohgdfipgdoabC1
import Derived.Test.YtnkohgdfipgdoabA8
namespace Go.Proofs.Ytnkohgdfipgdoab
open Go.RowKit

abbrev adjV (s g : Int) : Value := .agg #[.int .i64 s, .int .i64 g]

theorem meet_any (s g : Int) (w : World) :
   Calls Try.prog 58 #[adjV s g] w fun e w' => e = .returned (adjV 1 0) ∧ Below w.heap.size w w' := by
  go_enter Try.func58, Try.ntmps58
  go_wp2
  refine bodyPost_ret (v := adjV 1 0) (by simp [results, Try.results58, go_sem]) rfl ⟨rfl, ?_⟩
  (repeat (first | exact Below.refl _ _ | (refine Below.alloc ?_ (by first | exact Nat.le_refl _ | omega | (simp; done) | (simp; omega)) _) | (refine Below.setCell ?_ (by first | exact Nat.le_refl _ | omega | (simp; done) | (simp; omega)) _) | exact Below.drew ‹_›))
theorem pair_any (s g : Int) (w : World) :
   Calls Try.prog 59 #[adjV s g] w fun e w' => e = .returned (adjV 2 0) ∧ Below w.heap.size w w' := by
  go_enter Try.func59, Try.ntmps59
  go_wp2
  refine bodyPost_ret (v := adjV 2 0) (by simp [results, Try.results59, go_sem]) rfl ⟨rfl, ?_⟩
  (repeat (first | exact Below.refl _ _ | (refine Below.alloc ?_ (by first | exact Nat.le_refl _ | omega | (simp; done) | (simp; omega)) _) | (refine Below.setCell ?_ (by first | exact Nat.le_refl _ | omega | (simp; done) | (simp; omega)) _) | exact Below.drew ‹_›))
theorem renew_any (s g : Int) (w : World) :
   Calls Try.prog 60 #[adjV s g] w fun e w' => e = .returned (adjV s 0) ∧ Below w.heap.size w w' := by
  go_enter Try.func60, Try.ntmps60
  go_wp2
  refine bodyPost_ret (v := adjV s 0) (by simp [results, Try.results60, go_sem]) rfl ⟨rfl, ?_⟩
  (repeat (first | exact Below.refl _ _ | (refine Below.alloc ?_ (by first | exact Nat.le_refl _ | omega | (simp; done) | (simp; omega)) _) | (refine Below.setCell ?_ (by first | exact Nat.le_refl _ | omega | (simp; done) | (simp; omega)) _) | exact Below.drew ‹_›))
theorem stay_any (s g : Int) (w : World) :
   Calls Try.prog 61 #[adjV s g] w fun e w' => e = .returned (adjV s g) ∧ Below w.heap.size w w' := by
  go_enter Try.func61, Try.ntmps61
  go_wp2
  refine bodyPost_ret (v := adjV s g) (by simp [results, Try.results61, go_sem]) rfl ⟨rfl, ?_⟩
  (repeat (first | exact Below.refl _ _ | (refine Below.alloc ?_ (by first | exact Nat.le_refl _ | omega | (simp; done) | (simp; omega)) _) | (refine Below.setCell ?_ (by first | exact Nat.le_refl _ | omega | (simp; done) | (simp; omega)) _) | exact Below.drew ‹_›))
theorem lag_any (s g : Int) (w : World) :
   Calls Try.prog 63 #[adjV s g] w fun e w' => e = .returned (adjV 2 g) ∧ Below w.heap.size w w' := by
  go_enter Try.func63, Try.ntmps63
  go_wp2
  refine bodyPost_ret (v := adjV 2 g) (by simp [results, Try.results63, go_sem]) rfl ⟨rfl, ?_⟩
  (repeat (first | exact Below.refl _ _ | (refine Below.alloc ?_ (by first | exact Nat.le_refl _ | omega | (simp; done) | (simp; omega)) _) | (refine Below.setCell ?_ (by first | exact Nat.le_refl _ | omega | (simp; done) | (simp; omega)) _) | exact Below.drew ‹_›))
theorem agree_any (s g : Int) (w : World) :
   Calls Try.prog 64 #[adjV s g] w fun e w' => e = .returned (adjV 3 g) ∧ Below w.heap.size w w' := by
  go_enter Try.func64, Try.ntmps64
  go_wp2
  refine bodyPost_ret (v := adjV 3 g) (by simp [results, Try.results64, go_sem]) rfl ⟨rfl, ?_⟩
  (repeat (first | exact Below.refl _ _ | (refine Below.alloc ?_ (by first | exact Nat.le_refl _ | omega | (simp; done) | (simp; omega)) _) | (refine Below.setCell ?_ (by first | exact Nat.le_refl _ | omega | (simp; done) | (simp; omega)) _) | exact Below.drew ‹_›))
theorem wait_any (s g : Int) (w : World) (h0 : 0 ≤ g) (h3 : g ≤ 3) :
   Calls Try.prog 62 #[adjV s g] w fun e w' => e = .returned (if g = 3 then adjV 0 0 else adjV s (g + 1)) ∧ Below w.heap.size w w' := by
  have hw : IntKind.i64.wrap (g + 1) = g + 1 := IntWalk.i64_in _ (by omega)
  by_cases hg : g = 3
  · subst hg
    go_enter Try.func62, Try.ntmps62
    go_wp2
    refine bodyPost_ret (v := adjV 0 0) (by simp [results, Try.results62, go_sem]) rfl ⟨rfl, ?_⟩
    (repeat (first | exact Below.refl _ _ | (refine Below.alloc ?_ (by first | exact Nat.le_refl _ | omega | (simp; done) | (simp; omega)) _) | (refine Below.setCell ?_ (by first | exact Nat.le_refl _ | omega | (simp; done) | (simp; omega)) _) | exact Below.drew ‹_›))
  · rw [if_neg hg]
    have hg' : (g + 1 == 4) = false := beq_eq_false_iff_ne.2 (by omega)
    go_enter Try.func62, Try.ntmps62
    go_wp2
    refine bodyPost_ret (v := adjV s (g + 1)) (by simp [results, Try.results62, go_sem]) rfl ⟨rfl, ?_⟩
    (repeat (first | exact Below.refl _ _ | (refine Below.alloc ?_ (by first | exact Nat.le_refl _ | omega | (simp; done) | (simp; omega)) _) | (refine Below.setCell ?_ (by first | exact Nat.le_refl _ | omega | (simp; done) | (simp; omega)) _) | exact Below.drew ‹_›))

/-- What becomes of an adjacency. -/
def onA (ev : Nat) (s g : Int) : Int × Int :=
  match ev with
  | 0 => (1, 0)
  | 1 => if s = 3 then (3, 0) else (2, 0)
  | 2 => if s = 0 then (s, g) else if g = 3 then (0, 0) else (s, g + 1)
  | 3 => if s = 3 then (2, g) else (s, g)
  | _ => if s = 2 then (3, g) else (s, g)
/-- A whole row into the block that was made last. -/
theorem wpList_store_new {P : Program} {ops : Array Oper} {rest : List Oper} {op : Oper} {a : Act} {w : World} {Q : Exit → Act → World → Prop} (hgd : op.guard = none) (hd : op.dst = none) (ty : TypeId) (x y : Operand) (ho : op.op = .store ty x y)
    (W : World) (c c' : Array Value) (b : Nat) (hW : w = W.alloc (.cells c ty)) (hx : a.eval x = .pointer (some ⟨b, 0, none⟩)) (hy : a.eval y = .agg c') (hb : b = W.heap.size)
    (hi : (P.info? ty).map (·.size) = some c'.size) (hsz : c.size = c'.size) (h1 : c'.all (·.oneCell') = true)
    (h : wpList P ops Q rest a (W.alloc (.cells c' ty))) : wpList P ops Q (op :: rest) a w := by
  subst hW hb
  refine wpList_plain hgd fun _ hK => ?_
  unfold Oper.wp execOp
  simp only [ho, hx, hy, Instr.storeAt, Instr.sureAddr, Sem.run_bind, Sem.run_pure, Result.andThen_ok, run_storeVar_new W ty c c' hi hsz h1]
  have h' : wpList P ops Q rest (a.put op.dst undef) (W.alloc (.cells c' ty)) := by rw [hd]; exact h
  exact hK _ _ h'
/-- The program's table, row by row. -/
def tabA : Array Value := #[.func (.func 58) #[] #[], .func (.func 58) #[] #[], .func (.func 58) #[] #[], .func (.func 58) #[] #[],
  .func (.func 59) #[] #[], .func (.func 59) #[] #[], .func (.func 59) #[] #[], .func (.func 60) #[] #[],
  .func (.func 61) #[] #[], .func (.func 62) #[] #[], .func (.func 62) #[] #[], .func (.func 62) #[] #[],
  .func (.func 61) #[] #[], .func (.func 61) #[] #[], .func (.func 61) #[] #[], .func (.func 63) #[] #[],
  .func (.func 61) #[] #[], .func (.func 61) #[] #[], .func (.func 64) #[] #[], .func (.func 61) #[] #[]]
set_option maxRecDepth 100000 in
set_option maxHeartbeats 1600000 in
theorem on_at (ev s : Nat) (g s' g' : Int) (F : Nat) (w : World) (hev : ev < 5) (hs : s < 4) (hM : F = 58 ∨ F = 59 ∨ F = 60 ∨ F = 61 ∨ F = 62 ∨ F = 63 ∨ F = 64) (hF : tabA[ev * 4 + s]? = some (.func (.func F) #[] #[]))
   (hC : ∀ W : World, Calls Try.prog F #[adjV s g] W fun e w' => e = .returned (adjV s' g') ∧ Below W.heap.size W w') :
   Calls Try.prog 33 #[adjV s g, .int .i64 ev] w fun e w' => e = .returned (adjV s' g') ∧ Below w.heap.size w w' := by
  have P0 := Lib.hid (((Box.new w 26 #[.int .i64 s, .int .i64 g]).alloc (.cells #[.int .i64 0, .int .i64 0] 26)).alloc (.cells tabA 99))
  have R0 := Lib.hid ((Box.new (w.alloc (.cells #[.int .i64 s, .int .i64 g] 26)) 26 #[.int .i64 0, .int .i64 0]).alloc (.cells tabA 99))
  have T0 := Lib.hid (Box.new ((w.alloc (.cells #[.int .i64 s, .int .i64 g] 26)).alloc (.cells #[.int .i64 0, .int .i64 0] 26)) 99 tabA)
  have B0 := Lib.hid (show Below w.heap.size w (((w.alloc (.cells #[.int .i64 s, .int .i64 g] 26)).alloc (.cells #[.int .i64 0, .int .i64 0] 26)).alloc (.cells tabA 99)) by (repeat (first | exact Below.refl _ _ | (refine Below.alloc ?_ (by first | exact Nat.le_refl _ | omega | (simp; done) | (simp; omega)) _) | (refine Below.setCell ?_ (by first | exact Nat.le_refl _ | omega | (simp; done) | (simp; omega)) _) | exact Below.drew ‹_›)))
  have HF := Lib.hid hF
  clear hF
  go_enter Try.func33, Try.ntmps33
  go_wp2_with (refine wpList_store_new rfl rfl _ (.tmp 5) (.tmp 11) rfl _ _ tabA _ rfl rfl rfl (by simp) (by kernel_rfl) (by rfl) (by kernel_rfl) ?_)
  generalize hW : ((w.alloc (.cells #[.int .i64 s, .int .i64 g] 26)).alloc (.cells #[.int .i64 0, .int .i64 0] 26)).alloc (.cells tabA 99) = W at *
  simp only [World.size_alloc] at R0 T0
  obtain ⟨z0, a0, a1, -, -⟩ := P0.out.two
  have zt := T0.out.lt
  have c0 := (T0.out.cell (ev * 4 + s)).trans HF.out
  clear hW
  have hX0 := fun (y : ExtX (fun b => b = w.heap.size + 1 ∨ W.heap.size ≤ b) W.drew) => (y.cell w.heap.size 0 z0 (by omega)).trans (show W.drew.cell? ⟨w.heap.size, 0, none⟩ = _ from a0)
  have hX1 := fun (y : ExtX (fun b => b = w.heap.size + 1 ∨ W.heap.size ≤ b) W.drew) => (y.cell w.heap.size 1 z0 (by omega)).trans (show W.drew.cell? ⟨w.heap.size, 1, none⟩ = _ from a1)
  have hX2 := fun (y : ExtX (fun b => b = w.heap.size + 1 ∨ W.heap.size ≤ b) W.drew) => (y.cell (w.heap.size + 1 + 1) (ev * 4 + s) zt (by omega)).trans (show W.drew.cell? ⟨w.heap.size + 1 + 1, ev * 4 + s, none⟩ = _ from c0)
  have he0 : (ev : Int) < 5 := by omega
  have hs0 : (s : Int) < 4 := by omega
  refine wp_region_stx 9 (fun b => b = w.heap.size + 1 ∨ W.heap.size ≤ b) (by kernel_rfl) (by kernel_rfl) ?_
  refine stx_seg _ 2 [0, 1, 2, 3, 4, 5, 6] (by kernel_rfl) (by kernel_rfl) (by kernel_rfl) (by kernel_rfl) ?_
  (simp only [List.map_cons, List.map_nil, List.getElem?_cons_zero, List.getElem?_cons_succ, Option.getD_some]); (repeat (go_big_quiet_step (fail))); (refine wpQuiet_nil ?_)
  clear hX0 hX1 hX2
  refine stx_one _ 1 7 (by kernel_rfl) (by rfl) (by kernel_rfl) (by rfl) ?_
  rcases hM with rfl | rfl | rfl | rfl | rfl | rfl | rfl
  all_goals
    go_wp2_with fail
    refine (hC _).mono ?_
    rintro e w1 ⟨rfl, hb1⟩
    refine ⟨Kx.of_below hb1, _, fun _ h => h, ?_⟩
    have R1 := Lib.hid (Box.below (w := W.drew) R0.out hb1 R0.out.lt)
    have B1 := Lib.hid (B0.out.drew.trans (hb1.mono B0.out.size))
    obtain ⟨zr, r0, r1, q0, q1⟩ := R1.out.two
    refine stx_one _ 0 8 (by kernel_rfl) (by rfl) (by kernel_rfl) (by rfl) ?_
    go_wp2_with fail
    refine ⟨((Kx.refl _ _).setCell (p := ⟨w.heap.size + 1, 0, none⟩) (.inl rfl) _).setCell (p := ⟨w.heap.size + 1, 1, none⟩) (.inl rfl) _, _, fun _ h => h, ?_⟩
    refine stx_end (by kernel_rfl) ?_
    obtain ⟨x2, x0, x1⟩ := ret_two R1.out (.int .i64 s') (.int .i64 g')
    clear q0 q1 r0 r1
    go_wp2_with fail
    refine bodyPost_ret (v := adjV s' g') (by simp [results, Try.results33, go_sem, x0, x1]) rfl ⟨rfl, ?_⟩
    exact (B1.out.setCell (p := ⟨w.heap.size + 1, 0, none⟩) (Nat.le_succ _) _).setCell (p := ⟨w.heap.size + 1, 1, none⟩) (Nat.le_succ _) _

theorem on_any (ev s : Nat) (g : Int) (w : World) (hev : ev < 5) (hs : s < 4) (h0 : 0 ≤ g) (h3 : g ≤ 3) :
   Calls Try.prog 33 #[adjV s g, .int .i64 ev] w fun e w' => e = .returned (adjV (onA ev s g).1 (onA ev s g).2) ∧ Below w.heap.size w w' := by
  have hC : ∀ W : World, Calls Try.prog 62 #[adjV s g] W fun e w' => e = .returned (adjV (if g = 3 then (0, 0) else ((s : Int), g + 1)).1 (if g = 3 then (0, 0) else ((s : Int), g + 1)).2) ∧ Below W.heap.size W w' := fun W => by
    have := wait_any s g W h0 h3
    by_cases hg : g = 3
    · rw [if_pos hg] at this ⊢
      exact this
    · rw [if_neg hg] at this ⊢
      exact this
  match ev, s, hev, hs with
  | 0, 0, _, _ => exact on_at 0 0 g 1 0 _ w (by omega) (by omega) (by decide) rfl (fun W => meet_any _ g W)
  | 0, 1, _, _ => exact on_at 0 1 g 1 0 _ w (by omega) (by omega) (by decide) rfl (fun W => meet_any _ g W)
  | 0, 2, _, _ => exact on_at 0 2 g 1 0 _ w (by omega) (by omega) (by decide) rfl (fun W => meet_any _ g W)
  | 0, 3, _, _ => exact on_at 0 3 g 1 0 _ w (by omega) (by omega) (by decide) rfl (fun W => meet_any _ g W)
  | 1, 0, _, _ => exact on_at 1 0 g 2 0 _ w (by omega) (by omega) (by decide) rfl (fun W => pair_any _ g W)
  | 1, 1, _, _ => exact on_at 1 1 g 2 0 _ w (by omega) (by omega) (by decide) rfl (fun W => pair_any _ g W)
  | 1, 2, _, _ => exact on_at 1 2 g 2 0 _ w (by omega) (by omega) (by decide) rfl (fun W => pair_any _ g W)
  | 1, 3, _, _ => exact on_at 1 3 g 3 0 _ w (by omega) (by omega) (by decide) rfl (fun W => renew_any _ g W)
  | 2, 0, _, _ => exact on_at 2 0 g 0 g _ w (by omega) (by omega) (by decide) rfl (fun W => stay_any _ g W)
  | 2, 1, _, _ => exact on_at 2 1 g _ _ _ w (by omega) (by omega) (by decide) rfl hC
  | 2, 2, _, _ => exact on_at 2 2 g _ _ _ w (by omega) (by omega) (by decide) rfl hC
  | 2, 3, _, _ => exact on_at 2 3 g _ _ _ w (by omega) (by omega) (by decide) rfl hC
  | 3, 0, _, _ => exact on_at 3 0 g 0 g _ w (by omega) (by omega) (by decide) rfl (fun W => stay_any _ g W)
  | 3, 1, _, _ => exact on_at 3 1 g 1 g _ w (by omega) (by omega) (by decide) rfl (fun W => stay_any _ g W)
  | 3, 2, _, _ => exact on_at 3 2 g 2 g _ w (by omega) (by omega) (by decide) rfl (fun W => stay_any _ g W)
  | 3, 3, _, _ => exact on_at 3 3 g 2 g _ w (by omega) (by omega) (by decide) rfl (fun W => lag_any _ g W)
  | 4, 0, _, _ => exact on_at 4 0 g 0 g _ w (by omega) (by omega) (by decide) rfl (fun W => stay_any _ g W)
  | 4, 1, _, _ => exact on_at 4 1 g 1 g _ w (by omega) (by omega) (by decide) rfl (fun W => stay_any _ g W)
  | 4, 2, _, _ => exact on_at 4 2 g 3 g _ w (by omega) (by omega) (by decide) rfl (fun W => agree_any _ g W)
  | 4, 3, _, _ => exact on_at 4 3 g 3 g _ w (by omega) (by omega) (by decide) rfl (fun W => stay_any _ g W)
end Go.Proofs.Ytnkohgdfipgdoab

/-
  Contracts over this seat: valid adjacencies, lists of nodes, hellos and ticks, of the program and of the specification.
-/
namespace Go.Proofs.Ytnkohgdfipgdoab
open Go.RowKit

/-! ### What they come to -/
def adjB (s g : Int) : Bool := if s = 0 then decide (g = 0) else inB s 1 3 && inB g 0 3
def okI (xs : List Int) (k : Nat) : Bool := match xs[k]? with
  | none => true
  | some x => inB x 0 7 && (decide (k = 0) || (match xs[k - 1]? with | none => true | some y => decide (y < x)))
def upB (xs : List Int) : Bool := (List.range xs.length).all (okI xs)
theorem upB_no {xs : List Int} {k : Nat} (hk : k < xs.length) (h : okI xs k = false) : upB xs = false := by
  unfold upB
  rw [List.all_eq_false]
  exact ⟨k, List.mem_range.2 hk, by simp [h]⟩
theorem upB_yes {xs : List Int} (h : ∀ k, k < xs.length → okI xs k = true) : upB xs = true := by
  unfold upB
  rw [List.all_eq_true]
  exact fun k hk => h k (List.mem_range.1 hk)
theorem okI_bad {xs : List Int} {k : Nat} {x : Int} (hx : xs[k]? = some x) (h : inB x 0 7 = false) : okI xs k = false := by
  unfold okI
  rw [hx]
  dsimp only
  rw [h]
  rfl
theorem okI_first {xs : List Int} {x : Int} (hx : xs[0]? = some x) (h : inB x 0 7 = true) : okI xs 0 = true := by
  unfold okI
  rw [hx]
  dsimp only
  rw [h]
  simp
theorem okI_next {xs : List Int} {k : Nat} {x y : Int} (hx : xs[k]? = some x) (hy : xs[k - 1]? = some y) (hk : 0 < k) (h : inB x 0 7 = true) : okI xs k = decide (y < x) := by
  unfold okI
  rw [hx]
  dsimp only
  rw [h, hy]
  simp
  omega
theorem adjB_cases {s g : Int} (h : adjB s g = true) : ∃ n : Nat, s = (n : Int) ∧ n < 4 ∧ 0 ≤ g ∧ g ≤ 3 ∧ (n = 0 → g = 0) := by
  unfold adjB inB at h
  by_cases hs : s = 0
  · rw [if_pos hs] at h
    exact ⟨0, by omega, by omega, by simp at h; omega, by simp at h; omega, fun _ => by simpa using h⟩
  · rw [if_neg hs] at h
    simp at h
    exact ⟨s.toNat, by omega, by omega, by omega, by omega, fun h0 => by omega⟩
/-- What AdjacencyHello answers. -/
def helloA (s g me : Int) (xs : List Int) : Int × Int := if adjB s g && inB me 0 7 && upB xs then onA (if me ∈ xs then 1 else 0) s g else (0, 0)
def helloB (s g me : Int) (xs : List Int) : Bool := adjB s g && inB me 0 7 && upB xs
def tickA (s g : Int) : Int × Int := if adjB s g then onA 2 s g else (0, 0)

/-! ### Lists of nodes -/



theorem numv_any (n : Int) (w : World) :
   Calls Try.prog 81 #[.int .i64 n] w fun e w' => e = .returned (.bool (inB n 0 7)) ∧ Below w.heap.size w w' := by
  go_enter Try.func81, Try.ntmps81
  go_wp2
  all_goals
    go_ret
    exact ⟨ret_bool (by unfold inB; rw [Bool.eq_iff_iff]; simp_all <;> omega), by (repeat (first | exact Below.refl _ _ | (refine Below.alloc ?_ (by first | exact Nat.le_refl _ | omega | (simp; done) | (simp; omega)) _) | (refine Below.setCell ?_ (by first | exact Nat.le_refl _ | omega | (simp; done) | (simp; omega)) _) | exact Below.drew ‹_›))⟩



/-! ### Valid adjacencies -/
theorem adjValid_impl (s g : Int) (w : World) :
   Calls Try.prog 31 #[adjV s g] w fun e w' => e = .returned (.bool (adjB s g)) ∧ Below w.heap.size w w' := by
  go_enter Try.func31, Try.ntmps31
  go_wp2
  all_goals
    go_ret
    exact ⟨ret_bool (by unfold adjB inB; rw [Bool.eq_iff_iff]; simp_all <;> omega), by (repeat (first | exact Below.refl _ _ | (refine Below.alloc ?_ (by first | exact Nat.le_refl _ | omega | (simp; done) | (simp; omega)) _) | (refine Below.setCell ?_ (by first | exact Nat.le_refl _ | omega | (simp; done) | (simp; omega)) _) | exact Below.drew ‹_›))⟩
theorem adjValid_spec (s g : Int) (w : World) :
   Calls Try.prog 17 #[adjV s g] w fun e w' => e = .returned (.bool (adjB s g)) ∧ Below w.heap.size w w' := by
  by_cases hs : s = 0
  · subst hs
    go_enter Try.func17, Try.ntmps17
    go_wp2_with fail
    go_ret
    exact ⟨ret_bool (by unfold adjB; rw [Bool.eq_iff_iff]; simp), by (repeat (first | exact Below.refl _ _ | (refine Below.alloc ?_ (by first | exact Nat.le_refl _ | omega | (simp; done) | (simp; omega)) _) | (refine Below.setCell ?_ (by first | exact Nat.le_refl _ | omega | (simp; done) | (simp; omega)) _) | exact Below.drew ‹_›))⟩
  · have hs' : (s == 0) = false := by simpa using hs
    have HV : Hid (adjB s g = (inB s 1 3 && inB g 0 3)) := Lib.hid (by unfold adjB; rw [if_neg hs])
    clear hs
    have C1 := fun W => l6In_any s 1 3 W
    have C2 := fun W => l6In_any g 0 3 W
    generalize inB s 1 3 = p at *
    generalize inB g 0 3 = q at *
    cases p with
    | false =>
      go_enter Try.func17, Try.ntmps17
      go_wp2_with fail
      refine (C1 _).mono ?_
      rintro e w1 ⟨rfl, rfl⟩
      go_wp2_with fail
      go_ret
      exact ⟨ret_bool (by rw [HV.out]; simp), by (repeat (first | exact Below.refl _ _ | (refine Below.alloc ?_ (by first | exact Nat.le_refl _ | omega | (simp; done) | (simp; omega)) _) | (refine Below.setCell ?_ (by first | exact Nat.le_refl _ | omega | (simp; done) | (simp; omega)) _) | exact Below.drew ‹_›))⟩
    | true =>
      go_enter Try.func17, Try.ntmps17
      go_wp2_with fail
      refine (C1 _).mono ?_
      rintro e w1 ⟨rfl, rfl⟩
      go_wp2_with fail
      refine (C2 _).mono ?_
      rintro e w2 ⟨rfl, rfl⟩
      go_wp2_with fail
      go_ret
      exact ⟨ret_bool (by rw [HV.out]; simp), by (repeat (first | exact Below.refl _ _ | (refine Below.alloc ?_ (by first | exact Nat.le_refl _ | omega | (simp; done) | (simp; omega)) _) | (refine Below.setCell ?_ (by first | exact Nat.le_refl _ | omega | (simp; done) | (simp; omega)) _) | exact Below.drew ‹_›))⟩

/-! ### Hellos and ticks -/
/-- What a walk of a call with an adjacency knows: its box, the result's box. -/
structure AB (w : World) (s g u v : Int) (W : World) : Prop where
  box : Box W w.heap.size 26 #[.int .i64 s, .int .i64 g]
  res : Box W (w.heap.size + 1) 26 #[.int .i64 u, .int .i64 v]
  bel : Below w.heap.size w W
theorem AB.start (w : World) (s g : Int) : AB w s g 0 0 ((w.alloc (.cells #[.int .i64 s, .int .i64 g] 26)).alloc (.cells #[.int .i64 0, .int .i64 0] 26)) := by
  refine ⟨(Box.new w _ _).alloc _, ?_, by (repeat (first | exact Below.refl _ _ | (refine Below.alloc ?_ (by first | exact Nat.le_refl _ | omega | (simp; done) | (simp; omega)) _) | (refine Below.setCell ?_ (by first | exact Nat.le_refl _ | omega | (simp; done) | (simp; omega)) _) | exact Below.drew ‹_›))⟩
  have := Box.new (w.alloc (.cells #[.int .i64 s, .int .i64 g] 26)) 26 #[.int .i64 0, .int .i64 0]
  rwa [World.size_alloc] at this
theorem AB.call {w w1 w2 : World} {s g u v : Int} (h : AB w s g u v w1) (hb : Below w1.heap.size w1 w2) : AB w s g u v w2 :=
  ⟨h.box.below hb h.box.lt, h.res.below hb h.res.lt, h.bel.trans (hb.mono h.bel.size)⟩
theorem AB.set {w w1 : World} {s g u v : Int} (h : AB w s g u v w1) (u' v' : Int) : AB w s g u' v' ((w1.setCell ⟨w.heap.size + 1, 0, none⟩ (.int .i64 u')).setCell ⟨w.heap.size + 1, 1, none⟩ (.int .i64 v')) := by
  refine ⟨?_, heap_set (heap_set h.res 0 _) 1 _, (h.bel.setCell (p := ⟨w.heap.size + 1, 0, none⟩) (Nat.le_succ _) _).setCell (p := ⟨w.heap.size + 1, 1, none⟩) (Nat.le_succ _) _⟩
  exact ((Below.heap_setCell _ ⟨w.heap.size + 1, 1, none⟩ _ _ (by show w.heap.size ≠ w.heap.size + 1; omega)).trans (Below.heap_setCell _ ⟨w.heap.size + 1, 0, none⟩ _ _ (by show w.heap.size ≠ w.heap.size + 1; omega))).trans h.box
theorem AB.six {w w1 : World} {s g u v : Int} (h : AB w s g u v w1) : w.heap.size < w1.heap.size ∧ w1.cell? ⟨w.heap.size, 0, none⟩ = some (.int .i64 s) ∧ w1.cell? ⟨w.heap.size, 1, none⟩ = some (.int .i64 g) ∧ w.heap.size + 1 < w1.heap.size ∧ w1.cell? ⟨w.heap.size + 1, 0, none⟩ = some (.int .i64 u) ∧ w1.cell? ⟨w.heap.size + 1, 1, none⟩ = some (.int .i64 v) ∧ w1.frozen? ⟨w.heap.size + 1, 0, none⟩ = false ∧ w1.frozen? ⟨w.heap.size + 1, 1, none⟩ = false := by
  obtain ⟨h1, h2, h3, -, -⟩ := h.box.two
  obtain ⟨h4, h5, h6, h7, h8⟩ := h.res.two
  exact ⟨h1, h2, h3, h4, h5, h6, h7, h8⟩



theorem hello_not {s g me : Int} {xs : List Int} (h : helloB s g me xs = false) : helloA s g me xs = (0, 0) := by
  unfold helloA; unfold helloB at h; rw [h]; rfl
theorem hello_yes {s g me : Int} {xs : List Int} (h : helloB s g me xs = true) : helloA s g me xs = onA (if me ∈ xs then 1 else 0) s g := by
  unfold helloA; unfold helloB at h; rw [h]; rfl



end Go.Proofs.Ytnkohgdfipgdoab

/-
  Contracts over this seat: the draws of adjacencies.
-/
namespace Go.Proofs.Ytnkohgdfipgdoab
open Go.RowKit Go.Maps

/-- The state while an adjacency is drawn: the reader, the result's box, its own box. -/
structure AD (w : World) (R : Nat) (A : Option Addr) (len c : Nat) (f : Nat → Int) (G : Nat) (P : Nat) (s g : Int) (W : World) : Prop where
  rd : RD R A len c f P W
  res : Box W w.heap.size 26 #[.int .i64 0, .int .i64 0]
  box : Box W G 26 #[.int .i64 s, .int .i64 g]
  gr : w.grownBy W (some R)
section
variable {w w1 w2 : World} {R : Nat} {A : Option Addr} {len c : Nat} {f : Nat → Int} {G : Nat} {P P' : Nat} {s g : Int}
theorem AD.picked (h : AD w R A len c f G P s g w1) (hr : RD R A len c f P' w2) (hg : w1.grownBy w2 (some R)) (hRw : R < w.heap.size) (hRG : R < G) : AD w R A len c f G P' s g w2 :=
  ⟨hr, h.res.grown hg (by omega), h.box.grown hg (by omega), grown_trans h.gr hg⟩
theorem AD.mono (h : AD w R A len c f G P s g w1) (hP : P ≤ P') : AD w R A len c f G P' s g w1 := ⟨h.rd.mono hP, h.res, h.box, h.gr⟩
theorem AD.set1 (h : AD w R A len c f G P s g w1) (hRG : R < G) (hwG : w.heap.size < G) (g' : Int) : AD w R A len c f G P s g' (w1.setCell ⟨G, 1, none⟩ (.int .i64 g')) :=
  ⟨h.rd.set (q := ⟨G, 1, none⟩) hRG _, (Below.heap_setCell w1 ⟨G, 1, none⟩ _ _ (by show w.heap.size ≠ G; omega)).trans h.res, heap_set h.box 1 _, grown_setFar h.gr (p := ⟨G, 1, none⟩) (by show w.heap.size ≤ G; omega) _⟩
theorem AD.set0 (h : AD w R A len c f G P s g w1) (hRG : R < G) (hwG : w.heap.size < G) (s' : Int) : AD w R A len c f G P s' g (w1.setCell ⟨G, 0, none⟩ (.int .i64 s')) :=
  ⟨h.rd.set (q := ⟨G, 0, none⟩) hRG _, (Below.heap_setCell w1 ⟨G, 0, none⟩ _ _ (by show w.heap.size ≠ G; omega)).trans h.res, heap_set h.box 0 _, grown_setFar h.gr (p := ⟨G, 0, none⟩) (by show w.heap.size ≤ G; omega) _⟩
end
/-- What 'l91Adjacency' leaves. -/
def AdjD (R : Nat) (A : Option Addr) (len c : Nat) (f : Nat → Int) (P : Nat) (w : World) (e : Ending) (w' : World) : Prop :=
  ∃ s g : Int, e = .returned (adjV s g) ∧ -1 ≤ s ∧ s ≤ 4 ∧ -1 ≤ g ∧ g ≤ 5 ∧ RD R A len c f P w' ∧ w.grownBy w' (some R)
theorem quo7 {k : Nat} (h : k < 8) : Int.tdiv (k : Int) 7 = ((k / 7 : Nat) : Int) := by
  rw [Int.tdiv_eq_ediv_of_nonneg (by omega)]
  rfl

set_option maxRecDepth 100000 in
set_option maxHeartbeats 1600000 in
theorem l91adj_any (R : Nat) (A : Option Addr) (len c P : Nat) (f : Nat → Int) (w : World) (hlen : len ≤ 2000) (hP : P ≤ 100000) (hR : RD R A len c f P w) :
   Calls Try.prog 36 #[.pointer (some ⟨R, 0, none⟩)] w (AdjD R A len c f (P + 8) w) := by
  have hRw := hR.lt
  have HR := Lib.hid (hR.alloc (.cells #[.int .i64 0, .int .i64 0] 26))
  have Q0 := Lib.hid (Box.new w 26 #[.int .i64 0, .int .i64 0])
  clear hR
  go_enter Try.func36, Try.ntmps36
  go_wp2_with fail
  refine (pick_rd R A len c P 4 f _ hlen (by omega) (by omega) (by omega) HR.out).mono ?_
  rintro e w1 ⟨k1, rfl, hk1, hR1, hg1, hs1, -⟩
  have HR1 := Lib.hid hR1
  have Q1 := Lib.hid (Q0.out.grown hg1 (by omega))
  have g1 := Lib.hid (grown_trans (World.grownBy_alloc w _ _) hg1)
  rw [World.size_alloc] at hs1
  have z1 : w.heap.size < w1.heap.size := by omega
  clear hR1 hg1 Q0 HR hs1
  go_wp2_with fail
  refine (pick_rd R A len c _ 4 f _ hlen (by omega) (by omega) (by omega) HR1.out).mono ?_
  rintro e w2 ⟨k2, rfl, hk2, hR2, hg2, hs2, -⟩
  have g2 := grown_trans g1.out hg2
  have S0 := Lib.hid (show AD w R A len c f w2.heap.size (P + 1 + 1) (k1 : Int) (k2 : Int) (w2.alloc (.cells #[.int .i64 (k1 : Int), .int .i64 (k2 : Int)] 26)) from
    ⟨hR2.alloc _, (Q1.out.grown hg2 (by omega)).alloc _, Box.new w2 _ _, grown_alloc g2 _⟩)
  have hwG : w.heap.size < w2.heap.size := by omega
  have hRG : R < w2.heap.size := by omega
  clear hR2 hg2 g2 g1 Q1 HR1 hs2 z1
  have hs0 : 0 ≤ (k1 : Int) := by omega
  have hs3 : (k1 : Int) ≤ 3 := by omega
  generalize (k1 : Int) = s at *
  have hg0 : 0 ≤ (k2 : Int) := by omega
  have hg3 : (k2 : Int) ≤ 3 := by omega
  generalize (k2 : Int) = g at *
  obtain ⟨zG, c0, c1, q0, q1⟩ := S0.out.box.two
  by_cases h10 : s = 0
  · have h10' : (s == 0) = true := by simp [h10]
    clear h10
    go_wp2_with fail
    refine (pick_rd R A len c _ 8 f _ hlen (by omega) (by omega) (by omega) S0.out.rd).mono ?_
    rintro e w3 ⟨k3, rfl, hk3, hR3, hg3', hs3', -⟩
    have S1 := Lib.hid (S0.out.picked hR3 hg3' hRw hRG)
    clear hR3 hg3' hs3' S0 zG c0 c1 q0 q1
    obtain ⟨zG, c0, c1, q0, q1⟩ := S1.out.box.two
    have h7 := quo7 (k := k3) (by omega)
    have hk7 : ((k3 / 7 : Nat) : Int) ≤ 1 := by omega
    have hk70 : 0 ≤ ((k3 / 7 : Nat) : Int) := by omega
    generalize ((k3 / 7 : Nat) : Int) = g' at *
    have h7w : IntKind.i64.wrap g' = g' := IntWalk.i64_in _ (by omega)
    have S2 := Lib.hid (S1.out.set1 hRG hwG g')
    clear S1
    have hg3 : g' ≤ 3 := by omega
    have hg0 : 0 ≤ g' := hk70
    clear hk7 hk70
    revert S2 hg3 hg0
    generalize hgg : g' = g2
    intro S2 hg3 hg0
    go_wp2_with fail
    refine (pick_rd R A len c _ 16 f _ hlen (by omega) (by omega) (by omega) S2.out.rd).mono ?_
    rintro e w4 ⟨k4, rfl, hk4, hR4, hg4, hs4, -⟩
    have S4 := Lib.hid (S2.out.picked hR4 hg4 hRw hRG)
    clear hR4 hg4 hs4 S2
    by_cases h40 : k4 = 0
    · subst h40
      go_wp2_with fail
      refine (pick_rd R A len c _ 6 f _ hlen (by omega) (by omega) (by omega) S4.out.rd).mono ?_
      rintro e w5 ⟨k5, rfl, hk5, hR5, hg5, hs5, -⟩
      have S5 := Lib.hid (S4.out.picked hR5 hg5 hRw hRG)
      clear hR5 hg5 hs5 S4
      go_wp2_with fail
      refine (pick_rd R A len c _ 7 f _ hlen (by omega) (by omega) (by omega) S5.out.rd).mono ?_
      rintro e w6 ⟨k6, rfl, hk6, hR6, hg6, hs6, -⟩
      have S6 := Lib.hid (S5.out.picked hR6 hg6 hRw hRG)
      clear hR6 hg6 hs6 S5
      have e5 : IntKind.i64.wrap ((k5 : Int) - 1) = (k5 : Int) - 1 := IntWalk.i64_in _ (by omega)
      have e6 : IntKind.i64.wrap ((k6 : Int) - 1) = (k6 : Int) - 1 := IntWalk.i64_in _ (by omega)
      have b5 : -1 ≤ (k5 : Int) - 1 ∧ (k5 : Int) - 1 ≤ 4 := by omega
      have b6 : -1 ≤ (k6 : Int) - 1 ∧ (k6 : Int) - 1 ≤ 5 := by omega
      have S7 := Lib.hid ((S6.out.set0 hRG hwG ((k5 : Int) - 1)).set1 hRG hwG ((k6 : Int) - 1))
      obtain ⟨zG, c0, c1, q0, q1⟩ := S6.out.box.two
      obtain ⟨zr, r0, r1, u0, u1⟩ := S6.out.res.two
      obtain ⟨b8, x0, x1⟩ := ret_two S7.out.res (.int .i64 ((k5 : Int) - 1)) (.int .i64 ((k6 : Int) - 1))
      clear b8
      go_wp2_with fail
      refine bodyPost_ret (v := adjV ((k5 : Int) - 1) ((k6 : Int) - 1)) (by simp [results, Try.results36, go_sem, x0, x1]) rfl ?_
      exact ⟨(k5 : Int) - 1, (k6 : Int) - 1, rfl, b5.1, b5.2, b6.1, b6.2, ((S7.out.rd.set (q := ⟨w.heap.size, 0, none⟩) hRw _).set (q := ⟨w.heap.size, 1, none⟩) hRw _).mono (by omega), grown_setFar (grown_setFar S7.out.gr (p := ⟨w.heap.size, 0, none⟩) (Nat.le_refl _) _) (p := ⟨w.heap.size, 1, none⟩) (Nat.le_refl _) _⟩
    · have h40' : ((k4 : Int) == 0) = false := by simpa using h40
      obtain ⟨zG, c0, c1, q0, q1⟩ := S4.out.box.two
      obtain ⟨zr, r0, r1, u0, u1⟩ := S4.out.res.two
      obtain ⟨b8, x0, x1⟩ := ret_two S4.out.res (.int .i64 s) (.int .i64 g2)
      go_wp2_with fail
      refine bodyPost_ret (v := adjV s g2) (by simp [results, Try.results36, go_sem, x0, x1]) rfl ?_
      exact ⟨s, g2, rfl, by omega, by omega, by omega, by omega, ((S4.out.rd.set (q := ⟨w.heap.size, 0, none⟩) hRw _).set (q := ⟨w.heap.size, 1, none⟩) hRw _).mono (by omega), grown_setFar (grown_setFar S4.out.gr (p := ⟨w.heap.size, 0, none⟩) (Nat.le_refl _) _) (p := ⟨w.heap.size, 1, none⟩) (Nat.le_refl _) _⟩
  · have h10' : (s == 0) = false := by simpa using h10
    clear h10
    have S2 := S0
    clear S0 zG c0 c1 q0 q1
    go_wp2_with fail
    refine (pick_rd R A len c _ 16 f _ hlen (by omega) (by omega) (by omega) S2.out.rd).mono ?_
    rintro e w4 ⟨k4, rfl, hk4, hR4, hg4, hs4, -⟩
    have S4 := Lib.hid (S2.out.picked hR4 hg4 hRw hRG)
    clear hR4 hg4 hs4 S2
    by_cases h40 : k4 = 0
    · subst h40
      go_wp2_with fail
      refine (pick_rd R A len c _ 6 f _ hlen (by omega) (by omega) (by omega) S4.out.rd).mono ?_
      rintro e w5 ⟨k5, rfl, hk5, hR5, hg5, hs5, -⟩
      have S5 := Lib.hid (S4.out.picked hR5 hg5 hRw hRG)
      clear hR5 hg5 hs5 S4
      go_wp2_with fail
      refine (pick_rd R A len c _ 7 f _ hlen (by omega) (by omega) (by omega) S5.out.rd).mono ?_
      rintro e w6 ⟨k6, rfl, hk6, hR6, hg6, hs6, -⟩
      have S6 := Lib.hid (S5.out.picked hR6 hg6 hRw hRG)
      clear hR6 hg6 hs6 S5
      have e5 : IntKind.i64.wrap ((k5 : Int) - 1) = (k5 : Int) - 1 := IntWalk.i64_in _ (by omega)
      have e6 : IntKind.i64.wrap ((k6 : Int) - 1) = (k6 : Int) - 1 := IntWalk.i64_in _ (by omega)
      have b5 : -1 ≤ (k5 : Int) - 1 ∧ (k5 : Int) - 1 ≤ 4 := by omega
      have b6 : -1 ≤ (k6 : Int) - 1 ∧ (k6 : Int) - 1 ≤ 5 := by omega
      have S7 := Lib.hid ((S6.out.set0 hRG hwG ((k5 : Int) - 1)).set1 hRG hwG ((k6 : Int) - 1))
      obtain ⟨zG, c0, c1, q0, q1⟩ := S6.out.box.two
      obtain ⟨zr, r0, r1, u0, u1⟩ := S6.out.res.two
      obtain ⟨b8, x0, x1⟩ := ret_two S7.out.res (.int .i64 ((k5 : Int) - 1)) (.int .i64 ((k6 : Int) - 1))
      clear b8
      go_wp2_with fail
      refine bodyPost_ret (v := adjV ((k5 : Int) - 1) ((k6 : Int) - 1)) (by simp [results, Try.results36, go_sem, x0, x1]) rfl ?_
      exact ⟨(k5 : Int) - 1, (k6 : Int) - 1, rfl, b5.1, b5.2, b6.1, b6.2, ((S7.out.rd.set (q := ⟨w.heap.size, 0, none⟩) hRw _).set (q := ⟨w.heap.size, 1, none⟩) hRw _).mono (by omega), grown_setFar (grown_setFar S7.out.gr (p := ⟨w.heap.size, 0, none⟩) (Nat.le_refl _) _) (p := ⟨w.heap.size, 1, none⟩) (Nat.le_refl _) _⟩
    · have h40' : ((k4 : Int) == 0) = false := by simpa using h40
      obtain ⟨zG, c0, c1, q0, q1⟩ := S4.out.box.two
      obtain ⟨zr, r0, r1, u0, u1⟩ := S4.out.res.two
      obtain ⟨b8, x0, x1⟩ := ret_two S4.out.res (.int .i64 s) (.int .i64 g)
      go_wp2_with fail
      refine bodyPost_ret (v := adjV s g) (by simp [results, Try.results36, go_sem, x0, x1]) rfl ?_
      exact ⟨s, g, rfl, by omega, by omega, by omega, by omega, ((S4.out.rd.set (q := ⟨w.heap.size, 0, none⟩) hRw _).set (q := ⟨w.heap.size, 1, none⟩) hRw _).mono (by omega), grown_setFar (grown_setFar S4.out.gr (p := ⟨w.heap.size, 0, none⟩) (Nat.le_refl _) _) (p := ⟨w.heap.size, 1, none⟩) (Nat.le_refl _) _⟩

/-- A drawn adjacency. -/
def AdjX (w : World) (e : Ending) (w' : World) : Prop := ∃ s g : Int, e = .returned (adjV s g) ∧ -1 ≤ s ∧ s ≤ 4 ∧ -1 ≤ g ∧ g ≤ 5 ∧ Below w.heap.size w w'


/-- The state while a hello is drawn: the reader, the result's box, the adjacency's box, the row of nodes. -/
structure HD (w : World) (A : Option Addr) (len c : Nat) (f : Nat → Int) (P : Nat) (s g : Int) (G : Nat) (v : Value) (out : List Int) (W : World) : Prop where
  rd : RD (w.heap.size + 1) A len c f P W
  res : Box W w.heap.size 26 #[.int .i64 0, .int .i64 0]
  box : Box W G 26 #[.int .i64 s, .int .i64 g]
  row : W.ownsRow (w.heap.size + 2) 3 1 v out.length (out.map (Value.int .i64))
  bel : Below w.heap.size w W
section
variable {w w1 w2 : World} {A : Option Addr} {len c : Nat} {f : Nat → Int} {P P' : Nat} {s g : Int} {G : Nat} {v v' : Value} {out : List Int}
theorem HD.picked (h : HD w A len c f P s g G v out w1) (hr : RD (w.heap.size + 1) A len c f P' w2) (hg : w1.grownBy w2 (some (w.heap.size + 1))) (hG : G ≠ w.heap.size + 1) : HD w A len c f P' s g G v out w2 := by
  obtain ⟨cs, hx⟩ := h.rd.box
  exact ⟨hr, h.res.grown hg (by omega), h.box.grown hg hG, owns_picked h.row hx (by decide) hg, h.bel.grown hg h.bel.size (fun k e => by injection e with e; omega)⟩
theorem HD.drew (h : HD w A len c f P s g G v out w1) : HD w A len c f P s g G v out w1.drew := by
  obtain ⟨⟨p, hp, hx, hB⟩, h2, h3, h4, h5⟩ := h
  exact ⟨⟨p, hp, hx, hB⟩, h2, h3, h4, h5.drew⟩
theorem HD.mono (h : HD w A len c f P s g G v out w1) (hP : P ≤ P') : HD w A len c f P' s g G v out w1 := ⟨h.rd.mono hP, h.res, h.box, h.row, h.bel⟩
theorem HD.append {W W' : World} {x : Int} {o : Obj} (h : HD w A len c f P s g G v out W) (hown : W'.ownsRow (w.heap.size + 2) 3 1 v' (out.length + 1) (out.map (Value.int .i64) ++ [.int .i64 x])) (hg : (W.alloc o).grownBy W' v.ownBlock) : HD w A len c f P s g G v' (out ++ [x]) W' := by
  have hl := h.row.lt
  have hz := h.bel.size
  have b1 : Box W' w.heap.size 26 #[.int .i64 0, .int .i64 0] := (hg.block _ (by have := h.res.lt; simp; omega) (fun e => own_box_ne h.row h.res (by decide) e.symm)).trans (h.res.alloc o)
  have b2 : Box W' G 26 #[.int .i64 s, .int .i64 g] := (hg.block _ (by have := h.box.lt; simp; omega) (fun e => own_box_ne h.row h.box (by decide) e.symm)).trans (h.box.alloc o)
  refine ⟨h.rd.below (((Below.refl (w.heap.size + 1 + 1) W).alloc h.rd.lt o).grown hg (by have := h.rd.lt; simp; omega) (fun j e => by have := (hl j e).1; omega)), b1, b2, ?_, (h.bel.alloc hz _).grown hg (by simp; omega) (fun j e => by have := (hl j e).1; omega)⟩
  rw [List.length_append, List.map_append]
  exact hown
end
theorem quo19 {k : Nat} (h : k < 20) : Int.tdiv (k : Int) 19 = ((k / 19 : Nat) : Int) := by
  rw [Int.tdiv_eq_ediv_of_nonneg (by omega)]
  rfl
/-- The list behind the result's store. -/
theorem hello_sli {W : World} {A : Option Addr} {xs : List Int} {Q : Nat} {u0 u1 : Value} (h : Sli W W.heap.size A xs) (hne : ∀ b off, 0 < xs.length → A = some ⟨b, off, none⟩ → b ≠ Q) : Sli ((W.setCell ⟨Q, 0, none⟩ u0).setCell ⟨Q, 1, none⟩ u1) ((W.setCell ⟨Q, 0, none⟩ u0).setCell ⟨Q, 1, none⟩ u1).heap.size A xs := by
  intro k x hx
  obtain ⟨b, off, e, hb, hc⟩ := h k x hx
  have hq := hne b off (by have := (List.getElem?_eq_some_iff.1 hx).1; omega) e
  refine ⟨b, off, e, by simpa using hb, ?_⟩
  rw [World.cell?_setCell_other _ _ _ _ (by intro e; injection e with e _; exact hq e.symm), World.cell?_setCell_other _ _ _ _ (by intro e; injection e with e _; exact hq e.symm)]
  exact hc
/-- A drawn hello. -/
def HelX (w : World) (e : Ending) (w' : World) : Prop := ∃ (s g me : Int) (xs : List Int) (B : Option Addr) (c : Nat), e = .returned (.tuple #[adjV s g, .int .i64 me, .slice B xs.length c]) ∧ -1 ≤ s ∧ s ≤ 4 ∧ -1 ≤ g ∧ g ≤ 5 ∧ xs.length ≤ 9 ∧ Sli w' w'.heap.size B xs ∧ Below w.heap.size w w'


end Go.Proofs.Ytnkohgdfipgdoab
