/-
  FnExactMixedArrives: for every input the program's MixedArrives answers as the specification's in every field, writes into no argument, and its answer owns its memory. No condition.
-/
import Derived.Test.YtkcnbgimdiggoabA6
import Derived.Test.YtkcnbgimdiggoabOpenI
import Derived.Test.YtkcnbgimdiggoabMixedArrivesw
namespace Go.Proofs.Ytkcnbgimdiggoab.exactMixedArrives
open Go.ChangeShapes Go.WideShapes Go.ChangeAt Go.RowKit Go.Joins Go.Deep
open Go.ChangeMaps (open_string shut_string)
set_option linter.unusedVariables false

set_option maxRecDepth 100000 in
theorem lifted (os : Os) (started : os.Started) (H : Type) (enc : TypeId × Value → H) :
    ReturnsInHanded {} Try.checked os 10 .any (Rows.fnExactMixedArrivesSpec.pre6 enc Try.prog Try.f10 Rows.fnExactMixedArrivesRow.domain false) (Rows.fnExactMixedArrivesSpec.post enc Try.prog Try.f10 false true false false) := by
  refine returnsInHanded_of_change (C := Try.checked) own started (by kernel_rfl) Try.func10
    (ChangeSpec.witness6 (enc := enc) (C := Try.checked) false ⟨#[], #[.agg #[.int .i64 0, .slice none 0 0], .int .i64 0, .int .i64 0, .slice none 0 0], []⟩ 8 (by kernel_rfl) (by kernel_rfl) (by kernel_rfl) (by kernel_rfl)) ?_
  intro W base args ds gs before hval0 hW hcnd _
  have hval : ∀ (j : Nat) t v, Try.f10.params[j]? = some t → args[j]? = some v → Value.okWide Try.prog W .any base t v := hval0
  have hW' := hW
  obtain ⟨p, q, hA0, hV, rfl, hfz, hnd⟩ := hW
  have hA : DataW.TrodAll enc Try.prog W 0 (fun _ => true) true Try.f10.params.toList args.toList ds p := hA0
  rw [Try.params10] at hA hval
  obtain ⟨v0, vs0, d0, ds0, p0, q0, hargs, rfl, rfl, h0, r0⟩ := trodAll_cons hA
  obtain ⟨v1, vs1, d1, ds1, p1, q1, rfl, rfl, rfl, h1, r1⟩ := trodAll_cons r0
  obtain ⟨v2, vs2, d2, ds2, p2, q2, rfl, rfl, rfl, h2, r2⟩ := trodAll_cons r1
  obtain ⟨v3, vs3, d3, ds3, p3, q3, rfl, rfl, rfl, h3, r3⟩ := trodAll_cons r2
  obtain ⟨rfl, rfl, rfl⟩ := trodAll_nil r3
  obtain rfl : args = #[v0, v1, v2, v3] := by cases args; simp_all
  obtain ⟨rfl, rfl⟩ := trodVars_none hV
  have k0 := h0
  have lt0 : ∀ x ∈ p0, x.block < W.heap.size := by obtain ⟨m, hm⟩ := k0; exact DataW.trod_lt m _ _ _ hm
  obtain ⟨n0, A0, ls0, c0, rfl, hn0, hmax0, hsl0⟩ : ∃ (n : Int) (A : Option Addr) (ls : List Lk) (c : Nat), v0 = gval n A ls.length c ∧ n ≤ 9223372036854775807 ∧ ls.length ≤ maxLen ∧ Sl W W.heap.size A ls := by
    obtain ⟨c0, c1, y0, y1, m, rfl, rfl, rfl, hy0, hy1⟩ := open_agg2 Try.underlying45 (by kernel_rfl) cellsG (hval 0 45 v0 rfl rfl) h0
    obtain ⟨n, e0, _, wn⟩ := DataW.trod_int Try.underlying3 hy0
    obtain ⟨A, ls, c, rfl, hmax, hsl⟩ := open_links hy1
    cases e0
    exact ⟨n, A, ls, c, rfl, by have := bounds_i64 wn; omega, hmax, hsl⟩
  obtain ⟨x1, rfl, rfl, rfl, wx1⟩ := open_int Try.underlying3 (hval 1 3 v1 rfl rfl) h1
  obtain ⟨x2, rfl, rfl, rfl, wx2⟩ := open_int Try.underlying3 (hval 2 3 v2 rfl rfl) h2
  have k3 := h3
  have lt3 : ∀ x ∈ p3, x.block < W.heap.size := by obtain ⟨m, hm⟩ := k3; exact DataW.trod_lt m _ _ _ hm
  obtain ⟨B3, st3, cb3, rfl, hmax3, hsl3⟩ : ∃ (Bs : Option Addr) (st : List Int) (cb : Nat), v3 = .slice Bs st.length cb ∧ st.length ≤ maxLen ∧ Sli W W.heap.size Bs st := by
    obtain ⟨a2, len2, cap2, rfl⟩ := okWide_slice Try.underlying28 (hval 3 28 v3 rfl rfl)
    obtain ⟨fuel, hf⟩ := h3
    exact open_ints hf
  clear hA0 hval0
  refine (exactMixedArrives_walk n0 A0 ls0 c0 x1 x2 B3 st3 cb3 W hn0 hmax0 hsl0 hmax3 hsl3).mono fun e W' ⟨he, bel⟩ => ?_
  subst he
  exact ⟨_, rfl, _, _, _, [], _, [], hW', trodAll_mk1 (shut_bool Try.underlying4 _), (trodAll_cons_mk (Below.trod laidOut (by kernel_rfl) (of_decide_eq_true (by kernel_rfl)) k0 bel lt0) (trodAll_cons_mk (shut_int Try.underlying3 wx1) (trodAll_cons_mk (shut_int Try.underlying3 wx2) (trodAll_cons_mk (Below.trod laidOut (by kernel_rfl) (of_decide_eq_true (by kernel_rfl)) k3 bel lt3) trodAll_mk0)))), rfl, bel.frame _, fun h => by cases h⟩

theorem over : Rows.fnExactMixedArrivesRow.holds Try.pinned (OpenSpec.ofChange Rows.fnExactMixedArrivesSpec) :=
  OpenClaim.holds_of_wide 10 Try.f10 rfl rfl rfl rfl rfl rfl rfl ⟨rfl, rfl, rfl, rfl, rfl⟩ rfl rfl rfl rfl rfl (by kernel_rfl) Try.func10 (by kernel_rfl)
    (of_decide_eq_true (by kernel_rfl)) (by unfold Func.isWrapper; first | (rw [if_pos (by decide +kernel)]; kernel_rfl) | (rw [if_neg (by decide +kernel)]; exact ⟨rfl, rfl⟩))
    (fun os started H enc _ => lifted os started H enc)

/-- The statement. -/
theorem proved : Rows.FnExactMixedArrivesSaid := over
#print axioms proved
end Go.Proofs.Ytkcnbgimdiggoab.exactMixedArrives
