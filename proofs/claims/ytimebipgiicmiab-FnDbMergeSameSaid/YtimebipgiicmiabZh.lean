/-
  Contracts over this seat: what an origin announces of a neighbour (specification).
-/
import Derived.Test.YtimebipgiicmiabZg
namespace Go.Proofs.Ytimebipgiicmiab
open Go.RowKit Go.Maps

theorem endC_hit {es : List Lb} {n : Int} {k : Nat} {e : Lb} (hx : es[k]? = some e) (ho : e.k = n) (h : ∀ (j : Nat) (z : Lb), j < k → es[j]? = some z → z.k ≠ n) : endC es n = e.a := by
  unfold endC
  have hf : es.find? (fun e => decide (e.k = n)) = some e := by
    rw [List.find?_eq_some_iff_getElem]
    obtain ⟨hk, hxe⟩ := List.getElem?_eq_some_iff.1 hx
    refine ⟨by simpa using ho, k, hk, hxe, fun j hj => ?_⟩
    have := h j es[j] hj (List.getElem?_eq_getElem (by omega))
    simpa using this
  rw [hf]
theorem endC_miss {es : List Lb} {n : Int} (h : ∀ (j : Nat) (z : Lb), es[j]? = some z → z.k ≠ n) : endC es n = 0 :=
  endC_none fun e he => by obtain ⟨j, hj⟩ := List.getElem?_of_mem he; exact h j e hj
/-- What 'l11Find' answers, taken apart. -/
theorem fndV_cases {zs : List Lz} (o n : Int) {A : Option Addr} {w : World} (hS : Slz w w.heap.size A zs) (hes : ∀ z ∈ zs, z.es.length ≤ 2000000) : ∃ (bo bq : Int) (es : List Lb) (A1 : Option Addr) (c1 : Nat) (ok : Bool), fndV (findZ zs o) = .tuple #[.agg #[.int .i64 bo, .int .i64 bq, .slice A1 es.length c1], .bool ok] ∧ Slb w w.heap.size A1 es ∧ costL (datL zs) o n = endC es n ∧ es.length ≤ 2000000 := by
  cases hf : findZ zs o with
  | none =>
    refine ⟨0, 0, [], none, 0, false, rfl, fun k l h => by simp at h, ?_, by simp⟩
    unfold costL
    rw [findZ_get, hf]
    rfl
  | some z =>
    have hz : z ∈ zs := List.mem_of_find?_eq_some hf
    obtain ⟨k, hk⟩ := List.getElem?_of_mem hz
    obtain ⟨b, off, -, -, -, -, -, h⟩ := hS k z hk
    refine ⟨z.o, z.q, z.es, z.A, z.c, true, rfl, h, ?_, hes z hz⟩
    unfold costL
    rw [findZ_get, hf]
    rfl


end Go.Proofs.Ytimebipgiicmiab
