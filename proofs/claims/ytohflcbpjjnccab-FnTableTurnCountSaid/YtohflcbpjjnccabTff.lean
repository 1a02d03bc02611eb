/-
  Contracts over this seat: a route put into a row of routes (slices.Insert): at the end, in place, or in a new row.
-/
import Derived.Test.YtohflcbpjjnccabTfd
import Derived.Lib.AppendZerosOnto
import Derived.Lib.Overlaps
import Derived.Laws.NewBlocks
namespace Go.Proofs.Ytohflcbpjjnccab
open Go.RowKit Go.Maps

/-- A row of routes with room, put in place. -/
def InsRes (ls : List Lk) (g base : Nat) (w : World) (e : Ending) (w' : World) : Prop :=
  ∃ g' c', e = .returned (.slice (some ⟨g', 0, none⟩) ls.length c') ∧ base ≤ g' ∧ Arrt w' g' ls ∧ Room w' g' c' ∧ ls.length ≤ c' ∧ Kx (fun b => b = g) w w'

section
variable {ls : List Lk} {cur L D R : List Value} {n i c : Nat}
theorem flat_row {w : World} {g c : Nat} {cs : List Value} (hh : w.heap[g]? = some (.cells cs.toArray 38 (0, 0))) (hs : cs.length = c * 3) (hm : c ≤ maxLen) (ht : cs.take (ls.length * 3) = flat ls) : Arrt w g ls ∧ Room w g c := by
  refine ⟨⟨_, hh, fun k l hl => ?_⟩, hm, _, hh, by simpa using hs⟩
  have hk : k < ls.length := (List.getElem?_eq_some_iff.1 hl).1
  obtain ⟨h1, h2, h3⟩ := flat_at ls k l hl
  rw [← ht] at h1 h2 h3
  rw [List.getElem?_take_of_lt (by omega)] at h1 h2 h3
  simp only [List.getElem?_toArray]
  exact ⟨h1, h2, h3⟩
theorem flat_ins (us : List Lk) (r : Lk) (i : Nat) : flat (us.take i ++ r :: us.drop i) = flat (us.take i) ++ ([.int .i64 r.a, .int .i64 r.b, .int .i64 r.c] ++ flat (us.drop i)) := by
  rw [flat_app]
  rfl
theorem flat_split (us : List Lk) (i : Nat) : flat us = flat (us.take i) ++ flat (us.drop i) := by rw [← flat_app, List.take_append_drop]
theorem flat_takelen {us : List Lk} {i : Nat} (h : i ≤ us.length) : (flat (us.take i)).length = i * 3 := by rw [flat_len, List.length_take, Nat.min_eq_left h]
theorem flat_droplen {us : List Lk} {i : Nat} : (flat (us.drop i)).length = (us.length - i) * 3 := by rw [flat_len, List.length_drop]
/-- A piece moved up by three cells, then three cells written. -/
theorem shift_cells (hL : L.length = i * 3) (hD : D.length = (n - i) * 3) (hR : R.length = 3) (hi : i < n) (hc : n + 1 ≤ c) (hlen : cur.length = c * 3) (ht : cur.take (n * 3) = L ++ D) :
    (splice (splice cur ((i + 1) * 3) D) (i * 3) R).length = c * 3 ∧ (splice (splice cur ((i + 1) * 3) D) (i * 3) R).take ((n + 1) * 3) = L ++ (R ++ D) := by
  have h1 : (splice cur ((i + 1) * 3) D).length = c * 3 := by rw [length_splice _ _ _ (by omega)]; exact hlen
  refine ⟨by rw [length_splice _ _ _ (by omega)]; exact h1, ?_⟩
  have hLt : cur.take (i * 3) = L := by
    have h2 : cur.take (i * 3) = (L ++ D).take (i * 3) := by rw [← ht, List.take_take, Nat.min_eq_left (by omega)]
    rw [h2, ← hL, List.take_left]
  have e1 : (splice cur ((i + 1) * 3) D).take (i * 3) = L := by
    unfold splice
    rw [List.take_append_of_le_length (by rw [List.length_take]; omega), List.take_take, Nat.min_eq_left (by omega)]
    exact hLt
  have e2 : (splice cur ((i + 1) * 3) D).drop (i * 3 + R.length) = D ++ cur.drop ((i + 1) * 3 + D.length) := by
    unfold splice
    rw [hR, show i * 3 + 3 = (cur.take ((i + 1) * 3)).length by rw [List.length_take]; omega, List.drop_left]
  have e3 : splice (splice cur ((i + 1) * 3) D) (i * 3) R = L ++ (R ++ (D ++ cur.drop ((i + 1) * 3 + D.length))) := by
    rw [splice, e1, e2]
  rw [e3, show L ++ (R ++ (D ++ cur.drop ((i + 1) * 3 + D.length))) = (L ++ (R ++ D)) ++ cur.drop ((i + 1) * 3 + D.length) by simp, List.take_append_of_le_length (by simp; omega), List.take_of_length_le (by simp; omega)]
/-- Three cells written, then a piece behind them. -/
theorem fill_cells {Z : List Value} (hL : L.length = i * 3) (hD : D.length = (n - i) * 3) (hR : R.length = 3) (hi : i < n) (hc : n + 1 ≤ c) (hz : (L ++ Z).length = c * 3) :
    (splice (splice (L ++ Z) (i * 3) R) ((i + 1) * 3) D).length = c * 3 ∧ (splice (splice (L ++ Z) (i * 3) R) ((i + 1) * 3) D).take ((n + 1) * 3) = L ++ (R ++ D) := by
  have h1 : (splice (L ++ Z) (i * 3) R).length = c * 3 := by rw [length_splice _ _ _ (by omega)]; exact hz
  refine ⟨by rw [length_splice _ _ _ (by omega)]; exact h1, ?_⟩
  have e1 : (splice (L ++ Z) (i * 3) R).take ((i + 1) * 3) = L ++ R := by
    unfold splice
    rw [← hL, List.take_left, ← List.append_assoc, List.take_append_of_le_length (by simp; omega), List.take_of_length_le (by simp; omega)]
  have e3 : splice (splice (L ++ Z) (i * 3) R) ((i + 1) * 3) D = (L ++ (R ++ D)) ++ (splice (L ++ Z) (i * 3) R).drop ((i + 1) * 3 + D.length) := by
    rw [splice, e1]
    simp
  rw [e3, List.take_append_of_le_length (by simp; omega), List.take_of_length_le (by simp; omega)]
end
theorem splice_arr (cur : List Value) (o : Nat) (cs : List Value) : (cur.toArray.toList.take o ++ cs ++ cur.toArray.toList.drop (o + cs.length)).toArray = (splice cur o cs).toArray := by
  unfold splice
  simp

/-- What copy does with rows of routes. -/
theorem run_copy3 (w : World) (ty : TypeId) (g o dLen dCap : Nat) (a : Addr) (sLen sCap m : Nat) (cur : List Value) (cs : List Value)
    (hg : w.heap[g]? = some (.cells cur.toArray 38 (0, 0))) (hmn : Nat.min sLen dLen = m) (hn : cs.length = m * 3)
    (hsrc : ∀ j v, cs[j]? = some v → w.cell? (a.add j) = some v) (hfit : o + cs.length ≤ cur.length) (h1 : ∀ v ∈ cs, v.oneCell' = true) :
    (Builtin.copy_ #[28, 28] ty #[.slice (some ⟨g, o, none⟩) dLen dCap, .slice (some a) sLen sCap]).run Try.prog w =
      .ok (goInt m) (w.setRow g (splice cur o cs).toArray) := by
  obtain ⟨i0, hi, hz0, hz1, hz2⟩ := info_parts infoRoute
  have hl := run_loadCells_list (P := Try.prog) w a cs hsrc
  have hst := run_storeCells_at Try.prog g o 38 cs 0 cur.toArray w hg (by simpa using hfit) h1
  rw [Nat.add_zero, splice_arr] at hst
  simp [Builtin.copy_, run_underlying Try.underlying28, Builtin.lenOf, Builtin.firstCells, sizeOf, typeInfo, hi, hz1, hmn, ← hn, hl, hst]
theorem op_copy_run {P : Program} {w : World} {o : Oper} {a : Act} {K : Act → World → Prop} {Q : Exit → Act → World → Prop} (d s : Operand) (t t' : TypeId)
    (ho : o.op = .call { callee := .builtin .copy, args := #[d, s], argTypes := #[t, t'] }) (v u : Value) (hd : a.eval d = v) (hs : a.eval s = u) {v' : Value} {w' : World}
    (hr : (Builtin.copy_ #[t, t'] o.type #[v, u]).run P w = .ok v' w') (h : K (a.put o.dst v') w') : o.wp P a w K Q := by
  unfold Oper.wp
  simp [execOp, ho, resolve, invoke, builtin, hd, hs, hr, Result.andThen]
  exact h
theorem list_copy_run {P : Program} {w : World} {ops : Array Oper} {rest : List Oper} {o : Oper} {a : Act} {Q : Exit → Act → World → Prop} (hgd : o.guard = none) (d s : Operand) (t t' : TypeId)
    (ho : o.op = .call { callee := .builtin .copy, args := #[d, s], argTypes := #[t, t'] }) (v u : Value) (hd : a.eval d = v) (hs : a.eval s = u) {v' : Value} {w' : World}
    (hr : (Builtin.copy_ #[t, t'] o.type #[v, u]).run P w = .ok v' w') (h : wpList P ops Q rest (a.put o.dst v') w') : wpList P ops Q (o :: rest) a w :=
  wpList_plain hgd fun _ hK => op_copy_run d s t t' ho v u hd hs hr (hK _ _ h)
end Go.Proofs.Ytohflcbpjjnccab
