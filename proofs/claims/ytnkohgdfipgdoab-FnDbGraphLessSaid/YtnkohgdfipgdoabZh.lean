/-
  Contracts over this seat: what an origin announces of a neighbour (specification).
-/
import Derived.Test.YtnkohgdfipgdoabZg
namespace Go.Proofs.Ytnkohgdfipgdoab
open Go.RowKit Go.Maps

theorem endC_hit {es : List Lb} {n : Int} {k : Nat} {e : Lb} (hx : es[k]? = some e) (ho : e.k = n) (h : ∀ (j : Nat) (z : Lb), j < k → es[j]? = some z → z.k ≠ n) : endC es n = e.a := by
  unfold endC
  have hf : es.find? (fun e => decide (e.k = n)) = some e := by
    rw [List.find?_eq_some_iff_getElem]
    obtain ⟨hk, hxe⟩ := List.getElem?_eq_some_iff.1 hx
    refine ⟨by simpa using ho, k, hk, hxe, fun j hj => ?_⟩
    have := h j es[j] hj (List.getElem?_eq_getElem (by omega))
    simpa using this
  rw [hf]
theorem endC_miss {es : List Lb} {n : Int} (h : ∀ (j : Nat) (z : Lb), es[j]? = some z → z.k ≠ n) : endC es n = 0 :=
  endC_none fun e he => by obtain ⟨j, hj⟩ := List.getElem?_of_mem he; exact h j e hj
/-- What 'l11Find' answers, taken apart. -/
theorem fndV_cases {zs : List Lz} (o n : Int) {A : Option Addr} {w : World} (hS : Slz w w.heap.size A zs) (hes : ∀ z ∈ zs, z.es.length ≤ 2000000) : ∃ (bo bq : Int) (es : List Lb) (A1 : Option Addr) (c1 : Nat) (ok : Bool), fndV (findZ zs o) = .tuple #[.agg #[.int .i64 bo, .int .i64 bq, .slice A1 es.length c1], .bool ok] ∧ Slb w w.heap.size A1 es ∧ costL (datL zs) o n = endC es n ∧ es.length ≤ 2000000 := by
  cases hf : findZ zs o with
  | none =>
    refine ⟨0, 0, [], none, 0, false, rfl, fun k l h => by simp at h, ?_, by simp⟩
    unfold costL
    rw [findZ_get, hf]
    rfl
  | some z =>
    have hz : z ∈ zs := List.mem_of_find?_eq_some hf
    obtain ⟨k, hk⟩ := List.getElem?_of_mem hz
    obtain ⟨b, off, -, -, -, -, -, h⟩ := hS k z hk
    refine ⟨z.o, z.q, z.es, z.A, z.c, true, rfl, h, ?_, hes z hz⟩
    unfold costL
    rw [findZ_get, hf]
    rfl

set_option maxRecDepth 100000 in
set_option maxHeartbeats 1600000 in
theorem l11cost_any (A : Option Addr) (zs : List Lz) (c : Nat) (o n : Int) (w : World) (hm : zs.length ≤ 1000000) (hes : ∀ z ∈ zs, z.es.length ≤ 2000000) (hS : Slz w w.heap.size A zs) :
   Calls Try.prog 74 #[.slice A zs.length c, .int .i64 o, .int .i64 n] w fun e w' => e = .returned (.int .i64 (costL (datL zs) o n)) ∧ Below w.heap.size w w' := by
  have CF := l11find_any A zs c o w (by omega) hS
  obtain ⟨bo, bq, es, A1, c1, ok, hv, hE, hc, hl⟩ := fndV_cases o n hS hes
  rw [hv] at CF
  have HE := Lib.hid hE
  have HC := Lib.hid hc
  clear hv hE hc hS hes hm
  go_enter Try.func74, Try.ntmps74
  go_wp2_with fail
  refine CF.mono ?_
  rintro e w1 ⟨rfl, hb1⟩
  have B1 := Lib.hid (hb1.alloc hb1.size (.cells #[.int .i64 bo, .int .i64 bq, .slice A1 es.length c1] 54))
  have X1 := Lib.hid (Box.new w1 54 #[.int .i64 bo, .int .i64 bq, .slice A1 es.length c1])
  clear hb1 CF
  go_wp2_with fail
  go_loopw [9] (fun i wr => ∃ k : Nat, k ≤ es.length ∧ i = .int .i64 (k : Int) ∧ Hid (∀ (j : Nat) (z : Lb), j < k → es[j]? = some z → z.k ≠ n) ∧ Below w.heap.size w wr ∧ Hid (Box wr w1.heap.size 54 #[.int .i64 bo, .int .i64 bq, .slice A1 es.length c1])) (fun i _ => es.length - (intOf i).toNat)
  case atStart => exact ⟨0, Nat.zero_le _, rfl, Lib.hid (fun j z h => by omega), B1.out, X1⟩
  case round =>
    obtain ⟨k, hk, rfl, HJ, hb, G1⟩ := hrel
    have B2 := Lib.hid hb
    obtain ⟨zr, r0, r1, r2, -, -, -⟩ := G1.out.three
    clear X1 B1
    generalize w1.heap.size = ob at *
    by_cases hlt : k < es.length
    · obtain ⟨x, hx⟩ : ∃ x, es[k]? = some x := ⟨_, List.getElem?_eq_getElem hlt⟩
      obtain ⟨b, off, rfl, hbb, hc1, hc2⟩ := (HE.out.below hb) k x hx
      have HX := Lib.hid hx
      have hz := hb.size
      have z1 : b < wr.heap.size := by omega
      obtain ⟨xk, xa⟩ := x
      dsimp only at hc1 hc2
      clear hx hb
      by_cases ho : xk = n
      · subst ho
        have HF : Hid (endC es xk = xa) := Lib.hid (endC_hit HX.out rfl HJ.out)
        go_wp2_with fail
        go_ret
        exact ⟨by rw [HC.out, HF.out]; rfl, B2.out⟩
      · have ho' : (xk == n) = false := by simpa using ho
        have HO := Lib.hid ho
        clear ho
        go_wp2_with fail
        go_roundw
        case rel => exact ⟨k + 1, hlt, by go_num, Lib.hid (fun j z hj hz => by
          by_cases hjk : j < k
          · exact HJ.out j z hjk hz
          · obtain rfl : j = k := by omega
            rw [HX.out] at hz
            cases hz
            exact HO.out), B2.out, G1⟩
        case measure => simp [intOf]; omega
    · obtain rfl : k = es.length := by omega
      have HF : Hid (endC es n = 0) := Lib.hid (endC_miss (fun j z hz => HJ.out j z (List.getElem?_eq_some_iff.1 hz).1 hz))
      clear hb
      go_wp2_with fail
      go_ret
      exact ⟨by rw [HC.out, HF.out]; rfl, B2.out⟩
end Go.Proofs.Ytnkohgdfipgdoab
