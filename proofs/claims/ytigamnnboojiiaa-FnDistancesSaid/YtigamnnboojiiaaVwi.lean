/-
  Contracts over this seat: validWith: the graph is valid, and all nodes of a list exist in it.
-/
import Derived.Test.YtigamnnboojiiaaBox
namespace Go.Proofs.Ytigamnnboojiiaa
open Go.RowKit

theorem vw1_any (nn : Int) (A : Option Addr) (len c : Nat) (Bg : Nat) (x : Int) (w : World) (h : Box w Bg 30 #[.int .i64 nn, .slice A len c]) :
   Calls Try.prog 58 #[.int .i64 x, .pointer (some ⟨Bg, 0, none⟩)] w fun e w' => e = .returned (.bool (!inB x 0 (nn - 1))) ∧ Below w.heap.size w w' := by
  have e0 : w.cell? ⟨Bg, 0, none⟩ = some (.int .i64 nn) := h.cell 0
  have e1 : w.cell? ⟨Bg, 1, none⟩ = some (.slice A len c) := h.cell 1
  clear h
  go_enter Try.func58, Try.ntmps58
  go_wp2_with (go_at_call 50; refine (hasNode_any nn _ x w).mono ?_; rintro e w1 ⟨rfl, hb⟩)
  go_ret
  exact ⟨rfl, hb⟩

/-- The first place of what is no node, or -1. -/
theorem ifn_any (nn : Int) (A : Option Addr) (len c : Nat) (Bg : Nat) (X : Option Addr) (xs : List Int) (cx : Nat) (w : World) (h : Box w Bg 30 #[.int .i64 nn, .slice A len c]) (hm : xs.length ≤ 2000000) (hx : Sli w w.heap.size X xs) :
   Calls Try.prog 69 #[.slice X xs.length cx, .func (.func 58) #[] #[.pointer (some ⟨Bg, 0, none⟩)]] w fun e w' => (∃ r : Int, e = .returned (.int .i64 r) ∧ decide (0 ≤ r) = !(xs.all fun x => inB x 0 (nn - 1))) ∧ Below w.heap.size w w' := by
  have HB := Lib.hid h
  have HX := Lib.hid hx
  clear h hx
  go_enter Try.func69, Try.ntmps69
  go_wp2
  go_loopw [8] (fun v wr => ∃ k : Nat, k ≤ xs.length ∧ v = .int .i64 k ∧ Below w.heap.size w wr ∧ ∀ (j : Nat) (x : Int), j < k → xs[j]? = some x → inB x 0 (nn - 1) = true) (fun v _ => xs.length - (intOf v).toNat)
  case atStart => exact ⟨0, Nat.zero_le _, rfl, Below.refl _ _, fun j _ h => by omega⟩
  case round =>
    obtain ⟨k, hk, rfl, hb, hall⟩ := hrel
    have HA := Lib.hid hall
    have HW := Lib.hid hb
    clear hall
    by_cases hlt : k < xs.length
    · obtain ⟨x, hxk⟩ : ∃ x, xs[k]? = some x := ⟨_, List.getElem?_eq_getElem hlt⟩
      obtain ⟨b, off, rfl, hbb, hc⟩ := HX.out k x hxk
      have hc' : wr.cell? ⟨b, off + k, none⟩ = some (.int .i64 x) := (hb.cell (p := ⟨b, off + k, none⟩) hbb).trans hc
      have HK := Lib.hid hxk
      have C1 := vw1_any nn A len c Bg x wr (HB.out.below hb HB.out.lt)
      clear hxk hc hb
      go_wp2_with (go_at_call 58; refine C1.mono ?_; clear C1; rintro e w1 ⟨rfl, hb1⟩; have HW1 := Lib.hid (HW.out.trans (hb1.mono HW.out.size)); clear hb1)
      · go_ret
        refine ⟨⟨_, rfl, ?_⟩, HW1.out⟩
        have hx0 : inB x 0 (nn - 1) = false := by simpa using ‹(!inB x 0 (nn - 1)) = true›
        have : (xs.all fun x => inB x 0 (nn - 1)) = false := by
          rw [List.all_eq_false]
          exact ⟨x, List.mem_of_getElem? HK.out, by simp [hx0]⟩
        rw [this]
        simp
      · go_roundw
        case rel =>
          refine ⟨k + 1, hlt, by go_num, HW1.out, fun j y hj hy => ?_⟩
          by_cases hjk : j < k
          · exact HA.out j y hjk hy
          · obtain rfl : j = k := by omega
            rw [HK.out] at hy
            cases hy
            simpa using ‹(!inB x 0 (nn - 1)) = false›
        case measure => simp [intOf]; omega
    · clear hb
      go_wp2
      go_ret
      refine ⟨⟨_, rfl, ?_⟩, HW.out⟩
      have : (xs.all fun x => inB x 0 (nn - 1)) = true := by
        rw [List.all_eq_true]
        intro y hy
        obtain ⟨j, hj⟩ := List.getElem?_of_mem hy
        exact HA.out j y (by have := (List.getElem?_eq_some_iff.1 hj).1; omega) hj
      rw [this]
      simp

theorem cfn_any (nn : Int) (A : Option Addr) (len c : Nat) (Bg : Nat) (X : Option Addr) (xs : List Int) (cx : Nat) (w : World) (h : Box w Bg 30 #[.int .i64 nn, .slice A len c]) (hm : xs.length ≤ 2000000) (hx : Sli w w.heap.size X xs) :
   Calls Try.prog 57 #[.slice X xs.length cx, .func (.func 58) #[] #[.pointer (some ⟨Bg, 0, none⟩)]] w fun e w' => e = .returned (.bool (!(xs.all fun x => inB x 0 (nn - 1)))) ∧ Below w.heap.size w w' := by
  have C1 := ifn_any nn A len c Bg X xs cx w h hm hx
  clear h hx
  go_enter Try.func57, Try.ntmps57
  go_wp2_with (go_at_call 69; refine C1.mono ?_; clear C1; rintro e w1 ⟨⟨r, rfl, hr⟩, hb⟩; have HR := Lib.hid hr; clear hr)
  go_ret
  exact ⟨ret_bool (by rw [← HR.out]), hb⟩

def vwB (nn : Int) (ls : List Lk) (xs : List Int) : Bool := gvB nn ls && xs.all fun x => inB x 0 (nn - 1)

theorem vw_any (nn : Int) (A : Option Addr) (ls : List Lk) (c : Nat) (X : Option Addr) (xs : List Int) (cx : Nat) (w : World) (hl : ls.length ≤ 2000000) (hm : xs.length ≤ 2000000) (hS : Sl w w.heap.size A ls) (hx : Sli w w.heap.size X xs) :
   Calls Try.prog 43 #[gval nn A ls.length c, .slice X xs.length cx] w fun e w' => e = .returned (.bool (vwB nn ls xs)) ∧ Below w.heap.size w w' := by
  have B0 : Below w.heap.size w (w.alloc (.cells #[.int .i64 nn, .slice A ls.length c] 30)) := by (repeat (first | exact Below.refl _ _ | (refine Below.alloc ?_ (by first | exact Nat.le_refl _ | omega | (simp; done) | (simp; omega)) _) | (refine Below.setCell ?_ (by first | exact Nat.le_refl _ | omega | (simp; done) | (simp; omega)) _) | exact Below.drew ‹_›))
  have C1 := valid_impl nn A ls c (w.alloc (.cells #[.int .i64 nn, .slice A ls.length c] 30)) hl ((hS.below B0).more (by simp))
  have HX := Lib.hid (hx.below B0)
  have HG := Lib.hid (Box.new w 30 #[.int .i64 nn, .slice A ls.length c])
  have HB0 := Lib.hid B0
  clear hS hx B0
  unfold vwB
  cases hv : gvB nn ls with
  | true =>
    rw [hv] at C1
    clear hv
    go_enter Try.func43, Try.ntmps43
    go_wp2_with (first
      | (go_at_call 49; refine C1.mono ?_; clear C1; rintro e w1 ⟨rfl, hb1⟩; have HG1 := Lib.hid (HG.out.below hb1 (by simp)); have HX1 := Lib.hid ((HX.out.below (hb1.mono (by simp))).more (Nat.le_trans HB0.out.size hb1.size)); have HB1 := Lib.hid (HB0.out.trans (hb1.mono (by simp))); clear hb1; have C2 := cfn_any nn A ls.length c w.heap.size X xs cx w1 HG1.out hm HX1.out)
      | (go_at_call 57; refine C2.mono ?_; clear C2; rintro e w2 ⟨rfl, hb2⟩; have HB2 := Lib.hid (HB1.out.trans (hb2.mono HB1.out.size)); clear hb2))
    go_ret
    exact ⟨ret_bool (by simp), HB2.out⟩
  | false =>
    rw [hv] at C1
    clear hv
    go_enter Try.func43, Try.ntmps43
    go_wp2_with (go_at_call 49; refine C1.mono ?_; clear C1; rintro e w1 ⟨rfl, hb1⟩; have HB1 := Lib.hid (HB0.out.trans (hb1.mono (by simp))); clear hb1)
    go_ret
    exact ⟨ret_bool (by simp), HB1.out⟩
end Go.Proofs.Ytigamnnboojiiaa
