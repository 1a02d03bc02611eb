/-
  Contracts over this seat: PathCount, of the program and of the specification.
-/
import Derived.Test.YtblmmmeeljidiabHb
namespace Go.Proofs.Ytblmmmeeljidiab
open Go.RowKit Go.Maps

/-- The number of shortest paths over the first hops. -/
def sumTo (n : Nat) (ls : List Lk) (t : Int) (hs : List Int) (k : Nat) : Nat := ((hs.take k).map (fun z => cntL n ls z t)).sum
theorem sumTo_succ {n : Nat} {ls : List Lk} {t : Int} {hs : List Int} {k : Nat} {z : Int} (h : hs[k]? = some z) : sumTo n ls t hs (k + 1) = sumTo n ls t hs k + cntL n ls z t := by
  unfold sumTo
  rw [List.take_add_one, h]
  simp
theorem sumTo_le {n : Nat} {ls : List Lk} {t : Int} (hv : gvB (n : Int) ls = true) {hs : List Int} (h : hs.length ≤ 8) (k : Nat) : sumTo n ls t hs k ≤ 134217728 := by
  unfold sumTo
  refine Nat.le_trans (sum_le (b := 16777216) fun z _ => cntL_le hv z) ?_
  have : (hs.take k).length ≤ 8 := by simp; omega
  exact Nat.le_trans (Nat.mul_le_mul_right _ this) (by decide)

set_option maxRecDepth 100000 in
set_option maxHeartbeats 1600000 in
theorem count_impl_in (n : Nat) (A : Option Addr) (ls : List Lk) (c : Nat) (t : Int) (hm : ls.length ≤ 2000000) (hv : gvB (n : Int) ls = true) (ht : 0 ≤ t ∧ t < (n : Int)) : ∀ (r : Nat) (s : Int) (w : World), 0 ≤ s ∧ s < (n : Int) → rk n ls t s ≤ r → Sl w w.heap.size A ls →
   Calls Try.prog 31 #[gval (n : Int) A ls.length c, .int .i64 s, .int .i64 t] w fun e w' => e = .returned (.int .i64 (cntL n ls s t : Nat)) ∧ Below w.heap.size w w' := by
  intro r
  induction r using Nat.strongRecOn with
  | _ r ih =>
  intro s w hs hr hS
  have B0 : Below w.heap.size w ((w.alloc (.cells #[.int .i64 (n : Int), .slice A ls.length c] 25)).alloc (.cells #[.int .i64 s, .int .i64 t] 3)) := by (repeat (first | exact Below.refl _ _ | (refine Below.alloc ?_ (by first | exact Nat.le_refl _ | omega | (simp; done) | (simp; omega)) _) | (refine Below.setCell ?_ (by first | exact Nat.le_refl _ | omega | (simp; done) | (simp; omega)) _) | exact Below.drew ‹_›))
  have G0 := Lib.hid ((Box.new w 25 #[.int .i64 (n : Int), .slice A ls.length c]).alloc (.cells #[.int .i64 s, .int .i64 t] 3))
  have L0 := Box.new (w.alloc (.cells #[.int .i64 (n : Int), .slice A ls.length c] 25)) 3 #[.int .i64 s, .int .i64 t]
  rw [World.size_alloc] at L0
  have X0 : Own1i ((w.alloc (.cells #[.int .i64 (n : Int), .slice A ls.length c] 25)).alloc (.cells #[.int .i64 s, .int .i64 t] 3)) (some ⟨w.heap.size + 1, 0, none⟩) (w.heap.size + 1) [s, t] := own_listH (by simpa using L0)
  have S0 := (hS.below B0).more B0.size
  have hvw := vwB_of hv hs ht
  have C1 := vw_any (n : Int) A ls c (some ⟨w.heap.size + 1, 0, none⟩) [s, t] 2 _ hm (by simp) S0 X0.sli
  rw [hvw] at C1
  have SS := Lib.hid S0
  have BB := Lib.hid B0
  clear hS B0 L0 X0 S0
  by_cases hst : s = t
  · have hst' : (s == t) = true := by simp [hst]
    have hc : cntL n ls s t = 1 := by rw [hst, cntL_self]
    rw [hc]
    clear hst ih hvw hv hc
    go_enter Try.func31, Try.ntmps31
    go_wp2_with (go_at_call 56; refine C1.mono ?_; clear C1; rintro e w1 ⟨rfl, hb1⟩; have B1 := Lib.hid (BB.out.trans (hb1.mono BB.out.size)); clear hb1)
    go_ret
    exact ⟨ret_int (by simp), B1.out⟩
  · have hst' : (s == t) = false := by simpa using hst
    have hstep := cntL_step hv ht hs hst
    have hnode : ∀ z ∈ hopsL (n : Int) ls s t, (0 ≤ z ∧ z < (n : Int)) ∧ rk n ls t z < r := fun z hz => by
      obtain ⟨h1, _, h3, h4⟩ := hops_node hvw hz
      have := rk_lt h1 h3 h4
      exact ⟨h1, by omega⟩
    have hsum : cntL n ls s t = sumTo n ls t (hopsL (n : Int) ls s t) (hopsL (n : Int) ls s t).length := by
      rw [hstep]
      unfold sumTo
      rw [List.take_length]
    rw [hsum]
    have hlen := hops_len (n : Int) ls s t
    have hbd : Hid (∀ k, sumTo n ls t (hopsL (n : Int) ls s t) k ≤ 134217728) := Lib.hid (fun k => sumTo_le hv hlen k)
    have C2 : ∀ V : World, Sl V V.heap.size A ls → Calls Try.prog 57 #[gval (n : Int) A ls.length c, .int .i64 s, .int .i64 t] V (NewI (hopsL (n : Int) ls s t) V) := fun V hV => hops_impl (n : Int) A ls c s t V hm hV
    have IH : Hid (∀ z ∈ hopsL (n : Int) ls s t, ∀ V : World, Sl V V.heap.size A ls → Calls Try.prog 31 #[gval (n : Int) A ls.length c, .int .i64 z, .int .i64 t] V fun e w' => e = .returned (.int .i64 (cntL n ls z t : Nat)) ∧ Below V.heap.size V w') :=
      Lib.hid (fun z hz V hV => ih (rk n ls t z) (hnode z hz).2 z V (hnode z hz).1 (Nat.le_refl _) hV)
    clear hstep hnode hsum hst ih hvw hr
    generalize hopsL (n : Int) ls s t = hsx at *
    go_enter Try.func31, Try.ntmps31
    go_wp2_with (go_at_call 56; refine C1.mono ?_; clear C1; rintro e w1 ⟨rfl, hb1⟩; have G1 := Lib.hid (G0.out.below hb1 G0.out.lt); have S1 := Lib.hid ((SS.out.below hb1).more hb1.size); obtain ⟨z1, e10, e11, -, -⟩ := G1.out.two; have B1 := Lib.hid (BB.out.trans (hb1.mono BB.out.size)); clear hb1)
    refine (C2 _ S1.out).mono ?_
    clear C2
    rintro e w2 ⟨A3, g3, c3, rfl, hg3, ho3, hb2⟩
    have G2 := Lib.hid (G1.out.below hb2 z1)
    have B2 := Lib.hid (B1.out.trans (hb2.mono B1.out.size))
    have O2 := Lib.hid ho3
    have S2 := Lib.hid ((S1.out.below hb2).more hb2.size)
    clear hb2 ho3 hg3 e10 e11 z1 G0 SS BB S1 B1
    go_wp2_with fail
    go_loopw [7, 24] (fun q i wr => ∃ k : Nat, k ≤ hsx.length ∧ q = .int .i64 (sumTo n ls t hsx k : Nat) ∧ i = .int .i64 k ∧ Box wr w.heap.size 25 #[.int .i64 (n : Int), .slice A ls.length c] ∧ Own1i wr A3 g3 hsx ∧ Sl wr wr.heap.size A ls ∧ Below w.heap.size w wr) (fun _ i _ => hsx.length - (intOf i).toNat)
    case atStart => exact ⟨0, Nat.zero_le _, by simp [sumTo], rfl, G2.out, O2.out, S2.out, B2.out⟩
    case round =>
      obtain ⟨k, hk, rfl, rfl, hG, hO, hSl, hB⟩ := hrel
      have G3 := Lib.hid hG
      have O3 := Lib.hid hO
      have S3 := Lib.hid hSl
      have B3 := Lib.hid hB
      clear hG hO hSl hB G2 O2 S2 B2
      obtain ⟨z3, e30, e31, -, -⟩ := G3.out.two
      by_cases hlt : k < hsx.length
      · obtain ⟨z, hz⟩ : ∃ z, hsx[k]? = some z := ⟨_, List.getElem?_eq_getElem hlt⟩
        obtain ⟨rfl, zg, hc⟩ := O3.out.at hz
        have HN := Lib.hid (sumTo_succ (n := n) (ls := ls) (t := t) hz)
        have CI := IH.out z (List.mem_of_getElem? hz) wr S3.out
        have h1 := hbd.out k
        have h2 := cntL_le (t := t) hv z
        clear hz
        generalize sumTo n ls t hsx k = a at *
        generalize cntL n ls z t = b at *
        go_wp2_with fail
        refine CI.mono ?_
        rintro e w4 ⟨rfl, hb4⟩
        have G4 := Lib.hid (G3.out.below hb4 z3)
        have O4 := Lib.hid (O3.out.below hb4)
        have S4 := Lib.hid ((S3.out.below hb4).more hb4.size)
        have B4 := Lib.hid (B3.out.trans (hb4.mono B3.out.size))
        clear CI hb4
        go_wp2_with fail
        go_roundw
        case rel => exact ⟨k + 1, hlt, by rw [HN.out]; simp, by go_num, G4.out, O4.out, S4.out, B4.out⟩
        case measure => simp [intOf]; omega
      · obtain rfl : k = hsx.length := by omega
        go_wp2_with fail
        go_ret
        exact ⟨rfl, B3.out⟩

set_option maxRecDepth 100000 in
set_option maxHeartbeats 1600000 in
theorem l2count_any (n : Nat) (A : Option Addr) (ls : List Lk) (c : Nat) (t : Int) (hv : gvB (n : Int) ls = true) (ht : 0 ≤ t ∧ t < (n : Int)) : ∀ (r : Nat) (s : Int) (w : World), 0 ≤ s ∧ s < (n : Int) → rk n ls t s ≤ r → Sl w w.heap.size A ls →
   Calls Try.prog 55 #[gval (n : Int) A ls.length c, .int .i64 s, .int .i64 t] w fun e w' => e = .returned (.int .i64 (cntL n ls s t : Nat)) ∧ Below w.heap.size w w' := by
  intro r
  induction r using Nat.strongRecOn with
  | _ r ih =>
  intro s w hs hr hS
  have B0 : Below w.heap.size w (w.alloc (.cells #[.int .i64 (n : Int), .slice A ls.length c] 25)) := by (repeat (first | exact Below.refl _ _ | (refine Below.alloc ?_ (by first | exact Nat.le_refl _ | omega | (simp; done) | (simp; omega)) _) | (refine Below.setCell ?_ (by first | exact Nat.le_refl _ | omega | (simp; done) | (simp; omega)) _) | exact Below.drew ‹_›))
  have G0 := Lib.hid (Box.new w 25 #[.int .i64 (n : Int), .slice A ls.length c])
  have S0 := (hS.below B0).more B0.size
  have hvw := vwB_of hv hs ht
  have SS := Lib.hid S0
  have BB := Lib.hid B0
  clear hS B0 S0
  by_cases hst : s = t
  · have hst' : (s == t) = true := by simp [hst]
    have hc : cntL n ls s t = 1 := by rw [hst, cntL_self]
    rw [hc]
    clear hst ih hvw hv hc
    go_enter Try.func55, Try.ntmps55
    go_wp2_with fail
    go_ret
    exact ⟨ret_int (by simp), BB.out⟩
  · have hst' : (s == t) = false := by simpa using hst
    have hstep := cntL_step hv ht hs hst
    have hnode : ∀ z ∈ hopsL (n : Int) ls s t, (0 ≤ z ∧ z < (n : Int)) ∧ rk n ls t z < r := fun z hz => by
      obtain ⟨h1, _, h3, h4⟩ := hops_node hvw hz
      have := rk_lt h1 h3 h4
      exact ⟨h1, by omega⟩
    have hsum : cntL n ls s t = sumTo n ls t (hopsL (n : Int) ls s t) (hopsL (n : Int) ls s t).length := by
      rw [hstep]
      unfold sumTo
      rw [List.take_length]
    rw [hsum]
    have hlen := hops_len (n : Int) ls s t
    have hbd : Hid (∀ k, sumTo n ls t (hopsL (n : Int) ls s t) k ≤ 134217728) := Lib.hid (fun k => sumTo_le hv hlen k)
    have C2 : ∀ V : World, Sl V V.heap.size A ls → Calls Try.prog 77 #[gval (n : Int) A ls.length c, .int .i64 s, .int .i64 t] V (NewI (hopsL (n : Int) ls s t) V) := fun V hV => l2hops_any n A ls c s t V hv hs ht hV
    have IH : Hid (∀ z ∈ hopsL (n : Int) ls s t, ∀ V : World, Sl V V.heap.size A ls → Calls Try.prog 55 #[gval (n : Int) A ls.length c, .int .i64 z, .int .i64 t] V fun e w' => e = .returned (.int .i64 (cntL n ls z t : Nat)) ∧ Below V.heap.size V w') :=
      Lib.hid (fun z hz V hV => ih (rk n ls t z) (hnode z hz).2 z V (hnode z hz).1 (Nat.le_refl _) hV)
    clear hstep hnode hsum hst ih hvw hr
    generalize hopsL (n : Int) ls s t = hsx at *
    go_enter Try.func55, Try.ntmps55
    go_wp2_with fail
    refine (C2 _ SS.out).mono ?_
    clear C2
    rintro e w2 ⟨A3, g3, c3, rfl, hg3, ho3, hb2⟩
    have G2 := Lib.hid (G0.out.below hb2 G0.out.lt)
    have B2 := Lib.hid (BB.out.trans (hb2.mono BB.out.size))
    have O2 := Lib.hid ho3
    have S2 := Lib.hid ((SS.out.below hb2).more hb2.size)
    clear hb2 ho3 hg3 G0 SS BB
    go_wp2_with fail
    go_loopw [7, 9] (fun q i wr => ∃ k : Nat, k ≤ hsx.length ∧ q = .int .i64 (sumTo n ls t hsx k : Nat) ∧ i = .int .i64 k ∧ Box wr w.heap.size 25 #[.int .i64 (n : Int), .slice A ls.length c] ∧ Own1i wr A3 g3 hsx ∧ Sl wr wr.heap.size A ls ∧ Below w.heap.size w wr) (fun _ i _ => hsx.length - (intOf i).toNat)
    case atStart => exact ⟨0, Nat.zero_le _, by simp [sumTo], rfl, G2.out, O2.out, S2.out, B2.out⟩
    case round =>
      obtain ⟨k, hk, rfl, rfl, hG, hO, hSl, hB⟩ := hrel
      have G3 := Lib.hid hG
      have O3 := Lib.hid hO
      have S3 := Lib.hid hSl
      have B3 := Lib.hid hB
      clear hG hO hSl hB G2 O2 S2 B2
      obtain ⟨z3, e30, e31, -, -⟩ := G3.out.two
      by_cases hlt : k < hsx.length
      · obtain ⟨z, hz⟩ : ∃ z, hsx[k]? = some z := ⟨_, List.getElem?_eq_getElem hlt⟩
        obtain ⟨rfl, zg, hc⟩ := O3.out.at hz
        have HN := Lib.hid (sumTo_succ (n := n) (ls := ls) (t := t) hz)
        have CI := IH.out z (List.mem_of_getElem? hz) wr.drew S3.out
        have h1 := hbd.out k
        have h2 := cntL_le (t := t) hv z
        clear hz
        generalize sumTo n ls t hsx k = a at *
        generalize cntL n ls z t = b at *
        go_wp2_with fail
        go_region_law (go_simp; go_at_call 55; refine CI.mono ?_; rintro e w4 ⟨rfl, hb4⟩; have G4 := Lib.hid (Box.below (w := wr.drew) G3.out hb4 z3); have O4 := Lib.hid (Own1i.below (w := wr.drew) O3.out hb4); have S4 := Lib.hid ((Sl.below (w := wr.drew) S3.out hb4).more hb4.size); have B4 := Lib.hid (B3.out.drew.trans (hb4.mono B3.out.size)); clear hb4)
        all_goals
          go_wp2_with fail
          go_roundw
          case rel => exact ⟨k + 1, hlt, by rw [HN.out]; simp, by go_num, G4.out, O4.out, S4.out, B4.out⟩
          case measure => simp [intOf]; omega
      · obtain rfl : k = hsx.length := by omega
        go_wp2_with fail
        go_ret
        exact ⟨rfl, B3.out⟩

def countI (nn : Int) (ls : List Lk) (s t : Int) : Int := if vwB nn ls [s, t] = true then (cntL nn.toNat ls s t : Nat) else -1
theorem count_impl (nn : Int) (A : Option Addr) (ls : List Lk) (c : Nat) (s t : Int) (w : World) (hm : ls.length ≤ 2000000) (hS : Sl w w.heap.size A ls) :
   Calls Try.prog 31 #[gval nn A ls.length c, .int .i64 s, .int .i64 t] w fun e w' => e = .returned (.int .i64 (countI nn ls s t)) ∧ Below w.heap.size w w' := by
  unfold countI
  cases hv : vwB nn ls [s, t] with
  | true =>
    obtain ⟨hg, hs, ht⟩ := vwB_two hv
    obtain ⟨n, rfl⟩ : ∃ q : Nat, nn = (q : Int) := ⟨nn.toNat, by omega⟩
    rw [if_pos rfl, Int.toNat_natCast]
    exact count_impl_in n A ls c t hm hg ht _ s w hs (Nat.le_refl _) hS
  | false =>
    rw [if_neg Bool.false_ne_true]
    have B0 : Below w.heap.size w ((w.alloc (.cells #[.int .i64 nn, .slice A ls.length c] 25)).alloc (.cells #[.int .i64 s, .int .i64 t] 3)) := by (repeat (first | exact Below.refl _ _ | (refine Below.alloc ?_ (by first | exact Nat.le_refl _ | omega | (simp; done) | (simp; omega)) _) | (refine Below.setCell ?_ (by first | exact Nat.le_refl _ | omega | (simp; done) | (simp; omega)) _) | exact Below.drew ‹_›))
    have L0 := Box.new (w.alloc (.cells #[.int .i64 nn, .slice A ls.length c] 25)) 3 #[.int .i64 s, .int .i64 t]
    rw [World.size_alloc] at L0
    have C1 := vw_any nn A ls c (some ⟨w.heap.size + 1, 0, none⟩) [s, t] 2 _ hm (by simp) ((hS.below B0).more B0.size) (own_listH (by simpa using L0)).sli
    rw [hv] at C1
    have BB := Lib.hid B0
    clear hS B0 L0 hv
    go_enter Try.func31, Try.ntmps31
    go_wp2_with (go_at_call 56; refine C1.mono ?_; clear C1; rintro e w1 ⟨rfl, hb1⟩; have B1 := Lib.hid (BB.out.trans (hb1.mono BB.out.size)); clear hb1)
    go_ret
    exact ⟨rfl, B1.out⟩


end Go.Proofs.Ytblmmmeeljidiab
