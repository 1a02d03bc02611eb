/-
  Contracts over this seat: the program's PathValid and PathCost.
-/
import Derived.Test.YtenlofomkchlaacC7
import Derived.Test.YtenlofomkchlaacCg
namespace Go.Proofs.Ytenlofomkchlaac
open Go.RowKit Go.Maps

set_option maxRecDepth 100000 in
set_option maxHeartbeats 800000 in
theorem pathValid_impl (nn : Int) (A : Option Addr) (ls : List Lk) (c : Nat) (X : Option Addr) (xs : List Int) (cx : Nat) (w : World) (hm : ls.length ≤ 2000000) (hmx : xs.length ≤ 2000000) (hS : Sl w w.heap.size A ls) (hX : Sli w w.heap.size X xs) :
   Calls Try.prog 42 #[gval nn A ls.length c, .slice X xs.length cx] w fun e w' => e = .returned (.bool (pvB nn ls xs)) ∧ Below w.heap.size w w' := by
  have B0 : Below w.heap.size w (w.alloc (.cells #[.int .i64 nn, .slice A ls.length c] 32)) := by (repeat (first | exact Below.refl _ _ | (refine Below.alloc ?_ (by first | exact Nat.le_refl _ | omega | (simp; done) | (simp; omega)) _) | (refine Below.setCell ?_ (by first | exact Nat.le_refl _ | omega | (simp; done) | (simp; omega)) _) | exact Below.drew ‹_›))
  have HB := Lib.hid B0
  have HG := Lib.hid (Box.new w 32 #[.int .i64 nn, .slice A ls.length c])
  have C1 := vw_any nn A ls c X xs cx (w.alloc (.cells #[.int .i64 nn, .slice A ls.length c] 32)) hm hmx ((hS.below B0).more B0.size) ((hX.below B0).more B0.size)
  have HS := Lib.hid hS
  have HX := Lib.hid hX
  clear hS hX B0
  by_cases h1 : 1 ≤ xs.length
  · by_cases h9 : xs.length ≤ 9
    · cases hv : vwB nn ls xs with
      | false =>
        rw [hv] at C1
        have HE := Lib.hid (pvB_vw hv)
        clear hv
        go_enter Try.func42, Try.ntmps42
        go_wp2_with (go_at_call 55; refine C1.mono ?_; clear C1; rintro e w1 ⟨rfl, hb1⟩; have B1 := Lib.hid (HB.out.trans (hb1.mono HB.out.size)); clear hb1)
        go_ret
        exact ⟨ret_bool HE.out.symm, B1.out⟩
      | true =>
        rw [hv] at C1
        have HY : Hid ((∀ k, k < xs.length → lkB nn ls xs k = true) → pvB nn ls xs = true) := Lib.hid (fun h => pvB_yes h1 h9 hv h)
        clear hv
        go_enter Try.func42, Try.ntmps42
        go_wp2_with (go_at_call 55; refine C1.mono ?_; clear C1; rintro e w1 ⟨rfl, hb1⟩; have B1 := Lib.hid (HB.out.trans (hb1.mono HB.out.size)); have G1 := Lib.hid (HG.out.below hb1 (by simp)); clear hb1)
        go_loopw [5] (fun i wr => ∃ k : Nat, 1 ≤ k ∧ k ≤ xs.length ∧ i = .int .i64 (k : Int) ∧ Hid (∀ j, j < k → lkB nn ls xs j = true) ∧ Below w.heap.size w wr ∧ Box wr w.heap.size 32 #[.int .i64 nn, .slice A ls.length c]) (fun i _ => xs.length - (intOf i).toNat)
        case atStart => exact ⟨1, Nat.le_refl _, h1, rfl, Lib.hid (fun j hj => (show 0 = j by omega) ▸ lkB_zero), B1.out, G1.out⟩
        case round =>
          obtain ⟨k, hk1, hk, rfl, HJ, hb, hg⟩ := hrel
          have B2 := Lib.hid hb
          have G2 := Lib.hid hg
          obtain ⟨z1, e10, e11, -, -⟩ := hg.two
          clear hg B1 G1
          obtain ⟨p, hp1⟩ : ∃ p : Nat, k = p + 1 := ⟨k - 1, by omega⟩
          have hsub : (k : Int) - 1 = (p : Int) := by omega
          have hwp : IntKind.i64.wrap (p : Int) = (p : Int) := IntWalk.i64_in _ (by omega)
          have hpl : p < xs.length := by omega
          have HP1 := Lib.hid hp1
          clear hp1
          by_cases hlt : k < xs.length
          · obtain ⟨a, ha⟩ : ∃ a, xs[p]? = some a := ⟨_, List.getElem?_eq_getElem hpl⟩
            obtain ⟨b, hb'⟩ : ∃ b, xs[k]? = some b := ⟨_, List.getElem?_eq_getElem hlt⟩
            have hb2 : xs[p + 1]? = some b := by rw [← HP1.out]; exact hb'
            have HL := Lib.hid (lkB_at (nn := nn) (ls := ls) ha hb2)
            obtain ⟨xb, xo, rfl, hxb, hxa⟩ := (HX.out.below hb) p a ha
            obtain ⟨xb', xo', e', _, hxk⟩ := (HX.out.below hb) k b hb'
            cases e'
            have hz := hb.size
            have z3 : xb < wr.heap.size := by omega
            have CL : ∀ Y : Ext wr, Calls Try.prog 72 #[gval nn A ls.length c, .int .i64 a, .int .i64 b] Y.w fun e w' => e = .returned (.int .i64 (linkI nn ls a b)) ∧ Below Y.w.heap.size Y.w w' := fun Y =>
              link_impl nn A ls c a b Y.w hm (((HS.out.below B2.out).below (Y.below.mono hz)).more (Nat.le_trans hz Y.below.size))
            have hlk := linkI_neg nn ls a b
            generalize linkI nn ls a b = lk at *
            clear ha hb' hb2 hb
            have hY := fun (x : Ext wr) (b o : Nat) (h : b < wr.heap.size) => x.cell b o h
            by_cases h0 : lk = -1
            · subst h0
              clear hlk
              go_wp2_with fail
              refine wp_region_ext (by kernel_rfl) (by kernel_rfl) ?_
              repeat (go_big_quiet_step (first | (go_at_call 72; exact Calls.ext_of (CL _))))
              (refine wpQuiet_nil ?_); (rintro _ ⟨X, rfl⟩); (have hw1 := X.below); (generalize X.w = w1 at *); (clear X)
              clear hY
              have B3 := Lib.hid (B2.out.trans (hw1.mono hz))
              clear hw1
              go_wp2_with fail
              go_ret
              refine ⟨ret_bool (pvB_no (k := k) hlt ?_).symm, B3.out⟩
              rw [HP1.out, HL.out]
              rfl
            · have h0' : (lk == -1) = false := by simpa using h0
              have HNX : Hid (lkB nn ls xs k = true) := Lib.hid (by rw [HP1.out, HL.out, decide_eq_true_eq]; omega)
              clear hlk h0
              go_wp2_with fail
              refine wp_region_ext (by kernel_rfl) (by kernel_rfl) ?_
              repeat (go_big_quiet_step (first | (go_at_call 72; exact Calls.ext_of (CL _))))
              (refine wpQuiet_nil ?_); (rintro _ ⟨X, rfl⟩); (have hw1 := X.below); (generalize X.w = w1 at *); (clear X)
              clear hY
              have B3 := Lib.hid (B2.out.trans (hw1.mono hz))
              have G3 := Lib.hid (G2.out.below hw1 z1)
              clear hw1
              go_wp2_with fail
              go_roundw
              case rel => exact ⟨k + 1, by omega, hlt, by go_num, Lib.hid (fun j hj => by
                by_cases hjk : j < k
                · exact HJ.out j hjk
                · obtain rfl : j = k := by omega
                  exact HNX.out), B3.out, G3.out⟩
              case measure => simp [intOf]; omega
          · obtain rfl : k = xs.length := by omega
            clear hb
            go_wp2_with fail
            go_ret
            exact ⟨ret_bool (HY.out HJ.out).symm, B2.out⟩
    · have HE := Lib.hid (pvB_bad (nn := nn) (ls := ls) (show ¬ (1 ≤ xs.length ∧ xs.length ≤ 9) from fun h => h9 h.2))
      have h9' : 9 < xs.length := by omega
      clear h9
      go_enter Try.func42, Try.ntmps42
      go_wp2_with fail
      go_ret
      exact ⟨ret_bool HE.out.symm, HB.out⟩
  · have HE := Lib.hid (pvB_bad (nn := nn) (ls := ls) (show ¬ (1 ≤ xs.length ∧ xs.length ≤ 9) from fun h => h1 h.1))
    have h0 : xs.length = 0 := by omega
    clear h1
    go_enter Try.func42, Try.ntmps42
    go_wp2_with fail
    go_ret
    exact ⟨ret_bool HE.out.symm, HB.out⟩

set_option maxRecDepth 100000 in
theorem pathCost_impl (nn : Int) (A : Option Addr) (ls : List Lk) (c : Nat) (X : Option Addr) (xs : List Int) (cx : Nat) (w : World) (hm : ls.length ≤ 2000000) (hmx : xs.length ≤ 2000000) (hS : Sl w w.heap.size A ls) (hX : Sli w w.heap.size X xs) :
   Calls Try.prog 29 #[gval nn A ls.length c, .slice X xs.length cx] w fun e w' => e = .returned (.int .i64 (costP nn ls xs)) ∧ Below w.heap.size w w' := by
  have B0 : Below w.heap.size w (w.alloc (.cells #[.int .i64 nn, .slice A ls.length c] 32)) := by (repeat (first | exact Below.refl _ _ | (refine Below.alloc ?_ (by first | exact Nat.le_refl _ | omega | (simp; done) | (simp; omega)) _) | (refine Below.setCell ?_ (by first | exact Nat.le_refl _ | omega | (simp; done) | (simp; omega)) _) | exact Below.drew ‹_›))
  have HB := Lib.hid B0
  have HG := Lib.hid (Box.new w 32 #[.int .i64 nn, .slice A ls.length c])
  have C1 := pathValid_impl nn A ls c X xs cx (w.alloc (.cells #[.int .i64 nn, .slice A ls.length c] 32)) hm hmx ((hS.below B0).more B0.size) ((hX.below B0).more B0.size)
  have HS := Lib.hid hS
  have HX := Lib.hid hX
  clear hS hX B0
  cases hv : pvB nn ls xs with
  | false =>
    rw [hv] at C1
    have HE := Lib.hid (costP_no hv)
    clear hv
    go_enter Try.func29, Try.ntmps29
    go_wp2_with (go_at_call 42; refine C1.mono ?_; clear C1; rintro e w1 ⟨rfl, hb1⟩; have B1 := Lib.hid (HB.out.trans (hb1.mono HB.out.size)); clear hb1)
    go_ret
    exact ⟨ret_int HE.out.symm, B1.out⟩
  | true =>
    rw [hv] at C1
    obtain ⟨n, rfl, hp⟩ := pvB_PV hv
    have HE := Lib.hid (costP_PV hp)
    have hl9 := hp.len
    have CC := fun W (h1 : Sl W W.heap.size A ls) (h2 : Sli W W.heap.size X xs) => costAlong_any n A ls c X xs cx W hm hp.gv hp.way hp.pos (by omega) h1 h2
    clear hv hp
    go_enter Try.func29, Try.ntmps29
    go_wp2_with (go_at_call 42; refine C1.mono ?_; clear C1; rintro e w1 ⟨rfl, hb1⟩; have B1 := Lib.hid (HB.out.trans (hb1.mono HB.out.size)); have G1 := Lib.hid (HG.out.below hb1 (by simp)); have e10 : w1.cell? ⟨w.heap.size, 0, none⟩ = some (.int .i64 (n : Int)) := G1.out.cell 0; have e11 : w1.cell? ⟨w.heap.size, 1, none⟩ = some (.slice A ls.length c) := G1.out.cell 1; have z1 := G1.out.lt; clear hb1)
    refine (CC w1 ((HS.out.below B1.out).more B1.out.size) ((HX.out.below B1.out).more B1.out.size)).mono ?_
    clear CC
    rintro e w2 ⟨rfl, hb2⟩
    have B2 := Lib.hid (B1.out.trans (hb2.mono B1.out.size))
    clear hb2
    go_wp2_with fail
    go_ret
    exact ⟨ret_int HE.out.symm, B2.out⟩

end Go.Proofs.Ytenlofomkchlaac

/-
  Contracts over this seat: whether a path is the only shortest one; the first label of a path.
-/
namespace Go.Proofs.Ytenlofomkchlaac
open Go.RowKit Go.Maps

set_option maxRecDepth 100000 in
set_option maxHeartbeats 400000 in
theorem equal_any (X Y : Option Addr) (xs ys : List Int) (cx cy : Nat) (w : World) (hmx : xs.length ≤ 2000000) (h1 : Sli w w.heap.size X xs) (h2 : Sli w w.heap.size Y ys) :
   Calls Try.prog 74 #[.slice X xs.length cx, .slice Y ys.length cy] w fun e w' => e = .returned (.bool (decide (xs = ys))) ∧ Below w.heap.size w w' := by
  have R1 := Lib.hid h1
  have R2 := Lib.hid h2
  clear h1 h2
  by_cases hl : xs.length = ys.length
  · have HL := Lib.hid hl
    rw [← hl]
    clear hl
    go_enter Try.func74, Try.ntmps74
    go_wp2_with fail
    go_loopw [13] (fun i wr => ∃ k : Nat, k ≤ xs.length ∧ i = .int .i64 (k : Int) ∧ Hid (∀ j, j < k → xs[j]? = ys[j]?) ∧ Below w.heap.size w wr) (fun i _ => xs.length - (intOf i).toNat)
    case atStart => exact ⟨0, Nat.zero_le _, rfl, Lib.hid (fun j h => by omega), Below.refl _ _⟩
    case round =>
      obtain ⟨k, hk, rfl, HJ, hb⟩ := hrel
      by_cases hlt : k < xs.length
      · obtain ⟨x, hx⟩ : ∃ x, xs[k]? = some x := ⟨_, List.getElem?_eq_getElem hlt⟩
        obtain ⟨y, hy⟩ : ∃ y, ys[k]? = some y := ⟨_, List.getElem?_eq_getElem (by have := HL.out; omega)⟩
        obtain ⟨b, off, rfl, hbb, hc1⟩ := (R1.out.below hb) k x hx
        obtain ⟨b', off', rfl, hbb', hd1⟩ := (R2.out.below hb) k y hy
        have HX := Lib.hid hx
        have HY := Lib.hid hy
        clear hx hy
        by_cases hxy : x = y
        · subst hxy
          go_wp2
          try go_quiet (fail)
          try go_wp2
          go_roundw
          case rel =>
            refine ⟨k + 1, hlt, by go_num, Lib.hid (fun j hj => ?_), by first | exact hb | exact hb.drew | exact ⟨hb.os, hb.tape, hb.output, hb.size, hb.block⟩⟩
            by_cases hjk : j < k
            · exact HJ.out j hjk
            · obtain rfl : j = k := by omega
              rw [HX.out, HY.out]
          case measure => simp [intOf]; omega
        · have hxy' : (x != y) = true := by simp [hxy]
          have HN := Lib.hid hxy
          clear hxy
          go_wp2
          try go_quiet (fail)
          try go_wp2
          go_ret
          refine ⟨ret_bool ?_, by first | exact hb | exact hb.drew | exact ⟨hb.os, hb.tape, hb.output, hb.size, hb.block⟩⟩
          symm
          rw [decide_eq_false_iff_not]
          intro e
          have h1 := HX.out
          rw [e, HY.out] at h1
          exact HN.out (Option.some.inj h1).symm
      · obtain rfl : k = xs.length := by omega
        go_wp2
        go_ret
        refine ⟨ret_bool ?_, hb⟩
        symm
        rw [decide_eq_true_eq]
        refine List.ext_getElem? fun j => ?_
        by_cases hj : j < xs.length
        · exact HJ.out j hj
        · rw [List.getElem?_eq_none (by omega), List.getElem?_eq_none (by have := HL.out; omega)]
  · have hl' : ((xs.length : Int) != (ys.length : Int)) = true := by simp; omega
    have HN := Lib.hid hl
    clear hl
    go_enter Try.func74, Try.ntmps74
    go_wp2_with fail
    go_ret
    refine ⟨ret_bool ?_, Below.refl _ _⟩
    symm
    rw [decide_eq_false_iff_not]
    intro e
    exact HN.out (by rw [e])

set_option maxRecDepth 100000 in
set_option maxHeartbeats 800000 in
theorem only_impl (nn : Int) (A : Option Addr) (ls : List Lk) (c : Nat) (b o : Nat) (p : List Int) (cx : Nat) (w : World) (hm : ls.length ≤ 2000000) (hp0 : 0 < p.length) (hp9 : p.length ≤ 9) (hS : Sl w w.heap.size A ls) (hX : Sli w w.heap.size (some ⟨b, o, none⟩) p) :
   Calls Try.prog 44 #[gval nn A ls.length c, .slice (some ⟨b, o, none⟩) p.length cx] w fun e w' => e = .returned (.bool (onlyB nn ls p)) ∧ Below w.heap.size w w' := by
  have B0 : Below w.heap.size w (w.alloc (.cells #[.int .i64 nn, .slice A ls.length c] 32)) := by (repeat (first | exact Below.refl _ _ | (refine Below.alloc ?_ (by first | exact Nat.le_refl _ | omega | (simp; done) | (simp; omega)) _) | (refine Below.setCell ?_ (by first | exact Nat.le_refl _ | omega | (simp; done) | (simp; omega)) _) | exact Below.drew ‹_›))
  have HB := Lib.hid B0
  have HG := Lib.hid (Box.new w 32 #[.int .i64 nn, .slice A ls.length c])
  obtain ⟨q, hq⟩ : ∃ q, p.length = q + 1 := ⟨p.length - 1, by omega⟩
  obtain ⟨s, hs⟩ : ∃ s, p[0]? = some s := ⟨_, List.getElem?_eq_getElem hp0⟩
  obtain ⟨t, ht⟩ : ∃ t, p[q]? = some t := ⟨_, List.getElem?_eq_getElem (by omega)⟩
  have HE : Hid (onlyB nn ls p = (decide (countI nn ls s t = 1) && decide (p = pathI nn ls s t))) := Lib.hid (by
    unfold onlyB
    rw [getD_at hs, show p.length - 1 = q by omega, getD_at ht])
  obtain ⟨b1, o1, e1, hb1, c1⟩ := hX 0 s hs
  obtain ⟨b2, o2, e2, hb2, c2⟩ := hX q t ht
  cases e1
  cases e2
  have hsub : (p.length : Int) - 1 = (q : Int) := by omega
  have hwp : IntKind.i64.wrap (q : Int) = (q : Int) := IntWalk.i64_in _ (by omega)
  have hql : q < p.length := by omega
  have x1 : (w.alloc (.cells #[.int .i64 nn, .slice A ls.length c] 32)).cell? ⟨b, o, none⟩ = some (.int .i64 s) := by
    rw [← Nat.add_zero o]
    exact (B0.cell (p := ⟨b, o + 0, none⟩) hb1).trans c1
  have x2 : (w.alloc (.cells #[.int .i64 nn, .slice A ls.length c] 32)).cell? ⟨b, o + q, none⟩ = some (.int .i64 t) := (B0.cell (p := ⟨b, o + q, none⟩) hb2).trans c2
  have CC := fun W (h : Sl W W.heap.size A ls) => count_impl nn A ls c s t W hm h
  have CP := fun W (h : Sl W W.heap.size A ls) => path_impl nn A ls c s t W hm h
  have CE := fun (Y : Option Addr) (cy : Nat) W (h : Sli W W.heap.size (some ⟨b, o, none⟩) p) (h' : Sli W W.heap.size Y (pathI nn ls s t)) => equal_any (some ⟨b, o, none⟩) Y p (pathI nn ls s t) cx cy W (by omega) h h'
  have HS := Lib.hid hS
  have HX := Lib.hid hX
  have zb : b < (w.alloc (.cells #[.int .i64 nn, .slice A ls.length c] 32)).heap.size := by simp; omega
  clear hS hX c1 c2 hb1 hb2 hs ht hq
  generalize pathI nn ls s t = r at *
  go_enter Try.func44, Try.ntmps44
  go_wp2_with fail
  go_quiet (fail)
  have HB1 := Lib.hid (show Below w.heap.size w ((w.alloc (.cells #[.int .i64 nn, .slice A ls.length c] 32)).drewN nq) from ⟨HB.out.os, HB.out.tape, HB.out.output, HB.out.size, HB.out.block⟩)
  clear x1 x2 zb B0
  by_cases hc : countI nn ls s t = 1
  · rw [hc] at CC HE
    clear hc
    go_wp2_with fail
    refine (CC _ ((HS.out.below HB1.out).more HB1.out.size)).mono ?_
    clear CC
    rintro e w1 ⟨rfl, hb1⟩
    have B1 := Lib.hid (HB1.out.trans (hb1.mono HB1.out.size))
    have G1 := Lib.hid (Box.below (w := (w.alloc (.cells #[.int .i64 nn, .slice A ls.length c] 32)).drewN nq) HG.out hb1 (by simp))
    have e10 : w1.cell? ⟨w.heap.size, 0, none⟩ = some (.int .i64 nn) := G1.out.cell 0
    have e11 : w1.cell? ⟨w.heap.size, 1, none⟩ = some (.slice A ls.length c) := G1.out.cell 1
    have z1 := G1.out.lt
    clear hb1
    go_wp2_with fail
    refine (CP _ ((HS.out.below B1.out).more B1.out.size)).mono ?_
    clear CP
    rintro e w2 ⟨A2, g2, c2, rfl, hg2, ho2, hb2⟩
    have B2 := Lib.hid (B1.out.trans (hb2.mono B1.out.size))
    have O2 := Lib.hid ho2
    clear hb2 ho2 hg2 e10 e11 z1
    go_wp2_with fail
    refine (CE _ _ _ ((HX.out.below B2.out).more B2.out.size) O2.out.sli).mono ?_
    clear CE
    rintro e w3 ⟨rfl, hb3⟩
    have B3 := Lib.hid (B2.out.trans (hb3.mono B2.out.size))
    clear hb3
    go_wp2_with fail
    go_ret
    exact ⟨ret_bool (by rw [HE.out]; simp), B3.out⟩
  · have hc' : (countI nn ls s t == 1) = false := by simpa using hc
    have HE2 : Hid (onlyB nn ls p = false) := Lib.hid (by rw [HE.out, decide_eq_false hc]; rfl)
    generalize countI nn ls s t = k at *
    clear hc HE
    go_wp2_with fail
    refine (CC _ ((HS.out.below HB1.out).more HB1.out.size)).mono ?_
    clear CC
    rintro e w1 ⟨rfl, hb1⟩
    have B1 := Lib.hid (HB1.out.trans (hb1.mono HB1.out.size))
    clear hb1
    go_wp2_with fail
    go_ret
    exact ⟨ret_bool HE2.out.symm, B1.out⟩

set_option maxRecDepth 100000 in
set_option maxHeartbeats 1600000 in
theorem first_only (n : Nat) (A : Option Addr) (ls : List Lk) (c : Nat) (b o : Nat) (xs : List Int) (cx : Nat)  (l : Lb) (q : Nat) (pr : Nat → Bool) (I : World → Prop) (w : World) (hm : ls.length ≤ 2000000) (h2 : 2 ≤ xs.length) (hl9 : xs.length ≤ 9) (hcx : xs.length ≤ cx)
    (hI : ∀ W W' : World, I W → Below W.heap.size W W' → I W') (hS : ∀ W : World, I W → Sl W W.heap.size A ls) (h0 : I w) (hX : Sli w w.heap.size (some ⟨b, o, none⟩) xs)
    (HF : ∀ (k : Nat) (y : Int), 0 < k → k ≤ xs.length - 1 → xs[k]? = some y → pr k = true → (∀ j, k < j → j ≤ xs.length - 1 → pr j = false) → l = ⟨1, y⟩ ∧ q = k)
    (HN : ∀ s t : Int, xs[0]? = some s → xs[1]? = some t → (∀ j, 0 < j → j ≤ xs.length - 1 → pr j = false) → l = ⟨2, linkI (n : Int) ls s t⟩ ∧ q = 1)
    (CO : ∀ (k : Nat) (W : World), 0 < k → k < xs.length → I W → Sli W W.heap.size (some ⟨b, o, none⟩) xs → Calls Try.prog 44 #[gval (n : Int) A ls.length c, .slice (some ⟨b, o, none⟩) (k + 1) cx] W fun e w' => e = .returned (.bool (pr k)) ∧ Below W.heap.size W w') :
   Calls Try.prog 73 #[gval (n : Int) A ls.length c, .slice (some ⟨b, o, none⟩) xs.length cx, .func (.func 44) #[gval (n : Int) A ls.length c] #[]] w fun e w' =>
     e = .returned (.tuple #[l.v, .int .i64 (q : Nat)]) ∧ Below w.heap.size w w' := by
  have B0 : Below w.heap.size w ((w.alloc (.cells #[.int .i64 (n : Int), .slice A ls.length c] 32)).alloc (.cells #[.int .i64 0, .int .i64 0] 53)) := by (repeat (first | exact Below.refl _ _ | (refine Below.alloc ?_ (by first | exact Nat.le_refl _ | omega | (simp; done) | (simp; omega)) _) | (refine Below.setCell ?_ (by first | exact Nat.le_refl _ | omega | (simp; done) | (simp; omega)) _) | exact Below.drew ‹_›))
  have L0 := Box.new (w.alloc (.cells #[.int .i64 (n : Int), .slice A ls.length c] 32)) 53 #[.int .i64 0, .int .i64 0]
  rw [World.size_alloc] at L0
  have HB := Lib.hid B0
  have HG := Lib.hid ((Box.new w 32 #[.int .i64 (n : Int), .slice A ls.length c]).alloc (.cells #[.int .i64 0, .int .i64 0] 53))
  have HL := Lib.hid L0
  have HI := Lib.hid hI
  have HW0 := Lib.hid h0
  have HX := Lib.hid hX
  have HSI := Lib.hid hS
  have HFF := Lib.hid HF
  have HNN := Lib.hid HN
  have HCO := Lib.hid CO
  have hz0 : w.heap.size < ((w.alloc (.cells #[.int .i64 (n : Int), .slice A ls.length c] 32)).alloc (.cells #[.int .i64 0, .int .i64 0] 53)).heap.size := by simp; omega
  clear hS hX B0 L0 hI h0 HF HN CO
  obtain ⟨m, hm1⟩ : ∃ m, xs.length = m + 1 := ⟨xs.length - 1, by omega⟩
  have hsub : (xs.length : Int) - 1 = (m : Int) := by omega
  have hwp : IntKind.i64.wrap (m : Int) = (m : Int) := IntWalk.i64_in _ (by omega)
  have HM : Hid (xs.length - 1 = m) := Lib.hid (by omega)
  have HM1 := Lib.hid hm1
  have hmm : 1 ≤ m ∧ m ≤ 8 := by omega
  clear hm1
  go_enter Try.func73, Try.ntmps73
  go_wp2_with fail
  go_loopw [8] (fun i wr => ∃ k : Nat, k ≤ m ∧ i = .int .i64 (k : Int) ∧ Hid (∀ j, k < j → j ≤ m → pr j = false) ∧ Below w.heap.size w wr ∧ Box wr w.heap.size 32 #[.int .i64 (n : Int), .slice A ls.length c] ∧ Box wr (w.heap.size + 1) 53 #[.int .i64 0, .int .i64 0]) (fun i _ => (intOf i).toNat)
  case atStart => exact ⟨m, Nat.le_refl _, rfl, Lib.hid (fun j h1 h2 => by omega), HB.out, HG.out, HL.out⟩
  case round =>
    obtain ⟨k, hk, rfl, HJ, hb, hg, hlb⟩ := hrel
    have B1 := Lib.hid hb
    have G1 := Lib.hid hg
    have L1 := Lib.hid hlb
    obtain ⟨z1, e10, e11, -, -⟩ := hg.two
    obtain ⟨z2, d10, d11, q10, q11⟩ := hlb.two
    clear hg hlb HB HG HL hz0
    have HM1' := HM1.out
    by_cases hk0 : 0 < k
    · have hkl : k < xs.length := by omega
      obtain ⟨y, hy⟩ : ∃ y, xs[k]? = some y := ⟨_, List.getElem?_eq_getElem hkl⟩
      have HY := Lib.hid hy
      have hkc : k + 1 ≤ cx := by omega
      have hz := hb.size
      have I1 := Lib.hid (HI.out _ _ HW0.out hb)
      have X1 := Lib.hid ((HX.out.below hb).more hz)
      have CO := fun W (g1 : I W) (g2 : Sli W W.heap.size (some ⟨b, o, none⟩) xs) => HCO.out k W hk0 hkl g1 g2
      clear hy hb HM1'
      go_wp2_with fail
      refine (CO wr I1.out X1.out).mono ?_
      clear CO
      rintro e w2 ⟨rfl, hb2⟩
      have B2 := Lib.hid (B1.out.trans (hb2.mono hz))
      have G2 := Lib.hid (Box.below G1.out hb2 z1)
      have L2 := Lib.hid (Box.below L1.out hb2 z2)
      have X2 := Lib.hid ((HX.out.below B2.out).more B2.out.size)
      clear hb2 e10 e11 d10 d11 q10 q11 z1 z2
      cases hok : pr k with
      | true =>
        obtain ⟨b3, o3, e3, hb3, c3⟩ := X2.out k y HY.out
        cases e3
        obtain ⟨z3, d20, d21, q20, q21⟩ := L2.out.two
        have HN := Lib.hid (HFF.out k y hk0 (by omega) HY.out hok (fun j h1 h2 => HJ.out j h1 (by have := HM1.out; omega)))
        clear hok
        go_wp2_with fail
        obtain ⟨b2, r0, r1⟩ := ret_two L2.out (.int .i64 1) (.int .i64 y)
        refine bodyPost_ret (v := .tuple #[(⟨1, y⟩ : Lb).v, .int .i64 (k : Int)]) (by simp [results, Try.results73, go_sem, r0, r1]) rfl ?_
        exact ⟨by rw [HN.out.1, HN.out.2], (B2.out.setCell (p := ⟨w.heap.size + 1, 0, none⟩) (Nat.le_succ _) _).setCell (p := ⟨w.heap.size + 1, 1, none⟩) (Nat.le_succ _) _⟩
      | false =>
        have HNO := Lib.hid hok
        clear hok
        obtain ⟨q', hq⟩ : ∃ q : Nat, k = q + 1 := ⟨k - 1, by omega⟩
        have hsq : (k : Int) - 1 = (q' : Int) := by omega
        have hwq : IntKind.i64.wrap (q' : Int) = (q' : Int) := IntWalk.i64_in _ (by omega)
        have HQ := Lib.hid hq
        clear hq
        go_wp2_with fail
        go_roundw
        case rel => exact ⟨q', by have := HQ.out; omega, by first | rfl | go_num, Lib.hid (fun j h1 h2 => by
          by_cases hjk : k < j
          · exact HJ.out j hjk h2
          · obtain rfl : j = k := by have := HQ.out; omega
            exact HNO.out), B2.out, G2.out, L2.out⟩
        case measure => have := HQ.out; simp [intOf]; omega
    · obtain rfl : k = 0 := by omega
      obtain ⟨s, hs⟩ : ∃ s, xs[0]? = some s := ⟨_, List.getElem?_eq_getElem (by omega)⟩
      obtain ⟨t, ht⟩ : ∃ t, xs[1]? = some t := ⟨_, List.getElem?_eq_getElem (by omega)⟩
      obtain ⟨b1, o1, e1, hb1, c1⟩ := (HX.out.below hb) 0 s hs
      cases e1
      obtain ⟨b2, o2, e2, _, c2⟩ := (HX.out.below hb) 1 t ht
      cases e2
      rw [Nat.add_zero] at c1
      have hx0 : 0 < xs.length := by omega
      have hx1 : 1 < xs.length := by omega
      have HN := Lib.hid (HNN.out s t hs ht (fun j h1 h2 => HJ.out j h1 (by omega)))
      have hz := hb.size
      have CL := link_impl (n : Int) A ls c s t wr.drew hm (HSI.out _ (HI.out _ _ HW0.out B1.out.drew))
      generalize linkI (n : Int) ls s t = lk at *
      have zb : b < w.heap.size + 1 := by omega
      have zw : w.heap.size < w.heap.size + 1 := by omega
      have hX := fun (x : ExtB (w.heap.size + 1) wr.drew) (bb o : Nat) (h : bb < w.heap.size + 1) => (show x.w.cell? ⟨bb, o, none⟩ = wr.cell? ⟨bb, o, none⟩ from x.cell bb o h)
      clear hs ht hb HJ HM1'
      go_wp2_with fail
      refine wp_region_stg 11 (w.heap.size + 1) (by kernel_rfl) (by kernel_rfl) ?_
      refine stg_seg _ 4 [0, 1, 2, 3, 4, 5, 6] (by kernel_rfl) (by kernel_rfl) (by kernel_rfl) (by kernel_rfl) ?_
      (simp only [List.map_cons, List.map_nil, List.getElem?_cons_zero, List.getElem?_cons_succ, Option.getD_some]); (repeat (go_big_quiet_step (fail))); (refine wpQuiet_nil ?_)
      refine stg_one _ 3 7 (by kernel_rfl) (by rfl) (by kernel_rfl) (by rfl) ?_
      go_wp2_with fail
      refine CL.mono ?_
      clear CL
      rintro e w2 ⟨rfl, hb2⟩
      have B2 := Lib.hid (B1.out.drew.trans (hb2.mono hz))
      have L2 := Lib.hid (Box.below (w := wr.drew) L1.out hb2 z2)
      refine ⟨hb2.mono (by show w.heap.size + 1 ≤ wr.heap.size; omega), _, Nat.le_refl _, ?_⟩
      clear hb2 e10 e11 d10 d11 q10 q11 z1 z2 zb zw hX c1 c2
      obtain ⟨z3, d20, d21, q20, q21⟩ := L2.out.two
      refine stg_one _ 2 8 (by kernel_rfl) (by rfl) (by kernel_rfl) (by rfl) ?_
      go_wp2_with fail
      refine ⟨Below.refl _ _, _, Nat.le_refl _, ?_⟩
      refine stg_one _ 1 9 (by kernel_rfl) (by rfl) (by kernel_rfl) (by rfl) ?_
      go_wp2_with fail
      refine ⟨((Below.refl _ _).setCell (p := ⟨w.heap.size + 1, 0, none⟩) (Nat.le_refl _) _).setCell (p := ⟨w.heap.size + 1, 1, none⟩) (Nat.le_refl _) _, _, Nat.le_refl _, ?_⟩
      refine stg_seg _ 0 [10] (by kernel_rfl) (by kernel_rfl) (by kernel_rfl) (by kernel_rfl) ?_
      (simp only [List.map_cons, List.map_nil, List.getElem?_cons_zero, List.getElem?_cons_succ, Option.getD_some]); (repeat (go_big_quiet_step (fail))); (refine wpQuiet_nil ?_)
      refine stg_end (by kernel_rfl) ?_
      go_wp2_with fail
      obtain ⟨b3, r0, r1⟩ := ret_two L2.out (.int .i64 2) (.int .i64 lk)
      refine bodyPost_ret (v := .tuple #[(⟨2, lk⟩ : Lb).v, .int .i64 (1 : Nat)]) (by simp [results, Try.results73, go_sem, r0, r1]) rfl ?_
      exact ⟨by rw [HN.out.1, HN.out.2], (B2.out.setCell (p := ⟨w.heap.size + 1, 0, none⟩) (Nat.le_succ _) _).setCell (p := ⟨w.heap.size + 1, 1, none⟩) (Nat.le_succ _) _⟩
end Go.Proofs.Ytenlofomkchlaac

/-
  Contracts over this seat: the program's StackCompile.
-/
namespace Go.Proofs.Ytenlofomkchlaac
open Go.RowKit Go.Maps

/-- The labels of a path that has only shortest parts. -/
theorem compile_only (n : Nat) (A : Option Addr) (ls : List Lk) (c : Nat) (b : Nat) (hm : ls.length ≤ 2000000) (d o : Nat) (xs : List Int) (cx : Nat) (w : World) (hd : xs.length ≤ d) (hp : PV n ls xs) (hcx : xs.length ≤ cx) (hS : Sl w w.heap.size A ls) (hX : Sli w w.heap.size (some ⟨b, o, none⟩) xs) :
   Calls Try.prog 43 #[gval (n : Int) A ls.length c, .slice (some ⟨b, o, none⟩) xs.length cx, .func (.func 44) #[gval (n : Int) A ls.length c] #[]] w fun e w' => ∃ v, e = .returned (.pointer v) ∧ LLst w' v (cmpA (n : Int) ls xs) ∧ Below w.heap.size w w' :=
  compile_gen n A ls c (.func (.func 44) #[gval (n : Int) A ls.length c] #[]) b (fun W => Sl W W.heap.size A ls) (PV n ls) (cmpA (n : Int) ls)
    (fun W W' h hb => (h.below hb).more hb.size) (fun xs _ h => cmpA_one h)
    (fun xs hx h2 h9 => by
      have he0 := nxtN_gt (okP (n : Int) ls xs) (xs.length - 1) 0
      have he1 := nxtN_le (ok := okP (n : Int) ls xs) (m := xs.length - 1) (i := 0) (by omega)
      refine ⟨mkL (n : Int) ls xs 0 (nxtN (okP (n : Int) ls xs) (xs.length - 1) 0), nxtN (okP (n : Int) ls xs) (xs.length - 1) 0, ⟨he0, by omega⟩, hx.drop (by omega), cmpA_cons h2, fun o cx W hcx hI hX => ?_⟩
      refine first_only n A ls c b o xs cx _ _ (okP (n : Int) ls xs 0) (fun W => Sl W W.heap.size A ls) W hm h2 h9 hcx (fun W W' h hb => (h.below hb).more hb.size) (fun W h => h) hI hX ?_ ?_ ?_
      · intro k y h0 hk hy hok hr
        have hn : nxtN (okP (n : Int) ls xs) (xs.length - 1) 0 = k := nxtN_most hx.her h0 hk hok (fun e' h1 h2 => hr e' h1 h2)
        rw [hn]
        exact ⟨by unfold mkL; rw [if_pos hok, getD_at hy], rfl⟩
      · intro s t hs ht hr
        have hn : nxtN (okP (n : Int) ls xs) (xs.length - 1) 0 = 1 := nxtN_none (fun e' h1 h2 => hr e' (by omega) h2) (by omega)
        rw [hn]
        exact ⟨by unfold mkL; rw [hr 1 (by omega) (by omega), if_neg Bool.false_ne_true, getD_at hs, getD_at ht], rfl⟩
      · intro k W h0 hk hI hX
        have hkt : (xs.take (k + 1)).length = k + 1 := by simp; omega
        have hw : onlyB (n : Int) ls (xs.take (k + 1)) = okP (n : Int) ls xs 0 k := by rw [← subP_zero]; exact onlyB_okP hx (Nat.zero_le _) hk
        have := only_impl (n : Int) A ls c b o (xs.take (k + 1)) cx W hm (by omega) (by omega) hI (by have := hX.piece 0 (k + 1); simpa using this)
        rwa [hkt, hw] at this)
    d o xs cx w hd hp hp.pos hp.len hcx hS hX

/-- What StackCompile leaves. -/
def CmpR (nn : Int) (ls : List Lk) (xs : List Int) (w : World) (e : Ending) (w' : World) : Prop :=
  ∃ A g c, e = .returned (.tuple #[.slice A (cmpI nn ls xs).length c, .bool (pvB nn ls xs)]) ∧ w.heap.size ≤ g ∧ Ownb w' A g (cmpI nn ls xs) ∧ Below w.heap.size w w' ∧ (cmpI nn ls xs).length ≤ c
theorem cmpI_PV {n : Nat} {ls : List Lk} {xs : List Int} (h : PV n ls xs) : cmpI (n : Int) ls xs = cmpA (n : Int) ls xs := by unfold cmpI; rw [if_pos h.pvB]
theorem cmpI_no {nn : Int} {ls : List Lk} {xs : List Int} (h : pvB nn ls xs = false) : cmpI nn ls xs = [] := by unfold cmpI; rw [h]; rfl
theorem cmpI_len (nn : Int) (ls : List Lk) (xs : List Int) : (cmpI nn ls xs).length ≤ 8 := by
  cases hv : pvB nn ls xs with
  | false => rw [cmpI_no hv]; simp
  | true =>
    obtain ⟨n, rfl, hp⟩ := pvB_PV hv
    rw [cmpI_PV hp]
    have := hp.few xs.length
    have := hp.len
    unfold cmpA
    omega

set_option maxRecDepth 100000 in
set_option maxHeartbeats 800000 in
theorem stackCompile_impl (nn : Int) (A : Option Addr) (ls : List Lk) (c : Nat) (X : Option Addr) (xs : List Int) (cx : Nat) (w : World) (hm : ls.length ≤ 2000000) (hmx : xs.length ≤ 2000000) (hcx : xs.length ≤ cx) (hS : Sl w w.heap.size A ls) (hX : Sli w w.heap.size X xs) :
   Calls Try.prog 15 #[gval nn A ls.length c, .slice X xs.length cx] w (CmpR nn ls xs w) := by
  have B0 : Below w.heap.size w (w.alloc (.cells #[.int .i64 nn, .slice A ls.length c] 32)) := by (repeat (first | exact Below.refl _ _ | (refine Below.alloc ?_ (by first | exact Nat.le_refl _ | omega | (simp; done) | (simp; omega)) _) | (refine Below.setCell ?_ (by first | exact Nat.le_refl _ | omega | (simp; done) | (simp; omega)) _) | exact Below.drew ‹_›))
  have HB := Lib.hid B0
  have HG := Lib.hid (Box.new w 32 #[.int .i64 nn, .slice A ls.length c])
  have C1 := pathValid_impl nn A ls c X xs cx (w.alloc (.cells #[.int .i64 nn, .slice A ls.length c] 32)) hm hmx ((hS.below B0).more B0.size) ((hX.below B0).more B0.size)
  have HS := Lib.hid hS
  have HX := Lib.hid hX
  clear hS hX B0
  cases hv : pvB nn ls xs with
  | false =>
    rw [hv] at C1
    have HE := Lib.hid (cmpI_no hv)
    have HV := Lib.hid hv
    clear hv
    go_enter Try.func15, Try.ntmps15
    go_wp2_with (go_at_call 42; refine C1.mono ?_; clear C1; rintro e w1 ⟨rfl, hb1⟩; have B1 := Lib.hid (HB.out.trans (hb1.mono HB.out.size)); clear hb1)
    go_returns
    unfold CmpR
    rw [HE.out, HV.out]
    exact ⟨_, w1.heap.size, 0, rfl, B1.out.size, fun h => by simp at h, B1.out.alloc B1.out.size _, Nat.le_refl _⟩
  | true =>
    rw [hv] at C1
    obtain ⟨n, rfl, hp⟩ := pvB_PV hv
    have hpos := hp.pos
    obtain ⟨b, o, rfl, -, -⟩ := HX.out 0 _ (List.getElem?_eq_getElem hpos)
    have HE := Lib.hid (cmpI_PV hp)
    have HV := Lib.hid hv
    have h8 := cmpI_len (n : Int) ls xs
    rw [HE.out] at h8
    have CC := fun W (h1 : Sl W W.heap.size A ls) (h2 : Sli W W.heap.size (some ⟨b, o, none⟩) xs) => compile_only n A ls c b hm xs.length o xs cx W (Nat.le_refl _) hp hcx h1 h2
    generalize cmpA (n : Int) ls xs = st at *
    clear hv hp
    go_enter Try.func15, Try.ntmps15
    go_wp2_with (go_at_call 42; refine C1.mono ?_; clear C1; rintro e w1 ⟨rfl, hb1⟩; have B1 := Lib.hid (HB.out.trans (hb1.mono HB.out.size)); have G1 := Lib.hid (HG.out.below hb1 (by simp)); have e10 : w1.cell? ⟨w.heap.size, 0, none⟩ = some (.int .i64 (n : Int)) := G1.out.cell 0; have e11 : w1.cell? ⟨w.heap.size, 1, none⟩ = some (.slice A ls.length c) := G1.out.cell 1; have z1 := G1.out.lt; clear hb1)
    refine (CC w1 ((HS.out.below B1.out).more B1.out.size) ((HX.out.below B1.out).more B1.out.size)).mono ?_
    clear CC
    rintro e w2 ⟨v, rfl, hv, hb2⟩
    have B2 := Lib.hid (B1.out.trans (hb2.mono B1.out.size))
    have CL := labels_impl v st w2 (by omega) hv
    clear hb2 hv e10 e11 z1
    go_wp2_with fail
    refine CL.mono ?_
    clear CL
    rintro e w3 ⟨A3, g3, c3, rfl, hg3, ho3, hb3, hc3⟩
    have B3 := Lib.hid (B2.out.trans (hb3.mono B2.out.size))
    have O3 := Lib.hid ho3
    have hz2 := B2.out.size
    clear hb3 ho3
    go_wp2_with fail
    go_returns
    unfold CmpR
    rw [HE.out, HV.out]
    exact ⟨A3, g3, c3, rfl, by omega, O3.out, B3.out, hc3⟩


end Go.Proofs.Ytenlofomkchlaac
