/-
  Contracts over this seat: ShortestPath, of the program and of the specification.
-/
import Derived.Test.YtblmmmeeljidiabHb
import Derived.Test.YtblmmmeeljidiabPg
import Derived.Test.YtblmmmeeljidiabPl
namespace Go.Proofs.Ytblmmmeeljidiab
open Go.RowKit Go.Maps

set_option maxHeartbeats 400000 in
theorem index_any (A : Option Addr) (xs : List Int) (c : Nat) (v : Int) (w : World) (hm : xs.length ≤ 2000000) (h1 : Sli w w.heap.size A xs) :
   Calls Try.prog 114 #[.slice A xs.length c, .int .i64 v] w fun e w' => (∃ r : Int, e = .returned (.int .i64 r) ∧ (0 ≤ r ↔ v ∈ xs)) ∧ w = w' := by
  have H1 := Lib.hid h1
  clear h1
  go_enter Try.func114, Try.ntmps114
  go_wp2_with fail
  go_loop [8] (fun i => ∃ k : Nat, k ≤ xs.length ∧ i = .int .i64 k ∧ ∀ j y, j < k → xs[j]? = some y → y ≠ v) (fun i => xs.length - (intOf i).toNat)
  case atStart => exact ⟨0, Nat.zero_le _, rfl, fun j y h => by omega⟩
  case round =>
    obtain ⟨k, hk, rfl, hall⟩ := hrel
    have HA := Lib.hid hall
    clear hall
    by_cases hlt : k < xs.length
    · obtain ⟨y, hy⟩ : ∃ y, xs[k]? = some y := ⟨_, List.getElem?_eq_getElem hlt⟩
      obtain ⟨b, off, rfl, hbb, hc⟩ := H1.out k y hy
      have HY := Lib.hid hy
      clear hy
      by_cases hvy : v = y
      · have hvy' : (v == y) = true := by simp [hvy]
        have HV := Lib.hid hvy
        clear hvy
        go_wp2_with fail
        go_ret
        refine ⟨⟨_, rfl, ?_⟩, rfl⟩
        have := List.mem_of_getElem? HY.out
        rw [← HV.out] at this
        simp [this]
      · have hvy' : (v == y) = false := by simpa using hvy
        have HV := Lib.hid hvy
        clear hvy
        go_wp2_with fail
        go_round
        case rel =>
          refine ⟨k + 1, hlt, by go_num, fun j z hj hz => ?_⟩
          by_cases hjk : j < k
          · exact HA.out j z hjk hz
          · obtain rfl : j = k := by omega
            rw [HY.out] at hz
            cases hz
            exact fun e => HV.out e.symm
        case measure => simp [intOf]; omega
    · have hge : xs.length ≤ k := by omega
      go_wp2_with fail
      go_ret
      refine ⟨⟨_, rfl, ?_⟩, rfl⟩
      have : v ∉ xs := fun h => by
        obtain ⟨j, hj⟩ := List.getElem?_of_mem h
        exact HA.out j v (by have := (List.getElem?_eq_some_iff.1 hj).1; omega) hj rfl
      simp [this]
theorem contains_any (A : Option Addr) (xs : List Int) (c : Nat) (v : Int) (w : World) (hm : xs.length ≤ 2000000) (h1 : Sli w w.heap.size A xs) :
   Calls Try.prog 112 #[.slice A xs.length c, .int .i64 v] w fun e w' => e = .returned (.bool (decide (v ∈ xs))) ∧ w = w' := by
  have C1 := index_any A xs c v w hm h1
  clear h1
  go_enter Try.func112, Try.ntmps112
  go_wp2_with (go_at_call 114; refine C1.mono ?_; clear C1; rintro e w1 ⟨⟨r, rfl, hr⟩, rfl⟩; have HR := Lib.hid hr; clear hr)
  go_ret
  exact ⟨ret_bool (by rw [decide_eq_decide]; exact HR.out), rfl⟩

theorem take_snoc {xs : List Int} {k : Nat} {a : Int} (h : xs[k]? = some a) : xs.take (k + 1) = xs.take k ++ [a] := by
  rw [List.take_add_one, h]; rfl
theorem path_last {n : Nat} {ls : List Lk} {s t : Int} {p : List Int} (h : IsP n ls t s p) {k : Nat} (hk : p[k]? = some t) : p = p.take k ++ [t] := by
  have hr := (h.rest hk).uniq (show IsP n ls t t [t] from .last)
  rw [← hr, List.take_append_drop]
theorem path_next {n : Nat} {ls : List Lk} {s t : Int} {p : List Int} (h : IsP n ls t s p) {k : Nat} {a : Int} (hk : p[k]? = some a) (ha : a ≠ t) : ∃ b zs, p[k + 1]? = some b ∧ hopsL (n : Int) ls a t = b :: zs := by
  have hr := h.rest hk
  generalize hq : p.drop k = q at hr
  cases hr with
  | last => exact absurd rfl ha
  | @step _ b zs p' h1 h2 h3 h4 hp =>
    refine ⟨b, zs, ?_, h2⟩
    have h5 := hp.head.1
    have : (p.drop k)[1]? = some b := by rw [hq]; simpa using h5
    rwa [List.getElem?_drop] at this

set_option maxRecDepth 100000 in
set_option maxHeartbeats 1600000 in
theorem path_implC (nn : Int) (A : Option Addr) (ls : List Lk) (c : Nat) (s t : Int) (w : World) (hm : ls.length ≤ 2000000) (hS : Sl w w.heap.size A ls) :
   Calls Try.prog 111 #[gval nn A ls.length c, .int .i64 s, .int .i64 t] w (NewC (pathI nn ls s t) w) := by
  obtain ⟨i0, hi, hz0, hz1, hz2⟩ := info_parts infoInt
  have B0 : Below w.heap.size w ((w.alloc (.cells #[.int .i64 nn, .slice A ls.length c] 25)).alloc (.cells #[] 3)) := by (repeat (first | exact Below.refl _ _ | (refine Below.alloc ?_ (by first | exact Nat.le_refl _ | omega | (simp; done) | (simp; omega)) _) | (refine Below.setCell ?_ (by first | exact Nat.le_refl _ | omega | (simp; done) | (simp; omega)) _) | exact Below.drew ‹_›))
  have G0 := (Box.new w 25 #[.int .i64 nn, .slice A ls.length c]).alloc (.cells #[] 3)
  have E0 := Box.new (w.alloc (.cells #[.int .i64 nn, .slice A ls.length c] 25)) 3 #[]
  rw [World.size_alloc] at E0
  have P0 : PL w #[.int .i64 nn, .slice A ls.length c] (.slice (some ⟨w.heap.size + 1, 0, none⟩) 0 0) [] ((w.alloc (.cells #[.int .i64 nn, .slice A ls.length c] 25)).alloc (.cells #[] 3)) :=
    ⟨⟨by simp, .inr ⟨w.heap.size + 1, 0, #[], rfl, Nat.le_refl _, E0, Nat.le_refl _, by omega, rfl, by simp⟩⟩, B0, G0⟩
  have C1 := reach_impl nn A ls c s _ hm ((hS.below B0).more B0.size)
  have HS := Lib.hid hS
  have HP0 := Lib.hid P0
  have hr8 := reachL_len nn ls s
  have HRP : Hid (t ∈ reachL nn ls s ↔ pathI nn ls s t ≠ []) := Lib.hid reach_path
  clear hS B0 G0 E0 P0
  generalize reachL nn ls s = rs at *
  go_enter Try.func111, Try.ntmps111
  go_wp2_with fail
  refine C1.mono ?_
  clear C1
  rintro e w1 ⟨A3, g3, c3, rfl, hg3, ho3, hb3⟩
  have P1 := Lib.hid (HP0.out.call hb3)
  have R1 := Lib.hid ho3
  clear hb3 ho3 hg3 HP0
  have C2 := contains_any A3 rs c3 t w1 (by omega) R1.out.sli
  by_cases hin : t ∈ rs
  · rw [decide_eq_true hin] at C2
    obtain ⟨n, rfl, hv, h0, hp⟩ := pathI_some (HRP.out.1 hin)
    obtain ⟨hg, hs, ht⟩ := vwB_two hv
    have HG := Lib.hid hg
    have HIP := Lib.hid hp
    have hpl := pathI_len (n : Int) ls s t
    have hh := hp.head.1
    generalize pathI (n : Int) ls s t = p at *
    have HH := Lib.hid hh
    clear hin hv hg hp hh HRP
    go_wp2_with fail
    refine C2.mono ?_
    clear C2
    rintro e w2 ⟨rfl, rfl⟩
    go_wp2_with fail
    go_loopw [7, 8] (fun v i wr => ∃ (k : Nat) (a : Int), p[k]? = some a ∧ i = .int .i64 a ∧ PL w #[.int .i64 (n : Int), .slice A ls.length c] v (p.take k) wr) (fun _ i _ => (bf (n : Int) ls t (intOf i)).toNat)
    case atStart => exact ⟨0, s, HH.out, rfl, P1.out⟩
    case round =>
      obtain ⟨k, a, ha, rfl, hP⟩ := hrel
      have P2 := Lib.hid hP
      have e20 := hP.box.cell 0
      have e21 := hP.box.cell 1
      have z2 := hP.box.lt
      have hkl := (List.getElem?_eq_some_iff.1 ha).1
      have hta : (p.take k).length ≤ 8 := by simp; omega
      have HA := Lib.hid ha
      clear hP ha P1
      by_cases hat : a = t
      · have hat' : (a != t) = false := by simp [hat]
        have HAT := Lib.hid hat
        clear hat
        go_wp2_with (at_builtin; refine wpList_append_own_at _ rfl _ _ 33 rfl (w.heap.size + 1) 3 i0 _ 1 8 Try.underlying33 hi hz0 hz1 hz2 rfl (by decide) _ (p.take k).length _ rfl (P2.out.row.alloc _) ⟨wr.heap.size, 0, none⟩ 1 1 [.int .i64 t] rfl rfl (fun j u h => by obtain rfl : j = 0 := (by have := (List.getElem?_eq_some_iff.1 h).1; simpa using this); cases h; exact (Box.new wr 3 #[.int .i64 t]).cell 0) (fun u hu => by simp at hu; subst hu; rfl) (by unfold maxLen; omega) (by omega) (by simp; omega) ?_; intro v' w3 hown' hgrow _ hat; have HN := Lib.hid (P2.out.append hown' hgrow); clear hown' hgrow hat)
        have hfin := HN.out.doneC
        have hpe := path_last HIP.out (by rw [← HAT.out]; exact HA.out)
        rw [← hpe] at hfin
        go_ret
        exact hfin
      · have hat' : (a != t) = true := by simp [hat]
        obtain ⟨b, zs, hb, hh⟩ := path_next HIP.out HA.out hat
        obtain ⟨h1, _, h3, h4⟩ := hops_node (vwB_of HG.out (HIP.out.two HA.out hb).2.2.1 ht) (show b ∈ hopsL (n : Int) ls a t by rw [hh]; simp)
        have C3 : ∀ V : World, Sl V V.heap.size A ls → Calls Try.prog 57 #[gval (n : Int) A ls.length c, .int .i64 a, .int .i64 t] V (NewI (b :: zs) V) := fun V hV => by
          have := hops_impl (n : Int) A ls c a t V hm hV
          rwa [hh] at this
        have HT := Lib.hid (take_snoc HA.out)
        have HB := Lib.hid hb
        have HM := Lib.hid (show (bf (n : Int) ls t b).toNat < (bf (n : Int) ls t a).toNat by omega)
        clear hat hh hb h1 h3 h4
        go_wp2_with (at_builtin; refine wpList_append_own_at _ rfl _ _ 33 rfl (w.heap.size + 1) 3 i0 _ 1 8 Try.underlying33 hi hz0 hz1 hz2 rfl (by decide) _ (p.take k).length _ rfl (P2.out.row.alloc _) ⟨wr.heap.size, 0, none⟩ 1 1 [.int .i64 a] rfl rfl (fun j u h => by obtain rfl : j = 0 := (by have := (List.getElem?_eq_some_iff.1 h).1; simpa using this); cases h; exact (Box.new wr 3 #[.int .i64 a]).cell 0) (fun u hu => by simp at hu; subst hu; rfl) (by unfold maxLen; omega) (by omega) (by simp; omega) ?_; intro v' w3 hown' hgrow _ hat; have HN := Lib.hid (P2.out.append hown' hgrow); have e30 := HN.out.box.cell 0; have e31 := HN.out.box.cell 1; clear hown' hgrow hat)
        clear e20 e21 z2
        refine (C3 w3 ((HS.out.below HN.out.bel).more HN.out.bel.size)).mono ?_
        clear C3
        rintro e w4 ⟨A5, g5, c5, rfl, hg5, ho5, hb5⟩
        have HN2 := Lib.hid (HN.out.call hb5)
        obtain ⟨rfl, zg5, hc5⟩ := ho5.at (show (b :: zs)[0]? = some b from rfl)
        clear hb5 ho5 hg5 e30 e31
        go_wp2_with fail
        go_roundw
        case rel => exact ⟨k + 1, b, HB.out, rfl, by rw [HT.out]; exact HN2.out⟩
        case measure => have := HM.out; simpa [intOf] using this
  · rw [decide_eq_false hin] at C2
    have e : pathI nn ls s t = [] := Classical.byContradiction fun h => hin (HRP.out.2 h)
    have HE := Lib.hid e
    clear hin HRP e
    go_wp2_with fail
    refine C2.mono ?_
    clear C2
    rintro e w2 ⟨rfl, rfl⟩
    go_wp2_with fail
    have hfin := P1.out.doneC
    go_ret
    rw [HE.out]
    exact hfin

theorem path_impl (nn : Int) (A : Option Addr) (ls : List Lk) (c : Nat) (s t : Int) (w : World) (hm : ls.length ≤ 2000000) (hS : Sl w w.heap.size A ls) :
   Calls Try.prog 111 #[gval nn A ls.length c, .int .i64 s, .int .i64 t] w (NewI (pathI nn ls s t) w) :=
  (path_implC nn A ls c s t w hm hS).mono fun _ _ h => h.newI

set_option maxRecDepth 100000 in
set_option maxHeartbeats 1600000 in
theorem l2path_anyC (n : Nat) (A : Option Addr) (ls : List Lk) (c : Nat) (s t : Int) (w : World) (hg : gvB (n : Int) ls = true) (hs : 0 ≤ s ∧ s < (n : Int)) (ht : 0 ≤ t ∧ t < (n : Int)) (hS : Sl w w.heap.size A ls) :
   Calls Try.prog 74 #[gval (n : Int) A ls.length c, .int .i64 s, .int .i64 t] w (NewC (pathI (n : Int) ls s t) w) := by
  obtain ⟨i0, hi, hz0, hz1, hz2⟩ := info_parts infoInt
  have B0 : Below w.heap.size w ((w.alloc (.cells #[.int .i64 (n : Int), .slice A ls.length c] 25)).alloc (.cells #[.int .i64 s] 3)) := by (repeat (first | exact Below.refl _ _ | (refine Below.alloc ?_ (by first | exact Nat.le_refl _ | omega | (simp; done) | (simp; omega)) _) | (refine Below.setCell ?_ (by first | exact Nat.le_refl _ | omega | (simp; done) | (simp; omega)) _) | exact Below.drew ‹_›))
  have G0 := (Box.new w 25 #[.int .i64 (n : Int), .slice A ls.length c]).alloc (.cells #[.int .i64 s] 3)
  have E0 := Box.new (w.alloc (.cells #[.int .i64 (n : Int), .slice A ls.length c] 25)) 3 #[.int .i64 s]
  rw [World.size_alloc] at E0
  have P0 : PL w #[.int .i64 (n : Int), .slice A ls.length c] (.slice (some ⟨w.heap.size + 1, 0, none⟩) 1 1) [s] ((w.alloc (.cells #[.int .i64 (n : Int), .slice A ls.length c] 25)).alloc (.cells #[.int .i64 s] 3)) :=
    ⟨⟨by simp, .inr ⟨w.heap.size + 1, 1, #[.int .i64 s], rfl, Nat.le_refl _, E0, Nat.le_refl _, by unfold maxLen; omega, rfl, by simp⟩⟩, B0, G0⟩
  have HS := Lib.hid hS
  have HP0 := Lib.hid P0
  have hvw := vwB_of hg hs ht
  clear hS B0 G0 E0 P0
  by_cases h0 : 0 ≤ bf (n : Int) ls t s
  · have hp : IsP n ls t s (pathI (n : Int) ls s t) := by
      unfold pathI
      rw [Int.toNat_natCast]
      exact path_isP hvw h0
    have HG := Lib.hid hg
    have HIP := Lib.hid hp
    have hpl := pathI_len (n : Int) ls s t
    have hh := hp.head.1
    generalize pathI (n : Int) ls s t = p at *
    have HH := Lib.hid hh
    have HP1 : Hid (PL w #[.int .i64 (n : Int), .slice A ls.length c] (.slice (some ⟨w.heap.size + 1, 0, none⟩) 1 1) (p.take (0 + 1)) ((w.alloc (.cells #[.int .i64 (n : Int), .slice A ls.length c] 25)).alloc (.cells #[.int .i64 s] 3))) := Lib.hid (by rw [take_snoc hh]; exact HP0.out)
    clear hg hp hh hvw HP0
    go_enter Try.func74, Try.ntmps74
    go_wp2_with fail
    go_loopw [7, 1] (fun v x wr => ∃ (k : Nat) (a : Int), p[k]? = some a ∧ x = .int .i64 a ∧ PL w #[.int .i64 (n : Int), .slice A ls.length c] v (p.take (k + 1)) wr) (fun _ x _ => (bf (n : Int) ls t (intOf x)).toNat)
    case atStart => exact ⟨0, s, HH.out, rfl, HP1.out⟩
    case round =>
      obtain ⟨k, a, ha, rfl, hP⟩ := hrel
      have P2 := Lib.hid hP
      have e20 := hP.box.cell 0
      have e21 := hP.box.cell 1
      have z2 := hP.box.lt
      have hkl := (List.getElem?_eq_some_iff.1 ha).1
      have hta : (p.take (k + 1)).length ≤ 8 := by simp; omega
      have HA := Lib.hid ha
      clear hP ha HP1
      by_cases hat : a = t
      · have hat' : (a != t) = false := by simp [hat]
        have HAT := Lib.hid hat
        clear hat
        go_wp2_with fail
        have hfin := P2.out.doneC
        have hpe := path_last HIP.out (by rw [← HAT.out]; exact HA.out)
        rw [take_snoc HA.out, HAT.out, ← hpe] at hfin
        go_ret
        exact hfin
      · have hat' : (a != t) = true := by simp [hat]
        obtain ⟨b, zs, hb, hh⟩ := path_next HIP.out HA.out hat
        have har := (HIP.out.two HA.out hb).2.2.1
        obtain ⟨h1, _, h3, h4⟩ := hops_node (vwB_of HG.out har ht) (show b ∈ hopsL (n : Int) ls a t by rw [hh]; simp)
        have C3 : ∀ V : World, Sl V V.heap.size A ls → Calls Try.prog 77 #[gval (n : Int) A ls.length c, .int .i64 a, .int .i64 t] V (NewI (b :: zs) V) := fun V hV => by
          have := l2hops_any n A ls c a t V HG.out har ht hV
          rwa [hh] at this
        have HT := Lib.hid (take_snoc hb)
        have HB := Lib.hid hb
        have HM := Lib.hid (show (bf (n : Int) ls t b).toNat < (bf (n : Int) ls t a).toNat by omega)
        have hzl : ((((b :: zs).length : Nat) : Int) == 0) = false := by simp; omega
        clear hat hh hb h1 h3 h4 har
        generalize hbz : b :: zs = bz at *
        have hb0 : bz[0]? = some b := by rw [← hbz]; rfl
        have HB0 := Lib.hid hb0
        clear hbz hb0
        go_wp2_with fail
        refine (C3 wr ((HS.out.below P2.out.bel).more P2.out.bel.size)).mono ?_
        clear C3
        rintro e w4 ⟨A5, g5, c5, rfl, hg5, ho5, hb5⟩
        have P4 := Lib.hid (P2.out.call hb5)
        have hbl := (List.getElem?_eq_some_iff.1 HB0.out).1
        obtain ⟨rfl, zg5, hc5⟩ := ho5.at HB0.out
        have z4 := P4.out.box.lt
        clear hb5 ho5 hg5 e20 e21 z2
        go_wp2_with (at_builtin; refine wpList_append_own_at _ rfl _ _ 33 rfl (w.heap.size + 1) 3 i0 _ 1 8 Try.underlying33 hi hz0 hz1 hz2 rfl (by decide) _ (p.take (k + 1)).length _ rfl (P4.out.row.alloc _) ⟨w4.heap.size, 0, none⟩ 1 1 [.int .i64 b] rfl rfl (fun j u h => by obtain rfl : j = 0 := (by have := (List.getElem?_eq_some_iff.1 h).1; simpa using this); cases h; exact (Box.new w4 3 #[.int .i64 b]).cell 0) (fun u hu => by simp at hu; subst hu; rfl) (by unfold maxLen; omega) (by omega) (by simp; omega) ?_; intro v' w5 hown' hgrow _ hat; have HN := Lib.hid (P4.out.append hown' hgrow); clear hown' hgrow hat)
        go_roundw
        case rel => exact ⟨k + 1, b, HB.out, rfl, by rw [HT.out]; exact HN.out⟩
        case measure => have := HM.out; simpa [intOf] using this
  · have e : pathI (n : Int) ls s t = [] := pathI_nil (fun h => h0 h.2)
    have hne : s ≠ t := fun h => by rw [h, bf_self (gvB_fit hg).1 ht] at h0; omega
    have hnil : hopsL (n : Int) ls s t = [] := (hops_nil hvw).2 (.inr (by omega))
    have C3 : ∀ V : World, Sl V V.heap.size A ls → Calls Try.prog 77 #[gval (n : Int) A ls.length c, .int .i64 s, .int .i64 t] V (NewI [] V) := fun V hV => by
      have := l2hops_any n A ls c s t V hg hs ht hV
      rwa [hnil] at this
    have hne' : (s != t) = true := by simp [hne]
    rw [e]
    clear e hne hnil h0 hvw hg
    go_enter Try.func74, Try.ntmps74
    go_wp2_with fail
    refine wp_loop_rounds 1 ?_
    rw [rounds_succ]
    have e0 := HP0.out.box.cell 0
    go_wp2_with fail
    refine (C3 _ ((HS.out.below HP0.out.bel).more HP0.out.bel.size)).mono ?_
    clear C3
    rintro e w4 ⟨A5, g5, c5, rfl, hg5, ho5, hb5⟩
    have P4 := Lib.hid (HP0.out.call hb5)
    clear hb5 ho5 hg5
    go_wp2_with fail
    go_ret
    exact ⟨_, w4.heap.size, _, rfl, P4.out.bel.size, fun h => absurd h (by simp), Below.trans P4.out.bel (by have := P4.out.bel.size; (repeat (first | exact Below.refl _ _ | (refine Below.alloc ?_ (by first | exact Nat.le_refl _ | omega | (simp; done) | (simp; omega)) _) | (refine Below.setCell ?_ (by first | exact Nat.le_refl _ | omega | (simp; done) | (simp; omega)) _) | exact Below.drew ‹_›))), by simp⟩

theorem l2path_any (n : Nat) (A : Option Addr) (ls : List Lk) (c : Nat) (s t : Int) (w : World) (hg : gvB (n : Int) ls = true) (hs : 0 ≤ s ∧ s < (n : Int)) (ht : 0 ≤ t ∧ t < (n : Int)) (hS : Sl w w.heap.size A ls) :
   Calls Try.prog 74 #[gval (n : Int) A ls.length c, .int .i64 s, .int .i64 t] w (NewI (pathI (n : Int) ls s t) w) :=
  (l2path_anyC n A ls c s t w hg hs ht hS).mono fun _ _ h => h.newI


end Go.Proofs.Ytblmmmeeljidiab
