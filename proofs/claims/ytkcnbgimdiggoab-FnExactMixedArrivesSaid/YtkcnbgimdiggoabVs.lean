/-
  Contracts over this seat: the program's RepairSafe and RepairNeeded.
-/
import Derived.Test.YtkcnbgimdiggoabVe
import Derived.Test.YtkcnbgimdiggoabB6
import Derived.Test.YtkcnbgimdiggoabC2
namespace Go.Proofs.Ytkcnbgimdiggoab
open Go.RowKit Go.Maps

/-- The reached nodes of which it is as asked whether a shortest path crosses the link. -/
def rwA (nn : Int) (ls : List Lk) (s x : Int) (b : Bool) : List Int := if idxB ls x = true then (reachL nn ls s).filter (fun t => usedB nn ls s t x == b) else []
theorem reach_list {n : Nat} {ls : List Lk} {s : Int} (hg : gvB (n : Int) ls = true) (hs : 0 ≤ s ∧ s < (n : Int)) : reachL (n : Int) ls s = (nodL n).filter (fun t => decide (0 ≤ bf (n : Int) ls s t)) := by
  have key : ∀ k, k ≤ n → rTo (fl n (bf (n : Int) ls s)) k = (nodL k).filter (fun t => decide (0 ≤ bf (n : Int) ls s t)) := by
    intro k
    induction k with
    | zero => intro _; rfl
    | succ k ih =>
      intro hk
      rw [nodL_next, ← ih (by omega)]
      have hd : (fl n (bf (n : Int) ls s))[k]? = some (bf (n : Int) ls s (k : Int)) := fl_at (show k < n by omega)
      rcases bf_sg (gvB_fit hg).1 hs (k : Int) with h | h
      · rw [rTo_hit hd (by omega), decide_eq_true h]
        rfl
      · rw [rTo_miss hd h, decide_eq_false (by omega)]
        simp
  unfold reachL
  rw [distL_fl (vwB_one hg hs), fl_len]
  exact key n (Nat.le_refl _)
theorem reach_none {nn : Int} {ls : List Lk} {s : Int} (h : vwB nn ls [s] = false) : reachL nn ls s = [] := by
  unfold reachL distL
  rw [h]
  rfl
theorem reach_len8 (n : Int) (ls : List Lk) (s : Int) : (reachL n ls s).length ≤ 8 := Nat.le_trans (rTo_len _ _) (distL_len n ls s)
theorem rok_idx {nn : Int} {ls : List Lk} {s x : Int} (hi : idxB ls x = true) (h : rokB nn ls s x = false) : vwB nn ls [s] = false := by
  unfold rokB at h
  rw [hi, Bool.and_true] at h
  exact h
theorem rwA_safe (nn : Int) (ls : List Lk) (s x : Int) : rwA nn ls s x false = safeA nn ls s x := by
  unfold rwA
  cases hi : idxB ls x with
  | false =>
    have hr : rokB nn ls s x = false := by unfold rokB; rw [hi, Bool.and_false]
    unfold safeA
    rw [hr]
    rfl
  | true =>
    rw [if_pos rfl]
    cases hr : rokB nn ls s x with
    | false =>
      rw [reach_none (rok_idx hi hr)]
      unfold safeA
      rw [hr]
      rfl
    | true =>
      have hp := hr
      unfold rokB at hp
      rw [Bool.and_eq_true] at hp
      obtain ⟨hg, hs⟩ := vwB_single.1 hp.1
      have hn1 := (gvB_fit hg).2.1
      obtain ⟨n, rfl⟩ : ∃ n : Nat, nn = (n : Int) := ⟨nn.toNat, by omega⟩
      unfold safeA
      rw [if_pos hr, reach_list hg hs, List.filter_filter, show ((n : Int)).toNat = n by omega]
      refine List.filter_congr fun t _ => ?_
      unfold safeB
      cases usedB (n : Int) ls s t x <;> simp
theorem rwA_need (nn : Int) (ls : List Lk) (s x : Int) : rwA nn ls s x true = needA nn ls s x := by
  unfold rwA
  cases hi : idxB ls x with
  | false =>
    have hr : rokB nn ls s x = false := by unfold rokB; rw [hi, Bool.and_false]
    unfold needA
    rw [hr]
    rfl
  | true =>
    rw [if_pos rfl]
    cases hr : rokB nn ls s x with
    | false =>
      rw [reach_none (rok_idx hi hr)]
      unfold needA
      rw [hr]
      rfl
    | true =>
      have hp := hr
      unfold rokB at hp
      rw [Bool.and_eq_true] at hp
      obtain ⟨hg, hs⟩ := vwB_single.1 hp.1
      have hn1 := (gvB_fit hg).2.1
      obtain ⟨n, rfl⟩ : ∃ n : Nat, nn = (n : Int) := ⟨nn.toNat, by omega⟩
      unfold needA
      rw [if_pos hr, reach_list hg hs, List.filter_filter, show ((n : Int)).toNat = n by omega]
      refine List.filter_congr fun t _ => ?_
      cases hu : usedB (n : Int) ls s t x with
      | false => simp
      | true => have := used_reach hu; simp [this]
theorem AL.doneC {w : World} {gv : Array Value} {g3 : Nat} {A3 : Option Addr} {xs : List Int} {v : Value} {out : List Int} {W : World} (h : AL w gv g3 A3 xs v out W) : ∃ A g c, v = .slice A out.length c ∧ w.heap.size ≤ g ∧ Own1i W A g out ∧ out.length ≤ c := by
  obtain ⟨A, g, c, e, hg, hc, ho⟩ := own_slicec h.row (by have := h.box.lt; omega)
  exact ⟨A, g, c, e, by omega, ho, hc⟩
set_option maxRecDepth 100000 in
set_option maxHeartbeats 1600000 in
theorem rw_any (nn : Int) (A : Option Addr) (ls : List Lk) (c : Nat) (s x : Int) (b : Bool) (w : World) (hm : ls.length ≤ 2000000) (hS : Sl w w.heap.size A ls) :
   Calls Try.prog 64 #[gval nn A ls.length c, .int .i64 s, .int .i64 x, .bool b] w (NewC (rwA nn ls s x b) w) := by
  obtain ⟨i0, hi, hz0, hz1, hz2⟩ := info_parts infoInt
  have B0 : Below w.heap.size w ((w.alloc (.cells #[.int .i64 nn, .slice A ls.length c] 25)).alloc (.cells #[] 3)) := by (repeat (first | exact Below.refl _ _ | (refine Below.alloc ?_ (by first | exact Nat.le_refl _ | omega | (simp; done) | (simp; omega)) _) | (refine Below.setCell ?_ (by first | exact Nat.le_refl _ | omega | (simp; done) | (simp; omega)) _) | exact Below.drew ‹_›))
  have G0 := (Box.new w 25 #[.int .i64 nn, .slice A ls.length c]).alloc (.cells #[] 3)
  have E0 := Box.new (w.alloc (.cells #[.int .i64 nn, .slice A ls.length c] 25)) 3 #[]
  rw [World.size_alloc] at E0
  have C1 := hasLink_any nn A ls.length c x ((w.alloc (.cells #[.int .i64 nn, .slice A ls.length c] 25)).alloc (.cells #[] 3)) hm
  rw [idx_in] at C1
  have HB0 := Lib.hid B0
  have HG0 := Lib.hid G0
  have HE0 := Lib.hid E0
  have HS := Lib.hid hS
  clear hS B0 G0 E0
  cases hx : idxB ls x with
  | false =>
    rw [hx] at C1
    have HE : Hid (rwA nn ls s x b = []) := Lib.hid (by unfold rwA; rw [hx]; rfl)
    clear hx
    go_enter Try.func64, Try.ntmps64
    go_wp2_with fail
    refine C1.mono ?_
    clear C1
    rintro e w1 ⟨rfl, hb1⟩
    have B1 := Lib.hid (HB0.out.trans (hb1.mono HB0.out.size))
    clear hb1
    go_wp2_with fail
    go_ret
    rw [HE.out]
    exact ⟨some ⟨w.heap.size + 1, 0, none⟩, w.heap.size + 1, 0, rfl, by omega, fun h => by simp at h, B1.out, Nat.le_refl _⟩
  | true =>
    rw [hx] at C1
    have HE : Hid (rwA nn ls s x b = (reachL nn ls s).filter (fun t => usedB nn ls s t x == b)) := Lib.hid (by unfold rwA; rw [hx]; rfl)
    have CR := fun W (h : Sl W W.heap.size A ls) => reach_impl nn A ls c s W hm h
    have CU := fun (t : Int) W (h : Sl W W.heap.size A ls) => used_impl nn A ls c s t x W hm h
    have hr8 := reach_len8 nn ls s
    generalize reachL nn ls s = rs at *
    clear hx
    go_enter Try.func64, Try.ntmps64
    go_wp2_with fail
    refine C1.mono ?_
    clear C1
    rintro e w1 ⟨rfl, hb1⟩
    have B1 := Lib.hid (HB0.out.trans (hb1.mono HB0.out.size))
    have K1 := Lib.hid (HG0.out.below hb1 HG0.out.lt)
    obtain ⟨z1, e10, e11, -, -⟩ := K1.out.two
    have HB1 := Lib.hid hb1
    clear hb1
    go_wp2_with fail
    refine (CR _ ((HS.out.below B1.out).more B1.out.size)).mono ?_
    clear CR
    rintro e w2 ⟨A3, g3, c3, rfl, hg3, ho3, hb3⟩
    have HA := Lib.hid (AL.start HE0.out HG0.out (HB1.out.trans (hb3.mono HB1.out.size)) HB0.out (Nat.le_trans HB1.out.size hg3) ho3)
    clear hg3 ho3 hb3 z1 e10 e11 HB1 K1 B1 HE0 HG0 HB0
    go_wp2_with fail
    go_loopw [9, 22] (fun v i wr => ∃ (k : Nat) (out : List Int), k ≤ rs.length ∧ i = .int .i64 (k : Int) ∧ Hid (out = (rs.take k).filter (fun t => usedB nn ls s t x == b)) ∧ out.length ≤ k ∧ Hid (AL w #[.int .i64 nn, .slice A ls.length c] g3 A3 rs v out wr)) (fun _ i _ => rs.length - (intOf i).toNat)
    case atStart => exact ⟨0, [], Nat.zero_le _, rfl, Lib.hid rfl, Nat.le_refl _, HA⟩
    case round =>
      obtain ⟨k, out, hk, rfl, HO, hok, HA1⟩ := hrel
      clear HA
      obtain ⟨A9, g9, c9, rfl, -, -⟩ := HA1.out.done
      by_cases hlt : k < rs.length
      · obtain ⟨t, ht⟩ : ∃ t, rs[k]? = some t := ⟨_, List.getElem?_eq_getElem hlt⟩
        obtain ⟨rfl, harr⟩ := HA1.out.own (by omega)
        have hc := harr.cell ht
        have zg := harr.lt
        have C2 := CU t wr ((HS.out.below HA1.out.bel).more HA1.out.bel.size)
        obtain ⟨z1, e10, e11, -, -⟩ := HA1.out.box.two
        have HN : Hid (∀ q : Int → Bool, (rs.take (k + 1)).filter q = (rs.take k).filter q ++ (if q t then [t] else [])) := Lib.hid (fun q => by
          rw [List.take_add_one, ht, List.filter_append]
          cases h : q t <;> simp [h])
        have HN1 := Lib.hid (HN.out (fun t => usedB nn ls s t x == b))
        clear HN harr ht CU
        go_wp2_with fail
        refine C2.mono ?_
        clear C2
        rintro e w3 ⟨rfl, hb3⟩
        have A4 := Lib.hid (HA1.out.call hb3)
        have hz3 := A4.out.box.lt
        have hp := hlt
        clear hb3 HA1 z1 e10 e11 hc zg
        cases hu : usedB nn ls s t x <;> cases b
        · have HU := Lib.hid hu
          clear hu
          go_wp2_with (at_builtin; refine wpList_append_own_at _ rfl _ _ 28 rfl (w.heap.size + 1) 3 i0 _ 1 8 Try.underlying28 hi hz0 hz1 hz2 rfl (by decide) _ out.length (out.map (Value.int .i64)) rfl (A4.out.row.alloc _) ⟨w3.heap.size, 0, none⟩ 1 1 [.int .i64 t] rfl rfl (fun j u h => by obtain rfl : j = 0 := (by have := (List.getElem?_eq_some_iff.1 h).1; simpa using this); cases h; exact (Box.new w3 3 #[.int .i64 t]).cell 0) (fun u hu => by simp at hu; subst hu; rfl) (by unfold maxLen; omega) (by omega) (by simp; omega) ?_; intro v' w4 hown' hgrow _ hat; have A5 := Lib.hid (A4.out.append (by omega) hown' hgrow hat); clear hown' hgrow hat)
          go_roundw
          case rel => exact ⟨k + 1, out ++ [t], hlt, by go_num, Lib.hid (by rw [HN1.out, ← HO.out, HU.out]; simp), by simp; omega, A5⟩
          case measure => simp [intOf]; omega
        · have HU := Lib.hid hu
          clear hu
          go_wp2_with fail
          go_roundw
          case rel => exact ⟨k + 1, out, hlt, by go_num, Lib.hid (by rw [HN1.out, ← HO.out, HU.out]; simp), by omega, A4⟩
          case measure => simp [intOf]; omega
        · have HU := Lib.hid hu
          clear hu
          go_wp2_with fail
          go_roundw
          case rel => exact ⟨k + 1, out, hlt, by go_num, Lib.hid (by rw [HN1.out, ← HO.out, HU.out]; simp), by omega, A4⟩
          case measure => simp [intOf]; omega
        · have HU := Lib.hid hu
          clear hu
          go_wp2_with (at_builtin; refine wpList_append_own_at _ rfl _ _ 28 rfl (w.heap.size + 1) 3 i0 _ 1 8 Try.underlying28 hi hz0 hz1 hz2 rfl (by decide) _ out.length (out.map (Value.int .i64)) rfl (A4.out.row.alloc _) ⟨w3.heap.size, 0, none⟩ 1 1 [.int .i64 t] rfl rfl (fun j u h => by obtain rfl : j = 0 := (by have := (List.getElem?_eq_some_iff.1 h).1; simpa using this); cases h; exact (Box.new w3 3 #[.int .i64 t]).cell 0) (fun u hu => by simp at hu; subst hu; rfl) (by unfold maxLen; omega) (by omega) (by simp; omega) ?_; intro v' w4 hown' hgrow _ hat; have A5 := Lib.hid (A4.out.append (by omega) hown' hgrow hat); clear hown' hgrow hat)
          go_roundw
          case rel => exact ⟨k + 1, out ++ [t], hlt, by go_num, Lib.hid (by rw [HN1.out, ← HO.out, HU.out]; simp), by simp; omega, A5⟩
          case measure => simp [intOf]; omega
      · obtain rfl : k = rs.length := by omega
        go_wp2_with fail
        obtain ⟨A', g', c', e', hg', ho, hcc⟩ := AL.doneC HA1.out
        cases e'
        have HQ := HO.out
        rw [List.take_length] at HQ
        go_ret
        rw [HE.out, ← HQ]
        exact ⟨A9, g', c9, rfl, hg', ho, HA1.out.bel, hcc⟩
set_option maxHeartbeats 400000 in
theorem repSafe_impl (nn : Int) (A : Option Addr) (ls : List Lk) (c : Nat) (s x : Int) (w : World) (hm : ls.length ≤ 2000000) (hS : Sl w w.heap.size A ls) :
   Calls Try.prog 26 #[gval nn A ls.length c, .int .i64 s, .int .i64 x] w (NewI (safeA nn ls s x) w) := by
  have B0 : Below w.heap.size w (w.alloc (.cells #[.int .i64 nn, .slice A ls.length c] 25)) := by (repeat (first | exact Below.refl _ _ | (refine Below.alloc ?_ (by first | exact Nat.le_refl _ | omega | (simp; done) | (simp; omega)) _) | (refine Below.setCell ?_ (by first | exact Nat.le_refl _ | omega | (simp; done) | (simp; omega)) _) | exact Below.drew ‹_›))
  have HB := Lib.hid B0
  have C1 := rw_any nn A ls c s x false _ hm ((hS.below B0).more B0.size)
  rw [rwA_safe] at C1
  clear hS B0
  generalize safeA nn ls s x = rs at *
  go_enter Try.func26, Try.ntmps26
  go_wp2_with fail
  refine C1.mono ?_
  clear C1
  rintro e w1 ⟨A1, g1, c1, rfl, hg1, ho1, hb1, hc1⟩
  have B1 := Lib.hid (HB.out.trans (hb1.mono HB.out.size))
  have hz := HB.out.size
  have O1 := Lib.hid ho1
  clear hb1 ho1
  go_wp2_with fail
  go_ret
  exact ⟨A1, g1, c1, rfl, by omega, O1.out, B1.out⟩
set_option maxHeartbeats 400000 in
theorem repNeed_implC (nn : Int) (A : Option Addr) (ls : List Lk) (c : Nat) (s x : Int) (w : World) (hm : ls.length ≤ 2000000) (hS : Sl w w.heap.size A ls) :
   Calls Try.prog 40 #[gval nn A ls.length c, .int .i64 s, .int .i64 x] w (NewC (needA nn ls s x) w) := by
  have B0 : Below w.heap.size w (w.alloc (.cells #[.int .i64 nn, .slice A ls.length c] 25)) := by (repeat (first | exact Below.refl _ _ | (refine Below.alloc ?_ (by first | exact Nat.le_refl _ | omega | (simp; done) | (simp; omega)) _) | (refine Below.setCell ?_ (by first | exact Nat.le_refl _ | omega | (simp; done) | (simp; omega)) _) | exact Below.drew ‹_›))
  have HB := Lib.hid B0
  have C1 := rw_any nn A ls c s x true _ hm ((hS.below B0).more B0.size)
  rw [rwA_need] at C1
  clear hS B0
  generalize needA nn ls s x = rs at *
  go_enter Try.func40, Try.ntmps40
  go_wp2_with fail
  refine C1.mono ?_
  clear C1
  rintro e w1 ⟨A1, g1, c1, rfl, hg1, ho1, hb1, hc1⟩
  have B1 := Lib.hid (HB.out.trans (hb1.mono HB.out.size))
  have hz := HB.out.size
  have O1 := Lib.hid ho1
  clear hb1 ho1
  go_wp2_with fail
  go_ret
  exact ⟨A1, g1, c1, rfl, by omega, O1.out, B1.out, hc1⟩
theorem repNeed_impl (nn : Int) (A : Option Addr) (ls : List Lk) (c : Nat) (s x : Int) (w : World) (hm : ls.length ≤ 2000000) (hS : Sl w w.heap.size A ls) :
   Calls Try.prog 40 #[gval nn A ls.length c, .int .i64 s, .int .i64 x] w (NewI (needA nn ls s x) w) :=
  (repNeed_implC nn A ls c s x w hm hS).mono fun _ _ h => h.newI
end Go.Proofs.Ytkcnbgimdiggoab
