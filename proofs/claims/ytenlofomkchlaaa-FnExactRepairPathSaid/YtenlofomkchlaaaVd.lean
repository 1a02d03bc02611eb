/-
  Contracts over this seat: RepairSafe and RepairNeeded of the specification.
-/
import Derived.Test.YtenlofomkchlaaaVc
namespace Go.Proofs.Ytenlofomkchlaaa
open Go.RowKit Go.Maps

theorem PL_start (w : World) (gv : Array Value) : PL w gv (.slice (some ⟨w.heap.size + 1, 0, none⟩) 0 0) [] ((w.alloc (.cells gv 30)).alloc (.cells #[] 3)) := by
  have B0 : Below w.heap.size w ((w.alloc (.cells gv 30)).alloc (.cells #[] 3)) := by (repeat (first | exact Below.refl _ _ | (refine Below.alloc ?_ (by first | exact Nat.le_refl _ | omega | (simp; done) | (simp; omega)) _) | (refine Below.setCell ?_ (by first | exact Nat.le_refl _ | omega | (simp; done) | (simp; omega)) _) | exact Below.drew ‹_›))
  have G0 := (Box.new w 30 gv).alloc (.cells #[] 3)
  have E0 := Box.new (w.alloc (.cells gv 30)) 3 #[]
  rw [World.size_alloc] at E0
  exact ⟨⟨by simp, .inr ⟨w.heap.size + 1, 0, #[], rfl, Nat.le_refl _, E0, Nat.le_refl _, by unfold maxLen; omega, rfl, by simp⟩⟩, B0, G0⟩
theorem nodL_next (q : Int → Bool) (t : Nat) : (nodL (t + 1)).filter q = (nodL t).filter q ++ (if q (t : Int) then [(t : Int)] else []) := by
  unfold nodL
  rw [List.range_succ, List.map_append, List.filter_append]
  cases h : q (t : Int) <;> simp [h]

theorem repSafe_out {nn : Int} {ls : List Lk} {s x : Int} (h : rokB nn ls s x = false) : safeA nn ls s x = [] := by
  unfold safeA
  rw [h]
  rfl
set_option maxRecDepth 100000 in
set_option maxHeartbeats 3200000 in
theorem repSafe_spec (nn : Int) (A : Option Addr) (ls : List Lk) (c : Nat) (s x : Int) (w : World) (hm : ls.length ≤ 2000000) (hnu : nn ≤ 9223372036854775807) (hS : Sl w w.heap.size A ls) :
   Calls Try.prog 12 #[gval nn A ls.length c, .int .i64 s, .int .i64 x] w (NewI (safeA nn ls s x) w) := by
  obtain ⟨i0, hi, hz0, hz10, hz20⟩ := info_parts infoInt
  have HS := Lib.hid hS
  have P0 := Lib.hid (PL_start w #[.int .i64 nn, .slice A ls.length c])
  have C1 : ∀ V : World, Sl V V.heap.size A ls → Calls Try.prog 38 #[gval nn A ls.length c, .int .i64 x] V fun e w' => e = .returned (.bool (gvB nn ls && inB x 0 ((ls.length : Int) - 1))) ∧ Below V.heap.size V w' := fun V hV => l1Index_any nn A ls c x V hm hnu hV
  clear hS
  by_cases hn0 : nn ≤ 0
  · have hr : rokB nn ls s x = false := by
      cases h : rokB nn ls s x with
      | false => rfl
      | true =>
        unfold rokB at h
        rw [Bool.and_eq_true] at h
        have := vwB_single.1 h.1
        omega
    rw [repSafe_out hr]
    clear hr C1
    go_enter Try.func12, Try.ntmps12
    go_wp2_with fail
    go_loopw [7, 8] (fun v i wr => v = .slice (some ⟨w.heap.size + 1, 0, none⟩) 0 0 ∧ i = .int .i64 0 ∧ Hid (PL w #[.int .i64 nn, .slice A ls.length c] v [] wr)) (fun _ _ _ => 0)
    case atStart => exact ⟨rfl, rfl, P0⟩
    case round =>
      obtain ⟨rfl, rfl, P⟩ := hrel
      obtain ⟨zg, g0, g1, -, -⟩ := P.out.box.two
      go_wp2_with fail
      have hfin := P.out.done
      go_ret
      exact hfin
  · have hn1 : 0 < nn := by omega
    cases h1 : gvB nn ls && inB x 0 ((ls.length : Int) - 1) with
    | false =>
      have hr : rokB nn ls s x = false := by
        cases h : rokB nn ls s x with
        | false => rfl
        | true =>
          unfold rokB idxB at h
          simp only [Bool.and_eq_true, decide_eq_true_eq] at h
          have hg := (vwB_single.1 h.1).1
          have : inB x 0 ((ls.length : Int) - 1) = true := by unfold inB; simp; omega
          rw [hg, this] at h1
          cases h1
      rw [repSafe_out hr]
      rw [h1] at C1
      clear hr h1
      go_enter Try.func12, Try.ntmps12
      go_wp2_with fail
      go_loopw [7, 8] (fun v i wr => v = .slice (some ⟨w.heap.size + 1, 0, none⟩) 0 0 ∧ i = .int .i64 0 ∧ Hid (PL w #[.int .i64 nn, .slice A ls.length c] v [] wr)) (fun _ _ _ => 0)
      case atStart => exact ⟨rfl, rfl, P0⟩
      case round =>
        obtain ⟨rfl, rfl, P⟩ := hrel
        obtain ⟨zg, g0, g1, -, -⟩ := P.out.box.two
        go_wp2_with fail
        refine (C1 _ ((HS.out.below P.out.bel).more P.out.bel.size)).mono ?_
        rintro e w1 ⟨rfl, hb1⟩
        have P1 := Lib.hid (P.out.call hb1)
        clear hb1 P zg g0 g1
        go_wp2_with fail
        have hfin := P1.out.done
        go_ret
        exact hfin
    | true =>
      rw [h1] at C1
      rw [Bool.and_eq_true] at h1
      obtain ⟨hg, hx⟩ := h1
      obtain ⟨hf, -, hn8, hl14⟩ := gvB_fit hg
      have C2 : ∀ V : World, Calls Try.prog 39 #[gval nn A ls.length c, .int .i64 s] V fun e w' => e = .returned (.bool (inB s 0 (nn - 1))) ∧ Below V.heap.size V w' := fun V => l1Node_vis nn A ls.length c s V (by omega) hn8
      cases h2 : inB s 0 (nn - 1) with
      | false =>
        have hr : rokB nn ls s x = false := by
          unfold rokB vwB
          rw [List.all_cons, h2]
          simp
        rw [repSafe_out hr]
        rw [h2] at C2
        clear hr h2 hx hg hf
        go_enter Try.func12, Try.ntmps12
        go_wp2_with fail
        go_loopw [7, 8] (fun v i wr => v = .slice (some ⟨w.heap.size + 1, 0, none⟩) 0 0 ∧ i = .int .i64 0 ∧ Hid (PL w #[.int .i64 nn, .slice A ls.length c] v [] wr)) (fun _ _ _ => 0)
        case atStart => exact ⟨rfl, rfl, P0⟩
        case round =>
          obtain ⟨rfl, rfl, P⟩ := hrel
          obtain ⟨zg, g0, g1, -, -⟩ := P.out.box.two
          go_wp2_with fail
          refine (C1 _ ((HS.out.below P.out.bel).more P.out.bel.size)).mono ?_
          rintro e w1 ⟨rfl, hb1⟩
          have P1 := Lib.hid (P.out.call hb1)
          clear hb1 P zg g0 g1
          obtain ⟨zg, g0, g1, -, -⟩ := P1.out.box.two
          go_wp2_with fail
          refine (C2 _).mono ?_
          rintro e w2 ⟨rfl, hb2⟩
          have P2 := Lib.hid (P1.out.call hb2)
          clear hb2 P1 zg g0 g1
          go_wp2_with fail
          have hfin := P2.out.done
          go_ret
          exact hfin
      | true =>
        unfold inB at hx
        simp only [Bool.and_eq_true, decide_eq_true_eq] at hx
        obtain ⟨k, rfl⟩ : ∃ q : Nat, x = (q : Int) := ⟨x.toNat, by omega⟩
        obtain ⟨n, rfl⟩ : ∃ q : Nat, nn = (q : Int) := ⟨nn.toNat, by omega⟩
        obtain ⟨l, hl⟩ : ∃ l, ls[k]? = some l := ⟨_, List.getElem?_eq_getElem (by omega)⟩
        rw [h2] at C2
        have hs : 0 ≤ s ∧ s < (n : Int) := by
          unfold inB at h2
          simp only [Bool.and_eq_true, decide_eq_true_eq] at h2
          omega
        obtain ⟨q, hqd⟩ : ∃ q : Int → Bool, q = (safeB (n : Int) ls s (k : Int)) := ⟨_, rfl⟩
        have HR := Lib.hid (show safeA (n : Int) ls s (k : Int) = (nodL n).filter q by
          unfold safeA rokB idxB
          rw [if_pos (by rw [vwB_single.2 ⟨hg, hs⟩]; simp; omega), hqd]
          rfl)
        have C3 := fun (tn : Nat) (ht : tn < n) W (h : Sl W W.heap.size A ls) => (show Calls Try.prog 40 #[gval (n : Int) A ls.length c, .int .i64 s, .int .i64 (tn : Int), .int .i64 (k : Int)] W (fun e w' => e = .returned (.bool (q (tn : Int))) ∧ Below W.heap.size W w') by
          rw [hqd]
          exact l21safe_any n A ls c s tn k l W hl hg hs ht h)
        have HFN := Lib.hid (nodL_next q)
        clear h2 hg hf hl hs hx hqd
        have hnn : (n : Int) ≤ 8 := hn8
        go_enter Try.func12, Try.ntmps12
        go_wp2_with fail
        go_loopw [7, 8] (fun v i wr => ∃ (t : Nat) (out : List Int), t ≤ n ∧ i = .int .i64 (t : Int) ∧ Hid (out = (nodL t).filter q) ∧ out.length ≤ t ∧ Hid (PL w #[.int .i64 (n : Int), .slice A ls.length c] v out wr)) (fun _ i _ => n - (intOf i).toNat)
        case atStart => exact ⟨0, [], Nat.zero_le _, rfl, Lib.hid rfl, Nat.le_refl _, P0⟩
        case round =>
          obtain ⟨t, out, ht, rfl, HDk, hot, P⟩ := hrel
          clear P0
          obtain ⟨zg, g0, g1, -, -⟩ := P.out.box.two
          obtain ⟨A9, g9, c9, rfl, -, -⟩ := own_slicei P.out.row (by have := P.out.box.lt; omega)
          by_cases hlt : t < n
          · have hlti : (t : Int) < (n : Int) := by omega
            have HX := Lib.hid (HFN.out t)
            have C4 := C3 t hlt
            clear C3
            go_wp2_with fail
            refine (C1 _ ((HS.out.below P.out.bel).more P.out.bel.size)).mono ?_
            rintro e w1 ⟨rfl, hb1⟩
            have P1 := Lib.hid (P.out.call hb1)
            clear hb1 P zg g0 g1 C1
            obtain ⟨zg, g0, g1, -, -⟩ := P1.out.box.two
            go_wp2_with fail
            refine (C2 _).mono ?_
            rintro e w2 ⟨rfl, hb2⟩
            have P2 := Lib.hid (P1.out.call hb2)
            clear hb2 P1 zg g0 g1 C2
            obtain ⟨zg, g0, g1, -, -⟩ := P2.out.box.two
            cases hq : q (t : Int) with
            | false =>
              rw [hq] at C4
              have HQ := Lib.hid hq
              clear hq
              go_wp2_with fail
              refine (C4 _ ((HS.out.below P2.out.bel).more P2.out.bel.size)).mono ?_
              rintro e w3 ⟨rfl, hb3⟩
              have P3 := Lib.hid (P2.out.call hb3)
              clear hb3 P2 zg g0 g1 C4
              go_wp2_with fail
              go_roundw
              case rel => exact ⟨t + 1, out, hlt, by go_num, Lib.hid (by rw [HX.out, HQ.out, ← HDk.out]; simp), by omega, P3⟩
              case measure => simp [intOf]; omega
            | true =>
              rw [hq] at C4
              have HQ := Lib.hid hq
              clear hq
              go_wp2_with (first
                | (go_at_call 40; refine (C4 _ ((HS.out.below P2.out.bel).more P2.out.bel.size)).mono ?_; rintro e w3 ⟨rfl, hb3⟩; have P3 := Lib.hid (P2.out.call hb3); have hz3 := P3.out.box.lt; clear hb3 P2 zg g0 g1 C4)
                | (at_builtin; refine wpList_append_own_at _ rfl _ _ 26 rfl (w.heap.size + 1) 3 i0 _ 1 8 Try.underlying26 hi hz0 hz10 hz20 rfl (by decide) _ out.length (out.map (Value.int .i64)) rfl (P3.out.row.alloc _) ⟨w3.heap.size, 0, none⟩ 1 1 [.int .i64 (t : Int)] rfl rfl (fun j u h => by obtain rfl : j = 0 := (by have := (List.getElem?_eq_some_iff.1 h).1; simpa using this); cases h; exact (Box.new w3 3 #[.int .i64 (t : Int)]).cell 0) (fun u hu => by simp at hu; subst hu; rfl) (by unfold maxLen; omega) (by omega) (by simp; omega) ?_; intro v' w9 hown hgrow _ hat; have P9 := Lib.hid (P3.out.append hown hgrow); clear hown hgrow hat))
              go_roundw
              case rel => exact ⟨t + 1, out ++ [(t : Int)], hlt, by go_num, Lib.hid (by rw [HX.out, HQ.out, ← HDk.out]; rfl), by simp; omega, P9⟩
              case measure => simp [intOf]; omega
          · obtain rfl : t = n := by omega
            go_wp2_with fail
            have hfin := P.out.done
            have he : out = safeA (t : Int) ls s (k : Int) := by rw [HDk.out, HR.out]
            go_ret
            rw [← he]
            exact hfin

theorem repNeed_out {nn : Int} {ls : List Lk} {s x : Int} (h : rokB nn ls s x = false) : needA nn ls s x = [] := by
  unfold needA
  rw [h]
  rfl
set_option maxRecDepth 100000 in
set_option maxHeartbeats 3200000 in
theorem repNeed_spec (nn : Int) (A : Option Addr) (ls : List Lk) (c : Nat) (s x : Int) (w : World) (hm : ls.length ≤ 2000000) (hnu : nn ≤ 9223372036854775807) (hS : Sl w w.heap.size A ls) :
   Calls Try.prog 22 #[gval nn A ls.length c, .int .i64 s, .int .i64 x] w (NewI (needA nn ls s x) w) := by
  obtain ⟨i0, hi, hz0, hz10, hz20⟩ := info_parts infoInt
  have HS := Lib.hid hS
  have P0 := Lib.hid (PL_start w #[.int .i64 nn, .slice A ls.length c])
  have C1 : ∀ V : World, Sl V V.heap.size A ls → Calls Try.prog 38 #[gval nn A ls.length c, .int .i64 x] V fun e w' => e = .returned (.bool (gvB nn ls && inB x 0 ((ls.length : Int) - 1))) ∧ Below V.heap.size V w' := fun V hV => l1Index_any nn A ls c x V hm hnu hV
  clear hS
  by_cases hn0 : nn ≤ 0
  · have hr : rokB nn ls s x = false := by
      cases h : rokB nn ls s x with
      | false => rfl
      | true =>
        unfold rokB at h
        rw [Bool.and_eq_true] at h
        have := vwB_single.1 h.1
        omega
    rw [repNeed_out hr]
    clear hr C1
    go_enter Try.func22, Try.ntmps22
    go_wp2_with fail
    go_loopw [7, 8] (fun v i wr => v = .slice (some ⟨w.heap.size + 1, 0, none⟩) 0 0 ∧ i = .int .i64 0 ∧ Hid (PL w #[.int .i64 nn, .slice A ls.length c] v [] wr)) (fun _ _ _ => 0)
    case atStart => exact ⟨rfl, rfl, P0⟩
    case round =>
      obtain ⟨rfl, rfl, P⟩ := hrel
      obtain ⟨zg, g0, g1, -, -⟩ := P.out.box.two
      go_wp2_with fail
      have hfin := P.out.done
      go_ret
      exact hfin
  · have hn1 : 0 < nn := by omega
    cases h1 : gvB nn ls && inB x 0 ((ls.length : Int) - 1) with
    | false =>
      have hr : rokB nn ls s x = false := by
        cases h : rokB nn ls s x with
        | false => rfl
        | true =>
          unfold rokB idxB at h
          simp only [Bool.and_eq_true, decide_eq_true_eq] at h
          have hg := (vwB_single.1 h.1).1
          have : inB x 0 ((ls.length : Int) - 1) = true := by unfold inB; simp; omega
          rw [hg, this] at h1
          cases h1
      rw [repNeed_out hr]
      rw [h1] at C1
      clear hr h1
      go_enter Try.func22, Try.ntmps22
      go_wp2_with fail
      go_loopw [7, 8] (fun v i wr => v = .slice (some ⟨w.heap.size + 1, 0, none⟩) 0 0 ∧ i = .int .i64 0 ∧ Hid (PL w #[.int .i64 nn, .slice A ls.length c] v [] wr)) (fun _ _ _ => 0)
      case atStart => exact ⟨rfl, rfl, P0⟩
      case round =>
        obtain ⟨rfl, rfl, P⟩ := hrel
        obtain ⟨zg, g0, g1, -, -⟩ := P.out.box.two
        go_wp2_with fail
        refine (C1 _ ((HS.out.below P.out.bel).more P.out.bel.size)).mono ?_
        rintro e w1 ⟨rfl, hb1⟩
        have P1 := Lib.hid (P.out.call hb1)
        clear hb1 P zg g0 g1
        go_wp2_with fail
        have hfin := P1.out.done
        go_ret
        exact hfin
    | true =>
      rw [h1] at C1
      rw [Bool.and_eq_true] at h1
      obtain ⟨hg, hx⟩ := h1
      obtain ⟨hf, -, hn8, hl14⟩ := gvB_fit hg
      have C2 : ∀ V : World, Calls Try.prog 39 #[gval nn A ls.length c, .int .i64 s] V fun e w' => e = .returned (.bool (inB s 0 (nn - 1))) ∧ Below V.heap.size V w' := fun V => l1Node_vis nn A ls.length c s V (by omega) hn8
      cases h2 : inB s 0 (nn - 1) with
      | false =>
        have hr : rokB nn ls s x = false := by
          unfold rokB vwB
          rw [List.all_cons, h2]
          simp
        rw [repNeed_out hr]
        rw [h2] at C2
        clear hr h2 hx hg hf
        go_enter Try.func22, Try.ntmps22
        go_wp2_with fail
        go_loopw [7, 8] (fun v i wr => v = .slice (some ⟨w.heap.size + 1, 0, none⟩) 0 0 ∧ i = .int .i64 0 ∧ Hid (PL w #[.int .i64 nn, .slice A ls.length c] v [] wr)) (fun _ _ _ => 0)
        case atStart => exact ⟨rfl, rfl, P0⟩
        case round =>
          obtain ⟨rfl, rfl, P⟩ := hrel
          obtain ⟨zg, g0, g1, -, -⟩ := P.out.box.two
          go_wp2_with fail
          refine (C1 _ ((HS.out.below P.out.bel).more P.out.bel.size)).mono ?_
          rintro e w1 ⟨rfl, hb1⟩
          have P1 := Lib.hid (P.out.call hb1)
          clear hb1 P zg g0 g1
          obtain ⟨zg, g0, g1, -, -⟩ := P1.out.box.two
          go_wp2_with fail
          refine (C2 _).mono ?_
          rintro e w2 ⟨rfl, hb2⟩
          have P2 := Lib.hid (P1.out.call hb2)
          clear hb2 P1 zg g0 g1
          go_wp2_with fail
          have hfin := P2.out.done
          go_ret
          exact hfin
      | true =>
        unfold inB at hx
        simp only [Bool.and_eq_true, decide_eq_true_eq] at hx
        obtain ⟨k, rfl⟩ : ∃ q : Nat, x = (q : Int) := ⟨x.toNat, by omega⟩
        obtain ⟨n, rfl⟩ : ∃ q : Nat, nn = (q : Int) := ⟨nn.toNat, by omega⟩
        obtain ⟨l, hl⟩ : ∃ l, ls[k]? = some l := ⟨_, List.getElem?_eq_getElem (by omega)⟩
        rw [h2] at C2
        have hs : 0 ≤ s ∧ s < (n : Int) := by
          unfold inB at h2
          simp only [Bool.and_eq_true, decide_eq_true_eq] at h2
          omega
        obtain ⟨q, hqd⟩ : ∃ q : Int → Bool, q = (fun t : Int => usedB (n : Int) ls s t (k : Int)) := ⟨_, rfl⟩
        have HR := Lib.hid (show needA (n : Int) ls s (k : Int) = (nodL n).filter q by
          unfold needA rokB idxB
          rw [if_pos (by rw [vwB_single.2 ⟨hg, hs⟩]; simp; omega), hqd]
          rfl)
        have C3 := fun (tn : Nat) (ht : tn < n) W (h : Sl W W.heap.size A ls) => (show Calls Try.prog 48 #[gval (n : Int) A ls.length c, .int .i64 s, .int .i64 (tn : Int), .int .i64 (k : Int)] W (fun e w' => e = .returned (.bool (q (tn : Int))) ∧ Below W.heap.size W w') by
          rw [hqd]
          exact (by
          dsimp only
          rw [used_at (vwB_of hg hs (by omega)) hl]
          exact l2used_any n A ls c s (tn : Int) k l W hl hg hs (by omega) h))
        have HFN := Lib.hid (nodL_next q)
        clear h2 hg hf hl hs hx hqd
        have hnn : (n : Int) ≤ 8 := hn8
        go_enter Try.func22, Try.ntmps22
        go_wp2_with fail
        go_loopw [7, 8] (fun v i wr => ∃ (t : Nat) (out : List Int), t ≤ n ∧ i = .int .i64 (t : Int) ∧ Hid (out = (nodL t).filter q) ∧ out.length ≤ t ∧ Hid (PL w #[.int .i64 (n : Int), .slice A ls.length c] v out wr)) (fun _ i _ => n - (intOf i).toNat)
        case atStart => exact ⟨0, [], Nat.zero_le _, rfl, Lib.hid rfl, Nat.le_refl _, P0⟩
        case round =>
          obtain ⟨t, out, ht, rfl, HDk, hot, P⟩ := hrel
          clear P0
          obtain ⟨zg, g0, g1, -, -⟩ := P.out.box.two
          obtain ⟨A9, g9, c9, rfl, -, -⟩ := own_slicei P.out.row (by have := P.out.box.lt; omega)
          by_cases hlt : t < n
          · have hlti : (t : Int) < (n : Int) := by omega
            have HX := Lib.hid (HFN.out t)
            have C4 := C3 t hlt
            clear C3
            go_wp2_with fail
            refine (C1 _ ((HS.out.below P.out.bel).more P.out.bel.size)).mono ?_
            rintro e w1 ⟨rfl, hb1⟩
            have P1 := Lib.hid (P.out.call hb1)
            clear hb1 P zg g0 g1 C1
            obtain ⟨zg, g0, g1, -, -⟩ := P1.out.box.two
            go_wp2_with fail
            refine (C2 _).mono ?_
            rintro e w2 ⟨rfl, hb2⟩
            have P2 := Lib.hid (P1.out.call hb2)
            clear hb2 P1 zg g0 g1 C2
            obtain ⟨zg, g0, g1, -, -⟩ := P2.out.box.two
            cases hq : q (t : Int) with
            | false =>
              rw [hq] at C4
              have HQ := Lib.hid hq
              clear hq
              go_wp2_with fail
              refine (C4 _ ((HS.out.below P2.out.bel).more P2.out.bel.size)).mono ?_
              rintro e w3 ⟨rfl, hb3⟩
              have P3 := Lib.hid (P2.out.call hb3)
              clear hb3 P2 zg g0 g1 C4
              go_wp2_with fail
              go_roundw
              case rel => exact ⟨t + 1, out, hlt, by go_num, Lib.hid (by rw [HX.out, HQ.out, ← HDk.out]; simp), by omega, P3⟩
              case measure => simp [intOf]; omega
            | true =>
              rw [hq] at C4
              have HQ := Lib.hid hq
              clear hq
              go_wp2_with (first
                | (go_at_call 48; refine (C4 _ ((HS.out.below P2.out.bel).more P2.out.bel.size)).mono ?_; rintro e w3 ⟨rfl, hb3⟩; have P3 := Lib.hid (P2.out.call hb3); have hz3 := P3.out.box.lt; clear hb3 P2 zg g0 g1 C4)
                | (at_builtin; refine wpList_append_own_at _ rfl _ _ 26 rfl (w.heap.size + 1) 3 i0 _ 1 8 Try.underlying26 hi hz0 hz10 hz20 rfl (by decide) _ out.length (out.map (Value.int .i64)) rfl (P3.out.row.alloc _) ⟨w3.heap.size, 0, none⟩ 1 1 [.int .i64 (t : Int)] rfl rfl (fun j u h => by obtain rfl : j = 0 := (by have := (List.getElem?_eq_some_iff.1 h).1; simpa using this); cases h; exact (Box.new w3 3 #[.int .i64 (t : Int)]).cell 0) (fun u hu => by simp at hu; subst hu; rfl) (by unfold maxLen; omega) (by omega) (by simp; omega) ?_; intro v' w9 hown hgrow _ hat; have P9 := Lib.hid (P3.out.append hown hgrow); clear hown hgrow hat))
              go_roundw
              case rel => exact ⟨t + 1, out ++ [(t : Int)], hlt, by go_num, Lib.hid (by rw [HX.out, HQ.out, ← HDk.out]; rfl), by simp; omega, P9⟩
              case measure => simp [intOf]; omega
          · obtain rfl : t = n := by omega
            go_wp2_with fail
            have hfin := P.out.done
            have he : out = needA (t : Int) ls s (k : Int) := by rw [HDk.out, HR.out]
            go_ret
            rw [← he]
            exact hfin
end Go.Proofs.Ytenlofomkchlaaa
