/-
  Contracts over this seat: the best candidate and the election, of the specification.
-/
import Derived.Test.YtcndhodibeofiaaKc
import Derived.Handy
namespace Go.Proofs.Ytcndhodibeofiaa
open Go.RowKit

theorem bstU_lt (xs : List Lk) (cl ex : Int) (i : Nat) : -1 ≤ bstU xs cl ex i ∧ bstU xs cl ex i < (xs.length : Int) ∧ (bstU xs cl ex i < (i : Int) ∨ bstU xs cl ex i = -1) := by
  induction i with
  | zero => exact ⟨by show (-1 : Int) ≤ -1; omega, by show (-1 : Int) < _; omega, .inr rfl⟩
  | succ i ih =>
    unfold bstU
    split
    · omega
    · rename_i x hx
      have hl := (List.getElem?_eq_some_iff.1 hx).1
      split
      · split <;> omega
      · omega
theorem bstU_next {xs : List Lk} {cl ex : Int} {i : Nat} {x : Lk} (hx : xs[i]? = some x) : bstU xs cl ex (i + 1) = if cntK cl ex x then (if bstU xs cl ex i < 0 ∨ prI xs (bstU xs cl ex i) ≤ x.b then (i : Int) else bstU xs cl ex i) else bstU xs cl ex i := by
  conv => lhs; unfold bstU
  rw [hx]

set_option maxRecDepth 100000 in
set_option maxHeartbeats 4000000 in
theorem cdbest_any (A : Option Addr) (xs : List Lk) (c : Nat) (cl ex : Int) (w : World) (hm : xs.length ≤ 2000000) (hS : Sl w w.heap.size A xs) :
   Calls Try.prog 38 #[.slice A xs.length c, .int .i64 cl, .int .i64 ex] w fun e w' => e = .returned (.int .i64 (bstI xs cl ex)) ∧ Below w.heap.size w w' := by
  have HS := Lib.hid hS
  have HB := Lib.hid (fun i => bstU_lt xs cl ex i)
  have HNX := Lib.hid (fun i x (h : xs[i]? = some x) => bstU_next (cl := cl) (ex := ex) h)
  clear hS
  go_enter Try.func38, Try.ntmps38
  go_wp2_with fail
  go_loopw [7, 8] (fun k i wr => ∃ (j : Nat) (q : Int), j ≤ xs.length ∧ i = .int .i64 (j : Int) ∧ k = .int .i64 q ∧ Hid (q = bstU xs cl ex j) ∧ Below w.heap.size w wr) (fun _ i _ => xs.length - (intOf i).toNat)
  case atStart => exact ⟨0, -1, Nat.zero_le _, rfl, rfl, Lib.hid rfl, Below.refl _ _⟩
  case round =>
    obtain ⟨j, q, hj, rfl, rfl, HQ, hb⟩ := hrel
    have hbs := hb.size
    by_cases hlt : j < xs.length
    · obtain ⟨x, hx⟩ : ∃ x, xs[j]? = some x := ⟨_, List.getElem?_eq_getElem hlt⟩
      obtain ⟨b, off, rfl, hbb, hc0, hc1, hc2⟩ := (HS.out.below hb) j x hx
      have hbb1 : b < wr.heap.size := by omega
      have HX := Lib.hid (HNX.out j x hx)
      have HC := Lib.hid (show cntK cl ex x = !(decide (x.c < cl) || decide (x.a = ex) || decide (x.b = 0)) from rfl)
      clear hx
      obtain ⟨xa, xb, xc⟩ := x
      dsimp only at hc0 hc1 hc2
      by_cases h1 : xc < cl
      · have HN : Hid (cntK cl ex ⟨xa, xb, xc⟩ = false) := Lib.hid (by rw [HC.out, decide_eq_true h1]; rfl)
        go_wp2_with fail
        go_roundw
        case rel => exact ⟨j + 1, q, hlt, by go_num, rfl, Lib.hid (by rw [HX.out, HN.out, HQ.out]; rfl), hb.alloc hbs _⟩
        case measure => simp [intOf]; omega
      · by_cases h2 : xa = ex
        · have HN : Hid (cntK cl ex ⟨xa, xb, xc⟩ = false) := Lib.hid (by rw [HC.out, decide_eq_true (show (⟨xa, xb, xc⟩ : Lk).a = ex from h2)]; simp)
          have h2' : (xa == ex) = true := by simp [h2]
          clear h2
          go_wp2_with fail
          go_roundw
          case rel => exact ⟨j + 1, q, hlt, by go_num, rfl, Lib.hid (by rw [HX.out, HN.out, HQ.out]; rfl), hb.alloc hbs _⟩
          case measure => simp [intOf]; omega
        · have h2' : (xa == ex) = false := by simpa using h2
          by_cases h3 : xb = 0
          · have HN : Hid (cntK cl ex ⟨xa, xb, xc⟩ = false) := Lib.hid (by rw [HC.out, decide_eq_true (show (⟨xa, xb, xc⟩ : Lk).b = 0 from h3)]; simp)
            have h3' : (xb == 0) = true := by simp [h3]
            clear h2 h3
            go_wp2_with fail
            go_roundw
            case rel => exact ⟨j + 1, q, hlt, by go_num, rfl, Lib.hid (by rw [HX.out, HN.out, HQ.out]; rfl), hb.alloc hbs _⟩
            case measure => simp [intOf]; omega
          · have h3' : (xb == 0) = false := by simpa using h3
            have HN : Hid (cntK cl ex ⟨xa, xb, xc⟩ = true) := Lib.hid (by rw [HC.out, decide_eq_false (show ¬ (⟨xa, xb, xc⟩ : Lk).c < cl from h1), decide_eq_false (show ¬ (⟨xa, xb, xc⟩ : Lk).a = ex from h2), decide_eq_false (show ¬ (⟨xa, xb, xc⟩ : Lk).b = 0 from h3)]; rfl)
            clear h2 h3
            have hXo := fun (x : Ext (wr.alloc (.cells #[.int .i64 xa, .int .i64 xb, .int .i64 xc] 36))) (bb o : Nat) (h : bb < wr.heap.size) => x.old bb o h
            have hXn := fun (x : Ext (wr.alloc (.cells #[.int .i64 xa, .int .i64 xb, .int .i64 xc] 36))) (o : Nat) => x.new o
            by_cases h4 : q < 0
            · have H4 := Lib.hid h4
              go_wp2_with fail
              refine wp_region_ext (by kernel_rfl) (by kernel_rfl) ?_
              repeat (go_big_quiet_step (fail))
              (refine wpQuiet_nil ?_); (rintro _ ⟨X, rfl⟩); (have hw1 := X.below); (generalize X.w = w1 at *); (clear X)
              clear hXo hXn
              go_wp2_with fail
              go_roundw
              case rel => exact ⟨j + 1, _, hlt, by go_num, rfl, Lib.hid (by rw [HX.out, HN.out, if_pos rfl, if_pos (.inl (by rw [← HQ.out]; exact H4.out))]), hb.trans (Below.trans ((Below.refl _ _).alloc hbs _) (hw1.mono (by simp; omega)))⟩
              case measure => simp [intOf]; omega
            · obtain ⟨p, hp⟩ : ∃ p : Nat, q = (p : Int) := ⟨q.toNat, by omega⟩
              have hpl : p < xs.length := by
                have := (HB.out j).2.1
                rw [← HQ.out, hp] at this
                omega
              obtain ⟨y, hy⟩ : ∃ y, xs[p]? = some y := ⟨_, List.getElem?_eq_getElem hpl⟩
              have HPR : Hid (prI xs (bstU xs cl ex j) = y.b) := Lib.hid (by rw [← HQ.out, hp]; unfold prI; rw [Int.toNat_natCast, hy])
              have HNQ : Hid (¬ bstU xs cl ex j < 0) := Lib.hid (by rw [← HQ.out]; exact h4)
              obtain ⟨b', off', he', hbb', -, hd1, -⟩ := (HS.out.below hb) p y hy
              cases he'
              clear hy
              obtain ⟨ya, yb, yc⟩ := y
              dsimp only at hd1
              subst hp
              clear h4
              have hp0 : ¬ (p : Int) < 0 := by omega
              have hpli : (p : Int) < (xs.length : Int) := by omega
              by_cases h5 : yb ≤ xb
              · have H5 := Lib.hid h5
                go_wp2_with fail
                have hpd : decide ((p : Int) < 0) = false := decide_eq_false (by omega)
                refine wp_region_ext (by kernel_rfl) (by kernel_rfl) ?_
                repeat (go_big_quiet_step (fail))
                (refine wpQuiet_nil ?_); (rintro _ ⟨X, rfl⟩); (have hw1 := X.below); (generalize X.w = w1 at *); (clear X)
                clear hXo hXn
                go_wp2_with fail
                go_roundw
                case rel => exact ⟨j + 1, _, hlt, by go_num, rfl, Lib.hid (by rw [HX.out, HN.out, if_pos rfl, if_pos (.inr (by rw [HPR.out]; exact H5.out))]), hb.trans (Below.trans ((Below.refl _ _).alloc hbs _) (hw1.mono (by simp; omega)))⟩
                case measure => simp [intOf]; omega
              · have H5 := Lib.hid h5
                go_wp2_with fail
                have hpd : decide ((p : Int) < 0) = false := decide_eq_false (by omega)
                refine wp_region_ext (by kernel_rfl) (by kernel_rfl) ?_
                repeat (go_big_quiet_step (fail))
                (refine wpQuiet_nil ?_); (rintro _ ⟨X, rfl⟩); (have hw1 := X.below); (generalize X.w = w1 at *); (clear X)
                clear hXo hXn
                go_wp2_with fail
                go_roundw
                case rel => exact ⟨j + 1, _, hlt, by go_num, rfl, Lib.hid (by
                  have h6 : ¬ (bstU xs cl ex j < 0 ∨ prI xs (bstU xs cl ex j) ≤ (⟨xa, xb, xc⟩ : Lk).b) := fun h => by
                    rcases h with h | h
                    · have := HNQ.out; omega
                    · rw [HPR.out] at h
                      have := H5.out
                      dsimp only at h
                      omega
                  rw [HX.out, HN.out, if_pos rfl, if_neg h6]
                  exact HQ.out), hb.trans (Below.trans ((Below.refl _ _).alloc hbs _) (hw1.mono (by simp; omega)))⟩
                case measure => simp [intOf]; omega
    · obtain rfl : j = xs.length := by omega
      have hge : ¬ ((xs.length : Int) < (xs.length : Int)) := by omega
      go_wp2_with fail
      go_ret
      exact ⟨ret_int HQ.out, hb⟩
theorem cdnode_any (A : Option Addr) (xs : List Lk) (c : Nat) (cl ex : Int) (w : World) (_hm : xs.length ≤ 2000000) (hS : Sl w w.heap.size A xs) :
   Calls Try.prog 37 #[.slice A xs.length c, .int .i64 (bstI xs cl ex)] w fun e w' => e = .returned (.int .i64 (ndI xs (bstI xs cl ex))) ∧ Below w.heap.size w w' := by
  have HB := bstU_lt xs cl ex xs.length
  have HN : Hid (ndI xs (bstI xs cl ex) = if bstI xs cl ex < 0 then -1 else match xs[(bstI xs cl ex).toNat]? with | none => 0 | some x => x.a) := Lib.hid rfl
  change -1 ≤ bstI xs cl ex ∧ bstI xs cl ex < (xs.length : Int) ∧ _ at HB
  generalize bstI xs cl ex = q at *
  obtain ⟨h1, h2, -⟩ := HB
  by_cases h0 : q < 0
  · go_enter Try.func37, Try.ntmps37
    go_wp2_with fail
    go_ret
    exact ⟨ret_int (by rw [HN.out, if_pos (by omega)]), Below.refl _ _⟩
  · obtain ⟨p, rfl⟩ : ∃ p : Nat, q = (p : Int) := ⟨q.toNat, by omega⟩
    obtain ⟨y, hy⟩ : ∃ y, xs[p]? = some y := ⟨_, List.getElem?_eq_getElem (by omega)⟩
    have HE : Hid (ndI xs (p : Int) = y.a) := Lib.hid (by rw [HN.out, if_neg h0, Int.toNat_natCast, hy])
    obtain ⟨b, off, rfl, hbb, hc0, -, -⟩ := hS p y hy
    have hpl : p < xs.length := by omega
    clear hy hS HN
    go_enter Try.func37, Try.ntmps37
    go_wp2_with fail
    go_ret
    exact ⟨ret_int HE.out.symm, Below.refl _ _⟩

/-- The values that the specification's first loop comes by. -/
theorem spS_parts (xs : List Lk) : (ndI xs (bstI xs 2 (-1)) < 0 → ndI xs (bstI xs 1 (-1)) < 0 → spS xs = ndI xs (bstI xs 0 (-1))) ∧ (ndI xs (bstI xs 2 (-1)) < 0 → 0 ≤ ndI xs (bstI xs 1 (-1)) → spS xs = ndI xs (bstI xs 1 (-1))) ∧ (0 ≤ ndI xs (bstI xs 2 (-1)) → spS xs = ndI xs (bstI xs 2 (-1))) := by
  unfold spS orI
  refine ⟨fun h1 h2 => ?_, fun h1 h2 => ?_, fun h => ?_⟩
  · rw [if_pos h1, if_pos h2]
  · rw [if_pos h1, if_neg (by omega)]
  · rw [if_neg (by omega)]
theorem bkS_parts (xs : List Lk) (s : Int) : (ndI xs (bstI xs 1 s) < 0 → bkS xs s = ndI xs (bstI xs 0 s)) ∧ (0 ≤ ndI xs (bstI xs 1 s) → bkS xs s = ndI xs (bstI xs 1 s)) := by
  unfold bkS orI
  refine ⟨fun h => ?_, fun h => ?_⟩
  · rw [if_pos h]
  · rw [if_neg (by omega)]

set_option maxRecDepth 100000 in
set_option maxHeartbeats 4000000 in
theorem elect_any (A : Option Addr) (xs : List Lk) (c : Nat) (w : World) (hm : xs.length ≤ 2000000) (hS : Sl w w.heap.size A xs) :
   Calls Try.prog 32 #[.slice A xs.length c] w fun e w' => e = .returned (.tuple #[.int .i64 (spS xs), .int .i64 (bkS xs (spS xs))]) ∧ Below w.heap.size w w' := by
  have HS := Lib.hid hS
  have CB := fun (cl ex : Int) W (h : Sl W W.heap.size A xs) => cdbest_any A xs c cl ex W hm h
  have CN := fun (cl ex : Int) W (h : Sl W W.heap.size A xs) => cdnode_any A xs c cl ex W hm h
  have HP := Lib.hid (spS_parts xs)
  have HQ := Lib.hid (fun s => bkS_parts xs s)
  clear hS
  go_enter Try.func32, Try.ntmps32
  go_wp2_with fail
  go_loopw [5, 4] (fun cl sp wr => ∃ (a s : Int), cl = .int .i64 a ∧ sp = .int .i64 s ∧ Hid ((a = 2 ∧ s = -1) ∨ (a = 1 ∧ s = ndI xs (bstI xs 2 (-1))) ∨ (a = 0 ∧ s = ndI xs (bstI xs 1 (-1)) ∧ ndI xs (bstI xs 2 (-1)) < 0) ∨ (a = -1 ∧ s = ndI xs (bstI xs 0 (-1)) ∧ ndI xs (bstI xs 2 (-1)) < 0 ∧ ndI xs (bstI xs 1 (-1)) < 0)) ∧ Hid (Below w.heap.size w wr)) (fun cl _ _ => ((intOf cl) + 1).toNat)
  case atStart => exact ⟨2, -1, rfl, rfl, Lib.hid (.inl ⟨rfl, rfl⟩), Lib.hid (Below.refl _ _)⟩
  case round =>
    obtain ⟨a, s, rfl, rfl, HC, B0⟩ := hrel
    by_cases hgo : 0 ≤ a ∧ s < 0
    · obtain ⟨ha, hs⟩ := hgo
      have ha2 : a ≤ 2 := by rcases HC.out with h | h | h | h <;> omega
      have hw : IntKind.i64.wrap (a - 1) = a - 1 := IntWalk.i64_in _ (by omega)
      have CB1 := CB a (-1)
      have CN1 := CN a (-1)
      have HS2 := Lib.hid hs
      go_wp2_with fail
      refine (CB1 _ ((HS.out.below B0.out).more B0.out.size)).mono ?_
      rintro e w1 ⟨rfl, hb1⟩
      have B1 := Lib.hid (B0.out.trans (hb1.mono B0.out.size))
      clear hb1 B0
      go_wp2_with fail
      refine (CN1 _ ((HS.out.below B1.out).more B1.out.size)).mono ?_
      rintro e w2 ⟨rfl, hb2⟩
      have B2 := Lib.hid (B1.out.trans (hb2.mono B1.out.size))
      clear hb2 B1
      go_wp2_with fail
      go_roundw
      case rel =>
        refine ⟨a - 1, _, by first | rfl | (rw [hw]), rfl, Lib.hid ?_, B2⟩
        have hss := HS2.out
        rcases HC.out with ⟨rfl, _⟩ | ⟨rfl, h⟩ | ⟨rfl, h, h2⟩ | ⟨rfl, _⟩
        · exact .inr (.inl ⟨rfl, rfl⟩)
        · exact .inr (.inr (.inl ⟨rfl, rfl, by omega⟩))
        · exact .inr (.inr (.inr ⟨rfl, rfl, h2, by omega⟩))
        · omega
      case measure => simp [intOf]; omega
    · have hsp : s = spS xs := by
        obtain ⟨h1, h2, h3⟩ := HP.out
        rcases HC.out with ⟨rfl, h⟩ | ⟨rfl, h⟩ | ⟨rfl, h, h4⟩ | ⟨rfl, h, h4, h5⟩
        · omega
        · rw [h3 (by omega)]; exact h
        · rw [h2 h4 (by omega)]; exact h
        · rw [h1 h4 h5]; exact h
      have HSP := Lib.hid hsp
      have HQ1 := Lib.hid (HQ.out s)
      clear HC HP HQ hsp
      by_cases ha : 0 ≤ a
      · have hns : ¬ s < 0 := fun h => hgo ⟨ha, h⟩
        clear hgo
        go_wp2_with fail
        go_loopw [7, 6] (fun cl bk wr => ∃ (d t : Int), cl = .int .i64 d ∧ bk = .int .i64 t ∧ Hid ((d = 1 ∧ t = -1) ∨ (d = 0 ∧ t = ndI xs (bstI xs 1 s)) ∨ (d = -1 ∧ t = ndI xs (bstI xs 0 s) ∧ ndI xs (bstI xs 1 s) < 0)) ∧ Hid (Below w.heap.size w wr)) (fun cl _ _ => ((intOf cl) + 1).toNat)
        case atStart => exact ⟨1, -1, rfl, rfl, Lib.hid (.inl ⟨rfl, rfl⟩), B0⟩
        case round =>
          obtain ⟨d, t, rfl, rfl, HC, B3⟩ := hrel
          clear B0
          by_cases hgo : 0 ≤ d ∧ t < 0
          · obtain ⟨hd, ht⟩ := hgo
            have hd1 : d ≤ 1 := by rcases HC.out with h | h | h <;> omega
            have hw : IntKind.i64.wrap (d - 1) = d - 1 := IntWalk.i64_in _ (by omega)
            have CB1 := CB d s
            have CN1 := CN d s
            have HT2 := Lib.hid ht
            go_wp2_with fail
            refine (CB1 _ ((HS.out.below B3.out).more B3.out.size)).mono ?_
            rintro e w1 ⟨rfl, hb1⟩
            have B1 := Lib.hid (B3.out.trans (hb1.mono B3.out.size))
            clear hb1 B3
            go_wp2_with fail
            refine (CN1 _ ((HS.out.below B1.out).more B1.out.size)).mono ?_
            rintro e w2 ⟨rfl, hb2⟩
            have B2 := Lib.hid (B1.out.trans (hb2.mono B1.out.size))
            clear hb2 B1
            go_wp2_with fail
            go_roundw
            case rel =>
              refine ⟨d - 1, _, by first | rfl | (rw [hw]), rfl, Lib.hid ?_, B2⟩
              have htt := HT2.out
              rcases HC.out with ⟨rfl, _⟩ | ⟨rfl, h⟩ | ⟨rfl, _⟩
              · exact .inr (.inl ⟨rfl, rfl⟩)
              · exact .inr (.inr ⟨rfl, rfl, by omega⟩)
              · omega
            case measure => simp [intOf]; omega
          · have htp : t = bkS xs s := by
              obtain ⟨h1, h2⟩ := HQ1.out
              rcases HC.out with ⟨rfl, h⟩ | ⟨rfl, h⟩ | ⟨rfl, h, h4⟩
              · omega
              · rw [h2 (by omega)]; exact h
              · rw [h1 h4]; exact h
            have HTP := Lib.hid htp
            by_cases hd : 0 ≤ d
            · have hnt : ¬ t < 0 := fun h => hgo ⟨hd, h⟩
              clear hgo HC HQ1 htp
              go_wp2_with fail
              go_returns
              exact ⟨(show Ending.returned (.tuple #[.int .i64 s, .int .i64 t]) = _ by rw [← HSP.out, ← HTP.out]), B3.out⟩
            · clear hgo HC HQ1 htp
              go_wp2_with fail
              go_returns
              exact ⟨(show Ending.returned (.tuple #[.int .i64 s, .int .i64 t]) = _ by rw [← HSP.out, ← HTP.out]), B3.out⟩
      · clear hgo
        go_wp2_with fail
        go_loopw [7, 6] (fun cl bk wr => ∃ (d t : Int), cl = .int .i64 d ∧ bk = .int .i64 t ∧ Hid ((d = 1 ∧ t = -1) ∨ (d = 0 ∧ t = ndI xs (bstI xs 1 s)) ∨ (d = -1 ∧ t = ndI xs (bstI xs 0 s) ∧ ndI xs (bstI xs 1 s) < 0)) ∧ Hid (Below w.heap.size w wr)) (fun cl _ _ => ((intOf cl) + 1).toNat)
        case atStart => exact ⟨1, -1, rfl, rfl, Lib.hid (.inl ⟨rfl, rfl⟩), B0⟩
        case round =>
          obtain ⟨d, t, rfl, rfl, HC, B3⟩ := hrel
          clear B0
          by_cases hgo : 0 ≤ d ∧ t < 0
          · obtain ⟨hd, ht⟩ := hgo
            have hd1 : d ≤ 1 := by rcases HC.out with h | h | h <;> omega
            have hw : IntKind.i64.wrap (d - 1) = d - 1 := IntWalk.i64_in _ (by omega)
            have CB1 := CB d s
            have CN1 := CN d s
            have HT2 := Lib.hid ht
            go_wp2_with fail
            refine (CB1 _ ((HS.out.below B3.out).more B3.out.size)).mono ?_
            rintro e w1 ⟨rfl, hb1⟩
            have B1 := Lib.hid (B3.out.trans (hb1.mono B3.out.size))
            clear hb1 B3
            go_wp2_with fail
            refine (CN1 _ ((HS.out.below B1.out).more B1.out.size)).mono ?_
            rintro e w2 ⟨rfl, hb2⟩
            have B2 := Lib.hid (B1.out.trans (hb2.mono B1.out.size))
            clear hb2 B1
            go_wp2_with fail
            go_roundw
            case rel =>
              refine ⟨d - 1, _, by first | rfl | (rw [hw]), rfl, Lib.hid ?_, B2⟩
              have htt := HT2.out
              rcases HC.out with ⟨rfl, _⟩ | ⟨rfl, h⟩ | ⟨rfl, _⟩
              · exact .inr (.inl ⟨rfl, rfl⟩)
              · exact .inr (.inr ⟨rfl, rfl, by omega⟩)
              · omega
            case measure => simp [intOf]; omega
          · have htp : t = bkS xs s := by
              obtain ⟨h1, h2⟩ := HQ1.out
              rcases HC.out with ⟨rfl, h⟩ | ⟨rfl, h⟩ | ⟨rfl, h, h4⟩
              · omega
              · rw [h2 (by omega)]; exact h
              · rw [h1 h4]; exact h
            have HTP := Lib.hid htp
            by_cases hd : 0 ≤ d
            · have hnt : ¬ t < 0 := fun h => hgo ⟨hd, h⟩
              clear hgo HC HQ1 htp
              go_wp2_with fail
              go_returns
              exact ⟨(show Ending.returned (.tuple #[.int .i64 s, .int .i64 t]) = _ by rw [← HSP.out, ← HTP.out]), B3.out⟩
            · clear hgo HC HQ1 htp
              go_wp2_with fail
              go_returns
              exact ⟨(show Ending.returned (.tuple #[.int .i64 s, .int .i64 t]) = _ by rw [← HSP.out, ← HTP.out]), B3.out⟩

theorem elect_spec (A : Option Addr) (xs : List Lk) (c : Nat) (w : World) (hm : xs.length ≤ 2000000) (hS : Sl w w.heap.size A xs) :
   Calls Try.prog 18 #[.slice A xs.length c] w fun e w' => e = .returned (.tuple #[.int .i64 (elA xs).1, .int .i64 (elA xs).2]) ∧ Below w.heap.size w w' := by
  have HS := Lib.hid hS
  have CV := fun W (h : Sl W W.heap.size A xs) => candValid_spec A xs c W hm h
  have CE := fun W (h : Sl W W.heap.size A xs) => elect_any A xs c W hm h
  clear hS
  cases hv : cdB xs with
  | false =>
    have he : elA xs = (-1, -1) := by unfold elA; rw [hv]; rfl
    rw [hv] at CV
    rw [he]
    clear hv he
    go_enter Try.func18, Try.ntmps18
    go_wp2_with fail
    refine (CV _ HS.out).mono ?_
    rintro e w1 ⟨rfl, hb1⟩
    have B1 := Lib.hid hb1
    clear hb1
    go_wp2_with fail
    go_returns
    exact ⟨rfl, B1.out⟩
  | true =>
    have he : elA xs = (spS xs, bkS xs (spS xs)) := by unfold elA; rw [hv]; rfl
    rw [hv] at CV
    rw [he]
    clear hv he
    go_enter Try.func18, Try.ntmps18
    go_wp2_with fail
    refine (CV _ HS.out).mono ?_
    rintro e w1 ⟨rfl, hb1⟩
    have B1 := Lib.hid hb1
    clear hb1
    go_wp2_with fail
    refine (CE _ ((HS.out.below B1.out).more B1.out.size)).mono ?_
    rintro e w2 ⟨rfl, hb2⟩
    have B2 := Lib.hid (B1.out.trans (hb2.mono B1.out.size))
    clear hb2
    go_wp2_with fail
    go_returns
    exact ⟨rfl, B2.out⟩
end Go.Proofs.Ytcndhodibeofiaa
