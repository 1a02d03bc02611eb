/-
  Contracts over this seat: the specification's NextHops.
-/
import Derived.Test.YtblmmmeeljidiabUf
import Derived.Test.YtblmmmeeljidiabB6
namespace Go.Proofs.Ytblmmmeeljidiab
open Go.RowKit Go.Maps


theorem AL.call {w : World} {gv : Array Value} {g3 : Nat} {A3 : Option Addr} {xs : List Int} {v : Value} {out : List Int} {W W' : World} (h : AL w gv g3 A3 xs v out W) (hb : Below W.heap.size W W') : AL w gv g3 A3 xs v out W' :=
  ⟨owns_kept h.row hb, h.far, h.own.below hb, h.bel.trans (hb.mono h.bel.size), h.box.below hb h.box.lt, fun hp => Nat.lt_of_lt_of_le (h.lt3 hp) hb.size⟩
theorem AL.drew {w : World} {gv : Array Value} {g3 : Nat} {A3 : Option Addr} {xs : List Int} {v : Value} {out : List Int} {W : World} (h : AL w gv g3 A3 xs v out W) : AL w gv g3 A3 xs v out W.drew :=
  ⟨h.row, h.far, h.own, h.bel.drew, h.box, h.lt3⟩

set_option maxRecDepth 100000 in
set_option maxHeartbeats 1600000 in
theorem l2hops_any (n : Nat) (A : Option Addr) (ls : List Lk) (c : Nat) (s t : Int) (w : World) (hv : gvB (n : Int) ls = true) (hs : 0 ≤ s ∧ s < (n : Int)) (ht : 0 ≤ t ∧ t < (n : Int)) (hS : Sl w w.heap.size A ls) :
   Calls Try.prog 77 #[gval (n : Int) A ls.length c, .int .i64 s, .int .i64 t] w (NewI (hopsL (n : Int) ls s t) w) := by
  obtain ⟨i0, hi, hz0, hz1, hz2⟩ := info_parts infoInt
  obtain ⟨hf, hn1, hn8, hl14⟩ := gvB_fit hv
  have B0 : Below w.heap.size w ((w.alloc (.cells #[.int .i64 (n : Int), .slice A ls.length c] 25)).alloc (.cells #[] 3)) := by (repeat (first | exact Below.refl _ _ | (refine Below.alloc ?_ (by first | exact Nat.le_refl _ | omega | (simp; done) | (simp; omega)) _) | (refine Below.setCell ?_ (by first | exact Nat.le_refl _ | omega | (simp; done) | (simp; omega)) _) | exact Below.drew ‹_›))
  have HS0 := (hS.below B0).more (show w.heap.size ≤ ((w.alloc (.cells #[.int .i64 (n : Int), .slice A ls.length c] 25)).alloc (.cells #[] 3)).heap.size by simp; omega)
  have HB0 := Lib.hid B0
  have HG0 := Lib.hid ((Box.new w 25 #[.int .i64 (n : Int), .slice A ls.length c]).alloc (.cells #[] 3))
  have E0 := Box.new (w.alloc (.cells #[.int .i64 (n : Int), .slice A ls.length c] 25)) 3 #[]
  rw [World.size_alloc] at E0
  have HE0 := Lib.hid E0
  have C1 := l2d_any n A ls c t _ (by omega) (by omega) hl14 hf ht HS0
  have HS := Lib.hid hS
  have hres : hopsL (n : Int) ls s t = (nbS s ls n).filter (hopB (n : Int) ls s t) := by rw [hops_eq (vwB_of hv hs ht), nbS_n hv]
  rw [hres]
  obtain ⟨sn, rfl⟩ : ∃ sn : Nat, s = (sn : Int) := ⟨s.toNat, by omega⟩
  have hsn : sn < n := by omega
  have HAT : Hid (∀ k : Nat, k < n → (fl n (bf (n : Int) ls t))[k]? = some (bf (n : Int) ls t (k : Int))) := Lib.hid (fun k hk => fl_at hk)
  have hbd : Hid (∀ v : Int, -1 ≤ bf (n : Int) ls t v ∧ bf (n : Int) ls t v ≤ 140) := Lib.hid (fun v => bf_bound hf ht hn8 v)
  have hxl := fl_len n (bf (n : Int) ls t)
  have HV := Lib.hid hv
  clear hS B0 E0 HS0 hres hv hf
  go_enter Try.func77, Try.ntmps77
  go_wp2_with (go_at_call 38; refine C1.mono ?_; clear C1; rintro e w3 ⟨A3, g3, c3, rfl, hg3, ho3, hb3⟩; have HA := Lib.hid (AL.start HE0.out HG0.out hb3 HB0.out hg3 ho3); clear hg3 ho3 hb3)
  clear HE0 HG0 HB0
  generalize fl n (bf (n : Int) ls t) = xs at *
  have HXL := Lib.hid hxl
  clear hxl
  go_loopw [7, 9] (fun v5 v7 wr => ∃ k : Nat, k ≤ n ∧ v7 = .int .i64 k ∧ AL w #[.int .i64 (n : Int), .slice A ls.length c] g3 A3 xs v5 ((nbS (sn : Int) ls k).filter (hopB (n : Int) ls (sn : Int) t)) wr) (fun _ v7 _ => n - (intOf v7).toNat)
  case atStart => exact ⟨0, Nat.zero_le _, rfl, HA.out⟩
  case round =>
    obtain ⟨k, hk, rfl, ha⟩ := hrel
    have HAL := Lib.hid ha
    have e0 : wr.cell? ⟨w.heap.size, 0, none⟩ = some (.int .i64 (n : Int)) := ha.box.cell 0
    have e1 : wr.cell? ⟨w.heap.size, 1, none⟩ = some (.slice A ls.length c) := ha.box.cell 1
    have hwz := ha.box.lt
    clear ha HA
    by_cases hlt : k < n
    · have hd := HAT.out k hlt
      have hds := HAT.out sn hsn
      obtain ⟨rfl, zg, hcd⟩ := HAL.out.own.at hd
      obtain ⟨-, -, hcs⟩ := HAL.out.own.at hds
      have hb1 := hbd.out (k : Int)
      have hb2 := hbd.out (sn : Int)
      have hkx : k < xs.length := by rw [HXL.out]; exact hlt
      have hsx : sn < xs.length := by rw [HXL.out]; exact hsn
      have HT : Hid (∀ (j : Nat) (l : Lk), l1I (min (sn : Int) (k : Int)) (max (sn : Int) (k : Int)) ls = (j : Int) → ls[j]? = some l → hopB (n : Int) ls (sn : Int) t (k : Int) = (decide (0 ≤ bf (n : Int) ls t (k : Int)) && decide (bf (n : Int) ls t (k : Int) + l.c = bf (n : Int) ls t (sn : Int)))) := Lib.hid (fun j l h1 h2 => by
        unfold hopB lcost
        rw [← linkI_eq, if_pos HV.out, h1, Int.toNat_natCast, costAt_at h2])
      have HNB : Hid (nbS (sn : Int) ls (k + 1) = nbS (sn : Int) ls k ++ (if 0 ≤ l1I (min (sn : Int) (k : Int)) (max (sn : Int) (k : Int)) ls then [(k : Int)] else [])) := Lib.hid rfl
      have hkl : ((nbS (sn : Int) ls k).filter (hopB (n : Int) ls (sn : Int) t)).length ≤ k := Nat.le_trans (List.length_filter_le _ _) (nbS_len _ _ _)
      have C2 := l1Link_any (n : Int) A ls c (sn : Int) (k : Int) wr (by omega) ((HS.out.below HAL.out.bel).more HAL.out.bel.size)
      have hq : 0 ≤ l1I (min (sn : Int) (k : Int)) (max (sn : Int) (k : Int)) ls → _ := l1I_nonneg.1
      have hqv : l1I (min (sn : Int) (k : Int)) (max (sn : Int) (k : Int)) ls < 0 ∨ ∃ (j : Nat) (l : Lk), l1I (min (sn : Int) (k : Int)) (max (sn : Int) (k : Int)) ls = (j : Int) ∧ ls[j]? = some l := by
        unfold l1I
        cases hfi : ls.findIdx? (fun l => decide (l.a = min (sn : Int) (k : Int)) && decide (l.b = max (sn : Int) (k : Int))) with
        | none => exact .inl (by simp)
        | some j =>
          right
          obtain ⟨hj, _⟩ := List.findIdx?_eq_some_iff_getElem.1 hfi
          exact ⟨j, ls[j], rfl, List.getElem?_eq_getElem hj⟩
      clear hq
      generalize l1I (min (sn : Int) (k : Int)) (max (sn : Int) (k : Int)) ls = q at *
      generalize bf (n : Int) ls t (k : Int) = d at *
      generalize bf (n : Int) ls t (sn : Int) = ds at *
      have HD := Lib.hid hd
      have HDS := Lib.hid hds
      clear hd hds
      have HLE := Lib.hid (HAL.out.lt3 (by omega))
      rcases hqv with hq | ⟨j, l, rfl, hl⟩
      · have hq' : decide (0 ≤ q) = false := by simpa using hq
        clear HT
        go_wp2_with fail
        refine C2.mono ?_
        rintro e w4 ⟨rfl, hb4⟩
        have H4 := Lib.hid (HAL.out.call hb4)
        clear C2 hb4 e0 e1 hcd hcs HAL
        go_wp2_with fail
        go_region
        all_goals
          go_wp2_with fail
          go_roundw
          case rel =>
            refine ⟨k + 1, hlt, by go_num, ?_⟩
            rw [HNB.out, if_neg (by omega), List.append_nil]
            exact H4.out.drew
          case measure => simp [intOf]; omega
      · have HH := Lib.hid (HT.out j l rfl hl)
        have HL := Lib.hid hl
        have hgl := gvB_at HV.out hl
        have hjl := (List.getElem?_eq_some_iff.1 hl).1
        clear HT hl
        go_wp2_with fail
        refine C2.mono ?_
        rintro e w4 ⟨rfl, hb4⟩
        have H4 := Lib.hid (HAL.out.call hb4)
        clear C2 hb4 e0 e1 hcd hcs HAL zg
        have zw4 := H4.out.box.lt
        obtain ⟨bb, off, rfl, hbb, -, -, hc3⟩ := (HS.out.below H4.out.bel) j l HL.out
        have e40 := H4.out.box.cell 0
        have e41 := H4.out.box.cell 1
        obtain ⟨-, zg4, hcd4⟩ := H4.out.own.at HD.out
        obtain ⟨-, -, hcs4⟩ := H4.out.own.at HDS.out
        obtain ⟨la, lb, lc⟩ := l
        dsimp only at *
        have H5 := Lib.hid H4.out.drew
        by_cases hA : 0 ≤ d
        · by_cases hE : d + lc = ds
          · have hE' : (d + lc == ds) = true := by simp [hE]
            have hhop := HH.out
            rw [decide_eq_true hA, decide_eq_true hE] at hhop
            have HHOP := Lib.hid hhop
            clear hhop hE
            go_wp2_with fail
            go_region
            all_goals
              clear e40 e41 hcd4 hcs4 hc3 hbb zg4 H4
              have zw5 : w.heap.size < w4.drew.heap.size := H5.out.box.lt
              generalize w4.drew = W5 at *
              go_wp2_with (at_builtin; refine wpList_append_own_at _ rfl _ _ 33 rfl (w.heap.size + 1) 3 i0 _ 1 8 Try.underlying33 hi hz0 hz1 hz2 rfl (by decide) _ ((nbS (sn : Int) ls k).filter (hopB (n : Int) ls (sn : Int) t)).length _ rfl (H5.out.row.alloc _) ⟨W5.heap.size, 0, none⟩ 1 1 [.int .i64 k] rfl rfl (fun j u h => by obtain rfl : j = 0 := (by have := (List.getElem?_eq_some_iff.1 h).1; simpa using this); cases h; exact (Box.new W5 3 #[.int .i64 (k : Int)]).cell 0) (fun u hu => by simp at hu; subst hu; rfl) (by unfold maxLen; omega) (by omega) (by simp; omega) ?_; intro v' w6 hown' hgrow _ hat; have HN := Lib.hid (H5.out.append (by omega) hown' hgrow hat); clear hown' hgrow hat)
              go_roundw
              case rel =>
                refine ⟨k + 1, hlt, by go_num, ?_⟩
                rw [HNB.out, if_pos (by omega), List.filter_append, List.filter_cons_of_pos (by exact HHOP.out), List.filter_nil]
                exact HN.out
              case measure => simp [intOf]; omega
          · have hE' : (d + lc == ds) = false := by simpa using hE
            have hhop := HH.out
            rw [decide_eq_false hE, Bool.and_false] at hhop
            have HHOP := Lib.hid hhop
            clear hhop hE
            go_wp2_with fail
            go_region
            all_goals
              go_wp2_with fail
              go_roundw
              case rel =>
                refine ⟨k + 1, hlt, by go_num, ?_⟩
                rw [HNB.out, if_pos (by omega), List.filter_append, List.filter_cons_of_neg (by rw [HHOP.out]; simp), List.filter_nil, List.append_nil]
                exact H5.out
              case measure => simp [intOf]; omega
        · have hA' : decide (0 ≤ d) = false := by simpa using hA
          have hhop := HH.out
          rw [hA', Bool.false_and] at hhop
          have HHOP := Lib.hid hhop
          clear hhop
          go_wp2_with fail
          go_region
          all_goals
            go_wp2_with fail
            go_roundw
            case rel =>
              refine ⟨k + 1, hlt, by go_num, ?_⟩
              rw [HNB.out, if_pos (by omega), List.filter_append, List.filter_cons_of_neg (by rw [HHOP.out]; simp), List.filter_nil, List.append_nil]
              exact H5.out
            case measure => simp [intOf]; omega
    · obtain rfl : k = n := by omega
      go_wp2
      obtain ⟨A', g', c', rfl, hg', ho⟩ := HAL.out.done
      go_ret
      exact ⟨A', g', c', rfl, hg', ho, HAL.out.bel⟩


end Go.Proofs.Ytblmmmeeljidiab
