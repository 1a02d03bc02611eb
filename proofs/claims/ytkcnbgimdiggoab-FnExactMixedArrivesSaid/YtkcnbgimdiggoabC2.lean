/-
  Contracts over this seat: the specification's NextHops.
-/
import Derived.Test.YtkcnbgimdiggoabC1
import Derived.Test.YtkcnbgimdiggoabB6
import Derived.Test.YtkcnbgimdiggoabB4
import Derived.Test.YtkcnbgimdiggoabA5
namespace Go.Proofs.Ytkcnbgimdiggoab
open Go.RowKit Go.Maps


theorem AL.call {w : World} {gv : Array Value} {g3 : Nat} {A3 : Option Addr} {xs : List Int} {v : Value} {out : List Int} {W W' : World} (h : AL w gv g3 A3 xs v out W) (hb : Below W.heap.size W W') : AL w gv g3 A3 xs v out W' :=
  ⟨owns_kept h.row hb, h.far, h.own.below hb, h.bel.trans (hb.mono h.bel.size), h.box.below hb h.box.lt, fun hp => Nat.lt_of_lt_of_le (h.lt3 hp) hb.size⟩
theorem AL.drew {w : World} {gv : Array Value} {g3 : Nat} {A3 : Option Addr} {xs : List Int} {v : Value} {out : List Int} {W : World} (h : AL w gv g3 A3 xs v out W) : AL w gv g3 A3 xs v out W.drew :=
  ⟨h.row, h.far, h.own, h.bel.drew, h.box, h.lt3⟩

set_option maxRecDepth 100000 in
set_option maxHeartbeats 1600000 in
theorem l2hops_any (n : Nat) (A : Option Addr) (ls : List Lk) (c : Nat) (s t : Int) (w : World) (hv : gvB (n : Int) ls = true) (hs : 0 ≤ s ∧ s < (n : Int)) (ht : 0 ≤ t ∧ t < (n : Int)) (hS : Sl w w.heap.size A ls) :
   Calls Try.prog 89 #[gval (n : Int) A ls.length c, .int .i64 s, .int .i64 t] w (NewI (hopsL (n : Int) ls s t) w) := by
  obtain ⟨i0, hi, hz0, hz1, hz2⟩ := info_parts infoInt
  obtain ⟨hf, hn1, hn8, hl14⟩ := gvB_fit hv
  have B0 : Below w.heap.size w ((w.alloc (.cells #[.int .i64 (n : Int), .slice A ls.length c] 25)).alloc (.cells #[] 3)) := by (repeat (first | exact Below.refl _ _ | (refine Below.alloc ?_ (by first | exact Nat.le_refl _ | omega | (simp; done) | (simp; omega)) _) | (refine Below.setCell ?_ (by first | exact Nat.le_refl _ | omega | (simp; done) | (simp; omega)) _) | exact Below.drew ‹_›))
  have HS0 := (hS.below B0).more (show w.heap.size ≤ ((w.alloc (.cells #[.int .i64 (n : Int), .slice A ls.length c] 25)).alloc (.cells #[] 3)).heap.size by simp; omega)
  have HB0 := Lib.hid B0
  have HG0 := Lib.hid ((Box.new w 25 #[.int .i64 (n : Int), .slice A ls.length c]).alloc (.cells #[] 3))
  have E0 := Box.new (w.alloc (.cells #[.int .i64 (n : Int), .slice A ls.length c] 25)) 3 #[]
  rw [World.size_alloc] at E0
  have HE0 := Lib.hid E0
  have C1 := l2d_any n A ls c t _ (by omega) (by omega) hl14 hf ht HS0
  have HS := Lib.hid hS
  have hres : hopsL (n : Int) ls s t = (nbS s ls n).filter (hopB (n : Int) ls s t) := by rw [hops_eq (vwB_of hv hs ht), nbS_n hv]
  rw [hres]
  obtain ⟨sn, rfl⟩ : ∃ sn : Nat, s = (sn : Int) := ⟨s.toNat, by omega⟩
  have hsn : sn < n := by omega
  have HAT : Hid (∀ k : Nat, k < n → (fl n (bf (n : Int) ls t))[k]? = some (bf (n : Int) ls t (k : Int))) := Lib.hid (fun k hk => fl_at hk)
  have hbd : Hid (∀ v : Int, -1 ≤ bf (n : Int) ls t v ∧ bf (n : Int) ls t v ≤ 140) := Lib.hid (fun v => bf_bound hf ht hn8 v)
  have hxl := fl_len n (bf (n : Int) ls t)
  have HV := Lib.hid hv
  clear hS B0 E0 HS0 hres hv hf
  go_enter Try.func89, Try.ntmps89
  go_wp2_with (go_at_call 46; refine C1.mono ?_; clear C1; rintro e w3 ⟨A3, g3, c3, rfl, hg3, ho3, hb3⟩; have HA := Lib.hid (AL.start HE0.out HG0.out hb3 HB0.out hg3 ho3); clear hg3 ho3 hb3)
  clear HE0 HG0 HB0
  generalize fl n (bf (n : Int) ls t) = xs at *
  have HXL := Lib.hid hxl
  clear hxl
  go_loopw [7, 9] (fun v5 v7 wr => ∃ k : Nat, k ≤ n ∧ v7 = .int .i64 k ∧ AL w #[.int .i64 (n : Int), .slice A ls.length c] g3 A3 xs v5 ((nbS (sn : Int) ls k).filter (hopB (n : Int) ls (sn : Int) t)) wr) (fun _ v7 _ => n - (intOf v7).toNat)
  case atStart => exact ⟨0, Nat.zero_le _, rfl, HA.out⟩
  case round =>
    obtain ⟨k, hk, rfl, ha⟩ := hrel
    have HAL := Lib.hid ha
    have e0 : wr.cell? ⟨w.heap.size, 0, none⟩ = some (.int .i64 (n : Int)) := ha.box.cell 0
    have e1 : wr.cell? ⟨w.heap.size, 1, none⟩ = some (.slice A ls.length c) := ha.box.cell 1
    have hwz := ha.box.lt
    clear ha HA
    by_cases hlt : k < n
    · have hd := HAT.out k hlt
      have hds := HAT.out sn hsn
      obtain ⟨rfl, zg, hcd⟩ := HAL.out.own.at hd
      obtain ⟨-, -, hcs⟩ := HAL.out.own.at hds
      have hb1 := hbd.out (k : Int)
      have hb2 := hbd.out (sn : Int)
      have hkx : k < xs.length := by rw [HXL.out]; exact hlt
      have hsx : sn < xs.length := by rw [HXL.out]; exact hsn
      have HT : Hid (∀ (j : Nat) (l : Lk), l1I (min (sn : Int) (k : Int)) (max (sn : Int) (k : Int)) ls = (j : Int) → ls[j]? = some l → hopB (n : Int) ls (sn : Int) t (k : Int) = (decide (0 ≤ bf (n : Int) ls t (k : Int)) && decide (bf (n : Int) ls t (k : Int) + l.c = bf (n : Int) ls t (sn : Int)))) := Lib.hid (fun j l h1 h2 => by
        unfold hopB lcost
        rw [← linkI_eq, if_pos HV.out, h1, Int.toNat_natCast, costAt_at h2])
      have HNB : Hid (nbS (sn : Int) ls (k + 1) = nbS (sn : Int) ls k ++ (if 0 ≤ l1I (min (sn : Int) (k : Int)) (max (sn : Int) (k : Int)) ls then [(k : Int)] else [])) := Lib.hid rfl
      have hkl : ((nbS (sn : Int) ls k).filter (hopB (n : Int) ls (sn : Int) t)).length ≤ k := Nat.le_trans (List.length_filter_le _ _) (nbS_len _ _ _)
      have C2 := l1Link_any (n : Int) A ls c (sn : Int) (k : Int) wr (by omega) ((HS.out.below HAL.out.bel).more HAL.out.bel.size)
      have hq : 0 ≤ l1I (min (sn : Int) (k : Int)) (max (sn : Int) (k : Int)) ls → _ := l1I_nonneg.1
      have hqv : l1I (min (sn : Int) (k : Int)) (max (sn : Int) (k : Int)) ls < 0 ∨ ∃ (j : Nat) (l : Lk), l1I (min (sn : Int) (k : Int)) (max (sn : Int) (k : Int)) ls = (j : Int) ∧ ls[j]? = some l := by
        unfold l1I
        cases hfi : ls.findIdx? (fun l => decide (l.a = min (sn : Int) (k : Int)) && decide (l.b = max (sn : Int) (k : Int))) with
        | none => exact .inl (by simp)
        | some j =>
          right
          obtain ⟨hj, _⟩ := List.findIdx?_eq_some_iff_getElem.1 hfi
          exact ⟨j, ls[j], rfl, List.getElem?_eq_getElem hj⟩
      clear hq
      generalize l1I (min (sn : Int) (k : Int)) (max (sn : Int) (k : Int)) ls = q at *
      generalize bf (n : Int) ls t (k : Int) = d at *
      generalize bf (n : Int) ls t (sn : Int) = ds at *
      have HD := Lib.hid hd
      have HDS := Lib.hid hds
      clear hd hds
      have HLE := Lib.hid (HAL.out.lt3 (by omega))
      rcases hqv with hq | ⟨j, l, rfl, hl⟩
      · have hq' : decide (0 ≤ q) = false := by simpa using hq
        clear HT
        go_wp2_with fail
        refine C2.mono ?_
        rintro e w4 ⟨rfl, hb4⟩
        have H4 := Lib.hid (HAL.out.call hb4)
        clear C2 hb4 e0 e1 hcd hcs HAL
        go_wp2_with fail
        go_region
        all_goals
          go_wp2_with fail
          go_roundw
          case rel =>
            refine ⟨k + 1, hlt, by go_num, ?_⟩
            rw [HNB.out, if_neg (by omega), List.append_nil]
            exact H4.out.drew
          case measure => simp [intOf]; omega
      · have HH := Lib.hid (HT.out j l rfl hl)
        have HL := Lib.hid hl
        have hgl := gvB_at HV.out hl
        have hjl := (List.getElem?_eq_some_iff.1 hl).1
        clear HT hl
        go_wp2_with fail
        refine C2.mono ?_
        rintro e w4 ⟨rfl, hb4⟩
        have H4 := Lib.hid (HAL.out.call hb4)
        clear C2 hb4 e0 e1 hcd hcs HAL zg
        have zw4 := H4.out.box.lt
        obtain ⟨bb, off, rfl, hbb, -, -, hc3⟩ := (HS.out.below H4.out.bel) j l HL.out
        have e40 := H4.out.box.cell 0
        have e41 := H4.out.box.cell 1
        obtain ⟨-, zg4, hcd4⟩ := H4.out.own.at HD.out
        obtain ⟨-, -, hcs4⟩ := H4.out.own.at HDS.out
        obtain ⟨la, lb, lc⟩ := l
        dsimp only at *
        have H5 := Lib.hid H4.out.drew
        by_cases hA : 0 ≤ d
        · by_cases hE : d + lc = ds
          · have hE' : (d + lc == ds) = true := by simp [hE]
            have hhop := HH.out
            rw [decide_eq_true hA, decide_eq_true hE] at hhop
            have HHOP := Lib.hid hhop
            clear hhop hE
            go_wp2_with fail
            go_region
            all_goals
              clear e40 e41 hcd4 hcs4 hc3 hbb zg4 H4
              have zw5 : w.heap.size < w4.drew.heap.size := H5.out.box.lt
              generalize w4.drew = W5 at *
              go_wp2_with (at_builtin; refine wpList_append_own_at _ rfl _ _ 28 rfl (w.heap.size + 1) 3 i0 _ 1 8 Try.underlying28 hi hz0 hz1 hz2 rfl (by decide) _ ((nbS (sn : Int) ls k).filter (hopB (n : Int) ls (sn : Int) t)).length _ rfl (H5.out.row.alloc _) ⟨W5.heap.size, 0, none⟩ 1 1 [.int .i64 k] rfl rfl (fun j u h => by obtain rfl : j = 0 := (by have := (List.getElem?_eq_some_iff.1 h).1; simpa using this); cases h; exact (Box.new W5 3 #[.int .i64 (k : Int)]).cell 0) (fun u hu => by simp at hu; subst hu; rfl) (by unfold maxLen; omega) (by omega) (by simp; omega) ?_; intro v' w6 hown' hgrow _ hat; have HN := Lib.hid (H5.out.append (by omega) hown' hgrow hat); clear hown' hgrow hat)
              go_roundw
              case rel =>
                refine ⟨k + 1, hlt, by go_num, ?_⟩
                rw [HNB.out, if_pos (by omega), List.filter_append, List.filter_cons_of_pos (by exact HHOP.out), List.filter_nil]
                exact HN.out
              case measure => simp [intOf]; omega
          · have hE' : (d + lc == ds) = false := by simpa using hE
            have hhop := HH.out
            rw [decide_eq_false hE, Bool.and_false] at hhop
            have HHOP := Lib.hid hhop
            clear hhop hE
            go_wp2_with fail
            go_region
            all_goals
              go_wp2_with fail
              go_roundw
              case rel =>
                refine ⟨k + 1, hlt, by go_num, ?_⟩
                rw [HNB.out, if_pos (by omega), List.filter_append, List.filter_cons_of_neg (by rw [HHOP.out]; simp), List.filter_nil, List.append_nil]
                exact H5.out
              case measure => simp [intOf]; omega
        · have hA' : decide (0 ≤ d) = false := by simpa using hA
          have hhop := HH.out
          rw [hA', Bool.false_and] at hhop
          have HHOP := Lib.hid hhop
          clear hhop
          go_wp2_with fail
          go_region
          all_goals
            go_wp2_with fail
            go_roundw
            case rel =>
              refine ⟨k + 1, hlt, by go_num, ?_⟩
              rw [HNB.out, if_pos (by omega), List.filter_append, List.filter_cons_of_neg (by rw [HHOP.out]; simp), List.filter_nil, List.append_nil]
              exact H5.out
            case measure => simp [intOf]; omega
    · obtain rfl : k = n := by omega
      go_wp2
      obtain ⟨A', g', c', rfl, hg', ho⟩ := HAL.out.done
      go_ret
      exact ⟨A', g', c', rfl, hg', ho, HAL.out.bel⟩


end Go.Proofs.Ytkcnbgimdiggoab

/-
  Contracts over this seat: the program's NextHops.
-/
namespace Go.Proofs.Ytkcnbgimdiggoab
open Go.RowKit Go.Shelf Go.Maps

attribute [local go_sem] Oper.semAt_some

theorem nba_adj {s : Int} {ls : List Lk} (x : NbA s ls) {l : Lk} (hl : ls[x.1.2]? = some l) : Adj ls s x.1.1 l.c := by
  obtain ⟨⟨v, k⟩, hx⟩ := x
  obtain ⟨l', hl', ht, hv⟩ := hx
  dsimp only at *
  rw [hl'] at hl
  cases hl
  subst hv
  unfold touchB at ht
  simp at ht
  refine ⟨_, List.mem_of_getElem? hl', ?_, rfl⟩
  unfold acrossI
  split
  · rename_i h; exact .inl ⟨h, rfl⟩
  · rename_i h; exact .inr ⟨by omega, rfl⟩
theorem kx_own {β : Type} {X : Nat → Prop} (W4 : World) : OwnFrom W4.heap.size (fun (_ : β) W => Kx X W4 W) := by
  rintro _ Y Z row hk hg hr
  exact ⟨hg.os.trans hk.os, hg.tape.trans hk.tape, hg.output.trans hk.output, Nat.le_trans hk.size hg.size, fun j hj hx => (hg.block j (Nat.lt_of_lt_of_le hj hk.size) (fun e => by have := (hr j e.symm).1; omega)).trans (hk.block j hj hx)⟩
theorem kx_appended {X : Nat → Prop} {W4 W w3 : World} {Bx : Nat} {v v' : Value} {tmp : Obj} (hk : Kx X W4 W) (hx : X Bx) (hgrow : (W.alloc tmp).grownBy w3 v.ownBlock) (hg : ∀ g, v.ownBlock = some g → X g ∨ W4.heap.size ≤ g) :
    Kx X W4 (w3.setCell ⟨Bx, 0, none⟩ v') := by
  have h1 := hk.alloc tmp
  refine Kx.setCell (p := ⟨Bx, 0, none⟩) ⟨hgrow.os.trans h1.os, hgrow.tape.trans h1.tape, hgrow.output.trans h1.output, Nat.le_trans h1.size hgrow.size, fun j hj hxj => ?_⟩ hx v'
  refine (hgrow.block j (Nat.lt_of_lt_of_le hj h1.size) (fun e => ?_)).trans (h1.block j hj hxj)
  rcases hg j e.symm with h | h
  · exact hxj h
  · omega
theorem own_listH {w : World} {b : Nat} {xs : List Int} (h : Box w b 3 (xs.map (Value.int .i64)).toArray) : Own1i w (some ⟨b, 0, none⟩) b xs := fun _ =>
  ⟨rfl, _, h, fun k x hk => by simp [hk]⟩
/-- Those that have come and pass the test. -/
def hopF (n : Int) (ls : List Lk) (s t : Int) (pre : List (NbA s ls)) : List Int := (pre.map (fun x => x.1.1)).filter (hopB n ls s t)
theorem hopF_snoc (n : Int) (ls : List Lk) (s t : Int) (pre : List (NbA s ls)) (x : NbA s ls) : hopF n ls s t (pre ++ [x]) = hopF n ls s t pre ++ (if hopB n ls s t x.1.1 = true then [x.1.1] else []) := by
  unfold hopF
  rw [List.map_append, List.filter_append]
  congr 1
  cases h : hopB n ls s t x.1.1 <;> simp [h]
theorem hopF_len (n : Int) (ls : List Lk) (s t : Int) (pre : List (NbA s ls)) : (hopF n ls s t pre).length ≤ pre.length := by
  unfold hopF
  exact Nat.le_trans (List.length_filter_le _ _) (by simp)
theorem hopF_all {n : Int} {ls : List Lk} {s t : Int} (h : vwB n ls [s, t] = true) : hopF n ls s t (nbQ s ls ls.length) = hopsL n ls s t := by
  rw [hops_eq h]
  unfold hopF nbI
  rw [if_pos (vwB_two h).1, ← nbQ_map s ls ls.length (Nat.le_refl _), List.map_map]
  rfl

set_option maxRecDepth 100000 in
set_option maxHeartbeats 2000000 in
theorem hops_impl (nn : Int) (A : Option Addr) (ls : List Lk) (c : Nat) (s t : Int) (w : World) (hm : ls.length ≤ 2000000) (hS : Sl w w.heap.size A ls) :
   Calls Try.prog 54 #[gval nn A ls.length c, .int .i64 s, .int .i64 t] w (NewI (hopsL nn ls s t) w) := by
  obtain ⟨i0, hi, hz0, hz1, hz2⟩ := info_parts infoInt
  have HS := Lib.hid hS
  clear hS
  obtain ⟨N, hN⟩ : ∃ N : Nat, 5 ≤ N := ⟨5, Nat.le_refl _⟩
  cases hv : vwB nn ls [s, t] with
  | true =>
    obtain ⟨hg, hs, ht⟩ := vwB_two hv
    obtain ⟨hf, hn1, hn8, hl14⟩ := gvB_fit hg
    obtain ⟨n, rfl⟩ : ∃ n : Nat, nn = (n : Int) := ⟨nn.toNat, by omega⟩
    obtain ⟨sn, rfl⟩ : ∃ sn : Nat, s = (sn : Int) := ⟨s.toNat, by omega⟩
    have hsn : sn < n := by omega
    have HV := Lib.hid hv
    have HG := Lib.hid hg
    clear hv hg
    refine (callsIn_wide (n := N)).1 ?_
    have h1 : 1 ≤ N := by omega
    refine callsIn_of_wp_marks Try.func54 rfl trivial ?_ rfl
    simp only [Try.ntmps54, List.size_toArray, List.length_cons, List.length_nil, Nat.reduceAdd, Nat.reduceSub, Array.replicate_succ, Array.replicate_zero, List.push_toArray, List.append_toArray, List.nil_append, List.cons_append]
    have hB0 : Below w.heap.size w (((((w.alloc (.cells #[.int .i64 (n : Int), .slice A ls.length c] 25)).alloc (.cells #[.int .i64 (sn : Int)] 3)).alloc (.cells #[] 3)).alloc (.cells #[.slice (some ⟨w.heap.size + 1 + 1, 0, none⟩) 0 0] 28)).alloc (.cells #[.int .i64 (sn : Int), .int .i64 t] 3)) := by (repeat (first | exact Below.refl _ _ | (refine Below.alloc ?_ (by first | exact Nat.le_refl _ | omega | (simp; done) | (simp; omega)) _) | (refine Below.setCell ?_ (by first | exact Nat.le_refl _ | omega | (simp; done) | (simp; omega)) _) | exact Below.drew ‹_›))
    have hG0 := ((((Box.new w 25 #[.int .i64 (n : Int), .slice A ls.length c]).alloc (.cells #[.int .i64 (sn : Int)] 3)).alloc (.cells #[] 3)).alloc (.cells #[.slice (some ⟨w.heap.size + 1 + 1, 0, none⟩) 0 0] 28)).alloc (.cells #[.int .i64 (sn : Int), .int .i64 t] 3)
    have hF0 := (((Box.new (w.alloc (.cells #[.int .i64 (n : Int), .slice A ls.length c] 25)) 3 #[.int .i64 (sn : Int)]).alloc (.cells #[] 3)).alloc (.cells #[.slice (some ⟨w.heap.size + 1 + 1, 0, none⟩) 0 0] 28)).alloc (.cells #[.int .i64 (sn : Int), .int .i64 t] 3)
    have hE0 := ((Box.new ((w.alloc (.cells #[.int .i64 (n : Int), .slice A ls.length c] 25)).alloc (.cells #[.int .i64 (sn : Int)] 3)) 3 #[]).alloc (.cells #[.slice (some ⟨w.heap.size + 1 + 1, 0, none⟩) 0 0] 28)).alloc (.cells #[.int .i64 (sn : Int), .int .i64 t] 3)
    have hL0 := (Box.new (((w.alloc (.cells #[.int .i64 (n : Int), .slice A ls.length c] 25)).alloc (.cells #[.int .i64 (sn : Int)] 3)).alloc (.cells #[] 3)) 28 #[.slice (some ⟨w.heap.size + 1 + 1, 0, none⟩) 0 0]).alloc (.cells #[.int .i64 (sn : Int), .int .i64 t] 3)
    have hX0 := Box.new ((((w.alloc (.cells #[.int .i64 (n : Int), .slice A ls.length c] 25)).alloc (.cells #[.int .i64 (sn : Int)] 3)).alloc (.cells #[] 3)).alloc (.cells #[.slice (some ⟨w.heap.size + 1 + 1, 0, none⟩) 0 0] 28)) 3 #[.int .i64 (sn : Int), .int .i64 t]
    simp only [World.size_alloc] at hF0 hE0 hL0 hX0
    have KB := Lib.hid hB0
    have KG := Lib.hid hG0
    have KF := Lib.hid hF0
    have KE := Lib.hid hE0
    have KL := Lib.hid hL0
    have KX := Lib.hid hX0
    clear hB0 hG0 hF0 hE0 hL0 hX0
    gi_wp2_with fail
    refine ⟨trivial, ?_⟩
    generalize ((((w.alloc (.cells #[.int .i64 (n : Int), .slice A ls.length c] 25)).alloc (.cells #[.int .i64 (sn : Int)] 3)).alloc (.cells #[] 3)).alloc (.cells #[.slice (some ⟨w.heap.size + 1 + 1, 0, none⟩) 0 0] 28)).alloc (.cells #[.int .i64 (sn : Int), .int .i64 t] 3) = W0 at *
    have S0 := (HS.out.below KB.out).more KB.out.size
    have C1 := vw_any (n : Int) A ls c (some ⟨w.heap.size + 1 + 1 + 1 + 1, 0, none⟩) [(sn : Int), t] 2 W0 hm (by simp) S0 (own_listH (by simpa using KX.out)).sli
    rw [HV.out] at C1
    refine (callsIn_wide.2 C1).mono ?_
    clear C1
    rintro e w1 ⟨rfl, hb1⟩
    have zx := KX.out.lt
    have G1 := Lib.hid (KG.out.below hb1 KG.out.lt)
    have F1 := Lib.hid (KF.out.below hb1 KF.out.lt)
    have E1 := Lib.hid (KE.out.below hb1 KE.out.lt)
    have L1 := Lib.hid (KL.out.below hb1 KL.out.lt)
    have B1 := Lib.hid (KB.out.trans (hb1.mono KB.out.size))
    have S1 := Lib.hid ((S0.below hb1).more hb1.size)
    have z1 : w.heap.size + 1 + 1 + 1 + 1 < w1.heap.size := Nat.lt_of_lt_of_le zx hb1.size
    have e10 := G1.out.cell 0
    have e11 := G1.out.cell 1
    clear hb1 S0 KB KG KF KE KL KX zx
    gi_wp2_with fail
    refine ⟨trivial, ?_⟩
    have C2 := dist_impl (n : Int) A ls c t w1 hm S1.out
    refine (callsIn_wide.2 C2).mono ?_
    clear C2
    rintro e w2 ⟨A3, g3, c3, rfl, hg3, ho3, hb2⟩
    have hdl := distL_length (ls := ls) HG.out ht
    have HAT : Hid (∀ k : Nat, k < n → (distL (n : Int) ls t)[k]? = some (bf (n : Int) ls t (k : Int))) := Lib.hid (fun k hk => distL_at HG.out ht hk)
    generalize distL (n : Int) ls t = ds at *
    have z2 := hb2.size
    have G2 := Lib.hid (G1.out.below hb2 G1.out.lt)
    have F2 := Lib.hid (F1.out.below hb2 F1.out.lt)
    have E2 := Lib.hid (E1.out.below hb2 E1.out.lt)
    have L2 := Lib.hid (L1.out.below hb2 L1.out.lt)
    have B2 := Lib.hid (B1.out.trans (hb2.mono B1.out.size))
    have O2 := Lib.hid ho3
    have HDL := Lib.hid hdl
    have z3 : g3 < w2.heap.size := (ho3 (by omega)).2.lt
    have e20 := G2.out.cell 0
    have e21 := G2.out.cell 1
    have f20 := F2.out.cell 0
    have zg2 := G2.out.lt
    have zf2 := F2.out.lt
    clear hb2 ho3 G1 F1 E1 L1 B1 S1 e10 e11 hdl
    gi_wp2_with fail
    refine ⟨trivial, ?_⟩
    have hB2 : Below w2.heap.size w2 (w2.alloc (.cells #[.slice A3 ds.length c3] 28)) := by (repeat (first | exact Below.refl _ _ | (refine Below.alloc ?_ (by first | exact Nat.le_refl _ | omega | (simp; done) | (simp; omega)) _) | (refine Below.setCell ?_ (by first | exact Nat.le_refl _ | omega | (simp; done) | (simp; omega)) _) | exact Below.drew ‹_›))
    have G3 := Lib.hid (G2.out.below hB2 zg2)
    have F3 := Lib.hid (F2.out.below hB2 zf2)
    have E3 := Lib.hid (E2.out.below hB2 E2.out.lt)
    have L3 := Lib.hid (L2.out.below hB2 L2.out.lt)
    have D3 := Lib.hid (Box.new w2 28 #[.slice A3 ds.length c3])
    have O3 := Lib.hid (O2.out.below hB2)
    have B3 := Lib.hid (B2.out.trans (hB2.mono B2.out.size))
    have z4 : (w2.alloc (.cells #[.slice A3 ds.length c3] 28)).heap.size = w2.heap.size + 1 := by simp
    clear hB2 G2 F2 E2 L2 O2 B2 e20 e21 f20 zg2 zf2
    generalize w2.alloc (.cells #[.slice A3 ds.length c3] 28) = W3 at *
    refine (callsIn_wide.2 (neighbours_any (n : Int) A ls.length c (sn : Int) W3)).mono ?_
    rintro e W4 ⟨rfl, hW4⟩
    have b4 : Below W3.heap.size W3 W4 := by rw [← hW4]; (repeat (first | exact Below.refl _ _ | (refine Below.alloc ?_ (by first | exact Nat.le_refl _ | omega | (simp; done) | (simp; omega)) _) | (refine Below.setCell ?_ (by first | exact Nat.le_refl _ | omega | (simp; done) | (simp; omega)) _) | exact Below.drew ‹_›))
    have hG4 : Box W4 W3.heap.size 25 #[.int .i64 (n : Int), .slice A ls.length c] := by
      rw [← hW4]
      exact (Box.new W3 25 #[.int .i64 (n : Int), .slice A ls.length c]).alloc _
    have hN4 : Box W4 (W3.heap.size + 1) 3 #[.int .i64 (sn : Int)] := by
      rw [← hW4]
      have := Box.new (W3.alloc (.cells #[.int .i64 (n : Int), .slice A ls.length c] 25)) 3 #[.int .i64 (sn : Int)]
      rwa [World.size_alloc] at this
    have z5 : W4.heap.size = W3.heap.size + 1 + 1 := by rw [← hW4]; simp
    have KG4 := Lib.hid hG4
    have KN4 := Lib.hid hN4
    have G4 := Lib.hid (G3.out.below b4 G3.out.lt)
    have F4 := Lib.hid (F3.out.below b4 F3.out.lt)
    have E4 := Lib.hid (E3.out.below b4 E3.out.lt)
    have L4 := Lib.hid (L3.out.below b4 L3.out.lt)
    have D4 := Lib.hid (D3.out.below b4 D3.out.lt)
    have O4 := Lib.hid (O3.out.below b4)
    have B4 := Lib.hid (B3.out.trans (b4.mono B3.out.size))
    have S4 := Lib.hid (HS.out.below B4.out)
    have Z4 := Lib.hid z4
    have Z5 := Lib.hid z5
    clear b4 hG4 hN4 hW4 G3 F3 E3 L3 D3 O3 B3 z4 z5
    gi_wp2_with fail
    have z4 : w2.heap.size + 1 ≤ W3.heap.size ∧ W3.heap.size ≤ w2.heap.size + 1 := ⟨Nat.le_of_eq Z4.out.symm, Nat.le_of_eq Z4.out⟩
    have z5 : W3.heap.size + 2 ≤ W4.heap.size ∧ W4.heap.size ≤ W3.heap.size + 2 := ⟨Nat.le_of_eq Z5.out.symm, Nat.le_of_eq Z5.out⟩
    have R4 : W4.ownsRow w.heap.size 3 1 (.slice (some ⟨w.heap.size + 1 + 1, 0, none⟩) 0 0) 0 [] := ⟨by simp, .inr ⟨w.heap.size + 1 + 1, 0, #[], rfl, by omega, E4.out, Nat.le_refl _, by omega, rfl, by simp⟩⟩
    refine wpIn_rangeFunc_ownG rfl h1 (gf := 100) (lb := #[.pointer (some ⟨W3.heap.size, 0, none⟩), .pointer (some ⟨W3.heap.size + 1, 0, none⟩)]) rfl trivial (enters_of Try.func100 (by kernel_rfl) rfl)
      (nbs_stops (N - 1) (by omega) W3.heap.size (W3.heap.size + 1) w.heap.size (fun k => k < w.heap.size ∨ k = W3.heap.size + 1) A ls c (n : Int) (sn : Int) hm W4 (fun b h => .inl h) (.inr rfl) (fun k h => by omega) KG4.out KN4.out (by omega) S4.out)
      (fun h k => h.trans k) (fun W l o o' hl h _ _ => KeepB.put (w := W4) (fun k h => by omega) W l o o' hl h) (Below.refl _ _) (fun _ => rfl)
      (fun pre W => (∃ v, Boxed W (w.heap.size + 1 + 1 + 1) 28 v ∧ W.ownsRow w.heap.size 3 1 v (hopF (n : Int) ls (sn : Int) t pre).length ((hopF (n : Int) ls (sn : Int) t pre).map (Value.int .i64)) ∧ (∀ g, v.ownBlock = some g → g = w.heap.size + 1 + 1 ∨ W4.heap.size ≤ g)) ∧ Kx (fun k => k = w.heap.size + 1 + 1 + 1 ∨ k = w.heap.size + 1 + 1) W4 W)
      (fun _ _ _ => False)
      (OwnFrom.and (Own.from (holdsRow_own w.heap.size (w.heap.size + 1 + 1 + 1) 28 3 1 (fun pre : List (NbA (sn : Int) ls) => (hopF (n : Int) ls (sn : Int) t pre).length) (fun pre => (hopF (n : Int) ls (sn : Int) t pre).map (Value.int .i64)) (fun _ v => ∀ g, v.ownBlock = some g → g = w.heap.size + 1 + 1 ∨ W4.heap.size ≤ g)) _) (kx_own W4))
      (fun _ _ _ _ _ hs _ _ => hs)
      ⟨⟨_, L4.out, R4, fun g e => by simp [Value.ownBlock] at e; omega⟩, Kx.refl _ _⟩
      (fun x => { tmps := #[gval (n : Int) A ls.length c, .int .i64 (sn : Int), .int .i64 t, .pointer (some ⟨w.heap.size, 0, none⟩), .pointer (some ⟨w.heap.size + 1, 0, none⟩), undef, .slice none 0 0, .pointer (some ⟨w.heap.size + 1 + 1 + 1, 0, none⟩), .pointer (some ⟨w2.heap.size, 0, none⟩), .int .i64 x.1.1, .int .i64 (x.1.2 : Int), .slice (some ⟨w.heap.size + 1 + 1, 0, none⟩) 0 0,
        .agg #[.int .i64 (n : Int), .slice A ls.length c], .int .i64 (sn : Int), .int .i64 t, .slice (some ⟨w.heap.size + 1 + 1 + 1 + 1, 0, none⟩) 2 2, .bool true, .bool false, undef, .agg #[.int .i64 (n : Int), .slice A ls.length c], .int .i64 t, .slice A3 ds.length c3, .agg #[.int .i64 (n : Int), .slice A ls.length c], .int .i64 (sn : Int), .func (.func 100) #[] #[.pointer (some ⟨W3.heap.size, 0, none⟩), .pointer (some ⟨W3.heap.size + 1, 0, none⟩)], .int .i64 x.1.1, .int .i64 (x.1.2 : Int), undef, undef, undef, undef, undef, undef, undef, undef, undef, undef, undef, undef, undef, undef, undef, undef, undef, undef, undef, undef, undef], defers := [] }) ?assign ?body ?done ?stop
    case assign =>
      intro l x W K hK
      gi_wp2
      exact hK
    case body =>
      rintro l pre x W ⟨⟨v, hv, hrow, hgg⟩, hk⟩ hlt
      obtain ⟨lk, hlk⟩ : ∃ lk, ls[x.1.2]? = some lk := by obtain ⟨lk, h, _⟩ := x.2; exact ⟨lk, h⟩
      have hadj := nba_adj x hlk
      have hfa := hf.adj hadj
      have HSN := Lib.hid (hopF_snoc (n : Int) ls (sn : Int) t pre x)
      have HTE := Lib.hid (hop_test (t := t) HG.out ht hadj)
      have hFl := hopF_len (n : Int) ls (sn : Int) t pre
      have hxk := (List.getElem?_eq_some_iff.1 hlk).1
      have sl := S4.out.below (hk.below (B := w.heap.size) (by omega) (fun j e => by omega))
      obtain ⟨⟨xv, xk⟩, hxok⟩ := x
      dsimp only at *
      obtain ⟨xn, rfl⟩ : ∃ q : Nat, xv = (q : Int) := ⟨xv.toNat, by omega⟩
      obtain ⟨bb, off, rfl, hbb, -, -, hc3⟩ := sl xk lk hlk
      have hO : Own1i W A3 g3 ds := fun hp => by
        obtain ⟨e, cs, hh, hc⟩ := O4.out hp
        exact ⟨e, cs, (hk.block g3 (heap_lt hh) (by omega)).trans hh, hc⟩
      have hdx := HAT.out xn (by omega)
      have hds := HAT.out sn hsn
      have hxl := (List.getElem?_eq_some_iff.1 hdx).1
      have hsl := (List.getElem?_eq_some_iff.1 hds).1
      obtain ⟨rfl, zg3, hcx⟩ := hO.at hdx
      obtain ⟨-, -, hcs⟩ := hO.at hds
      have hbx := bf_bound hf ht hn8 (xn : Int)
      generalize bf (n : Int) ls t (xn : Int) = dx at *
      generalize bf (n : Int) ls t (sn : Int) = dt at *
      have gx := (hk.box G4.out (by omega)).cell 1
      have fx := (hk.box F4.out (by omega)).cell 0
      have dx4 := (hk.box D4.out (by omega)).cell 0
      have hc := hv.cell
      have hmx : Try.prog.follows .mixedOrders = true := by kernel_rfl
      have zk := hk.size
      have HKX := Lib.hid hk
      have HVX := Lib.hid hv
      have HRX := Lib.hid hrow
      have HGX := Lib.hid hgg
      have hlc : IntKind.i64.wrap (dx + lk.c) = dx + lk.c := IntWalk.i64_in _ (by omega)
      have hd : 1 ≤ N - 1 - 1 := by omega
      clear hk hv hrow hgg sl hlk hO hdx hds hadj
      cases hte : hopB (n : Int) ls (sn : Int) t (xn : Int) with
      | true =>
        have heq : (dx + lk.c == dt) = true := by have := HTE.out; rw [hte] at this; simpa using this.symm
        have HTT := Lib.hid hte
        clear hte HTE
        gi_wp2
        refine wpIn_region_tail 15 hmx (by kernel_rfl) (by rfl) ?_
        simp only [List.take_succ_cons, List.take_zero, List.drop_succ_cons, List.drop_zero]
        repeat still_step
        refine wpStill_nil ?_
        have HVD := Lib.hid (show Boxed W.drew (w.heap.size + 1 + 1 + 1) 28 v from HVX.out)
        have HRD := Lib.hid (show W.drew.ownsRow w.heap.size 3 1 v (hopF (n : Int) ls (sn : Int) t pre).length ((hopF (n : Int) ls (sn : Int) t pre).map (Value.int .i64)) from HRX.out)
        have hcd : W.drew.cell? ⟨w.heap.size + 1 + 1 + 1, 0, none⟩ = some v := HVD.out.cell
        have zD : W.drew.heap.size ≤ W.heap.size ∧ W.heap.size ≤ W.drew.heap.size := ⟨Nat.le_refl _, Nat.le_refl _⟩
        clear hc gx fx dx4 hcx hcs hc3
        gi_wp2_with (gi_at_builtin; refine wpListIn_append_own_at _ rfl _ _ 28 rfl w.heap.size 3 i0 (.int .i64 0) 1 8 Try.underlying28 hi hz0 hz1 hz2 rfl (by decide) _ _ _ rfl (HRD.out.alloc _) ⟨W.drew.heap.size, 0, none⟩ 1 1 [.int .i64 (xn : Int)] rfl rfl (cell_one_new _ _ _) (by simp [Value.oneCell']) (by unfold maxLen; omega) (by omega) (by simp; omega) ?_; intro v' w3 hown' hgrow _ hat; obtain ⟨g', cap', rfl⟩ := ownsRow_succ hown'; obtain ⟨hv1, hv2, hr2, hk2, hb2⟩ := HVD.out.appended (by decide) HRD.out (by omega) (by omega) hown' hgrow; have hc1 := hv1.cell; have hf1 := hv1.frozen)
        have hkf := hk2.from W4.heap.size
        refine ⟨⟨hkf.1, hkf.2⟩, ⟨by have := hb2.size; simpa using this, fun k hk => ?_⟩, ⟨_, hv2, ?_, fun g e => ?_⟩, kx_appended HKX.out.drew (.inl rfl) hgrow (fun g e => ?_)⟩
        · refine (Below.heap_setCell w3 ⟨w.heap.size + 1 + 1 + 1, 0, none⟩ _ k (by dsimp only; omega)).trans ((hgrow.block k (by simp; omega) (fun e => ?_)).trans (Below.heap_alloc W.drew _ k (by omega)))
          rcases HGX.out k e.symm with h | h <;> omega
        · rw [HSN.out, if_pos HTT.out, List.length_append, List.map_append]
          exact hr2
        · simp [Value.ownBlock] at e
          subst e
          rcases hat with h | h
          · exact HGX.out g' (h.symm.trans rfl)
          · right
            simp [Value.ownBlock] at h
            omega
        · rcases HGX.out g e with h | h
          · exact .inl (.inr h)
          · exact .inr h
      | false =>
        have heq : (dx + lk.c == dt) = false := by have := HTE.out; rw [hte] at this; simpa using this.symm
        have HTT := Lib.hid hte
        clear hte HTE
        gi_wp2
        refine wpIn_region_tail 15 hmx (by kernel_rfl) (by rfl) ?_
        simp only [List.take_succ_cons, List.take_zero, List.drop_succ_cons, List.drop_zero]
        repeat still_step
        refine wpStill_nil ?_
        clear hc gx fx dx4 hcx hcs hc3
        gi_wp2
        have hk0 : Kx (fun _ => False) W W.drew := (Kx.refl _ W).drew
        refine ⟨hk0.keepsFrom (fun k e => e.elim) _, ⟨hk0.size, fun k hk => hk0.block k (by omega) (fun e => e)⟩, ⟨v, HVX.out, ?_, HGX.out⟩, HKX.out.drew⟩
        rw [HSN.out, if_neg (by rw [HTT.out]; simp), List.append_nil]
        exact HRX.out
    case done =>
      rintro D ys W hD rfl ⟨⟨v, hv, hrow, hgg⟩, hk⟩ hK
      have hc := hv.cell
      rw [hopF_all HV.out] at hrow
      gi_wp2
      refine ⟨by simp, .inl ⟨_, _, rfl, run_takeDeferred hK, ?_⟩⟩
      have hr := ownsRow_putObj hrow (.deferred none) hK rfl
      have hB : Below w.heap.size w W := B4.out.trans (hk.below B4.out.size (fun j e => by omega))
      have hBB := hB.trans (belowK_b (w := w) (Nat.le_refl _) W D _ (.deferred none) (by have := B4.out.size; omega) hK rfl rfl)
      obtain ⟨A', g', c', rfl, hg', _, ho⟩ := own_slicei hr hBB.size
      exact ⟨_, results_tmp rfl _ _ _, A', g', c', by simp, hg', ho, hBB⟩
    case stop =>
      rintro D c pre W _ _ h _
      exact h.elim
  | false =>
    have e : hopsL nn ls s t = [] := by unfold hopsL; rw [hv]; rfl
    rw [e]
    have hB0 : Below w.heap.size w (((((w.alloc (.cells #[.int .i64 nn, .slice A ls.length c] 25)).alloc (.cells #[.int .i64 s] 3)).alloc (.cells #[] 3)).alloc (.cells #[.slice (some ⟨w.heap.size + 1 + 1, 0, none⟩) 0 0] 28)).alloc (.cells #[.int .i64 s, .int .i64 t] 3)) := by (repeat (first | exact Below.refl _ _ | (refine Below.alloc ?_ (by first | exact Nat.le_refl _ | omega | (simp; done) | (simp; omega)) _) | (refine Below.setCell ?_ (by first | exact Nat.le_refl _ | omega | (simp; done) | (simp; omega)) _) | exact Below.drew ‹_›))
    have hL0 := (Box.new (((w.alloc (.cells #[.int .i64 nn, .slice A ls.length c] 25)).alloc (.cells #[.int .i64 s] 3)).alloc (.cells #[] 3)) 28 #[.slice (some ⟨w.heap.size + 1 + 1, 0, none⟩) 0 0]).alloc (.cells #[.int .i64 s, .int .i64 t] 3)
    have hX0 := Box.new ((((w.alloc (.cells #[.int .i64 nn, .slice A ls.length c] 25)).alloc (.cells #[.int .i64 s] 3)).alloc (.cells #[] 3)).alloc (.cells #[.slice (some ⟨w.heap.size + 1 + 1, 0, none⟩) 0 0] 28)) 3 #[.int .i64 s, .int .i64 t]
    simp only [World.size_alloc] at hL0 hX0
    have C1 := vw_any nn A ls c (some ⟨w.heap.size + 1 + 1 + 1 + 1, 0, none⟩) [s, t] 2 _ hm (by simp) ((HS.out.below hB0).more hB0.size) (own_listH (by simpa using hX0)).sli
    rw [hv] at C1
    have HB := Lib.hid hB0
    have HM := Lib.hid hL0
    clear hB0 hL0 hX0 hv e
    go_enter Try.func54, Try.ntmps54
    go_wp2_with (go_at_call 71; refine C1.mono ?_; clear C1; rintro e w1 ⟨rfl, hb1⟩; have M1 := HM.out.below hb1 HM.out.lt; have B1 := Lib.hid (HB.out.trans (hb1.mono HB.out.size)); clear hb1; have f10 := M1.cell 0; have q10 := M1.frozen 0)
    go_ret
    exact ⟨_, w.heap.size + 1 + 1, _, rfl, by omega, fun h => absurd h (by simp), B1.out⟩
end Go.Proofs.Ytkcnbgimdiggoab

/-
  A list of the call's own that grows.
-/
namespace Go.Proofs.Ytkcnbgimdiggoab
open Go.RowKit Go.Maps

/-! ### A list of the call's own that grows -/
structure PL (w : World) (gv : Array Value) (v : Value) (out : List Int) (W : World) : Prop where
  row : W.ownsRow (w.heap.size + 1) 3 1 v out.length (out.map (Value.int .i64))
  bel : Below w.heap.size w W
  box : Box W w.heap.size 25 gv
theorem PL.call {w : World} {gv : Array Value} {v : Value} {out : List Int} {W W' : World} (h : PL w gv v out W) (hb : Below W.heap.size W W') : PL w gv v out W' :=
  ⟨owns_kept h.row hb, h.bel.trans (hb.mono h.bel.size), h.box.below hb h.box.lt⟩
theorem PL.drew {w : World} {gv : Array Value} {v : Value} {out : List Int} {W : World} (h : PL w gv v out W) : PL w gv v out W.drew := ⟨h.row, h.bel.drew, h.box⟩
theorem PL.drewN {w : World} {gv : Array Value} {v : Value} {out : List Int} {W : World} (h : PL w gv v out W) (q : Nat) : PL w gv v out (W.drewN q) := ⟨h.row, ⟨h.bel.os, h.bel.tape, h.bel.output, h.bel.size, h.bel.block⟩, h.box⟩
theorem PL.append {w : World} {gv : Array Value} {v : Value} {out : List Int} {W : World} (h : PL w gv v out W) {x : Int} {v' : Value} {W' : World}
    (hown : W'.ownsRow (w.heap.size + 1) 3 1 v' (out.length + 1) (out.map (Value.int .i64) ++ [.int .i64 x])) (hg : (W.alloc (.cells #[.int .i64 x] 3)).grownBy W' v.ownBlock) :
    PL w gv v' (out ++ [x]) W' := by
  have hl := h.row.lt
  have zb := h.box.lt
  refine ⟨by rw [List.length_append, List.map_append]; exact hown, ?_, ?_⟩
  · exact (h.bel.alloc (by omega) _).grown hg (by simp; omega) (fun j e => by have := (hl j e).1; omega)
  · exact (hg.block _ (by simp; omega) (fun e => by have := (hl _ e.symm).1; omega)).trans (h.box.alloc _)
/-- A slice of numbers in memory of its own, no longer than its capacity. -/
def NewC (xs : List Int) (w : World) (e : Ending) (w' : World) : Prop :=
  ∃ A g c, e = .returned (.slice A xs.length c) ∧ w.heap.size ≤ g ∧ Own1i w' A g xs ∧ Below w.heap.size w w' ∧ xs.length ≤ c
theorem own_slicec {w : World} {base n : Nat} {v : Value} {xs : List Int} (h : w.ownsRow base 3 1 v n (xs.map (Value.int .i64))) (hb : base ≤ w.heap.size) :
    ∃ A g c, v = .slice A xs.length c ∧ base ≤ g ∧ xs.length ≤ c ∧ Own1i w A g xs := by
  have hn : n = xs.length := by have := h.1; simp at this; omega
  subst hn
  rcases h.2 with ⟨rfl, h0⟩ | ⟨g, cap, cur, rfl, hbg, hh, hn, _, hs, ht⟩
  · exact ⟨none, w.heap.size, 0, by rw [h0], hb, by omega, fun hp => by omega⟩
  · refine ⟨_, g, cap, rfl, hbg, hn, fun _ => ⟨rfl, cur, hh, fun k x hk => ?_⟩⟩
    have hkl : k < xs.length := (List.getElem?_eq_some_iff.1 hk).1
    have h1 : (xs.map (Value.int .i64))[k]? = some (.int .i64 x) := by rw [List.getElem?_map, hk]; rfl
    rw [← ht, List.getElem?_take_of_lt (by omega), Array.getElem?_toList] at h1
    exact h1
theorem PL.doneC {w : World} {gv : Array Value} {v : Value} {out : List Int} {W : World} (h : PL w gv v out W) : NewC out w (.returned v) W := by
  obtain ⟨A, g, c, e, hg, hc, ho⟩ := own_slicec h.row (by have := h.box.lt; omega)
  exact ⟨A, g, c, by rw [e], by omega, ho, h.bel, hc⟩
theorem NewC.newI {xs : List Int} {w : World} {e : Ending} {w' : World} (h : NewC xs w e w') : NewI xs w e w' := by
  obtain ⟨A, g, c, h1, h2, h3, h4, _⟩ := h
  exact ⟨A, g, c, h1, h2, h3, h4⟩
theorem PL.done {w : World} {gv : Array Value} {v : Value} {out : List Int} {W : World} (h : PL w gv v out W) : NewI out w (.returned v) W := by
  obtain ⟨A, g, c, e, hg, _, ho⟩ := own_slicei h.row (by have := h.box.lt; omega)
  exact ⟨A, g, c, by rw [e], by omega, ho, h.bel⟩

end Go.Proofs.Ytkcnbgimdiggoab

/-
  Both, of one graph: the program's and the specification's next hops; what the laws of next hops draw.
-/
namespace Go.Proofs.Ytkcnbgimdiggoab
open Go.RowKit





end Go.Proofs.Ytkcnbgimdiggoab

/-
  Contracts over this seat: ShortestPath, of the program and of the specification.
-/
namespace Go.Proofs.Ytkcnbgimdiggoab
open Go.RowKit Go.Maps

set_option maxHeartbeats 400000 in
theorem index_any (A : Option Addr) (xs : List Int) (c : Nat) (v : Int) (w : World) (hm : xs.length ≤ 2000000) (h1 : Sli w w.heap.size A xs) :
   Calls Try.prog 83 #[.slice A xs.length c, .int .i64 v] w fun e w' => (∃ r : Int, e = .returned (.int .i64 r) ∧ (0 ≤ r ↔ v ∈ xs)) ∧ w = w' := by
  have H1 := Lib.hid h1
  clear h1
  go_enter Try.func83, Try.ntmps83
  go_wp2_with fail
  go_loop [8] (fun i => ∃ k : Nat, k ≤ xs.length ∧ i = .int .i64 k ∧ ∀ j y, j < k → xs[j]? = some y → y ≠ v) (fun i => xs.length - (intOf i).toNat)
  case atStart => exact ⟨0, Nat.zero_le _, rfl, fun j y h => by omega⟩
  case round =>
    obtain ⟨k, hk, rfl, hall⟩ := hrel
    have HA := Lib.hid hall
    clear hall
    by_cases hlt : k < xs.length
    · obtain ⟨y, hy⟩ : ∃ y, xs[k]? = some y := ⟨_, List.getElem?_eq_getElem hlt⟩
      obtain ⟨b, off, rfl, hbb, hc⟩ := H1.out k y hy
      have HY := Lib.hid hy
      clear hy
      by_cases hvy : v = y
      · have hvy' : (v == y) = true := by simp [hvy]
        have HV := Lib.hid hvy
        clear hvy
        go_wp2_with fail
        go_ret
        refine ⟨⟨_, rfl, ?_⟩, rfl⟩
        have := List.mem_of_getElem? HY.out
        rw [← HV.out] at this
        simp [this]
      · have hvy' : (v == y) = false := by simpa using hvy
        have HV := Lib.hid hvy
        clear hvy
        go_wp2_with fail
        go_round
        case rel =>
          refine ⟨k + 1, hlt, by go_num, fun j z hj hz => ?_⟩
          by_cases hjk : j < k
          · exact HA.out j z hjk hz
          · obtain rfl : j = k := by omega
            rw [HY.out] at hz
            cases hz
            exact fun e => HV.out e.symm
        case measure => simp [intOf]; omega
    · have hge : xs.length ≤ k := by omega
      go_wp2_with fail
      go_ret
      refine ⟨⟨_, rfl, ?_⟩, rfl⟩
      have : v ∉ xs := fun h => by
        obtain ⟨j, hj⟩ := List.getElem?_of_mem h
        exact HA.out j v (by have := (List.getElem?_eq_some_iff.1 hj).1; omega) hj rfl
      simp [this]
theorem contains_any (A : Option Addr) (xs : List Int) (c : Nat) (v : Int) (w : World) (hm : xs.length ≤ 2000000) (h1 : Sli w w.heap.size A xs) :
   Calls Try.prog 53 #[.slice A xs.length c, .int .i64 v] w fun e w' => e = .returned (.bool (decide (v ∈ xs))) ∧ w = w' := by
  have C1 := index_any A xs c v w hm h1
  clear h1
  go_enter Try.func53, Try.ntmps53
  go_wp2_with (go_at_call 83; refine C1.mono ?_; clear C1; rintro e w1 ⟨⟨r, rfl, hr⟩, rfl⟩; have HR := Lib.hid hr; clear hr)
  go_ret
  exact ⟨ret_bool (by rw [decide_eq_decide]; exact HR.out), rfl⟩

theorem take_snoc {xs : List Int} {k : Nat} {a : Int} (h : xs[k]? = some a) : xs.take (k + 1) = xs.take k ++ [a] := by
  rw [List.take_add_one, h]; rfl
theorem path_last {n : Nat} {ls : List Lk} {s t : Int} {p : List Int} (h : IsP n ls t s p) {k : Nat} (hk : p[k]? = some t) : p = p.take k ++ [t] := by
  have hr := (h.rest hk).uniq (show IsP n ls t t [t] from .last)
  rw [← hr, List.take_append_drop]
theorem path_next {n : Nat} {ls : List Lk} {s t : Int} {p : List Int} (h : IsP n ls t s p) {k : Nat} {a : Int} (hk : p[k]? = some a) (ha : a ≠ t) : ∃ b zs, p[k + 1]? = some b ∧ hopsL (n : Int) ls a t = b :: zs := by
  have hr := h.rest hk
  generalize hq : p.drop k = q at hr
  cases hr with
  | last => exact absurd rfl ha
  | @step _ b zs p' h1 h2 h3 h4 hp =>
    refine ⟨b, zs, ?_, h2⟩
    have h5 := hp.head.1
    have : (p.drop k)[1]? = some b := by rw [hq]; simpa using h5
    rwa [List.getElem?_drop] at this






end Go.Proofs.Ytkcnbgimdiggoab

/-
  Contracts over this seat: PathCount, of the program and of the specification.
-/
namespace Go.Proofs.Ytkcnbgimdiggoab
open Go.RowKit Go.Maps

/-- The number of shortest paths over the first hops. -/
def sumTo (n : Nat) (ls : List Lk) (t : Int) (hs : List Int) (k : Nat) : Nat := ((hs.take k).map (fun z => cntL n ls z t)).sum
theorem sumTo_succ {n : Nat} {ls : List Lk} {t : Int} {hs : List Int} {k : Nat} {z : Int} (h : hs[k]? = some z) : sumTo n ls t hs (k + 1) = sumTo n ls t hs k + cntL n ls z t := by
  unfold sumTo
  rw [List.take_add_one, h]
  simp
theorem sumTo_le {n : Nat} {ls : List Lk} {t : Int} (hv : gvB (n : Int) ls = true) {hs : List Int} (h : hs.length ≤ 8) (k : Nat) : sumTo n ls t hs k ≤ 134217728 := by
  unfold sumTo
  refine Nat.le_trans (sum_le (b := 16777216) fun z _ => cntL_le hv z) ?_
  have : (hs.take k).length ≤ 8 := by simp; omega
  exact Nat.le_trans (Nat.mul_le_mul_right _ this) (by decide)



def countI (nn : Int) (ls : List Lk) (s t : Int) : Int := if vwB nn ls [s, t] = true then (cntL nn.toNat ls s t : Nat) else -1



end Go.Proofs.Ytkcnbgimdiggoab

/-
  Contracts over this seat: LinkUsed and NodeUsed, of the program and of the specification.
-/
namespace Go.Proofs.Ytkcnbgimdiggoab
open Go.RowKit Go.Maps

theorem Box.three {w : World} {b : Nat} {t : TypeId} {v0 v1 v2 : Value} (h : Box w b t #[v0, v1, v2]) : b < w.heap.size ∧ w.cell? ⟨b, 0, none⟩ = some v0 ∧ w.cell? ⟨b, 1, none⟩ = some v1 ∧ w.cell? ⟨b, 2, none⟩ = some v2 :=
  ⟨h.lt, h.cell 0, h.cell 1, h.cell 2⟩

theorem below_drewN {B : Nat} {a b : World} (h : Below B a b) (q : Nat) : Below B a (b.drewN q) := ⟨h.os, h.tape, h.output, h.size, h.block⟩

set_option maxRecDepth 100000 in
set_option maxHeartbeats 1600000 in
theorem takes_any (n : Nat) (A : Option Addr) (ls : List Lk) (c : Nat) (s t : Int) (l : Lk) (w : World) (hm : ls.length ≤ 2000000) (hv : gvB (n : Int) ls = true) (hs : 0 ≤ s ∧ s < (n : Int)) (ht : 0 ≤ t ∧ t < (n : Int))
    (ha : 0 ≤ l.a ∧ l.a < (n : Int)) (hb : 0 ≤ l.b ∧ l.b < (n : Int)) (hc : 0 ≤ l.c ∧ l.c ≤ 20) (hS : Sl w w.heap.size A ls) :
   Calls Try.prog 108 #[gval (n : Int) A ls.length c, .int .i64 s, .int .i64 t, l.v] w fun e w' => e = .returned (.bool (takesB (n : Int) ls s t l)) ∧ Below w.heap.size w w' := by
  obtain ⟨hf, hn1, hn8, hl14⟩ := gvB_fit hv
  obtain ⟨la, lb, lc⟩ := l
  unfold takesB
  dsimp only [Lk.v] at *
  obtain ⟨tn, rfl⟩ : ∃ q : Nat, t = (q : Int) := ⟨t.toNat, by omega⟩
  obtain ⟨a, rfl⟩ : ∃ q : Nat, la = (q : Int) := ⟨la.toNat, by omega⟩
  obtain ⟨b, rfl⟩ : ∃ q : Nat, lb = (q : Int) := ⟨lb.toNat, by omega⟩
  have X1 := Lib.hid (distL_at hv hs (i := tn) (by omega))
  have X2 := Lib.hid (distL_at hv hs (i := a) (by omega))
  have X3 := Lib.hid (distL_at hv hs (i := b) (by omega))
  have Y1 := Lib.hid (distL_at hv ht (i := b) (by omega))
  have Y2 := Lib.hid (distL_at hv ht (i := a) (by omega))
  have b1 := bf_bound hf hs hn8 (tn : Int)
  have b2 := bf_bound hf hs hn8 (a : Int)
  have b3 := bf_bound hf hs hn8 (b : Int)
  have b4 := bf_bound hf ht hn8 (b : Int)
  have b5 := bf_bound hf ht hn8 (a : Int)
  have hxl := distL_length (ls := ls) hv hs
  have hyl := distL_length (ls := ls) hv ht
  have C1 : ∀ V : World, Sl V V.heap.size A ls → Calls Try.prog 41 #[gval (n : Int) A ls.length c, .int .i64 s] V (NewI (distL (n : Int) ls s) V) := fun V hV => dist_impl (n : Int) A ls c s V hm hV
  have C2 : ∀ V : World, Sl V V.heap.size A ls → Calls Try.prog 41 #[gval (n : Int) A ls.length c, .int .i64 (tn : Int)] V (NewI (distL (n : Int) ls (tn : Int)) V) := fun V hV => dist_impl (n : Int) A ls c (tn : Int) V hm hV
  have htn : tn < n := by omega
  have han : a < n := by omega
  have hbn : b < n := by omega
  clear hv hs ht hf ha hb
  generalize distL (n : Int) ls s = xs at *
  generalize distL (n : Int) ls (tn : Int) = ys at *
  generalize bf (n : Int) ls s (tn : Int) = d1 at *
  generalize bf (n : Int) ls s (a : Int) = d2 at *
  generalize bf (n : Int) ls s (b : Int) = d3 at *
  generalize bf (n : Int) ls (tn : Int) (b : Int) = d4 at *
  generalize bf (n : Int) ls (tn : Int) (a : Int) = d5 at *
  have B0 : Below w.heap.size w ((w.alloc (.cells #[.int .i64 (n : Int), .slice A ls.length c] 25)).alloc (.cells #[.int .i64 (a : Int), .int .i64 (b : Int), .int .i64 lc] 68)) := by (repeat (first | exact Below.refl _ _ | (refine Below.alloc ?_ (by first | exact Nat.le_refl _ | omega | (simp; done) | (simp; omega)) _) | (refine Below.setCell ?_ (by first | exact Nat.le_refl _ | omega | (simp; done) | (simp; omega)) _) | exact Below.drew ‹_›))
  have G0 := Lib.hid ((Box.new w 25 #[.int .i64 (n : Int), .slice A ls.length c]).alloc (.cells #[.int .i64 (a : Int), .int .i64 (b : Int), .int .i64 lc] 68))
  have L0 := Box.new (w.alloc (.cells #[.int .i64 (n : Int), .slice A ls.length c] 25)) 68 #[.int .i64 (a : Int), .int .i64 (b : Int), .int .i64 lc]
  rw [World.size_alloc] at L0
  have LL := Lib.hid L0
  have SS := Lib.hid ((hS.below B0).more B0.size)
  have BB := Lib.hid B0
  clear hS B0 L0
  go_enter Try.func108, Try.ntmps108
  go_wp2_with fail
  generalize (w.alloc (.cells #[.int .i64 (n : Int), .slice A ls.length c] 25)).alloc (.cells #[.int .i64 (a : Int), .int .i64 (b : Int), .int .i64 lc] 68) = W0 at *
  obtain ⟨z0, e0, e1, -, -⟩ := G0.out.two
  go_region_law (first
    | (go_simp; go_at_call 41; refine (C2 _ S3.out).mono ?_; rintro e w4 ⟨A4, g4, c4, rfl, hg4, ho4, hb4⟩; have L4 := Lib.hid (L3.out.below hb4 L3.out.lt); have B4 := Lib.hid (B3.out.trans (hb4.mono B3.out.size)); have O4 := Lib.hid (O3.out.below hb4); have P4 := Lib.hid ho4; clear hb4 ho4 hg4)
    | (go_simp; go_at_call 41; refine (C1 W0.drew SS.out).mono ?_; rintro e w3 ⟨A3, g3, c3, rfl, hg3, ho3, hb3⟩; have G3 := Lib.hid (Box.below (w := W0.drew) G0.out hb3 z0); have L3 := Lib.hid (Box.below (w := W0.drew) LL.out hb3 LL.out.lt); have S3 := Lib.hid ((Sl.below (w := W0.drew) SS.out hb3).more hb3.size); have B3 := Lib.hid (BB.out.drew.trans (hb3.mono BB.out.size)); have O3 := Lib.hid ho3; obtain ⟨z3, e30, e31, -, -⟩ := G3.out.two; clear hb3 ho3 hg3))
  all_goals
    clear C1 C2 e30 e31 z3 e0 e1 z0
    obtain ⟨rfl, zx, x1⟩ := O4.out.at X1.out
    obtain ⟨-, -, x2⟩ := O4.out.at X2.out
    obtain ⟨-, -, x3⟩ := O4.out.at X3.out
    obtain ⟨rfl, zy, y1⟩ := P4.out.at Y1.out
    obtain ⟨-, -, y2⟩ := P4.out.at Y2.out
    obtain ⟨zl, f0, f1, f2⟩ := L4.out.three
    by_cases h1 : d1 = -1
    · have h1' : (d1 == -1) = true := by simp [h1]
      have H1 := Lib.hid h1
      clear h1
      go_wp2_with fail
      go_ret
      exact ⟨ret_bool (by simp [H1.out]), B4.out⟩
    · have h1' : (d1 == -1) = false := by simpa using h1
      have H1 := Lib.hid h1
      clear h1
      by_cases h2 : d2 = -1
      · have h2' : (d2 == -1) = true := by simp [h2]
        have H2 := Lib.hid h2
        clear h2
        go_wp2_with fail
        go_ret
        exact ⟨ret_bool (by simp [H2.out]), B4.out⟩
      · have h2' : (d2 == -1) = false := by simpa using h2
        have H2 := Lib.hid h2
        clear h2
        have hmin : -2 ≤ min (d2 + d4) (d3 + d5) ∧ min (d2 + d4) (d3 + d5) ≤ 280 := by omega
        go_wp2_with fail
        go_quiet (fail)
        have HM : Hid ((if d3 + d5 < d2 + d4 then d3 + d5 else d2 + d4) = min (d2 + d4) (d3 + d5)) := Lib.hid (by split <;> omega)
        have hmb : -2 ≤ (if d3 + d5 < d2 + d4 then d3 + d5 else d2 + d4) ∧ (if d3 + d5 < d2 + d4 then d3 + d5 else d2 + d4) ≤ 280 := by split <;> omega
        generalize (if d3 + d5 < d2 + d4 then d3 + d5 else d2 + d4) = m at *
        clear hmin
        go_wp2_with fail
        go_quiet (fail)
        go_wp2_with fail
        go_ret
        exact ⟨ret_bool (by rw [Bool.eq_iff_iff]; simp [H1.out, H2.out]; rw [HM.out]), below_drewN (below_drewN B4.out _) _⟩

theorem own_list {w : World} {b : Nat} {xs : List Int} (h : Box w b 3 (xs.map (Value.int .i64)).toArray) : Own1i w (some ⟨b, 0, none⟩) b xs := fun _ =>
  ⟨rfl, _, h, fun k x hk => by simp [hk]⟩
theorem used_out {nn : Int} {ls : List Lk} {s t x : Int} (h : inB x 0 ((ls.length : Int) - 1) = false) : usedB nn ls s t x = false := by
  unfold usedB
  unfold inB at h
  simp at h
  cases vwB nn ls [s, t] with
  | false => rfl
  | true =>
    rw [Bool.true_and]
    split
    · rw [List.getElem?_eq_none (by omega)]
    · rfl

set_option maxRecDepth 100000 in
set_option maxHeartbeats 1600000 in
theorem used_impl (nn : Int) (A : Option Addr) (ls : List Lk) (c : Nat) (s t x : Int) (w : World) (hm : ls.length ≤ 2000000) (hS : Sl w w.heap.size A ls) :
   Calls Try.prog 92 #[gval nn A ls.length c, .int .i64 s, .int .i64 t, .int .i64 x] w fun e w' => e = .returned (.bool (usedB nn ls s t x)) ∧ Below w.heap.size w w' := by
  have B0 : Below w.heap.size w ((w.alloc (.cells #[.int .i64 nn, .slice A ls.length c] 25)).alloc (.cells #[.int .i64 s, .int .i64 t] 3)) := by (repeat (first | exact Below.refl _ _ | (refine Below.alloc ?_ (by first | exact Nat.le_refl _ | omega | (simp; done) | (simp; omega)) _) | (refine Below.setCell ?_ (by first | exact Nat.le_refl _ | omega | (simp; done) | (simp; omega)) _) | exact Below.drew ‹_›))
  have G0 := Lib.hid ((Box.new w 25 #[.int .i64 nn, .slice A ls.length c]).alloc (.cells #[.int .i64 s, .int .i64 t] 3))
  have L0 := Box.new (w.alloc (.cells #[.int .i64 nn, .slice A ls.length c] 25)) 3 #[.int .i64 s, .int .i64 t]
  rw [World.size_alloc] at L0
  have X0 : Own1i ((w.alloc (.cells #[.int .i64 nn, .slice A ls.length c] 25)).alloc (.cells #[.int .i64 s, .int .i64 t] 3)) (some ⟨w.heap.size + 1, 0, none⟩) (w.heap.size + 1) [s, t] := own_list (by simpa using L0)
  have S0 := (hS.below B0).more B0.size
  have C1 := vw_any nn A ls c (some ⟨w.heap.size + 1, 0, none⟩) [s, t] 2 _ hm (by simp) S0 X0.sli
  have SS := Lib.hid S0
  have BB := Lib.hid B0
  have C2 : ∀ V : World, Calls Try.prog 59 #[gval nn A ls.length c, .int .i64 x] V fun e w' => e = .returned (.bool (inB x 0 ((ls.length : Int) - 1))) ∧ Below V.heap.size V w' := fun V => hasLink_any nn A ls.length c x V hm
  clear hS B0 L0 X0 S0
  cases hv : vwB nn ls [s, t] with
  | false =>
    have e : usedB nn ls s t x = false := by unfold usedB; rw [hv]; rfl
    rw [e]
    rw [hv] at C1
    clear hv e C2
    go_enter Try.func92, Try.ntmps92
    go_wp2_with (go_at_call 71; refine C1.mono ?_; clear C1; rintro e w1 ⟨rfl, hb1⟩; have B1 := Lib.hid (BB.out.trans (hb1.mono BB.out.size)); clear hb1)
    go_ret
    exact ⟨rfl, B1.out⟩
  | true =>
    rw [hv] at C1
    cases hx : inB x 0 ((ls.length : Int) - 1) with
    | false =>
      rw [used_out hx]
      rw [hx] at C2
      clear hx hv
      go_enter Try.func92, Try.ntmps92
      go_wp2_with (first
        | (go_at_call 71; refine C1.mono ?_; clear C1; rintro e w1 ⟨rfl, hb1⟩; have G1 := Lib.hid (G0.out.below hb1 G0.out.lt); obtain ⟨z1, e10, e11, -, -⟩ := G1.out.two; have B1 := Lib.hid (BB.out.trans (hb1.mono BB.out.size)); clear hb1)
        | (go_at_call 59; refine (C2 _).mono ?_; clear C2; rintro e w2 ⟨rfl, hb2⟩; have B2 := Lib.hid (B1.out.trans (hb2.mono B1.out.size)); clear hb2))
      go_ret
      exact ⟨rfl, B2.out⟩
    | true =>
      rw [hx] at C2
      obtain ⟨hg, hs, ht⟩ := vwB_two hv
      obtain ⟨n, rfl⟩ : ∃ q : Nat, nn = (q : Int) := ⟨nn.toNat, by omega⟩
      unfold inB at hx
      simp at hx
      obtain ⟨k, rfl⟩ : ∃ q : Nat, x = (q : Int) := ⟨x.toNat, by omega⟩
      have hkl : k < ls.length := by omega
      obtain ⟨l, hl⟩ : ∃ l, ls[k]? = some l := ⟨_, List.getElem?_eq_getElem hkl⟩
      have hat := gvB_at hg hl
      have C3 : ∀ V : World, Sl V V.heap.size A ls → Calls Try.prog 108 #[gval (n : Int) A ls.length c, .int .i64 s, .int .i64 t, l.v] V fun e w' => e = .returned (.bool (usedB (n : Int) ls s t (k : Int))) ∧ Below V.heap.size V w' := fun V hV => by
        rw [used_at hv hl, ← takes_used (gvB_fit hg).1 hs ht (List.mem_of_getElem? hl)]
        exact takes_any n A ls c s t l V hm hg hs ht (by omega) (by omega) (by omega) hV
      have HL := Lib.hid hl
      clear hx hv hg hs ht hl hat
      generalize usedB (n : Int) ls s t (k : Int) = r at *
      go_enter Try.func92, Try.ntmps92
      go_wp2_with fail
      refine C1.mono ?_
      clear C1
      rintro e w1 ⟨rfl, hb1⟩
      have G1 := Lib.hid (G0.out.below hb1 G0.out.lt)
      obtain ⟨z1, e10, e11, -, -⟩ := G1.out.two
      have B1 := Lib.hid (BB.out.trans (hb1.mono BB.out.size))
      have S1 := Lib.hid ((SS.out.below hb1).more hb1.size)
      clear hb1
      go_wp2_with fail
      refine (C2 _).mono ?_
      clear C2
      rintro e w2 ⟨rfl, hb2⟩
      have G2 := Lib.hid (G1.out.below hb2 G1.out.lt)
      have B2 := Lib.hid (B1.out.trans (hb2.mono B1.out.size))
      have S2 := Lib.hid ((S1.out.below hb2).more hb2.size)
      clear hb2 e10 e11 z1
      obtain ⟨z2, e20, e21, -, -⟩ := G2.out.two
      obtain ⟨bb, off, rfl, hbb, hc1, hc2, hc3⟩ := S2.out k l HL.out
      go_wp2_with fail
      go_region_law (go_simp; go_at_call 108; refine (C3 w2.drew S2.out).mono ?_; rintro e w3 ⟨rfl, hb3⟩; have B3 := Lib.hid (B2.out.drew.trans (hb3.mono B2.out.size)))
      all_goals
        go_wp2_with fail
        go_ret
        exact ⟨rfl, B3.out⟩


end Go.Proofs.Ytkcnbgimdiggoab

/-
  Contracts over this seat: the specification's LinkUsed and NodeUsed; both, of one graph.
-/
namespace Go.Proofs.Ytkcnbgimdiggoab
open Go.RowKit Go.Maps

set_option maxRecDepth 100000 in
set_option maxHeartbeats 1600000 in
theorem l2used_any (n : Nat) (A : Option Addr) (ls : List Lk) (c : Nat) (s t : Int) (k : Nat) (l : Lk) (w : World) (hl : ls[k]? = some l) (hv : gvB (n : Int) ls = true) (hs : 0 ≤ s ∧ s < (n : Int)) (ht : 0 ≤ t ∧ t < (n : Int)) (hS : Sl w w.heap.size A ls) :
   Calls Try.prog 47 #[gval (n : Int) A ls.length c, .int .i64 s, .int .i64 t, .int .i64 (k : Int)] w fun e w' => e = .returned (.bool (usedL (n : Int) ls s t l)) ∧ Below w.heap.size w w' := by
  obtain ⟨hf, hn1, hn8, hl14⟩ := gvB_fit hv
  have hat := gvB_at hv hl
  have HL := Lib.hid hl
  have hkl := (List.getElem?_eq_some_iff.1 hl).1
  clear hl
  obtain ⟨la, lb, lc⟩ := l
  unfold usedL
  dsimp only at *
  obtain ⟨tn, rfl⟩ : ∃ q : Nat, t = (q : Int) := ⟨t.toNat, by omega⟩
  obtain ⟨a, rfl⟩ : ∃ q : Nat, la = (q : Int) := ⟨la.toNat, by omega⟩
  obtain ⟨b, rfl⟩ : ∃ q : Nat, lb = (q : Int) := ⟨lb.toNat, by omega⟩
  have htn : tn < n := by omega
  have han : a < n := by omega
  have hbn : b < n := by omega
  have hc20 : 1 ≤ lc ∧ lc ≤ 20 := by omega
  have X1 := Lib.hid (fl_at (f := bf (n : Int) ls s) htn)
  have X2 := Lib.hid (fl_at (f := bf (n : Int) ls s) han)
  have X3 := Lib.hid (fl_at (f := bf (n : Int) ls s) hbn)
  have Y1 := Lib.hid (fl_at (f := bf (n : Int) ls (tn : Int)) hbn)
  have Y2 := Lib.hid (fl_at (f := bf (n : Int) ls (tn : Int)) han)
  have b1 := bf_bound hf hs hn8 (tn : Int)
  have b2 := bf_bound hf hs hn8 (a : Int)
  have b3 := bf_bound hf hs hn8 (b : Int)
  have b4 := bf_bound hf ht hn8 (b : Int)
  have b5 := bf_bound hf ht hn8 (a : Int)
  have hxl := fl_len n (bf (n : Int) ls s)
  have hyl := fl_len n (bf (n : Int) ls (tn : Int))
  have C1 : ∀ V : World, Sl V V.heap.size A ls → Calls Try.prog 46 #[gval (n : Int) A ls.length c, .int .i64 s] V (NewI (fl n (bf (n : Int) ls s)) V) := fun V hV => l2d_any n A ls c s V (by omega) (by omega) hl14 hf hs hV
  have C2 : ∀ V : World, Sl V V.heap.size A ls → Calls Try.prog 46 #[gval (n : Int) A ls.length c, .int .i64 (tn : Int)] V (NewI (fl n (bf (n : Int) ls (tn : Int))) V) := fun V hV => l2d_any n A ls c (tn : Int) V (by omega) (by omega) hl14 hf ht hV
  clear hv hs ht hf hat
  generalize fl n (bf (n : Int) ls s) = xs at *
  generalize fl n (bf (n : Int) ls (tn : Int)) = ys at *
  generalize bf (n : Int) ls s (tn : Int) = d1 at *
  generalize bf (n : Int) ls s (a : Int) = d2 at *
  generalize bf (n : Int) ls s (b : Int) = d3 at *
  generalize bf (n : Int) ls (tn : Int) (b : Int) = d4 at *
  generalize bf (n : Int) ls (tn : Int) (a : Int) = d5 at *
  have B0 : Below w.heap.size w (w.alloc (.cells #[.int .i64 (n : Int), .slice A ls.length c] 25)) := by (repeat (first | exact Below.refl _ _ | (refine Below.alloc ?_ (by first | exact Nat.le_refl _ | omega | (simp; done) | (simp; omega)) _) | (refine Below.setCell ?_ (by first | exact Nat.le_refl _ | omega | (simp; done) | (simp; omega)) _) | exact Below.drew ‹_›))
  have G0 := Lib.hid (Box.new w 25 #[.int .i64 (n : Int), .slice A ls.length c])
  have SS := Lib.hid ((hS.below B0).more B0.size)
  have BB := Lib.hid B0
  clear hS B0
  go_enter Try.func47, Try.ntmps47
  go_wp2_with fail
  refine (C1 _ SS.out).mono ?_
  clear C1
  rintro e w3 ⟨A3, g3, c3, rfl, hg3, ho3, hb3⟩
  have G3 := Lib.hid (G0.out.below hb3 G0.out.lt)
  have S3 := Lib.hid ((SS.out.below hb3).more hb3.size)
  have B3 := Lib.hid (BB.out.trans (hb3.mono BB.out.size))
  have O3 := Lib.hid ho3
  obtain ⟨z3, e30, e31, -, -⟩ := G3.out.two
  clear hb3 ho3 hg3 G0 SS BB
  go_wp2_with fail
  refine (C2 _ S3.out).mono ?_
  clear C2
  rintro e w4 ⟨A4, g4, c4, rfl, hg4, ho4, hb4⟩
  have G4 := Lib.hid (G3.out.below hb4 G3.out.lt)
  have S4 := Lib.hid ((S3.out.below hb4).more hb4.size)
  have B4 := Lib.hid (B3.out.trans (hb4.mono B3.out.size))
  have O4 := Lib.hid (O3.out.below hb4)
  have P4 := Lib.hid ho4
  clear hb4 ho4 hg4 G3 S3 B3 O3 e30 e31 z3
  obtain ⟨z4, e40, e41, -, -⟩ := G4.out.two
  obtain ⟨bb, off, rfl, hbb, hc1, hc2, hc3⟩ := S4.out k _ HL.out
  dsimp only at hc1 hc2 hc3
  have L5 := Lib.hid (Box.new w4 68 #[.int .i64 (a : Int), .int .i64 (b : Int), .int .i64 lc])
  have O5 := Lib.hid (O4.out.alloc (.cells #[.int .i64 (a : Int), .int .i64 (b : Int), .int .i64 lc] 68))
  have P5 := Lib.hid (P4.out.alloc (.cells #[.int .i64 (a : Int), .int .i64 (b : Int), .int .i64 lc] 68))
  have B5 := Lib.hid (B4.out.alloc B4.out.size (.cells #[.int .i64 (a : Int), .int .i64 (b : Int), .int .i64 lc] 68))
  go_upto_region 4 with fail
  clear hc1 hc2 hc3 e40 e41 hbb O4 P4 B4 S4 G4
  have zw5 : w.heap.size < (w4.alloc (.cells #[.int .i64 (a : Int), .int .i64 (b : Int), .int .i64 lc] 68)).heap.size := by simp; omega
  generalize w4.alloc (.cells #[.int .i64 (a : Int), .int .i64 (b : Int), .int .i64 lc] 68) = W5 at *
  generalize w4.heap.size = bx at *
  obtain ⟨rfl, zx, x1⟩ := O5.out.at X1.out
  obtain ⟨-, -, x2⟩ := O5.out.at X2.out
  obtain ⟨-, -, x3⟩ := O5.out.at X3.out
  obtain ⟨rfl, zy, y1⟩ := P5.out.at Y1.out
  obtain ⟨-, -, y2⟩ := P5.out.at Y2.out
  obtain ⟨zl, f0, f1, f2⟩ := L5.out.three
  by_cases h1 : d1 < 0
  · have H1 := Lib.hid h1
    go_wp2_with fail
    go_ret
    exact ⟨ret_bool (by have := H1.out; simp; omega), B5.out⟩
  · have h1' : decide (d1 < 0) = false := by simpa using h1
    have H1 := Lib.hid h1
    clear h1
    by_cases h2 : d2 < 0
    · have H2 := Lib.hid h2
      go_wp2_with fail
      go_ret
      exact ⟨ret_bool (by have := H2.out; simp; omega), B5.out⟩
    · have h2' : decide (d2 < 0) = false := by simpa using h2
      have H2 := Lib.hid h2
      clear h2
      by_cases h3 : d2 + lc + d4 = d1
      · have h3' : (d2 + lc + d4 == d1) = true := by simp [h3]
        have H3 := Lib.hid h3
        clear h3
        go_wp2_with fail
        go_quiet (fail)
        go_wp2_with fail
        go_ret
        exact ⟨ret_bool (by have := H1.out; have := H2.out; rw [decide_eq_true H3.out]; simp; omega), below_drewN B5.out _⟩
      · have h3' : (d2 + lc + d4 == d1) = false := by simpa using h3
        have H3 := Lib.hid h3
        clear h3
        go_wp2_with fail
        go_quiet (fail)
        go_wp2_with fail
        go_ret
        exact ⟨ret_bool (by have := H1.out; have := H2.out; rw [decide_eq_false H3.out, Bool.eq_iff_iff]; simp; omega), below_drewN B5.out _⟩





end Go.Proofs.Ytkcnbgimdiggoab
