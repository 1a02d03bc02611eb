/-
  Contracts over this seat: a table kept in part, in memory of its own (for each function that is asked).
-/
import Derived.Test.YtohflcbpjjnccabTfc
import Derived.Test.YtohflcbpjjnccabTj
namespace Go.Proofs.Ytohflcbpjjnccab
open Go.RowKit Go.Maps

set_option maxRecDepth 100000 in
theorem hopclone_any (g o : Nat) (xs : List Int) (c : Nat) (w : World) (hm : xs.length ≤ 1048576) (h : Sli w w.heap.size (some ⟨g, o, none⟩) xs) :
   Calls Try.prog 76 #[.slice (some ⟨g, o, none⟩) xs.length c] w fun e w' => ∃ g' d, e = .returned (.slice (some ⟨g', 0, none⟩) xs.length d) ∧ w.heap.size ≤ g' ∧ Arri w' g' xs ∧ xs.length ≤ d ∧ Below w.heap.size w w' := by
  obtain ⟨j0, hj, hy0, hy1, hy2⟩ := info_parts infoInt
  have N3 := Lib.hid (QN.made (w := w) (W := w) (Below.refl w.heap.size w))
  have HI := Lib.hid h
  clear h
  have hnil := fun (w : World) => Lib.run_eql_slice_nil (P := Try.prog) w 23 3 (some ⟨g, o, none⟩) xs.length c 0 0 Try.underlying23
  go_enter Try.func76, Try.ntmps76
  go_wp2_with (at_builtin; refine wpList_append_own _ rfl _ _ 23 rfl w.heap.size 3 j0 _ 1 8 Try.underlying23 hj hy0 hy1 hy2 rfl (by decide) _ 0 (List.map (Value.int .i64) []) rfl N3.out.row ⟨g, o, none⟩ xs.length c (xs.map (Value.int .i64)) rfl (by simp) (sli_flat (HI.out.below N3.out.bel)) (ints_one xs) (by unfold maxLen; omega) (by omega) N3.out.bel.size ?_; intro v4 w4 ho4 hg4 hn4; have N4 := Lib.hid (N3.out.grown rfl ho4 hg4 hn4); clear ho4 hg4 hn4; rw [List.nil_append] at N4; obtain ⟨gn, dn, e2, hgn, -, an, hdn⟩ := own_nodes N4.out.row N4.out.nn; subst e2; have AN := Lib.hid an; clear an)
  go_ret
  exact ⟨gn, dn, rfl, hgn, AN.out, hdn, N4.out.bel⟩
theorem rtkeep_next {rs : List Lk} {k : Nat} {x : Lk} (hx : rs[k]? = some x) (pr : Lk → Bool) : (rs.take (k + 1)).filter pr = (rs.take k).filter pr ++ (if pr x = true then [x] else []) := by
  rw [List.take_add_one, hx, List.filter_append]
  cases h : pr x <;> simp [h]

theorem wcl_any (x : Lk) (p b : Int) (P Q : Nat) (w : World) (hP : Box w P 3 #[.int .i64 p]) (hQ : Box w Q 3 #[.int .i64 b]) :
   Calls Try.prog 72 #[rtV x, .pointer (some ⟨P, 0, none⟩), .pointer (some ⟨Q, 0, none⟩)] w fun e w' => e = .returned (.bool (!(decide (x.a = p) && decide (x.b = b)))) ∧ Below w.heap.size w w' := by
  obtain ⟨xa, xb, xc⟩ := x
  dsimp only [rtV]
  have hp1 : w.cell? ⟨P, 0, none⟩ = some (.int .i64 p) := hP.cell 0
  have hq1 : w.cell? ⟨Q, 0, none⟩ = some (.int .i64 b) := hQ.cell 0
  have hpl := hP.lt
  have hql := hQ.lt
  have hb0 := Lib.hid (show Below w.heap.size w (w.alloc (.cells #[.int .i64 xa, .int .i64 xb, .int .i64 xc] 38)) by (repeat (first | exact Below.refl _ _ | (refine Below.alloc ?_ (by first | exact Nat.le_refl _ | omega | (simp; done) | (simp; omega)) _) | (refine Below.setCell ?_ (by first | exact Nat.le_refl _ | omega | (simp; done) | (simp; omega)) _) | exact Below.drew ‹_›)))
  clear hP hQ
  by_cases h1 : xa = p
  · have n1 : (xa != p) = false := by simp [h1]
    by_cases h2 : xb = b
    · have n2 : (xb != b) = false := by simp [h2]
      have HF := Lib.hid (show (!(decide (xa = p) && decide (xb = b))) = false by simp [h1, h2])
      clear h1 h2
      go_enter Try.func72, Try.ntmps72
      go_wp2_with fail
      go_ret
      exact ⟨ret_bool HF.out.symm, hb0.out⟩
    · have n2 : (xb != b) = true := by simp [h2]
      have HF := Lib.hid (show (!(decide (xa = p) && decide (xb = b))) = true by simp [h2])
      clear h1 h2
      go_enter Try.func72, Try.ntmps72
      go_wp2_with fail
      go_ret
      exact ⟨ret_bool HF.out.symm, hb0.out⟩
  · have n1 : (xa != p) = true := by simp [h1]
    have HF := Lib.hid (show (!(decide (xa = p) && decide (xb = b))) = true by simp [h1])
    clear h1
    go_enter Try.func72, Try.ntmps72
    go_wp2_with fail
    go_ret
    exact ⟨ret_bool HF.out.symm, hb0.out⟩
theorem tcl1_any (x : Lk) (w : World) :
   Calls Try.prog 62 #[rtV x] w fun e w' => e = .returned (.bool true) ∧ Below w.heap.size w w' := by
  go_enter Try.func62, Try.ntmps62
  go_wp2_with fail
  go_ret
  exact ⟨rfl, by (repeat (first | exact Below.refl _ _ | (refine Below.alloc ?_ (by first | exact Nat.le_refl _ | omega | (simp; done) | (simp; omega)) _) | (refine Below.setCell ?_ (by first | exact Nat.le_refl _ | omega | (simp; done) | (simp; omega)) _) | exact Below.drew ‹_›))⟩
theorem tcl2_any (x : Lk) (h : Int) (P : Nat) (w : World) (hP : Box w P 3 #[.int .i64 h]) :
   Calls Try.prog 63 #[rtV x, .pointer (some ⟨P, 0, none⟩)] w fun e w' => e = .returned (.bool (decide (x.c = h))) ∧ Below w.heap.size w w' := by
  obtain ⟨xa, xb, xc⟩ := x
  dsimp only [rtV]
  have hp1 : w.cell? ⟨P, 0, none⟩ = some (.int .i64 h) := hP.cell 0
  have hpl := hP.lt
  have hb0 := Lib.hid (show Below w.heap.size w (w.alloc (.cells #[.int .i64 xa, .int .i64 xb, .int .i64 xc] 38)) by (repeat (first | exact Below.refl _ _ | (refine Below.alloc ?_ (by first | exact Nat.le_refl _ | omega | (simp; done) | (simp; omega)) _) | (refine Below.setCell ?_ (by first | exact Nat.le_refl _ | omega | (simp; done) | (simp; omega)) _) | exact Below.drew ‹_›)))
  clear hP
  go_enter Try.func63, Try.ntmps63
  go_wp2_with fail
  go_ret
  exact ⟨ret_bool (by by_cases e : xc = h <;> simp [e]), hb0.out⟩

set_option maxRecDepth 100000 in
set_option maxHeartbeats 3200000 in
theorem keepwo_any (pr : Lk → Bool) (P Q : Nat) (ga oa : Nat) (rs : List Lk) (c : Nat) (gb ob : Nat) (hs : List Int) (d : Nat) (w : World) (hm : rs.length ≤ 1048576) (hmh : hs.length ≤ 1048576) (hS : Sl w w.heap.size (some ⟨ga, oa, none⟩) rs) (hI : Sli w w.heap.size (some ⟨gb, ob, none⟩) hs)
   (HC : ∀ (x : Lk) (W : World), Below w.heap.size w W → Calls Try.prog 72 #[rtV x, .pointer (some ⟨P, 0, none⟩), .pointer (some ⟨Q, 0, none⟩)] W fun e w' => e = .returned (.bool (pr x)) ∧ Below W.heap.size W w') :
   Calls Try.prog 61 #[tbV (some ⟨ga, oa, none⟩) rs.length c (some ⟨gb, ob, none⟩) hs.length d, .func (.func 72) #[] #[.pointer (some ⟨P, 0, none⟩), .pointer (some ⟨Q, 0, none⟩)]] w fun e w' => ∃ v, e = .returned v ∧ NewTb (rs.filter pr) hs w v w' := by
  obtain ⟨i0, hi, hz0, hz1, hz2⟩ := info_parts infoRoute
  have B0 : Below w.heap.size w ((w.alloc (.cells #[.slice (some ⟨ga, oa, none⟩) rs.length c, .slice (some ⟨gb, ob, none⟩) hs.length d] 30)).alloc (.cells #[.slice none 0 0, .slice none 0 0] 30)) := by (repeat (first | exact Below.refl _ _ | (refine Below.alloc ?_ (by first | exact Nat.le_refl _ | omega | (simp; done) | (simp; omega)) _) | (refine Below.setCell ?_ (by first | exact Nat.le_refl _ | omega | (simp; done) | (simp; omega)) _) | exact Below.drew ‹_›))
  have HK := Lib.hid ((Box.new w 30 #[.slice (some ⟨ga, oa, none⟩) rs.length c, .slice (some ⟨gb, ob, none⟩) hs.length d]).alloc (.cells #[.slice none 0 0, .slice none 0 0] 30))
  have L0 := Box.new (w.alloc (.cells #[.slice (some ⟨ga, oa, none⟩) rs.length c, .slice (some ⟨gb, ob, none⟩) hs.length d] 30)) 30 #[.slice none 0 0, .slice none 0 0]
  rw [World.size_alloc] at L0
  have HL := Lib.hid L0
  have HS := Lib.hid hS
  have HI := Lib.hid hI
  have HB := Lib.hid B0
  have HH := Lib.hid HC
  have hq2 : ((w.alloc (.cells #[.slice (some ⟨ga, oa, none⟩) rs.length c, .slice (some ⟨gb, ob, none⟩) hs.length d] 30)).alloc (.cells #[.slice none 0 0, .slice none 0 0] 30)).heap.size = w.heap.size + 2 := by simp
  have Q0 := QT.made (w := (w.alloc (.cells #[.slice (some ⟨ga, oa, none⟩) rs.length c, .slice (some ⟨gb, ob, none⟩) hs.length d] 30)).alloc (.cells #[.slice none 0 0, .slice none 0 0] 30)) (Below.refl _ _)
  have Q1 := Lib.hid Q0
  clear hS hI B0 L0 HC Q0
  go_enter Try.func61, Try.ntmps61
  go_wp2_with fail
  rw [hq2] at Q1
  generalize (w.alloc (.cells #[.slice (some ⟨ga, oa, none⟩) rs.length c, .slice (some ⟨gb, ob, none⟩) hs.length d] 30)).alloc (.cells #[.slice none 0 0, .slice none 0 0] 30) = W0 at *
  generalize hW1 : W0.alloc (.cells #[] 38) = W1 at *
  clear hW1
  have HZ := Lib.hid hq2
  clear hq2
  go_loopw [12, 5] (fun i v wr => ∃ (k : Nat) (out : List Lk), k ≤ rs.length ∧ i = .int .i64 (k : Int) ∧ Hid (out = (rs.take k).filter pr) ∧ out.length ≤ k ∧ Hid (QT W0 v out wr)) (fun i _ _ => rs.length - (intOf i).toNat)
  case atStart => exact ⟨0, [], Nat.zero_le _, rfl, Lib.hid rfl, Nat.le_refl _, Q1⟩
  case round =>
    obtain ⟨k, out, hk, rfl, HO, hok, M⟩ := hrel
    clear Q1
    have hwz := HZ.out
    have hwb := M.out.bel.size
    have BW := Lib.hid (HB.out.trans (M.out.bel.mono HB.out.size))
    have KT := Lib.hid (HK.out.below M.out.bel HK.out.lt)
    have KL := Lib.hid (HL.out.below M.out.bel HL.out.lt)
    obtain ⟨z1, e10, e11, -, -⟩ := KT.out.two
    by_cases hlt : k < rs.length
    · obtain ⟨x, hx⟩ : ∃ x, rs[k]? = some x := ⟨_, List.getElem?_eq_getElem hlt⟩
      obtain ⟨b', off, e', hbb, hc0, hc1, hc2⟩ := (HS.out.below BW.out) k x hx
      cases e'
      have hb1 : ga < wr.heap.size := by omega
      have HN := Lib.hid (rtkeep_next hx pr)
      rw [← HO.out] at HN
      have BX := Lib.hid (show Below wr.heap.size wr (wr.alloc (.cells #[.int .i64 x.a, .int .i64 x.b, .int .i64 x.c] 38)) by (repeat (first | exact Below.refl _ _ | (refine Below.alloc ?_ (by first | exact Nat.le_refl _ | omega | (simp; done) | (simp; omega)) _) | (refine Below.setCell ?_ (by first | exact Nat.le_refl _ | omega | (simp; done) | (simp; omega)) _) | exact Below.drew ‹_›)))
      have KX := Lib.hid (Box.new wr 38 #[.int .i64 x.a, .int .i64 x.b, .int .i64 x.c])
      have C1 := HH.out x (wr.alloc (.cells #[.int .i64 x.a, .int .i64 x.b, .int .i64 x.c] 38)) (BW.out.trans (BX.out.mono BW.out.size))
      clear hx
      obtain ⟨xa, xb, xc⟩ := x
      dsimp only [rtV] at *
      cases hp : pr ⟨xa, xb, xc⟩ with
      | false =>
        rw [hp] at C1
        have HN2 := Lib.hid (show (rs.take (k + 1)).filter pr = out by rw [HN.out, hp]; simp)
        clear hp HN
        go_wp2_with (go_at_call 72; refine C1.mono ?_; clear C1; rintro e w1 ⟨rfl, hb⟩; have M2 := Lib.hid ((M.out.call BX.out).call hb); clear hb)
        go_roundw
        case rel => exact ⟨k + 1, out, hlt, by go_num, Lib.hid HN2.out.symm, by omega, M2⟩
        case measure => simp [intOf]; omega
      | true =>
        rw [hp] at C1
        have HN2 := Lib.hid (show (rs.take (k + 1)).filter pr = out ++ [⟨xa, xb, xc⟩] by rw [HN.out, hp]; simp)
        clear hp HN
        go_wp2_with (first
          | (go_at_call 72; refine C1.mono ?_; clear C1; rintro e w1 ⟨rfl, hb⟩; have M2 := Lib.hid ((M.out.call BX.out).call hb); have KX2 := Lib.hid (KX.out.below hb KX.out.lt); have M3 := Lib.hid (M2.out.call ((Below.refl _ _).alloc (Nat.le_refl _) (.cells #[.int .i64 xa, .int .i64 xb, .int .i64 xc] 38))); clear hb; obtain ⟨z2, x10, x11, x12, -, -, -⟩ := KX2.out.trip)
          | (at_builtin; refine wpList_append_own _ rfl _ _ 28 rfl W0.heap.size 38 i0 _ 3 24 Try.underlying28 hi hz0 hz1 hz2 rfl (by decide) _ out.length (flat out) rfl M3.out.row ⟨w1.heap.size, 0, none⟩ 1 1 [.int .i64 xa, .int .i64 xb, .int .i64 xc] rfl rfl (new3 w1 (.int .i64 xa) (.int .i64 xb) (.int .i64 xc) 38) (one3 _ _ _) (by unfold maxLen; omega) (by omega) M3.out.bel.size ?_; intro v' w9 hown hgrow hnil; have M9 := Lib.hid (M3.out.grown (zs := [⟨xa, xb, xc⟩]) rfl hown hgrow hnil); clear hown hgrow hnil))
        go_roundw
        case rel => exact ⟨k + 1, out ++ [⟨xa, xb, xc⟩], hlt, by go_num, Lib.hid HN2.out.symm, by simp; omega, M9⟩
        case measure => simp [intOf]; omega
    · obtain rfl : k = rs.length := by omega
      have hge : ¬ ((rs.length : Int) < (rs.length : Int)) := by omega
      have HO2 := HO.out
      rw [List.take_length] at HO2
      obtain ⟨gr, cr, e1, hgr, -, ar, hcr⟩ := own_routes M.out.row M.out.nn
      subst e1
      have RM := Lib.hid (own_room M.out.row)
      have AR := Lib.hid ar
      have CC := fun W h => hopclone_any gb ob hs d W hmh h
      have HE := Lib.hid HO2
      clear HO HO2 ar
      go_wp2_with fail
      refine (CC _ ((HI.out.below BW.out).more BW.out.size)).mono ?_
      clear CC
      rintro e w5 ⟨gn, dn, rfl, hgn, an, hdn, hb5⟩
      have B5 := Lib.hid (BW.out.trans (hb5.mono BW.out.size))
      have AR5 := Lib.hid (AR.out.below hb5 AR.out.lt)
      have RM5 := Lib.hid (RM.out.below hb5 RM.out.lt)
      have AN := Lib.hid an
      have L9 := Lib.hid (KL.out.below hb5 KL.out.lt)
      clear hb5 an e10 e11 z1
      obtain ⟨z9, f0, f1, q0, q1⟩ := L9.out.two
      go_wp2_with fail
      obtain ⟨b2, r0, r1⟩ := ret_two L9.out (.slice (some ⟨gr, 0, none⟩) out.length cr) (.slice (some ⟨gn, 0, none⟩) hs.length dn)
      refine bodyPost_ret (v := tbV (some ⟨gr, 0, none⟩) out.length cr (some ⟨gn, 0, none⟩) hs.length dn) (by simp [results, Try.results61, go_sem, r0, r1]) rfl ?_
      rw [← HE.out]
      refine ⟨_, rfl, gr, cr, gn, dn, rfl, by omega, by omega, ?_, ?_, ?_, hcr, hdn, ?_⟩
      · exact (AR5.out.far (p := ⟨w.heap.size + 1, 0, none⟩) (by dsimp only; omega) _).far (p := ⟨w.heap.size + 1, 1, none⟩) (by dsimp only; omega) _
      · exact (AN.out.setFar (p := ⟨w.heap.size + 1, 0, none⟩) (by dsimp only; omega) _).setFar (p := ⟨w.heap.size + 1, 1, none⟩) (by dsimp only; omega) _
      · exact (B5.out.setCell (p := ⟨w.heap.size + 1, 0, none⟩) (Nat.le_succ _) _).setCell (p := ⟨w.heap.size + 1, 1, none⟩) (Nat.le_succ _) _
      · exact (RM5.out.far (p := ⟨w.heap.size + 1, 0, none⟩) (by dsimp only; omega) _).far (p := ⟨w.heap.size + 1, 1, none⟩) (by dsimp only; omega) _

set_option maxRecDepth 100000 in
set_option maxHeartbeats 3200000 in
theorem keept1_any (pr : Lk → Bool) (ga oa : Nat) (rs : List Lk) (c : Nat) (gb ob : Nat) (hs : List Int) (d : Nat) (w : World) (hm : rs.length ≤ 1048576) (hmh : hs.length ≤ 1048576) (hS : Sl w w.heap.size (some ⟨ga, oa, none⟩) rs) (hI : Sli w w.heap.size (some ⟨gb, ob, none⟩) hs)
   (HC : ∀ (x : Lk) (W : World), Below w.heap.size w W → Calls Try.prog 62 #[rtV x] W fun e w' => e = .returned (.bool (pr x)) ∧ Below W.heap.size W w') :
   Calls Try.prog 61 #[tbV (some ⟨ga, oa, none⟩) rs.length c (some ⟨gb, ob, none⟩) hs.length d, .func (.func 62) #[] #[]] w fun e w' => ∃ v, e = .returned v ∧ NewTb (rs.filter pr) hs w v w' := by
  obtain ⟨i0, hi, hz0, hz1, hz2⟩ := info_parts infoRoute
  have B0 : Below w.heap.size w ((w.alloc (.cells #[.slice (some ⟨ga, oa, none⟩) rs.length c, .slice (some ⟨gb, ob, none⟩) hs.length d] 30)).alloc (.cells #[.slice none 0 0, .slice none 0 0] 30)) := by (repeat (first | exact Below.refl _ _ | (refine Below.alloc ?_ (by first | exact Nat.le_refl _ | omega | (simp; done) | (simp; omega)) _) | (refine Below.setCell ?_ (by first | exact Nat.le_refl _ | omega | (simp; done) | (simp; omega)) _) | exact Below.drew ‹_›))
  have HK := Lib.hid ((Box.new w 30 #[.slice (some ⟨ga, oa, none⟩) rs.length c, .slice (some ⟨gb, ob, none⟩) hs.length d]).alloc (.cells #[.slice none 0 0, .slice none 0 0] 30))
  have L0 := Box.new (w.alloc (.cells #[.slice (some ⟨ga, oa, none⟩) rs.length c, .slice (some ⟨gb, ob, none⟩) hs.length d] 30)) 30 #[.slice none 0 0, .slice none 0 0]
  rw [World.size_alloc] at L0
  have HL := Lib.hid L0
  have HS := Lib.hid hS
  have HI := Lib.hid hI
  have HB := Lib.hid B0
  have HH := Lib.hid HC
  have hq2 : ((w.alloc (.cells #[.slice (some ⟨ga, oa, none⟩) rs.length c, .slice (some ⟨gb, ob, none⟩) hs.length d] 30)).alloc (.cells #[.slice none 0 0, .slice none 0 0] 30)).heap.size = w.heap.size + 2 := by simp
  have Q0 := QT.made (w := (w.alloc (.cells #[.slice (some ⟨ga, oa, none⟩) rs.length c, .slice (some ⟨gb, ob, none⟩) hs.length d] 30)).alloc (.cells #[.slice none 0 0, .slice none 0 0] 30)) (Below.refl _ _)
  have Q1 := Lib.hid Q0
  clear hS hI B0 L0 HC Q0
  go_enter Try.func61, Try.ntmps61
  go_wp2_with fail
  rw [hq2] at Q1
  generalize (w.alloc (.cells #[.slice (some ⟨ga, oa, none⟩) rs.length c, .slice (some ⟨gb, ob, none⟩) hs.length d] 30)).alloc (.cells #[.slice none 0 0, .slice none 0 0] 30) = W0 at *
  generalize hW1 : W0.alloc (.cells #[] 38) = W1 at *
  clear hW1
  have HZ := Lib.hid hq2
  clear hq2
  go_loopw [12, 5] (fun i v wr => ∃ (k : Nat) (out : List Lk), k ≤ rs.length ∧ i = .int .i64 (k : Int) ∧ Hid (out = (rs.take k).filter pr) ∧ out.length ≤ k ∧ Hid (QT W0 v out wr)) (fun i _ _ => rs.length - (intOf i).toNat)
  case atStart => exact ⟨0, [], Nat.zero_le _, rfl, Lib.hid rfl, Nat.le_refl _, Q1⟩
  case round =>
    obtain ⟨k, out, hk, rfl, HO, hok, M⟩ := hrel
    clear Q1
    have hwz := HZ.out
    have hwb := M.out.bel.size
    have BW := Lib.hid (HB.out.trans (M.out.bel.mono HB.out.size))
    have KT := Lib.hid (HK.out.below M.out.bel HK.out.lt)
    have KL := Lib.hid (HL.out.below M.out.bel HL.out.lt)
    obtain ⟨z1, e10, e11, -, -⟩ := KT.out.two
    by_cases hlt : k < rs.length
    · obtain ⟨x, hx⟩ : ∃ x, rs[k]? = some x := ⟨_, List.getElem?_eq_getElem hlt⟩
      obtain ⟨b', off, e', hbb, hc0, hc1, hc2⟩ := (HS.out.below BW.out) k x hx
      cases e'
      have hb1 : ga < wr.heap.size := by omega
      have HN := Lib.hid (rtkeep_next hx pr)
      rw [← HO.out] at HN
      have BX := Lib.hid (show Below wr.heap.size wr (wr.alloc (.cells #[.int .i64 x.a, .int .i64 x.b, .int .i64 x.c] 38)) by (repeat (first | exact Below.refl _ _ | (refine Below.alloc ?_ (by first | exact Nat.le_refl _ | omega | (simp; done) | (simp; omega)) _) | (refine Below.setCell ?_ (by first | exact Nat.le_refl _ | omega | (simp; done) | (simp; omega)) _) | exact Below.drew ‹_›)))
      have KX := Lib.hid (Box.new wr 38 #[.int .i64 x.a, .int .i64 x.b, .int .i64 x.c])
      have C1 := HH.out x (wr.alloc (.cells #[.int .i64 x.a, .int .i64 x.b, .int .i64 x.c] 38)) (BW.out.trans (BX.out.mono BW.out.size))
      clear hx
      obtain ⟨xa, xb, xc⟩ := x
      dsimp only [rtV] at *
      cases hp : pr ⟨xa, xb, xc⟩ with
      | false =>
        rw [hp] at C1
        have HN2 := Lib.hid (show (rs.take (k + 1)).filter pr = out by rw [HN.out, hp]; simp)
        clear hp HN
        go_wp2_with (go_at_call 62; refine C1.mono ?_; clear C1; rintro e w1 ⟨rfl, hb⟩; have M2 := Lib.hid ((M.out.call BX.out).call hb); clear hb)
        go_roundw
        case rel => exact ⟨k + 1, out, hlt, by go_num, Lib.hid HN2.out.symm, by omega, M2⟩
        case measure => simp [intOf]; omega
      | true =>
        rw [hp] at C1
        have HN2 := Lib.hid (show (rs.take (k + 1)).filter pr = out ++ [⟨xa, xb, xc⟩] by rw [HN.out, hp]; simp)
        clear hp HN
        go_wp2_with (first
          | (go_at_call 62; refine C1.mono ?_; clear C1; rintro e w1 ⟨rfl, hb⟩; have M2 := Lib.hid ((M.out.call BX.out).call hb); have KX2 := Lib.hid (KX.out.below hb KX.out.lt); have M3 := Lib.hid (M2.out.call ((Below.refl _ _).alloc (Nat.le_refl _) (.cells #[.int .i64 xa, .int .i64 xb, .int .i64 xc] 38))); clear hb; obtain ⟨z2, x10, x11, x12, -, -, -⟩ := KX2.out.trip)
          | (at_builtin; refine wpList_append_own _ rfl _ _ 28 rfl W0.heap.size 38 i0 _ 3 24 Try.underlying28 hi hz0 hz1 hz2 rfl (by decide) _ out.length (flat out) rfl M3.out.row ⟨w1.heap.size, 0, none⟩ 1 1 [.int .i64 xa, .int .i64 xb, .int .i64 xc] rfl rfl (new3 w1 (.int .i64 xa) (.int .i64 xb) (.int .i64 xc) 38) (one3 _ _ _) (by unfold maxLen; omega) (by omega) M3.out.bel.size ?_; intro v' w9 hown hgrow hnil; have M9 := Lib.hid (M3.out.grown (zs := [⟨xa, xb, xc⟩]) rfl hown hgrow hnil); clear hown hgrow hnil))
        go_roundw
        case rel => exact ⟨k + 1, out ++ [⟨xa, xb, xc⟩], hlt, by go_num, Lib.hid HN2.out.symm, by simp; omega, M9⟩
        case measure => simp [intOf]; omega
    · obtain rfl : k = rs.length := by omega
      have hge : ¬ ((rs.length : Int) < (rs.length : Int)) := by omega
      have HO2 := HO.out
      rw [List.take_length] at HO2
      obtain ⟨gr, cr, e1, hgr, -, ar, hcr⟩ := own_routes M.out.row M.out.nn
      subst e1
      have RM := Lib.hid (own_room M.out.row)
      have AR := Lib.hid ar
      have CC := fun W h => hopclone_any gb ob hs d W hmh h
      have HE := Lib.hid HO2
      clear HO HO2 ar
      go_wp2_with fail
      refine (CC _ ((HI.out.below BW.out).more BW.out.size)).mono ?_
      clear CC
      rintro e w5 ⟨gn, dn, rfl, hgn, an, hdn, hb5⟩
      have B5 := Lib.hid (BW.out.trans (hb5.mono BW.out.size))
      have AR5 := Lib.hid (AR.out.below hb5 AR.out.lt)
      have RM5 := Lib.hid (RM.out.below hb5 RM.out.lt)
      have AN := Lib.hid an
      have L9 := Lib.hid (KL.out.below hb5 KL.out.lt)
      clear hb5 an e10 e11 z1
      obtain ⟨z9, f0, f1, q0, q1⟩ := L9.out.two
      go_wp2_with fail
      obtain ⟨b2, r0, r1⟩ := ret_two L9.out (.slice (some ⟨gr, 0, none⟩) out.length cr) (.slice (some ⟨gn, 0, none⟩) hs.length dn)
      refine bodyPost_ret (v := tbV (some ⟨gr, 0, none⟩) out.length cr (some ⟨gn, 0, none⟩) hs.length dn) (by simp [results, Try.results61, go_sem, r0, r1]) rfl ?_
      rw [← HE.out]
      refine ⟨_, rfl, gr, cr, gn, dn, rfl, by omega, by omega, ?_, ?_, ?_, hcr, hdn, ?_⟩
      · exact (AR5.out.far (p := ⟨w.heap.size + 1, 0, none⟩) (by dsimp only; omega) _).far (p := ⟨w.heap.size + 1, 1, none⟩) (by dsimp only; omega) _
      · exact (AN.out.setFar (p := ⟨w.heap.size + 1, 0, none⟩) (by dsimp only; omega) _).setFar (p := ⟨w.heap.size + 1, 1, none⟩) (by dsimp only; omega) _
      · exact (B5.out.setCell (p := ⟨w.heap.size + 1, 0, none⟩) (Nat.le_succ _) _).setCell (p := ⟨w.heap.size + 1, 1, none⟩) (Nat.le_succ _) _
      · exact (RM5.out.far (p := ⟨w.heap.size + 1, 0, none⟩) (by dsimp only; omega) _).far (p := ⟨w.heap.size + 1, 1, none⟩) (by dsimp only; omega) _

set_option maxRecDepth 100000 in
set_option maxHeartbeats 3200000 in
theorem keept2_any (pr : Lk → Bool) (P : Nat) (ga oa : Nat) (rs : List Lk) (c : Nat) (gb ob : Nat) (hs : List Int) (d : Nat) (w : World) (hm : rs.length ≤ 1048576) (hmh : hs.length ≤ 1048576) (hS : Sl w w.heap.size (some ⟨ga, oa, none⟩) rs) (hI : Sli w w.heap.size (some ⟨gb, ob, none⟩) hs)
   (HC : ∀ (x : Lk) (W : World), Below w.heap.size w W → Calls Try.prog 63 #[rtV x, .pointer (some ⟨P, 0, none⟩)] W fun e w' => e = .returned (.bool (pr x)) ∧ Below W.heap.size W w') :
   Calls Try.prog 61 #[tbV (some ⟨ga, oa, none⟩) rs.length c (some ⟨gb, ob, none⟩) hs.length d, .func (.func 63) #[] #[.pointer (some ⟨P, 0, none⟩)]] w fun e w' => ∃ v, e = .returned v ∧ NewTb (rs.filter pr) hs w v w' := by
  obtain ⟨i0, hi, hz0, hz1, hz2⟩ := info_parts infoRoute
  have B0 : Below w.heap.size w ((w.alloc (.cells #[.slice (some ⟨ga, oa, none⟩) rs.length c, .slice (some ⟨gb, ob, none⟩) hs.length d] 30)).alloc (.cells #[.slice none 0 0, .slice none 0 0] 30)) := by (repeat (first | exact Below.refl _ _ | (refine Below.alloc ?_ (by first | exact Nat.le_refl _ | omega | (simp; done) | (simp; omega)) _) | (refine Below.setCell ?_ (by first | exact Nat.le_refl _ | omega | (simp; done) | (simp; omega)) _) | exact Below.drew ‹_›))
  have HK := Lib.hid ((Box.new w 30 #[.slice (some ⟨ga, oa, none⟩) rs.length c, .slice (some ⟨gb, ob, none⟩) hs.length d]).alloc (.cells #[.slice none 0 0, .slice none 0 0] 30))
  have L0 := Box.new (w.alloc (.cells #[.slice (some ⟨ga, oa, none⟩) rs.length c, .slice (some ⟨gb, ob, none⟩) hs.length d] 30)) 30 #[.slice none 0 0, .slice none 0 0]
  rw [World.size_alloc] at L0
  have HL := Lib.hid L0
  have HS := Lib.hid hS
  have HI := Lib.hid hI
  have HB := Lib.hid B0
  have HH := Lib.hid HC
  have hq2 : ((w.alloc (.cells #[.slice (some ⟨ga, oa, none⟩) rs.length c, .slice (some ⟨gb, ob, none⟩) hs.length d] 30)).alloc (.cells #[.slice none 0 0, .slice none 0 0] 30)).heap.size = w.heap.size + 2 := by simp
  have Q0 := QT.made (w := (w.alloc (.cells #[.slice (some ⟨ga, oa, none⟩) rs.length c, .slice (some ⟨gb, ob, none⟩) hs.length d] 30)).alloc (.cells #[.slice none 0 0, .slice none 0 0] 30)) (Below.refl _ _)
  have Q1 := Lib.hid Q0
  clear hS hI B0 L0 HC Q0
  go_enter Try.func61, Try.ntmps61
  go_wp2_with fail
  rw [hq2] at Q1
  generalize (w.alloc (.cells #[.slice (some ⟨ga, oa, none⟩) rs.length c, .slice (some ⟨gb, ob, none⟩) hs.length d] 30)).alloc (.cells #[.slice none 0 0, .slice none 0 0] 30) = W0 at *
  generalize hW1 : W0.alloc (.cells #[] 38) = W1 at *
  clear hW1
  have HZ := Lib.hid hq2
  clear hq2
  go_loopw [12, 5] (fun i v wr => ∃ (k : Nat) (out : List Lk), k ≤ rs.length ∧ i = .int .i64 (k : Int) ∧ Hid (out = (rs.take k).filter pr) ∧ out.length ≤ k ∧ Hid (QT W0 v out wr)) (fun i _ _ => rs.length - (intOf i).toNat)
  case atStart => exact ⟨0, [], Nat.zero_le _, rfl, Lib.hid rfl, Nat.le_refl _, Q1⟩
  case round =>
    obtain ⟨k, out, hk, rfl, HO, hok, M⟩ := hrel
    clear Q1
    have hwz := HZ.out
    have hwb := M.out.bel.size
    have BW := Lib.hid (HB.out.trans (M.out.bel.mono HB.out.size))
    have KT := Lib.hid (HK.out.below M.out.bel HK.out.lt)
    have KL := Lib.hid (HL.out.below M.out.bel HL.out.lt)
    obtain ⟨z1, e10, e11, -, -⟩ := KT.out.two
    by_cases hlt : k < rs.length
    · obtain ⟨x, hx⟩ : ∃ x, rs[k]? = some x := ⟨_, List.getElem?_eq_getElem hlt⟩
      obtain ⟨b', off, e', hbb, hc0, hc1, hc2⟩ := (HS.out.below BW.out) k x hx
      cases e'
      have hb1 : ga < wr.heap.size := by omega
      have HN := Lib.hid (rtkeep_next hx pr)
      rw [← HO.out] at HN
      have BX := Lib.hid (show Below wr.heap.size wr (wr.alloc (.cells #[.int .i64 x.a, .int .i64 x.b, .int .i64 x.c] 38)) by (repeat (first | exact Below.refl _ _ | (refine Below.alloc ?_ (by first | exact Nat.le_refl _ | omega | (simp; done) | (simp; omega)) _) | (refine Below.setCell ?_ (by first | exact Nat.le_refl _ | omega | (simp; done) | (simp; omega)) _) | exact Below.drew ‹_›)))
      have KX := Lib.hid (Box.new wr 38 #[.int .i64 x.a, .int .i64 x.b, .int .i64 x.c])
      have C1 := HH.out x (wr.alloc (.cells #[.int .i64 x.a, .int .i64 x.b, .int .i64 x.c] 38)) (BW.out.trans (BX.out.mono BW.out.size))
      clear hx
      obtain ⟨xa, xb, xc⟩ := x
      dsimp only [rtV] at *
      cases hp : pr ⟨xa, xb, xc⟩ with
      | false =>
        rw [hp] at C1
        have HN2 := Lib.hid (show (rs.take (k + 1)).filter pr = out by rw [HN.out, hp]; simp)
        clear hp HN
        go_wp2_with (go_at_call 63; refine C1.mono ?_; clear C1; rintro e w1 ⟨rfl, hb⟩; have M2 := Lib.hid ((M.out.call BX.out).call hb); clear hb)
        go_roundw
        case rel => exact ⟨k + 1, out, hlt, by go_num, Lib.hid HN2.out.symm, by omega, M2⟩
        case measure => simp [intOf]; omega
      | true =>
        rw [hp] at C1
        have HN2 := Lib.hid (show (rs.take (k + 1)).filter pr = out ++ [⟨xa, xb, xc⟩] by rw [HN.out, hp]; simp)
        clear hp HN
        go_wp2_with (first
          | (go_at_call 63; refine C1.mono ?_; clear C1; rintro e w1 ⟨rfl, hb⟩; have M2 := Lib.hid ((M.out.call BX.out).call hb); have KX2 := Lib.hid (KX.out.below hb KX.out.lt); have M3 := Lib.hid (M2.out.call ((Below.refl _ _).alloc (Nat.le_refl _) (.cells #[.int .i64 xa, .int .i64 xb, .int .i64 xc] 38))); clear hb; obtain ⟨z2, x10, x11, x12, -, -, -⟩ := KX2.out.trip)
          | (at_builtin; refine wpList_append_own _ rfl _ _ 28 rfl W0.heap.size 38 i0 _ 3 24 Try.underlying28 hi hz0 hz1 hz2 rfl (by decide) _ out.length (flat out) rfl M3.out.row ⟨w1.heap.size, 0, none⟩ 1 1 [.int .i64 xa, .int .i64 xb, .int .i64 xc] rfl rfl (new3 w1 (.int .i64 xa) (.int .i64 xb) (.int .i64 xc) 38) (one3 _ _ _) (by unfold maxLen; omega) (by omega) M3.out.bel.size ?_; intro v' w9 hown hgrow hnil; have M9 := Lib.hid (M3.out.grown (zs := [⟨xa, xb, xc⟩]) rfl hown hgrow hnil); clear hown hgrow hnil))
        go_roundw
        case rel => exact ⟨k + 1, out ++ [⟨xa, xb, xc⟩], hlt, by go_num, Lib.hid HN2.out.symm, by simp; omega, M9⟩
        case measure => simp [intOf]; omega
    · obtain rfl : k = rs.length := by omega
      have hge : ¬ ((rs.length : Int) < (rs.length : Int)) := by omega
      have HO2 := HO.out
      rw [List.take_length] at HO2
      obtain ⟨gr, cr, e1, hgr, -, ar, hcr⟩ := own_routes M.out.row M.out.nn
      subst e1
      have RM := Lib.hid (own_room M.out.row)
      have AR := Lib.hid ar
      have CC := fun W h => hopclone_any gb ob hs d W hmh h
      have HE := Lib.hid HO2
      clear HO HO2 ar
      go_wp2_with fail
      refine (CC _ ((HI.out.below BW.out).more BW.out.size)).mono ?_
      clear CC
      rintro e w5 ⟨gn, dn, rfl, hgn, an, hdn, hb5⟩
      have B5 := Lib.hid (BW.out.trans (hb5.mono BW.out.size))
      have AR5 := Lib.hid (AR.out.below hb5 AR.out.lt)
      have RM5 := Lib.hid (RM.out.below hb5 RM.out.lt)
      have AN := Lib.hid an
      have L9 := Lib.hid (KL.out.below hb5 KL.out.lt)
      clear hb5 an e10 e11 z1
      obtain ⟨z9, f0, f1, q0, q1⟩ := L9.out.two
      go_wp2_with fail
      obtain ⟨b2, r0, r1⟩ := ret_two L9.out (.slice (some ⟨gr, 0, none⟩) out.length cr) (.slice (some ⟨gn, 0, none⟩) hs.length dn)
      refine bodyPost_ret (v := tbV (some ⟨gr, 0, none⟩) out.length cr (some ⟨gn, 0, none⟩) hs.length dn) (by simp [results, Try.results61, go_sem, r0, r1]) rfl ?_
      rw [← HE.out]
      refine ⟨_, rfl, gr, cr, gn, dn, rfl, by omega, by omega, ?_, ?_, ?_, hcr, hdn, ?_⟩
      · exact (AR5.out.far (p := ⟨w.heap.size + 1, 0, none⟩) (by dsimp only; omega) _).far (p := ⟨w.heap.size + 1, 1, none⟩) (by dsimp only; omega) _
      · exact (AN.out.setFar (p := ⟨w.heap.size + 1, 0, none⟩) (by dsimp only; omega) _).setFar (p := ⟨w.heap.size + 1, 1, none⟩) (by dsimp only; omega) _
      · exact (B5.out.setCell (p := ⟨w.heap.size + 1, 0, none⟩) (Nat.le_succ _) _).setCell (p := ⟨w.heap.size + 1, 1, none⟩) (Nat.le_succ _) _
      · exact (RM5.out.far (p := ⟨w.heap.size + 1, 0, none⟩) (by dsimp only; omega) _).far (p := ⟨w.heap.size + 1, 1, none⟩) (by dsimp only; omega) _
end Go.Proofs.Ytohflcbpjjnccab
