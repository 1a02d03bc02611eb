/-
  Contracts over this seat: TableTurn of the specification.
-/
import Derived.Test.YtohflcbpjjnccabTh
namespace Go.Proofs.Ytohflcbpjjnccab
open Go.RowKit Go.Maps

/-- Routes of the call's own, or none. -/
def OwT (w : World) (A : Option Addr) (g : Nat) (ls : List Lk) : Prop := 0 < ls.length → A = some ⟨g, 0, none⟩ ∧ Arrt w g ls
theorem OwT.below {w w' : World} {A : Option Addr} {g : Nat} {ls : List Lk} (h : OwT w A g ls) (hb : Below w.heap.size w w') : OwT w' A g ls := fun hp => by
  obtain ⟨e, ha⟩ := h hp
  exact ⟨e, ha.below hb ha.lt⟩
theorem OwT.sl {w : World} {A : Option Addr} {g : Nat} {ls : List Lk} (h : OwT w A g ls) : Sl w w.heap.size A ls := fun k l hl => by
  obtain ⟨rfl, ha⟩ := h (by have := (List.getElem?_eq_some_iff.1 hl).1; omega)
  exact ha.sl ha.lt k l hl
theorem OwT.alloc {w : World} {A : Option Addr} {g : Nat} {ls : List Lk} (h : OwT w A g ls) (o : Obj) : OwT (w.alloc o) A g ls := h.below ((Below.refl _ _).alloc (Nat.le_refl _) o)
/-- A table in memory of the call's own, or one without routes and hops. -/
def NewTU (rs : List Lk) (hs : List Int) (w : World) (v : Value) (w' : World) : Prop :=
  ∃ A c g B d g', v = tbV A rs.length c B hs.length d ∧ w.heap.size ≤ g ∧ w.heap.size ≤ g' ∧ OwT w' A g rs ∧ Own1i w' B g' hs ∧ Below w.heap.size w w' ∧ rs.length ≤ c ∧ hs.length ≤ d
def TrnRes (rs : List Lk) (hs : List Int) (h node : Int) (w : World) (e : Ending) (w' : World) : Prop :=
  ∃ v, e = .returned (.tuple #[v, .int .i64 (trnN rs hs h node)]) ∧ NewTU (trnR rs hs h node) (trnH rs hs h node) w v w'
theorem trn_no {rs : List Lk} {hs : List Int} {h node : Int} (hb : trnB rs hs h node = false) : trnR rs hs h node = [] ∧ trnH rs hs h node = [] ∧ trnN rs hs h node = -1 := by
  unfold trnR trnH trnN
  rw [hb]
  exact ⟨rfl, rfl, rfl⟩
theorem Arri.setL {W : World} {g : Nat} {xs : List Int} (h : Arri W g xs) {i : Nat} (x : Int) (hi : i < xs.length) : Arri (W.setCell ⟨g, i, none⟩ (.int .i64 x)) g (xs.set i x) := by
  obtain ⟨cs, hh, hc⟩ := h
  refine ⟨_, heap_set hh i _, fun k y hk => ?_⟩
  have hsz := (Array.getElem?_eq_some_iff.1 (hc i _ (List.getElem?_eq_getElem hi))).1
  rw [Array.getElem?_setIfInBounds]
  rw [List.getElem?_set] at hk
  by_cases hki : i = k
  · subst hki
    rw [if_pos rfl, if_pos hi] at hk
    cases hk
    rw [if_pos rfl, if_pos hsz]
  · rw [if_neg hki] at hk
    rw [if_neg hki]
    exact hc k y hk
theorem Box.setFar {w : World} {b t : Nat} {cs : Array Value} (h : Box w b t cs) {p : Addr} (hne : b ≠ p.block) (u : Value) : Box (w.setCell p u) b t cs := (Below.heap_setCell w p u b hne).trans h
theorem cntR_next {rs : List Lk} {k : Nat} {x : Lk} (hx : rs[k]? = some x) (h : Int) : cntR (rs.take (k + 1)) h = cntR (rs.take k) h + (if x.c = h then 1 else 0) := by
  unfold cntR
  rw [List.take_add_one, hx, List.filter_append, List.length_append]
  by_cases e : x.c = h <;> simp [e]
theorem cntR_le (rs : List Lk) (h : Int) : cntR rs h ≤ rs.length := List.length_filter_le _ _

set_option maxRecDepth 100000 in
set_option maxHeartbeats 3200000 in
theorem tableTurn_spec (ga oa : Nat) (rs : List Lk) (c : Nat) (gb ob : Nat) (hs : List Int) (d : Nat) (h node : Int) (w : World) (hm : rs.length ≤ 1048576) (hmh : hs.length ≤ 1048576) (hS : Sl w w.heap.size (some ⟨ga, oa, none⟩) rs) (hI : Sli w w.heap.size (some ⟨gb, ob, none⟩) hs) :
   Calls Try.prog 28 #[tbV (some ⟨ga, oa, none⟩) rs.length c (some ⟨gb, ob, none⟩) hs.length d, .int .i64 h, .int .i64 node] w (TrnRes rs hs h node w) := by
  have B0 : Below w.heap.size w ((w.alloc (.cells #[.slice (some ⟨ga, oa, none⟩) rs.length c, .slice (some ⟨gb, ob, none⟩) hs.length d] 30)).alloc (.cells #[.slice none 0 0, .slice none 0 0] 30)) := by (repeat (first | exact Below.refl _ _ | (refine Below.alloc ?_ (by first | exact Nat.le_refl _ | omega | (simp; done) | (simp; omega)) _) | (refine Below.setCell ?_ (by first | exact Nat.le_refl _ | omega | (simp; done) | (simp; omega)) _) | exact Below.drew ‹_›))
  have HK := Lib.hid ((Box.new w 30 #[.slice (some ⟨ga, oa, none⟩) rs.length c, .slice (some ⟨gb, ob, none⟩) hs.length d]).alloc (.cells #[.slice none 0 0, .slice none 0 0] 30))
  have L0 := Box.new (w.alloc (.cells #[.slice (some ⟨ga, oa, none⟩) rs.length c, .slice (some ⟨gb, ob, none⟩) hs.length d] 30)) 30 #[.slice none 0 0, .slice none 0 0]
  rw [World.size_alloc] at L0
  have HL := Lib.hid L0
  have HS := Lib.hid hS
  have HI := Lib.hid hI
  have HB := Lib.hid B0
  have CV := fun W h1 h2 => tableValid_spec (some ⟨ga, oa, none⟩) rs c (some ⟨gb, ob, none⟩) hs d W hm hmh h1 h2
  have CH := fun W => l6In_any h 0 ((hs.length : Int) - 1) W
  have CN := fun W => l6In_any node 0 7 W
  have hwr : IntKind.i64.wrap ((hs.length : Int) - 1) = (hs.length : Int) - 1 := IntWalk.i64_in _ (by omega)
  have HE : Hid (trnB rs hs h node = (tbB rs hs && inB h 0 ((hs.length : Int) - 1) && inB node 0 7)) := Lib.hid rfl
  clear hS hI B0 L0
  cases hv : tbB rs hs with
  | false =>
    rw [hv] at CV
    have HF := Lib.hid (trn_no (rs := rs) (hs := hs) (h := h) (node := node) (by rw [HE.out, hv]; rfl))
    clear hv HE
    go_enter Try.func28, Try.ntmps28
    go_wp2_with fail
    refine (CV _ ((HS.out.below HB.out).more HB.out.size) ((HI.out.below HB.out).more HB.out.size)).mono ?_
    clear CV
    rintro e w1 ⟨rfl, hb1⟩
    have B1 := Lib.hid (HB.out.trans (hb1.mono HB.out.size))
    have K1 := Lib.hid (HK.out.below hb1 HK.out.lt)
    have L1 := Lib.hid (HL.out.below hb1 HL.out.lt)
    clear hb1
    obtain ⟨z1, e10, e11, -, -⟩ := K1.out.two
    obtain ⟨z9, f0, f1, q0, q1⟩ := L1.out.two
    go_wp2_with fail
    obtain ⟨b2, r0, r1⟩ := ret_two L1.out (.slice none 0 0) (.slice none 0 0)
    refine bodyPost_ret (v := .tuple #[tbV none 0 0 none 0 0, .int .i64 (-1)]) (by simp [results, Try.results28, go_sem, r0, r1]) rfl ?_
    unfold TrnRes
    rw [HF.out.1, HF.out.2.1, HF.out.2.2]
    exact ⟨_, rfl, none, 0, w.heap.size, none, 0, w.heap.size, rfl, Nat.le_refl _, Nat.le_refl _, fun h => by simp at h, fun h => by simp at h, (B1.out.setCell (p := ⟨w.heap.size + 1, 0, none⟩) (Nat.le_succ _) _).setCell (p := ⟨w.heap.size + 1, 1, none⟩) (Nat.le_succ _) _, Nat.le_refl _, Nat.le_refl _⟩
  | true =>
    rw [hv] at CV
    cases hh : inB h 0 ((hs.length : Int) - 1) with
    | false =>
      rw [hh] at CH
      have HF := Lib.hid (trn_no (rs := rs) (hs := hs) (h := h) (node := node) (by rw [HE.out, hv, hh]; rfl))
      clear hv hh HE
      go_enter Try.func28, Try.ntmps28
      go_wp2_with fail
      refine (CV _ ((HS.out.below HB.out).more HB.out.size) ((HI.out.below HB.out).more HB.out.size)).mono ?_
      clear CV
      rintro e w1 ⟨rfl, hb1⟩
      have B1 := Lib.hid (HB.out.trans (hb1.mono HB.out.size))
      have K1 := Lib.hid (HK.out.below hb1 HK.out.lt)
      have L1 := Lib.hid (HL.out.below hb1 HL.out.lt)
      clear hb1
      obtain ⟨z1, e10, e11, -, -⟩ := K1.out.two
      go_wp2_with fail
      refine (CH _).mono ?_
      rintro e w2 ⟨rfl, rfl⟩
      obtain ⟨z9, f0, f1, q0, q1⟩ := L1.out.two
      go_wp2_with fail
      obtain ⟨b2, r0, r1⟩ := ret_two L1.out (.slice none 0 0) (.slice none 0 0)
      refine bodyPost_ret (v := .tuple #[tbV none 0 0 none 0 0, .int .i64 (-1)]) (by simp [results, Try.results28, go_sem, r0, r1]) rfl ?_
      unfold TrnRes
      rw [HF.out.1, HF.out.2.1, HF.out.2.2]
      exact ⟨_, rfl, none, 0, w.heap.size, none, 0, w.heap.size, rfl, Nat.le_refl _, Nat.le_refl _, fun h => by simp at h, fun h => by simp at h, (B1.out.setCell (p := ⟨w.heap.size + 1, 0, none⟩) (Nat.le_succ _) _).setCell (p := ⟨w.heap.size + 1, 1, none⟩) (Nat.le_succ _) _, Nat.le_refl _, Nat.le_refl _⟩
    | true =>
      rw [hh] at CH
      cases hn : inB node 0 7 with
      | false =>
        rw [hn] at CN
        have HF := Lib.hid (trn_no (rs := rs) (hs := hs) (h := h) (node := node) (by rw [HE.out, hv, hh, hn]; rfl))
        clear hv hh hn HE
        go_enter Try.func28, Try.ntmps28
        go_wp2_with fail
        refine (CV _ ((HS.out.below HB.out).more HB.out.size) ((HI.out.below HB.out).more HB.out.size)).mono ?_
        clear CV
        rintro e w1 ⟨rfl, hb1⟩
        have B1 := Lib.hid (HB.out.trans (hb1.mono HB.out.size))
        have K1 := Lib.hid (HK.out.below hb1 HK.out.lt)
        have L1 := Lib.hid (HL.out.below hb1 HL.out.lt)
        clear hb1
        obtain ⟨z1, e10, e11, -, -⟩ := K1.out.two
        go_wp2_with fail
        refine (CH _).mono ?_
        rintro e w2 ⟨rfl, rfl⟩
        go_wp2_with fail
        refine (CN _).mono ?_
        rintro e w2 ⟨rfl, rfl⟩
        obtain ⟨z9, f0, f1, q0, q1⟩ := L1.out.two
        go_wp2_with fail
        obtain ⟨b2, r0, r1⟩ := ret_two L1.out (.slice none 0 0) (.slice none 0 0)
        refine bodyPost_ret (v := .tuple #[tbV none 0 0 none 0 0, .int .i64 (-1)]) (by simp [results, Try.results28, go_sem, r0, r1]) rfl ?_
        unfold TrnRes
        rw [HF.out.1, HF.out.2.1, HF.out.2.2]
        exact ⟨_, rfl, none, 0, w.heap.size, none, 0, w.heap.size, rfl, Nat.le_refl _, Nat.le_refl _, fun h => by simp at h, fun h => by simp at h, (B1.out.setCell (p := ⟨w.heap.size + 1, 0, none⟩) (Nat.le_succ _) _).setCell (p := ⟨w.heap.size + 1, 1, none⟩) (Nat.le_succ _) _, Nat.le_refl _, Nat.le_refl _⟩
      | true =>
        rw [hn] at CN
        have hb : trnB rs hs h node = true := by rw [HE.out, hv, hh, hn]; rfl
        have hq0 : 0 ≤ h ∧ h < (hs.length : Int) := (trnB_iff.1 hb).2.1
        obtain ⟨q, rfl⟩ : ∃ q : Nat, h = (q : Int) := ⟨h.toNat, by omega⟩
        have hql : q < hs.length := by omega
        have HF : Hid (trnR rs hs (q : Int) node = rs ∧ trnH rs hs (q : Int) node = hs.set q node ∧ trnN rs hs (q : Int) node = (cntR rs (q : Int) : Int)) := Lib.hid (by
          unfold trnR trnH trnN
          rw [if_pos hb, if_pos hb, if_pos hb, Int.toNat_natCast]
          exact ⟨rfl, rfl, rfl⟩)
        have CC := fun W h1 h2 => l23copy_any ga oa rs c gb ob hs d W hm hmh h1 h2
        clear hv hh hn HE hb hq0
        go_enter Try.func28, Try.ntmps28
        go_wp2_with fail
        refine (CV _ ((HS.out.below HB.out).more HB.out.size) ((HI.out.below HB.out).more HB.out.size)).mono ?_
        clear CV
        rintro e w1 ⟨rfl, hb1⟩
        have B1 := Lib.hid (HB.out.trans (hb1.mono HB.out.size))
        have K1 := Lib.hid (HK.out.below hb1 HK.out.lt)
        have L1 := Lib.hid (HL.out.below hb1 HL.out.lt)
        clear hb1
        obtain ⟨z1, e10, e11, -, -⟩ := K1.out.two
        go_wp2_with fail
        refine (CH _).mono ?_
        rintro e w2 ⟨rfl, rfl⟩
        go_wp2_with fail
        refine (CN _).mono ?_
        rintro e w2 ⟨rfl, rfl⟩
        go_wp2_with fail
        refine (CC _ ((HS.out.below B1.out).more B1.out.size) ((HI.out.below B1.out).more B1.out.size)).mono ?_
        clear CC CH CN
        rintro e w3 ⟨v, rfl, g, cr, g', dn, rfl, hg, hg', har, han, hb3, hcr, hdn, -⟩
        have B3 := Lib.hid (B1.out.trans (hb3.mono B1.out.size))
        have K3 := Lib.hid (K1.out.below hb3 z1)
        have L3 := Lib.hid (L1.out.below hb3 L1.out.lt)
        have AR := Lib.hid har
        have AN := Lib.hid han
        have hne := arr_ne har han
        have hzr := har.lt
        have hzn := han.lt
        have hfz := han.frozen q
        have hcq : ∃ u, w3.cell? ⟨g', q, none⟩ = some u := ⟨_, han.cell (List.getElem?_eq_getElem hql)⟩
        obtain ⟨u0, hcq⟩ := hcq
        have hz1 := B1.out.size
        have L1z := Lib.hid L1.out.lt
        have hl1 := L1.out.lt
        have hl3 := L3.out.lt
        have hk3 := K3.out.lt
        have hql' : (q : Int) < (hs.length : Int) := by omega
        have hqd : q < dn := by omega
        clear hb3 har han e10 e11 z1 K1 L1
        go_wp2_with fail
        have L5 := Lib.hid ((L3.out.setFar (p := ⟨g', q, none⟩) (by dsimp only; omega) (.int .i64 node)).alloc (.cells #[.slice (some ⟨g, 0, none⟩) rs.length cr, .slice (some ⟨g', 0, none⟩) hs.length dn] 30))
        have K5 := Lib.hid ((K3.out.setFar (p := ⟨g', q, none⟩) (by dsimp only; omega) (.int .i64 node)).alloc (.cells #[.slice (some ⟨g, 0, none⟩) rs.length cr, .slice (some ⟨g', 0, none⟩) hs.length dn] 30))
        have X5 := Lib.hid (show Box ((w3.setCell ⟨g', q, none⟩ (.int .i64 node)).alloc (.cells #[.slice (some ⟨g, 0, none⟩) rs.length cr, .slice (some ⟨g', 0, none⟩) hs.length dn] 30)) w3.heap.size 30 #[.slice (some ⟨g, 0, none⟩) rs.length cr, .slice (some ⟨g', 0, none⟩) hs.length dn] by
          have := Box.new (w3.setCell ⟨g', q, none⟩ (.int .i64 node)) 30 #[.slice (some ⟨g, 0, none⟩) rs.length cr, .slice (some ⟨g', 0, none⟩) hs.length dn]
          simpa using this)
        have AR5 := Lib.hid ((AR.out.far (p := ⟨g', q, none⟩) hne (.int .i64 node)).below ((Below.refl _ _).alloc (Nat.le_refl _) (.cells #[.slice (some ⟨g, 0, none⟩) rs.length cr, .slice (some ⟨g', 0, none⟩) hs.length dn] 30)) (by simpa using hzr))
        have AN5 := Lib.hid ((AN.out.setL node hql).below ((Below.refl _ _).alloc (Nat.le_refl _) (.cells #[.slice (some ⟨g, 0, none⟩) rs.length cr, .slice (some ⟨g', 0, none⟩) hs.length dn] 30)) (by simpa using hzn))
        have B5 := Lib.hid ((B3.out.setCell (p := ⟨g', q, none⟩) (show w.heap.size ≤ g' by omega) (.int .i64 node)).alloc (by have := B3.out.size; simpa using this) (.cells #[.slice (some ⟨g, 0, none⟩) rs.length cr, .slice (some ⟨g', 0, none⟩) hs.length dn] 30))
        have hgs : w.heap.size + 2 ≤ g ∧ w.heap.size + 2 ≤ g' := by have := L1z.out; omega
        clear L3 K3 AR AN B3 hne hcq hfz
        generalize (w3.setCell ⟨g', q, none⟩ (.int .i64 node)).alloc (.cells #[.slice (some ⟨g, 0, none⟩) rs.length cr, .slice (some ⟨g', 0, none⟩) hs.length dn] 30) = ws at *
        have HC := Lib.hid (cntR_le rs (q : Int))
        go_loopw [9, 10] (fun u i wr => ∃ (k m : Nat), k ≤ rs.length ∧ i = .int .i64 (k : Int) ∧ u = .int .i64 (m : Int) ∧ m ≤ k ∧ Hid (m = cntR (rs.take k) (q : Int)) ∧ wr = ws) (fun _ i _ => rs.length - (intOf i).toNat)
        case atStart => exact ⟨0, 0, Nat.zero_le _, rfl, rfl, Nat.le_refl _, Lib.hid rfl, rfl⟩
        case round =>
          obtain ⟨k, m, hk, rfl, rfl, hmk, HM, rfl⟩ := hrel
          obtain ⟨z5, e50, e51, -, -⟩ := K5.out.two
          by_cases hlt : k < rs.length
          · obtain ⟨x, hx⟩ : ∃ x, rs[k]? = some x := ⟨_, List.getElem?_eq_getElem hlt⟩
            obtain ⟨b, off, e', hbb, hc0, hc1, hc2⟩ := (HS.out.below B5.out) k x hx
            cases e'
            have hbs := B5.out.size
            have hb1 : ga < wr.heap.size := by omega
            have HN := Lib.hid (cntR_next hx (q : Int))
            rw [← HM.out] at HN
            obtain ⟨xa, xb, xc⟩ := x
            dsimp only at hc0 hc1 hc2 HN
            clear hx
            by_cases hcx : xc = (q : Int)
            · have hcx' : (xc == (q : Int)) = true := by simpa using hcx
              have HN2 : Hid (m + 1 = cntR (rs.take (k + 1)) (q : Int)) := Lib.hid (by rw [HN.out, if_pos hcx])
              clear HN hcx
              go_wp2_with fail
              go_roundw
              case rel => exact ⟨k + 1, m + 1, hlt, by go_num, by go_num, by omega, HN2, by trivial⟩
              case measure => simp [intOf]; omega
            · have hcx' : (xc == (q : Int)) = false := by simpa using hcx
              have HN2 : Hid (m = cntR (rs.take (k + 1)) (q : Int)) := Lib.hid (by rw [HN.out, if_neg hcx]; rfl)
              clear HN hcx
              go_wp2_with fail
              go_roundw
              case rel => exact ⟨k + 1, m, hlt, by go_num, rfl, by omega, HN2, by trivial⟩
              case measure => simp [intOf]; omega
          · obtain rfl : k = rs.length := by omega
            have hge : ¬ ((rs.length : Int) < (rs.length : Int)) := by omega
            have HM2 := HM.out
            rw [List.take_length] at HM2
            have HM3 := Lib.hid HM2
            obtain ⟨z6, f60, f61, q60, q61⟩ := L5.out.two
            obtain ⟨z7, f70, f71, -, -⟩ := X5.out.two
            clear HM2 HM
            go_wp2_with fail
            obtain ⟨b2, r0, r1⟩ := ret_two L5.out (.slice (some ⟨g, 0, none⟩) rs.length cr) (.slice (some ⟨g', 0, none⟩) hs.length dn)
            refine bodyPost_ret (v := .tuple #[tbV (some ⟨g, 0, none⟩) rs.length cr (some ⟨g', 0, none⟩) hs.length dn, .int .i64 (m : Int)]) (by simp [results, Try.results28, go_sem, r0, r1]) rfl ?_
            unfold TrnRes
            rw [HF.out.1, HF.out.2.1, HF.out.2.2, ← HM3.out]
            refine ⟨_, rfl, some ⟨g, 0, none⟩, cr, g, some ⟨g', 0, none⟩, dn, g', by rw [List.length_set], by omega, by omega, fun _ => ⟨rfl, ?_⟩, fun _ => ⟨rfl, ?_⟩, ?_, hcr, by rw [List.length_set]; exact hdn⟩
            · exact (AR5.out.far (p := ⟨w.heap.size + 1, 0, none⟩) (by dsimp only; omega) _).far (p := ⟨w.heap.size + 1, 1, none⟩) (by dsimp only; omega) _
            · exact (AN5.out.setFar (p := ⟨w.heap.size + 1, 0, none⟩) (by dsimp only; omega) _).setFar (p := ⟨w.heap.size + 1, 1, none⟩) (by dsimp only; omega) _
            · exact (B5.out.setCell (p := ⟨w.heap.size + 1, 0, none⟩) (Nat.le_succ _) _).setCell (p := ⟨w.heap.size + 1, 1, none⟩) (Nat.le_succ _) _
end Go.Proofs.Ytohflcbpjjnccab
