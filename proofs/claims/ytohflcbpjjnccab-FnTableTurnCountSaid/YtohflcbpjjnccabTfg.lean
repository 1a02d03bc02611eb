/-
  Contracts over this seat: the program's TableFind, TableHop and TableRemove.
-/
import Derived.Test.YtohflcbpjjnccabTfd
import Derived.Test.YtohflcbpjjnccabTfe
import Derived.Test.YtohflcbpjjnccabC1
namespace Go.Proofs.Ytohflcbpjjnccab
open Go.RowKit Go.Maps

set_option maxRecDepth 100000 in
set_option maxHeartbeats 1600000 in
theorem tableFind_impl (A : Option Addr) (rs : List Lk) (c : Nat) (B : Option Addr) (hs : List Int) (d : Nat) (a : Int) (w : World) (hm : rs.length ≤ 1048576) (hmh : hs.length ≤ 1048576) (hS : Sl w w.heap.size A rs) (hI : Sli w w.heap.size B hs) :
   Calls Try.prog 25 #[tbV A rs.length c B hs.length d, .int .i64 a] w fun e w' => e = .returned (.int .i64 (fndA rs hs a)) ∧ Below w.heap.size w w' := by
  have HS := Lib.hid hS
  have HI := Lib.hid hI
  have HK := Lib.hid ((Box.new w 30 #[.slice A rs.length c, .slice B hs.length d]).alloc (.cells #[.int .i64 a] 3))
  have x1 := Box.new (w.alloc (.cells #[.slice A rs.length c, .slice B hs.length d] 30)) 3 #[.int .i64 a]
  rw [World.size_alloc] at x1
  have HX := Lib.hid x1
  have B0 := Lib.hid (show Below w.heap.size w ((w.alloc (.cells #[.slice A rs.length c, .slice B hs.length d] 30)).alloc (.cells #[.int .i64 a] 3)) by (repeat (first | exact Below.refl _ _ | (refine Below.alloc ?_ (by first | exact Nat.le_refl _ | omega | (simp; done) | (simp; omega)) _) | (refine Below.setCell ?_ (by first | exact Nat.le_refl _ | omega | (simp; done) | (simp; omega)) _) | exact Below.drew ‹_›)))
  have CV := fun W h1 h2 => tableValid_impl A rs c B hs d W hm hmh h1 h2
  have CA := fun W => addrv_any a W
  have HE : Hid (fndA rs hs a = if (tbB rs hs && inB a 0 255) = true then fndI rs a rs.length else -1) := Lib.hid rfl
  clear hS hI x1
  cases hv : tbB rs hs with
  | false =>
    rw [hv] at CV
    have HF : Hid (fndA rs hs a = -1) := Lib.hid (by rw [HE.out, hv]; rfl)
    clear hv HE
    go_enter Try.func25, Try.ntmps25
    go_wp2_with fail
    generalize (w.alloc (.cells #[.slice A rs.length c, .slice B hs.length d] 30)).alloc (.cells #[.int .i64 a] 3) = V at *
    refine (CV _ ((HS.out.below B0.out).more B0.out.size) ((HI.out.below B0.out).more B0.out.size)).mono ?_
    clear CV
    rintro e w1 ⟨rfl, hb1⟩
    have B1 := Lib.hid (B0.out.trans (hb1.mono B0.out.size))
    clear hb1
    go_wp2_with fail
    go_ret
    exact ⟨ret_int HF.out.symm, B1.out⟩
  | true =>
    rw [hv] at CV
    cases ha : inB a 0 255 with
    | false =>
      rw [ha] at CA
      have HF : Hid (fndA rs hs a = -1) := Lib.hid (by rw [HE.out, hv, ha]; rfl)
      clear hv ha HE
      go_enter Try.func25, Try.ntmps25
      go_wp2_with fail
      generalize (w.alloc (.cells #[.slice A rs.length c, .slice B hs.length d] 30)).alloc (.cells #[.int .i64 a] 3) = V at *
      refine (CV _ ((HS.out.below B0.out).more B0.out.size) ((HI.out.below B0.out).more B0.out.size)).mono ?_
      clear CV
      rintro e w1 ⟨rfl, hb1⟩
      have B1 := Lib.hid (B0.out.trans (hb1.mono B0.out.size))
      have X1 := Lib.hid (HX.out.below hb1 HX.out.lt)
      have x0 := X1.out.cell 0
      have zx := X1.out.lt
      clear hb1
      go_wp2_with fail
      refine (CA _).mono ?_
      clear CA x0
      rintro e w2 ⟨rfl, hb2⟩
      have B2 := Lib.hid (B1.out.trans (hb2.mono B1.out.size))
      clear hb2
      go_wp2_with fail
      go_ret
      exact ⟨ret_int HF.out.symm, B2.out⟩
    | true =>
      rw [ha] at CA
      have ha' : 0 ≤ a ∧ a ≤ 255 := by unfold inB at ha; simpa using ha
      have HLF := Lib.hid (fun k h => lst_fnd (rs := rs) (hs := hs) (k := k) hv ha' h)
      have HCL := Lib.hid (fun (P : Nat) (W0 W : World) (x : Lk) (hx : x ∈ rs) (hP : Box W0 P 3 #[.int .i64 a]) (hb : Below W0.heap.size W0 W) => fcl_any x a P W ha' (rtB_iff.1 ((tbB_iff.1 hv).2.1 x hx)).1 (hP.below hb hP.lt))
      clear hv ha ha' HE
      go_enter Try.func25, Try.ntmps25
      go_wp2_with fail
      generalize (w.alloc (.cells #[.slice A rs.length c, .slice B hs.length d] 30)).alloc (.cells #[.int .i64 a] 3) = V at *
      refine (CV _ ((HS.out.below B0.out).more B0.out.size) ((HI.out.below B0.out).more B0.out.size)).mono ?_
      clear CV
      rintro e w1 ⟨rfl, hb1⟩
      have B1 := Lib.hid (B0.out.trans (hb1.mono B0.out.size))
      have X1 := Lib.hid (HX.out.below hb1 HX.out.lt)
      have K1 := Lib.hid (HK.out.below hb1 HK.out.lt)
      have x0 := X1.out.cell 0
      have zx := X1.out.lt
      clear hb1
      go_wp2_with fail
      refine (CA _).mono ?_
      clear CA x0
      rintro e w2 ⟨rfl, hb2⟩
      have B2 := Lib.hid (B1.out.trans (hb2.mono B1.out.size))
      have X2 := Lib.hid (X1.out.below hb2 X1.out.lt)
      have K2 := Lib.hid (K1.out.below hb2 K1.out.lt)
      obtain ⟨z2, e20, e21, -, -⟩ := K2.out.two
      clear hb2 X1 K1 zx
      go_wp2_with fail
      refine (lastfnd_any (fun x => decide (x.a = fbI a x.b)) (w.heap.size + 1) A rs c B hs.length d w2 hm ((HS.out.below B2.out).more B2.out.size) (fun x W hx hb => HCL.out _ w2 W x hx X2.out hb)).mono ?_
      rintro e w3 ⟨⟨k, rfl, hk⟩, hb3⟩
      have B3 := Lib.hid (B2.out.trans (hb3.mono B2.out.size))
      have HKK := Lib.hid (HLF.out k hk)
      clear hb3 hk e20 e21 z2
      go_wp2_with fail
      go_ret
      exact ⟨ret_int HKK.out, B3.out⟩

set_option maxRecDepth 100000 in
set_option maxHeartbeats 1600000 in
theorem tableHop_impl (A : Option Addr) (rs : List Lk) (c : Nat) (B : Option Addr) (hs : List Int) (d : Nat) (a : Int) (w : World) (hm : rs.length ≤ 1048576) (hmh : hs.length ≤ 1048576) (hS : Sl w w.heap.size A rs) (hI : Sli w w.heap.size B hs) :
   Calls Try.prog 27 #[tbV A rs.length c B hs.length d, .int .i64 a] w fun e w' => e = .returned (.int .i64 (hopA rs hs a)) ∧ Below w.heap.size w w' := by
  have HS := Lib.hid hS
  have HI := Lib.hid hI
  have HK := Lib.hid (Box.new w 30 #[.slice A rs.length c, .slice B hs.length d])
  have B0 := Lib.hid (show Below w.heap.size w (w.alloc (.cells #[.slice A rs.length c, .slice B hs.length d] 30)) by (repeat (first | exact Below.refl _ _ | (refine Below.alloc ?_ (by first | exact Nat.le_refl _ | omega | (simp; done) | (simp; omega)) _) | (refine Below.setCell ?_ (by first | exact Nat.le_refl _ | omega | (simp; done) | (simp; omega)) _) | exact Below.drew ‹_›)))
  have CF := fun W h1 h2 => tableFind_impl A rs c B hs d a W hm hmh h1 h2
  have HP : Hid ((fndA rs hs a < 0 → hopA rs hs a = -1) ∧ (fndA rs hs a < 0 → fndA rs hs a = -1) ∧ (0 ≤ fndA rs hs a → ∃ (k q : Nat) (x : Lk) (z : Int), fndA rs hs a = (k : Int) ∧ rs[k]? = some x ∧ x.c = (q : Int) ∧ hs[q]? = some z ∧ hopA rs hs a = z)) := Lib.hid ⟨fun h => by unfold hopA hopI; rw [if_pos h], fun h => by
    unfold fndA at h ⊢
    split
    · rename_i h1
      rw [if_pos h1] at h
      rcases fndI_spec (rs := rs) (a := a) rs.length (Nat.le_refl _) with ⟨e, _⟩ | ⟨k, x, _, e, _⟩
      · exact e
      · rw [e] at h
        omega
    · rfl, hopA_at⟩
  clear hS hI
  generalize hopA rs hs a = out at *
  generalize fndA rs hs a = kk at *
  by_cases hk : kk < 0
  · obtain rfl := HP.out.2.1 hk
    have HO := Lib.hid (HP.out.1 hk)
    clear hk HP
    go_enter Try.func27, Try.ntmps27
    go_wp2_with fail
    refine (CF _ ((HS.out.below B0.out).more B0.out.size) ((HI.out.below B0.out).more B0.out.size)).mono ?_
    clear CF
    rintro e w1 ⟨rfl, hb1⟩
    have B1 := Lib.hid (B0.out.trans (hb1.mono B0.out.size))
    clear hb1
    go_wp2_with fail
    go_ret
    exact ⟨ret_int HO.out.symm, B1.out⟩
  · obtain ⟨kn, q, x, z, rfl, hx, hxc, hz, rfl⟩ := HP.out.2.2 (by omega)
    have hkl := (List.getElem?_eq_some_iff.1 hx).1
    have hql := (List.getElem?_eq_some_iff.1 hz).1
    have hki : (kn : Int) < (rs.length : Int) := by omega
    have hqi : (q : Int) < (hs.length : Int) := by omega
    have hne : ((kn : Int) == -1) = false := by first | (simp; done) | (simp; omega)
    have HXX := Lib.hid hx
    have HXC := Lib.hid hxc
    have HZ := Lib.hid hz
    clear hk HP hx hxc hz
    go_enter Try.func27, Try.ntmps27
    go_wp2_with fail
    refine (CF _ ((HS.out.below B0.out).more B0.out.size) ((HI.out.below B0.out).more B0.out.size)).mono ?_
    clear CF
    rintro e w1 ⟨rfl, hb1⟩
    have B1 := Lib.hid (B0.out.trans (hb1.mono B0.out.size))
    have K1 := Lib.hid (HK.out.below hb1 HK.out.lt)
    have hbs := B1.out.size
    obtain ⟨zt, t0, t1, -, -⟩ := K1.out.two
    obtain ⟨bb, o, rfl, zb, x0, x1, x2⟩ := (HS.out.below B1.out) kn x HXX.out
    obtain ⟨bh, oh, rfl, zh, y0⟩ := (HI.out.below B1.out) q _ HZ.out
    have zb1 : bb < w1.heap.size := by omega
    have zh1 : bh < w1.heap.size := by omega
    rw [HXC.out] at x2
    have hX := fun (y : Ext w1.drew) (bb o : Nat) (h : bb < w1.heap.size) => (show y.w.cell? ⟨bb, o, none⟩ = w1.cell? ⟨bb, o, none⟩ from y.cell bb o h)
    clear x0 x1 hb1 HXC
    go_wp2_with fail
    refine wp_region_staged 11 (by kernel_rfl) (by kernel_rfl) ?_
    refine stage_seg _ 0 [0, 1, 2, 3, 4, 5, 6, 7, 8, 9, 10] (by kernel_rfl) (by kernel_rfl) (by kernel_rfl) (by kernel_rfl) ?_
    (simp only [List.map_cons, List.map_nil, List.getElem?_cons_zero, List.getElem?_cons_succ, Option.getD_some]); (repeat (go_big_quiet_step (fail))); (refine wpQuiet_nil ?_)
    refine stage_end (by kernel_rfl) ?_
    go_wp2_with fail
    go_ret
    exact ⟨rfl, B1.out.drew⟩

set_option maxRecDepth 100000 in
set_option maxHeartbeats 1600000 in
theorem without_rt (ga oa : Nat) (rs : List Lk) (c : Nat) (gb ob : Nat) (hs : List Int) (d : Nat) (p b : Int) (w : World) (hm : rs.length ≤ 1048576) (hmh : hs.length ≤ 1048576) (hS : Sl w w.heap.size (some ⟨ga, oa, none⟩) rs) (hI : Sli w w.heap.size (some ⟨gb, ob, none⟩) hs) :
   Calls Try.prog 48 #[tbV (some ⟨ga, oa, none⟩) rs.length c (some ⟨gb, ob, none⟩) hs.length d, .int .i64 p, .int .i64 b] w fun e w' => ∃ v, e = .returned v ∧ NewTb (delR p b rs) hs w v w' := by
  have HS := Lib.hid hS
  have HI := Lib.hid hI
  have HK := Lib.hid ((((Box.new w 30 #[.slice (some ⟨ga, oa, none⟩) rs.length c, .slice (some ⟨gb, ob, none⟩) hs.length d]).alloc (.cells #[.int .i64 p] 3)).alloc (.cells #[.int .i64 b] 3)).alloc (.cells #[.slice none 0 0, .slice none 0 0] 30))
  have p1 := ((Box.new (w.alloc (.cells #[.slice (some ⟨ga, oa, none⟩) rs.length c, .slice (some ⟨gb, ob, none⟩) hs.length d] 30)) 3 #[.int .i64 p]).alloc (.cells #[.int .i64 b] 3)).alloc (.cells #[.slice none 0 0, .slice none 0 0] 30)
  have q1 := (Box.new ((w.alloc (.cells #[.slice (some ⟨ga, oa, none⟩) rs.length c, .slice (some ⟨gb, ob, none⟩) hs.length d] 30)).alloc (.cells #[.int .i64 p] 3)) 3 #[.int .i64 b]).alloc (.cells #[.slice none 0 0, .slice none 0 0] 30)
  have l1 := Box.new (((w.alloc (.cells #[.slice (some ⟨ga, oa, none⟩) rs.length c, .slice (some ⟨gb, ob, none⟩) hs.length d] 30)).alloc (.cells #[.int .i64 p] 3)).alloc (.cells #[.int .i64 b] 3)) 30 #[.slice none 0 0, .slice none 0 0]
  simp only [World.size_alloc] at p1 q1 l1
  have HP := Lib.hid p1
  have HQ := Lib.hid q1
  have HL := Lib.hid l1
  have B0 := Lib.hid (show Below w.heap.size w ((((w.alloc (.cells #[.slice (some ⟨ga, oa, none⟩) rs.length c, .slice (some ⟨gb, ob, none⟩) hs.length d] 30)).alloc (.cells #[.int .i64 p] 3)).alloc (.cells #[.int .i64 b] 3)).alloc (.cells #[.slice none 0 0, .slice none 0 0] 30)) by (repeat (first | exact Below.refl _ _ | (refine Below.alloc ?_ (by first | exact Nat.le_refl _ | omega | (simp; done) | (simp; omega)) _) | (refine Below.setCell ?_ (by first | exact Nat.le_refl _ | omega | (simp; done) | (simp; omega)) _) | exact Below.drew ‹_›)))
  clear hS hI p1 q1 l1
  have HCK := (show ∀ (V : World), Below w.heap.size w V → Box V (w.heap.size + 1) 3 #[.int .i64 p] → Box V (w.heap.size + 1 + 1) 3 #[.int .i64 b] → Calls Try.prog 61 #[tbV (some ⟨ga, oa, none⟩) rs.length c (some ⟨gb, ob, none⟩) hs.length d, .func (.func 72) #[] #[.pointer (some ⟨w.heap.size + 1, 0, none⟩), .pointer (some ⟨w.heap.size + 1 + 1, 0, none⟩)]] V fun e w' => ∃ v, e = .returned v ∧ NewTb (delR p b rs) hs V v w' from fun V hV h1 h2 =>
    keepwo_any (fun x => !(decide (x.a = p) && decide (x.b = b))) (w.heap.size + 1) (w.heap.size + 1 + 1) ga oa rs c gb ob hs d V hm hmh ((HS.out.below hV).more hV.size) ((HI.out.below hV).more hV.size) (fun x W hb => wcl_any x p b _ _ W (h1.below hb h1.lt) (h2.below hb h2.lt)))
  generalize delR p b rs = out at *
  go_enter Try.func48, Try.ntmps48
  go_wp2_with fail
  generalize (((w.alloc (.cells #[.slice (some ⟨ga, oa, none⟩) rs.length c, .slice (some ⟨gb, ob, none⟩) hs.length d] 30)).alloc (.cells #[.int .i64 p] 3)).alloc (.cells #[.int .i64 b] 3)).alloc (.cells #[.slice none 0 0, .slice none 0 0] 30) = V at *
  have CK := HCK V B0.out HP.out HQ.out
  refine CK.mono ?_
  clear CK
  rintro e w1 ⟨v, rfl, g, cc, g', dd, rfl, hg, hg', ar, an, hb1, hc, hd, rm⟩
  have B1 := Lib.hid (B0.out.trans (hb1.mono B0.out.size))
  have L1 := Lib.hid (HL.out.below hb1 HL.out.lt)
  have AR := Lib.hid ar
  have AN := Lib.hid an
  have RM := Lib.hid rm
  have hz := HL.out.lt
  clear hb1 ar an rm
  obtain ⟨z9, f0, f1, q0, q1⟩ := L1.out.two
  go_wp2_with fail
  obtain ⟨b2, r0, r1⟩ := ret_two L1.out (.slice (some ⟨g, 0, none⟩) out.length cc) (.slice (some ⟨g', 0, none⟩) hs.length dd)
  refine bodyPost_ret (v := tbV (some ⟨g, 0, none⟩) out.length cc (some ⟨g', 0, none⟩) hs.length dd) (by simp [results, Try.results48, go_sem, r0, r1]) rfl ?_
  have hsz := B0.out.size
  refine ⟨_, rfl, g, cc, g', dd, rfl, by omega, by omega, ?_, ?_, ?_, hc, hd, ?_⟩
  · exact (AR.out.far (p := ⟨w.heap.size + 1 + 1 + 1, 0, none⟩) (by dsimp only; omega) _).far (p := ⟨w.heap.size + 1 + 1 + 1, 1, none⟩) (by dsimp only; omega) _
  · exact (AN.out.setFar (p := ⟨w.heap.size + 1 + 1 + 1, 0, none⟩) (by dsimp only; omega) _).setFar (p := ⟨w.heap.size + 1 + 1 + 1, 1, none⟩) (by dsimp only; omega) _
  · exact (B1.out.setCell (p := ⟨w.heap.size + 1 + 1 + 1, 0, none⟩) (by dsimp only; omega) _).setCell (p := ⟨w.heap.size + 1 + 1 + 1, 1, none⟩) (by dsimp only; omega) _
  · exact (RM.out.far (p := ⟨w.heap.size + 1 + 1 + 1, 0, none⟩) (by dsimp only; omega) _).far (p := ⟨w.heap.size + 1 + 1 + 1, 1, none⟩) (by dsimp only; omega) _

set_option maxRecDepth 100000 in
set_option maxHeartbeats 3200000 in
theorem tableRemove_impl (ga oa : Nat) (rs : List Lk) (c : Nat) (gb ob : Nat) (hs : List Int) (d : Nat) (p b : Int) (w : World) (hm : rs.length ≤ 1048576) (hmh : hs.length ≤ 1048576) (hS : Sl w w.heap.size (some ⟨ga, oa, none⟩) rs) (hI : Sli w w.heap.size (some ⟨gb, ob, none⟩) hs) :
   Calls Try.prog 23 #[tbV (some ⟨ga, oa, none⟩) rs.length c (some ⟨gb, ob, none⟩) hs.length d, .int .i64 p, .int .i64 b] w (RemRes rs hs p b w) := by
  have B0 : Below w.heap.size w ((w.alloc (.cells #[.slice (some ⟨ga, oa, none⟩) rs.length c, .slice (some ⟨gb, ob, none⟩) hs.length d] 30)).alloc (.cells #[.slice none 0 0, .slice none 0 0] 30)) := by (repeat (first | exact Below.refl _ _ | (refine Below.alloc ?_ (by first | exact Nat.le_refl _ | omega | (simp; done) | (simp; omega)) _) | (refine Below.setCell ?_ (by first | exact Nat.le_refl _ | omega | (simp; done) | (simp; omega)) _) | exact Below.drew ‹_›))
  have HK := Lib.hid ((Box.new w 30 #[.slice (some ⟨ga, oa, none⟩) rs.length c, .slice (some ⟨gb, ob, none⟩) hs.length d]).alloc (.cells #[.slice none 0 0, .slice none 0 0] 30))
  have L0 := Box.new (w.alloc (.cells #[.slice (some ⟨ga, oa, none⟩) rs.length c, .slice (some ⟨gb, ob, none⟩) hs.length d] 30)) 30 #[.slice none 0 0, .slice none 0 0]
  rw [World.size_alloc] at L0
  have HL := Lib.hid L0
  have HS := Lib.hid hS
  have HI := Lib.hid hI
  have HB := Lib.hid B0
  have CV := fun W h1 h2 => tableValid_impl (some ⟨ga, oa, none⟩) rs c (some ⟨gb, ob, none⟩) hs d W hm hmh h1 h2
  have CW := fun W h1 h2 => without_rt ga oa rs c gb ob hs d p b W hm hmh h1 h2
  clear hS hI B0 L0
  cases hv : tbB rs hs with
  | false =>
    rw [hv] at CV
    have HF : Hid (remR rs hs p b = [] ∧ remH rs hs = [] ∧ remB rs hs p b = false) := Lib.hid (by unfold remR remH remB; rw [hv]; exact ⟨rfl, rfl, rfl⟩)
    clear hv CW
    go_enter Try.func23, Try.ntmps23
    go_wp2_with fail
    refine (CV _ ((HS.out.below HB.out).more HB.out.size) ((HI.out.below HB.out).more HB.out.size)).mono ?_
    clear CV
    rintro e w1 ⟨rfl, hb1⟩
    have B1 := Lib.hid (HB.out.trans (hb1.mono HB.out.size))
    have L1 := Lib.hid (HL.out.below hb1 HL.out.lt)
    clear hb1
    obtain ⟨z9, f0, f1, q0, q1⟩ := L1.out.two
    go_wp2_with fail
    obtain ⟨b2, r0, r1⟩ := ret_two L1.out (.slice none 0 0) (.slice none 0 0)
    refine bodyPost_ret (v := .tuple #[tbV none 0 0 none 0 0, .bool false]) (by simp [results, Try.results23, go_sem, r0, r1]) rfl ?_
    unfold RemRes
    rw [HF.out.1, HF.out.2.1, HF.out.2.2]
    exact ⟨_, rfl, none, 0, w.heap.size, none, 0, w.heap.size, rfl, Nat.le_refl _, Nat.le_refl _, fun h => by simp at h, fun h => by simp at h, (B1.out.setCell (p := ⟨w.heap.size + 1, 0, none⟩) (Nat.le_succ _) _).setCell (p := ⟨w.heap.size + 1, 1, none⟩) (Nat.le_succ _) _, Nat.le_refl _, Nat.le_refl _⟩
  | true =>
    rw [hv] at CV
    have HF : Hid (remR rs hs p b = delR p b rs ∧ remH rs hs = hs ∧ remB rs hs p b = decide ((delR p b rs).length < rs.length)) := Lib.hid (by unfold remR remH remB; rw [hv, keyB_len]; exact ⟨rfl, rfl, rfl⟩)
    clear hv
    generalize delR p b rs = out at *
    go_enter Try.func23, Try.ntmps23
    go_wp2_with fail
    refine (CV _ ((HS.out.below HB.out).more HB.out.size) ((HI.out.below HB.out).more HB.out.size)).mono ?_
    clear CV
    rintro e w1 ⟨rfl, hb1⟩
    have B1 := Lib.hid (HB.out.trans (hb1.mono HB.out.size))
    have K1 := Lib.hid (HK.out.below hb1 HK.out.lt)
    have L1 := Lib.hid (HL.out.below hb1 HL.out.lt)
    have hz1' := L1.out.lt
    clear hb1 HK HL HB
    obtain ⟨z1, e10, e11, -, -⟩ := K1.out.two
    go_wp2_with fail
    refine (CW _ ((HS.out.below B1.out).more B1.out.size) ((HI.out.below B1.out).more B1.out.size)).mono ?_
    clear CW
    rintro e w4 ⟨v, rfl, g9, c9, gn, dn, rfl, hg9, hgn, ar, an, hb4, hc9, hdn, -⟩
    have KT := Lib.hid ((K1.out.below hb4 K1.out.lt).alloc (.cells #[.slice (some ⟨g9, 0, none⟩) out.length c9, .slice (some ⟨gn, 0, none⟩) hs.length dn] 30))
    have KL := Lib.hid ((L1.out.below hb4 L1.out.lt).alloc (.cells #[.slice (some ⟨g9, 0, none⟩) out.length c9, .slice (some ⟨gn, 0, none⟩) hs.length dn] 30))
    have KX := Lib.hid (Box.new w4 30 #[.slice (some ⟨g9, 0, none⟩) out.length c9, .slice (some ⟨gn, 0, none⟩) hs.length dn])
    have BX := Lib.hid ((B1.out.trans (hb4.mono B1.out.size)).alloc (Nat.le_trans B1.out.size hb4.size) (.cells #[.slice (some ⟨g9, 0, none⟩) out.length c9, .slice (some ⟨gn, 0, none⟩) hs.length dn] 30))
    have AR := Lib.hid (ar.below ((Below.refl _ _).alloc (Nat.le_refl _) (.cells #[.slice (some ⟨g9, 0, none⟩) out.length c9, .slice (some ⟨gn, 0, none⟩) hs.length dn] 30)) ar.lt)
    have AN := Lib.hid (an.below ((Below.refl _ _).alloc (Nat.le_refl _) (.cells #[.slice (some ⟨g9, 0, none⟩) out.length c9, .slice (some ⟨gn, 0, none⟩) hs.length dn] 30)) an.lt)
    have hb4s := hb4.size
    clear ar an hb4 e10 e11 z1 K1 L1 B1
    go_wp2_with fail
    generalize w4.alloc (.cells #[.slice (some ⟨g9, 0, none⟩) out.length c9, .slice (some ⟨gn, 0, none⟩) hs.length dn] 30) = wr at *
    generalize w4.heap.size = X at *
    obtain ⟨z5, e50, e51, -, -⟩ := KT.out.two
    obtain ⟨z6, f60, f61, -, -⟩ := KX.out.two
    obtain ⟨zl, l0, l1, m0, m1⟩ := KL.out.two
    have nT : ¬ XL (w.heap.size + 1) w.heap.size := fun e => by unfold XL at e; omega
    have nX : ¬ XL (w.heap.size + 1) X := fun e => by unfold XL at e; omega
    have hX0 := fun (y : ExtX (XL (w.heap.size + 1)) wr.drew) => (y.cell w.heap.size 0 z5 nT).trans (show wr.drew.cell? ⟨w.heap.size, 0, none⟩ = _ from e50)
    have hX1 := fun (y : ExtX (XL (w.heap.size + 1)) wr.drew) => (y.cell X 0 z6 nX).trans (show wr.drew.cell? ⟨X, 0, none⟩ = _ from f60)
    have hX2 := fun (y : ExtX (XL (w.heap.size + 1)) wr.drew) => (y.cell X 1 z6 nX).trans (show wr.drew.cell? ⟨X, 1, none⟩ = _ from f61)
    refine wp_region_stx 10 (XL (w.heap.size + 1)) (by kernel_rfl) (by kernel_rfl) ?_
    refine stx_seg _ 2 [0, 1, 2, 3, 4, 5, 6, 7] (by kernel_rfl) (by kernel_rfl) (by kernel_rfl) (by kernel_rfl) ?_
    (simp only [List.map_cons, List.map_nil, List.getElem?_cons_zero, List.getElem?_cons_succ, Option.getD_some]); (repeat (go_big_quiet_step (fail))); (refine wpQuiet_nil ?_)
    clear hX0 hX1 hX2
    refine stx_one _ 1 8 (by kernel_rfl) (by rfl) (by kernel_rfl) (by rfl) ?_
    go_wp2_with fail
    refine ⟨Kx.set2 _ _ _ _, _, fun _ h => h, ?_⟩
    refine stx_seg _ 0 [9] (by kernel_rfl) (by kernel_rfl) (by kernel_rfl) (by kernel_rfl) ?_
    (simp only [List.map_cons, List.map_nil, List.getElem?_cons_zero, List.getElem?_cons_succ, Option.getD_some]); (repeat (go_big_quiet_step (fail))); (refine wpQuiet_nil ?_)
    refine stx_end (by kernel_rfl) ?_
    go_wp2_with fail
    obtain ⟨b2, r0, r1⟩ := ret_two KL.out (.slice (some ⟨g9, 0, none⟩) out.length c9) (.slice (some ⟨gn, 0, none⟩) hs.length dn)
    refine bodyPost_ret (v := .tuple #[tbV (some ⟨g9, 0, none⟩) out.length c9 (some ⟨gn, 0, none⟩) hs.length dn, .bool (decide ((out.length : Int) < (rs.length : Int)))]) (by simp [results, Try.results23, go_sem, r0, r1]) rfl ?_
    unfold RemRes
    rw [HF.out.1, HF.out.2.1, HF.out.2.2]
    refine ⟨_, by rw [show decide ((out.length : Int) < (rs.length : Int)) = decide (out.length < rs.length) by rw [decide_eq_decide]; omega], some ⟨g9, 0, none⟩, c9, g9, some ⟨gn, 0, none⟩, dn, gn, rfl, by omega, by omega, fun _ => ⟨rfl, ?_⟩, fun _ => ⟨rfl, ?_⟩, ?_, hc9, hdn⟩
    · exact (AR.out.far (p := ⟨w.heap.size + 1, 0, none⟩) (by dsimp only; omega) _).far (p := ⟨w.heap.size + 1, 1, none⟩) (by dsimp only; omega) _
    · exact (AN.out.setFar (p := ⟨w.heap.size + 1, 0, none⟩) (by dsimp only; omega) _).setFar (p := ⟨w.heap.size + 1, 1, none⟩) (by dsimp only; omega) _
    · exact (BX.out.drew.setCell (p := ⟨w.heap.size + 1, 0, none⟩) (Nat.le_succ _) _).setCell (p := ⟨w.heap.size + 1, 1, none⟩) (Nat.le_succ _) _
end Go.Proofs.Ytohflcbpjjnccab
