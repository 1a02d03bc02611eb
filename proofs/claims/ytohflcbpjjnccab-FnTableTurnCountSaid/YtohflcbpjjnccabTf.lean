/-
  Contracts over this seat: the specification's TableFind and TableHop.
-/
import Derived.Test.YtohflcbpjjnccabTv
namespace Go.Proofs.Ytohflcbpjjnccab
open Go.RowKit Go.Maps

theorem tdiv_pos {a L : Int} (ha : 0 ≤ a ∧ a ≤ 255) (hL : 1 ≤ L) : Int.tdiv a L = a / L ∧ 0 ≤ a / L ∧ a / L ≤ 255 := by
  refine ⟨Int.tdiv_eq_ediv_of_nonneg ha.1, Int.ediv_nonneg ha.1 (by omega), ?_⟩
  have := Int.ediv_le_self L ha.1
  omega
set_option maxRecDepth 100000 in
set_option maxHeartbeats 1600000 in
theorem l23find_any (A : Option Addr) (rs : List Lk) (c : Nat) (B : Option Addr) (hs : List Int) (d : Nat) (a : Int) (h : Int) (w : World) (hm : rs.length ≤ 1048576) (hv : ∀ x ∈ rs, rtB h x = true) (ha : 0 ≤ a ∧ a ≤ 255) (hS : Sl w w.heap.size A rs) :
   Calls Try.prog 56 #[tbV A rs.length c B hs.length d, .int .i64 a] w fun e w' => e = .returned (.int .i64 (fndI rs a rs.length)) ∧ Below w.heap.size w w' := by
  have HS := Lib.hid hS
  have HV := Lib.hid hv
  have HK := Lib.hid (Box.new w 30 #[.slice A rs.length c, .slice B hs.length d])
  have B0 := Lib.hid (show Below w.heap.size w (w.alloc (.cells #[.slice A rs.length c, .slice B hs.length d] 30)) by (repeat (first | exact Below.refl _ _ | (refine Below.alloc ?_ (by first | exact Nat.le_refl _ | omega | (simp; done) | (simp; omega)) _) | (refine Below.setCell ?_ (by first | exact Nat.le_refl _ | omega | (simp; done) | (simp; omega)) _) | exact Below.drew ‹_›)))
  clear hS hv
  go_enter Try.func56, Try.ntmps56
  go_wp2_with fail
  go_loopw [5, 6] (fun v i wr => ∃ (k : Nat) (q : Int), k ≤ rs.length ∧ i = .int .i64 (k : Int) ∧ v = .int .i64 q ∧ Hid (q = fndI rs a k) ∧ Hid (Box wr w.heap.size 30 #[.slice A rs.length c, .slice B hs.length d]) ∧ Hid (Below w.heap.size w wr)) (fun _ i _ => rs.length - (intOf i).toNat)
  case atStart => exact ⟨0, -1, Nat.zero_le _, rfl, rfl, Lib.hid rfl, HK, B0⟩
  case round =>
    obtain ⟨k, q, hk, rfl, rfl, HQ, K1, B1⟩ := hrel
    clear HK B0
    obtain ⟨z1, e10, e11, -, -⟩ := K1.out.two
    by_cases hlt : k < rs.length
    · obtain ⟨x, hx⟩ : ∃ x, rs[k]? = some x := ⟨_, List.getElem?_eq_getElem hlt⟩
      obtain ⟨b, off, rfl, hbb, hc0, hc1, hc2⟩ := (HS.out.below B1.out) k x hx
      have hbs := B1.out.size
      have hb1 : b < wr.heap.size := by omega
      obtain ⟨xb8, xa255, _, _⟩ := rtB_iff.1 (HV.out x (List.mem_of_getElem? hx))
      have hl := low_pos xb8
      have CL := l23low_any x.b wr xb8
      obtain ⟨p1, p2, p3⟩ := tdiv_pos ha hl.1
      obtain ⟨p4, p5, p6⟩ := tdiv_pos xa255 hl.1
      have HN := Lib.hid (fndI_next (a := a) hx)
      rw [← HQ.out] at HN
      have HM : Hid (mtB x a = decide (Int.tdiv a (lowB x.b) = Int.tdiv x.a (lowB x.b))) := Lib.hid (by rw [p1, p4]; rfl)
      have hwa : IntKind.i64.wrap (Int.tdiv a (lowB x.b)) = Int.tdiv a (lowB x.b) := IntWalk.i64_in _ (by rw [p1]; omega)
      have hwx : IntKind.i64.wrap (Int.tdiv x.a (lowB x.b)) = Int.tdiv x.a (lowB x.b) := IntWalk.i64_in _ (by rw [p4]; omega)
      have HSP := Lib.hid (fndI_spec (rs := rs) (a := a) k (by omega))
      rw [← HQ.out] at HSP
      have HX := Lib.hid hx
      clear p1 p2 p3 p4 p5 p6 xb8 xa255 hx
      obtain ⟨xa, xb, xc⟩ := x
      dsimp only at hc0 hc1 hc2 HM hwa hwx hl CL HN
      generalize lowB xb = L at *
      have hl0 : ¬ L = 0 := by omega
      clear hl
      go_wp2_with fail
      refine CL.mono ?_
      clear CL
      rintro e w2 ⟨rfl, hb2⟩
      have K2 := Lib.hid (K1.out.below hb2 z1)
      have B2 := Lib.hid (B1.out.trans (hb2.mono hbs))
      have H2 := Lib.hid (HS.out.below B2.out)
      obtain ⟨b', off', e', hbb', hd0, hd1, hd2⟩ := H2.out k _ HX.out
      cases e'
      have hbs2 := B2.out.size
      have hb2' : b < w2.heap.size := by omega
      clear hb2 K1 B1 z1 e10 e11 hc0 hc1 hc2 hbs hb1
      obtain ⟨z2, e20, e21, -, -⟩ := K2.out.two
      dsimp only at hd0 hd1 hd2
      by_cases hmt : Int.tdiv a L = Int.tdiv xa L
      · have hmt' : (Int.tdiv a L == Int.tdiv xa L) = true := by simpa using hmt
        have HMT : Hid (mtB ⟨xa, xb, xc⟩ a = true) := Lib.hid (by rw [HM.out]; simpa using hmt)
        rcases HSP.out with ⟨h1, -⟩ | ⟨j, y, hj, h1, hy, -, -⟩
        · have HF : Hid (fndI rs a (k + 1) = (k : Int)) := Lib.hid (by rw [HN.out, HMT.out, h1]; simp)
          subst h1
          clear HM HN HSP hmt
          go_wp2_with fail
          go_quiet (fail)
          go_wp2_with fail
          go_roundw
          case rel => exact ⟨k + 1, (k : Int), hlt, by go_num, rfl, Lib.hid HF.out.symm, by first | exact K2 | exact Lib.hid K2.out, by first | exact B2 | exact Lib.hid B2.out.drew | exact Lib.hid ⟨B2.out.os, B2.out.tape, B2.out.output, B2.out.size, B2.out.block⟩⟩
          case measure => simp [intOf]; omega
        · have HJ := Lib.hid hy
          obtain ⟨b3, off3, e3, hbb3, hf0, hf1, hf2⟩ := H2.out j _ hy
          cases e3
          have hjl : j < rs.length := by omega
          have HN2 : Hid (fndI rs a (k + 1) = if y.b < xb then (k : Int) else (j : Int)) := Lib.hid (by
            rw [HN.out, HMT.out, h1, Int.toNat_natCast, rt_at hy, decide_eq_false (by omega : ¬ (j : Int) < 0)]
            simp)
          obtain ⟨ya, yb, yc⟩ := y
          dsimp only at hf0 hf1 hf2 HN2
          subst h1
          have hj0 : ¬ (j : Int) < 0 := by omega
          clear HM HN HSP hmt hy
          by_cases hb : yb < xb
          · have HF : Hid (fndI rs a (k + 1) = (k : Int)) := Lib.hid (by rw [HN2.out, if_pos hb])
            clear HN2
            go_wp2_with fail
            go_quiet (fail)
            go_wp2_with fail
            go_roundw
            case rel => exact ⟨k + 1, (k : Int), hlt, by go_num, rfl, Lib.hid HF.out.symm, by first | exact K2 | exact Lib.hid K2.out, by first | exact B2 | exact Lib.hid B2.out.drew | exact Lib.hid ⟨B2.out.os, B2.out.tape, B2.out.output, B2.out.size, B2.out.block⟩⟩
            case measure => simp [intOf]; omega
          · have HF : Hid (fndI rs a (k + 1) = (j : Int)) := Lib.hid (by rw [HN2.out, if_neg hb])
            clear HN2
            go_wp2_with fail
            go_quiet (fail)
            go_wp2_with fail
            go_roundw
            case rel => exact ⟨k + 1, (j : Int), hlt, by go_num, rfl, Lib.hid HF.out.symm, by first | exact K2 | exact Lib.hid K2.out, by first | exact B2 | exact Lib.hid B2.out.drew | exact Lib.hid ⟨B2.out.os, B2.out.tape, B2.out.output, B2.out.size, B2.out.block⟩⟩
            case measure => simp [intOf]; omega
      · have hmt' : (Int.tdiv a L == Int.tdiv xa L) = false := by simpa using hmt
        have HF : Hid (fndI rs a (k + 1) = q) := Lib.hid (by
          have h0 : mtB ⟨xa, xb, xc⟩ a = false := by rw [HM.out]; simpa using hmt
          rw [HN.out, h0]
          rfl)
        clear HM HN HSP hmt HQ
        go_wp2_with fail
        go_quiet (fail)
        go_wp2_with fail
        go_roundw
        case rel => exact ⟨k + 1, q, hlt, by go_num, rfl, Lib.hid HF.out.symm, by first | exact K2 | exact Lib.hid K2.out, by first | exact B2 | exact Lib.hid B2.out.drew | exact Lib.hid ⟨B2.out.os, B2.out.tape, B2.out.output, B2.out.size, B2.out.block⟩⟩
        case measure => simp [intOf]; omega
    · obtain rfl : k = rs.length := by omega
      have hge : ¬ ((rs.length : Int) < (rs.length : Int)) := by omega
      go_wp2_with fail
      go_ret
      exact ⟨by rw [← HQ.out]; rfl, B1.out⟩

set_option maxRecDepth 100000 in
set_option maxHeartbeats 800000 in
theorem tableFind_spec (A : Option Addr) (rs : List Lk) (c : Nat) (B : Option Addr) (hs : List Int) (d : Nat) (a : Int) (w : World) (hm : rs.length ≤ 1048576) (hmh : hs.length ≤ 1048576) (hS : Sl w w.heap.size A rs) (hI : Sli w w.heap.size B hs) :
   Calls Try.prog 24 #[tbV A rs.length c B hs.length d, .int .i64 a] w fun e w' => e = .returned (.int .i64 (fndA rs hs a)) ∧ Below w.heap.size w w' := by
  have HS := Lib.hid hS
  have HI := Lib.hid hI
  have HK := Lib.hid (Box.new w 30 #[.slice A rs.length c, .slice B hs.length d])
  have B0 := Lib.hid (show Below w.heap.size w (w.alloc (.cells #[.slice A rs.length c, .slice B hs.length d] 30)) by (repeat (first | exact Below.refl _ _ | (refine Below.alloc ?_ (by first | exact Nat.le_refl _ | omega | (simp; done) | (simp; omega)) _) | (refine Below.setCell ?_ (by first | exact Nat.le_refl _ | omega | (simp; done) | (simp; omega)) _) | exact Below.drew ‹_›)))
  have CV := fun W h1 h2 => tableValid_spec A rs c B hs d W hm hmh h1 h2
  have CI := fun W => l6In_any a 0 255 W
  have HE : Hid (fndA rs hs a = if (tbB rs hs && inB a 0 255) = true then fndI rs a rs.length else -1) := Lib.hid rfl
  clear hS hI
  cases hv : tbB rs hs with
  | false =>
    rw [hv] at CV
    have HF : Hid (fndA rs hs a = -1) := Lib.hid (by rw [HE.out, hv]; rfl)
    clear hv HE
    go_enter Try.func24, Try.ntmps24
    go_wp2_with fail
    refine (CV _ ((HS.out.below B0.out).more B0.out.size) ((HI.out.below B0.out).more B0.out.size)).mono ?_
    clear CV
    rintro e w1 ⟨rfl, hb1⟩
    have B1 := Lib.hid (B0.out.trans (hb1.mono B0.out.size))
    clear hb1
    go_wp2_with fail
    go_ret
    exact ⟨by rw [HF.out]; rfl, B1.out⟩
  | true =>
    rw [hv] at CV
    cases hi : inB a 0 255 with
    | false =>
      rw [hi] at CI
      have HF : Hid (fndA rs hs a = -1) := Lib.hid (by rw [HE.out, hv, hi]; rfl)
      clear hv hi HE
      go_enter Try.func24, Try.ntmps24
      go_wp2_with fail
      refine (CV _ ((HS.out.below B0.out).more B0.out.size) ((HI.out.below B0.out).more B0.out.size)).mono ?_
      clear CV
      rintro e w1 ⟨rfl, hb1⟩
      have B1 := Lib.hid (B0.out.trans (hb1.mono B0.out.size))
      clear hb1
      go_wp2_with fail
      refine (CI _).mono ?_
      rintro e w2 ⟨rfl, rfl⟩
      go_wp2_with fail
      go_ret
      exact ⟨by rw [HF.out]; rfl, B1.out⟩
    | true =>
      rw [hi] at CI
      have HF : Hid (fndA rs hs a = fndI rs a rs.length) := Lib.hid (by rw [HE.out, hv, hi]; rfl)
      have ha : 0 ≤ a ∧ a ≤ 255 := by unfold inB at hi; simpa using hi
      have CF := fun W h1 => l23find_any A rs c B hs d a hs.length W hm (tbB_iff.1 hv).2.1 ha h1
      clear hv hi HE ha
      go_enter Try.func24, Try.ntmps24
      go_wp2_with fail
      refine (CV _ ((HS.out.below B0.out).more B0.out.size) ((HI.out.below B0.out).more B0.out.size)).mono ?_
      clear CV
      rintro e w1 ⟨rfl, hb1⟩
      have B1 := Lib.hid (B0.out.trans (hb1.mono B0.out.size))
      have K1 := Lib.hid (HK.out.below hb1 (by simp))
      obtain ⟨z1, e10, e11, -, -⟩ := K1.out.two
      clear hb1
      go_wp2_with fail
      refine (CI _).mono ?_
      rintro e w2 ⟨rfl, rfl⟩
      go_wp2_with fail
      refine (CF _ ((HS.out.below B1.out).more B1.out.size)).mono ?_
      clear CF
      rintro e w3 ⟨rfl, hb3⟩
      have B3 := Lib.hid (B1.out.trans (hb3.mono B1.out.size))
      clear hb3 e10 e11 z1
      go_wp2_with fail
      go_ret
      exact ⟨by rw [HF.out]; rfl, B3.out⟩
/-- A route that is found has a next hop. -/
theorem hopA_at {rs : List Lk} {hs : List Int} {a : Int} (h : 0 ≤ fndA rs hs a) : ∃ (k q : Nat) (x : Lk) (z : Int), fndA rs hs a = (k : Int) ∧ rs[k]? = some x ∧ x.c = (q : Int) ∧ hs[q]? = some z ∧ hopA rs hs a = z := by
  have hc : (tbB rs hs && inB a 0 255) = true := by
    cases hh : (tbB rs hs && inB a 0 255) with
    | true => rfl
    | false =>
      unfold fndA at h
      rw [hh] at h
      simp at h
  rw [Bool.and_eq_true] at hc
  have ha : 0 ≤ a ∧ a ≤ 255 := by have := hc.2; unfold inB at this; simpa using this
  rcases fndA_spec hc.1 ha with ⟨h1, _⟩ | ⟨k, x, h1, hx, h2⟩
  · omega
  · have hr := (rtB_iff.1 ((tbB_iff.1 hc.1).2.1 x h2.1)).2.2.2
    refine ⟨k, x.c.toNat, x, hs[x.c.toNat]'(by omega), h1, hx, by omega, List.getElem?_eq_getElem _, ?_⟩
    rw [hopA_best hc.1 ha h2, List.getD_eq_getElem?_getD, List.getElem?_eq_getElem (by omega)]
    rfl

set_option maxRecDepth 100000 in
set_option maxHeartbeats 800000 in
theorem tableHop_spec (A : Option Addr) (rs : List Lk) (c : Nat) (B : Option Addr) (hs : List Int) (d : Nat) (a : Int) (w : World) (hm : rs.length ≤ 1048576) (hmh : hs.length ≤ 1048576) (hS : Sl w w.heap.size A rs) (hI : Sli w w.heap.size B hs) :
   Calls Try.prog 26 #[tbV A rs.length c B hs.length d, .int .i64 a] w fun e w' => e = .returned (.int .i64 (hopA rs hs a)) ∧ Below w.heap.size w w' := by
  have HS := Lib.hid hS
  have HI := Lib.hid hI
  have HK := Lib.hid (Box.new w 30 #[.slice A rs.length c, .slice B hs.length d])
  have B0 := Lib.hid (show Below w.heap.size w (w.alloc (.cells #[.slice A rs.length c, .slice B hs.length d] 30)) by (repeat (first | exact Below.refl _ _ | (refine Below.alloc ?_ (by first | exact Nat.le_refl _ | omega | (simp; done) | (simp; omega)) _) | (refine Below.setCell ?_ (by first | exact Nat.le_refl _ | omega | (simp; done) | (simp; omega)) _) | exact Below.drew ‹_›)))
  have CF := fun W h1 h2 => tableFind_spec A rs c B hs d a W hm hmh h1 h2
  clear hS hI
  by_cases h0 : 0 ≤ fndA rs hs a
  · obtain ⟨k, q, x, z, h1, hx, hq, hz, hh⟩ := hopA_at h0
    rw [h1] at CF
    have HH := Lib.hid hh
    have HX := Lib.hid hx
    have HZ := Lib.hid hz
    have hkl := (List.getElem?_eq_some_iff.1 hx).1
    have hql := (List.getElem?_eq_some_iff.1 hz).1
    have hk0 : ¬ (k : Int) < 0 := by omega
    clear h0 h1 hx hz hh
    obtain ⟨xa, xb, xc⟩ := x
    dsimp only at hq
    subst hq
    go_enter Try.func26, Try.ntmps26
    go_wp2_with fail
    refine (CF _ ((HS.out.below B0.out).more B0.out.size) ((HI.out.below B0.out).more B0.out.size)).mono ?_
    clear CF
    rintro e w1 ⟨rfl, hb1⟩
    have B1 := Lib.hid (B0.out.trans (hb1.mono B0.out.size))
    have K1 := Lib.hid (HK.out.below hb1 (by simp))
    obtain ⟨z1, e10, e11, -, -⟩ := K1.out.two
    clear hb1
    obtain ⟨b, off, rfl, hbb, hc0, hc1, hc2⟩ := (HS.out.below B1.out) k _ HX.out
    obtain ⟨b', off', rfl, hbb', hd⟩ := (HI.out.below B1.out) q _ HZ.out
    have hbs := B1.out.size
    have hb1 : b < w1.heap.size := by omega
    have hb1' : b' < w1.heap.size := by omega
    dsimp only at hc0 hc1 hc2
    go_wp2_with fail
    go_quiet (fail)
    go_wp2_with fail
    go_ret
    exact ⟨by rw [HH.out]; rfl, by first | exact B1.out | exact B1.out.drew | exact ⟨B1.out.os, B1.out.tape, B1.out.output, B1.out.size, B1.out.block⟩⟩
  · have hneg : fndA rs hs a < 0 := by omega
    have HF : Hid (hopA rs hs a = -1) := Lib.hid (by unfold hopA hopI; rw [if_pos hneg])
    generalize fndA rs hs a = q at *
    clear h0
    go_enter Try.func26, Try.ntmps26
    go_wp2_with fail
    refine (CF _ ((HS.out.below B0.out).more B0.out.size) ((HI.out.below B0.out).more B0.out.size)).mono ?_
    clear CF
    rintro e w1 ⟨rfl, hb1⟩
    have B1 := Lib.hid (B0.out.trans (hb1.mono B0.out.size))
    clear hb1
    go_wp2_with fail
    go_ret
    exact ⟨by rw [HF.out]; rfl, B1.out⟩
end Go.Proofs.Ytohflcbpjjnccab
