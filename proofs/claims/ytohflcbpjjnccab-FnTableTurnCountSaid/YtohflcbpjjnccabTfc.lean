/-
  Contracts over this seat: the program's TableValid.
-/
import Derived.Test.YtohflcbpjjnccabTfb
import Derived.Test.YtohflcbpjjnccabC1
namespace Go.Proofs.Ytohflcbpjjnccab
open Go.RowKit Go.Maps

theorem tb_big {rs : List Lk} {hs : List Int} (h : 10 < rs.length ∨ 4 < hs.length) : tbB rs hs = false := by
  cases e : tbB rs hs with
  | false => rfl
  | true =>
    obtain ⟨_, _, _, h4, h5⟩ := tbB_iff.1 e
    omega
theorem tb_hops {rs : List Lk} {hs : List Int} (h2 : ∀ k, k < rs.length → rtAt hs.length rs k = true) (hl : rs.length ≤ 10) (hl' : hs.length ≤ 4) : tbB rs hs = !(hs.any fun z => !inB z 0 7) := by
  cases e : hs.any fun z => !inB z 0 7 with
  | true =>
    rw [List.any_eq_true] at e
    obtain ⟨z, hz, hb⟩ := e
    obtain ⟨k, hk⟩ := List.getElem?_of_mem hz
    rw [tb_hop hk (by simpa using hb)]
    rfl
  | false =>
    rw [List.any_eq_false] at e
    rw [tb_fin (fun k z _ hz => by have := e z (List.mem_of_getElem? hz); simpa using this) h2, decide_eq_true hl, decide_eq_true hl']
    rfl

set_option maxRecDepth 100000 in
theorem hopix_any (A : Option Addr) (c : Nat) (xs : List Int) (w : World) (hm : xs.length ≤ 1048576) (ho : Sli w w.heap.size A xs) :
   Calls Try.prog 70 #[.slice A xs.length c, .func (.func 43) #[] #[]] w fun e w' => (∃ r : Int, e = .returned (.int .i64 r) ∧ decide (0 ≤ r) = xs.any fun z => !inB z 0 7) ∧ Below w.heap.size w w' := by
  have HX := Lib.hid ho
  clear ho
  go_enter Try.func70, Try.ntmps70
  go_wp2
  go_loopw [8] (fun v wr => ∃ k : Nat, k ≤ xs.length ∧ v = .int .i64 k ∧ Below w.heap.size w wr ∧ Hid (∀ (m : Nat) (y : Int), m < k → xs[m]? = some y → inB y 0 7 = true)) (fun v _ => xs.length - (intOf v).toNat)
  case atStart => exact ⟨0, Nat.zero_le _, rfl, Below.refl _ _, Lib.hid fun m _ h => by omega⟩
  case round =>
    obtain ⟨k, hk, rfl, hb, HA⟩ := hrel
    have HW := Lib.hid hb
    by_cases hlt : k < xs.length
    · obtain ⟨x, hxk⟩ : ∃ x, xs[k]? = some x := ⟨_, List.getElem?_eq_getElem hlt⟩
      have C1 := nodec_any x wr
      obtain ⟨bb, oo, rfl, zg, hc⟩ := (HX.out.below hb) k x hxk
      have HK := Lib.hid hxk
      have hbs := hb.size
      have zg1 : bb < wr.heap.size := by omega
      clear hxk hb
      cases hpr : inB x 0 7 with
      | false =>
        rw [hpr] at C1
        have HPR := Lib.hid hpr
        clear hpr
        go_wp2_with (go_at_call 43; refine C1.mono ?_; clear C1; rintro e w1 ⟨rfl, hb1⟩; have HW1 := Lib.hid (HW.out.trans (hb1.mono HW.out.size)); clear hb1)
        go_ret
        refine ⟨⟨_, rfl, ?_⟩, HW1.out⟩
        have : (xs.any fun z => !inB z 0 7) = true := List.any_eq_true.2 ⟨x, List.mem_of_getElem? HK.out, by rw [HPR.out]; rfl⟩
        rw [this]
        simp
      | true =>
        rw [hpr] at C1
        have HPR := Lib.hid hpr
        clear hpr
        go_wp2_with (go_at_call 43; refine C1.mono ?_; clear C1; rintro e w1 ⟨rfl, hb1⟩; have HW1 := Lib.hid (HW.out.trans (hb1.mono HW.out.size)); clear hb1)
        go_roundw
        case rel =>
          refine ⟨k + 1, hlt, by go_num, HW1.out, Lib.hid fun m y hj hy => ?_⟩
          by_cases hjk : m < k
          · exact HA.out m y hjk hy
          · obtain rfl : m = k := by omega
            rw [HK.out] at hy
            cases hy
            exact HPR.out
        case measure => simp [intOf]; omega
    · clear hb
      obtain rfl : k = xs.length := by omega
      go_wp2
      go_ret
      refine ⟨⟨_, rfl, ?_⟩, HW.out⟩
      have : (xs.any fun z => !inB z 0 7) = false := by
        rw [List.any_eq_false]
        intro y hy
        obtain ⟨j, hj⟩ := List.getElem?_of_mem hy
        rw [HA.out j y (by have := (List.getElem?_eq_some_iff.1 hj).1; omega) hj]
        simp
      rw [this]
      simp
theorem hopcf_any (A : Option Addr) (c : Nat) (xs : List Int) (w : World) (hm : xs.length ≤ 1048576) (ho : Sli w w.heap.size A xs) :
   Calls Try.prog 42 #[.slice A xs.length c, .func (.func 43) #[] #[]] w fun e w' => e = .returned (.bool (xs.any fun z => !inB z 0 7)) ∧ Below w.heap.size w w' := by
  have C1 := hopix_any A c xs w hm ho
  clear ho
  go_enter Try.func42, Try.ntmps42
  go_wp2_with (go_at_call 70; refine C1.mono ?_; clear C1; rintro e w1 ⟨⟨r, rfl, hr⟩, hb⟩; have HR := Lib.hid hr; clear hr)
  go_ret
  exact ⟨ret_bool (by rw [← HR.out]), hb⟩

set_option maxRecDepth 100000 in
set_option maxHeartbeats 3200000 in
theorem tableValid_impl (A : Option Addr) (rs : List Lk) (c : Nat) (B : Option Addr) (hs : List Int) (d : Nat) (w : World) (hm : rs.length ≤ 1048576) (hmh : hs.length ≤ 1048576) (hS : Sl w w.heap.size A rs) (hI : Sli w w.heap.size B hs) :
   Calls Try.prog 15 #[tbV A rs.length c B hs.length d] w fun e w' => e = .returned (.bool (tbB rs hs)) ∧ Below w.heap.size w w' := by
  have HS := Lib.hid hS
  have HI := Lib.hid hI
  have HK := Lib.hid (Box.new w 30 #[.slice A rs.length c, .slice B hs.length d])
  have B0 := Lib.hid (show Below w.heap.size w (w.alloc (.cells #[.slice A rs.length c, .slice B hs.length d] 30)) by (repeat (first | exact Below.refl _ _ | (refine Below.alloc ?_ (by first | exact Nat.le_refl _ | omega | (simp; done) | (simp; omega)) _) | (refine Below.setCell ?_ (by first | exact Nat.le_refl _ | omega | (simp; done) | (simp; omega)) _) | exact Below.drew ‹_›)))
  clear hS hI
  by_cases hr : 10 < rs.length
  · have HF := Lib.hid (tb_big (rs := rs) (hs := hs) (.inl hr))
    go_enter Try.func15, Try.ntmps15
    go_wp2_with fail
    go_ret
    exact ⟨ret_bool HF.out.symm, B0.out⟩
  · by_cases hh : 4 < hs.length
    · have HF := Lib.hid (tb_big (rs := rs) (hs := hs) (.inr hh))
      go_enter Try.func15, Try.ntmps15
      go_wp2_with fail
      go_ret
      exact ⟨ret_bool HF.out.symm, B0.out⟩
    · have HL1 : Hid (rs.length ≤ 10) := Lib.hid (by omega)
      have HL2 : Hid (hs.length ≤ 4) := Lib.hid (by omega)
      go_enter Try.func15, Try.ntmps15
      go_wp2_with fail
      go_loopw [18] (fun i wr => ∃ k : Nat, k ≤ rs.length ∧ i = .int .i64 (k : Int) ∧ Hid (∀ j, j < k → rtAt hs.length rs j = true) ∧ Hid (Box wr w.heap.size 30 #[.slice A rs.length c, .slice B hs.length d]) ∧ Hid (Below w.heap.size w wr)) (fun i _ => rs.length - (intOf i).toNat)
      case atStart => exact ⟨0, Nat.zero_le _, rfl, Lib.hid (fun j h => by omega), HK, B0⟩
      case round =>
        obtain ⟨k, hk, rfl, HJ, K1, B1⟩ := hrel
        clear HK B0
        obtain ⟨z1, e10, e11, -, -⟩ := K1.out.two
        by_cases hlt : k < rs.length
        · obtain ⟨x, hx⟩ : ∃ x, rs[k]? = some x := ⟨_, List.getElem?_eq_getElem hlt⟩
          obtain ⟨b, off, rfl, hbb, hc0, hc1, hc2⟩ := (HS.out.below B1.out) k x hx
          have hbs := B1.out.size
          have hb1 : b < wr.heap.size := by omega
          have CR := fun W => rtal_any (some ⟨b, off, none⟩) rs.length c B hs.length d x W
          have HE := Lib.hid (rtAt_at (h := (hs.length : Int)) hx)
          have hk0 : (k = 0 ∧ rtAt hs.length rs k = rtB hs.length x) ∨ ∃ (k' : Nat) (y : Lk), k = k' + 1 ∧ rs[k']? = some y ∧ rtAt hs.length rs k = (rtB hs.length x && rtLt y x) := by
            cases k with
            | zero => exact .inl ⟨rfl, by rw [HE.out]; simp⟩
            | succ k' =>
              obtain ⟨y, hy⟩ : ∃ y, rs[k']? = some y := ⟨_, List.getElem?_eq_getElem (by omega)⟩
              refine .inr ⟨k', y, rfl, hy, ?_⟩
              rw [HE.out, Nat.add_sub_cancel, rt_at hy, decide_eq_false (Nat.succ_ne_zero k'), Bool.false_or]
          have HBAD := Lib.hid (fun h => tb_rt (rs := rs) (hs := hs) hlt h)
          have HNEXT := Lib.hid (fun (h : rtAt hs.length rs k = true) (j : Nat) (hj : j < k + 1) => (show rtAt hs.length rs j = true by
            by_cases e : j < k
            · exact HJ.out j e
            · obtain rfl : j = k := by omega
              exact h))
          clear hx HE HJ
          have KT := Lib.hid (K1.out.alloc (.cells #[.int .i64 x.a, .int .i64 x.b, .int .i64 x.c] 38))
          have KX := Lib.hid (Box.new wr 38 #[.int .i64 x.a, .int .i64 x.b, .int .i64 x.c])
          have BV := Lib.hid (B1.out.alloc hbs (.cells #[.int .i64 x.a, .int .i64 x.b, .int .i64 x.c] 38))
          have SV := Lib.hid (HS.out.below BV.out)
          rcases hk0 with ⟨rfl, hat⟩ | ⟨q, y, rfl, hy, hat⟩
          · rw [hat] at HBAD HNEXT
            have hpos : ¬ ((0 : Int) < ((0 : Nat) : Int)) := by omega
            clear hat
            simp only [Nat.zero_mul, Nat.add_zero] at hc0 hc1 hc2
            obtain ⟨xa, xb, xc⟩ := x
            dsimp only at *
            cases hp : rtB hs.length ⟨xa, xb, xc⟩ with
            | false =>
              rw [hp] at CR HBAD
              have HF := Lib.hid (HBAD.out rfl)
              clear hp HBAD HNEXT
              go_wp2_with fail
              generalize wr.alloc (.cells #[.int .i64 xa, .int .i64 xb, .int .i64 xc] 38) = V at *
              clear e10 e11 z1
              obtain ⟨z1, e10, e11, -, -⟩ := KT.out.two
              obtain ⟨z2, x10, x11, x12, -, -, -⟩ := KX.out.trip
              have hX := fun (y : Ext V) (bb o : Nat) (h : bb < V.heap.size) => y.cell bb o h
              refine wp_region_ext (by kernel_rfl) (by kernel_rfl) ?_
              repeat (go_big_quiet_step (first | (go_at_call 40; exact Calls.ext_of (CR _)) | (go_at_call 41; exact Calls.ext_of (CL _))))
              (refine wpQuiet_nil ?_); (rintro _ ⟨X, rfl⟩); (have hw1 := X.below); (generalize X.w = w1 at *); (clear X)
              have B3 := Lib.hid (BV.out.trans (hw1.mono BV.out.size))
              have K3 := Lib.hid (KT.out.below hw1 z1)
              clear hX hw1 KT KX BV e10 e11 z1 x10 x11 x12 z2
              go_wp2_with fail
              go_ret
              exact ⟨ret_bool HF.out.symm, B3.out⟩
            | true =>
              rw [hp] at CR HNEXT
              have HN := Lib.hid (HNEXT.out rfl)
              clear hp HBAD HNEXT
              go_wp2_with fail
              generalize wr.alloc (.cells #[.int .i64 xa, .int .i64 xb, .int .i64 xc] 38) = V at *
              clear e10 e11 z1
              obtain ⟨z1, e10, e11, -, -⟩ := KT.out.two
              obtain ⟨z2, x10, x11, x12, -, -, -⟩ := KX.out.trip
              have hX := fun (y : Ext V) (bb o : Nat) (h : bb < V.heap.size) => y.cell bb o h
              refine wp_region_ext (by kernel_rfl) (by kernel_rfl) ?_
              repeat (go_big_quiet_step (first | (go_at_call 40; exact Calls.ext_of (CR _)) | (go_at_call 41; exact Calls.ext_of (CL _))))
              (refine wpQuiet_nil ?_); (rintro _ ⟨X, rfl⟩); (have hw1 := X.below); (generalize X.w = w1 at *); (clear X)
              have B3 := Lib.hid (BV.out.trans (hw1.mono BV.out.size))
              have K3 := Lib.hid (KT.out.below hw1 z1)
              clear hX hw1 KT KX BV e10 e11 z1 x10 x11 x12 z2
              go_wp2_with fail
              go_roundw
              case rel => exact ⟨0 + 1, hlt, by go_num, Lib.hid HN.out, K3, B3⟩
              case measure => simp [intOf]; omega
          · obtain ⟨b', off', e', hbb', hd0, hd1, hd2⟩ := SV.out q y hy
            cases e'
            have CL := fun W => rtbef_any y x W
            have hsub : ((q + 1 : Nat) : Int) - 1 = (q : Int) := by omega
            have hw : IntKind.i64.wrap (q : Int) = (q : Int) := IntWalk.i64_in _ (by omega)
            have hpos : (0 : Int) < ((q + 1 : Nat) : Int) := by omega
            have hql : q < rs.length := by omega
            have hbv : b < (wr.alloc (.cells #[.int .i64 x.a, .int .i64 x.b, .int .i64 x.c] 38)).heap.size := by rw [World.size_alloc]; omega
            rw [hat] at HBAD HNEXT
            clear hat hy SV
            obtain ⟨xa, xb, xc⟩ := x
            obtain ⟨ya, yb, yc⟩ := y
            dsimp only at *
            cases hp : rtB hs.length ⟨xa, xb, xc⟩ with
            | false =>
              rw [hp] at CR HBAD
              have HF := Lib.hid (HBAD.out rfl)
              clear hp HBAD HNEXT
              go_wp2_with fail
              generalize wr.alloc (.cells #[.int .i64 xa, .int .i64 xb, .int .i64 xc] 38) = V at *
              clear e10 e11 z1
              obtain ⟨z1, e10, e11, -, -⟩ := KT.out.two
              obtain ⟨z2, x10, x11, x12, -, -, -⟩ := KX.out.trip
              have hX := fun (y : Ext V) (bb o : Nat) (h : bb < V.heap.size) => y.cell bb o h
              refine wp_region_ext (by kernel_rfl) (by kernel_rfl) ?_
              repeat (go_big_quiet_step (first | (go_at_call 40; exact Calls.ext_of (CR _)) | (go_at_call 41; exact Calls.ext_of (CL _))))
              (refine wpQuiet_nil ?_); (rintro _ ⟨X, rfl⟩); (have hw1 := X.below); (generalize X.w = w1 at *); (clear X)
              have B3 := Lib.hid (BV.out.trans (hw1.mono BV.out.size))
              have K3 := Lib.hid (KT.out.below hw1 z1)
              clear hX hw1 KT KX BV e10 e11 z1 x10 x11 x12 z2
              go_wp2_with fail
              go_ret
              exact ⟨ret_bool HF.out.symm, B3.out⟩
            | true =>
              rw [hp] at CR HBAD HNEXT
              cases hl : rtLt ⟨ya, yb, yc⟩ ⟨xa, xb, xc⟩ with
              | false =>
                rw [hl] at CL HBAD
                have HF := Lib.hid (HBAD.out rfl)
                clear hp hl HBAD HNEXT
                go_wp2_with fail
                generalize wr.alloc (.cells #[.int .i64 xa, .int .i64 xb, .int .i64 xc] 38) = V at *
                clear e10 e11 z1
                obtain ⟨z1, e10, e11, -, -⟩ := KT.out.two
                obtain ⟨z2, x10, x11, x12, -, -, -⟩ := KX.out.trip
                have hX := fun (y : Ext V) (bb o : Nat) (h : bb < V.heap.size) => y.cell bb o h
                refine wp_region_ext (by kernel_rfl) (by kernel_rfl) ?_
                repeat (go_big_quiet_step (first | (go_at_call 40; exact Calls.ext_of (CR _)) | (go_at_call 41; exact Calls.ext_of (CL _))))
                (refine wpQuiet_nil ?_); (rintro _ ⟨X, rfl⟩); (have hw1 := X.below); (generalize X.w = w1 at *); (clear X)
                have B3 := Lib.hid (BV.out.trans (hw1.mono BV.out.size))
                have K3 := Lib.hid (KT.out.below hw1 z1)
                clear hX hw1 KT KX BV e10 e11 z1 x10 x11 x12 z2
                go_wp2_with fail
                go_ret
                exact ⟨ret_bool HF.out.symm, B3.out⟩
              | true =>
                rw [hl] at CL HNEXT
                have HN := Lib.hid (HNEXT.out rfl)
                clear hp hl HBAD HNEXT
                go_wp2_with fail
                generalize wr.alloc (.cells #[.int .i64 xa, .int .i64 xb, .int .i64 xc] 38) = V at *
                clear e10 e11 z1
                obtain ⟨z1, e10, e11, -, -⟩ := KT.out.two
                obtain ⟨z2, x10, x11, x12, -, -, -⟩ := KX.out.trip
                have hX := fun (y : Ext V) (bb o : Nat) (h : bb < V.heap.size) => y.cell bb o h
                refine wp_region_ext (by kernel_rfl) (by kernel_rfl) ?_
                repeat (go_big_quiet_step (first | (go_at_call 40; exact Calls.ext_of (CR _)) | (go_at_call 41; exact Calls.ext_of (CL _))))
                (refine wpQuiet_nil ?_); (rintro _ ⟨X, rfl⟩); (have hw1 := X.below); (generalize X.w = w1 at *); (clear X)
                have B3 := Lib.hid (BV.out.trans (hw1.mono BV.out.size))
                have K3 := Lib.hid (KT.out.below hw1 z1)
                clear hX hw1 KT KX BV e10 e11 z1 x10 x11 x12 z2
                go_wp2_with fail
                go_roundw
                case rel => exact ⟨(q + 1) + 1, hlt, by go_num, Lib.hid HN.out, K3, B3⟩
                case measure => simp [intOf]; omega
        · obtain rfl : k = rs.length := by omega
          have hge : ¬ ((rs.length : Int) < (rs.length : Int)) := by omega
          have HFIN := Lib.hid (tb_hops (rs := rs) (hs := hs) HJ.out HL1.out HL2.out)
          have CC := fun W h => hopcf_any B d hs W hmh h
          clear HJ
          go_wp2_with fail
          refine (CC _ ((HI.out.below B1.out).more B1.out.size)).mono ?_
          clear CC
          rintro e w2 ⟨rfl, hb2⟩
          have B2 := Lib.hid (B1.out.trans (hb2.mono B1.out.size))
          clear hb2 e10 e11 z1
          generalize (hs.any fun z => !inB z 0 7) = q at *
          go_wp2_with fail
          go_ret
          exact ⟨ret_bool (by first | (rw [HFIN.out]; done) | (rw [HFIN.out]; cases q <;> rfl)), B2.out⟩
end Go.Proofs.Ytohflcbpjjnccab
