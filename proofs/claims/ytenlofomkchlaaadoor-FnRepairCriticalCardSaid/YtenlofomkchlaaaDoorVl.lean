/-
  Contracts over this seat: the first label of a repair; whether a part of its path is fit for a label.
-/
import Derived.Test.YtenlofomkchlaaaDoorCg
import Derived.Test.YtenlofomkchlaaaDoorVk
import Derived.Test.YtenlofomkchlaaaDoorC2
namespace Go.Proofs.YtenlofomkchlaaaDoor
open Go.RowKit Go.Maps

set_option maxRecDepth 100000 in
set_option maxHeartbeats 800000 in
theorem fit_any (nn : Int) (A : Option Addr) (ls : List Lk) (c : Nat) (b o : Nat) (p : List Int) (k cx : Nat) (x : Int) (G K : Nat) (w : World) (hm : ls.length ≤ 2000000) (hk : k < p.length) (hp9 : p.length ≤ 9) (hS : Sl w w.heap.size A ls) (hG : Box w G 25 #[.int .i64 nn, .slice A ls.length c]) (hK : Box w K 3 #[.int .i64 x]) (hX : Sli w w.heap.size (some ⟨b, o, none⟩) p) :
   Calls Tryd.prog 34 #[.slice (some ⟨b, o, none⟩) (k + 1) cx, .pointer (some ⟨G, 0, none⟩), .pointer (some ⟨K, 0, none⟩)] w fun e w' => e = .returned (.bool (fitR nn ls x p k)) ∧ Below w.heap.size w w' := by
  obtain ⟨s, hs⟩ : ∃ s, p[0]? = some s := ⟨_, List.getElem?_eq_getElem (by omega)⟩
  obtain ⟨t, ht⟩ : ∃ t, p[k]? = some t := ⟨_, List.getElem?_eq_getElem hk⟩
  have HE : Hid (fitR nn ls x p k = !usedB nn ls s t x) := Lib.hid (by
    unfold fitR
    rw [getD_some hs, getD_some ht])
  obtain ⟨b1, o1, e1, hb1, c1⟩ := hX 0 s hs
  obtain ⟨b2, o2, e2, hb2, c2⟩ := hX k t ht
  cases e1
  cases e2
  rw [Nat.add_zero] at c1
  have hsub : ((k + 1 : Nat) : Int) - 1 = (k : Int) := by omega
  have hwp : IntKind.i64.wrap (k : Int) = (k : Int) := IntWalk.i64_in _ (by omega)
  have h0k : 0 < k + 1 := by omega
  have hkk : k < k + 1 := by omega
  obtain ⟨z1, e10, e11, -, -⟩ := hG.two
  have z2 := hK.lt
  have e20 : w.cell? ⟨K, 0, none⟩ = some (.int .i64 x) := hK.cell 0
  have CU := used_impl nn A ls c s t x w.drew hm hS
  have hX := fun (y : Ext w.drew) (bb o : Nat) (h : bb < w.heap.size) => (show y.w.cell? ⟨bb, o, none⟩ = w.cell? ⟨bb, o, none⟩ from y.cell bb o h)
  clear hS hG hK hs ht
  go_enter Tryd.func34, Tryd.ntmps34
  go_wp2_with fail
  refine wp_region_staged 14 (by kernel_rfl) (by kernel_rfl) ?_
  refine stage_seg _ 3 [0, 1, 2, 3, 4, 5, 6, 7, 8, 9, 10] (by kernel_rfl) (by kernel_rfl) (by kernel_rfl) (by kernel_rfl) ?_
  (simp only [List.map_cons, List.map_nil, List.getElem?_cons_zero, List.getElem?_cons_succ, Option.getD_some]); (repeat (go_big_quiet_step (fail))); (refine wpQuiet_nil ?_)
  clear hX z1 z2 e10 e11 e20 c1 c2
  refine stage_call _ 2 11 (by kernel_rfl) (by rfl) (by kernel_rfl) (by rfl) ?_
  go_wp2_with fail
  refine CU.mono ?_
  clear CU
  rintro e w2 ⟨rfl, hb⟩
  refine ⟨hb, ?_⟩
  have B2 := Lib.hid (show Below w.heap.size w w2 from (Below.refl _ _).drew.trans hb)
  clear hb
  refine stage_seg _ 0 [12, 13] (by kernel_rfl) (by kernel_rfl) (by kernel_rfl) (by kernel_rfl) ?_
  (simp only [List.map_cons, List.map_nil, List.getElem?_cons_zero, List.getElem?_cons_succ, Option.getD_some]); (repeat (go_big_quiet_step (fail))); (refine wpQuiet_nil ?_)
  refine stage_end (by kernel_rfl) ?_
  go_wp2_with fail
  go_ret
  exact ⟨ret_bool HE.out.symm, B2.out⟩

set_option maxRecDepth 100000 in
set_option maxHeartbeats 1600000 in
theorem first_rep (n : Nat) (A : Option Addr) (ls : List Lk) (c : Nat) (b o : Nat) (xs : List Int) (cx : Nat) (G K : Nat) (l : Lb) (q : Nat) (pr : Nat → Bool) (I : World → Prop) (w : World) (hm : ls.length ≤ 2000000) (h2 : 2 ≤ xs.length) (hl9 : xs.length ≤ 9) (hcx : xs.length ≤ cx)
    (hI : ∀ W W' : World, I W → Below W.heap.size W W' → I W') (hS : ∀ W : World, I W → Sl W W.heap.size A ls) (h0 : I w) (hX : Sli w w.heap.size (some ⟨b, o, none⟩) xs)
    (HF : ∀ (k : Nat) (y : Int), 0 < k → k ≤ xs.length - 1 → xs[k]? = some y → pr k = true → (∀ j, k < j → j ≤ xs.length - 1 → pr j = false) → l = ⟨1, y⟩ ∧ q = k)
    (HN : ∀ s t : Int, xs[0]? = some s → xs[1]? = some t → (∀ j, 0 < j → j ≤ xs.length - 1 → pr j = false) → l = ⟨2, linkI (n : Int) ls s t⟩ ∧ q = 1)
    (CO : ∀ (k : Nat) (W : World), 0 < k → k < xs.length → I W → Sli W W.heap.size (some ⟨b, o, none⟩) xs → Calls Tryd.prog 34 #[.slice (some ⟨b, o, none⟩) (k + 1) cx, .pointer (some ⟨G, 0, none⟩), .pointer (some ⟨K, 0, none⟩)] W fun e w' => e = .returned (.bool (pr k)) ∧ Below W.heap.size W w') :
   Calls Tryd.prog 52 #[gval (n : Int) A ls.length c, .slice (some ⟨b, o, none⟩) xs.length cx, .func (.func 34) #[] #[.pointer (some ⟨G, 0, none⟩), .pointer (some ⟨K, 0, none⟩)]] w fun e w' =>
     e = .returned (.tuple #[l.v, .int .i64 (q : Nat)]) ∧ Below w.heap.size w w' := by
  have B0 : Below w.heap.size w ((w.alloc (.cells #[.int .i64 (n : Int), .slice A ls.length c] 25)).alloc (.cells #[.int .i64 0, .int .i64 0] 97)) := by (repeat (first | exact Below.refl _ _ | (refine Below.alloc ?_ (by first | exact Nat.le_refl _ | omega | (simp; done) | (simp; omega)) _) | (refine Below.setCell ?_ (by first | exact Nat.le_refl _ | omega | (simp; done) | (simp; omega)) _) | exact Below.drew ‹_›))
  have L0 := Box.new (w.alloc (.cells #[.int .i64 (n : Int), .slice A ls.length c] 25)) 97 #[.int .i64 0, .int .i64 0]
  rw [World.size_alloc] at L0
  have HB := Lib.hid B0
  have HG := Lib.hid ((Box.new w 25 #[.int .i64 (n : Int), .slice A ls.length c]).alloc (.cells #[.int .i64 0, .int .i64 0] 97))
  have HL := Lib.hid L0
  have HI := Lib.hid hI
  have HW0 := Lib.hid h0
  have HX := Lib.hid hX
  have HSI := Lib.hid hS
  have HFF := Lib.hid HF
  have HNN := Lib.hid HN
  have HCO := Lib.hid CO
  have hz0 : w.heap.size < ((w.alloc (.cells #[.int .i64 (n : Int), .slice A ls.length c] 25)).alloc (.cells #[.int .i64 0, .int .i64 0] 97)).heap.size := by simp; omega
  clear hS hX B0 L0 hI h0 HF HN CO
  obtain ⟨m, hm1⟩ : ∃ m, xs.length = m + 1 := ⟨xs.length - 1, by omega⟩
  have hsub : (xs.length : Int) - 1 = (m : Int) := by omega
  have hwp : IntKind.i64.wrap (m : Int) = (m : Int) := IntWalk.i64_in _ (by omega)
  have HM : Hid (xs.length - 1 = m) := Lib.hid (by omega)
  have HM1 := Lib.hid hm1
  have hmm : 1 ≤ m ∧ m ≤ 8 := by omega
  clear hm1
  go_enter Tryd.func52, Tryd.ntmps52
  go_wp2_with fail
  go_loopw [8] (fun i wr => ∃ k : Nat, k ≤ m ∧ i = .int .i64 (k : Int) ∧ Hid (∀ j, k < j → j ≤ m → pr j = false) ∧ Below w.heap.size w wr ∧ Box wr w.heap.size 25 #[.int .i64 (n : Int), .slice A ls.length c] ∧ Box wr (w.heap.size + 1) 97 #[.int .i64 0, .int .i64 0]) (fun i _ => (intOf i).toNat)
  case atStart => exact ⟨m, Nat.le_refl _, rfl, Lib.hid (fun j h1 h2 => by omega), HB.out, HG.out, HL.out⟩
  case round =>
    obtain ⟨k, hk, rfl, HJ, hb, hg, hlb⟩ := hrel
    have B1 := Lib.hid hb
    have G1 := Lib.hid hg
    have L1 := Lib.hid hlb
    obtain ⟨z1, e10, e11, -, -⟩ := hg.two
    obtain ⟨z2, d10, d11, q10, q11⟩ := hlb.two
    clear hg hlb HB HG HL hz0
    have HM1' := HM1.out
    by_cases hk0 : 0 < k
    · have hkl : k < xs.length := by omega
      obtain ⟨y, hy⟩ : ∃ y, xs[k]? = some y := ⟨_, List.getElem?_eq_getElem hkl⟩
      have HY := Lib.hid hy
      have hkc : k + 1 ≤ cx := by omega
      have hz := hb.size
      have I1 := Lib.hid (HI.out _ _ HW0.out hb)
      have X1 := Lib.hid ((HX.out.below hb).more hz)
      have CO := fun W (g1 : I W) (g2 : Sli W W.heap.size (some ⟨b, o, none⟩) xs) => HCO.out k W hk0 hkl g1 g2
      clear hy hb HM1'
      go_wp2_with fail
      refine (CO wr I1.out X1.out).mono ?_
      clear CO
      rintro e w2 ⟨rfl, hb2⟩
      have B2 := Lib.hid (B1.out.trans (hb2.mono hz))
      have G2 := Lib.hid (Box.below G1.out hb2 z1)
      have L2 := Lib.hid (Box.below L1.out hb2 z2)
      have X2 := Lib.hid ((HX.out.below B2.out).more B2.out.size)
      clear hb2 e10 e11 d10 d11 q10 q11 z1 z2
      cases hok : pr k with
      | true =>
        obtain ⟨b3, o3, e3, hb3, c3⟩ := X2.out k y HY.out
        cases e3
        obtain ⟨z3, d20, d21, q20, q21⟩ := L2.out.two
        have HN := Lib.hid (HFF.out k y hk0 (by omega) HY.out hok (fun j h1 h2 => HJ.out j h1 (by have := HM1.out; omega)))
        clear hok
        go_wp2_with fail
        obtain ⟨b2, r0, r1⟩ := ret_two L2.out (.int .i64 1) (.int .i64 y)
        refine bodyPost_ret (v := .tuple #[(⟨1, y⟩ : Lb).v, .int .i64 (k : Int)]) (by simp [results, Tryd.results52, go_sem, r0, r1]) rfl ?_
        exact ⟨by rw [HN.out.1, HN.out.2], (B2.out.setCell (p := ⟨w.heap.size + 1, 0, none⟩) (Nat.le_succ _) _).setCell (p := ⟨w.heap.size + 1, 1, none⟩) (Nat.le_succ _) _⟩
      | false =>
        have HNO := Lib.hid hok
        clear hok
        obtain ⟨q', hq⟩ : ∃ q : Nat, k = q + 1 := ⟨k - 1, by omega⟩
        have hsq : (k : Int) - 1 = (q' : Int) := by omega
        have hwq : IntKind.i64.wrap (q' : Int) = (q' : Int) := IntWalk.i64_in _ (by omega)
        have HQ := Lib.hid hq
        clear hq
        go_wp2_with fail
        go_roundw
        case rel => exact ⟨q', by have := HQ.out; omega, by first | rfl | go_num, Lib.hid (fun j h1 h2 => by
          by_cases hjk : k < j
          · exact HJ.out j hjk h2
          · obtain rfl : j = k := by have := HQ.out; omega
            exact HNO.out), B2.out, G2.out, L2.out⟩
        case measure => have := HQ.out; simp [intOf]; omega
    · obtain rfl : k = 0 := by omega
      obtain ⟨s, hs⟩ : ∃ s, xs[0]? = some s := ⟨_, List.getElem?_eq_getElem (by omega)⟩
      obtain ⟨t, ht⟩ : ∃ t, xs[1]? = some t := ⟨_, List.getElem?_eq_getElem (by omega)⟩
      obtain ⟨b1, o1, e1, hb1, c1⟩ := (HX.out.below hb) 0 s hs
      cases e1
      obtain ⟨b2, o2, e2, _, c2⟩ := (HX.out.below hb) 1 t ht
      cases e2
      rw [Nat.add_zero] at c1
      have hx0 : 0 < xs.length := by omega
      have hx1 : 1 < xs.length := by omega
      have HN := Lib.hid (HNN.out s t hs ht (fun j h1 h2 => HJ.out j h1 (by omega)))
      have hz := hb.size
      have CL := link_impl (n : Int) A ls c s t wr.drew hm (HSI.out _ (HI.out _ _ HW0.out B1.out.drew))
      generalize linkI (n : Int) ls s t = lk at *
      have zb : b < w.heap.size + 1 := by omega
      have zw : w.heap.size < w.heap.size + 1 := by omega
      have hX := fun (x : ExtB (w.heap.size + 1) wr.drew) (bb o : Nat) (h : bb < w.heap.size + 1) => (show x.w.cell? ⟨bb, o, none⟩ = wr.cell? ⟨bb, o, none⟩ from x.cell bb o h)
      clear hs ht hb HJ HM1'
      go_wp2_with fail
      refine wp_region_stg 11 (w.heap.size + 1) (by kernel_rfl) (by kernel_rfl) ?_
      refine stg_seg _ 4 [0, 1, 2, 3, 4, 5, 6] (by kernel_rfl) (by kernel_rfl) (by kernel_rfl) (by kernel_rfl) ?_
      (simp only [List.map_cons, List.map_nil, List.getElem?_cons_zero, List.getElem?_cons_succ, Option.getD_some]); (repeat (go_big_quiet_step (fail))); (refine wpQuiet_nil ?_)
      refine stg_one _ 3 7 (by kernel_rfl) (by rfl) (by kernel_rfl) (by rfl) ?_
      go_wp2_with fail
      refine CL.mono ?_
      clear CL
      rintro e w2 ⟨rfl, hb2⟩
      have B2 := Lib.hid (B1.out.drew.trans (hb2.mono hz))
      have L2 := Lib.hid (Box.below (w := wr.drew) L1.out hb2 z2)
      refine ⟨hb2.mono (by show w.heap.size + 1 ≤ wr.heap.size; omega), _, Nat.le_refl _, ?_⟩
      clear hb2 e10 e11 d10 d11 q10 q11 z1 z2 zb zw hX c1 c2
      obtain ⟨z3, d20, d21, q20, q21⟩ := L2.out.two
      refine stg_one _ 2 8 (by kernel_rfl) (by rfl) (by kernel_rfl) (by rfl) ?_
      go_wp2_with fail
      refine ⟨Below.refl _ _, _, Nat.le_refl _, ?_⟩
      refine stg_one _ 1 9 (by kernel_rfl) (by rfl) (by kernel_rfl) (by rfl) ?_
      go_wp2_with fail
      refine ⟨((Below.refl _ _).setCell (p := ⟨w.heap.size + 1, 0, none⟩) (Nat.le_refl _) _).setCell (p := ⟨w.heap.size + 1, 1, none⟩) (Nat.le_refl _) _, _, Nat.le_refl _, ?_⟩
      refine stg_seg _ 0 [10] (by kernel_rfl) (by kernel_rfl) (by kernel_rfl) (by kernel_rfl) ?_
      (simp only [List.map_cons, List.map_nil, List.getElem?_cons_zero, List.getElem?_cons_succ, Option.getD_some]); (repeat (go_big_quiet_step (fail))); (refine wpQuiet_nil ?_)
      refine stg_end (by kernel_rfl) ?_
      go_wp2_with fail
      obtain ⟨b3, r0, r1⟩ := ret_two L2.out (.int .i64 2) (.int .i64 lk)
      refine bodyPost_ret (v := .tuple #[(⟨2, lk⟩ : Lb).v, .int .i64 (1 : Nat)]) (by simp [results, Tryd.results52, go_sem, r0, r1]) rfl ?_
      exact ⟨by rw [HN.out.1, HN.out.2], (B2.out.setCell (p := ⟨w.heap.size + 1, 0, none⟩) (Nat.le_succ _) _).setCell (p := ⟨w.heap.size + 1, 1, none⟩) (Nat.le_succ _) _⟩
end Go.Proofs.YtenlofomkchlaaaDoor
