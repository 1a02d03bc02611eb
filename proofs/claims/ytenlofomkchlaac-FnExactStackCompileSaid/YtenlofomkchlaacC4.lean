/-
  Contracts over this seat: legs asked one after the other, whether a function holds of one.
-/
import Derived.Test.YtenlofomkchlaacC3
import Derived.Test.YtenlofomkchlaacC2
import Derived.Test.YtenlofomkchlaacC1
namespace Go.Proofs.Ytenlofomkchlaac
open Go.RowKit Go.Maps



set_option maxRecDepth 100000 in
/-- The first leg that the function holds of. -/
theorem ifl_un (gs : List Lg) (pr : Lg → Bool) (X : Option Addr) (cx : Nat) (G : Nat) (w : World) (hm : gs.length ≤ 8) (hx : Slg w w.heap.size X gs)
    (HC : ∀ (k : Nat) (x : Lg) (W : World), gs[k]? = some x → Below w.heap.size w W → Slg W W.heap.size X gs → Calls Try.prog 52 #[.agg #[byV x.l, .slice x.A x.p.length x.c], .pointer (some ⟨G, 0, none⟩)] W fun e w' => e = .returned (.bool (pr x)) ∧ Below W.heap.size W w') :
   Calls Try.prog 80 #[.slice X gs.length cx, .func (.func 52) #[] #[.pointer (some ⟨G, 0, none⟩)]] w fun e w' => (∃ r : Int, e = .returned (.int .i64 r) ∧ decide (0 ≤ r) = gs.any pr) ∧ Below w.heap.size w w' := by
  have HX := Lib.hid hx
  have HH := Lib.hid HC
  clear hx HC
  go_enter Try.func80, Try.ntmps80
  go_wp2
  go_loopw [8] (fun v wr => ∃ k : Nat, k ≤ gs.length ∧ v = .int .i64 k ∧ Below w.heap.size w wr ∧ ∀ (j : Nat) (x : Lg), j < k → gs[j]? = some x → pr x = false) (fun v _ => gs.length - (intOf v).toNat)
  case atStart => exact ⟨0, Nat.zero_le _, rfl, Below.refl _ _, fun j _ h => by omega⟩
  case round =>
    obtain ⟨k, hk, rfl, hb, hall⟩ := hrel
    have HA := Lib.hid hall
    have HW := Lib.hid hb
    clear hall
    by_cases hlt : k < gs.length
    · obtain ⟨x, hxk⟩ : ∃ x, gs[k]? = some x := ⟨_, List.getElem?_eq_getElem hlt⟩
      have C1 := HH.out k x wr hxk hb (HX.out.grow hb)
      obtain ⟨b, off, rfl, hbb, hc1, hc2, -, -⟩ := (HX.out.below hb) k x hxk
      have HK := Lib.hid hxk
      have hbv := byV_iface x.l

      clear hxk hb
      generalize byV x.l = bv at *
      obtain ⟨T, v0, rfl⟩ := hbv
      generalize x.A = XA at *
      generalize x.p.length = XP at *
      generalize x.c = XC at *
      cases hpr : pr x with
      | true =>
        rw [hpr] at C1
        have HPR := Lib.hid hpr
        clear hpr
        go_wp2_with (go_at_call 52; refine C1.mono ?_; clear C1; rintro e w1 ⟨rfl, hb1⟩; have HW1 := Lib.hid (HW.out.trans (hb1.mono HW.out.size)); clear hb1)
        go_ret
        refine ⟨⟨_, rfl, ?_⟩, HW1.out⟩
        have : gs.any pr = true := List.any_eq_true.2 ⟨x, List.mem_of_getElem? HK.out, HPR.out⟩
        rw [this]
        simp
      | false =>
        rw [hpr] at C1
        have HPR := Lib.hid hpr
        clear hpr
        go_wp2_with (go_at_call 52; refine C1.mono ?_; clear C1; rintro e w1 ⟨rfl, hb1⟩; have HW1 := Lib.hid (HW.out.trans (hb1.mono HW.out.size)); clear hb1)
        go_roundw
        case rel =>
          refine ⟨k + 1, hlt, by go_num, HW1.out, fun j y hj hy => ?_⟩
          by_cases hjk : j < k
          · exact HA.out j y hjk hy
          · obtain rfl : j = k := by omega
            rw [HK.out] at hy
            cases hy
            exact HPR.out
        case measure => simp [intOf]; omega
    · clear hb
      go_wp2
      go_ret
      refine ⟨⟨_, rfl, ?_⟩, HW.out⟩
      have : gs.any pr = false := by
        rw [List.any_eq_false]
        intro y hy
        obtain ⟨j, hj⟩ := List.getElem?_of_mem hy
        rw [HA.out j y (by have := (List.getElem?_eq_some_iff.1 hj).1; omega) hj]
        simp
      rw [this]
      simp
theorem cfl_un (gs : List Lg) (pr : Lg → Bool) (X : Option Addr) (cx : Nat) (G : Nat) (w : World) (hm : gs.length ≤ 8) (hx : Slg w w.heap.size X gs)
    (HC : ∀ (k : Nat) (x : Lg) (W : World), gs[k]? = some x → Below w.heap.size w W → Slg W W.heap.size X gs → Calls Try.prog 52 #[.agg #[byV x.l, .slice x.A x.p.length x.c], .pointer (some ⟨G, 0, none⟩)] W fun e w' => e = .returned (.bool (pr x)) ∧ Below W.heap.size W w') :
   Calls Try.prog 51 #[.slice X gs.length cx, .func (.func 52) #[] #[.pointer (some ⟨G, 0, none⟩)]] w fun e w' => e = .returned (.bool (gs.any pr)) ∧ Below w.heap.size w w' := by
  have C1 := ifl_un gs pr X cx G w hm hx HC
  clear hx HC
  go_enter Try.func51, Try.ntmps51
  go_wp2_with (go_at_call 80; refine C1.mono ?_; clear C1; rintro e w1 ⟨⟨r, rfl, hr⟩, hb⟩; have HR := Lib.hid hr; clear hr)
  go_ret
  exact ⟨ret_bool (by rw [← HR.out]), hb⟩

end Go.Proofs.Ytenlofomkchlaac

/-
  Contracts over this seat: the program's StackCost.
-/
namespace Go.Proofs.Ytenlofomkchlaac
open Go.RowKit Go.Maps

section
variable {n : Nat} {ls : List Lk}
theorem way_link (hv : gvB (n : Int) ls = true) {a b : Int} (h : ∃ e, Adj ls a b e) : ∃ (j : Nat) (l : Lk), linkI (n : Int) ls a b = (j : Int) ∧ ls[j]? = some l ∧ lcost (n : Int) ls a b = l.c ∧ 1 ≤ l.c ∧ l.c ≤ 20 := by
  obtain ⟨j, l, e1, e2, ha, _, _⟩ := nbI_link hv ((nbI_adj hv).2 h)
  have hb := gvB_at hv e2
  exact ⟨j, l, e1, e2, lcost_eq hv ha, by omega, by omega⟩
theorem Way.tail {x : Int} {xs : List Int} (h : Way ls (x :: xs)) : Way ls xs := fun k a b ha hb => h (k + 1) a b (by simpa using ha) (by simpa using hb)
theorem along_bound (hv : gvB (n : Int) ls = true) {xs : List Int} (h : Way ls xs) : 0 ≤ along (n : Int) ls xs ∧ along (n : Int) ls xs ≤ 20 * xs.length := by
  induction xs with
  | nil => simp [along]
  | cons a r ih =>
    cases r with
    | nil => simp [along]
    | cons b r =>
      have h1 := ih h.tail
      obtain ⟨j, l, _, _, hc, _, _⟩ := way_link hv (h 0 a b rfl rfl)
      simp only [along, List.length_cons] at h1 ⊢
      rw [hc]
      omega
theorem Way.take {xs : List Int} (h : Way ls xs) (d : Nat) : Way ls (xs.take d) := fun k a b ha hb => by
  have hk := (List.getElem?_eq_some_iff.1 hb).1
  have hkd : k + 1 < d := by simp at hk; omega
  rw [List.getElem?_take_of_lt (by omega)] at ha
  rw [List.getElem?_take_of_lt hkd] at hb
  exact h k a b ha hb
end

set_option maxRecDepth 100000 in
set_option maxHeartbeats 1600000 in
theorem costAlong_any (n : Nat) (A : Option Addr) (ls : List Lk) (c : Nat) (X : Option Addr) (xs : List Int) (cx : Nat) (w : World) (hm : ls.length ≤ 2000000) (hv : gvB (n : Int) ls = true) (hw : Way ls xs) (hx0 : 0 < xs.length) (hx : xs.length ≤ 57) (hS : Sl w w.heap.size A ls) (hX : Sli w w.heap.size X xs) :
   Calls Try.prog 54 #[gval (n : Int) A ls.length c, .slice X xs.length cx] w fun e w' => e = .returned (.int .i64 (along (n : Int) ls xs)) ∧ Below w.heap.size w w' := by
  have HS := Lib.hid hS
  have HX := Lib.hid hX
  have HB := Lib.hid (show Below w.heap.size w (w.alloc (.cells #[.int .i64 (n : Int), .slice A ls.length c] 32)) by (repeat (first | exact Below.refl _ _ | (refine Below.alloc ?_ (by first | exact Nat.le_refl _ | omega | (simp; done) | (simp; omega)) _) | (refine Below.setCell ?_ (by first | exact Nat.le_refl _ | omega | (simp; done) | (simp; omega)) _) | exact Below.drew ‹_›)))
  have HG := Lib.hid (Box.new w 32 #[.int .i64 (n : Int), .slice A ls.length c])
  have HLK : Hid (∀ (k : Nat) (a b : Int), xs[k]? = some a → xs[k + 1]? = some b → ∃ (j : Nat) (l : Lk), linkI (n : Int) ls a b = (j : Int) ∧ ls[j]? = some l ∧ lcost (n : Int) ls a b = l.c ∧ 1 ≤ l.c ∧ l.c ≤ 20) := Lib.hid (fun k a b ha hb => way_link hv (hw k a b ha hb))
  have HBD : Hid (∀ k, 0 ≤ along (n : Int) ls (xs.take k) ∧ along (n : Int) ls (xs.take k) ≤ 1140) := Lib.hid (fun k => by
    have := along_bound hv (hw.take k)
    have : (xs.take k).length ≤ 57 := by simp; omega
    omega)
  have HA1 : Hid (along (n : Int) ls (xs.take 1) = 0) := Lib.hid (along_one _ _ _)
  have HAE : Hid (along (n : Int) ls (xs.take xs.length) = along (n : Int) ls xs) := Lib.hid (by rw [List.take_length])
  clear hS hX hw hv
  go_enter Try.func54, Try.ntmps54
  go_wp2_with fail
  go_loopw [5, 6] (fun q i wr => ∃ k : Nat, 1 ≤ k ∧ k ≤ xs.length ∧ i = .int .i64 (k : Int) ∧ q = .int .i64 (along (n : Int) ls (xs.take k)) ∧ Below w.heap.size w wr ∧ Box wr w.heap.size 32 #[.int .i64 (n : Int), .slice A ls.length c]) (fun _ i _ => xs.length - (intOf i).toNat)
  case atStart => exact ⟨1, Nat.le_refl _, hx0, rfl, by rw [HA1.out], HB.out, HG.out⟩
  case round =>
    obtain ⟨k, hk1, hk, rfl, rfl, hb, hg⟩ := hrel
    have B1 := Lib.hid hb
    have G1 := Lib.hid hg
    obtain ⟨z1, e10, e11, -, -⟩ := hg.two
    clear hg
    obtain ⟨p, hp1⟩ : ∃ p : Nat, k = p + 1 := ⟨k - 1, by omega⟩
    have hsub : (k : Int) - 1 = (p : Int) := by omega
    have hwp : IntKind.i64.wrap (p : Int) = (p : Int) := IntWalk.i64_in _ (by omega)
    have hpl : p < xs.length := by omega
    have HP1 := Lib.hid hp1
    clear hp1
    by_cases hlt : k < xs.length
    · obtain ⟨a, ha⟩ : ∃ a, xs[p]? = some a := ⟨_, List.getElem?_eq_getElem hpl⟩
      obtain ⟨b, hb'⟩ : ∃ b, xs[k]? = some b := ⟨_, List.getElem?_eq_getElem hlt⟩
      have hb2 : xs[p + 1]? = some b := by rw [← HP1.out]; exact hb'
      obtain ⟨j, l, e1, e2, e3, e4, e5⟩ := HLK.out p a b ha hb2
      have HAN : Hid (along (n : Int) ls (xs.take (k + 1)) = along (n : Int) ls (xs.take k) + l.c) := Lib.hid (by rw [HP1.out, along_next _ _ ha hb2, e3])
      have hbd := HBD.out k
      have hjl := (List.getElem?_eq_some_iff.1 e2).1
      obtain ⟨bb, off, rfl, hbb, hc1, hc2, hc3⟩ := (HS.out.below hb) j l e2
      obtain ⟨xb, xo, rfl, hxb, hxa⟩ := (HX.out.below hb) p a ha
      obtain ⟨xb', xo', e', _, hxk⟩ := (HX.out.below hb) k b hb'
      cases e'
      have hz := hb.size
      have z2 : bb < wr.heap.size := by omega
      have z3 : xb < wr.heap.size := by omega
      have CL : ∀ Y : Ext wr, Calls Try.prog 72 #[gval (n : Int) (some ⟨bb, off, none⟩) ls.length c, .int .i64 a, .int .i64 b] Y.w fun e w' => e = .returned (.int .i64 (j : Int)) ∧ Below Y.w.heap.size Y.w w' := fun Y => by
        have := link_impl (n : Int) (some ⟨bb, off, none⟩) ls c a b Y.w hm (((HS.out.below B1.out).below (Y.below.mono hz)).more (Nat.le_trans hz Y.below.size))
        rwa [e1] at this
      generalize along (n : Int) ls (xs.take k) = q at *
      clear ha hb' hb2 e1 e2 e3 hb
      have hY := fun (x : Ext wr) (b o : Nat) (h : b < wr.heap.size) => x.cell b o h
      go_wp2_with fail
      refine wp_region_ext (by kernel_rfl) (by kernel_rfl) ?_
      repeat (go_big_quiet_step (first | (go_at_call 72; exact Calls.ext_of (CL _))))
      (refine wpQuiet_nil ?_); (rintro _ ⟨X, rfl⟩); (have hw1 := X.below); (generalize X.w = w1 at *); (clear X)
      clear hY
      have B2 := Lib.hid (B1.out.trans (hw1.mono hz))
      have G2 := Lib.hid (G1.out.below hw1 z1)
      clear hw1
      go_wp2_with fail
      go_roundw
      case rel => exact ⟨k + 1, by omega, hlt, by go_num, by rw [HAN.out], B2.out, G2.out⟩
      case measure => simp [intOf]; omega
    · obtain rfl : k = xs.length := by omega
      clear hb
      go_wp2_with fail
      go_ret
      exact ⟨ret_int HAE.out, B1.out⟩

theorem costS_none {nn : Int} {ls : List Lk} {s : Int} {st : List Lb} (h : (endI nn ls s st).isSome = false) : costS nn ls s st = -1 := by
  unfold costS
  rw [h]; rfl
theorem costS_some {nn : Int} {ls : List Lk} {s : Int} {st : List Lb} (h : (endI nn ls s st).isSome = true) : costS nn ls s st = along nn ls (pathS nn ls s st) := by
  unfold costS pathS
  rw [if_pos h, if_pos h]

set_option maxRecDepth 100000 in
theorem stackCost_impl (nn : Int) (A : Option Addr) (ls : List Lk) (c : Nat) (s : Int) (B : Option Addr) (st : List Lb) (cb : Nat) (w : World) (hm : ls.length ≤ 2000000) (hmb : st.length ≤ 2000000) (hS : Sl w w.heap.size A ls) (hT : Slb w w.heap.size B st) :
   Calls Try.prog 28 #[gval nn A ls.length c, .int .i64 s, .slice B st.length cb] w fun e w' => e = .returned (.int .i64 (costS nn ls s st)) ∧ Below w.heap.size w w' := by
  have B0 : Below w.heap.size w (w.alloc (.cells #[.int .i64 nn, .slice A ls.length c] 32)) := by (repeat (first | exact Below.refl _ _ | (refine Below.alloc ?_ (by first | exact Nat.le_refl _ | omega | (simp; done) | (simp; omega)) _) | (refine Below.setCell ?_ (by first | exact Nat.le_refl _ | omega | (simp; done) | (simp; omega)) _) | exact Below.drew ‹_›))
  have C1 := stackPath_impl nn A ls c s B st cb _ hm hmb ((hS.below B0).more B0.size) (hT.grow B0)
  have HB := Lib.hid B0
  have HG := Lib.hid (Box.new w 32 #[.int .i64 nn, .slice A ls.length c])
  have HS := Lib.hid hS
  clear hS hT B0
  have hpl := pathS_len nn ls s st
  cases he : (endI nn ls s st).isSome with
  | false =>
    rw [pathS_none he] at C1
    rw [costS_none he]
    clear he hpl
    go_enter Try.func28, Try.ntmps28
    go_wp2_with fail
    refine C1.mono ?_
    clear C1
    rintro e w1 ⟨A1, g1, c1, rfl, hg1, ho1, hb1, hcp⟩
    have B1 := Lib.hid (HB.out.trans (hb1.mono HB.out.size))
    clear hb1 ho1
    go_wp2_with fail
    go_ret
    exact ⟨rfl, B1.out⟩
  | true =>
    rw [costS_some he]
    obtain ⟨n, z, rfl, hg, hs, h8, -, hz⟩ := endI_inv he
    obtain ⟨-, hp0⟩ := pathS_end hz
    have hway : Way ls (pathS (n : Int) ls s st) := pathS_way
    have CC := fun (X : Option Addr) (cx : Nat) (W : World) (h1 : Sl W W.heap.size A ls) (h2 : Sli W W.heap.size X (pathS (n : Int) ls s st)) => costAlong_any n A ls c X (pathS (n : Int) ls s st) cx W hm hg hway hp0 hpl h1 h2
    clear he hg hz hway
    generalize along (n : Int) ls (pathS (n : Int) ls s st) = q at *
    generalize pathS (n : Int) ls s st = p at *
    have hpe : ((p.length : Int) == 0) = false := by rw [beq_eq_false_iff_ne]; omega
    go_enter Try.func28, Try.ntmps28
    go_wp2_with fail
    refine C1.mono ?_
    clear C1
    rintro e w1 ⟨A1, g1, c1, rfl, hg1, ho1, hb1, hcp⟩
    have B1 := Lib.hid (HB.out.trans (hb1.mono HB.out.size))
    obtain ⟨z1, e10, e11, -, -⟩ := (HG.out.below hb1 HG.out.lt).two
    have C2 := CC A1 c1 w1 ((HS.out.below B1.out).more B1.out.size) ho1.sli
    clear hb1 ho1 CC
    go_wp2_with (go_at_call 54; refine C2.mono ?_; clear C2; rintro e w2 ⟨rfl, hb2⟩; have B2 := Lib.hid (B1.out.trans (hb2.mono B1.out.size)); clear hb2)
    go_ret
    exact ⟨rfl, B2.out⟩

end Go.Proofs.Ytenlofomkchlaac

/-
  Contracts over this seat: the program's StackCrosses and StackUnique.
-/
namespace Go.Proofs.Ytenlofomkchlaac
open Go.RowKit Go.Maps

/-- May a packet cross the link x on this leg? -/
def legX (nn : Int) (ls : List Lk) (x : Int) (g : Lb × List Int) : Bool := if g.1.k = 1 then usedB nn ls (g.2.headD 0) g.1.a x else decide (g.1.a = x)
/-- Is there only one way on this leg? -/
def legU (nn : Int) (ls : List Lk) (g : Lb × List Int) : Bool := if g.1.k = 1 then decide (1 < countI nn ls (g.2.headD 0) g.1.a) else false
def crossS (nn : Int) (ls : List Lk) (s : Int) (st : List Lb) (x : Int) : Bool := (endI nn ls s st).isSome && (legsO nn ls s st).any (legX nn ls x)
def uniqS (nn : Int) (ls : List Lk) (s : Int) (st : List Lb) : Bool := (endI nn ls s st).isSome && !(legsO nn ls s st).any (legU nn ls)

theorem assert_node (v : Value) (w : World) : Sem.run Try.prog (Instr.typeAssert (.iface 105 v) 73 105 true) w = .ok (.tuple #[v, .bool true]) w := by
  have hu := Try.underlying105
  unfold Instr.typeAssert
  simp [go_sem, hu, Go.underlying]
theorem assert_link (v : Value) (w : World) : Sem.run Try.prog (Instr.typeAssert (.iface 126 v) 73 126 true) w = .ok (.tuple #[v, .bool true]) w := by
  have hu := Try.underlying126
  unfold Instr.typeAssert
  simp [go_sem, hu, Go.underlying]
theorem assert_miss (v : Value) (w : World) : Sem.run Try.prog (Instr.typeAssert (.iface 126 v) 73 105 true) w = .ok (.tuple #[.int .i64 0, .bool false]) w := by
  have hu := Try.underlying105
  unfold Instr.typeAssert
  simp [go_sem, hu, Go.underlying]


set_option maxRecDepth 100000 in
set_option maxHeartbeats 800000 in
theorem ways_any (nn : Int) (A : Option Addr) (ls : List Lk) (c : Nat) (l : Lb) (u : Int) (r : List Int) (g o c' : Nat) (w : World) (hk : l.k = 1 ∨ l.k = 2) (hm : ls.length ≤ 2000000) (hS : Sl w w.heap.size A ls) (hg : g < w.heap.size) (hu : w.cell? ⟨g, o, none⟩ = some (.int .i64 u)) :
   Calls Try.prog 53 #[.agg #[byV l, .slice (some ⟨g, o, none⟩) (r.length + 1) c'], gval nn A ls.length c] w fun e w' => (∃ q, e = .returned (.int .i64 q) ∧ legU nn ls (l, u :: r) = decide (1 < q)) ∧ Below w.heap.size w w' := by
  rcases hk with hk | hk
  · rw [byV_node hk]
    have e : legU nn ls (l, u :: r) = decide (1 < countI nn ls u l.a) := by unfold legU; rw [if_pos hk]; rfl
    rw [e]
    have B0 : Below w.heap.size w ((w.alloc (.cells #[.iface 105 (.int .i64 l.a), .slice (some ⟨g, o, none⟩) (r.length + 1) c'] 75)).alloc (.cells #[.int .i64 nn, .slice A ls.length c] 32)) := by (repeat (first | exact Below.refl _ _ | (refine Below.alloc ?_ (by first | exact Nat.le_refl _ | omega | (simp; done) | (simp; omega)) _) | (refine Below.setCell ?_ (by first | exact Nat.le_refl _ | omega | (simp; done) | (simp; omega)) _) | exact Below.drew ‹_›))
    have C1 := fun W (h : Sl W W.heap.size A ls) => count_impl nn A ls c u l.a W hm h
    have HS := Lib.hid ((hS.below B0).more B0.size)
    have HB := Lib.hid B0
    have L0 := Lib.hid ((Box.new w 75 #[.iface 105 (.int .i64 l.a), .slice (some ⟨g, o, none⟩) (r.length + 1) c']).alloc (.cells #[.int .i64 nn, .slice A ls.length c] 32))
    have G0' := Box.new (w.alloc (.cells #[.iface 105 (.int .i64 l.a), .slice (some ⟨g, o, none⟩) (r.length + 1) c'] 75)) 32 #[.int .i64 nn, .slice A ls.length c]
    rw [World.size_alloc] at G0'
    have G0 := Lib.hid G0'
    have hu0 := (B0.cell (p := ⟨g, o, none⟩) hg).trans hu
    have hg0 := Nat.lt_of_lt_of_le hg B0.size
    clear hS B0 e hk G0'
    generalize countI nn ls u l.a = q at *
    obtain ⟨k, a⟩ := l
    dsimp only at *
    have hta := assert_node
    go_enter Try.func53, Try.ntmps53
    go_wp2_with fail
    generalize (w.alloc (.cells #[.iface 105 (.int .i64 a), .slice (some ⟨g, o, none⟩) (r.length + 1) c'] 75)).alloc (.cells #[.int .i64 nn, .slice A ls.length c] 32) = W0 at *
    obtain ⟨z0, e0, e1, -, -⟩ := G0.out.two
    obtain ⟨z1, d0, d1, -, -⟩ := L0.out.two
    have C2 := C1 W0.drew HS.out
    clear C1
    have hX := fun (x : Ext W0.drew) (bb o : Nat) (h : bb < W0.heap.size) => (show x.w.cell? ⟨bb, o, none⟩ = W0.cell? ⟨bb, o, none⟩ from x.cell bb o h)
    refine wp_region_staged 8 (by kernel_rfl) (by kernel_rfl) ?_
    refine stage_seg _ 2 [0, 1, 2, 3, 4, 5] (by kernel_rfl) (by kernel_rfl) (by kernel_rfl) (by kernel_rfl) ?_
    (simp only [List.map_cons, List.map_nil, List.getElem?_cons_zero, List.getElem?_cons_succ, Option.getD_some]); (repeat (go_big_quiet_step (fail))); (refine wpQuiet_nil ?_)
    refine stage_call _ 1 6 (by kernel_rfl) (by rfl) (by kernel_rfl) (by rfl) ?_
    go_wp2_with fail
    refine C2.mono ?_
    rintro e w1 ⟨rfl, hb1⟩
    refine ⟨hb1, ?_⟩
    have B1 := Lib.hid (HB.out.drew.trans (hb1.mono HB.out.size))
    have hX1 := fun (x : Ext w1) (bb o : Nat) (h : bb < w1.heap.size) => x.cell bb o h
    refine stage_seg _ 0 [7] (by kernel_rfl) (by kernel_rfl) (by kernel_rfl) (by kernel_rfl) ?_
    (simp only [List.map_cons, List.map_nil, List.getElem?_cons_zero, List.getElem?_cons_succ, Option.getD_some]); (repeat (go_big_quiet_step (fail))); (refine wpQuiet_nil ?_)
    refine stage_end (by kernel_rfl) ?_
    clear hX hX1 C2 hb1
    go_wp2_with fail
    go_ret
    exact ⟨⟨q, rfl, rfl⟩, B1.out⟩
  · rw [byV_link hk]
    have e : legU nn ls (l, u :: r) = false := by unfold legU; dsimp only; rw [if_neg (by omega)]
    rw [e]
    clear e hk hS
    obtain ⟨k, a⟩ := l
    dsimp only at *
    have htc := assert_miss
    go_enter Try.func53, Try.ntmps53
    go_wp2_with fail
    go_ret
    exact ⟨⟨1, rfl, rfl⟩, by (repeat (first | exact Below.refl _ _ | (refine Below.alloc ?_ (by first | exact Nat.le_refl _ | omega | (simp; done) | (simp; omega)) _) | (refine Below.setCell ?_ (by first | exact Nat.le_refl _ | omega | (simp; done) | (simp; omega)) _) | exact Below.drew ‹_›))⟩

theorem Slg.head {w : World} {B : Nat} {A : Option Addr} {gs : List Lg} (h : Slg w B A gs) {k : Nat} {x : Lg} (hk : gs[k]? = some x) {u : Int} {r : List Int} (hp : x.p = u :: r) :
    ∃ g o, x.A = some ⟨g, o, none⟩ ∧ g < B ∧ w.cell? ⟨g, o, none⟩ = some (.int .i64 u) := by
  obtain ⟨b, off, e, hb, h1, h2, h3, h4⟩ := h k x hk
  obtain ⟨g, o, eA, hg, hc⟩ := h3 0 u (by rw [hp]; rfl)
  exact ⟨g, o, eA, hg, by simpa using hc⟩


set_option maxRecDepth 100000 in
theorem unF_any (nn : Int) (A : Option Addr) (ls : List Lk) (c : Nat) (G : Nat) (l : Lb) (u : Int) (r : List Int) (g o c' : Nat) (w : World) (hk : l.k = 1 ∨ l.k = 2) (hm : ls.length ≤ 2000000) (hS : Sl w w.heap.size A ls) (hG : Box w G 32 #[.int .i64 nn, .slice A ls.length c]) (hg : g < w.heap.size) (hu : w.cell? ⟨g, o, none⟩ = some (.int .i64 u)) :
   Calls Try.prog 52 #[.agg #[byV l, .slice (some ⟨g, o, none⟩) (r.length + 1) c'], .pointer (some ⟨G, 0, none⟩)] w fun e w' => e = .returned (.bool (legU nn ls (l, u :: r))) ∧ Below w.heap.size w w' := by
  have B0 : Below w.heap.size w (w.alloc (.cells #[byV l, .slice (some ⟨g, o, none⟩) (r.length + 1) c'] 75)) := by (repeat (first | exact Below.refl _ _ | (refine Below.alloc ?_ (by first | exact Nat.le_refl _ | omega | (simp; done) | (simp; omega)) _) | (refine Below.setCell ?_ (by first | exact Nat.le_refl _ | omega | (simp; done) | (simp; omega)) _) | exact Below.drew ‹_›))
  have C1 := ways_any nn A ls c l u r g o c' _ hk hm ((hS.below B0).more B0.size) (Nat.lt_of_lt_of_le hg B0.size) ((B0.cell (p := ⟨g, o, none⟩) hg).trans hu)
  have HB := Lib.hid B0
  obtain ⟨z0, e0, e1, -, -⟩ := hG.two
  clear hS hG hu B0
  have hbv := byV_iface l
  generalize byV l = bv at *
  obtain ⟨T, v0, rfl⟩ := hbv
  go_enter Try.func52, Try.ntmps52
  go_wp2_with (go_at_call 53; refine C1.mono ?_; clear C1; rintro e w1 ⟨⟨q, rfl, hq⟩, hb1⟩; have HQ := Lib.hid hq; have B1 := Lib.hid (HB.out.trans (hb1.mono HB.out.size)); clear hb1 hq)
  go_ret
  exact ⟨ret_bool HQ.out.symm, B1.out⟩

theorem any_lp {gs : List Lg} {xs : List (Lb × List Int)} (h : gs.map Lg.lp = xs) (f : Lb × List Int → Bool) : gs.any (fun x => f x.lp) = xs.any f := by
  rw [← h, List.any_map]; rfl


set_option maxRecDepth 100000 in
set_option maxHeartbeats 800000 in
theorem stackUnique_impl (nn : Int) (A : Option Addr) (ls : List Lk) (c : Nat) (s : Int) (B : Option Addr) (st : List Lb) (cb : Nat) (w : World) (hm : ls.length ≤ 2000000) (hmb : st.length ≤ 2000000) (hS : Sl w w.heap.size A ls) (hT : Slb w w.heap.size B st) :
   Calls Try.prog 27 #[gval nn A ls.length c, .int .i64 s, .slice B st.length cb] w fun e w' => e = .returned (.bool (uniqS nn ls s st)) ∧ Below w.heap.size w w' := by
  have B0 : Below w.heap.size w (w.alloc (.cells #[.int .i64 nn, .slice A ls.length c] 32)) := by (repeat (first | exact Below.refl _ _ | (refine Below.alloc ?_ (by first | exact Nat.le_refl _ | omega | (simp; done) | (simp; omega)) _) | (refine Below.setCell ?_ (by first | exact Nat.le_refl _ | omega | (simp; done) | (simp; omega)) _) | exact Below.drew ‹_›))
  have C1 := legs_any nn A ls c s B st cb _ hm hmb ((hS.below B0).more B0.size) (hT.grow B0)
  have HG := Lib.hid (Box.new w 32 #[.int .i64 nn, .slice A ls.length c])
  have HB := Lib.hid B0
  have HS := Lib.hid hS
  clear hS hT B0
  have HCS : Hid (uniqS nn ls s st = ((endI nn ls s st).isSome && !(legsO nn ls s st).any (legU nn ls))) := Lib.hid rfl
  generalize uniqS nn ls s st = q at *
  go_enter Try.func27, Try.ntmps27
  go_wp2_with fail
  refine C1.mono ?_
  clear C1
  rintro e w1 (⟨hok, A1, gs, c1, rfl, hmap, hsl, hb1⟩ | ⟨hok, rfl, hb1⟩)
  · obtain ⟨n, z, rfl, hg, hs, h8, -, -⟩ := endI_inv hok
    have B1 := Lib.hid (HB.out.trans (hb1.mono HB.out.size))
    have G1 := Lib.hid (HG.out.below hb1 HG.out.lt)
    have S1 := Lib.hid ((HS.out.below B1.out).more B1.out.size)
    have hgl : gs.length ≤ 8 := by
      have := congrArg List.length hmap
      rw [List.length_map] at this
      have := legsO_len (n : Int) ls st s
      omega
    have CF := cfl_un gs (fun y => legU (n : Int) ls y.lp) A1 c1 w.heap.size w1 hgl hsl (fun k y W hk hb hX => by
      obtain ⟨u, hu, e1, e2⟩ := legsO_mem hg hs y.lp (by rw [← hmap]; exact List.mem_map_of_mem (List.mem_of_getElem? hk))
      have hkk := leg_kind (by rw [← e1]; exact e2)
      obtain ⟨l, p, A', g', c'⟩ := y
      dsimp only [Lg.lp] at *
      cases p with
      | nil => exact absurd rfl e2
      | cons v r =>
        obtain ⟨g, o, rfl, hgB, hcell⟩ := hX.head hk rfl
        exact unF_any (n : Int) A ls c _ l v r g o c' W hkk hm ((S1.out.below hb).more hb.size) (G1.out.below hb G1.out.lt) hgB hcell)
    rw [any_lp hmap] at CF
    have HQ : Hid (q = !(legsO (n : Int) ls s st).any (legU (n : Int) ls)) := Lib.hid (by rw [HCS.out, hok]; rfl)
    generalize (legsO (n : Int) ls s st).any (legU (n : Int) ls) = q' at *
    clear hok hmap hsl hb1 HB HG hg HCS
    go_wp2_with (go_at_call 51; refine CF.mono ?_; clear CF; rintro e w2 ⟨rfl, hb2⟩; have B2 := Lib.hid (B1.out.trans (hb2.mono B1.out.size)); clear hb2)
    go_ret
    exact ⟨ret_bool HQ.out.symm, B2.out⟩
  · have B1 := Lib.hid (HB.out.trans (hb1.mono HB.out.size))
    have HQ : Hid (q = false) := Lib.hid (by rw [HCS.out, hok]; rfl)
    clear hok hb1 HB HCS
    go_wp2_with fail
    go_ret
    exact ⟨ret_bool HQ.out.symm, B1.out⟩

end Go.Proofs.Ytenlofomkchlaac

/-
  Contracts over this seat: the specification's StackEnd, StackPath and StackCost.
-/
namespace Go.Proofs.Ytenlofomkchlaac
open Go.RowKit Go.Maps

theorem endI_none {nn : Int} {ls : List Lk} {s : Int} {st : List Lb} (h : (endI nn ls s st).isSome = false) : endI nn ls s st = none := by
  cases he : endI nn ls s st with
  | none => rfl
  | some z => rw [he] at h; cases h


/-- A slice that reads as numbers, wherever it begins. -/
def SlicI (xs : List Int) (w : World) (e : Ending) (w' : World) : Prop :=
  ∃ g o c, e = .returned (.slice (some ⟨g, o, none⟩) xs.length c) ∧ (∀ (i : Nat) (u : Int), xs[i]? = some u → w'.cell? ⟨g, o + i, none⟩ = some (.int .i64 u)) ∧ Below w.heap.size w w'


end Go.Proofs.Ytenlofomkchlaac

/-
  Contracts over this seat: the specification's StackPath.
-/
namespace Go.Proofs.Ytenlofomkchlaac
open Go.RowKit Go.Maps

/-- The nodes of the first k labels. -/
def pthK (nn : Int) (ls : List Lk) (s : Int) (st : List Lb) (k : Nat) : List Int := s :: pthO nn ls s (st.take k)


end Go.Proofs.Ytenlofomkchlaac

/-
  Contracts over this seat: the specification's StackCost.
-/
namespace Go.Proofs.Ytenlofomkchlaac
open Go.RowKit Go.Maps

theorem legsC_bound {n : Nat} {ls : List Lk} (hg : gvB (n : Int) ls = true) {st : List Lb} : ∀ {s : Int}, 0 ≤ s ∧ s < (n : Int) → 0 ≤ legsC (n : Int) ls s st ∧ legsC (n : Int) ls s st ≤ 160 * st.length := by
  obtain ⟨hf, hn1, hn8, hl14⟩ := gvB_fit hg
  induction st with
  | nil => intro s _; simp [legsC]
  | cons l st ih =>
    intro s hs
    simp only [legsC]
    cases hz : stepO (n : Int) ls s l with
    | none => simp; omega
    | some u =>
      dsimp only
      have h1 := ih (stepO_node hg hs hz)
      have hne := stepO_leg hz
      obtain ⟨_, _, _, _, hw, h8, _⟩ := leg_fact hg hs hne
      have h2 := along_bound hg hw
      rw [leg_along hg hs hz] at h2
      simp only [List.length_cons]
      omega
/-- The cost of the first k labels. -/
def cstK (nn : Int) (ls : List Lk) (s : Int) (st : List Lb) (k : Nat) : Int := legsC nn ls s (st.take k)
theorem costS_legs {nn : Int} {ls : List Lk} {s : Int} {st : List Lb} (h : (endI nn ls s st).isSome = true) : costS nn ls s st = cstK nn ls s st st.length := by
  obtain ⟨n, z, rfl, hg, hs, h8, he, -⟩ := endI_inv h
  unfold costS cstK
  rw [if_pos h, along_legs hg hs he, List.take_length]


end Go.Proofs.Ytenlofomkchlaac

/-
  Contracts over this seat: the specification's StackCrosses and StackUnique.
-/
namespace Go.Proofs.Ytenlofomkchlaac
open Go.RowKit Go.Maps

theorem legsO_full {nn : Int} {ls : List Lk} {st : List Lb} : ∀ {s z : Int}, endO nn ls s st = some z → (legsO nn ls s st).length = st.length := by
  induction st with
  | nil => intro s z _; rfl
  | cons l st ih =>
    intro s z h
    simp only [endO] at h
    simp only [legsO]
    cases hz : stepO nn ls s l with
    | none => rw [hz] at h; cases h
    | some u =>
      rw [hz] at h
      simp only [List.length_cons]
      rw [ih h]
theorem legsO_at {nn : Int} {ls : List Lk} {s z : Int} {st : List Lb} (he : endO nn ls s st = some z) {k : Nat} {x : Int} {l : Lb} (hx : endO nn ls s (st.take k) = some x) (hl : st[k]? = some l) : (legsO nn ls s st)[k]? = some (l, legP nn ls x l) := by
  have hk := (List.getElem?_eq_some_iff.1 hl).1
  obtain ⟨y, hy⟩ := endO_upto he (k + 1)
  have hs : stepO nn ls x l = some y := by rw [← endO_next hx hl]; exact hy
  have h1 := legsO_next hx hl hs
  have h2 := legsO_append (nn := nn) (ls := ls) (st.drop (k + 1)) hy
  rw [List.take_append_drop] at h2
  have h3 : (legsO nn ls s (st.take k)).length = k := by rw [legsO_full hx]; simp; omega
  rw [h2, h1, List.append_assoc, List.getElem?_append_right (by omega), h3]
  simp


theorem legU_count {n : Nat} {ls : List Lk} (hg : gvB (n : Int) ls = true) {x y : Int} (hx : 0 ≤ x ∧ x < (n : Int)) (hy : 0 ≤ y ∧ y < (n : Int)) (h0 : 0 ≤ bf (n : Int) ls x y) {g : Lb × List Int} (hk : g.1.k = 1) (ha : g.1.a = y) (hd : g.2.headD 0 = x) :
    legU (n : Int) ls g = !decide (((cntL n ls x y : Nat) : Int) = 1) := by
  unfold legU
  rw [if_pos hk, hd, ha]
  unfold countI
  rw [if_pos (vwB_of hg hx hy), Int.toNat_natCast]
  have hf := (gvB_fit hg).1
  have h1 := (cntL_pos hg hy _ x hx (Nat.le_refl _)).2 (by rw [bf_symm hf hy hx]; exact h0)
  by_cases h : ((cntL n ls x y : Nat) : Int) = 1
  · simp [h]
  · have : 1 < ((cntL n ls x y : Nat) : Int) := by omega
    rw [decide_eq_true this, decide_eq_false h]
    rfl

set_option maxRecDepth 100000 in
set_option maxHeartbeats 1600000 in
theorem stackUnique_spec (nn : Int) (A : Option Addr) (ls : List Lk) (c : Nat) (s : Int) (B : Option Addr) (st : List Lb) (cb : Nat) (w : World) (hm : ls.length ≤ 2000000) (hnu : nn ≤ 9223372036854775807) (hmb : st.length ≤ 2000000) (hS : Sl w w.heap.size A ls) (hT : Slb w w.heap.size B st) :
   Calls Try.prog 33 #[gval nn A ls.length c, .int .i64 s, .slice B st.length cb] w fun e w' => e = .returned (.bool (uniqS nn ls s st)) ∧ Below w.heap.size w w' := by
  have B0 : Below w.heap.size w (w.alloc (.cells #[.int .i64 nn, .slice A ls.length c] 32)) := by (repeat (first | exact Below.refl _ _ | (refine Below.alloc ?_ (by first | exact Nat.le_refl _ | omega | (simp; done) | (simp; omega)) _) | (refine Below.setCell ?_ (by first | exact Nat.le_refl _ | omega | (simp; done) | (simp; omega)) _) | exact Below.drew ‹_›))
  have C1 := l4nodes_any nn A ls c s B st cb _ hm hnu hmb ((hS.below B0).more B0.size) (hT.grow B0)
  unfold NdsR at C1
  have HB := Lib.hid B0
  have HG := Lib.hid (Box.new w 32 #[.int .i64 nn, .slice A ls.length c])
  have HS := Lib.hid hS
  have HT := Lib.hid hT
  clear hS hT B0
  have HCS : Hid (uniqS nn ls s st = ((endI nn ls s st).isSome && !(legsO nn ls s st).any (legU nn ls))) := Lib.hid rfl
  generalize uniqS nn ls s st = qq at *
  go_enter Try.func33, Try.ntmps33
  go_wp2_with fail
  refine C1.mono ?_
  clear C1
  rintro e w1 (⟨hok, A1, g1, c1, rfl, hg1, ho1, hb1⟩ | ⟨hok, v, rfl, hb1⟩)
  · have HQ := Lib.hid (show qq = !(legsO nn ls s st).any (legU nn ls) by rw [HCS.out, hok]; rfl)
    obtain ⟨n, z, rfl, hg, hs, h8, he, -⟩ := endI_inv hok
    have B1 := Lib.hid (HB.out.trans (hb1.mono HB.out.size))
    have G1 := Lib.hid (HG.out.below hb1 HG.out.lt)
    have O1 := Lib.hid ho1
    have HV := Lib.hid hg
    have HEN : Hid (∀ k, ∃ x, endO (n : Int) ls s (st.take k) = some x) := Lib.hid (fun k => endO_upto he k)
    have HNL : Hid ((ndsL (n : Int) ls s st st.length).length = st.length + 1) := Lib.hid (ndsL_len _ _ _ _ _)
    have HNA : Hid (∀ (k : Nat) (x : Int), k ≤ st.length → endO (n : Int) ls s (st.take k) = some x → (ndsL (n : Int) ls s st st.length)[k]? = some x) := Lib.hid (fun k x hk h => ndsL_at hk h)
    have HLA : Hid (∀ (k : Nat) (x : Int) (l : Lb), endO (n : Int) ls s (st.take k) = some x → st[k]? = some l → (legsO (n : Int) ls s st)[k]? = some (l, legP (n : Int) ls x l)) := Lib.hid (fun k x l hx hl => legsO_at he hx hl)
    have HLF := Lib.hid (legsO_full he)
    clear hok ho1 hb1 he HB HG HCS hg
    go_wp2_with fail
    go_loopw [8, 9] (fun v i wr => ∃ (k : Nat) (ok : Bool), k ≤ st.length ∧ i = .int .i64 k ∧ v = .bool ok ∧ Below w1.heap.size w1 wr ∧ (ok = true → ∀ (j : Nat) (y : Lb × List Int), j < k → (legsO (n : Int) ls s st)[j]? = some y → legU (n : Int) ls y = false) ∧ (ok = false → qq = false)) (fun _ i _ => st.length - (intOf i).toNat)
    case atStart => exact ⟨0, true, Nat.zero_le _, rfl, rfl, Below.refl _ _, fun _ j _ h => by omega, fun h => by cases h⟩
    case round =>
      obtain ⟨k, ok, hk, rfl, rfl, hb, hall, hno⟩ := hrel
      have HBX := Lib.hid (B1.out.trans (hb.mono B1.out.size))
      cases ok with
      | false =>
        have HN := Lib.hid (hno rfl)
        clear hall hno hb
        by_cases hlt : k < st.length
        · go_wp2_with fail
          go_ret
          exact ⟨ret_bool HN.out.symm, HBX.out⟩
        · go_wp2_with fail
          go_ret
          exact ⟨ret_bool HN.out.symm, HBX.out⟩
      | true =>
        have HA := Lib.hid (hall rfl)
        clear hall hno
        by_cases hlt : k < st.length
        · obtain ⟨l, hl⟩ : ∃ l, st[k]? = some l := ⟨_, List.getElem?_eq_getElem hlt⟩
          obtain ⟨x, hx⟩ := HEN.out k
          obtain ⟨y, hy⟩ := HEN.out (k + 1)
          have hstep : stepO (n : Int) ls x l = some y := by rw [← endO_next hx hl]; exact hy
          have hxn : 0 ≤ x ∧ x < (n : Int) := endO_node HV.out hs hx
          have hyn : 0 ≤ y ∧ y < (n : Int) := endO_node HV.out hs hy
          have hne := stepO_leg hstep
          have hkk := leg_kind hne
          have hat := HLA.out k x l hx hl
          obtain ⟨z', hz1, _, hz0, _, _, _, hz7⟩ := leg_fact HV.out hxn hne
          rw [hstep] at hz1
          cases hz1
          have hhd : (legP (n : Int) ls x l).headD 0 = x := by
            cases hp : legP (n : Int) ls x l with
            | nil => exact absurd hp hne
            | cons a r => rw [hp] at hz0; simpa using hz0
          have HAT := Lib.hid hat
          have hwz := hb.size
          have hBW := B1.out.trans (hb.mono B1.out.size)
          have hwz0 := hBW.size
          obtain ⟨b, off, rfl, hbb, d1, d2⟩ := (HT.out.below hBW) k l hl
          have zb2 : b < wr.heap.size := Nat.lt_of_lt_of_le hbb hwz0
          obtain ⟨rfl, zg1, hcx⟩ := (O1.out.below hb).at (HNA.out k x hk hx)
          obtain ⟨-, -, hcy⟩ := (O1.out.below hb).at (HNA.out (k + 1) y hlt hy)
          obtain ⟨zw2, e0, e1, -, -⟩ := (G1.out.below hb G1.out.lt).two
          have HBB := Lib.hid hb
          have hkl : (k : Int) < (st.length : Int) + 1 := by omega
          have HNXT : Hid (legU (n : Int) ls (l, legP (n : Int) ls x l) = false → ∀ (j : Nat) (y : Lb × List Int), j < k + 1 → (legsO (n : Int) ls s st)[j]? = some y → legU (n : Int) ls y = false) := Lib.hid (fun h j y' hj hy' => by
            by_cases hjk : j < k
            · exact HA.out j y' hjk hy'
            · obtain rfl : j = k := by omega
              rw [HAT.out] at hy'
              cases hy'
              exact h)
          have HBAD : Hid (legU (n : Int) ls (l, legP (n : Int) ls x l) = true → qq = false) := Lib.hid (fun h => by
            rw [HQ.out, List.any_eq_true.2 ⟨_, List.mem_of_getElem? HAT.out, h⟩]; rfl)
          rcases hkk with hk1 | hk2
          · obtain ⟨hya, hy0, hyp⟩ := hz7 hk1
            have HLX : Hid (legU (n : Int) ls (l, legP (n : Int) ls x l) = !decide (((cntL n ls x y : Nat) : Int) = 1)) := Lib.hid (legU_count HV.out hxn hyn hy0 hk1 hya.symm hhd)
            have CU : ∀ X : Ext wr, Calls Try.prog 60 #[gval (n : Int) A ls.length c, .int .i64 x, .int .i64 y] X.w fun e w' => e = .returned (.int .i64 (cntL n ls x y : Nat)) ∧ Below X.w.heap.size X.w w' := fun X =>
              l2count_any n A ls c y HV.out hyn _ x X.w hxn (Nat.le_refl _) (((HS.out.below hBW).below (X.below.mono hwz0)).more (Nat.le_trans hwz0 X.below.size))
            obtain ⟨lk, la⟩ := l
            dsimp only at d1 d2 hk1 hya
            subst hk1 hya
            generalize cntL n ls x y = u at *
            clear hl hx hy hstep hne hat hz0 hz7 hhd hb hBW hyp hy0
            by_cases hu1 : u = 1
            · subst hu1
              have HN := Lib.hid (HNXT.out (by rw [HLX.out]; rfl))
              have hY := fun (x : Ext wr) (b o : Nat) (h : b < wr.heap.size) => x.cell b o h
              go_wp2_with fail
              refine wp_region_ext (by kernel_rfl) (by kernel_rfl) ?_
              repeat (go_big_quiet_step (first | (go_at_call 60; exact Calls.ext_of (CU _))))
              (refine wpQuiet_nil ?_); (rintro _ ⟨X, rfl⟩); (have hw1 := X.below); (generalize X.w = w1 at *); (clear X)
              clear hY
              have B2 := Lib.hid (HBB.out.trans (hw1.mono hwz))
              go_wp2_with fail
              go_roundw
              case rel => exact ⟨k + 1, true, hlt, by go_num, rfl, B2.out, fun _ => HN.out, fun h => by cases h⟩
              case measure => simp [intOf]; omega
            · have hu1' : (((u : Nat) : Int) == 1) = false := by rw [beq_eq_false_iff_ne]; omega
              have HN := Lib.hid (HBAD.out (by rw [HLX.out, decide_eq_false (by omega)]; rfl))
              clear hu1
              have hY := fun (x : Ext wr) (b o : Nat) (h : b < wr.heap.size) => x.cell b o h
              go_wp2_with fail
              refine wp_region_ext (by kernel_rfl) (by kernel_rfl) ?_
              repeat (go_big_quiet_step (first | (go_at_call 60; exact Calls.ext_of (CU _))))
              (refine wpQuiet_nil ?_); (rintro _ ⟨X, rfl⟩); (have hw1 := X.below); (generalize X.w = w1 at *); (clear X)
              clear hY
              have B2 := Lib.hid (HBB.out.trans (hw1.mono hwz))
              go_wp2_with fail
              go_roundw
              case rel => exact ⟨k + 1, false, hlt, by go_num, rfl, B2.out, (fun h => by cases h), fun _ => HN.out⟩
              case measure => simp [intOf]; omega
          · have HN := Lib.hid (HNXT.out (by unfold legU; dsimp only; rw [if_neg (by omega)]))
            obtain ⟨lk, la⟩ := l
            dsimp only at d1 d2 hk2
            subst hk2
            clear hl hx hy hstep hne hat hz0 hz7 hhd hb hBW
            have hY := fun (x : Ext wr) (b o : Nat) (h : b < wr.heap.size) => x.cell b o h
            go_wp2_with fail
            refine wp_region_ext (by kernel_rfl) (by kernel_rfl) ?_
            repeat (go_big_quiet_step (fail))
            (refine wpQuiet_nil ?_); (rintro _ ⟨X, rfl⟩); (have hw1 := X.below); (generalize X.w = w1 at *); (clear X)
            clear hY
            have B2 := Lib.hid (HBB.out.trans (hw1.mono hwz))
            go_wp2_with fail
            go_roundw
            case rel => exact ⟨k + 1, true, hlt, by go_num, rfl, B2.out, fun _ => HN.out, fun h => by cases h⟩
            case measure => simp [intOf]; omega
        · obtain rfl : k = st.length := by omega
          clear hb
          go_wp2_with fail
          go_ret
          refine ⟨ret_bool ?_, HBX.out⟩
          rw [HQ.out]
          symm
          rw [show (legsO (n : Int) ls s st).any (legU (n : Int) ls) = false by
            rw [List.any_eq_false]
            intro y' hy'
            obtain ⟨j, hj⟩ := List.getElem?_of_mem hy'
            rw [HA.out j y' (by have := (List.getElem?_eq_some_iff.1 hj).1; have := HLF.out; omega) hj]
            simp]
          rfl
  · have HF : Hid (qq = false) := Lib.hid (by rw [HCS.out, hok]; rfl)
    have B1 := Lib.hid (HB.out.trans (hb1.mono HB.out.size))
    clear hok hb1 HB
    go_wp2_with fail
    go_loopw [8, 9] (fun v i wr => v = .bool false ∧ i = .int .i64 0 ∧ wr = w1) (fun _ _ _ => 0)
    case atStart => exact ⟨rfl, rfl, rfl⟩
    case round =>
      obtain ⟨rfl, rfl, rfl⟩ := hrel
      by_cases hlt : 0 < st.length
      · go_wp2_with fail
        go_ret
        exact ⟨ret_bool HF.out.symm, B1.out⟩
      · go_wp2_with fail
        go_ret
        exact ⟨ret_bool HF.out.symm, B1.out⟩

end Go.Proofs.Ytenlofomkchlaac
