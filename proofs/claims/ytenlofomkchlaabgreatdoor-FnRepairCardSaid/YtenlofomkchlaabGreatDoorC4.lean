/-
  Contracts over this seat: legs asked one after the other, whether a function holds of one.
-/
import Derived.Test.YtenlofomkchlaabGreatDoorC3
import Derived.Test.YtenlofomkchlaabGreatDoorC2
import Derived.Test.YtenlofomkchlaabGreatDoorC1
namespace Go.Proofs.YtenlofomkchlaabGreatDoor
open Go.RowKit Go.Maps

set_option maxRecDepth 100000 in
/-- The first leg that the function holds of. -/
theorem ifl_cr (gs : List Lg) (pr : Lg → Bool) (X : Option Addr) (cx : Nat) (G K : Nat) (w : World) (hm : gs.length ≤ 8) (hx : Slg w w.heap.size X gs)
    (HC : ∀ (k : Nat) (x : Lg) (W : World), gs[k]? = some x → Below w.heap.size w W → Slg W W.heap.size X gs → Calls Tryz.prog 19 #[.agg #[byV x.l, .slice x.A x.p.length x.c], .pointer (some ⟨G, 0, none⟩), .pointer (some ⟨K, 0, none⟩)] W fun e w' => e = .returned (.bool (pr x)) ∧ Below W.heap.size W w') :
   Calls Tryz.prog 42 #[.slice X gs.length cx, .func (.func 19) #[] #[.pointer (some ⟨G, 0, none⟩), .pointer (some ⟨K, 0, none⟩)]] w fun e w' => (∃ r : Int, e = .returned (.int .i64 r) ∧ decide (0 ≤ r) = gs.any pr) ∧ Below w.heap.size w w' := by
  have HX := Lib.hid hx
  have HH := Lib.hid HC
  clear hx HC
  go_enter Tryz.func42, Tryz.ntmps42
  go_wp2
  go_loopw [8] (fun v wr => ∃ k : Nat, k ≤ gs.length ∧ v = .int .i64 k ∧ Below w.heap.size w wr ∧ ∀ (j : Nat) (x : Lg), j < k → gs[j]? = some x → pr x = false) (fun v _ => gs.length - (intOf v).toNat)
  case atStart => exact ⟨0, Nat.zero_le _, rfl, Below.refl _ _, fun j _ h => by omega⟩
  case round =>
    obtain ⟨k, hk, rfl, hb, hall⟩ := hrel
    have HA := Lib.hid hall
    have HW := Lib.hid hb
    clear hall
    by_cases hlt : k < gs.length
    · obtain ⟨x, hxk⟩ : ∃ x, gs[k]? = some x := ⟨_, List.getElem?_eq_getElem hlt⟩
      have C1 := HH.out k x wr hxk hb (HX.out.grow hb)
      obtain ⟨b, off, rfl, hbb, hc1, hc2, -, -⟩ := (HX.out.below hb) k x hxk
      have HK := Lib.hid hxk
      have hbv := byV_iface x.l

      clear hxk hb
      generalize byV x.l = bv at *
      obtain ⟨T, v0, rfl⟩ := hbv
      generalize x.A = XA at *
      generalize x.p.length = XP at *
      generalize x.c = XC at *
      cases hpr : pr x with
      | true =>
        rw [hpr] at C1
        have HPR := Lib.hid hpr
        clear hpr
        go_wp2_with (go_at_call 19; refine C1.mono ?_; clear C1; rintro e w1 ⟨rfl, hb1⟩; have HW1 := Lib.hid (HW.out.trans (hb1.mono HW.out.size)); clear hb1)
        go_ret
        refine ⟨⟨_, rfl, ?_⟩, HW1.out⟩
        have : gs.any pr = true := List.any_eq_true.2 ⟨x, List.mem_of_getElem? HK.out, HPR.out⟩
        rw [this]
        simp
      | false =>
        rw [hpr] at C1
        have HPR := Lib.hid hpr
        clear hpr
        go_wp2_with (go_at_call 19; refine C1.mono ?_; clear C1; rintro e w1 ⟨rfl, hb1⟩; have HW1 := Lib.hid (HW.out.trans (hb1.mono HW.out.size)); clear hb1)
        go_roundw
        case rel =>
          refine ⟨k + 1, hlt, by go_num, HW1.out, fun j y hj hy => ?_⟩
          by_cases hjk : j < k
          · exact HA.out j y hjk hy
          · obtain rfl : j = k := by omega
            rw [HK.out] at hy
            cases hy
            exact HPR.out
        case measure => simp [intOf]; omega
    · clear hb
      go_wp2
      go_ret
      refine ⟨⟨_, rfl, ?_⟩, HW.out⟩
      have : gs.any pr = false := by
        rw [List.any_eq_false]
        intro y hy
        obtain ⟨j, hj⟩ := List.getElem?_of_mem hy
        rw [HA.out j y (by have := (List.getElem?_eq_some_iff.1 hj).1; omega) hj]
        simp
      rw [this]
      simp
theorem cfl_cr (gs : List Lg) (pr : Lg → Bool) (X : Option Addr) (cx : Nat) (G K : Nat) (w : World) (hm : gs.length ≤ 8) (hx : Slg w w.heap.size X gs)
    (HC : ∀ (k : Nat) (x : Lg) (W : World), gs[k]? = some x → Below w.heap.size w W → Slg W W.heap.size X gs → Calls Tryz.prog 19 #[.agg #[byV x.l, .slice x.A x.p.length x.c], .pointer (some ⟨G, 0, none⟩), .pointer (some ⟨K, 0, none⟩)] W fun e w' => e = .returned (.bool (pr x)) ∧ Below W.heap.size W w') :
   Calls Tryz.prog 18 #[.slice X gs.length cx, .func (.func 19) #[] #[.pointer (some ⟨G, 0, none⟩), .pointer (some ⟨K, 0, none⟩)]] w fun e w' => e = .returned (.bool (gs.any pr)) ∧ Below w.heap.size w w' := by
  have C1 := ifl_cr gs pr X cx G K w hm hx HC
  clear hx HC
  go_enter Tryz.func18, Tryz.ntmps18
  go_wp2_with (go_at_call 42; refine C1.mono ?_; clear C1; rintro e w1 ⟨⟨r, rfl, hr⟩, hb⟩; have HR := Lib.hid hr; clear hr)
  go_ret
  exact ⟨ret_bool (by rw [← HR.out]), hb⟩



end Go.Proofs.YtenlofomkchlaabGreatDoor

/-
  Contracts over this seat: the program's StackCost.
-/
namespace Go.Proofs.YtenlofomkchlaabGreatDoor
open Go.RowKit Go.Maps

section
variable {n : Nat} {ls : List Lk}
theorem way_link (hv : gvB (n : Int) ls = true) {a b : Int} (h : ∃ e, Adj ls a b e) : ∃ (j : Nat) (l : Lk), linkI (n : Int) ls a b = (j : Int) ∧ ls[j]? = some l ∧ lcost (n : Int) ls a b = l.c ∧ 1 ≤ l.c ∧ l.c ≤ 20 := by
  obtain ⟨j, l, e1, e2, ha, _, _⟩ := nbI_link hv ((nbI_adj hv).2 h)
  have hb := gvB_at hv e2
  exact ⟨j, l, e1, e2, lcost_eq hv ha, by omega, by omega⟩
theorem Way.tail {x : Int} {xs : List Int} (h : Way ls (x :: xs)) : Way ls xs := fun k a b ha hb => h (k + 1) a b (by simpa using ha) (by simpa using hb)
theorem along_bound (hv : gvB (n : Int) ls = true) {xs : List Int} (h : Way ls xs) : 0 ≤ along (n : Int) ls xs ∧ along (n : Int) ls xs ≤ 20 * xs.length := by
  induction xs with
  | nil => simp [along]
  | cons a r ih =>
    cases r with
    | nil => simp [along]
    | cons b r =>
      have h1 := ih h.tail
      obtain ⟨j, l, _, _, hc, _, _⟩ := way_link hv (h 0 a b rfl rfl)
      simp only [along, List.length_cons] at h1 ⊢
      rw [hc]
      omega
theorem Way.take {xs : List Int} (h : Way ls xs) (d : Nat) : Way ls (xs.take d) := fun k a b ha hb => by
  have hk := (List.getElem?_eq_some_iff.1 hb).1
  have hkd : k + 1 < d := by simp at hk; omega
  rw [List.getElem?_take_of_lt (by omega)] at ha
  rw [List.getElem?_take_of_lt hkd] at hb
  exact h k a b ha hb
end


theorem costS_none {nn : Int} {ls : List Lk} {s : Int} {st : List Lb} (h : (endI nn ls s st).isSome = false) : costS nn ls s st = -1 := by
  unfold costS
  rw [h]; rfl
theorem costS_some {nn : Int} {ls : List Lk} {s : Int} {st : List Lb} (h : (endI nn ls s st).isSome = true) : costS nn ls s st = along nn ls (pathS nn ls s st) := by
  unfold costS pathS
  rw [if_pos h, if_pos h]


end Go.Proofs.YtenlofomkchlaabGreatDoor

/-
  Contracts over this seat: the program's StackCrosses and StackUnique.
-/
namespace Go.Proofs.YtenlofomkchlaabGreatDoor
open Go.RowKit Go.Maps

/-- May a packet cross the link x on this leg? -/
def legX (nn : Int) (ls : List Lk) (x : Int) (g : Lb × List Int) : Bool := if g.1.k = 1 then usedB nn ls (g.2.headD 0) g.1.a x else decide (g.1.a = x)
/-- Is there only one way on this leg? -/
def legU (nn : Int) (ls : List Lk) (g : Lb × List Int) : Bool := if g.1.k = 1 then decide (1 < countI nn ls (g.2.headD 0) g.1.a) else false
def crossS (nn : Int) (ls : List Lk) (s : Int) (st : List Lb) (x : Int) : Bool := (endI nn ls s st).isSome && (legsO nn ls s st).any (legX nn ls x)
def uniqS (nn : Int) (ls : List Lk) (s : Int) (st : List Lb) : Bool := (endI nn ls s st).isSome && !(legsO nn ls s st).any (legU nn ls)

theorem assert_node (v : Value) (w : World) : Sem.run Tryz.prog (Instr.typeAssert (.iface 82 v) 53 82 true) w = .ok (.tuple #[v, .bool true]) w := by
  have hu := Tryz.underlying82
  unfold Instr.typeAssert
  simp [go_sem, hu, Go.underlying]
theorem assert_link (v : Value) (w : World) : Sem.run Tryz.prog (Instr.typeAssert (.iface 83 v) 53 83 true) w = .ok (.tuple #[v, .bool true]) w := by
  have hu := Tryz.underlying83
  unfold Instr.typeAssert
  simp [go_sem, hu, Go.underlying]
theorem assert_miss (v : Value) (w : World) : Sem.run Tryz.prog (Instr.typeAssert (.iface 83 v) 53 82 true) w = .ok (.tuple #[.int .i64 0, .bool false]) w := by
  have hu := Tryz.underlying82
  unfold Instr.typeAssert
  simp [go_sem, hu, Go.underlying]

set_option maxRecDepth 100000 in
set_option maxHeartbeats 800000 in
theorem mayCross_any (nn : Int) (A : Option Addr) (ls : List Lk) (c : Nat) (x : Int) (l : Lb) (u : Int) (r : List Int) (g o c' : Nat) (w : World) (hk : l.k = 1 ∨ l.k = 2) (hm : ls.length ≤ 2000000) (hS : Sl w w.heap.size A ls) (hg : g < w.heap.size) (hu : w.cell? ⟨g, o, none⟩ = some (.int .i64 u)) :
   Calls Tryz.prog 20 #[.agg #[byV l, .slice (some ⟨g, o, none⟩) (r.length + 1) c'], gval nn A ls.length c, .int .i64 x] w fun e w' => e = .returned (.bool (legX nn ls x (l, u :: r))) ∧ Below w.heap.size w w' := by
  rcases hk with hk | hk
  · rw [byV_node hk]
    have e : legX nn ls x (l, u :: r) = usedB nn ls u l.a x := by unfold legX; rw [if_pos hk]; rfl
    rw [e]
    have B0 : Below w.heap.size w ((w.alloc (.cells #[.iface 82 (.int .i64 l.a), .slice (some ⟨g, o, none⟩) (r.length + 1) c'] 55)).alloc (.cells #[.int .i64 nn, .slice A ls.length c] 25)) := by (repeat (first | exact Below.refl _ _ | (refine Below.alloc ?_ (by first | exact Nat.le_refl _ | omega | (simp; done) | (simp; omega)) _) | (refine Below.setCell ?_ (by first | exact Nat.le_refl _ | omega | (simp; done) | (simp; omega)) _) | exact Below.drew ‹_›))
    have C1 := fun W (h : Sl W W.heap.size A ls) => used_impl nn A ls c u l.a x W hm h
    have HS := Lib.hid ((hS.below B0).more B0.size)
    have HB := Lib.hid B0
    have L0 := Lib.hid ((Box.new w 55 #[.iface 82 (.int .i64 l.a), .slice (some ⟨g, o, none⟩) (r.length + 1) c']).alloc (.cells #[.int .i64 nn, .slice A ls.length c] 25))
    have G0' := Box.new (w.alloc (.cells #[.iface 82 (.int .i64 l.a), .slice (some ⟨g, o, none⟩) (r.length + 1) c'] 55)) 25 #[.int .i64 nn, .slice A ls.length c]
    rw [World.size_alloc] at G0'
    have G0 := Lib.hid G0'
    have hu0 := (B0.cell (p := ⟨g, o, none⟩) hg).trans hu
    have hg0 := Nat.lt_of_lt_of_le hg B0.size
    clear hS B0 e hk G0'
    generalize usedB nn ls u l.a x = q at *
    obtain ⟨k, a⟩ := l
    dsimp only at *
    have hta := assert_node
    have htb := assert_link
    have htc := assert_miss
    go_enter Tryz.func20, Tryz.ntmps20
    go_wp2_with fail
    generalize (w.alloc (.cells #[.iface 82 (.int .i64 a), .slice (some ⟨g, o, none⟩) (r.length + 1) c'] 55)).alloc (.cells #[.int .i64 nn, .slice A ls.length c] 25) = W0 at *
    obtain ⟨z0, e0, e1, -, -⟩ := G0.out.two
    obtain ⟨z1, d0, d1, -, -⟩ := L0.out.two
    have C2 := C1 W0.drew HS.out
    clear C1
    have hX := fun (x : Ext W0.drew) (bb o : Nat) (h : bb < W0.heap.size) => (show x.w.cell? ⟨bb, o, none⟩ = W0.cell? ⟨bb, o, none⟩ from x.cell bb o h)
    refine wp_region_staged 9 (by kernel_rfl) (by kernel_rfl) ?_
    refine stage_seg _ 2 [0, 1, 2, 3, 4, 5, 6] (by kernel_rfl) (by kernel_rfl) (by kernel_rfl) (by kernel_rfl) ?_
    (simp only [List.map_cons, List.map_nil, List.getElem?_cons_zero, List.getElem?_cons_succ, Option.getD_some]); (repeat (go_big_quiet_step (fail))); (refine wpQuiet_nil ?_)
    refine stage_call _ 1 7 (by kernel_rfl) (by rfl) (by kernel_rfl) (by rfl) ?_
    go_wp2_with fail
    refine C2.mono ?_
    rintro e w1 ⟨rfl, hb1⟩
    refine ⟨hb1, ?_⟩
    have B1 := Lib.hid (HB.out.drew.trans (hb1.mono HB.out.size))
    have hX1 := fun (x : Ext w1) (bb o : Nat) (h : bb < w1.heap.size) => x.cell bb o h
    refine stage_seg _ 0 [8] (by kernel_rfl) (by kernel_rfl) (by kernel_rfl) (by kernel_rfl) ?_
    (simp only [List.map_cons, List.map_nil, List.getElem?_cons_zero, List.getElem?_cons_succ, Option.getD_some]); (repeat (go_big_quiet_step (fail))); (refine wpQuiet_nil ?_)
    refine stage_end (by kernel_rfl) ?_
    clear hX hX1 C2 hb1
    go_wp2_with fail
    go_ret
    exact ⟨rfl, B1.out⟩
  · rw [byV_link hk]
    have e : legX nn ls x (l, u :: r) = decide (l.a = x) := by unfold legX; dsimp only; rw [if_neg (by omega)]
    rw [e]
    clear e hk hS
    obtain ⟨k, a⟩ := l
    dsimp only at *
    have hta := assert_node
    have htb := assert_link
    have htc := assert_miss
    go_enter Tryz.func20, Tryz.ntmps20
    go_wp2_with fail
    go_ret
    exact ⟨rfl, by (repeat (first | exact Below.refl _ _ | (refine Below.alloc ?_ (by first | exact Nat.le_refl _ | omega | (simp; done) | (simp; omega)) _) | (refine Below.setCell ?_ (by first | exact Nat.le_refl _ | omega | (simp; done) | (simp; omega)) _) | exact Below.drew ‹_›))⟩


theorem Slg.head {w : World} {B : Nat} {A : Option Addr} {gs : List Lg} (h : Slg w B A gs) {k : Nat} {x : Lg} (hk : gs[k]? = some x) {u : Int} {r : List Int} (hp : x.p = u :: r) :
    ∃ g o, x.A = some ⟨g, o, none⟩ ∧ g < B ∧ w.cell? ⟨g, o, none⟩ = some (.int .i64 u) := by
  obtain ⟨b, off, e, hb, h1, h2, h3, h4⟩ := h k x hk
  obtain ⟨g, o, eA, hg, hc⟩ := h3 0 u (by rw [hp]; rfl)
  exact ⟨g, o, eA, hg, by simpa using hc⟩

set_option maxRecDepth 100000 in
theorem crF_any (nn : Int) (A : Option Addr) (ls : List Lk) (c : Nat) (x : Int) (G K : Nat) (l : Lb) (u : Int) (r : List Int) (g o c' : Nat) (w : World) (hk : l.k = 1 ∨ l.k = 2) (hm : ls.length ≤ 2000000) (hS : Sl w w.heap.size A ls) (hG : Box w G 25 #[.int .i64 nn, .slice A ls.length c]) (hK : Box w K 3 #[.int .i64 x]) (hg : g < w.heap.size) (hu : w.cell? ⟨g, o, none⟩ = some (.int .i64 u)) :
   Calls Tryz.prog 19 #[.agg #[byV l, .slice (some ⟨g, o, none⟩) (r.length + 1) c'], .pointer (some ⟨G, 0, none⟩), .pointer (some ⟨K, 0, none⟩)] w fun e w' => e = .returned (.bool (legX nn ls x (l, u :: r))) ∧ Below w.heap.size w w' := by
  have B0 : Below w.heap.size w (w.alloc (.cells #[byV l, .slice (some ⟨g, o, none⟩) (r.length + 1) c'] 55)) := by (repeat (first | exact Below.refl _ _ | (refine Below.alloc ?_ (by first | exact Nat.le_refl _ | omega | (simp; done) | (simp; omega)) _) | (refine Below.setCell ?_ (by first | exact Nat.le_refl _ | omega | (simp; done) | (simp; omega)) _) | exact Below.drew ‹_›))
  have C1 := mayCross_any nn A ls c x l u r g o c' _ hk hm ((hS.below B0).more B0.size) (Nat.lt_of_lt_of_le hg B0.size) ((B0.cell (p := ⟨g, o, none⟩) hg).trans hu)
  have HB := Lib.hid B0
  obtain ⟨z0, e0, e1, -, -⟩ := hG.two
  have d0 : w.cell? ⟨K, 0, none⟩ = some (.int .i64 x) := hK.cell 0
  have z1 := hK.lt
  clear hS hG hK hu B0
  have hbv := byV_iface l
  generalize byV l = bv at *
  obtain ⟨T, v0, rfl⟩ := hbv
  go_enter Tryz.func19, Tryz.ntmps19
  go_wp2_with (go_at_call 20; refine C1.mono ?_; clear C1; rintro e w1 ⟨rfl, hb1⟩; have B1 := Lib.hid (HB.out.trans (hb1.mono HB.out.size)); clear hb1)
  go_ret
  exact ⟨rfl, B1.out⟩

theorem any_lp {gs : List Lg} {xs : List (Lb × List Int)} (h : gs.map Lg.lp = xs) (f : Lb × List Int → Bool) : gs.any (fun x => f x.lp) = xs.any f := by
  rw [← h, List.any_map]; rfl

set_option maxRecDepth 100000 in
set_option maxHeartbeats 800000 in
theorem stackCrosses_impl (nn : Int) (A : Option Addr) (ls : List Lk) (c : Nat) (s : Int) (B : Option Addr) (st : List Lb) (cb : Nat) (x : Int) (w : World) (hm : ls.length ≤ 2000000) (hmb : st.length ≤ 2000000) (hS : Sl w w.heap.size A ls) (hT : Slb w w.heap.size B st) :
   Calls Tryz.prog 9 #[gval nn A ls.length c, .int .i64 s, .slice B st.length cb, .int .i64 x] w fun e w' => e = .returned (.bool (crossS nn ls s st x)) ∧ Below w.heap.size w w' := by
  have B0 : Below w.heap.size w ((w.alloc (.cells #[.int .i64 nn, .slice A ls.length c] 25)).alloc (.cells #[.int .i64 x] 3)) := by (repeat (first | exact Below.refl _ _ | (refine Below.alloc ?_ (by first | exact Nat.le_refl _ | omega | (simp; done) | (simp; omega)) _) | (refine Below.setCell ?_ (by first | exact Nat.le_refl _ | omega | (simp; done) | (simp; omega)) _) | exact Below.drew ‹_›))
  have C1 := legs_any nn A ls c s B st cb _ hm hmb ((hS.below B0).more B0.size) (hT.grow B0)
  have HG := Lib.hid ((Box.new w 25 #[.int .i64 nn, .slice A ls.length c]).alloc (.cells #[.int .i64 x] 3))
  have L0 := Box.new (w.alloc (.cells #[.int .i64 nn, .slice A ls.length c] 25)) 3 #[.int .i64 x]
  rw [World.size_alloc] at L0
  have HK := Lib.hid L0
  have HB := Lib.hid B0
  have HS := Lib.hid hS
  clear hS hT B0 L0
  have HCS : Hid (crossS nn ls s st x = ((endI nn ls s st).isSome && (legsO nn ls s st).any (legX nn ls x))) := Lib.hid rfl
  generalize crossS nn ls s st x = q at *
  go_enter Tryz.func9, Tryz.ntmps9
  go_wp2_with fail
  refine C1.mono ?_
  clear C1
  rintro e w1 (⟨hok, A1, gs, c1, rfl, hmap, hsl, hb1⟩ | ⟨hok, rfl, hb1⟩)
  · obtain ⟨n, z, rfl, hg, hs, h8, -, -⟩ := endI_inv hok
    have B1 := Lib.hid (HB.out.trans (hb1.mono HB.out.size))
    have G1 := Lib.hid (HG.out.below hb1 HG.out.lt)
    have K1 := Lib.hid (HK.out.below hb1 HK.out.lt)
    have S1 := Lib.hid ((HS.out.below B1.out).more B1.out.size)
    have hgl : gs.length ≤ 8 := by
      have := congrArg List.length hmap
      rw [List.length_map] at this
      have := legsO_len (n : Int) ls st s
      omega
    have CF := cfl_cr gs (fun y => legX (n : Int) ls x y.lp) A1 c1 w.heap.size (w.heap.size + 1) w1 hgl hsl (fun k y W hk hb hX => by
      obtain ⟨u, hu, e1, e2⟩ := legsO_mem hg hs y.lp (by rw [← hmap]; exact List.mem_map_of_mem (List.mem_of_getElem? hk))
      have hkk := leg_kind (by rw [← e1]; exact e2)
      obtain ⟨l, p, A', g', c'⟩ := y
      dsimp only [Lg.lp] at *
      cases p with
      | nil => exact absurd rfl e2
      | cons v r =>
        obtain ⟨g, o, rfl, hgB, hcell⟩ := hX.head hk rfl
        exact crF_any (n : Int) A ls c x _ _ l v r g o c' W hkk hm ((S1.out.below hb).more hb.size) (G1.out.below hb G1.out.lt) (K1.out.below hb K1.out.lt) hgB hcell)
    rw [any_lp hmap] at CF
    have HQ : Hid (q = (legsO (n : Int) ls s st).any (legX (n : Int) ls x)) := Lib.hid (by rw [HCS.out, hok]; rfl)
    generalize (legsO (n : Int) ls s st).any (legX (n : Int) ls x) = q' at *
    clear hok hmap hsl hb1 HB HG HK hg HCS
    go_wp2_with (go_at_call 18; refine CF.mono ?_; clear CF; rintro e w2 ⟨rfl, hb2⟩; have B2 := Lib.hid (B1.out.trans (hb2.mono B1.out.size)); clear hb2)
    go_ret
    exact ⟨ret_bool HQ.out.symm, B2.out⟩
  · have B1 := Lib.hid (HB.out.trans (hb1.mono HB.out.size))
    have HQ : Hid (q = false) := Lib.hid (by rw [HCS.out, hok]; rfl)
    clear hok hb1 HB HCS
    go_wp2_with fail
    go_ret
    exact ⟨ret_bool HQ.out.symm, B1.out⟩


end Go.Proofs.YtenlofomkchlaabGreatDoor

/-
  Contracts over this seat: the specification's StackEnd, StackPath and StackCost.
-/
namespace Go.Proofs.YtenlofomkchlaabGreatDoor
open Go.RowKit Go.Maps

theorem endI_none {nn : Int} {ls : List Lk} {s : Int} {st : List Lb} (h : (endI nn ls s st).isSome = false) : endI nn ls s st = none := by
  cases he : endI nn ls s st with
  | none => rfl
  | some z => rw [he] at h; cases h


/-- A slice that reads as numbers, wherever it begins. -/
def SlicI (xs : List Int) (w : World) (e : Ending) (w' : World) : Prop :=
  ∃ g o c, e = .returned (.slice (some ⟨g, o, none⟩) xs.length c) ∧ (∀ (i : Nat) (u : Int), xs[i]? = some u → w'.cell? ⟨g, o + i, none⟩ = some (.int .i64 u)) ∧ Below w.heap.size w w'


end Go.Proofs.YtenlofomkchlaabGreatDoor

/-
  Contracts over this seat: the specification's StackPath.
-/
namespace Go.Proofs.YtenlofomkchlaabGreatDoor
open Go.RowKit Go.Maps

/-- The nodes of the first k labels. -/
def pthK (nn : Int) (ls : List Lk) (s : Int) (st : List Lb) (k : Nat) : List Int := s :: pthO nn ls s (st.take k)


end Go.Proofs.YtenlofomkchlaabGreatDoor

/-
  Contracts over this seat: the specification's StackCost.
-/
namespace Go.Proofs.YtenlofomkchlaabGreatDoor
open Go.RowKit Go.Maps

theorem legsC_bound {n : Nat} {ls : List Lk} (hg : gvB (n : Int) ls = true) {st : List Lb} : ∀ {s : Int}, 0 ≤ s ∧ s < (n : Int) → 0 ≤ legsC (n : Int) ls s st ∧ legsC (n : Int) ls s st ≤ 160 * st.length := by
  obtain ⟨hf, hn1, hn8, hl14⟩ := gvB_fit hg
  induction st with
  | nil => intro s _; simp [legsC]
  | cons l st ih =>
    intro s hs
    simp only [legsC]
    cases hz : stepO (n : Int) ls s l with
    | none => simp; omega
    | some u =>
      dsimp only
      have h1 := ih (stepO_node hg hs hz)
      have hne := stepO_leg hz
      obtain ⟨_, _, _, _, hw, h8, _⟩ := leg_fact hg hs hne
      have h2 := along_bound hg hw
      rw [leg_along hg hs hz] at h2
      simp only [List.length_cons]
      omega
/-- The cost of the first k labels. -/
def cstK (nn : Int) (ls : List Lk) (s : Int) (st : List Lb) (k : Nat) : Int := legsC nn ls s (st.take k)
theorem costS_legs {nn : Int} {ls : List Lk} {s : Int} {st : List Lb} (h : (endI nn ls s st).isSome = true) : costS nn ls s st = cstK nn ls s st st.length := by
  obtain ⟨n, z, rfl, hg, hs, h8, he, -⟩ := endI_inv h
  unfold costS cstK
  rw [if_pos h, along_legs hg hs he, List.take_length]


end Go.Proofs.YtenlofomkchlaabGreatDoor

/-
  Contracts over this seat: the specification's StackCrosses and StackUnique.
-/
namespace Go.Proofs.YtenlofomkchlaabGreatDoor
open Go.RowKit Go.Maps

theorem legsO_full {nn : Int} {ls : List Lk} {st : List Lb} : ∀ {s z : Int}, endO nn ls s st = some z → (legsO nn ls s st).length = st.length := by
  induction st with
  | nil => intro s z _; rfl
  | cons l st ih =>
    intro s z h
    simp only [endO] at h
    simp only [legsO]
    cases hz : stepO nn ls s l with
    | none => rw [hz] at h; cases h
    | some u =>
      rw [hz] at h
      simp only [List.length_cons]
      rw [ih h]
theorem legsO_at {nn : Int} {ls : List Lk} {s z : Int} {st : List Lb} (he : endO nn ls s st = some z) {k : Nat} {x : Int} {l : Lb} (hx : endO nn ls s (st.take k) = some x) (hl : st[k]? = some l) : (legsO nn ls s st)[k]? = some (l, legP nn ls x l) := by
  have hk := (List.getElem?_eq_some_iff.1 hl).1
  obtain ⟨y, hy⟩ := endO_upto he (k + 1)
  have hs : stepO nn ls x l = some y := by rw [← endO_next hx hl]; exact hy
  have h1 := legsO_next hx hl hs
  have h2 := legsO_append (nn := nn) (ls := ls) (st.drop (k + 1)) hy
  rw [List.take_append_drop] at h2
  have h3 : (legsO nn ls s (st.take k)).length = k := by rw [legsO_full hx]; simp; omega
  rw [h2, h1, List.append_assoc, List.getElem?_append_right (by omega), h3]
  simp


theorem legU_count {n : Nat} {ls : List Lk} (hg : gvB (n : Int) ls = true) {x y : Int} (hx : 0 ≤ x ∧ x < (n : Int)) (hy : 0 ≤ y ∧ y < (n : Int)) (h0 : 0 ≤ bf (n : Int) ls x y) {g : Lb × List Int} (hk : g.1.k = 1) (ha : g.1.a = y) (hd : g.2.headD 0 = x) :
    legU (n : Int) ls g = !decide (((cntL n ls x y : Nat) : Int) = 1) := by
  unfold legU
  rw [if_pos hk, hd, ha]
  unfold countI
  rw [if_pos (vwB_of hg hx hy), Int.toNat_natCast]
  have hf := (gvB_fit hg).1
  have h1 := (cntL_pos hg hy _ x hx (Nat.le_refl _)).2 (by rw [bf_symm hf hy hx]; exact h0)
  by_cases h : ((cntL n ls x y : Nat) : Int) = 1
  · simp [h]
  · have : 1 < ((cntL n ls x y : Nat) : Int) := by omega
    rw [decide_eq_true this, decide_eq_false h]
    rfl


end Go.Proofs.YtenlofomkchlaabGreatDoor
