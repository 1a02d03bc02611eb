/-
  Contracts over this seat: the program's StackCrosses and StackUnique.
-/
import Derived.Test.YtblmmmeeljidiabCfl
import Derived.Test.YtblmmmeeljidiabUs
import Derived.Test.YtblmmmeeljidiabHc
import Derived.Test.YtblmmmeeljidiabRg
namespace Go.Proofs.Ytblmmmeeljidiab
open Go.RowKit Go.Maps

/-- May a packet cross the link x on this leg? -/
def legX (nn : Int) (ls : List Lk) (x : Int) (g : Lb × List Int) : Bool := if g.1.k = 1 then usedB nn ls (g.2.headD 0) g.1.a x else decide (g.1.a = x)
/-- Is there only one way on this leg? -/
def legU (nn : Int) (ls : List Lk) (g : Lb × List Int) : Bool := if g.1.k = 1 then decide (1 < countI nn ls (g.2.headD 0) g.1.a) else false
def crossS (nn : Int) (ls : List Lk) (s : Int) (st : List Lb) (x : Int) : Bool := (endI nn ls s st).isSome && (legsO nn ls s st).any (legX nn ls x)
def uniqS (nn : Int) (ls : List Lk) (s : Int) (st : List Lb) : Bool := (endI nn ls s st).isSome && !(legsO nn ls s st).any (legU nn ls)

theorem assert_node (v : Value) (w : World) : Sem.run Try.prog (Instr.typeAssert (.iface 97 v) 61 97 true) w = .ok (.tuple #[v, .bool true]) w := by
  have hu := Try.underlying97
  unfold Instr.typeAssert
  simp [go_sem, hu, Go.underlying]
theorem assert_link (v : Value) (w : World) : Sem.run Try.prog (Instr.typeAssert (.iface 98 v) 61 98 true) w = .ok (.tuple #[v, .bool true]) w := by
  have hu := Try.underlying98
  unfold Instr.typeAssert
  simp [go_sem, hu, Go.underlying]
theorem assert_miss (v : Value) (w : World) : Sem.run Try.prog (Instr.typeAssert (.iface 98 v) 61 97 true) w = .ok (.tuple #[.int .i64 0, .bool false]) w := by
  have hu := Try.underlying97
  unfold Instr.typeAssert
  simp [go_sem, hu, Go.underlying]

set_option maxRecDepth 100000 in
set_option maxHeartbeats 800000 in
theorem mayCross_any (nn : Int) (A : Option Addr) (ls : List Lk) (c : Nat) (x : Int) (l : Lb) (u : Int) (r : List Int) (g o c' : Nat) (w : World) (hk : l.k = 1 ∨ l.k = 2) (hm : ls.length ≤ 2000000) (hS : Sl w w.heap.size A ls) (hg : g < w.heap.size) (hu : w.cell? ⟨g, o, none⟩ = some (.int .i64 u)) :
   Calls Try.prog 46 #[.agg #[byV l, .slice (some ⟨g, o, none⟩) (r.length + 1) c'], gval nn A ls.length c, .int .i64 x] w fun e w' => e = .returned (.bool (legX nn ls x (l, u :: r))) ∧ Below w.heap.size w w' := by
  rcases hk with hk | hk
  · rw [byV_node hk]
    have e : legX nn ls x (l, u :: r) = usedB nn ls u l.a x := by unfold legX; rw [if_pos hk]; rfl
    rw [e]
    have B0 : Below w.heap.size w ((w.alloc (.cells #[.iface 97 (.int .i64 l.a), .slice (some ⟨g, o, none⟩) (r.length + 1) c'] 63)).alloc (.cells #[.int .i64 nn, .slice A ls.length c] 25)) := by (repeat (first | exact Below.refl _ _ | (refine Below.alloc ?_ (by first | exact Nat.le_refl _ | omega | (simp; done) | (simp; omega)) _) | (refine Below.setCell ?_ (by first | exact Nat.le_refl _ | omega | (simp; done) | (simp; omega)) _) | exact Below.drew ‹_›))
    have C1 := fun W (h : Sl W W.heap.size A ls) => used_impl nn A ls c u l.a x W hm h
    have HS := Lib.hid ((hS.below B0).more B0.size)
    have HB := Lib.hid B0
    have L0 := Lib.hid ((Box.new w 63 #[.iface 97 (.int .i64 l.a), .slice (some ⟨g, o, none⟩) (r.length + 1) c']).alloc (.cells #[.int .i64 nn, .slice A ls.length c] 25))
    have G0' := Box.new (w.alloc (.cells #[.iface 97 (.int .i64 l.a), .slice (some ⟨g, o, none⟩) (r.length + 1) c'] 63)) 25 #[.int .i64 nn, .slice A ls.length c]
    rw [World.size_alloc] at G0'
    have G0 := Lib.hid G0'
    have hu0 := (B0.cell (p := ⟨g, o, none⟩) hg).trans hu
    have hg0 := Nat.lt_of_lt_of_le hg B0.size
    clear hS B0 e hk G0'
    generalize usedB nn ls u l.a x = q at *
    obtain ⟨k, a⟩ := l
    dsimp only at *
    have hta := assert_node
    have htb := assert_link
    have htc := assert_miss
    go_enter Try.func46, Try.ntmps46
    go_wp2_with fail
    generalize (w.alloc (.cells #[.iface 97 (.int .i64 a), .slice (some ⟨g, o, none⟩) (r.length + 1) c'] 63)).alloc (.cells #[.int .i64 nn, .slice A ls.length c] 25) = W0 at *
    obtain ⟨z0, e0, e1, -, -⟩ := G0.out.two
    obtain ⟨z1, d0, d1, -, -⟩ := L0.out.two
    have C2 := C1 W0.drew HS.out
    clear C1
    have hX := fun (x : Ext W0.drew) (bb o : Nat) (h : bb < W0.heap.size) => (show x.w.cell? ⟨bb, o, none⟩ = W0.cell? ⟨bb, o, none⟩ from x.cell bb o h)
    refine wp_region_staged 9 (by kernel_rfl) (by kernel_rfl) ?_
    refine stage_seg _ 2 [0, 1, 2, 3, 4, 5, 6] (by kernel_rfl) (by kernel_rfl) (by kernel_rfl) (by kernel_rfl) ?_
    (simp only [List.map_cons, List.map_nil, List.getElem?_cons_zero, List.getElem?_cons_succ, Option.getD_some]); (repeat (go_big_quiet_step (fail))); (refine wpQuiet_nil ?_)
    refine stage_call _ 1 7 (by kernel_rfl) (by rfl) (by kernel_rfl) (by rfl) ?_
    go_wp2_with fail
    refine C2.mono ?_
    rintro e w1 ⟨rfl, hb1⟩
    refine ⟨hb1, ?_⟩
    have B1 := Lib.hid (HB.out.drew.trans (hb1.mono HB.out.size))
    have hX1 := fun (x : Ext w1) (bb o : Nat) (h : bb < w1.heap.size) => x.cell bb o h
    refine stage_seg _ 0 [8] (by kernel_rfl) (by kernel_rfl) (by kernel_rfl) (by kernel_rfl) ?_
    (simp only [List.map_cons, List.map_nil, List.getElem?_cons_zero, List.getElem?_cons_succ, Option.getD_some]); (repeat (go_big_quiet_step (fail))); (refine wpQuiet_nil ?_)
    refine stage_end (by kernel_rfl) ?_
    clear hX hX1 C2 hb1
    go_wp2_with fail
    go_ret
    exact ⟨rfl, B1.out⟩
  · rw [byV_link hk]
    have e : legX nn ls x (l, u :: r) = decide (l.a = x) := by unfold legX; dsimp only; rw [if_neg (by omega)]
    rw [e]
    clear e hk hS
    obtain ⟨k, a⟩ := l
    dsimp only at *
    have hta := assert_node
    have htb := assert_link
    have htc := assert_miss
    go_enter Try.func46, Try.ntmps46
    go_wp2_with fail
    go_ret
    exact ⟨rfl, by (repeat (first | exact Below.refl _ _ | (refine Below.alloc ?_ (by first | exact Nat.le_refl _ | omega | (simp; done) | (simp; omega)) _) | (refine Below.setCell ?_ (by first | exact Nat.le_refl _ | omega | (simp; done) | (simp; omega)) _) | exact Below.drew ‹_›))⟩

set_option maxRecDepth 100000 in
set_option maxHeartbeats 800000 in
theorem ways_any (nn : Int) (A : Option Addr) (ls : List Lk) (c : Nat) (l : Lb) (u : Int) (r : List Int) (g o c' : Nat) (w : World) (hk : l.k = 1 ∨ l.k = 2) (hm : ls.length ≤ 2000000) (hS : Sl w w.heap.size A ls) (hg : g < w.heap.size) (hu : w.cell? ⟨g, o, none⟩ = some (.int .i64 u)) :
   Calls Try.prog 54 #[.agg #[byV l, .slice (some ⟨g, o, none⟩) (r.length + 1) c'], gval nn A ls.length c] w fun e w' => (∃ q, e = .returned (.int .i64 q) ∧ legU nn ls (l, u :: r) = decide (1 < q)) ∧ Below w.heap.size w w' := by
  rcases hk with hk | hk
  · rw [byV_node hk]
    have e : legU nn ls (l, u :: r) = decide (1 < countI nn ls u l.a) := by unfold legU; rw [if_pos hk]; rfl
    rw [e]
    have B0 : Below w.heap.size w ((w.alloc (.cells #[.iface 97 (.int .i64 l.a), .slice (some ⟨g, o, none⟩) (r.length + 1) c'] 63)).alloc (.cells #[.int .i64 nn, .slice A ls.length c] 25)) := by (repeat (first | exact Below.refl _ _ | (refine Below.alloc ?_ (by first | exact Nat.le_refl _ | omega | (simp; done) | (simp; omega)) _) | (refine Below.setCell ?_ (by first | exact Nat.le_refl _ | omega | (simp; done) | (simp; omega)) _) | exact Below.drew ‹_›))
    have C1 := fun W (h : Sl W W.heap.size A ls) => count_impl nn A ls c u l.a W hm h
    have HS := Lib.hid ((hS.below B0).more B0.size)
    have HB := Lib.hid B0
    have L0 := Lib.hid ((Box.new w 63 #[.iface 97 (.int .i64 l.a), .slice (some ⟨g, o, none⟩) (r.length + 1) c']).alloc (.cells #[.int .i64 nn, .slice A ls.length c] 25))
    have G0' := Box.new (w.alloc (.cells #[.iface 97 (.int .i64 l.a), .slice (some ⟨g, o, none⟩) (r.length + 1) c'] 63)) 25 #[.int .i64 nn, .slice A ls.length c]
    rw [World.size_alloc] at G0'
    have G0 := Lib.hid G0'
    have hu0 := (B0.cell (p := ⟨g, o, none⟩) hg).trans hu
    have hg0 := Nat.lt_of_lt_of_le hg B0.size
    clear hS B0 e hk G0'
    generalize countI nn ls u l.a = q at *
    obtain ⟨k, a⟩ := l
    dsimp only at *
    have hta := assert_node
    go_enter Try.func54, Try.ntmps54
    go_wp2_with fail
    generalize (w.alloc (.cells #[.iface 97 (.int .i64 a), .slice (some ⟨g, o, none⟩) (r.length + 1) c'] 63)).alloc (.cells #[.int .i64 nn, .slice A ls.length c] 25) = W0 at *
    obtain ⟨z0, e0, e1, -, -⟩ := G0.out.two
    obtain ⟨z1, d0, d1, -, -⟩ := L0.out.two
    have C2 := C1 W0.drew HS.out
    clear C1
    have hX := fun (x : Ext W0.drew) (bb o : Nat) (h : bb < W0.heap.size) => (show x.w.cell? ⟨bb, o, none⟩ = W0.cell? ⟨bb, o, none⟩ from x.cell bb o h)
    refine wp_region_staged 8 (by kernel_rfl) (by kernel_rfl) ?_
    refine stage_seg _ 2 [0, 1, 2, 3, 4, 5] (by kernel_rfl) (by kernel_rfl) (by kernel_rfl) (by kernel_rfl) ?_
    (simp only [List.map_cons, List.map_nil, List.getElem?_cons_zero, List.getElem?_cons_succ, Option.getD_some]); (repeat (go_big_quiet_step (fail))); (refine wpQuiet_nil ?_)
    refine stage_call _ 1 6 (by kernel_rfl) (by rfl) (by kernel_rfl) (by rfl) ?_
    go_wp2_with fail
    refine C2.mono ?_
    rintro e w1 ⟨rfl, hb1⟩
    refine ⟨hb1, ?_⟩
    have B1 := Lib.hid (HB.out.drew.trans (hb1.mono HB.out.size))
    have hX1 := fun (x : Ext w1) (bb o : Nat) (h : bb < w1.heap.size) => x.cell bb o h
    refine stage_seg _ 0 [7] (by kernel_rfl) (by kernel_rfl) (by kernel_rfl) (by kernel_rfl) ?_
    (simp only [List.map_cons, List.map_nil, List.getElem?_cons_zero, List.getElem?_cons_succ, Option.getD_some]); (repeat (go_big_quiet_step (fail))); (refine wpQuiet_nil ?_)
    refine stage_end (by kernel_rfl) ?_
    clear hX hX1 C2 hb1
    go_wp2_with fail
    go_ret
    exact ⟨⟨q, rfl, rfl⟩, B1.out⟩
  · rw [byV_link hk]
    have e : legU nn ls (l, u :: r) = false := by unfold legU; dsimp only; rw [if_neg (by omega)]
    rw [e]
    clear e hk hS
    obtain ⟨k, a⟩ := l
    dsimp only at *
    have htc := assert_miss
    go_enter Try.func54, Try.ntmps54
    go_wp2_with fail
    go_ret
    exact ⟨⟨1, rfl, rfl⟩, by (repeat (first | exact Below.refl _ _ | (refine Below.alloc ?_ (by first | exact Nat.le_refl _ | omega | (simp; done) | (simp; omega)) _) | (refine Below.setCell ?_ (by first | exact Nat.le_refl _ | omega | (simp; done) | (simp; omega)) _) | exact Below.drew ‹_›))⟩

theorem Slg.head {w : World} {B : Nat} {A : Option Addr} {gs : List Lg} (h : Slg w B A gs) {k : Nat} {x : Lg} (hk : gs[k]? = some x) {u : Int} {r : List Int} (hp : x.p = u :: r) :
    ∃ g o, x.A = some ⟨g, o, none⟩ ∧ g < B ∧ w.cell? ⟨g, o, none⟩ = some (.int .i64 u) := by
  obtain ⟨b, off, e, hb, h1, h2, h3, h4⟩ := h k x hk
  obtain ⟨g, o, eA, hg, hc⟩ := h3 0 u (by rw [hp]; rfl)
  exact ⟨g, o, eA, hg, by simpa using hc⟩

set_option maxRecDepth 100000 in
theorem crF_any (nn : Int) (A : Option Addr) (ls : List Lk) (c : Nat) (x : Int) (G K : Nat) (l : Lb) (u : Int) (r : List Int) (g o c' : Nat) (w : World) (hk : l.k = 1 ∨ l.k = 2) (hm : ls.length ≤ 2000000) (hS : Sl w w.heap.size A ls) (hG : Box w G 25 #[.int .i64 nn, .slice A ls.length c]) (hK : Box w K 3 #[.int .i64 x]) (hg : g < w.heap.size) (hu : w.cell? ⟨g, o, none⟩ = some (.int .i64 u)) :
   Calls Try.prog 45 #[.agg #[byV l, .slice (some ⟨g, o, none⟩) (r.length + 1) c'], .pointer (some ⟨G, 0, none⟩), .pointer (some ⟨K, 0, none⟩)] w fun e w' => e = .returned (.bool (legX nn ls x (l, u :: r))) ∧ Below w.heap.size w w' := by
  have B0 : Below w.heap.size w (w.alloc (.cells #[byV l, .slice (some ⟨g, o, none⟩) (r.length + 1) c'] 63)) := by (repeat (first | exact Below.refl _ _ | (refine Below.alloc ?_ (by first | exact Nat.le_refl _ | omega | (simp; done) | (simp; omega)) _) | (refine Below.setCell ?_ (by first | exact Nat.le_refl _ | omega | (simp; done) | (simp; omega)) _) | exact Below.drew ‹_›))
  have C1 := mayCross_any nn A ls c x l u r g o c' _ hk hm ((hS.below B0).more B0.size) (Nat.lt_of_lt_of_le hg B0.size) ((B0.cell (p := ⟨g, o, none⟩) hg).trans hu)
  have HB := Lib.hid B0
  obtain ⟨z0, e0, e1, -, -⟩ := hG.two
  have d0 : w.cell? ⟨K, 0, none⟩ = some (.int .i64 x) := hK.cell 0
  have z1 := hK.lt
  clear hS hG hK hu B0
  have hbv := byV_iface l
  generalize byV l = bv at *
  obtain ⟨T, v0, rfl⟩ := hbv
  go_enter Try.func45, Try.ntmps45
  go_wp2_with (go_at_call 46; refine C1.mono ?_; clear C1; rintro e w1 ⟨rfl, hb1⟩; have B1 := Lib.hid (HB.out.trans (hb1.mono HB.out.size)); clear hb1)
  go_ret
  exact ⟨rfl, B1.out⟩
set_option maxRecDepth 100000 in
theorem unF_any (nn : Int) (A : Option Addr) (ls : List Lk) (c : Nat) (G : Nat) (l : Lb) (u : Int) (r : List Int) (g o c' : Nat) (w : World) (hk : l.k = 1 ∨ l.k = 2) (hm : ls.length ≤ 2000000) (hS : Sl w w.heap.size A ls) (hG : Box w G 25 #[.int .i64 nn, .slice A ls.length c]) (hg : g < w.heap.size) (hu : w.cell? ⟨g, o, none⟩ = some (.int .i64 u)) :
   Calls Try.prog 53 #[.agg #[byV l, .slice (some ⟨g, o, none⟩) (r.length + 1) c'], .pointer (some ⟨G, 0, none⟩)] w fun e w' => e = .returned (.bool (legU nn ls (l, u :: r))) ∧ Below w.heap.size w w' := by
  have B0 : Below w.heap.size w (w.alloc (.cells #[byV l, .slice (some ⟨g, o, none⟩) (r.length + 1) c'] 63)) := by (repeat (first | exact Below.refl _ _ | (refine Below.alloc ?_ (by first | exact Nat.le_refl _ | omega | (simp; done) | (simp; omega)) _) | (refine Below.setCell ?_ (by first | exact Nat.le_refl _ | omega | (simp; done) | (simp; omega)) _) | exact Below.drew ‹_›))
  have C1 := ways_any nn A ls c l u r g o c' _ hk hm ((hS.below B0).more B0.size) (Nat.lt_of_lt_of_le hg B0.size) ((B0.cell (p := ⟨g, o, none⟩) hg).trans hu)
  have HB := Lib.hid B0
  obtain ⟨z0, e0, e1, -, -⟩ := hG.two
  clear hS hG hu B0
  have hbv := byV_iface l
  generalize byV l = bv at *
  obtain ⟨T, v0, rfl⟩ := hbv
  go_enter Try.func53, Try.ntmps53
  go_wp2_with (go_at_call 54; refine C1.mono ?_; clear C1; rintro e w1 ⟨⟨q, rfl, hq⟩, hb1⟩; have HQ := Lib.hid hq; have B1 := Lib.hid (HB.out.trans (hb1.mono HB.out.size)); clear hb1 hq)
  go_ret
  exact ⟨ret_bool HQ.out.symm, B1.out⟩

theorem any_lp {gs : List Lg} {xs : List (Lb × List Int)} (h : gs.map Lg.lp = xs) (f : Lb × List Int → Bool) : gs.any (fun x => f x.lp) = xs.any f := by
  rw [← h, List.any_map]; rfl

set_option maxRecDepth 100000 in
set_option maxHeartbeats 800000 in
theorem stackCrosses_impl (nn : Int) (A : Option Addr) (ls : List Lk) (c : Nat) (s : Int) (B : Option Addr) (st : List Lb) (cb : Nat) (x : Int) (w : World) (hm : ls.length ≤ 2000000) (hmb : st.length ≤ 2000000) (hS : Sl w w.heap.size A ls) (hT : Slb w w.heap.size B st) :
   Calls Try.prog 24 #[gval nn A ls.length c, .int .i64 s, .slice B st.length cb, .int .i64 x] w fun e w' => e = .returned (.bool (crossS nn ls s st x)) ∧ Below w.heap.size w w' := by
  have B0 : Below w.heap.size w ((w.alloc (.cells #[.int .i64 nn, .slice A ls.length c] 25)).alloc (.cells #[.int .i64 x] 3)) := by (repeat (first | exact Below.refl _ _ | (refine Below.alloc ?_ (by first | exact Nat.le_refl _ | omega | (simp; done) | (simp; omega)) _) | (refine Below.setCell ?_ (by first | exact Nat.le_refl _ | omega | (simp; done) | (simp; omega)) _) | exact Below.drew ‹_›))
  have C1 := legs_any nn A ls c s B st cb _ hm hmb ((hS.below B0).more B0.size) (hT.grow B0)
  have HG := Lib.hid ((Box.new w 25 #[.int .i64 nn, .slice A ls.length c]).alloc (.cells #[.int .i64 x] 3))
  have L0 := Box.new (w.alloc (.cells #[.int .i64 nn, .slice A ls.length c] 25)) 3 #[.int .i64 x]
  rw [World.size_alloc] at L0
  have HK := Lib.hid L0
  have HB := Lib.hid B0
  have HS := Lib.hid hS
  clear hS hT B0 L0
  have HCS : Hid (crossS nn ls s st x = ((endI nn ls s st).isSome && (legsO nn ls s st).any (legX nn ls x))) := Lib.hid rfl
  generalize crossS nn ls s st x = q at *
  go_enter Try.func24, Try.ntmps24
  go_wp2_with fail
  refine C1.mono ?_
  clear C1
  rintro e w1 (⟨hok, A1, gs, c1, rfl, hmap, hsl, hb1⟩ | ⟨hok, rfl, hb1⟩)
  · obtain ⟨n, z, rfl, hg, hs, h8, -, -⟩ := endI_inv hok
    have B1 := Lib.hid (HB.out.trans (hb1.mono HB.out.size))
    have G1 := Lib.hid (HG.out.below hb1 HG.out.lt)
    have K1 := Lib.hid (HK.out.below hb1 HK.out.lt)
    have S1 := Lib.hid ((HS.out.below B1.out).more B1.out.size)
    have hgl : gs.length ≤ 8 := by
      have := congrArg List.length hmap
      rw [List.length_map] at this
      have := legsO_len (n : Int) ls st s
      omega
    have CF := cfl_cr gs (fun y => legX (n : Int) ls x y.lp) A1 c1 w.heap.size (w.heap.size + 1) w1 hgl hsl (fun k y W hk hb hX => by
      obtain ⟨u, hu, e1, e2⟩ := legsO_mem hg hs y.lp (by rw [← hmap]; exact List.mem_map_of_mem (List.mem_of_getElem? hk))
      have hkk := leg_kind (by rw [← e1]; exact e2)
      obtain ⟨l, p, A', g', c'⟩ := y
      dsimp only [Lg.lp] at *
      cases p with
      | nil => exact absurd rfl e2
      | cons v r =>
        obtain ⟨g, o, rfl, hgB, hcell⟩ := hX.head hk rfl
        exact crF_any (n : Int) A ls c x _ _ l v r g o c' W hkk hm ((S1.out.below hb).more hb.size) (G1.out.below hb G1.out.lt) (K1.out.below hb K1.out.lt) hgB hcell)
    rw [any_lp hmap] at CF
    have HQ : Hid (q = (legsO (n : Int) ls s st).any (legX (n : Int) ls x)) := Lib.hid (by rw [HCS.out, hok]; rfl)
    generalize (legsO (n : Int) ls s st).any (legX (n : Int) ls x) = q' at *
    clear hok hmap hsl hb1 HB HG HK hg HCS
    go_wp2_with (go_at_call 44; refine CF.mono ?_; clear CF; rintro e w2 ⟨rfl, hb2⟩; have B2 := Lib.hid (B1.out.trans (hb2.mono B1.out.size)); clear hb2)
    go_ret
    exact ⟨ret_bool HQ.out.symm, B2.out⟩
  · have B1 := Lib.hid (HB.out.trans (hb1.mono HB.out.size))
    have HQ : Hid (q = false) := Lib.hid (by rw [HCS.out, hok]; rfl)
    clear hok hb1 HB HCS
    go_wp2_with fail
    go_ret
    exact ⟨ret_bool HQ.out.symm, B1.out⟩

set_option maxRecDepth 100000 in
set_option maxHeartbeats 800000 in
theorem stackUnique_impl (nn : Int) (A : Option Addr) (ls : List Lk) (c : Nat) (s : Int) (B : Option Addr) (st : List Lb) (cb : Nat) (w : World) (hm : ls.length ≤ 2000000) (hmb : st.length ≤ 2000000) (hS : Sl w w.heap.size A ls) (hT : Slb w w.heap.size B st) :
   Calls Try.prog 29 #[gval nn A ls.length c, .int .i64 s, .slice B st.length cb] w fun e w' => e = .returned (.bool (uniqS nn ls s st)) ∧ Below w.heap.size w w' := by
  have B0 : Below w.heap.size w (w.alloc (.cells #[.int .i64 nn, .slice A ls.length c] 25)) := by (repeat (first | exact Below.refl _ _ | (refine Below.alloc ?_ (by first | exact Nat.le_refl _ | omega | (simp; done) | (simp; omega)) _) | (refine Below.setCell ?_ (by first | exact Nat.le_refl _ | omega | (simp; done) | (simp; omega)) _) | exact Below.drew ‹_›))
  have C1 := legs_any nn A ls c s B st cb _ hm hmb ((hS.below B0).more B0.size) (hT.grow B0)
  have HG := Lib.hid (Box.new w 25 #[.int .i64 nn, .slice A ls.length c])
  have HB := Lib.hid B0
  have HS := Lib.hid hS
  clear hS hT B0
  have HCS : Hid (uniqS nn ls s st = ((endI nn ls s st).isSome && !(legsO nn ls s st).any (legU nn ls))) := Lib.hid rfl
  generalize uniqS nn ls s st = q at *
  go_enter Try.func29, Try.ntmps29
  go_wp2_with fail
  refine C1.mono ?_
  clear C1
  rintro e w1 (⟨hok, A1, gs, c1, rfl, hmap, hsl, hb1⟩ | ⟨hok, rfl, hb1⟩)
  · obtain ⟨n, z, rfl, hg, hs, h8, -, -⟩ := endI_inv hok
    have B1 := Lib.hid (HB.out.trans (hb1.mono HB.out.size))
    have G1 := Lib.hid (HG.out.below hb1 HG.out.lt)
    have S1 := Lib.hid ((HS.out.below B1.out).more B1.out.size)
    have hgl : gs.length ≤ 8 := by
      have := congrArg List.length hmap
      rw [List.length_map] at this
      have := legsO_len (n : Int) ls st s
      omega
    have CF := cfl_un gs (fun y => legU (n : Int) ls y.lp) A1 c1 w.heap.size w1 hgl hsl (fun k y W hk hb hX => by
      obtain ⟨u, hu, e1, e2⟩ := legsO_mem hg hs y.lp (by rw [← hmap]; exact List.mem_map_of_mem (List.mem_of_getElem? hk))
      have hkk := leg_kind (by rw [← e1]; exact e2)
      obtain ⟨l, p, A', g', c'⟩ := y
      dsimp only [Lg.lp] at *
      cases p with
      | nil => exact absurd rfl e2
      | cons v r =>
        obtain ⟨g, o, rfl, hgB, hcell⟩ := hX.head hk rfl
        exact unF_any (n : Int) A ls c _ l v r g o c' W hkk hm ((S1.out.below hb).more hb.size) (G1.out.below hb G1.out.lt) hgB hcell)
    rw [any_lp hmap] at CF
    have HQ : Hid (q = !(legsO (n : Int) ls s st).any (legU (n : Int) ls)) := Lib.hid (by rw [HCS.out, hok]; rfl)
    generalize (legsO (n : Int) ls s st).any (legU (n : Int) ls) = q' at *
    clear hok hmap hsl hb1 HB HG hg HCS
    go_wp2_with (go_at_call 44; refine CF.mono ?_; clear CF; rintro e w2 ⟨rfl, hb2⟩; have B2 := Lib.hid (B1.out.trans (hb2.mono B1.out.size)); clear hb2)
    go_ret
    exact ⟨ret_bool HQ.out.symm, B2.out⟩
  · have B1 := Lib.hid (HB.out.trans (hb1.mono HB.out.size))
    have HQ : Hid (q = false) := Lib.hid (by rw [HCS.out, hok]; rfl)
    clear hok hb1 HB HCS
    go_wp2_with fail
    go_ret
    exact ⟨ret_bool HQ.out.symm, B1.out⟩

end Go.Proofs.Ytblmmmeeljidiab
