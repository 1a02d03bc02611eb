/-
  Contracts over this seat: legs asked one after the other, whether a function holds of one.
-/
import Derived.Test.YtenlofomkchlaabDoorC3
import Derived.Test.YtenlofomkchlaabDoorC2
import Derived.Test.YtenlofomkchlaabDoorC1
namespace Go.Proofs.YtenlofomkchlaabDoor
open Go.RowKit Go.Maps





end Go.Proofs.YtenlofomkchlaabDoor

/-
  Contracts over this seat: the program's StackCost.
-/
namespace Go.Proofs.YtenlofomkchlaabDoor
open Go.RowKit Go.Maps

section
variable {n : Nat} {ls : List Lk}
theorem way_link (hv : gvB (n : Int) ls = true) {a b : Int} (h : ∃ e, Adj ls a b e) : ∃ (j : Nat) (l : Lk), linkI (n : Int) ls a b = (j : Int) ∧ ls[j]? = some l ∧ lcost (n : Int) ls a b = l.c ∧ 1 ≤ l.c ∧ l.c ≤ 20 := by
  obtain ⟨j, l, e1, e2, ha, _, _⟩ := nbI_link hv ((nbI_adj hv).2 h)
  have hb := gvB_at hv e2
  exact ⟨j, l, e1, e2, lcost_eq hv ha, by omega, by omega⟩
theorem Way.tail {x : Int} {xs : List Int} (h : Way ls (x :: xs)) : Way ls xs := fun k a b ha hb => h (k + 1) a b (by simpa using ha) (by simpa using hb)
theorem along_bound (hv : gvB (n : Int) ls = true) {xs : List Int} (h : Way ls xs) : 0 ≤ along (n : Int) ls xs ∧ along (n : Int) ls xs ≤ 20 * xs.length := by
  induction xs with
  | nil => simp [along]
  | cons a r ih =>
    cases r with
    | nil => simp [along]
    | cons b r =>
      have h1 := ih h.tail
      obtain ⟨j, l, _, _, hc, _, _⟩ := way_link hv (h 0 a b rfl rfl)
      simp only [along, List.length_cons] at h1 ⊢
      rw [hc]
      omega
theorem Way.take {xs : List Int} (h : Way ls xs) (d : Nat) : Way ls (xs.take d) := fun k a b ha hb => by
  have hk := (List.getElem?_eq_some_iff.1 hb).1
  have hkd : k + 1 < d := by simp at hk; omega
  rw [List.getElem?_take_of_lt (by omega)] at ha
  rw [List.getElem?_take_of_lt hkd] at hb
  exact h k a b ha hb
end

set_option maxRecDepth 100000 in
set_option maxHeartbeats 1600000 in
theorem costAlong_any (n : Nat) (A : Option Addr) (ls : List Lk) (c : Nat) (X : Option Addr) (xs : List Int) (cx : Nat) (w : World) (hm : ls.length ≤ 2000000) (hv : gvB (n : Int) ls = true) (hw : Way ls xs) (hx0 : 0 < xs.length) (hx : xs.length ≤ 57) (hS : Sl w w.heap.size A ls) (hX : Sli w w.heap.size X xs) :
   Calls Tryd.prog 50 #[gval (n : Int) A ls.length c, .slice X xs.length cx] w fun e w' => e = .returned (.int .i64 (along (n : Int) ls xs)) ∧ Below w.heap.size w w' := by
  have HS := Lib.hid hS
  have HX := Lib.hid hX
  have HB := Lib.hid (show Below w.heap.size w (w.alloc (.cells #[.int .i64 (n : Int), .slice A ls.length c] 31)) by (repeat (first | exact Below.refl _ _ | (refine Below.alloc ?_ (by first | exact Nat.le_refl _ | omega | (simp; done) | (simp; omega)) _) | (refine Below.setCell ?_ (by first | exact Nat.le_refl _ | omega | (simp; done) | (simp; omega)) _) | exact Below.drew ‹_›)))
  have HG := Lib.hid (Box.new w 31 #[.int .i64 (n : Int), .slice A ls.length c])
  have HLK : Hid (∀ (k : Nat) (a b : Int), xs[k]? = some a → xs[k + 1]? = some b → ∃ (j : Nat) (l : Lk), linkI (n : Int) ls a b = (j : Int) ∧ ls[j]? = some l ∧ lcost (n : Int) ls a b = l.c ∧ 1 ≤ l.c ∧ l.c ≤ 20) := Lib.hid (fun k a b ha hb => way_link hv (hw k a b ha hb))
  have HBD : Hid (∀ k, 0 ≤ along (n : Int) ls (xs.take k) ∧ along (n : Int) ls (xs.take k) ≤ 1140) := Lib.hid (fun k => by
    have := along_bound hv (hw.take k)
    have : (xs.take k).length ≤ 57 := by simp; omega
    omega)
  have HA1 : Hid (along (n : Int) ls (xs.take 1) = 0) := Lib.hid (along_one _ _ _)
  have HAE : Hid (along (n : Int) ls (xs.take xs.length) = along (n : Int) ls xs) := Lib.hid (by rw [List.take_length])
  clear hS hX hw hv
  go_enter Tryd.func50, Tryd.ntmps50
  go_wp2_with fail
  go_loopw [5, 6] (fun q i wr => ∃ k : Nat, 1 ≤ k ∧ k ≤ xs.length ∧ i = .int .i64 (k : Int) ∧ q = .int .i64 (along (n : Int) ls (xs.take k)) ∧ Below w.heap.size w wr ∧ Box wr w.heap.size 31 #[.int .i64 (n : Int), .slice A ls.length c]) (fun _ i _ => xs.length - (intOf i).toNat)
  case atStart => exact ⟨1, Nat.le_refl _, hx0, rfl, by rw [HA1.out], HB.out, HG.out⟩
  case round =>
    obtain ⟨k, hk1, hk, rfl, rfl, hb, hg⟩ := hrel
    have B1 := Lib.hid hb
    have G1 := Lib.hid hg
    obtain ⟨z1, e10, e11, -, -⟩ := hg.two
    clear hg
    obtain ⟨p, hp1⟩ : ∃ p : Nat, k = p + 1 := ⟨k - 1, by omega⟩
    have hsub : (k : Int) - 1 = (p : Int) := by omega
    have hwp : IntKind.i64.wrap (p : Int) = (p : Int) := IntWalk.i64_in _ (by omega)
    have hpl : p < xs.length := by omega
    have HP1 := Lib.hid hp1
    clear hp1
    by_cases hlt : k < xs.length
    · obtain ⟨a, ha⟩ : ∃ a, xs[p]? = some a := ⟨_, List.getElem?_eq_getElem hpl⟩
      obtain ⟨b, hb'⟩ : ∃ b, xs[k]? = some b := ⟨_, List.getElem?_eq_getElem hlt⟩
      have hb2 : xs[p + 1]? = some b := by rw [← HP1.out]; exact hb'
      obtain ⟨j, l, e1, e2, e3, e4, e5⟩ := HLK.out p a b ha hb2
      have HAN : Hid (along (n : Int) ls (xs.take (k + 1)) = along (n : Int) ls (xs.take k) + l.c) := Lib.hid (by rw [HP1.out, along_next _ _ ha hb2, e3])
      have hbd := HBD.out k
      have hjl := (List.getElem?_eq_some_iff.1 e2).1
      obtain ⟨bb, off, rfl, hbb, hc1, hc2, hc3⟩ := (HS.out.below hb) j l e2
      obtain ⟨xb, xo, rfl, hxb, hxa⟩ := (HX.out.below hb) p a ha
      obtain ⟨xb', xo', e', _, hxk⟩ := (HX.out.below hb) k b hb'
      cases e'
      have hz := hb.size
      have z2 : bb < wr.heap.size := by omega
      have z3 : xb < wr.heap.size := by omega
      have CL : ∀ Y : Ext wr, Calls Tryd.prog 82 #[gval (n : Int) (some ⟨bb, off, none⟩) ls.length c, .int .i64 a, .int .i64 b] Y.w fun e w' => e = .returned (.int .i64 (j : Int)) ∧ Below Y.w.heap.size Y.w w' := fun Y => by
        have := link_impl (n : Int) (some ⟨bb, off, none⟩) ls c a b Y.w hm (((HS.out.below B1.out).below (Y.below.mono hz)).more (Nat.le_trans hz Y.below.size))
        rwa [e1] at this
      generalize along (n : Int) ls (xs.take k) = q at *
      clear ha hb' hb2 e1 e2 e3 hb
      have hY := fun (x : Ext wr) (b o : Nat) (h : b < wr.heap.size) => x.cell b o h
      go_wp2_with fail
      refine wp_region_ext (by kernel_rfl) (by kernel_rfl) ?_
      repeat (go_big_quiet_step (first | (go_at_call 82; exact Calls.ext_of (CL _))))
      (refine wpQuiet_nil ?_); (rintro _ ⟨X, rfl⟩); (have hw1 := X.below); (generalize X.w = w1 at *); (clear X)
      clear hY
      have B2 := Lib.hid (B1.out.trans (hw1.mono hz))
      have G2 := Lib.hid (G1.out.below hw1 z1)
      clear hw1
      go_wp2_with fail
      go_roundw
      case rel => exact ⟨k + 1, by omega, hlt, by go_num, by rw [HAN.out], B2.out, G2.out⟩
      case measure => simp [intOf]; omega
    · obtain rfl : k = xs.length := by omega
      clear hb
      go_wp2_with fail
      go_ret
      exact ⟨ret_int HAE.out, B1.out⟩

theorem costS_none {nn : Int} {ls : List Lk} {s : Int} {st : List Lb} (h : (endI nn ls s st).isSome = false) : costS nn ls s st = -1 := by
  unfold costS
  rw [h]; rfl
theorem costS_some {nn : Int} {ls : List Lk} {s : Int} {st : List Lb} (h : (endI nn ls s st).isSome = true) : costS nn ls s st = along nn ls (pathS nn ls s st) := by
  unfold costS pathS
  rw [if_pos h, if_pos h]

set_option maxRecDepth 100000 in
theorem stackCost_impl (nn : Int) (A : Option Addr) (ls : List Lk) (c : Nat) (s : Int) (B : Option Addr) (st : List Lb) (cb : Nat) (w : World) (hm : ls.length ≤ 2000000) (hmb : st.length ≤ 2000000) (hS : Sl w w.heap.size A ls) (hT : Slb w w.heap.size B st) :
   Calls Tryd.prog 29 #[gval nn A ls.length c, .int .i64 s, .slice B st.length cb] w fun e w' => e = .returned (.int .i64 (costS nn ls s st)) ∧ Below w.heap.size w w' := by
  have B0 : Below w.heap.size w (w.alloc (.cells #[.int .i64 nn, .slice A ls.length c] 31)) := by (repeat (first | exact Below.refl _ _ | (refine Below.alloc ?_ (by first | exact Nat.le_refl _ | omega | (simp; done) | (simp; omega)) _) | (refine Below.setCell ?_ (by first | exact Nat.le_refl _ | omega | (simp; done) | (simp; omega)) _) | exact Below.drew ‹_›))
  have C1 := stackPath_impl nn A ls c s B st cb _ hm hmb ((hS.below B0).more B0.size) (hT.grow B0)
  have HB := Lib.hid B0
  have HG := Lib.hid (Box.new w 31 #[.int .i64 nn, .slice A ls.length c])
  have HS := Lib.hid hS
  clear hS hT B0
  have hpl := pathS_len nn ls s st
  cases he : (endI nn ls s st).isSome with
  | false =>
    rw [pathS_none he] at C1
    rw [costS_none he]
    clear he hpl
    go_enter Tryd.func29, Tryd.ntmps29
    go_wp2_with fail
    refine C1.mono ?_
    clear C1
    rintro e w1 ⟨A1, g1, c1, rfl, hg1, ho1, hb1, hcp⟩
    have B1 := Lib.hid (HB.out.trans (hb1.mono HB.out.size))
    clear hb1 ho1
    go_wp2_with fail
    go_ret
    exact ⟨rfl, B1.out⟩
  | true =>
    rw [costS_some he]
    obtain ⟨n, z, rfl, hg, hs, h8, -, hz⟩ := endI_inv he
    obtain ⟨-, hp0⟩ := pathS_end hz
    have hway : Way ls (pathS (n : Int) ls s st) := pathS_way
    have CC := fun (X : Option Addr) (cx : Nat) (W : World) (h1 : Sl W W.heap.size A ls) (h2 : Sli W W.heap.size X (pathS (n : Int) ls s st)) => costAlong_any n A ls c X (pathS (n : Int) ls s st) cx W hm hg hway hp0 hpl h1 h2
    clear he hg hz hway
    generalize along (n : Int) ls (pathS (n : Int) ls s st) = q at *
    generalize pathS (n : Int) ls s st = p at *
    have hpe : ((p.length : Int) == 0) = false := by rw [beq_eq_false_iff_ne]; omega
    go_enter Tryd.func29, Tryd.ntmps29
    go_wp2_with fail
    refine C1.mono ?_
    clear C1
    rintro e w1 ⟨A1, g1, c1, rfl, hg1, ho1, hb1, hcp⟩
    have B1 := Lib.hid (HB.out.trans (hb1.mono HB.out.size))
    obtain ⟨z1, e10, e11, -, -⟩ := (HG.out.below hb1 HG.out.lt).two
    have C2 := CC A1 c1 w1 ((HS.out.below B1.out).more B1.out.size) ho1.sli
    clear hb1 ho1 CC
    go_wp2_with (go_at_call 50; refine C2.mono ?_; clear C2; rintro e w2 ⟨rfl, hb2⟩; have B2 := Lib.hid (B1.out.trans (hb2.mono B1.out.size)); clear hb2)
    go_ret
    exact ⟨rfl, B2.out⟩

end Go.Proofs.YtenlofomkchlaabDoor

/-
  Contracts over this seat: the program's StackCrosses and StackUnique.
-/
namespace Go.Proofs.YtenlofomkchlaabDoor
open Go.RowKit Go.Maps

/-- May a packet cross the link x on this leg? -/
def legX (nn : Int) (ls : List Lk) (x : Int) (g : Lb × List Int) : Bool := if g.1.k = 1 then usedB nn ls (g.2.headD 0) g.1.a x else decide (g.1.a = x)
/-- Is there only one way on this leg? -/
def legU (nn : Int) (ls : List Lk) (g : Lb × List Int) : Bool := if g.1.k = 1 then decide (1 < countI nn ls (g.2.headD 0) g.1.a) else false
def crossS (nn : Int) (ls : List Lk) (s : Int) (st : List Lb) (x : Int) : Bool := (endI nn ls s st).isSome && (legsO nn ls s st).any (legX nn ls x)
def uniqS (nn : Int) (ls : List Lk) (s : Int) (st : List Lb) : Bool := (endI nn ls s st).isSome && !(legsO nn ls s st).any (legU nn ls)

theorem assert_node (v : Value) (w : World) : Sem.run Tryd.prog (Instr.typeAssert (.iface 157 v) 113 157 true) w = .ok (.tuple #[v, .bool true]) w := by
  have hu := Tryd.underlying157
  unfold Instr.typeAssert
  simp [go_sem, hu, Go.underlying]
theorem assert_link (v : Value) (w : World) : Sem.run Tryd.prog (Instr.typeAssert (.iface 158 v) 113 158 true) w = .ok (.tuple #[v, .bool true]) w := by
  have hu := Tryd.underlying158
  unfold Instr.typeAssert
  simp [go_sem, hu, Go.underlying]
theorem assert_miss (v : Value) (w : World) : Sem.run Tryd.prog (Instr.typeAssert (.iface 158 v) 113 157 true) w = .ok (.tuple #[.int .i64 0, .bool false]) w := by
  have hu := Tryd.underlying157
  unfold Instr.typeAssert
  simp [go_sem, hu, Go.underlying]



theorem Slg.head {w : World} {B : Nat} {A : Option Addr} {gs : List Lg} (h : Slg w B A gs) {k : Nat} {x : Lg} (hk : gs[k]? = some x) {u : Int} {r : List Int} (hp : x.p = u :: r) :
    ∃ g o, x.A = some ⟨g, o, none⟩ ∧ g < B ∧ w.cell? ⟨g, o, none⟩ = some (.int .i64 u) := by
  obtain ⟨b, off, e, hb, h1, h2, h3, h4⟩ := h k x hk
  obtain ⟨g, o, eA, hg, hc⟩ := h3 0 u (by rw [hp]; rfl)
  exact ⟨g, o, eA, hg, by simpa using hc⟩



theorem any_lp {gs : List Lg} {xs : List (Lb × List Int)} (h : gs.map Lg.lp = xs) (f : Lb × List Int → Bool) : gs.any (fun x => f x.lp) = xs.any f := by
  rw [← h, List.any_map]; rfl



end Go.Proofs.YtenlofomkchlaabDoor

/-
  Contracts over this seat: the specification's StackEnd, StackPath and StackCost.
-/
namespace Go.Proofs.YtenlofomkchlaabDoor
open Go.RowKit Go.Maps

theorem endI_none {nn : Int} {ls : List Lk} {s : Int} {st : List Lb} (h : (endI nn ls s st).isSome = false) : endI nn ls s st = none := by
  cases he : endI nn ls s st with
  | none => rfl
  | some z => rw [he] at h; cases h


/-- A slice that reads as numbers, wherever it begins. -/
def SlicI (xs : List Int) (w : World) (e : Ending) (w' : World) : Prop :=
  ∃ g o c, e = .returned (.slice (some ⟨g, o, none⟩) xs.length c) ∧ (∀ (i : Nat) (u : Int), xs[i]? = some u → w'.cell? ⟨g, o + i, none⟩ = some (.int .i64 u)) ∧ Below w.heap.size w w'


end Go.Proofs.YtenlofomkchlaabDoor

/-
  Contracts over this seat: the specification's StackPath.
-/
namespace Go.Proofs.YtenlofomkchlaabDoor
open Go.RowKit Go.Maps

/-- The nodes of the first k labels. -/
def pthK (nn : Int) (ls : List Lk) (s : Int) (st : List Lb) (k : Nat) : List Int := s :: pthO nn ls s (st.take k)


end Go.Proofs.YtenlofomkchlaabDoor

/-
  Contracts over this seat: the specification's StackCost.
-/
namespace Go.Proofs.YtenlofomkchlaabDoor
open Go.RowKit Go.Maps

theorem legsC_bound {n : Nat} {ls : List Lk} (hg : gvB (n : Int) ls = true) {st : List Lb} : ∀ {s : Int}, 0 ≤ s ∧ s < (n : Int) → 0 ≤ legsC (n : Int) ls s st ∧ legsC (n : Int) ls s st ≤ 160 * st.length := by
  obtain ⟨hf, hn1, hn8, hl14⟩ := gvB_fit hg
  induction st with
  | nil => intro s _; simp [legsC]
  | cons l st ih =>
    intro s hs
    simp only [legsC]
    cases hz : stepO (n : Int) ls s l with
    | none => simp; omega
    | some u =>
      dsimp only
      have h1 := ih (stepO_node hg hs hz)
      have hne := stepO_leg hz
      obtain ⟨_, _, _, _, hw, h8, _⟩ := leg_fact hg hs hne
      have h2 := along_bound hg hw
      rw [leg_along hg hs hz] at h2
      simp only [List.length_cons]
      omega
/-- The cost of the first k labels. -/
def cstK (nn : Int) (ls : List Lk) (s : Int) (st : List Lb) (k : Nat) : Int := legsC nn ls s (st.take k)
theorem costS_legs {nn : Int} {ls : List Lk} {s : Int} {st : List Lb} (h : (endI nn ls s st).isSome = true) : costS nn ls s st = cstK nn ls s st st.length := by
  obtain ⟨n, z, rfl, hg, hs, h8, he, -⟩ := endI_inv h
  unfold costS cstK
  rw [if_pos h, along_legs hg hs he, List.take_length]


end Go.Proofs.YtenlofomkchlaabDoor

/-
  Contracts over this seat: the specification's StackCrosses and StackUnique.
-/
namespace Go.Proofs.YtenlofomkchlaabDoor
open Go.RowKit Go.Maps

theorem legsO_full {nn : Int} {ls : List Lk} {st : List Lb} : ∀ {s z : Int}, endO nn ls s st = some z → (legsO nn ls s st).length = st.length := by
  induction st with
  | nil => intro s z _; rfl
  | cons l st ih =>
    intro s z h
    simp only [endO] at h
    simp only [legsO]
    cases hz : stepO nn ls s l with
    | none => rw [hz] at h; cases h
    | some u =>
      rw [hz] at h
      simp only [List.length_cons]
      rw [ih h]
theorem legsO_at {nn : Int} {ls : List Lk} {s z : Int} {st : List Lb} (he : endO nn ls s st = some z) {k : Nat} {x : Int} {l : Lb} (hx : endO nn ls s (st.take k) = some x) (hl : st[k]? = some l) : (legsO nn ls s st)[k]? = some (l, legP nn ls x l) := by
  have hk := (List.getElem?_eq_some_iff.1 hl).1
  obtain ⟨y, hy⟩ := endO_upto he (k + 1)
  have hs : stepO nn ls x l = some y := by rw [← endO_next hx hl]; exact hy
  have h1 := legsO_next hx hl hs
  have h2 := legsO_append (nn := nn) (ls := ls) (st.drop (k + 1)) hy
  rw [List.take_append_drop] at h2
  have h3 : (legsO nn ls s (st.take k)).length = k := by rw [legsO_full hx]; simp; omega
  rw [h2, h1, List.append_assoc, List.getElem?_append_right (by omega), h3]
  simp


theorem legU_count {n : Nat} {ls : List Lk} (hg : gvB (n : Int) ls = true) {x y : Int} (hx : 0 ≤ x ∧ x < (n : Int)) (hy : 0 ≤ y ∧ y < (n : Int)) (h0 : 0 ≤ bf (n : Int) ls x y) {g : Lb × List Int} (hk : g.1.k = 1) (ha : g.1.a = y) (hd : g.2.headD 0 = x) :
    legU (n : Int) ls g = !decide (((cntL n ls x y : Nat) : Int) = 1) := by
  unfold legU
  rw [if_pos hk, hd, ha]
  unfold countI
  rw [if_pos (vwB_of hg hx hy), Int.toNat_natCast]
  have hf := (gvB_fit hg).1
  have h1 := (cntL_pos hg hy _ x hx (Nat.le_refl _)).2 (by rw [bf_symm hf hy hx]; exact h0)
  by_cases h : ((cntL n ls x y : Nat) : Int) = 1
  · simp [h]
  · have : 1 < ((cntL n ls x y : Nat) : Int) := by omega
    rw [decide_eq_true this, decide_eq_false h]
    rfl


end Go.Proofs.YtenlofomkchlaabDoor
