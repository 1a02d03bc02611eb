/-
  A contract over this seat: the program's Distances.
-/
import Derived.Test.YtkcnbgimdiggoabB2
import Derived.Test.YtkcnbgimdiggoabB3
namespace Go.Proofs.Ytkcnbgimdiggoab
open Go.RowKit Go.Shelf

attribute [local go_sem] Oper.semAt_some

/-! ### Marks of loops over iterators that have ended -/
def mkD (D : Nat) : Deferred := { target := .collected D, args := #[] }
theorem leaves_marks {F : Fence} {n : Nat} {P : Program} {fn : Func} {tmps : Array Value} {R : Ending → World → Prop} : ∀ (Ds : List Nat) (W : World), Ds.Nodup → (∀ D ∈ Ds, W.heap[D]? = some (.deferred (some []))) →
    (∀ W', Kx (fun k => k ∈ Ds) W W' → LeavesIn F n P fn tmps R [] .returning W') → LeavesInM F n P fn tmps R (Ds.map mkD) .returning W
  | [], W, _, _, h => h W (Kx.refl _ _)
  | D :: Ds, W, hn, hm, h => by
    have hK := hm D (by simp)
    have hn' := List.nodup_cons.1 hn
    refine ⟨by simp, .inl ⟨D, _, rfl, run_takeDeferred hK, leaves_marks Ds _ hn'.2 (fun E hE => ?_) (fun W' hk => h W' ?_)⟩⟩
    · exact (World.putObj_heap_other (by intro e; subst e; exact hn'.1 hE)).trans (hm E (by simp [hE]))
    · have h1 : Kx (fun k => k ∈ D :: Ds) W (W.putObj D (.deferred none)) :=
        ⟨rfl, rfl, rfl, by simp [World.putObj], fun k hk hx => World.putObj_heap_other (fun e => hx (by subst e; simp))⟩
      exact h1.trans (hk.mono fun k _ hk => by simp [hk])

/-- A loop whose measure stands in no slot. -/
theorem wp_loop_gh {P : Program} {Q : Exit → Act → World → Prop} {a : Act} {w : World} {c : Code} (I : Nat → Act → World → Prop) (n₀ : Nat) (h₀ : I n₀ a w)
    (round : ∀ n a w, I n a w → ∀ K : Act → World → Prop, (∀ n' a' w', n' < n → I n' a' w' → K a' w') → c.wp P (Exit.then K Q) a w) : (Code.loop c).wp P Q a w :=
  wp_loop_ghost I n₀ h₀ fun n a w h => round n a w h _ fun n' _ _ hn hI => ⟨n', hn, hI⟩

def distL (nn : Int) (ls : List Lk) (s : Int) : List Int := if vwB nn ls [s] = true then (List.range nn.toNat).map (fun i : Nat => bf nn ls s (i : Int)) else []

theorem gvB_fit {nn : Int} {ls : List Lk} (h : gvB nn ls = true) : Fit nn ls ∧ 1 ≤ nn ∧ nn ≤ 8 ∧ ls.length ≤ 14 := by
  unfold gvB at h
  simp only [Bool.and_eq_true, List.all_eq_true] at h
  obtain ⟨⟨h1, h2⟩, h3⟩ := h
  have hall : ∀ l ∈ ls, allowsB nn l = true := fun l hl => by
    obtain ⟨j, hj⟩ := List.getElem?_of_mem hl
    have := h3 j (by have := (List.getElem?_eq_some_iff.1 hj).1; simpa using this)
    unfold okAt at this
    rw [hj] at this
    simp only [Bool.and_eq_true] at this
    exact this.1
  unfold inB at h1
  simp at h1 h2
  have hu : ∀ l ∈ ls, (0 ≤ l.a ∧ l.a ≤ nn - 1) ∧ (0 ≤ l.b ∧ l.b ≤ nn - 1) ∧ l.a < l.b ∧ 1 ≤ l.c ∧ l.c ≤ 20 := fun l hl => by
    have := hall l hl
    unfold allowsB inB at this
    simp at this
    omega
  exact ⟨⟨fun l hl => by have := hu l hl; omega, fun l hl => by have := hu l hl; omega, fun l hl => by have := hu l hl; omega, fun l hl => by have := hu l hl; omega, fun l hl => by have := hu l hl; omega⟩, h1.1, h1.2, h2⟩

/-! ### The state between two rounds -/
def flA (n : Nat) (f : Int → Int) : Array Value := ((List.range n).map (fun i : Nat => Value.int .i64 (f (i : Int)))).toArray
theorem flA_at {n : Nat} {f : Int → Int} {i : Nat} (h : i < n) : (flA n f)[i]? = some (.int .i64 (f (i : Int))) := by
  unfold flA
  simp [h]
theorem flA_init (n : Nat) : flA n (fun _ => -1) = (List.replicate n (Value.int .i64 (-1))).toArray := by
  unfold flA
  congr 1
  refine List.ext_getElem (by simp) fun i h1 h2 => by simp
theorem flA_upd {n : Nat} {f : Int → Int} {i : Nat} {x : Int} (_h : i < n) : (flA n f).setIfInBounds i (.int .i64 x) = flA n (upd f (i : Int) x) := by
  unfold flA upd
  refine Array.ext_getElem? fun j => ?_
  rw [Array.getElem?_setIfInBounds]
  by_cases hj : j < n
  · by_cases hij : i = j
    · subst hij; simp [hj]
    · rw [if_neg hij]
      have : (j : Int) ≠ (i : Int) := by omega
      simp [hj, this]
  · have : i ≠ j := by omega
    rw [if_neg this]
    simp [hj]

/-- base: the heap's size before the call; B0: the graph's box; GD: the distances; gV: the heap's first row; BW: the heap's box. -/
structure DS (w : World) (n : Nat) (ls : List Lk) (A : Option Addr) (c : Nat) (s : Int) (GD BW : Nat) (k : Nat) (Ds : List Nat) (f : Int → Int) (g cap : Nat) (cs : Array Value) (H : List Vs) (W : World) : Prop where
  hp : HpW W BW g cap cs H
  heap : Hp H
  dj : DjI n ls s f H
  hg : GD < g ∧ GD < BW ∧ w.heap.size < GD
  gd : Box W GD 3 (flA n f)
  cnt : 15 * uns f n + H.length = k ∧ k ≤ 121
  box : Box W w.heap.size 25 #[.int .i64 (n : Int), .slice A ls.length c]
  sl : Sl W w.heap.size A ls
  bel : Below w.heap.size w W
  nod : Ds.Nodup
  marks : ∀ D ∈ Ds, W.heap[D]? = some (.deferred (some [])) ∧ w.heap.size ≤ D

theorem box_not_mark {W : World} {b D : Nat} {t : TypeId} {cs : Array Value} (h : Box W b t cs) (hd : W.heap[D]? = some (.deferred (some []))) : D ≠ b := by
  rintro rfl
  rw [show W.heap[D]? = _ from h] at hd
  cases hd

theorem DS.step {w : World} {n : Nat} {ls : List Lk} {A : Option Addr} {c : Nat} {s : Int} {GD BW k : Nat} {Ds : List Nat} {f : Int → Int} {g cap : Nat} {cs : Array Value} {H : List Vs} {W : World} (h : DS w n ls A c s GD BW k Ds f g cap cs H W)
    {W' : World} {k' : Nat} {Ds' : List Nat} {f' : Int → Int} {g' cap' : Nat} {cs' : Array Value} {H' : List Vs} (hp' : HpW W' BW g' cap' cs' H') (hh' : Hp H') (hd' : DjI n ls s f' H') (hg' : g' = g ∨ W.heap.size ≤ g') (gd' : Box W' GD 3 (flA n f'))
    (cnt' : 15 * uns f' n + H'.length = k') (hk' : k' ≤ k) (hk : Kx (fun i => i = BW ∨ i = g ∨ i = GD) W W') (hD : Ds' = Ds ∨ ∃ D, Ds' = D :: Ds ∧ W.heap.size ≤ D ∧ W'.heap[D]? = some (.deferred (some []))) :
    DS w n ls A c s GD BW k' Ds' f' g' cap' cs' H' W' := by
  obtain ⟨h1, h2, h3⟩ := h.hg
  have zg := h.hp.row.lt
  have zb := h.hp.box.lt
  have zd := h.gd.lt
  have hold : ∀ D ∈ Ds, W'.heap[D]? = some (.deferred (some [])) ∧ w.heap.size ≤ D := fun D hd => by
    obtain ⟨m1, m2⟩ := h.marks D hd
    have n1 := box_not_mark h.hp.box m1
    have n2 := box_not_mark h.hp.row m1
    have n3 := box_not_mark h.gd m1
    refine ⟨(hk.block D (Array.getElem?_eq_some_iff.1 m1).1 (fun e => ?_)).trans m1, m2⟩
    rcases e with e | e | e
    · exact n1 e
    · exact n2 e
    · exact n3 e
  have hb : Below w.heap.size W W' := hk.below h.bel.size (fun i e => by omega)
  refine ⟨hp', hh', hd', ⟨by omega, h2, h3⟩, gd', ⟨cnt', by have := h.cnt; omega⟩, hk.box h.box (by omega), h.sl.below hb, h.bel.trans hb, ?_, ?_⟩
  · rcases hD with rfl | ⟨D, rfl, hD, _⟩
    · exact h.nod
    · refine List.nodup_cons.2 ⟨fun hm => ?_, h.nod⟩
      have := (Array.getElem?_eq_some_iff.1 (h.marks D hm).1).1
      omega
  · rcases hD with rfl | ⟨D, rfl, hD, hm⟩
    · exact hold
    · intro E hE
      rcases List.mem_cons.1 hE with rfl | hE
      · exact ⟨hm, by have := h.bel.size; omega⟩
      · exact hold E hE

/-- The state while a node's neighbours come. -/
def RI (W4 : World) (BW g : Nat) (i : Int) (ls : List Lk) (ct : Int) (H1 : List Vs) (pre : List (NbA i ls)) (W : World) : Prop :=
  (∃ g' cap' cs' H', HpW W BW g' cap' cs' H' ∧ Hp H' ∧ (g' = g ∨ W4.heap.size ≤ g') ∧ H'.length = H1.length + pre.length ∧
    ∀ y, y ∈ H' ↔ y ∈ H1 ∨ ∃ p ∈ pre, ∃ l, ls[p.1.2]? = some l ∧ y = ⟨p.1.1, ct + l.c⟩) ∧ Kx (fun k => k = BW ∨ k = g) W4 W
theorem box_not_row {W : World} {b : Nat} {t : TypeId} {cs : Array Value} (h : Box W b t cs) {row : Option Nat} {B : Nat} (hr : ∀ r, row = some r → B ≤ r ∧ ∃ o : Obj, W.heap[r]? = some o ∧ o.isCells = false) : some b ≠ row := by
  intro e
  obtain ⟨_, o, ho, hc⟩ := hr b e.symm
  rw [show W.heap[b]? = _ from h] at ho
  cases ho
  cases hc
theorem RI.own (W4 : World) (BW g : Nat) (i : Int) (ls : List Lk) (ct : Int) (H1 : List Vs) : OwnFrom W4.heap.size (RI W4 BW g i ls ct H1) := by
  rintro pre X Y row ⟨⟨g', cap', cs', H', hp, rest⟩, hk⟩ hg hr
  refine ⟨⟨g', cap', cs', H', hp.keep (hg.block _ hp.box.lt (box_not_row hp.box hr)) (hg.block _ hp.row.lt (box_not_row hp.row hr)), rest⟩, ?_⟩
  exact ⟨hg.os.trans hk.os, hg.tape.trans hk.tape, hg.output.trans hk.output, Nat.le_trans hk.size hg.size, fun j hj hx => (hg.block j (Nat.lt_of_lt_of_le hj hk.size) (fun e => by have := (hr j e.symm).1; omega)).trans (hk.block j hj hx)⟩
theorem Kx.keepsFrom {X : Nat → Prop} {W W' : World} (h : Kx X W W') (hx : ∀ k, X k → ∃ t cs, Box W k t cs) (B : Nat) : KeepsFrom B W W' :=
  ⟨h.size, fun k o _ hk ho => (h.block k (Array.getElem?_eq_some_iff.1 hk).1 (fun e => by
    obtain ⟨t, cs, hb⟩ := hx k e
    rw [show W.heap[k]? = _ from hb] at hk
    cases hk
    cases ho)).trans hk⟩
/-- One neighbour more waits. -/
theorem RI.push {W4 : World} {BW g : Nat} {i : Int} {ls : List Lk} {ct : Int} {H1 : List Vs} {pre : List (NbA i ls)} {x : NbA i ls} {l : Lk} (hl : ls[x.1.2]? = some l) {W W' : World} {g' cap' g2 cap2 : Nat} {cs' cs2 : Array Value} {H' H2 : List Vs}
    (_hp : HpW W BW g' cap' cs' H') (hg : g' = g ∨ W4.heap.size ≤ g') (hlen : H'.length = H1.length + pre.length) (hmem : ∀ y, y ∈ H' ↔ y ∈ H1 ∨ ∃ p ∈ pre, ∃ l, ls[p.1.2]? = some l ∧ y = ⟨p.1.1, ct + l.c⟩) (hk : Kx (fun k => k = BW ∨ k = g) W4 W)
    (hp2 : HpW W' BW g2 cap2 cs2 H2) (hr : PushR H' ⟨x.1.1, ct + l.c⟩ H2) (hk2 : Kx (fun k => k = BW ∨ k = g') W W') (hg2 : g2 = g' ∨ W.heap.size ≤ g2) : RI W4 BW g i ls ct H1 (pre ++ [x]) W' := by
  have hz := hk.size
  refine ⟨⟨g2, cap2, cs2, H2, hp2, hr.1, by omega, by rw [hr.2.1, hlen]; simp; omega, fun y => ?_⟩, hk.then hk2 (fun j hj e => by omega)⟩
  rw [hr.2.2 y, hmem y]
  constructor
  · rintro ((h | ⟨p, hp, q⟩) | h)
    · exact .inl h
    · exact .inr ⟨p, by simp [hp], q⟩
    · exact .inr ⟨x, by simp, l, hl, h⟩
  · rintro (h | ⟨p, hp, m, hm, hy⟩)
    · exact .inl (.inl h)
    · rcases List.mem_append.1 hp with hp | hp
      · exact .inl (.inr ⟨p, hp, m, hm, hy⟩)
      · obtain rfl : p = x := by simpa using hp
        rw [hl] at hm
        cases hm
        exact .inr hy

end Go.Proofs.Ytkcnbgimdiggoab

/-
  A contract over this seat: the program's Distances.
-/
namespace Go.Proofs.Ytkcnbgimdiggoab
open Go.RowKit Go.Shelf

attribute [local go_sem] Oper.semAt_some

set_option maxRecDepth 100000 in
set_option maxHeartbeats 2000000 in
theorem dist_impl (nn : Int) (A : Option Addr) (ls : List Lk) (c : Nat) (s : Int) (w : World) (hm : ls.length ≤ 2000000) (hS : Sl w w.heap.size A ls) :
   Calls Try.prog 41 #[gval nn A ls.length c, .int .i64 s] w (NewI (distL nn ls s) w) := by
  have B0 : Below w.heap.size w ((w.alloc (.cells #[.int .i64 nn, .slice A ls.length c] 25)).alloc (.cells #[.int .i64 s] 3)) := by (repeat (first | exact Below.refl _ _ | (refine Below.alloc ?_ (by first | exact Nat.le_refl _ | omega | (simp; done) | (simp; omega)) _) | (refine Below.setCell ?_ (by first | exact Nat.le_refl _ | omega | (simp; done) | (simp; omega)) _) | exact Below.drew ‹_›))
  have G0 := (Box.new w 25 #[.int .i64 nn, .slice A ls.length c]).alloc (.cells #[.int .i64 s] 3)
  have X0 := Box.new (w.alloc (.cells #[.int .i64 nn, .slice A ls.length c] 25)) 3 #[.int .i64 s]
  have C1 := vw_any nn A ls c (some ⟨(w.alloc (.cells #[.int .i64 nn, .slice A ls.length c] 25)).heap.size, 0, none⟩) [s] 1 _ hm (by simp) ((hS.below B0).more (by simp; omega)) (fun k x hx => by
    obtain rfl : k = 0 := by have := (List.getElem?_eq_some_iff.1 hx).1; simpa using this
    cases hx
    exact ⟨_, 0, rfl, X0.lt, X0.cell 0⟩)
  rw [World.size_alloc] at C1
  simp only [List.length_singleton] at C1
  have HS := Lib.hid hS
  have HB0 := Lib.hid B0
  have HG0 := Lib.hid G0
  clear hS B0 G0 X0
  have z0 : ((w.alloc (.cells #[.int .i64 nn, .slice A ls.length c] 25)).alloc (.cells #[.int .i64 s] 3)).heap.size = w.heap.size + 2 := by simp
  have HZ0 := Lib.hid z0
  clear z0
  unfold distL
  cases hv : vwB nn ls [s] with
  | false =>
    rw [hv] at C1
    clear hv
    go_enter Try.func41, Try.ntmps41
    go_wp2_with (go_at_call 71; refine C1.mono ?_; clear C1; rintro e w1 ⟨rfl, hb1⟩; have HB1 := Lib.hid (HB0.out.trans (hb1.mono (by simp; omega))); clear hb1)
    go_ret
    have hz := HB1.out.size
    exact ⟨_, w1.heap.size, _, rfl, hz, fun h => absurd h (by simp), Below.trans HB1.out (by (repeat (first | exact Below.refl _ _ | (refine Below.alloc ?_ (by first | exact Nat.le_refl _ | omega | (simp; done) | (simp; omega)) _) | (refine Below.setCell ?_ (by first | exact Nat.le_refl _ | omega | (simp; done) | (simp; omega)) _) | exact Below.drew ‹_›)))⟩
  | true =>
    rw [hv] at C1
    have hvv : gvB nn ls = true ∧ 0 ≤ s ∧ s < nn := by
      unfold vwB inB at hv
      simp at hv
      exact ⟨hv.1, hv.2.1, by omega⟩
    obtain ⟨hg, hs0, hsn⟩ := hvv
    obtain ⟨hf, hn1, hn8, hl14⟩ := gvB_fit hg
    clear hv hg
    obtain ⟨n, rfl⟩ : ∃ n : Nat, nn = (n : Int) := ⟨nn.toNat, by omega⟩
    obtain ⟨N, hN⟩ : ∃ N : Nat, 6 ≤ N := ⟨6, Nat.le_refl _⟩
    rw [if_pos rfl]
    refine (callsIn_wide (n := N)).1 ?_
    refine callsIn_of_wp_marks Try.func41 rfl trivial ?_ rfl
    simp only [Try.ntmps41, List.size_toArray, List.length_cons, List.length_nil, Nat.reduceAdd, Nat.reduceSub, Array.replicate_succ, Array.replicate_zero, List.push_toArray, List.append_toArray, List.nil_append, List.cons_append]
    refine wpIn_wide.2 ?_
    go_wp2_with (first
      | (go_at_call 71; refine C1.mono ?_; clear C1; rintro e w1 ⟨rfl, hb1⟩; have HB1 := Lib.hid (HB0.out.trans (hb1.mono (by simp; omega))); have HG1 := Lib.hid (HG0.out.below hb1 HG0.out.lt); clear hb1; have z1 : w.heap.size < w1.heap.size := HG1.out.lt; have e0 : w1.cell? ⟨w.heap.size, 0, none⟩ = some (.int .i64 (n : Int)) := HG1.out.cell 0; have X1 := Box.new w1 3 #[.int .i64 (-1)]; have C2 := rep_any (-1) (some ⟨w1.heap.size, 0, none⟩) 1 n (by omega) (by omega) (w1.alloc (.cells #[.int .i64 (-1)] 3)) (fun k x hx => by
          obtain rfl : k = 0 := (by have := (List.getElem?_eq_some_iff.1 hx).1; simpa using this)
          cases hx
          exact ⟨_, 0, rfl, X1.lt, X1.cell 0⟩); clear X1)
      | (go_at_call 72; refine C2.mono ?_; clear C2 e0; rintro e w2 ⟨GD, rfl, hgd, hbd, hb2⟩; have HGD := Lib.hid hgd; have HBD := Lib.hid hbd; have HB2 := Lib.hid (HB1.out.trans (Below.trans (by (repeat (first | exact Below.refl _ _ | (refine Below.alloc ?_ (by first | exact Nat.le_refl _ | omega | (simp; done) | (simp; omega)) _) | (refine Below.setCell ?_ (by first | exact Nat.le_refl _ | omega | (simp; done) | (simp; omega)) _) | exact Below.drew ‹_›))) (hb2.mono (by have := HB1.out.size; simp; omega)))); have HG2 := Lib.hid ((HG1.out.alloc _).below hb2 (by have := HG1.out.lt; simp; omega)); clear hgd hbd hb2))
    have hz2 : w1.heap.size + 1 ≤ GD := by have := HGD.out; simpa using this
    have hgd2 : GD < w2.heap.size := HBD.out.lt
    have HW3 := Lib.hid (show DS w n ls A c s GD (w2.heap.size + 1) (15 * uns (fun _ => -1) n + 1) [] (fun _ => -1) w2.heap.size 1 #[.int .i64 s, .int .i64 0] [⟨s, 0⟩] ((w2.alloc (.cells #[.int .i64 s, .int .i64 0] 85)).alloc (.cells #[.slice (some ⟨w2.heap.size, 0, none⟩) 1 1] 87)) from by
      have hb : Below w.heap.size w ((w2.alloc (.cells #[.int .i64 s, .int .i64 0] 85)).alloc (.cells #[.slice (some ⟨w2.heap.size, 0, none⟩) 1 1] 87)) := HB2.out.trans (by have := HB2.out.size; (repeat (first | exact Below.refl _ _ | (refine Below.alloc ?_ (by first | exact Nat.le_refl _ | omega | (simp; done) | (simp; omega)) _) | (refine Below.setCell ?_ (by first | exact Nat.le_refl _ | omega | (simp; done) | (simp; omega)) _) | exact Below.drew ‹_›)))
      have hbx := Box.new (w2.alloc (.cells #[.int .i64 s, .int .i64 0] 85)) 87 #[.slice (some ⟨w2.heap.size, 0, none⟩) 1 1]
      rw [World.size_alloc] at hbx
      refine ⟨⟨hbx, (Box.new w2 85 #[.int .i64 s, .int .i64 0]).alloc _, by omega, Nat.le_refl _, by unfold maxLen; omega, rfl, fun k x hk => ?_⟩, ?_, DjI.init, ⟨hgd2, by omega, by omega⟩, ?_, ⟨rfl, by have := uns_le (fun _ => -1) n; omega⟩, (HG2.out.alloc _).alloc _, HS.out.below hb, hb, List.nodup_nil, fun D hD => by simp at hD⟩
      · obtain rfl : k = 0 := by have := (List.getElem?_eq_some_iff.1 hk).1; simpa using this
        cases hk
        exact ⟨rfl, rfl⟩
      · intro k h0 h1
        simp at h1
        omega
      · rw [flA_init]
        exact (HBD.out.alloc _).alloc _)
    generalize (w2.alloc (.cells #[.int .i64 s, .int .i64 0] 85)).alloc (.cells #[.slice (some ⟨w2.heap.size, 0, none⟩) 1 1] 87) = W3 at *
    clear HS HB0 HG0 HZ0 HB1 HG1 HGD HBD HB2 HG2
    refine wp_loop_gh (fun k a W => ∃ u7 u23 u24 u25 u26 u27 u28 u29 u30 u31 u32 u33 u34 u35 u36 u37 u38 u39 u40 u41 u42 u43 u44 Ds f g cap cs H, a = { tmps := #[gval (n : Int) A ls.length c, .int .i64 s, .pointer (some ⟨w.heap.size, 0, none⟩), undef, .slice none 0 0, .slice (some ⟨GD, 0, none⟩) n n, .pointer (some ⟨w2.heap.size + 1, 0, none⟩), u7, undef, undef, .agg #[.int .i64 (n : Int), .slice A ls.length c], .int .i64 s, .slice (some ⟨w.heap.size + 1, 0, none⟩) 1 1, .bool true, .bool false, undef, .slice (some ⟨w1.heap.size, 0, none⟩) 1 1, .pointer (some ⟨w.heap.size, 0, none⟩), .int .i64 (n : Int), .slice (some ⟨GD, 0, none⟩) n n, .int .i64 s, .agg #[.int .i64 s, .int .i64 0], .slice (some ⟨w2.heap.size, 0, none⟩) 1 1, u23, u24, u25, u26, u27, u28, u29, u30, u31, u32, u33, u34, u35, u36, u37, u38, u39, u40, u41, u42, u43, u44, undef, undef, undef, undef, undef, undef, undef, undef, undef, undef, undef, undef, undef, undef, undef, undef, undef], defers := Ds.map mkD } ∧ DS w n ls A c s GD (w2.heap.size + 1) k Ds f g cap cs H W) _ ⟨_, _, _, _, _, _, _, _, _, _, _, _, _, _, _, _, _, _, _, _, _, _, _, [], _, _, _, _, _, rfl, HW3.out⟩ ?_
    clear HW3
    rintro k a W ⟨u7, u23, u24, u25, u26, u27, u28, u29, u30, u31, u32, u33, u34, u35, u36, u37, u38, u39, u40, u41, u42, u43, u44, Ds, f, g, cap, cs, H, rfl, hds⟩ K hK
    have HK := Lib.hid hK
    have HD := Lib.hid hds
    have hB : W.cell? ⟨w2.heap.size + 1, 0, none⟩ = some (.slice (some ⟨g, 0, none⟩) H.length cap) := hds.hp.box.cell 0
    clear hK
    by_cases hH : H.length = 0
    · obtain rfl : H = [] := List.eq_nil_of_length_eq_zero hH
      clear hds
      go_wp2
      refine leaves_marks Ds W HD.out.nod (fun D hD => (HD.out.marks D hD).1) fun W' hk => ?_
      have hds := HD.out
      have hgd : Box W' GD 3 (flA n f) := hk.box hds.gd (fun h => box_not_mark hds.gd (hds.marks GD h).1 rfl)
      have hbel : Below w.heap.size w W' := hds.bel.trans (Kx.below (X := fun k => k ∈ Ds) hk hds.bel.size (fun D hD => (hds.marks D hD).2))
      have hfe : ∀ v : Int, f v = bf n ls s v := fun v => (hds.dj.done hf v).uniq (bf_isD hf ⟨hs0, hsn⟩ v)
      refine ⟨_, results_tmp rfl _ _ _, some ⟨GD, 0, none⟩, GD, n, by simp, by have := hds.hg; omega, fun _ => ⟨rfl, flA n f, hgd, fun k x hk => ?_⟩, hbel⟩
      have hkn : k < n := by have := (List.getElem?_eq_some_iff.1 hk).1; simpa using this
      rw [flA_at hkn, hfe]
      simp [hkn] at hk
      rw [hk]
    · obtain ⟨hmc, hmk⟩ := hds.cnt
      have hH0 : (0 : Int) < (H.length : Int) := by omega
      have hHm : H.length ≤ 1000000 := by omega
      have C1 := pop_any W hds.hp hds.heap (by omega) hHm
      have hta := assert_visit
      have HN := Lib.hid hH
      clear hH hds hmc hmk
      go_wp2_with (first
        | (go_at_call 73; refine C1.mono ?_; clear C1 hB; rintro e W1 ⟨⟨nd, ct⟩, rfl, cs1, H1, hp1, hpr, hk1⟩; obtain ⟨i, rfl, hi⟩ : ∃ i : Nat, nd = (i : Int) ∧ i < n := (by
            obtain ⟨⟨k', hw⟩, _⟩ := HD.out.dj.walk ⟨nd, ct⟩ ((hpr.2.2.1 _).2 (.inr rfl))
            have := hw.node hf ⟨hs0, hsn⟩
            exact ⟨nd.toNat, by simp at this; omega, by simp at this; omega⟩); have HP1 := Lib.hid hp1; have HPR := Lib.hid hpr; have HK1 := Lib.hid hk1; have G1 := Lib.hid (hk1.box HD.out.gd (by have := HD.out.hg; omega)); have X1 := Lib.hid (hk1.box HD.out.box (by have := HD.out.hg; omega)); have hd1 : W1.cell? ⟨GD, i, none⟩ = some (.int .i64 (f (i : Int))) := (G1.out.cell i).trans (flA_at hi); have hq1 : W1.frozen? ⟨GD, i, none⟩ = false := G1.out.frozen i; have x10 : W1.cell? ⟨w.heap.size, 0, none⟩ = some (.int .i64 (n : Int)) := X1.out.cell 0; have x11 : W1.cell? ⟨w.heap.size, 1, none⟩ = some (.slice A ls.length c) := X1.out.cell 1; have zG1 : GD < W1.heap.size := G1.out.lt; have zX1 : w.heap.size < W1.heap.size := X1.out.lt; have hne1 : w.heap.size ≠ GD := (by have := HD.out.hg; omega); clear hp1 hpr hk1))
      · -- the node has its distance already
        have hfi : f (i : Int) ≠ -1 := by simpa using ‹(f (i : Int) != -1) = true›
        have h0 : 0 ≤ f (i : Int) := by
          have := HD.out.dj.none (i : Int)
          omega
        have hp := HPR.out
        have hlen := hp.2.1
        refine HK.out (15 * uns f n + H1.length) _ _ (by have := HD.out.cnt.1; omega) ⟨_, _, _, _, _, _, _, _, _, _, _, _, _, _, _, _, _, _, _, _, _, _, _, Ds, f, g, cap, cs1, H1, rfl, ?_⟩
        refine HD.out.step (HP1.out.below ((Below.refl _ _).alloc (Nat.le_refl _) _)) hp.1 (HD.out.dj.skip hp h0) (.inl rfl) (G1.out.alloc _) rfl (by have := HD.out.cnt.1; omega) ((HK1.out.mono (fun j _ e => by omega)).alloc _) (.inl rfl)
      · -- the node gets its distance
        have hfi : f (i : Int) = -1 := by simpa using ‹(f (i : Int) != -1) = false›
        have HFI := Lib.hid hfi
        obtain ⟨WA, hWA⟩ : ∃ WA, (W1.setCell ⟨GD, i, none⟩ (.int .i64 ct)).alloc (.cells #[.int .i64 (i : Int), .int .i64 ct] 85) = WA := ⟨_, rfl⟩
        have zWA : WA.heap.size = W1.heap.size + 1 := by rw [← hWA]; simp
        have KA : Kx (fun j => j = GD) W1 WA := by rw [← hWA]; exact ((Kx.refl (fun j => j = GD) W1).setCell (p := ⟨GD, i, none⟩) rfl _).alloc _
        have GA : Box WA GD 3 (flA n (upd f (i : Int) ct)) := by
          rw [← hWA, ← flA_upd hi]
          exact Box.alloc (heap_set (show W1.heap[GD]? = _ from G1.out) i (.int .i64 ct)) _
        have VA : Box WA W1.heap.size 85 #[.int .i64 (i : Int), .int .i64 ct] := by
          rw [← hWA]
          have := Box.new (W1.setCell ⟨GD, i, none⟩ (.int .i64 ct)) 85 #[.int .i64 (i : Int), .int .i64 ct]
          rwa [World.size_setCell] at this
        rw [hWA]
        clear hWA hd1 hq1 x10 x11
        refine (neighbours_any (n : Int) A ls.length c (i : Int) WA).mono ?_
        rintro e W4 ⟨rfl, hW4⟩
        have hG4 : Box W4 WA.heap.size 25 #[.int .i64 (n : Int), .slice A ls.length c] := by
          rw [← hW4]
          exact (Box.new WA 25 #[.int .i64 (n : Int), .slice A ls.length c]).alloc _
        have hN4 : Box W4 (WA.heap.size + 1) 3 #[.int .i64 (i : Int)] := by
          rw [← hW4]
          have := Box.new (WA.alloc (.cells #[.int .i64 (n : Int), .slice A ls.length c] 25)) 3 #[.int .i64 (i : Int)]
          rwa [World.size_alloc] at this
        have z4 : W4.heap.size = WA.heap.size + 1 + 1 := by rw [← hW4]; simp
        have b4 : Below WA.heap.size WA W4 := by rw [← hW4]; (repeat (first | exact Below.refl _ _ | (refine Below.alloc ?_ (by first | exact Nat.le_refl _ | omega | (simp; done) | (simp; omega)) _) | (refine Below.setCell ?_ (by first | exact Nat.le_refl _ | omega | (simp; done) | (simp; omega)) _) | exact Below.drew ‹_›))
        have K4 : Kx (fun j => j = GD) W1 W4 := KA.then (Kx.of_below (X := fun j => j = GD) b4) (fun _ _ e => e)
        have GD4 := GA.below b4 GA.lt
        have V4 := VA.below b4 VA.lt
        have hds := HD.out
        obtain ⟨g1, g2, g3⟩ := hds.hg
        have zg1 := HP1.out.row.lt
        have zb1 := HP1.out.box.lt
        have HP4 := HP1.out.kx K4 (by omega) (by omega)
        have K14 : Kx (fun j => j = w2.heap.size + 1 ∨ j = g ∨ j = GD) W W4 := (HK1.out.mono (fun j _ e => by omega)).then K4 (fun j _ e => by omega)
        have S4 : Sl W4 w.heap.size A ls := hds.sl.below (K14.below hds.bel.size (fun j e => by omega))
        have hlen1 := HPR.out.2.1
        have hcnt := hds.cnt
        have zw0 := hds.bel.size
        have zk1 := HK1.out.size
        have hta2 := assert_visit
        have SS := Lib.hid S4
        have SP := Lib.hid HP4
        have SG := Lib.hid GD4
        have SV := Lib.hid V4
        have SX := Lib.hid K14
        have SB := Lib.hid (K14.box hds.box (by omega))
        have SN := Lib.hid hN4
        have SH := Lib.hid hG4
        have SC := Lib.hid hcnt
        have SL := Lib.hid hlen1
        have ZA := Lib.hid zWA
        have Z4 := Lib.hid z4
        clear zWA z4 hW4 b4 K4 KA GA VA hds S4 HP4 GD4 V4 K14 hN4 hG4 hcnt hlen1 hfi
        go_wp2
        have zWA : W1.heap.size + 1 ≤ WA.heap.size ∧ WA.heap.size ≤ W1.heap.size + 1 := ⟨Nat.le_of_eq ZA.out.symm, Nat.le_of_eq ZA.out⟩
        have z4 : WA.heap.size + 2 ≤ W4.heap.size ∧ W4.heap.size ≤ WA.heap.size + 2 := ⟨Nat.le_of_eq Z4.out.symm, Nat.le_of_eq Z4.out⟩
        refine (wpIn_wide (n := N)).1 ?_
        refine wpIn_rangeFunc_ownG rfl (by omega) (gf := 100) (lb := #[.pointer (some ⟨WA.heap.size, 0, none⟩), .pointer (some ⟨WA.heap.size + 1, 0, none⟩)]) rfl trivial (enters_of Try.func100 (by kernel_rfl) rfl)
          (nbs_stops (N - 1) (by omega) WA.heap.size (WA.heap.size + 1) w.heap.size (fun k => k < w.heap.size ∨ k = WA.heap.size + 1) A ls c (n : Int) (i : Int) hm W4 (fun b h => .inl h) (.inr rfl) (fun k h => by omega) SH.out SN.out (by omega) SS.out)
          (fun h k => h.trans k) (fun W l o o' hl h _ _ => KeepB.put (w := W4) (fun k h => by omega) W l o o' hl h) (Below.refl _ _) (fun _ => rfl)
          (RI W4 (w2.heap.size + 1) g (i : Int) ls ct H1)
          (fun _ _ _ => False)
          (RI.own W4 (w2.heap.size + 1) g (i : Int) ls ct H1)
          (fun _ _ _ _ _ hs _ _ => hs)
          ⟨⟨g, cap, cs1, H1, SP.out, HPR.out.1, .inl rfl, by simp, fun y => by simp⟩, Kx.refl _ _⟩
          (fun x => { tmps := #[gval (n : Int) A ls.length c, .int .i64 s, .pointer (some ⟨w.heap.size, 0, none⟩), undef, .slice none 0 0, .slice (some ⟨GD, 0, none⟩) n n, .pointer (some ⟨w2.heap.size + 1, 0, none⟩), .pointer (some ⟨W1.heap.size, 0, none⟩), .int .i64 x.1.1, .int .i64 (x.1.2 : Int), .agg #[.int .i64 (n : Int), .slice A ls.length c], .int .i64 s, .slice (some ⟨w.heap.size + 1, 0, none⟩) 1 1, .bool true, .bool false, undef, .slice (some ⟨w1.heap.size, 0, none⟩) 1 1, .pointer (some ⟨w.heap.size, 0, none⟩), .int .i64 (n : Int), .slice (some ⟨GD, 0, none⟩) n n, .int .i64 s, .agg #[.int .i64 s, .int .i64 0], .slice (some ⟨w2.heap.size, 0, none⟩) 1 1, .slice (some ⟨g, 0, none⟩) H.length cap, .int .i64 (H.length : Int), .bool true, .iface 89 (.pointer (some ⟨w2.heap.size + 1, 0, none⟩)), .iface 85 (Vs.v ⟨(i : Int), ct⟩), Vs.v ⟨(i : Int), ct⟩, .slice (some ⟨GD, 0, none⟩) n n, .pointer (some ⟨W1.heap.size, 0, none⟩), .int .i64 (i : Int), .pointer (some ⟨GD, i, none⟩), .int .i64 (f (i : Int)), .bool false, .slice (some ⟨GD, 0, none⟩) n n, .pointer (some ⟨W1.heap.size, 0, none⟩), .int .i64 (i : Int), .pointer (some ⟨W1.heap.size, 1, none⟩), .int .i64 ct, .pointer (some ⟨GD, i, none⟩), .agg #[.int .i64 (n : Int), .slice A ls.length c], .pointer (some ⟨W1.heap.size, 0, none⟩), .int .i64 (i : Int), .func (.func 100) #[] #[.pointer (some ⟨WA.heap.size, 0, none⟩), .pointer (some ⟨WA.heap.size + 1, 0, none⟩)], .int .i64 x.1.1, .int .i64 (x.1.2 : Int), undef, undef, undef, undef, undef, undef, undef, undef, undef, undef, undef, undef, undef, undef, undef], defers := [] }) ?assign ?body ?done ?stop
        case assign =>
          intro l x W K hK
          gi_wp2
          exact hK
        case body =>
          rintro l pre ⟨⟨xv, xk⟩, hxok⟩ W ⟨⟨g', cap', cs', H', hp, hh, hg', hlen, hmem⟩, hk⟩ hlt
          obtain ⟨lk, hlk⟩ : ∃ lk, ls[xk]? = some lk := by obtain ⟨lk, h, _⟩ := hxok; exact ⟨lk, h⟩
          have hxk := (List.getElem?_eq_some_iff.1 hlk).1
          have zk := hk.size
          have sl := SS.out.below (hk.below (B := w.heap.size) (by omega) (fun j e => by omega))
          obtain ⟨bb, off, rfl, hbb, _, _, hc3⟩ := sl xk lk hlk
          have vb := (hk.box SV.out (by omega)).cell 1
          have gb := hk.box SH.out (by omega)
          have hcx := SC.out.1
          have hcy := SC.out.2
          have hcz := SL.out
          have hct : 0 ≤ ct ∧ ct ≤ 160 := by
            have hin : (⟨(i : Int), ct⟩ : Vs) ∈ H := (HPR.out.2.2.1 _).2 (.inr rfl)
            obtain ⟨⟨k', hw⟩, hle⟩ := HD.out.dj.walk _ hin
            exact ⟨hw.pos hf, hle⟩
          obtain ⟨hc0, hc160⟩ := hct
          have hlc := hf.c1 lk (List.mem_of_getElem? hlk)
          have hlc2 := hf.c20 lk (List.mem_of_getElem? hlk)
          have C1 : Calls Try.prog 75 #[.iface 89 (.pointer (some ⟨w2.heap.size + 1, 0, none⟩)), .iface 85 (.agg #[.int .i64 xv, .int .i64 (ct + lk.c)])] W.drew _ := push_any W.drew (hp.keep (w' := W.drew) rfl rfl) hh ⟨xv, ct + lk.c⟩ (by omega)
          have gx : W.cell? ⟨w.heap.size, 1, none⟩ = some (.slice (some ⟨bb, off, none⟩) ls.length c) := by
            exact (hk.box SB.out (by omega)).cell 1
          have hd : 1 ≤ N - 1 - 1 := by omega
          have hmx : Try.prog.follows .mixedOrders = true := by kernel_rfl
          have hwr : IntKind.i64.wrap (ct + lk.c) = ct + lk.c := IntWalk.i64_in _ (by omega)
          have HKX := Lib.hid hk
          have HPX := Lib.hid hp
          have HMX := Lib.hid hmem
          have HLX := Lib.hid hlen
          have HLK := Lib.hid hlk
          have zW := hp.box.lt
          clear hcx hcz hlen hmem hlk hk hp hh sl
          gi_wp2
          refine wpIn_region_tail 13 hmx (by kernel_rfl) (by rfl) ?_
          simp only [List.take_succ_cons, List.take_zero, List.drop_succ_cons, List.drop_zero]
          repeat still_step
          refine wpStill_nil ?_
          gi_wp2_with (refine ⟨trivial, ?_⟩; gi_at_call 75; refine (CallsIn.inRound l (callsIn_wide.2 C1)).mono ?_; clear C1; rintro e W5 ⟨rfl, g5, cap5, cs5, H5, hp5, hr5, hk5, hg5⟩; have HP5 := Lib.hid hp5; have HR5 := Lib.hid hr5; have HK5 := Lib.hid hk5; have HG5 := Lib.hid hg5; clear hp5 hr5 hk5 hg5)
          have hkd : Kx (fun k => k = w2.heap.size + 1 ∨ k = g') W W5 := ((Kx.refl _ W).drew).trans HK5.out
          refine ⟨hkd.keepsFrom (fun k e => ?_) _, ⟨hkd.size, fun k hk => hkd.block k (by omega) (by omega)⟩, RI.push HLK.out HPX.out hg' HLX.out HMX.out HKX.out HP5.out HR5.out hkd HG5.out⟩
          rcases e with rfl | rfl
          · exact ⟨_, _, HPX.out.box⟩
          · exact ⟨_, _, HPX.out.row⟩
        case done =>
          rintro D ys W6 hD rfl ⟨⟨g', cap', cs', H', hp, hh, hg', hlen, hmem⟩, hk⟩ hKD
          have hcx := SC.out.1
          have hcy := SC.out.2
          have hcz := SL.out
          have hct : 0 ≤ ct := by
            have hin : (⟨(i : Int), ct⟩ : Vs) ∈ H := (HPR.out.2.2.1 _).2 (.inr rfl)
            obtain ⟨⟨k', hw⟩, _⟩ := HD.out.dj.walk _ hin
            exact hw.pos hf
          have hfi := HFI.out
          have hun := uns_upd (f := f) (v := (i : Int)) (x := ct) (by omega) (by omega) hct (k := n) (by omega)
          have hnl := nbQ_len (i : Int) ls ls.length
          have hset : DjI (n : Int) ls s (upd f (i : Int) ct) H' := HD.out.dj.settle hf ⟨hs0, hsn⟩ hn8 HPR.out (by dsimp only; omega) (fun y => by
            rw [hmem y]
            refine or_congr Iff.rfl ⟨fun ⟨p, hp, l, hl, hy⟩ => ⟨_, l.c, nbQ_adj.2 ⟨p, hp, rfl, l, hl, rfl⟩, hy⟩, fun ⟨v, e, ha, hy⟩ => ?_⟩
            obtain ⟨p, hp, rfl, l, hl, rfl⟩ := nbQ_adj.1 ha
            exact ⟨p, hp, l, hl, hy⟩)
          have zk := hk.size
          have zx := SX.out.size
          refine HK.out (15 * uns (upd f (i : Int) ct) n + H'.length) _ _ (by omega) ⟨_, _, _, _, _, _, _, _, _, _, _, _, _, _, _, _, _, _, _, _, _, _, _, D :: Ds, upd f (i : Int) ct, g', cap', cs', H', rfl, ?_⟩
          exact HD.out.step hp hh hset (by omega) (hk.box SG.out (by omega)) rfl (by omega) (SX.out.then hk (fun j _ e => by omega)) (.inr ⟨D, rfl, by omega, hKD⟩)
        case stop =>
          rintro D c pre W _ _ h _
          exact h.elim
end Go.Proofs.Ytkcnbgimdiggoab
