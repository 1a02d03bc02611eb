/-
  A contract over this seat: the program's Distances.
-/
import Derived.Test.YtigamnnboojiiaaHs
import Derived.Test.YtigamnnboojiiaaItS
import Derived.Test.YtigamnnboojiiaaRep
import Derived.Test.YtigamnnboojiiaaVwi
namespace Go.Proofs.Ytigamnnboojiiaa
open Go.RowKit Go.Shelf

attribute [local go_sem] Oper.semAt_some

/-! ### Marks of loops over iterators that have ended -/
def mkD (D : Nat) : Deferred := { target := .collected D, args := #[] }
theorem leaves_marks {F : Fence} {n : Nat} {P : Program} {fn : Func} {tmps : Array Value} {R : Ending → World → Prop} : ∀ (Ds : List Nat) (W : World), Ds.Nodup → (∀ D ∈ Ds, W.heap[D]? = some (.deferred (some []))) →
    (∀ W', Kx (fun k => k ∈ Ds) W W' → LeavesIn F n P fn tmps R [] .returning W') → LeavesInM F n P fn tmps R (Ds.map mkD) .returning W
  | [], W, _, _, h => h W (Kx.refl _ _)
  | D :: Ds, W, hn, hm, h => by
    have hK := hm D (by simp)
    have hn' := List.nodup_cons.1 hn
    refine ⟨by simp, .inl ⟨D, _, rfl, run_takeDeferred hK, leaves_marks Ds _ hn'.2 (fun E hE => ?_) (fun W' hk => h W' ?_)⟩⟩
    · exact (World.putObj_heap_other (by intro e; subst e; exact hn'.1 hE)).trans (hm E (by simp [hE]))
    · have h1 : Kx (fun k => k ∈ D :: Ds) W (W.putObj D (.deferred none)) :=
        ⟨rfl, rfl, rfl, by simp [World.putObj], fun k hk hx => World.putObj_heap_other (fun e => hx (by subst e; simp))⟩
      exact h1.trans (hk.mono fun k _ hk => by simp [hk])

/-- A loop whose measure stands in no slot. -/
theorem wp_loop_gh {P : Program} {Q : Exit → Act → World → Prop} {a : Act} {w : World} {c : Code} (I : Nat → Act → World → Prop) (n₀ : Nat) (h₀ : I n₀ a w)
    (round : ∀ n a w, I n a w → ∀ K : Act → World → Prop, (∀ n' a' w', n' < n → I n' a' w' → K a' w') → c.wp P (Exit.then K Q) a w) : (Code.loop c).wp P Q a w :=
  wp_loop_ghost I n₀ h₀ fun n a w h => round n a w h _ fun n' _ _ hn hI => ⟨n', hn, hI⟩

def distL (nn : Int) (ls : List Lk) (s : Int) : List Int := if vwB nn ls [s] = true then (List.range nn.toNat).map (fun i : Nat => bf nn ls s (i : Int)) else []

theorem gvB_fit {nn : Int} {ls : List Lk} (h : gvB nn ls = true) : Fit nn ls ∧ 1 ≤ nn ∧ nn ≤ 8 ∧ ls.length ≤ 14 := by
  unfold gvB at h
  simp only [Bool.and_eq_true, List.all_eq_true] at h
  obtain ⟨⟨h1, h2⟩, h3⟩ := h
  have hall : ∀ l ∈ ls, allowsB nn l = true := fun l hl => by
    obtain ⟨j, hj⟩ := List.getElem?_of_mem hl
    have := h3 j (by have := (List.getElem?_eq_some_iff.1 hj).1; simpa using this)
    unfold okAt at this
    rw [hj] at this
    simp only [Bool.and_eq_true] at this
    exact this.1
  unfold inB at h1
  simp at h1 h2
  have hu : ∀ l ∈ ls, (0 ≤ l.a ∧ l.a ≤ nn - 1) ∧ (0 ≤ l.b ∧ l.b ≤ nn - 1) ∧ l.a < l.b ∧ 1 ≤ l.c ∧ l.c ≤ 20 := fun l hl => by
    have := hall l hl
    unfold allowsB inB at this
    simp at this
    omega
  exact ⟨⟨fun l hl => by have := hu l hl; omega, fun l hl => by have := hu l hl; omega, fun l hl => by have := hu l hl; omega, fun l hl => by have := hu l hl; omega, fun l hl => by have := hu l hl; omega⟩, h1.1, h1.2, h2⟩

/-! ### The state between two rounds -/
def flA (n : Nat) (f : Int → Int) : Array Value := ((List.range n).map (fun i : Nat => Value.int .i64 (f (i : Int)))).toArray
theorem flA_at {n : Nat} {f : Int → Int} {i : Nat} (h : i < n) : (flA n f)[i]? = some (.int .i64 (f (i : Int))) := by
  unfold flA
  simp [h]
theorem flA_init (n : Nat) : flA n (fun _ => -1) = (List.replicate n (Value.int .i64 (-1))).toArray := by
  unfold flA
  congr 1
  refine List.ext_getElem (by simp) fun i h1 h2 => by simp
theorem flA_upd {n : Nat} {f : Int → Int} {i : Nat} {x : Int} (_h : i < n) : (flA n f).setIfInBounds i (.int .i64 x) = flA n (upd f (i : Int) x) := by
  unfold flA upd
  refine Array.ext_getElem? fun j => ?_
  rw [Array.getElem?_setIfInBounds]
  by_cases hj : j < n
  · by_cases hij : i = j
    · subst hij; simp [hj]
    · rw [if_neg hij]
      have : (j : Int) ≠ (i : Int) := by omega
      simp [hj, this]
  · have : i ≠ j := by omega
    rw [if_neg this]
    simp [hj]

/-- base: the heap's size before the call; B0: the graph's box; GD: the distances; gV: the heap's first row; BW: the heap's box. -/
structure DS (w : World) (n : Nat) (ls : List Lk) (A : Option Addr) (c : Nat) (s : Int) (GD BW : Nat) (k : Nat) (Ds : List Nat) (f : Int → Int) (g cap : Nat) (cs : Array Value) (H : List Vs) (W : World) : Prop where
  hp : HpW W BW g cap cs H
  heap : Hp H
  dj : DjI n ls s f H
  hg : GD < g ∧ GD < BW ∧ w.heap.size < GD
  gd : Box W GD 3 (flA n f)
  cnt : 15 * uns f n + H.length = k ∧ k ≤ 121
  box : Box W w.heap.size 30 #[.int .i64 (n : Int), .slice A ls.length c]
  sl : Sl W w.heap.size A ls
  bel : Below w.heap.size w W
  nod : Ds.Nodup
  marks : ∀ D ∈ Ds, W.heap[D]? = some (.deferred (some [])) ∧ w.heap.size ≤ D

theorem box_not_mark {W : World} {b D : Nat} {t : TypeId} {cs : Array Value} (h : Box W b t cs) (hd : W.heap[D]? = some (.deferred (some []))) : D ≠ b := by
  rintro rfl
  rw [show W.heap[D]? = _ from h] at hd
  cases hd

theorem DS.step {w : World} {n : Nat} {ls : List Lk} {A : Option Addr} {c : Nat} {s : Int} {GD BW k : Nat} {Ds : List Nat} {f : Int → Int} {g cap : Nat} {cs : Array Value} {H : List Vs} {W : World} (h : DS w n ls A c s GD BW k Ds f g cap cs H W)
    {W' : World} {k' : Nat} {Ds' : List Nat} {f' : Int → Int} {g' cap' : Nat} {cs' : Array Value} {H' : List Vs} (hp' : HpW W' BW g' cap' cs' H') (hh' : Hp H') (hd' : DjI n ls s f' H') (hg' : g' = g ∨ W.heap.size ≤ g') (gd' : Box W' GD 3 (flA n f'))
    (cnt' : 15 * uns f' n + H'.length = k') (hk' : k' ≤ k) (hk : Kx (fun i => i = BW ∨ i = g ∨ i = GD) W W') (hD : Ds' = Ds ∨ ∃ D, Ds' = D :: Ds ∧ W.heap.size ≤ D ∧ W'.heap[D]? = some (.deferred (some []))) :
    DS w n ls A c s GD BW k' Ds' f' g' cap' cs' H' W' := by
  obtain ⟨h1, h2, h3⟩ := h.hg
  have zg := h.hp.row.lt
  have zb := h.hp.box.lt
  have zd := h.gd.lt
  have hold : ∀ D ∈ Ds, W'.heap[D]? = some (.deferred (some [])) ∧ w.heap.size ≤ D := fun D hd => by
    obtain ⟨m1, m2⟩ := h.marks D hd
    have n1 := box_not_mark h.hp.box m1
    have n2 := box_not_mark h.hp.row m1
    have n3 := box_not_mark h.gd m1
    refine ⟨(hk.block D (Array.getElem?_eq_some_iff.1 m1).1 (fun e => ?_)).trans m1, m2⟩
    rcases e with e | e | e
    · exact n1 e
    · exact n2 e
    · exact n3 e
  have hb : Below w.heap.size W W' := hk.below h.bel.size (fun i e => by omega)
  refine ⟨hp', hh', hd', ⟨by omega, h2, h3⟩, gd', ⟨cnt', by have := h.cnt; omega⟩, hk.box h.box (by omega), h.sl.below hb, h.bel.trans hb, ?_, ?_⟩
  · rcases hD with rfl | ⟨D, rfl, hD, _⟩
    · exact h.nod
    · refine List.nodup_cons.2 ⟨fun hm => ?_, h.nod⟩
      have := (Array.getElem?_eq_some_iff.1 (h.marks D hm).1).1
      omega
  · rcases hD with rfl | ⟨D, rfl, hD, hm⟩
    · exact hold
    · intro E hE
      rcases List.mem_cons.1 hE with rfl | hE
      · exact ⟨hm, by have := h.bel.size; omega⟩
      · exact hold E hE

/-- The state while a node's neighbours come. -/
def RI (W4 : World) (BW g : Nat) (i : Int) (ls : List Lk) (ct : Int) (H1 : List Vs) (pre : List (NbA i ls)) (W : World) : Prop :=
  (∃ g' cap' cs' H', HpW W BW g' cap' cs' H' ∧ Hp H' ∧ (g' = g ∨ W4.heap.size ≤ g') ∧ H'.length = H1.length + pre.length ∧
    ∀ y, y ∈ H' ↔ y ∈ H1 ∨ ∃ p ∈ pre, ∃ l, ls[p.1.2]? = some l ∧ y = ⟨p.1.1, ct + l.c⟩) ∧ Kx (fun k => k = BW ∨ k = g) W4 W
theorem box_not_row {W : World} {b : Nat} {t : TypeId} {cs : Array Value} (h : Box W b t cs) {row : Option Nat} {B : Nat} (hr : ∀ r, row = some r → B ≤ r ∧ ∃ o : Obj, W.heap[r]? = some o ∧ o.isCells = false) : some b ≠ row := by
  intro e
  obtain ⟨_, o, ho, hc⟩ := hr b e.symm
  rw [show W.heap[b]? = _ from h] at ho
  cases ho
  cases hc
theorem RI.own (W4 : World) (BW g : Nat) (i : Int) (ls : List Lk) (ct : Int) (H1 : List Vs) : OwnFrom W4.heap.size (RI W4 BW g i ls ct H1) := by
  rintro pre X Y row ⟨⟨g', cap', cs', H', hp, rest⟩, hk⟩ hg hr
  refine ⟨⟨g', cap', cs', H', hp.keep (hg.block _ hp.box.lt (box_not_row hp.box hr)) (hg.block _ hp.row.lt (box_not_row hp.row hr)), rest⟩, ?_⟩
  exact ⟨hg.os.trans hk.os, hg.tape.trans hk.tape, hg.output.trans hk.output, Nat.le_trans hk.size hg.size, fun j hj hx => (hg.block j (Nat.lt_of_lt_of_le hj hk.size) (fun e => by have := (hr j e.symm).1; omega)).trans (hk.block j hj hx)⟩
theorem Kx.keepsFrom {X : Nat → Prop} {W W' : World} (h : Kx X W W') (hx : ∀ k, X k → ∃ t cs, Box W k t cs) (B : Nat) : KeepsFrom B W W' :=
  ⟨h.size, fun k o _ hk ho => (h.block k (Array.getElem?_eq_some_iff.1 hk).1 (fun e => by
    obtain ⟨t, cs, hb⟩ := hx k e
    rw [show W.heap[k]? = _ from hb] at hk
    cases hk
    cases ho)).trans hk⟩
/-- One neighbour more waits. -/
theorem RI.push {W4 : World} {BW g : Nat} {i : Int} {ls : List Lk} {ct : Int} {H1 : List Vs} {pre : List (NbA i ls)} {x : NbA i ls} {l : Lk} (hl : ls[x.1.2]? = some l) {W W' : World} {g' cap' g2 cap2 : Nat} {cs' cs2 : Array Value} {H' H2 : List Vs}
    (_hp : HpW W BW g' cap' cs' H') (hg : g' = g ∨ W4.heap.size ≤ g') (hlen : H'.length = H1.length + pre.length) (hmem : ∀ y, y ∈ H' ↔ y ∈ H1 ∨ ∃ p ∈ pre, ∃ l, ls[p.1.2]? = some l ∧ y = ⟨p.1.1, ct + l.c⟩) (hk : Kx (fun k => k = BW ∨ k = g) W4 W)
    (hp2 : HpW W' BW g2 cap2 cs2 H2) (hr : PushR H' ⟨x.1.1, ct + l.c⟩ H2) (hk2 : Kx (fun k => k = BW ∨ k = g') W W') (hg2 : g2 = g' ∨ W.heap.size ≤ g2) : RI W4 BW g i ls ct H1 (pre ++ [x]) W' := by
  have hz := hk.size
  refine ⟨⟨g2, cap2, cs2, H2, hp2, hr.1, by omega, by rw [hr.2.1, hlen]; simp; omega, fun y => ?_⟩, hk.then hk2 (fun j hj e => by omega)⟩
  rw [hr.2.2 y, hmem y]
  constructor
  · rintro ((h | ⟨p, hp, q⟩) | h)
    · exact .inl h
    · exact .inr ⟨p, by simp [hp], q⟩
    · exact .inr ⟨x, by simp, l, hl, h⟩
  · rintro (h | ⟨p, hp, m, hm, hy⟩)
    · exact .inl (.inl h)
    · rcases List.mem_append.1 hp with hp | hp
      · exact .inl (.inr ⟨p, hp, m, hm, hy⟩)
      · obtain rfl : p = x := by simpa using hp
        rw [hl] at hm
        cases hm
        exact .inr hy

end Go.Proofs.Ytigamnnboojiiaa
