/-
  Contracts over this seat: GraphCost, of the program and of the specification.
-/
import Derived.Test.YtbogpcnjniadfaaApp
namespace Go.Proofs.Ytbogpcnjniadfaa
open Go.RowKit

/-- Block b is an array of just these cells. -/
def Box (w : World) (b : Nat) (t : TypeId) (cs : Array Value) : Prop := w.heap[b]? = some (.cells cs t (0, 0))
theorem Box.new (w : World) (t : TypeId) (cs : Array Value) : Box (w.alloc (.cells cs t)) w.heap.size t cs := heap_alloc_new w _
theorem Box.lt {w : World} {b : Nat} {t : TypeId} {cs : Array Value} (h : Box w b t cs) : b < w.heap.size := heap_lt h
theorem Box.below {w w' : World} {b B : Nat} {t : TypeId} {cs : Array Value} (h : Box w b t cs) (hb : Below B w w') (hB : b < B) : Box w' b t cs := (hb.block b hB).trans h
theorem Box.alloc {w : World} {b : Nat} {t : TypeId} {cs : Array Value} (h : Box w b t cs) (o : Obj) : Box (w.alloc o) b t cs := (Below.heap_alloc w o b h.lt).trans h
theorem Box.grown {w w' : World} {b g : Nat} {t : TypeId} {cs : Array Value} (h : Box w b t cs) (hg : w.grownBy w' (some g)) (hne : b ≠ g) : Box w' b t cs :=
  (hg.block b h.lt (fun e => hne (Option.some.inj e))).trans h
theorem Box.cell {w : World} {b : Nat} {t : TypeId} {cs : Array Value} (h : Box w b t cs) (i : Nat) : w.cell? ⟨b, i, none⟩ = cs[i]? := cell_of_row w b i cs t (0, 0) h
theorem Box.frozen {w : World} {b : Nat} {t : TypeId} {cs : Array Value} (h : Box w b t cs) (i : Nat) : w.frozen? ⟨b, i, none⟩ = false := heap_frozen h i
/-- What the walk reads of a block of two cells. -/
theorem Box.two {w : World} {b : Nat} {t : TypeId} {v0 v1 : Value} (h : Box w b t #[v0, v1]) : b < w.heap.size ∧ w.cell? ⟨b, 0, none⟩ = some v0 ∧ w.cell? ⟨b, 1, none⟩ = some v1 ∧ w.frozen? ⟨b, 0, none⟩ = false ∧ w.frozen? ⟨b, 1, none⟩ = false :=
  ⟨h.lt, h.cell 0, h.cell 1, h.frozen 0, h.frozen 1⟩

/-- A graph and a Boolean, the graph's links in memory of its own. -/
def GRes (m : Int) (ls : List Lk) (ok : Bool) (w : World) (e : Ending) (w' : World) : Prop :=
  ∃ A g c, e = .returned (.tuple #[gval m A ls.length c, .bool ok]) ∧ w.heap.size ≤ g ∧ Own1 w' A g ls ∧ Below w.heap.size w w'

theorem hasLink_any (n : Int) (A : Option Addr) (len c : Nat) (x : Int) (w : World) (_hm : len ≤ 2000000) :
   Calls Try.prog 56 #[gval n A len c, .int .i64 x] w fun e w' => e = .returned (.bool (inB x 0 ((len : Int) - 1))) ∧ Below w.heap.size w w' := by
  go_enter Try.func56, Try.ntmps56
  go_wp2
  all_goals
    go_ret
    exact ⟨ret_bool (by unfold inB; rw [Bool.eq_iff_iff]; simp; omega), by (repeat (first | exact Below.refl _ _ | (refine Below.alloc ?_ (by first | exact Nat.le_refl _ | omega | (simp; done) | (simp; omega)) _) | (refine Below.setCell ?_ (by first | exact Nat.le_refl _ | omega | (simp; done) | (simp; omega)) _) | exact Below.drew ‹_›))⟩

def costOk (n : Int) (ls : List Lk) (x cost : Int) : Bool := gvB n ls && inB x 0 ((ls.length : Int) - 1) && inB cost 1 20
def costLs (ls : List Lk) (x : Nat) (cost : Int) : List Lk := match ls[x]? with
  | some l => ls.set x ⟨l.a, l.b, cost⟩
  | none => ls
theorem costLs_len (ls : List Lk) (x : Nat) (cost : Int) : (costLs ls x cost).length = ls.length := by
  unfold costLs; split <;> simp

theorem Own1.setCost {w : World} {A : Option Addr} {g : Nat} {ls : List Lk} (h : Own1 w A g ls) {x : Nat} (hx : x < ls.length) (cost : Int) :
    Own1 (w.setCell ⟨g, x * 3 + 2, none⟩ (.int .i64 cost)) A g (costLs ls x cost) := fun hp => by
  rw [costLs_len] at hp
  obtain ⟨e, cs, hh, hc⟩ := h hp
  obtain ⟨l, hl⟩ : ∃ l, ls[x]? = some l := ⟨_, List.getElem?_eq_getElem hx⟩
  refine ⟨e, _, heap_set hh _ _, fun k m hk => ?_⟩
  have hs := (Array.getElem?_eq_some_iff.1 (hc x l hl).2.2).1
  unfold costLs at hk
  rw [hl] at hk
  simp only [Array.getElem?_setIfInBounds]
  by_cases hkx : x = k
  · subst hkx
    have hm : m = ⟨l.a, l.b, cost⟩ := by simpa [hx] using hk.symm
    subst hm
    obtain ⟨h1, h2, h3⟩ := hc x l hl
    refine ⟨?_, ?_, ?_⟩
    · rw [if_neg (by omega)]; exact h1
    · rw [if_neg (by omega)]; exact h2
    · rw [if_pos rfl, if_pos hs]
  · have hk' : ls[k]? = some m := by simpa [List.getElem?_set, hkx] using hk
    obtain ⟨h1, h2, h3⟩ := hc k m hk'
    refine ⟨?_, ?_, ?_⟩
    · rw [if_neg (by omega)]; exact h1
    · rw [if_neg (by omega)]; exact h2
    · rw [if_neg (by omega)]; exact h3

theorem Own1.set_far {w : World} {A : Option Addr} {g : Nat} {ls : List Lk} (h : Own1 w A g ls) {p : Addr} (hp : g ≠ p.block) (u : Value) : Own1 (w.setCell p u) A g ls := fun hl => by
  obtain ⟨e, ha⟩ := h hl
  exact ⟨e, ha.far hp u⟩

set_option maxHeartbeats 800000 in
theorem cost_impl (n : Int) (g : Nat) (ls : List Lk) (c : Nat) (x cost : Int) (w : World) (hm : ls.length ≤ 2000000) (h : Sl w w.heap.size (some ⟨g, 0, none⟩) ls) :
   Calls Try.prog 34 #[gval n (some ⟨g, 0, none⟩) ls.length c, .int .i64 x, .int .i64 cost] w
     (if costOk n ls x cost = true then GRes n (costLs ls x.toNat cost) true w else GRes 0 [] false w) := by
  have H := Lib.hid h
  clear h
  by_cases hok : costOk n ls x cost = true
  · rw [if_pos hok]
    have hok' := hok
    unfold costOk at hok'
    simp only [Bool.and_eq_true] at hok'
    obtain ⟨⟨hv, hx⟩, hc⟩ := hok'
    have C1 : ∀ W : World, Sl W W.heap.size (some ⟨g, 0, none⟩) ls → Calls Try.prog 18 #[gval n (some ⟨g, 0, none⟩) ls.length c] W fun e w' => e = .returned (.bool true) ∧ Below W.heap.size W w' := fun W hW => by
      have := valid_impl n _ ls c W hm hW
      rwa [hv] at this
    have C2 : ∀ W : World, Calls Try.prog 56 #[gval n (some ⟨g, 0, none⟩) ls.length c, .int .i64 x] W fun e w' => e = .returned (.bool true) ∧ Below W.heap.size W w' := fun W => by
      have := hasLink_any n (some ⟨g, 0, none⟩) ls.length c x W hm
      rwa [hx] at this
    have C3 : ∀ W : World, Calls Try.prog 65 #[.int .i64 cost] W fun e w' => e = .returned (.bool true) ∧ W = w' := fun W => by
      have := costValid_any cost W
      rwa [hc] at this
    unfold inB at hx
    simp at hx
    obtain ⟨hx0, hx1⟩ := hx
    obtain ⟨k, rfl⟩ : ∃ k : Nat, x = (k : Int) := ⟨x.toNat, by omega⟩
    have hkl : k < ls.length := by omega
    clear hok hv hc hx1
    go_enter Try.func34, Try.ntmps34
    go_wp2_with (first
      | (go_at_call 18; refine (C1 _ ((H.out.below (by (repeat (first | exact Below.refl _ _ | (refine Below.alloc ?_ (by first | exact Nat.le_refl _ | omega | (simp; done) | (simp; omega)) _) | (refine Below.setCell ?_ (by first | exact Nat.le_refl _ | omega | (simp; done) | (simp; omega)) _) | exact Below.drew ‹_›)))).more (by simp; omega))).mono ?_; rintro e w1 ⟨rfl, hb1⟩; have K1 := Box.below ((Box.new w 29 #[.int .i64 n, .slice (some ⟨g, 0, none⟩) ls.length c]).alloc (.cells #[.int .i64 0, .slice none 0 0] 29)) hb1 (by simp; omega); have L1 := Box.below (Box.new (w.alloc (.cells #[.int .i64 n, .slice (some ⟨g, 0, none⟩) ls.length c] 29)) 29 #[.int .i64 0, .slice none 0 0]) hb1 (by simp); have B1 := Lib.hid (Below.trans (B := w.heap.size) (a := w) (by (repeat (first | exact Below.refl _ _ | (refine Below.alloc ?_ (by first | exact Nat.le_refl _ | omega | (simp; done) | (simp; omega)) _) | (refine Below.setCell ?_ (by first | exact Nat.le_refl _ | omega | (simp; done) | (simp; omega)) _) | exact Below.drew ‹_›))) (hb1.mono (by simp; omega))); clear hb1; obtain ⟨z10, e10, e11, _, _⟩ := K1.two)
      | (go_at_call 56; refine (C2 _).mono ?_; rintro e w2 ⟨rfl, hb2⟩; have K2 := K1.below hb2 K1.lt; have L2 := Lib.hid (L1.below hb2 L1.lt); have B2 := Lib.hid (B1.out.trans (hb2.mono (by omega))); clear hb2 e10 e11; obtain ⟨z20, e20, e21, _, _⟩ := K2.two)
      | (go_at_call 65; refine (C3 _).mono ?_; rintro e w3 ⟨rfl, rfl⟩)
      | fail)
    refine (clone_any g ls c _ hm ((H.out.below B2.out).more (Nat.le_of_lt z20))).mono ?_
    rintro e w3 ⟨A', g', c', rfl, hg', ho, hb3⟩
    have K3 := K2.below hb3 K2.lt
    have L3 := Lib.hid (L2.out.below hb3 L2.out.lt)
    have B3 := Lib.hid (B2.out.trans (hb3.mono (Nat.le_of_lt z20)))
    have HO := Lib.hid ho
    obtain ⟨rfl, harr⟩ := ho (by omega)
    obtain ⟨cs, hcs, hsz⟩ := arr_size harr
    have hsz' := hsz (by omega)
    have hf := heap_frozen hcs
    obtain ⟨v2, hd2⟩ := cell_in hcs (i := k * 3 + 2) (by omega)
    have hne1 : w.heap.size ≠ g' := by omega
    have hne2 : w.heap.size + 1 ≠ g' := by have := L2.out.lt; simp at this; omega
    clear hcs hsz hb3 harr ho e20 e21 K1 K2
    obtain ⟨z30, e30, e31, _, _⟩ := K3.two
    obtain ⟨z31, f30, f31, q30, q31⟩ := L3.out.two
    simp only [World.size_alloc] at f30 f31 q30 q31
    go_wp2_with fail
    refine bodyPost_ret (v := .tuple #[gval n (some ⟨g', 0, none⟩) ls.length c', .bool true]) (by simp [results, Try.results34, go_sem, f30, f31]) rfl ⟨some ⟨g', 0, none⟩, g', c', by rw [costLs_len], by omega, ?_, ?_⟩
    · exact (((HO.out.setCost hkl cost).set_far (p := ⟨w.heap.size + 1, 0, none⟩) hne2.symm _).set_far (p := ⟨w.heap.size + 1, 1, none⟩) hne2.symm _)
    · exact ((B3.out.setCell (by simp; omega) _).setCell (by simp) _).setCell (by simp) _
  · rw [if_neg hok]
    unfold costOk at hok
    cases hv : gvB n ls with
    | false =>
      clear hok
      have C1 : ∀ W : World, Sl W W.heap.size (some ⟨g, 0, none⟩) ls → Calls Try.prog 18 #[gval n (some ⟨g, 0, none⟩) ls.length c] W fun e w' => e = .returned (.bool false) ∧ Below W.heap.size W w' := fun W hW => by
        have := valid_impl n _ ls c W hm hW
        rwa [hv] at this
      go_enter Try.func34, Try.ntmps34
      go_wp2_with (first
        | (go_at_call 18; refine (C1 _ ((H.out.below (by (repeat (first | exact Below.refl _ _ | (refine Below.alloc ?_ (by first | exact Nat.le_refl _ | omega | (simp; done) | (simp; omega)) _) | (refine Below.setCell ?_ (by first | exact Nat.le_refl _ | omega | (simp; done) | (simp; omega)) _) | exact Below.drew ‹_›)))).more (by simp; omega))).mono ?_; rintro e w1 ⟨rfl, hb1⟩; have K1 := Box.below ((Box.new w 29 #[.int .i64 n, .slice (some ⟨g, 0, none⟩) ls.length c]).alloc (.cells #[.int .i64 0, .slice none 0 0] 29)) hb1 (by simp; omega); have L1 := Box.below (Box.new (w.alloc (.cells #[.int .i64 n, .slice (some ⟨g, 0, none⟩) ls.length c] 29)) 29 #[.int .i64 0, .slice none 0 0]) hb1 (by simp); have B1 := Lib.hid (Below.trans (B := w.heap.size) (a := w) (by (repeat (first | exact Below.refl _ _ | (refine Below.alloc ?_ (by first | exact Nat.le_refl _ | omega | (simp; done) | (simp; omega)) _) | (refine Below.setCell ?_ (by first | exact Nat.le_refl _ | omega | (simp; done) | (simp; omega)) _) | exact Below.drew ‹_›))) (hb1.mono (by simp; omega))); clear hb1; obtain ⟨z10, e10, e11, _, _⟩ := K1.two; obtain ⟨z11, f10, f11, q10, q11⟩ := L1.two; simp only [World.size_alloc] at f10 f11 q10 q11)
        | fail)
      refine bodyPost_ret (v := .tuple #[gval 0 none 0 0, .bool false]) (by simp [results, Try.results34, go_sem, f10, f11]) rfl ⟨none, w.heap.size, 0, rfl, Nat.le_refl _, fun h => absurd h (by simp), ?_⟩
      exact (B1.out.setCell (by simp) _).setCell (by simp) _
    | true =>
      rw [hv] at hok
      cases hx : inB x 0 ((ls.length : Int) - 1) with
      | false =>
        clear hok
        have C1 : ∀ W : World, Sl W W.heap.size (some ⟨g, 0, none⟩) ls → Calls Try.prog 18 #[gval n (some ⟨g, 0, none⟩) ls.length c] W fun e w' => e = .returned (.bool true) ∧ Below W.heap.size W w' := fun W hW => by
          have := valid_impl n _ ls c W hm hW
          rwa [hv] at this
        have C2 : ∀ W : World, Calls Try.prog 56 #[gval n (some ⟨g, 0, none⟩) ls.length c, .int .i64 x] W fun e w' => e = .returned (.bool false) ∧ Below W.heap.size W w' := fun W => by
          have := hasLink_any n (some ⟨g, 0, none⟩) ls.length c x W hm
          rwa [hx] at this
        go_enter Try.func34, Try.ntmps34
        go_wp2_with (first
          | (go_at_call 18; refine (C1 _ ((H.out.below (by (repeat (first | exact Below.refl _ _ | (refine Below.alloc ?_ (by first | exact Nat.le_refl _ | omega | (simp; done) | (simp; omega)) _) | (refine Below.setCell ?_ (by first | exact Nat.le_refl _ | omega | (simp; done) | (simp; omega)) _) | exact Below.drew ‹_›)))).more (by simp; omega))).mono ?_; rintro e w1 ⟨rfl, hb1⟩; have K1 := Box.below ((Box.new w 29 #[.int .i64 n, .slice (some ⟨g, 0, none⟩) ls.length c]).alloc (.cells #[.int .i64 0, .slice none 0 0] 29)) hb1 (by simp; omega); have L1 := Box.below (Box.new (w.alloc (.cells #[.int .i64 n, .slice (some ⟨g, 0, none⟩) ls.length c] 29)) 29 #[.int .i64 0, .slice none 0 0]) hb1 (by simp); have B1 := Lib.hid (Below.trans (B := w.heap.size) (a := w) (by (repeat (first | exact Below.refl _ _ | (refine Below.alloc ?_ (by first | exact Nat.le_refl _ | omega | (simp; done) | (simp; omega)) _) | (refine Below.setCell ?_ (by first | exact Nat.le_refl _ | omega | (simp; done) | (simp; omega)) _) | exact Below.drew ‹_›))) (hb1.mono (by simp; omega))); clear hb1; obtain ⟨z10, e10, e11, _, _⟩ := K1.two; obtain ⟨z11, f10, f11, q10, q11⟩ := L1.two; simp only [World.size_alloc] at f10 f11 q10 q11)
          | (go_at_call 56; refine (C2 _).mono ?_; rintro e w2 ⟨rfl, hb2⟩; have K2 := K1.below hb2 K1.lt; have L2 := L1.below hb2 L1.lt; have B2 := Lib.hid (B1.out.trans (hb2.mono (by omega))); clear hb2 e10 e11 f10 f11 q10 q11; obtain ⟨z20, e20, e21, _, _⟩ := K2.two; obtain ⟨z21, f20, f21, q20, q21⟩ := L2.two; simp only [World.size_alloc] at f20 f21 q20 q21)
          | fail)
        refine bodyPost_ret (v := .tuple #[gval 0 none 0 0, .bool false]) (by simp [results, Try.results34, go_sem, f20, f21]) rfl ⟨none, w.heap.size, 0, rfl, Nat.le_refl _, fun h => absurd h (by simp), ?_⟩
        exact (B2.out.setCell (by simp) _).setCell (by simp) _
      | true =>
        rw [hx] at hok
        have hc : inB cost 1 20 = false := by simpa using hok
        clear hok
        have C1 : ∀ W : World, Sl W W.heap.size (some ⟨g, 0, none⟩) ls → Calls Try.prog 18 #[gval n (some ⟨g, 0, none⟩) ls.length c] W fun e w' => e = .returned (.bool true) ∧ Below W.heap.size W w' := fun W hW => by
          have := valid_impl n _ ls c W hm hW
          rwa [hv] at this
        have C2 : ∀ W : World, Calls Try.prog 56 #[gval n (some ⟨g, 0, none⟩) ls.length c, .int .i64 x] W fun e w' => e = .returned (.bool true) ∧ Below W.heap.size W w' := fun W => by
          have := hasLink_any n (some ⟨g, 0, none⟩) ls.length c x W hm
          rwa [hx] at this
        have C3 : ∀ W : World, Calls Try.prog 65 #[.int .i64 cost] W fun e w' => e = .returned (.bool false) ∧ W = w' := fun W => by
          have := costValid_any cost W
          rwa [hc] at this
        go_enter Try.func34, Try.ntmps34
        go_wp2_with (first
          | (go_at_call 18; refine (C1 _ ((H.out.below (by (repeat (first | exact Below.refl _ _ | (refine Below.alloc ?_ (by first | exact Nat.le_refl _ | omega | (simp; done) | (simp; omega)) _) | (refine Below.setCell ?_ (by first | exact Nat.le_refl _ | omega | (simp; done) | (simp; omega)) _) | exact Below.drew ‹_›)))).more (by simp; omega))).mono ?_; rintro e w1 ⟨rfl, hb1⟩; have K1 := Box.below ((Box.new w 29 #[.int .i64 n, .slice (some ⟨g, 0, none⟩) ls.length c]).alloc (.cells #[.int .i64 0, .slice none 0 0] 29)) hb1 (by simp; omega); have L1 := Box.below (Box.new (w.alloc (.cells #[.int .i64 n, .slice (some ⟨g, 0, none⟩) ls.length c] 29)) 29 #[.int .i64 0, .slice none 0 0]) hb1 (by simp); have B1 := Lib.hid (Below.trans (B := w.heap.size) (a := w) (by (repeat (first | exact Below.refl _ _ | (refine Below.alloc ?_ (by first | exact Nat.le_refl _ | omega | (simp; done) | (simp; omega)) _) | (refine Below.setCell ?_ (by first | exact Nat.le_refl _ | omega | (simp; done) | (simp; omega)) _) | exact Below.drew ‹_›))) (hb1.mono (by simp; omega))); clear hb1; obtain ⟨z10, e10, e11, _, _⟩ := K1.two; obtain ⟨z11, f10, f11, q10, q11⟩ := L1.two; simp only [World.size_alloc] at f10 f11 q10 q11)
          | (go_at_call 56; refine (C2 _).mono ?_; rintro e w2 ⟨rfl, hb2⟩; have K2 := K1.below hb2 K1.lt; have L2 := L1.below hb2 L1.lt; have B2 := Lib.hid (B1.out.trans (hb2.mono (by omega))); clear hb2 e10 e11 f10 f11 q10 q11; obtain ⟨z20, e20, e21, _, _⟩ := K2.two; obtain ⟨z21, f20, f21, q20, q21⟩ := L2.two; simp only [World.size_alloc] at f20 f21 q20 q21)
          | (go_at_call 65; refine (C3 _).mono ?_; rintro e w3 ⟨rfl, rfl⟩)
          | fail)
        refine bodyPost_ret (v := .tuple #[gval 0 none 0 0, .bool false]) (by simp [results, Try.results34, go_sem, f20, f21]) rfl ⟨none, w.heap.size, 0, rfl, Nat.le_refl _, fun h => absurd h (by simp), ?_⟩
        exact (B2.out.setCell (by simp) _).setCell (by simp) _

end Go.Proofs.Ytbogpcnjniadfaa
