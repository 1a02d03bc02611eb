/-
  A contract over this seat: the program's Distances.
-/
import Derived.Test.YtohflcbpjjnccabB2
import Derived.Test.YtohflcbpjjnccabB3
namespace Go.Proofs.Ytohflcbpjjnccab
open Go.RowKit Go.Shelf

attribute [local go_sem] Oper.semAt_some

/-! ### Marks of loops over iterators that have ended -/
def mkD (D : Nat) : Deferred := { target := .collected D, args := #[] }
theorem leaves_marks {F : Fence} {n : Nat} {P : Program} {fn : Func} {tmps : Array Value} {R : Ending → World → Prop} : ∀ (Ds : List Nat) (W : World), Ds.Nodup → (∀ D ∈ Ds, W.heap[D]? = some (.deferred (some []))) →
    (∀ W', Kx (fun k => k ∈ Ds) W W' → LeavesIn F n P fn tmps R [] .returning W') → LeavesInM F n P fn tmps R (Ds.map mkD) .returning W
  | [], W, _, _, h => h W (Kx.refl _ _)
  | D :: Ds, W, hn, hm, h => by
    have hK := hm D (by simp)
    have hn' := List.nodup_cons.1 hn
    refine ⟨by simp, .inl ⟨D, _, rfl, run_takeDeferred hK, leaves_marks Ds _ hn'.2 (fun E hE => ?_) (fun W' hk => h W' ?_)⟩⟩
    · exact (World.putObj_heap_other (by intro e; subst e; exact hn'.1 hE)).trans (hm E (by simp [hE]))
    · have h1 : Kx (fun k => k ∈ D :: Ds) W (W.putObj D (.deferred none)) :=
        ⟨rfl, rfl, rfl, by simp [World.putObj], fun k hk hx => World.putObj_heap_other (fun e => hx (by subst e; simp))⟩
      exact h1.trans (hk.mono fun k _ hk => by simp [hk])

/-- A loop whose measure stands in no slot. -/
theorem wp_loop_gh {P : Program} {Q : Exit → Act → World → Prop} {a : Act} {w : World} {c : Code} (I : Nat → Act → World → Prop) (n₀ : Nat) (h₀ : I n₀ a w)
    (round : ∀ n a w, I n a w → ∀ K : Act → World → Prop, (∀ n' a' w', n' < n → I n' a' w' → K a' w') → c.wp P (Exit.then K Q) a w) : (Code.loop c).wp P Q a w :=
  wp_loop_ghost I n₀ h₀ fun n a w h => round n a w h _ fun n' _ _ hn hI => ⟨n', hn, hI⟩

def distL (nn : Int) (ls : List Lk) (s : Int) : List Int := if vwB nn ls [s] = true then (List.range nn.toNat).map (fun i : Nat => bf nn ls s (i : Int)) else []

theorem gvB_fit {nn : Int} {ls : List Lk} (h : gvB nn ls = true) : Fit nn ls ∧ 1 ≤ nn ∧ nn ≤ 8 ∧ ls.length ≤ 14 := by
  unfold gvB at h
  simp only [Bool.and_eq_true, List.all_eq_true] at h
  obtain ⟨⟨h1, h2⟩, h3⟩ := h
  have hall : ∀ l ∈ ls, allowsB nn l = true := fun l hl => by
    obtain ⟨j, hj⟩ := List.getElem?_of_mem hl
    have := h3 j (by have := (List.getElem?_eq_some_iff.1 hj).1; simpa using this)
    unfold okAt at this
    rw [hj] at this
    simp only [Bool.and_eq_true] at this
    exact this.1
  unfold inB at h1
  simp at h1 h2
  have hu : ∀ l ∈ ls, (0 ≤ l.a ∧ l.a ≤ nn - 1) ∧ (0 ≤ l.b ∧ l.b ≤ nn - 1) ∧ l.a < l.b ∧ 1 ≤ l.c ∧ l.c ≤ 20 := fun l hl => by
    have := hall l hl
    unfold allowsB inB at this
    simp at this
    omega
  exact ⟨⟨fun l hl => by have := hu l hl; omega, fun l hl => by have := hu l hl; omega, fun l hl => by have := hu l hl; omega, fun l hl => by have := hu l hl; omega, fun l hl => by have := hu l hl; omega⟩, h1.1, h1.2, h2⟩

/-! ### The state between two rounds -/
def flA (n : Nat) (f : Int → Int) : Array Value := ((List.range n).map (fun i : Nat => Value.int .i64 (f (i : Int)))).toArray
theorem flA_at {n : Nat} {f : Int → Int} {i : Nat} (h : i < n) : (flA n f)[i]? = some (.int .i64 (f (i : Int))) := by
  unfold flA
  simp [h]
theorem flA_init (n : Nat) : flA n (fun _ => -1) = (List.replicate n (Value.int .i64 (-1))).toArray := by
  unfold flA
  congr 1
  refine List.ext_getElem (by simp) fun i h1 h2 => by simp
theorem flA_upd {n : Nat} {f : Int → Int} {i : Nat} {x : Int} (_h : i < n) : (flA n f).setIfInBounds i (.int .i64 x) = flA n (upd f (i : Int) x) := by
  unfold flA upd
  refine Array.ext_getElem? fun j => ?_
  rw [Array.getElem?_setIfInBounds]
  by_cases hj : j < n
  · by_cases hij : i = j
    · subst hij; simp [hj]
    · rw [if_neg hij]
      have : (j : Int) ≠ (i : Int) := by omega
      simp [hj, this]
  · have : i ≠ j := by omega
    rw [if_neg this]
    simp [hj]


theorem box_not_mark {W : World} {b D : Nat} {t : TypeId} {cs : Array Value} (h : Box W b t cs) (hd : W.heap[D]? = some (.deferred (some []))) : D ≠ b := by
  rintro rfl
  rw [show W.heap[D]? = _ from h] at hd
  cases hd



theorem box_not_row {W : World} {b : Nat} {t : TypeId} {cs : Array Value} (h : Box W b t cs) {row : Option Nat} {B : Nat} (hr : ∀ r, row = some r → B ≤ r ∧ ∃ o : Obj, W.heap[r]? = some o ∧ o.isCells = false) : some b ≠ row := by
  intro e
  obtain ⟨_, o, ho, hc⟩ := hr b e.symm
  rw [show W.heap[b]? = _ from h] at ho
  cases ho
  cases hc

theorem Kx.keepsFrom {X : Nat → Prop} {W W' : World} (h : Kx X W W') (hx : ∀ k, X k → ∃ t cs, Box W k t cs) (B : Nat) : KeepsFrom B W W' :=
  ⟨h.size, fun k o _ hk ho => (h.block k (Array.getElem?_eq_some_iff.1 hk).1 (fun e => by
    obtain ⟨t, cs, hb⟩ := hx k e
    rw [show W.heap[k]? = _ from hb] at hk
    cases hk
    cases ho)).trans hk⟩

end Go.Proofs.Ytohflcbpjjnccab

/-
  A contract over this seat: the program's Distances.
-/
namespace Go.Proofs.Ytohflcbpjjnccab
open Go.RowKit Go.Shelf

attribute [local go_sem] Oper.semAt_some


end Go.Proofs.Ytohflcbpjjnccab
