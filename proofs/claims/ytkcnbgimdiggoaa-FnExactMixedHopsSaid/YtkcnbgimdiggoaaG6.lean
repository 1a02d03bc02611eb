/-
  Contracts over this seat: packets followed along pointers: whether one can go on, whether all arrive.
-/
import Derived.Test.YtkcnbgimdiggoaaG5
import Derived.Test.YtkcnbgimdiggoaaYs
import Derived.Test.YtkcnbgimdiggoaaG3
import Derived.Test.YtkcnbgimdiggoaaVd
namespace Go.Proofs.Ytkcnbgimdiggoaa
open Go.RowKit Go.Maps

/-- A row of one-cell values, read. -/
def RowP (W : World) (A : Option Addr) (us : List Value) : Prop := ∀ (k : Nat) (u : Value), us[k]? = some u → ∃ g, A = some ⟨g, 0, none⟩ ∧ g < W.heap.size ∧ W.cell? ⟨g, k, none⟩ = some u
theorem RowP.below {W W' : World} {A : Option Addr} {us : List Value} (h : RowP W A us) (hb : Below W.heap.size W W') : RowP W' A us := fun k u hu => by
  obtain ⟨g, e, hg, hc⟩ := h k u hu
  exact ⟨g, e, Nat.lt_of_lt_of_le hg hb.size, (hb.cell (p := ⟨g, k, none⟩) hg).trans hc⟩
theorem RowP.grow {w W : World} {A : Option Addr} {us : List Value} (h : RowP w A us) (hb : Below w.heap.size w W) : RowP W A us := h.below hb
theorem own_rowP {w : World} {base n : Nat} {e : TypeId} {v : Value} {us : List Value} (h : w.ownsRow base e 1 v n us) : ∃ A c, v = .slice A n c ∧ us.length = n ∧ RowP w A us := by
  obtain ⟨A, c, e1, e2, h⟩ := own_row h
  exact ⟨A, c, e1, e2, fun k u hu => by
    obtain ⟨g, e3, -, h1, h2⟩ := h k u hu
    exact ⟨g, e3, h1, h2⟩⟩





section
variable {fs : List Nat} {t : Int} {H : Int → List Int}
/-- The blocks of the nodes hs. -/
def nxB (fs : List Nat) (hs : List Int) : List Nat := hs.map (fun y => fs.getD y.toNat 0)
theorem nxB_val (fs : List Nat) (hs : List Int) : nxV fs hs = (nxB fs hs).map ptrV := by unfold nxV nxB; simp
theorem nxB_at (hr : InR fs.length H) {i : Nat} (hi : i < fs.length) {k b : Nat} (hb : (nxB fs (H (i : Int)))[k]? = some b) : ∃ j : Nat, (H (i : Int))[k]? = some (j : Int) ∧ fs[j]? = some b := by
  unfold nxB at hb
  rw [List.getElem?_map] at hb
  cases hy : (H (i : Int))[k]? with
  | none => rw [hy] at hb; cases hb
  | some y =>
    rw [hy] at hb
    have := hr (i : Int) y (by omega) (by omega) (List.mem_of_getElem? hy)
    have hlt : y.toNat < fs.length := by omega
    refine ⟨y.toNat, by rw [show ((y.toNat : Nat) : Int) = y by omega], ?_⟩
    have e : fs.getD y.toNat 0 = b := Option.some.inj hb
    rw [← e, List.getD_eq_getElem?_getD, List.getElem?_eq_getElem hlt]
    rfl
theorem all_not_any (l : List Int) (q : Int → Bool) : (!l.any (fun y => !q y)) = l.all q := by
  induction l with
  | nil => rfl
  | cons a r ih => rw [List.any_cons, List.all_cons, ← ih]; cases q a <;> simp
theorem any_range (hs : List Int) (q : Int → Bool) : (List.range hs.length).any (fun k => match hs[k]? with | some y => q y | none => false) = hs.any q := by
  rw [Bool.eq_iff_iff, List.any_eq_true, List.any_eq_true]
  constructor
  · rintro ⟨k, hk, e⟩
    have hlt := List.mem_range.1 hk
    rw [List.getElem?_eq_getElem hlt] at e
    exact ⟨hs[k], List.getElem_mem hlt, e⟩
  · rintro ⟨y, hy, e⟩
    obtain ⟨k, hk, rfl⟩ := List.mem_iff_getElem.1 hy
    exact ⟨k, List.mem_range.2 hk, by rw [List.getElem?_eq_getElem hk]; exact e⟩
end










end Go.Proofs.Ytkcnbgimdiggoaa

/-
  Contracts over this seat: the program's nodes with pointers to their next hops are laid.
-/
namespace Go.Proofs.Ytkcnbgimdiggoaa
open Go.RowKit Go.Maps


section
variable {w W : World} {gv : Array Value} {t : Int} {v : Value} {fs : List Nat}










end


theorem new1v (w : World) (x : Value) (t : TypeId) : ∀ (j : Nat) (u : Value), [x][j]? = some u → (w.alloc (.cells #[x] t)).cell? ((⟨w.heap.size, 0, none⟩ : Addr).add j) = some u := fun j u h => by
  obtain rfl : j = 0 := (by have := (List.getElem?_eq_some_iff.1 h).1; simpa using this)
  cases h
  exact (Box.new w t #[x]).cell 0

theorem box_push {W W8 : World} {b t2 e base size n : Nat} {u : Value} {cs : Array Value} {us : List Value} {o : Obj} (hb : Box W b t2 cs) (hr : W.ownsRow base e size u n us) (hl : b < base) (hg : (W.alloc o).grownBy W8 u.ownBlock) : Box W8 b t2 cs :=
  (hg.block b (by have := hb.lt; simp; omega) (fun e => by have := (hr.lt _ e.symm).1; omega)).trans (hb.alloc o)

end Go.Proofs.Ytkcnbgimdiggoaa

/-
  Contracts over this seat: the program's MixedLoop and MixedArrives.
-/
namespace Go.Proofs.Ytkcnbgimdiggoaa
open Go.RowKit Go.Maps

theorem vw_zero (nn : Int) (ls : List Lk) (t : Int) : vwB nn ls [t] = vwB nn ls [0, t] := by
  rw [Bool.eq_iff_iff]
  constructor
  · intro h
    obtain ⟨hg, ht⟩ := vwB_single.1 h
    exact vwB_of hg ⟨Int.le_refl _, by omega⟩ ht
  · intro h
    obtain ⟨hg, -, ht⟩ := vwB_two h
    exact vwB_single.2 ⟨hg, ht⟩
theorem row_grown {W W' : World} {base e size n base2 e2 size2 n2 : Nat} {u v : Value} {us us2 : List Value} (h : W.ownsRow base e size u n us) (hr : W.ownsRow base2 e2 size2 v n2 us2) (hne : e2 ≠ e) (o : Obj) (hg : (W.alloc o).grownBy W' v.ownBlock) : W'.ownsRow base e size u n us := by
  refine (h.alloc o).kept hg ?_
  rcases h.2 with ⟨rfl, _⟩ | ⟨g, cap, cur, rfl, _, hh, _⟩
  · exact .inl rfl
  · exact .inr (fun e' => own_box_ne hr (show Box W g e cur from hh) hne e'.symm)
theorem box_grown {W W' : World} {b e base2 e2 size2 n2 : Nat} {v : Value} {cs : Array Value} {us2 : List Value} (h : Box W b e cs) (hr : W.ownsRow base2 e2 size2 v n2 us2) (hne : e2 ≠ e) (o : Obj) (hg : (W.alloc o).grownBy W' v.ownBlock) : Box W' b e cs :=
  (hg.block b (by have := h.lt; simp; omega) (fun e' => own_box_ne hr h hne e'.symm)).trans (h.alloc o)

section
variable {w W W' : World} {gv : Array Value} {base : Nat} {r : Value} {fs : List Nat} {t : Int} {H : Int → List Int} {v : Value} {out : List Int}


end

theorem fol_range {nn : Int} {ls : List Lk} {x t : Int} {ch : List Int} (h : (vwB nn ls [t] && idxB ls x) = true) : InR nn.toNat (mixA nn ls x t ch) := fun u y h0 h1 hy => by
  rw [Bool.and_eq_true] at h
  obtain ⟨hg, ht⟩ := vwB_single.1 h.1
  have hn1 := (gvB_fit hg).2.1
  obtain ⟨n, rfl⟩ : ∃ n : Nat, nn = (n : Int) := ⟨nn.toNat, by omega⟩
  rw [show ((n : Int)).toNat = n by omega] at *
  unfold mixA at hy
  split at hy
  · exact mix_range (k := x.toNat) (ch := ch) hg ht u y h0 h1 hy
  · simp at hy
theorem mixA_own {nn : Int} {ls : List Lk} {x t : Int} {ch : List Int} (h : (vwB nn ls [t] && idxB ls x) = true) : (∀ y : Int, 0 ≤ y → y < nn → mixA nn ls x t ch y = mixH nn ls x.toNat t ch y) ∧ mixA nn ls x t ch t = [] := by
  rw [Bool.and_eq_true] at h
  obtain ⟨hg, ht⟩ := vwB_single.1 h.1
  have hn1 := (gvB_fit hg).2.1
  obtain ⟨n, rfl⟩ : ∃ n : Nat, nn = (n : Int) := ⟨nn.toNat, by omega⟩
  have hk : ∀ y : Int, 0 ≤ y → y < (n : Int) → mixA (n : Int) ls x t ch y = mixH (n : Int) ls x.toNat t ch y := fun y h0 h1 => by
    unfold mixA
    rw [vwB_of hg ⟨h0, h1⟩ ht, h.2]
    rfl
  refine ⟨hk, ?_⟩
  rw [hk t ht.1 ht.2]
  exact mix_own hg ht
/-- Over nodes only the nodes' next hops matter. -/
theorem walk_same_on {n : Nat} {H K : Int → List Int} (hr : InR n H) (hs : ∀ y : Int, 0 ≤ y → y < (n : Int) → H y = K y) : ∀ (j : Nat) (x : Int), 0 ≤ x → x < (n : Int) → walkB H j x = walkB K j x
  | 0, _, _, _ => rfl
  | j + 1, x, h0, h1 => by
    show (H x).any (walkB H j) = (K x).any (walkB K j)
    rw [← hs x h0 h1, Bool.eq_iff_iff, List.any_eq_true, List.any_eq_true]
    constructor
    · rintro ⟨y, hy, e⟩
      have := hr x y h0 h1 hy
      exact ⟨y, hy, by rw [← walk_same_on hr hs j y this.1 this.2]; exact e⟩
    · rintro ⟨y, hy, e⟩
      have := hr x y h0 h1 hy
      exact ⟨y, hy, by rw [walk_same_on hr hs j y this.1 this.2]; exact e⟩
theorem arr_same_on {n : Nat} {H K : Int → List Int} {t : Int} (hr : InR n H) (hs : ∀ y : Int, 0 ≤ y → y < (n : Int) → H y = K y) : ∀ (j : Nat) (x : Int), 0 ≤ x → x < (n : Int) → arrB H t j x = arrB K t j x
  | 0, _, _, _ => rfl
  | j + 1, x, h0, h1 => by
    show (arrB H t j x || (!(H x).isEmpty && (H x).all (arrB H t j))) = (arrB K t j x || (!(K x).isEmpty && (K x).all (arrB K t j)))
    rw [← hs x h0 h1, arr_same_on hr hs j x h0 h1]
    congr 2
    rw [Bool.eq_iff_iff, List.all_eq_true, List.all_eq_true]
    constructor
    · intro g y hy
      have := hr x y h0 h1 hy
      rw [← arr_same_on hr hs j y this.1 this.2]
      exact g y hy
    · intro g y hy
      have := hr x y h0 h1 hy
      rw [arr_same_on hr hs j y this.1 this.2]
      exact g y hy
theorem folr_eq (nn : Int) (ls : List Lk) (x t : Int) (ch : List Int) : loopA nn ls x t ch = if vwB nn ls [t] && idxB ls x then (nodL nn.toNat).filter (walkB (mixA nn ls x t ch) nn.toNat) else [] := by
  unfold loopA
  rw [← vw_zero]
  cases h : (vwB nn ls [t] && idxB ls x) with
  | false => rfl
  | true =>
    have hr := fol_range (ch := ch) h
    have hs := (mixA_own (ch := ch) h).1
    rw [if_pos rfl, if_pos rfl]
    refine List.filter_congr fun y hy => ?_
    have := mem_nodL.1 hy
    exact (walk_same_on hr (fun z h0 h1 => hs z h0 (by omega)) nn.toNat y this.1 this.2).symm
theorem fold_eq (nn : Int) (ls : List Lk) (x t : Int) (ch : List Int) : arrA nn ls x t ch = if vwB nn ls [t] && idxB ls x then (nodL nn.toNat).filter (dlvB (mixA nn ls x t ch) t nn.toNat) else [] := by
  unfold arrA
  rw [← vw_zero]
  cases h : (vwB nn ls [t] && idxB ls x) with
  | false => rfl
  | true =>
    have hr := fol_range (ch := ch) h
    have hs := (mixA_own (ch := ch) h).1
    rw [if_pos rfl, if_pos rfl]
    refine List.filter_congr fun y hy => ?_
    have := mem_nodL.1 hy
    rw [dlv_arr (mixA_own (ch := ch) h).2]
    exact (arr_same_on hr (fun z h0 h1 => hs z h0 (by omega)) nn.toNat y this.1 this.2).symm





end Go.Proofs.Ytkcnbgimdiggoaa
