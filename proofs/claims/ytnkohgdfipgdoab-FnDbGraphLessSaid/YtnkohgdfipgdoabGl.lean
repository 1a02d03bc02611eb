/-
  What FnDbGraphLess asks for: a list without one announcement, plainly and in memory.
-/
import Derived.Test.YtnkohgdfipgdoabGx
import Derived.Test.YtnkohgdfipgdoabIg
namespace Go.Proofs.Ytnkohgdfipgdoab
open Go.RowKit Go.Maps

/-! ### A list without one announcement -/
theorem drop_one {α : Type} (xs : List α) (k : Nat) : (xs.take k ++ xs.drop (k + 1)).Sublist xs := by
  have h : (xs.take k ++ xs.drop (k + 1)).Sublist (xs.take k ++ xs.drop k) := by
    refine (List.Sublist.refl _).append ?_
    rw [show xs.drop (k + 1) = (xs.drop k).drop 1 by rw [List.drop_drop]]
    exact List.drop_sublist 1 _
  rwa [List.take_append_drop] at h
theorem cost_less {db sub : List La} (hs : Srt db) (hsub : ∀ x ∈ sub, x ∈ db) (a b : Int) : costL sub a b = costL db a b ∨ costL sub a b = 0 := by
  unfold costL
  cases h : getL sub a with
  | none => exact .inr rfl
  | some x =>
    obtain ⟨hx, rfl⟩ := getL_some h
    rw [getL_mem hs (hsub x hx)]
    exact .inl rfl
theorem lnk_less {db sub : List La} (h : ∀ a b : Int, costL sub a b = costL db a b ∨ costL sub a b = 0) (a b : Int) : (lnkG sub a b).length ≤ (lnkG db a b).length := by
  unfold lnkG
  by_cases hc : 0 < costL sub a b ∧ 0 < costL sub b a
  · rw [if_pos hc, if_pos ?_]
    · simp
    · rcases h a b with h1 | h1
      · rcases h b a with h2 | h2
        · rw [← h1, ← h2]; exact hc
        · rw [h2] at hc; omega
      · rw [h1] at hc; omega
  · rw [if_neg hc]
    simp
theorem row_less {db sub : List La} (h : ∀ a b : Int, costL sub a b = costL db a b ∨ costL sub a b = 0) (a k : Nat) : (rowG sub a k).length ≤ (rowG db a k).length := by
  induction k with
  | zero => exact Nat.le_refl _
  | succ k ih =>
    unfold rowG
    rw [List.length_append, List.length_append]
    have := lnk_less h (a : Int) ((a + 1 + k : Nat) : Int)
    omega
theorem top_less {db sub : List La} (h : ∀ a b : Int, costL sub a b = costL db a b ∨ costL sub a b = 0) (m k : Nat) : (topG sub m k).length ≤ (topG db m k).length := by
  induction k with
  | zero => exact Nat.le_refl _
  | succ k ih =>
    unfold topG
    rw [List.length_append, List.length_append]
    have := row_less h k (m - (k + 1))
    omega
theorem grB_less {n : Int} {db : List La} (h : grB n db = true) (k : Nat) : grB n (db.take k ++ db.drop (k + 1)) = true := by
  unfold grB at h ⊢
  simp only [Bool.and_eq_true, decide_eq_true_eq] at h ⊢
  obtain ⟨⟨h1, h2⟩, h3⟩ := h
  obtain ⟨hv, hs⟩ := dbB_inv h2
  have hsub := drop_one db k
  have hm : ∀ x ∈ db.take k ++ db.drop (k + 1), x ∈ db := fun x hx => hsub.subset hx
  refine ⟨⟨h1, dbB_of (fun x hx => hv x (hm x hx)) (List.Pairwise.sublist hsub hs)⟩, Nat.le_trans (top_less (cost_less hs hm) _ _) h3⟩

/-! ### In memory -/
theorem flatZ_inv (zs : List Lz) : ∀ (j : Nat) (u : Value), (flatZ zs)[j]? = some u → ∃ k z, zs[k]? = some z ∧ ((j = k * 3 ∧ u = .int .i64 z.o) ∨ (j = k * 3 + 1 ∧ u = .int .i64 z.q) ∨ (j = k * 3 + 2 ∧ u = .slice z.A z.es.length z.c)) := by
  induction zs with
  | nil => intro j u h; simp [flatZ] at h
  | cons x zs ih =>
    intro j u h
    match j, h with
    | 0, h => exact ⟨0, x, rfl, .inl ⟨rfl, by simpa [flatZ] using h.symm⟩⟩
    | 1, h => exact ⟨0, x, rfl, .inr (.inl ⟨rfl, by simpa [flatZ] using h.symm⟩)⟩
    | 2, h => exact ⟨0, x, rfl, .inr (.inr ⟨rfl, by simpa [flatZ] using h.symm⟩)⟩
    | j + 3, h =>
      obtain ⟨k, z, hz, hc⟩ := ih j u (by simpa [flatZ] using h)
      refine ⟨k + 1, z, by simpa using hz, ?_⟩
      rcases hc with ⟨e, h⟩ | ⟨e, h⟩ | ⟨e, h⟩
      · exact .inl ⟨by omega, h⟩
      · exact .inr (.inl ⟨by omega, h⟩)
      · exact .inr (.inr ⟨by omega, h⟩)
theorem flatZ_one (zs : List Lz) : ∀ u ∈ flatZ zs, u.oneCell' = true := by
  intro u hu
  obtain ⟨j, hj⟩ := List.getElem?_of_mem hu
  obtain ⟨k, z, _, h | h | h⟩ := flatZ_inv zs j u hj
  · rw [h.2]; rfl
  · rw [h.2]; rfl
  · rw [h.2]; rfl
theorem Slz.flat {w : World} {B g off : Nat} {zs : List Lz} (h : Slz w B (some ⟨g, off, none⟩) zs) : ∀ j u, (flatZ zs)[j]? = some u → w.cell? ((⟨g, off, none⟩ : Addr).add j) = some u := by
  intro j u hj
  obtain ⟨k, z, hz, hc⟩ := flatZ_inv zs j u hj
  obtain ⟨b, o, he, _, h1, h2, h3, _⟩ := h k z hz
  cases he
  rw [add_az]
  rcases hc with ⟨rfl, rfl⟩ | ⟨rfl, rfl⟩ | ⟨rfl, rfl⟩
  · exact h1
  · exact h2
  · exact h3
theorem Slz.take {w : World} {B : Nat} {A : Option Addr} {zs : List Lz} (h : Slz w B A zs) (d : Nat) : Slz w B A (zs.take d) := by
  intro k z hz
  by_cases hk : k < d
  · rw [List.getElem?_take_of_lt hk] at hz
    exact h k z hz
  · rw [List.getElem?_eq_none (by simp; omega)] at hz
    cases hz
theorem Slz.drop {w : World} {B g off : Nat} {zs : List Lz} (h : Slz w B (some ⟨g, off, none⟩) zs) (d : Nat) : Slz w B (some ⟨g, off + d * 3, none⟩) (zs.drop d) := by
  intro k z hz
  rw [List.getElem?_drop] at hz
  obtain ⟨b, o, he, hb, h1, h2, h3, h4⟩ := h _ _ hz
  cases he
  refine ⟨g, off + d * 3, rfl, hb, ?_, ?_, ?_, h4⟩
  · rw [show off + d * 3 + k * 3 = off + (d + k) * 3 by omega]; exact h1
  · rw [show off + d * 3 + k * 3 = off + (d + k) * 3 by omega]; exact h2
  · rw [show off + d * 3 + k * 3 = off + (d + k) * 3 by omega]; exact h3
/-- What every announcement of a list has: its neighbours. -/
theorem Slz.ends {w : World} {B : Nat} {A : Option Addr} {zs : List Lz} (h : Slz w B A zs) {z : Lz} (hz : z ∈ zs) : Slb w B z.A z.es := by
  obtain ⟨k, hk⟩ := List.getElem?_of_mem hz
  obtain ⟨_, _, _, _, _, _, _, h4⟩ := h k z hk
  exact h4
/-- A row of a call's own, of announcements whose neighbours lie elsewhere. -/
theorem slz_of_row {w : World} {base n : Nat} {v : Value} {ys : List Lz} (h : w.ownsRow base 54 3 v n (flatZ ys)) (hB : base ≤ w.heap.size) (he : ∀ z ∈ ys, Slb w w.heap.size z.A z.es) : ∃ A c, v = .slice A ys.length c ∧ Slz w w.heap.size A ys := by
  obtain ⟨A, g, c, e, _, _, _, _, hk⟩ := own_slicez h hB
  refine ⟨A, c, e, fun k z hz => ?_⟩
  obtain ⟨e1, hg, h1, h2, h3⟩ := hk k z hz
  refine ⟨g, 0, e1, hg, by rw [Nat.zero_add]; exact h1, by rw [Nat.zero_add]; exact h2, by rw [Nat.zero_add]; exact h3, he z (List.mem_of_getElem? hz)⟩
/-- A row under way, over a world that only grows. -/
structure GS (wd : World) (v : Value) (n : Nat) (ys : List Lz) (W : World) : Prop where
  row : W.ownsRow wd.heap.size 54 3 v n (flatZ ys)
  bel : Below wd.heap.size wd W
theorem GS.made {wd W : World} (h : Below wd.heap.size wd W) : GS wd (.slice (some ⟨W.heap.size, 0, none⟩) 0 0) 0 [] (W.alloc (.cells #[] 54)) :=
  ⟨World.ownsRow_made (base := wd.heap.size) (e := 54) (size := 3) W #[] 0 h.size (by unfold maxLen; omega) rfl, h.alloc h.size _⟩
theorem GS.alloc {wd W : World} {v : Value} {n : Nat} {ys : List Lz} (h : GS wd v n ys W) (o : Obj) : GS wd v n ys (W.alloc o) := ⟨h.row.alloc _, h.bel.alloc h.bel.size _⟩
theorem GS.grown {wd W W' : World} {v v' : Value} {n m : Nat} {ys xs : List Lz} (h : GS wd v n ys W) (hown : W'.ownsRow wd.heap.size 54 3 v' (n + m) (flatZ ys ++ flatZ xs)) (hg : W.grownBy W' v.ownBlock) : GS wd v' (n + m) (ys ++ xs) W' :=
  ⟨by rw [flatZ_append]; exact hown, h.bel.grown hg h.bel.size (fun j e => (h.row.lt j e).1)⟩
theorem GS.box {wd W W' : World} {v : Value} {n : Nat} {ys : List Lz} {Q : Nat} {cs : Array Value} (h : GS wd v n ys W) (hq : Box W Q 48 cs) (hg : W.grownBy W' v.ownBlock) : Box W' Q 48 cs :=
  (hg.block Q hq.lt (fun e => own_box_ne h.row hq (by decide) e.symm)).trans hq
end Go.Proofs.Ytnkohgdfipgdoab
