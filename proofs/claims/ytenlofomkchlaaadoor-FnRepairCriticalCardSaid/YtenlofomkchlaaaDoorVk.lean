/-
  Plain facts: the labels of a repair, as a search for the last fit part of a path makes them.
-/
import Derived.Test.YtenlofomkchlaaaDoorVf
namespace Go.Proofs.YtenlofomkchlaaaDoor

theorem repU_fuel (nn : Int) (ls : List Lk) (x : Int) : ∀ (m m' : Nat) (p : List Int), p.length ≤ m + 1 → p.length ≤ m' + 1 → repU nn ls x m p = repU nn ls x m' p
  | 0, 0, _, _, _ => rfl
  | 0, _ + 1, [], _, _ => rfl
  | 0, _ + 1, [_], _, _ => rfl
  | _ + 1, 0, [], _, _ => rfl
  | _ + 1, 0, [_], _, _ => rfl
  | 0, _, _ :: _ :: _, h, _ => by simp at h
  | _, 0, _ :: _ :: _, _, h => by simp at h
  | _ + 1, _ + 1, [], _, _ => rfl
  | _ + 1, _ + 1, [_], _, _ => rfl
  | m + 1, m' + 1, a :: b :: r, h, h' => by
    rw [repU_cons, repU_cons]
    simp only [List.length_cons] at h h'
    split
    · rw [repU_fuel nn ls x m m' (b :: r) (by simp; omega) (by simp; omega)]
    · rename_i j hj
      rw [repU_fuel nn ls x m m' ((b :: r).drop j) (by simp; omega) (by simp; omega)]
/-- A path that avoids a link. -/
structure RW (n : Nat) (ls : List Lk) (k : Nat) (p : List Int) : Prop where
  gv : gvB (n : Int) ls = true
  link : ∃ l, ls[k]? = some l
  rng : ∀ z ∈ p, 0 ≤ z ∧ z < (n : Int)
  way : Way (ls.eraseIdx k) p
  pos : 0 < p.length
  len : p.length ≤ 9
def repC (nn : Int) (ls : List Lk) (x : Int) (p : List Int) : List Lb := repU nn ls x p.length p
/-- Whether the part up to a place is fit for a label. -/
def fitR (nn : Int) (ls : List Lk) (x : Int) (p : List Int) (k : Nat) : Bool := !usedB nn ls (p.getD 0 0) (p.getD k 0) x
def stR (nn : Int) (ls : List Lk) (x : Int) (p : List Int) : Lb × Nat := match lastS (safeB nn ls (p.getD 0 0) x) (p.drop 1) with
  | 0 => (⟨2, linkI nn ls (p.getD 0 0) (p.getD 1 0)⟩, 1)
  | j + 1 => (⟨1, p.getD (j + 1) 0⟩, j + 1)
section
variable {n k : Nat} {ls : List Lk} {p : List Int}
theorem RW.drop (h : RW n ls k p) {i : Nat} (hi : i < p.length) : RW n ls k (p.drop i) where
  gv := h.gv
  link := h.link
  rng := fun z hz => h.rng z (List.mem_of_mem_drop hz)
  way := fun j a b ha hb => by
    rw [List.getElem?_drop] at ha hb
    exact h.way (i + j) a b ha hb
  pos := by rw [List.length_drop]; omega
  len := by have := h.len; rw [List.length_drop]; omega
theorem RW.reach (h : RW n ls k p) {a y : Int} {j : Nat} (ha : p[0]? = some a) (hy : p[j]? = some y) : 0 ≤ bf (n : Int) ls a y := by
  obtain ⟨l, hl⟩ := h.link
  have hw : Way ls p := fun i u v hu hv => by
    obtain ⟨e, he⟩ := h.way i u v hu hv
    exact ⟨e, ((er_adj h.gv hl).1 he).1⟩
  cases p with
  | nil => simp at ha
  | cons z r =>
    obtain rfl : z = a := by simpa using ha
    have hj := (List.getElem?_eq_some_iff.1 hy).1
    have hw2 : Way ls (z :: r.take j) := hw.take (j + 1)
    have hlast : (z :: r.take j).getLast? = some y := by
      rw [show z :: r.take j = (z :: r).take (j + 1) from rfl, List.getLast?_eq_getElem?, List.length_take, Nat.min_eq_left (by omega), List.getElem?_take_of_lt (by omega)]
      exact hy
    obtain ⟨q, hq⟩ := way_wk h.gv hw2 hlast
    exact (bf_le (gvB_fit h.gv).1 (h.rng z (List.mem_cons_self ..)) hq).1
theorem getD_some {p : List Int} {j : Nat} {y : Int} (h : p[j]? = some y) : p.getD j 0 = y := by rw [List.getD_eq_getElem?_getD, h]; rfl
theorem RW.fit (h : RW n ls k p) {a y : Int} {j : Nat} (ha : p[0]? = some a) (hy : p[j]? = some y) : safeB (n : Int) ls a (k : Int) y = fitR (n : Int) ls (k : Int) p j := by
  unfold safeB fitR
  rw [getD_some ha, getD_some hy, decide_eq_true (h.reach ha hy), Bool.true_and]
theorem RW.hit (h : RW n ls k p) {e : Nat} {y : Int} (he : 0 < e) (hy : p[e]? = some y) (hf : fitR (n : Int) ls (k : Int) p e = true) (hr : ∀ j, e < j → j ≤ p.length - 1 → fitR (n : Int) ls (k : Int) p j = false) : stR (n : Int) ls (k : Int) p = (⟨1, y⟩, e) := by
  obtain ⟨a, ha⟩ : ∃ a, p[0]? = some a := ⟨_, List.getElem?_eq_getElem h.pos⟩
  obtain ⟨q, rfl⟩ : ∃ q, e = q + 1 := ⟨e - 1, by omega⟩
  have hl : lastS (safeB (n : Int) ls (p.getD 0 0) (k : Int)) (p.drop 1) = q + 1 := by
    rw [getD_some ha]
    refine lastS_eq (fun j hj => ?_) (fun i z hi hz => ?_)
    · obtain rfl : j = q := by omega
      exact ⟨y, by rw [List.getElem?_drop, Nat.add_comm]; exact hy, by rw [h.fit ha hy]; exact hf⟩
    · rw [List.getElem?_drop] at hz
      have := (List.getElem?_eq_some_iff.1 hz).1
      rw [h.fit ha hz]
      exact hr _ (by omega) (by omega)
  unfold stR
  rw [hl]
  dsimp only
  rw [getD_some hy]
theorem RW.none (h : RW n ls k p) {s t : Int} (hs : p[0]? = some s) (ht : p[1]? = some t) (hr : ∀ j, 0 < j → j ≤ p.length - 1 → fitR (n : Int) ls (k : Int) p j = false) : stR (n : Int) ls (k : Int) p = (⟨2, linkI (n : Int) ls s t⟩, 1) := by
  have hl : lastS (safeB (n : Int) ls (p.getD 0 0) (k : Int)) (p.drop 1) = 0 := by
    rw [getD_some hs]
    refine lastS_eq (fun j hj => by omega) (fun i z hi hz => ?_)
    rw [List.getElem?_drop] at hz
    have := (List.getElem?_eq_some_iff.1 hz).1
    rw [h.fit hs hz]
    exact hr _ (by omega) (by omega)
  unfold stR
  rw [hl]
  dsimp only
  rw [getD_some hs, getD_some ht]
theorem RW.step (h : RW n ls k p) (h2 : 2 ≤ p.length) : repC (n : Int) ls (k : Int) p = (stR (n : Int) ls (k : Int) p).1 :: repC (n : Int) ls (k : Int) (p.drop (stR (n : Int) ls (k : Int) p).2) ∧ 0 < (stR (n : Int) ls (k : Int) p).2 ∧ (stR (n : Int) ls (k : Int) p).2 < p.length := by
  match p, h2 with
  | a :: b :: r, h2 =>
    obtain ⟨h1, _, _⟩ := lastS_spec (safeB (n : Int) ls a (k : Int)) (b :: r)
    unfold repC stR
    rw [show (a :: b :: r).length = r.length + 1 + 1 from rfl, repU_cons]
    simp only [List.drop_succ_cons, List.drop_zero, List.getD_cons_zero, List.getD_cons_succ]
    split
    · rename_i hz
      rw [hz]
      simp only [List.drop_succ_cons, List.drop_zero]
      exact ⟨by rw [repU_fuel (n : Int) ls (k : Int) (r.length + 1) (b :: r).length (b :: r) (by simp) (by simp)], by omega, by omega⟩
    · rename_i j hj
      rw [hj]
      rw [hj] at h1
      simp only [List.length_cons] at h1
      simp only [List.drop_succ_cons]
      refine ⟨?_, by omega, by omega⟩
      rw [List.getD_eq_getElem?_getD, repU_fuel (n : Int) ls (k : Int) (r.length + 1) ((b :: r).drop j).length ((b :: r).drop j) (by simp only [List.length_drop, List.length_cons]; omega) (by omega)]
theorem repC_one (nn : Int) (ls : List Lk) (x : Int) {p : List Int} (h : p.length ≤ 1) : repC nn ls x p = [] := by
  match p, h with
  | [], _ => rfl
  | [_], _ => rfl
end
end Go.Proofs.YtenlofomkchlaaaDoor
