/-
  Plain facts: what a map of announcements is as a list.
-/
import Derived.Test.YtnkohgdfipgdoabMz
import Derived.Test.YtnkohgdfipgdoabZp
namespace Go.Proofs.Ytnkohgdfipgdoab
open Go.RowKit Go.Maps

/-- The announcements that f has lie under their origins. -/
def OrgM (f : Int → Option Lz) : Prop := ∀ o z, f o = some z → z.o = o ∧ 0 ≤ o ∧ o ≤ 7
def dOf (f : Int → Option Lz) (o : Int) : La := match f o with
  | some z => z.d
  | none => ⟨0, 0, []⟩
def lstM (f : Int → Option Lz) (ks : List Int) : List La := ks.map (dOf f)
theorem dOf_o {f : Int → Option Lz} (h : OrgM f) {o : Int} (ho : (f o).isSome = true) : (dOf f o).o = o := by
  unfold dOf
  cases hf : f o with
  | none => rw [hf] at ho; cases ho
  | some z => exact (h o z hf).1
theorem lstM_srt {f : Int → Option Lz} (h : OrgM f) {ks : List Int} (hk : ∀ x ∈ ks, (f x).isSome = true) (hs : ks.Pairwise (· < ·)) : Srt (lstM f ks) := by
  unfold Srt lstM
  rw [List.pairwise_map]
  refine hs.imp_of_mem fun {a b} ha hb hab => ?_
  rw [dOf_o h (hk a ha), dOf_o h (hk b hb)]
  exact hab
theorem lstM_get {f : Int → Option Lz} (h : OrgM f) {ks : List Int} (hk : ∀ x, x ∈ ks ↔ (f x).isSome = true) (hs : ks.Pairwise (· < ·)) (o : Int) : getL (lstM f ks) o = (f o).map Lz.d := by
  have hsr := lstM_srt h (fun x hx => (hk x).1 hx) hs
  cases hf : f o with
  | none =>
    rw [Option.map_none, getL_none]
    intro x hx
    obtain ⟨k, hkm, rfl⟩ := List.mem_map.1 hx
    rw [dOf_o h ((hk k).1 hkm)]
    intro e
    have := (hk k).1 hkm
    rw [e, hf] at this
    cases this
  | some z =>
    rw [Option.map_some, getL_iff hsr]
    have ho : o ∈ ks := (hk o).2 (by rw [hf]; rfl)
    refine ⟨List.mem_map.2 ⟨o, ho, ?_⟩, (h o z hf).1⟩
    unfold dOf
    rw [hf]
/-- The keys, sorted, ascend. -/
theorem sort_asc {ss : List Int} (hn : ss.Nodup) : (ss.mergeSort (fun x y => decide (x ≤ y))).Pairwise (· < ·) := by
  have tr : ∀ a b c : Int, decide (a ≤ b) = true → decide (b ≤ c) = true → decide (a ≤ c) = true := fun a b c h1 h2 => by simp only [decide_eq_true_eq] at *; exact Int.le_trans h1 h2
  have tt : ∀ a b : Int, (decide (a ≤ b) || decide (b ≤ a)) = true := fun a b => by simp only [Bool.or_eq_true, decide_eq_true_eq]; exact Int.le_total a b
  have h1 := List.pairwise_mergeSort (le := fun x y : Int => decide (x ≤ y)) tr tt ss
  have h2 : (ss.mergeSort (fun x y => decide (x ≤ y))).Pairwise (· ≠ ·) := ((List.mergeSort_perm ss _).nodup_iff).2 hn
  refine (h1.and h2).imp fun {a b} h => ?_
  have := h.1
  simp only [decide_eq_true_eq] at this
  have := h.2
  omega
/-- A map that has just what a list in order has, listed: that list. -/
theorem lstM_eq {f : Int → Option Lz} (h : OrgM f) {ks : List Int} (hk : ∀ x, x ∈ ks ↔ (f x).isSome = true) (hs : ks.Pairwise (· < ·)) {db : List La} (hd : Srt db) (hf : ∀ o, (f o).map Lz.d = getL db o) : lstM f ks = db :=
  srt_ext (lstM_srt h (fun x hx => (hk x).1 hx) hs) hd fun o => (lstM_get h hk hs o).trans (hf o)
theorem findZ_at {zs : List Lz} {o : Int} {z : Lz} (h : findZ zs o = some z) : z ∈ zs ∧ z.o = o := ⟨List.mem_of_find?_eq_some h, by simpa using List.find?_some h⟩
theorem findZ_org {zs : List Lz} (hv : dbB (datL zs) = true) : OrgM (findZ zs) := fun o z h => by
  obtain ⟨h1, h2⟩ := findZ_at h
  have := (laB_rng ((dbB_inv hv).1 z.d (List.mem_map.2 ⟨z, h1, rfl⟩))).1
  dsimp only at this
  exact ⟨h2, by omega, by omega⟩
/-- The map behind a put. -/
def putM (f : Int → Option Lz) (z : Lz) : Int → Option Lz := match f z.o with
  | some x => if x.q < z.q then setM f z else f
  | none => setM f z
theorem putM_org {f : Int → Option Lz} (h : OrgM f) {z : Lz} (hz : 0 ≤ z.o ∧ z.o ≤ 7) : OrgM (putM f z) := by
  have hs : OrgM (setM f z) := fun o x hx => by
    unfold setM at hx
    by_cases ho : o = z.o
    · rw [if_pos ho] at hx
      cases hx
      exact ⟨ho.symm, by omega, by omega⟩
    · rw [if_neg ho] at hx
      exact h o x hx
  unfold putM
  split
  · split
    · exact hs
    · exact h
  · exact hs
theorem putM_get {f : Int → Option Lz} {db : List La} (hf : ∀ o, (f o).map Lz.d = getL db o) (hd : Srt db) (z : Lz) (o : Int) : (putM f z o).map Lz.d = getL (putL db z.d) o := by
  have e := hf z.o
  rw [putL_get hd]
  show _ = if o = z.o then some (best (getL db z.o) z.d) else getL db o
  unfold putM best
  cases hx : f z.o with
  | none =>
    rw [hx] at e
    rw [← e]
    dsimp only [Option.map_none]
    unfold setM
    by_cases ho : o = z.o
    · rw [if_pos ho, if_pos ho]; rfl
    · rw [if_neg ho, if_neg ho, hf]
  | some x =>
    rw [hx] at e
    rw [← e]
    dsimp only [Option.map_some]
    by_cases hq : x.q < z.q
    · rw [if_pos hq, if_neg (show ¬ z.q ≤ x.q by omega)]
      unfold setM
      by_cases ho : o = z.o
      · rw [if_pos ho, if_pos ho]; rfl
      · rw [if_neg ho, if_neg ho, hf]
    · rw [if_neg hq, if_pos (show z.q ≤ x.q by omega)]
      by_cases ho : o = z.o
      · rw [if_pos ho, ho, hx]; rfl
      · rw [if_neg ho, hf]
theorem putM_mem {f : Int → Option Lz} {z : Lz} {o : Int} {x : Lz} (h : putM f z o = some x) : x = z ∨ f o = some x := by
  have hs : setM f z o = some x → x = z ∨ f o = some x := fun h => by
    unfold setM at h
    split at h
    · cases h; exact .inl rfl
    · exact .inr h
  unfold putM at h
  cases hz : f z.o with
  | none => rw [hz] at h; exact hs h
  | some y =>
    rw [hz] at h
    dsimp only at h
    by_cases hq : y.q < z.q
    · rw [if_pos hq] at h; exact hs h
    · rw [if_neg hq] at h; exact .inr h

end Go.Proofs.Ytnkohgdfipgdoab
