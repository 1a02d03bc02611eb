/-
  Plain facts: the route that is found for an address, and its next hop.
-/
import Derived.Test.YtohflcbpjjnccabTa
namespace Go.Proofs.Ytohflcbpjjnccab

/-- Whether a route matches an address. -/
def mtB (x : Lk) (a : Int) : Bool := decide (a / lowB x.b = x.a / lowB x.b)
/-- The place of the longest match among the first routes. -/
def fndI (rs : List Lk) (a : Int) : Nat → Int
  | 0 => -1
  | i + 1 => match rs[i]? with
    | some x => if mtB x a && (decide (fndI rs a i < 0) || decide ((rs.getD (fndI rs a i).toNat ⟨0, 0, 0⟩).b < x.b)) then (i : Int) else fndI rs a i
    | none => fndI rs a i
def fndA (rs : List Lk) (hs : List Int) (a : Int) : Int := if (tbB rs hs && inB a 0 255) = true then fndI rs a rs.length else -1
def hopI (rs : List Lk) (hs : List Int) (k : Int) : Int := if k < 0 then -1 else hs.getD (rs.getD k.toNat ⟨0, 0, 0⟩).c.toNat 0
def hopA (rs : List Lk) (hs : List Int) (a : Int) : Int := hopI rs hs (fndA rs hs a)
/-- The longest match. -/
def IsBest (rs : List Lk) (a : Int) (x : Lk) : Prop := x ∈ rs ∧ mtB x a = true ∧ ∀ y ∈ rs, mtB y a = true → y.b ≤ x.b
section
variable {rs : List Lk} {hs : List Int} {a : Int} {x y : Lk}
theorem low_at {b : Int} (h : 0 ≤ b ∧ b ≤ 8) : (b = 0 ∧ lowB b = 256) ∨ (b = 1 ∧ lowB b = 128) ∨ (b = 2 ∧ lowB b = 64) ∨ (b = 3 ∧ lowB b = 32) ∨ (b = 4 ∧ lowB b = 16) ∨ (b = 5 ∧ lowB b = 8) ∨ (b = 6 ∧ lowB b = 4) ∨ (b = 7 ∧ lowB b = 2) ∨ (b = 8 ∧ lowB b = 1) := by
  have hb : b = 0 ∨ b = 1 ∨ b = 2 ∨ b = 3 ∨ b = 4 ∨ b = 5 ∨ b = 6 ∨ b = 7 ∨ b = 8 := by omega
  rcases hb with rfl | rfl | rfl | rfl | rfl | rfl | rfl | rfl | rfl <;> simp [lowB, lowN]
theorem low_pos {b : Int} (h : 0 ≤ b ∧ b ≤ 8) : 1 ≤ lowB b ∧ lowB b ≤ 256 := by
  rcases low_at h with h | h | h | h | h | h | h | h | h <;> omega
/-- As the laws ask it. -/
theorem mt_range {h : Int} (hx : rtB h x = true) : mtB x a = (decide (x.a ≤ a) && decide (a < x.a + lowB x.b)) := by
  obtain ⟨hb, ha, hm, _⟩ := rtB_iff.1 hx
  unfold mtB
  rw [Bool.eq_iff_iff]
  simp only [Bool.and_eq_true, decide_eq_true_eq]
  rcases low_at hb with ⟨_, h⟩ | ⟨_, h⟩ | ⟨_, h⟩ | ⟨_, h⟩ | ⟨_, h⟩ | ⟨_, h⟩ | ⟨_, h⟩ | ⟨_, h⟩ | ⟨_, h⟩ <;> rw [h] at hm ⊢ <;> omega
theorem mt_same (h : sameR x y = true) : mtB x a = mtB y a := by
  rw [sameR_iff] at h
  unfold mtB
  rw [h.1, h.2]
/-- Two matches with as many bits are the same route. -/
theorem mt_one {h : Int} (hx : rtB h x = true) (hy : rtB h y = true) (mx : mtB x a = true) (my : mtB y a = true) (hb : x.b = y.b) : sameR x y = true := by
  rw [mt_range hx] at mx
  rw [mt_range hy] at my
  simp only [Bool.and_eq_true, decide_eq_true_eq] at mx my
  obtain ⟨b1, _, m1, _⟩ := rtB_iff.1 hx
  obtain ⟨_, _, m2, _⟩ := rtB_iff.1 hy
  rw [← hb] at m2 my
  rw [sameR_iff]
  refine ⟨?_, hb⟩
  rcases low_at b1 with ⟨_, h⟩ | ⟨_, h⟩ | ⟨_, h⟩ | ⟨_, h⟩ | ⟨_, h⟩ | ⟨_, h⟩ | ⟨_, h⟩ | ⟨_, h⟩ | ⟨_, h⟩ <;> rw [h] at m1 m2 mx my <;> omega
theorem fndI_next {i : Nat} (h : rs[i]? = some x) : fndI rs a (i + 1) = if mtB x a && (decide (fndI rs a i < 0) || decide ((rs.getD (fndI rs a i).toNat ⟨0, 0, 0⟩).b < x.b)) then (i : Int) else fndI rs a i := by
  rw [fndI, h]
theorem rt_at {k : Nat} (h : rs[k]? = some x) : rs.getD k ⟨0, 0, 0⟩ = x := by rw [List.getD_eq_getElem?_getD, h]; rfl
/-- What is found among the first routes. -/
theorem fndI_spec : ∀ i, i ≤ rs.length → (fndI rs a i = -1 ∧ ∀ j y, j < i → rs[j]? = some y → mtB y a = false) ∨
    ∃ (k : Nat) (x : Lk), k < i ∧ fndI rs a i = (k : Int) ∧ rs[k]? = some x ∧ mtB x a = true ∧ ∀ j y, j < i → rs[j]? = some y → mtB y a = true → y.b ≤ x.b := by
  intro i
  induction i with
  | zero => intro _; exact .inl ⟨rfl, fun j y h => by omega⟩
  | succ i ih =>
    intro hi
    obtain ⟨z, hz⟩ : ∃ z, rs[i]? = some z := ⟨_, List.getElem?_eq_getElem (by omega)⟩
    rw [fndI_next hz]
    rcases ih (by omega) with ⟨h1, h2⟩ | ⟨k, x, hk, h1, hx, hm, h2⟩
    · rw [h1]
      cases mz : mtB z a with
      | false =>
        rw [Bool.false_and, if_neg Bool.false_ne_true]
        refine .inl ⟨rfl, fun j y hj hy => ?_⟩
        by_cases e : j < i
        · exact h2 j y e hy
        · obtain rfl : j = i := by omega
          rw [hz] at hy
          cases hy
          exact mz
      | true =>
        rw [if_pos (by simp)]
        refine .inr ⟨i, z, Nat.lt_succ_self _, rfl, hz, mz, fun j y hj hy my => ?_⟩
        by_cases e : j < i
        · rw [h2 j y e hy] at my
          cases my
        · obtain rfl : j = i := by omega
          rw [hz] at hy
          cases hy
          exact Int.le_refl _
    · rw [h1, Int.toNat_natCast, rt_at hx]
      have hn : decide ((k : Int) < 0) = false := by simp
      rw [hn, Bool.false_or]
      by_cases hc : (mtB z a && decide (x.b < z.b)) = true
      · rw [if_pos hc]
        rw [Bool.and_eq_true, decide_eq_true_eq] at hc
        refine .inr ⟨i, z, Nat.lt_succ_self _, rfl, hz, hc.1, fun j y hj hy my => ?_⟩
        by_cases e : j < i
        · have := h2 j y e hy my
          omega
        · obtain rfl : j = i := by omega
          rw [hz] at hy
          cases hy
          exact Int.le_refl _
      · rw [if_neg hc]
        refine .inr ⟨k, x, by omega, rfl, hx, hm, fun j y hj hy my => ?_⟩
        by_cases e : j < i
        · exact h2 j y e hy my
        · obtain rfl : j = i := by omega
          rw [hz] at hy
          cases hy
          rw [my, Bool.true_and, decide_eq_true_eq] at hc
          omega
theorem fndA_on (hv : tbB rs hs = true) (ha : 0 ≤ a ∧ a ≤ 255) : fndA rs hs a = fndI rs a rs.length := by
  unfold fndA
  rw [if_pos]
  unfold inB
  rw [hv]
  simp
  omega
/-- P129. -/
theorem fndA_spec (hv : tbB rs hs = true) (ha : 0 ≤ a ∧ a ≤ 255) : (fndA rs hs a = -1 ∧ ∀ y ∈ rs, mtB y a = false) ∨ ∃ (k : Nat) (x : Lk), fndA rs hs a = (k : Int) ∧ rs[k]? = some x ∧ IsBest rs a x := by
  rw [fndA_on hv ha]
  rcases fndI_spec (rs := rs) (a := a) rs.length (Nat.le_refl _) with ⟨h1, h2⟩ | ⟨k, x, hk, h1, hx, hm, h2⟩
  · refine .inl ⟨h1, fun y hy => ?_⟩
    obtain ⟨j, hj⟩ := List.getElem?_of_mem hy
    exact h2 j y (List.getElem?_eq_some_iff.1 hj).1 hj
  · refine .inr ⟨k, x, h1, hx, List.mem_of_getElem? hx, hm, fun y hy my => ?_⟩
    obtain ⟨j, hj⟩ := List.getElem?_of_mem hy
    exact h2 j y (List.getElem?_eq_some_iff.1 hj).1 hj my
theorem fndA_sg (rs : List Lk) (hs : List Int) (a : Int) : fndA rs hs a = -1 ∨ 0 ≤ fndA rs hs a ∧ fndA rs hs a < (rs.length : Int) := by
  by_cases h : (tbB rs hs && inB a 0 255) = true
  · rw [Bool.and_eq_true] at h
    have ha : 0 ≤ a ∧ a ≤ 255 := by
      have := h.2
      unfold inB at this
      simpa using this
    rcases fndA_spec h.1 ha with ⟨h1, _⟩ | ⟨k, x, h1, hx, _⟩
    · exact .inl h1
    · have := (List.getElem?_eq_some_iff.1 hx).1
      rw [h1]
      omega
  · left
    unfold fndA
    rw [if_neg h]
theorem best_one {us : List Lk} {h : Int} (hu : ∀ z ∈ us, rtB h z = true) (hasc : Asc us) (h1 : IsBest us a x) (h2 : IsBest us a y) : x = y := by
  obtain ⟨m1, t1, b1⟩ := h1
  obtain ⟨m2, t2, b2⟩ := h2
  exact rasc_one hasc m1 m2 (mt_one (hu x m1) (hu y m2) t1 t2 (by have := b1 y m2 t2; have := b2 x m1 t1; omega))
/-- The next hop, by the longest match. -/
theorem hopA_best (hv : tbB rs hs = true) (ha : 0 ≤ a ∧ a ≤ 255) (hb : IsBest rs a x) : hopA rs hs a = hs.getD x.c.toNat 0 := by
  obtain ⟨_, hr, hasc, _, _⟩ := tbB_iff.1 hv
  unfold hopA hopI
  rcases fndA_spec hv ha with ⟨_, h2⟩ | ⟨k, y, h1, hy, h2⟩
  · have := h2 x hb.1
    rw [hb.2.1] at this
    cases this
  · obtain rfl := best_one hr hasc hb h2
    rw [h1, if_neg (by omega), Int.toNat_natCast, rt_at hy]
theorem hopA_none (hv : tbB rs hs = true) (ha : 0 ≤ a ∧ a ≤ 255) (hb : ∀ y ∈ rs, mtB y a = false) : hopA rs hs a = -1 := by
  unfold hopA hopI
  rcases fndA_spec hv ha with ⟨h1, _⟩ | ⟨k, y, h1, hy, h2⟩
  · rw [h1]
    rfl
  · have := hb y h2.1
    rw [h2.2.1] at this
    cases this
theorem best_or (hv : tbB rs hs = true) (ha : 0 ≤ a ∧ a ≤ 255) : (∀ y ∈ rs, mtB y a = false) ∨ ∃ x, IsBest rs a x := by
  rcases fndA_spec hv ha with ⟨_, h⟩ | ⟨_, x, _, _, h⟩
  · exact .inl h
  · exact .inr ⟨x, h⟩
/-- The same matches give the same next hop. -/
theorem hopA_same {us : List Lk} (hv : tbB rs hs = true) (hu : tbB us hs = true) (ha : 0 ≤ a ∧ a ≤ 255) (h : ∀ z, mtB z a = true → (z ∈ us ↔ z ∈ rs)) : hopA us hs a = hopA rs hs a := by
  rcases best_or hv ha with h0 | ⟨x, hx⟩
  · rw [hopA_none hv ha h0, hopA_none hu ha fun y hy => ?_]
    cases my : mtB y a with
    | false => rfl
    | true =>
      have := h0 y ((h y my).1 hy)
      rw [my] at this
      cases this
  · rw [hopA_best hv ha hx, hopA_best hu ha ⟨(h x hx.2.1).2 hx.1, hx.2.1, fun y hy my => hx.2.2 y ((h y my).1 hy) my⟩]
/-- P131. -/
theorem hop_add {r : Lk} (hv : tbB rs hs = true) (hu : tbB (insR r rs) hs = true) (ha : 0 ≤ a ∧ a ≤ 255) (hr : mtB r a = false) : hopA (insR r rs) hs a = hopA rs hs a := by
  refine hopA_same hv hu ha fun z mz => ?_
  rw [insR_iff (tbB_iff.1 hv).2.2.1]
  constructor
  · rintro (rfl | h)
    · rw [mz] at hr
      cases hr
    · exact h.1
  · intro hz
    cases hs : sameR z r with
    | false => exact .inr ⟨hz, rfl⟩
    | true =>
      rw [mt_same hs, hr] at mz
      cases mz
/-- P136. -/
theorem hop_del {p b : Int} (hv : tbB rs hs = true) (hu : tbB (delR p b rs) hs = true) (ha : 0 ≤ a ∧ a ≤ 255) (hr : mtB ⟨p, b, 0⟩ a = false) : hopA (delR p b rs) hs a = hopA rs hs a := by
  refine hopA_same hv hu ha fun z mz => ?_
  rw [delR_mem]
  constructor
  · exact fun h => h.1
  · refine fun hz => ⟨hz, fun he => ?_⟩
    rw [mt_same (y := ⟨p, b, 0⟩) (sameR_iff.2 he), hr] at mz
    cases mz
/-- P132. -/
theorem hop_turn {h : Nat} {node : Int} (hv : tbB rs hs = true) (hu : tbB rs (hs.set h node) = true) (ha : 0 ≤ a ∧ a ≤ 255) (hh : h < hs.length) :
    (∀ (k : Nat) (x : Lk), fndA rs hs a = (k : Int) → rs[k]? = some x → hopA rs (hs.set h node) a = if x.c = (h : Int) then node else hopA rs hs a) ∧ (fndA rs hs a = -1 → hopA rs (hs.set h node) a = hopA rs hs a) := by
  have hr := (tbB_iff.1 hv).2.1
  constructor
  · intro k x hk hx
    rcases fndA_spec hv ha with ⟨h1, _⟩ | ⟨j, y, h1, hy, h2⟩
    · rw [h1] at hk
      omega
    · obtain rfl : j = k := by omega
      rw [hx] at hy
      cases hy
      have hc := (rtB_iff.1 (hr x h2.1)).2.2.2
      rw [hopA_best hu ha h2, hopA_best hv ha h2, List.getD_eq_getElem?_getD, List.getD_eq_getElem?_getD, List.getElem?_set]
      by_cases e : x.c = (h : Int)
      · rw [if_pos e, if_pos (by omega), if_pos hh]
        rfl
      · rw [if_neg e, if_neg (by omega)]
  · intro hk
    rcases fndA_spec hv ha with ⟨_, h0⟩ | ⟨j, y, h1, _, _⟩
    · rw [hopA_none hu ha h0, hopA_none hv ha h0]
    · omega
/-- P134. -/
theorem fnd_default {c : Int} (hu : tbB rs hs = true) (hm : (⟨0, 0, c⟩ : Lk) ∈ rs) (ha : 0 ≤ a ∧ a ≤ 255) : 0 ≤ fndA rs hs a := by
  rcases fndA_spec hu ha with ⟨_, h0⟩ | ⟨j, y, h1, _, _⟩
  · have h1 := h0 _ hm
    rw [mt_range ((tbB_iff.1 hu).2.1 _ hm)] at h1
    have hl : lowB 0 = 256 := rfl
    simp only [hl, Bool.and_eq_false_iff, decide_eq_false_iff_not] at h1
    omega
  · omega
/-- P135. -/
theorem hop_exact (hv : tbB rs hs = true) (hm : x ∈ rs) (h8 : x.b = 8) : hopA rs hs x.a = hs.getD x.c.toNat 0 := by
  have hr := (tbB_iff.1 hv).2.1
  obtain ⟨hb, ha, _, _⟩ := rtB_iff.1 (hr x hm)
  have hl : lowB x.b = 1 := by rw [h8]; rfl
  refine hopA_best hv ha ⟨hm, ?_, fun y hy _ => ?_⟩
  · rw [mt_range (hr x hm), hl]
    simp
    omega
  · have := (rtB_iff.1 (hr y hy)).1
    omega
end
end Go.Proofs.Ytohflcbpjjnccab
