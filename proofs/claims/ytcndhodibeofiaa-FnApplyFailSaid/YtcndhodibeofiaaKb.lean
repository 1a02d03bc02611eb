/-
  Plain facts: what an election leaves: claims, a new candidate, the speaker taken away.
-/
import Derived.Test.YtcndhodibeofiaaKa
namespace Go.Proofs.Ytcndhodibeofiaa

def apC (s b : Int) (x : Lk) : Lk := ⟨x.a, x.b, if x.a = s then 2 else if x.a = b then 1 else 0⟩
def apL (xs : List Lk) (s b : Int) : List Lk := xs.map (apC s b)
theorem apL_mem {xs : List Lk} {s b : Int} {d : Lk} : d ∈ apL xs s b ↔ ∃ x ∈ xs, d = apC s b x := by
  unfold apL
  rw [List.mem_map]
  constructor
  · rintro ⟨x, hx, rfl⟩; exact ⟨x, hx, rfl⟩
  · rintro ⟨x, hx, rfl⟩; exact ⟨x, hx, rfl⟩
theorem apC_claim (s b : Int) (x : Lk) : (apC s b x).c = if x.a = s then 2 else if x.a = b then 1 else 0 := rfl
theorem apL_ok {xs : List Lk} (h : CdOk xs) (s b : Int) : CdOk (apL xs s b) := by
  obtain ⟨hv, hp⟩ := h
  refine ⟨fun d hd => ?_, ?_⟩
  · obtain ⟨x, hx, rfl⟩ := apL_mem.1 hd
    obtain ⟨h1, h2, h3⟩ := hv x hx
    refine ⟨h1, h2, ?_⟩
    rw [apC_claim]
    split
    · omega
    · split <;> omega
  · unfold apL
    rw [List.pairwise_map]
    exact hp
theorem ap_sp {xs : List Lk} {s : Int} (hok : CdOk xs) (h : IsSp xs s) (b : Int) : IsSp (apL xs s b) s := by
  rcases h with ⟨rfl, h⟩ | ⟨x, hx, hxb, rfl, h⟩
  · refine .inl ⟨rfl, fun d hd => ?_⟩
    obtain ⟨y, hy, rfl⟩ := apL_mem.1 hd
    exact h y hy
  · refine .inr ⟨apC x.a b x, apL_mem.2 ⟨x, hx, rfl⟩, hxb, rfl, fun d hd hdb => ?_⟩
    obtain ⟨y, hy, rfl⟩ := apL_mem.1 hd
    by_cases he : y.a = x.a
    · obtain rfl := cd_node hok.2 hy hx he
      exact .inr ⟨rfl, .inr ⟨rfl, Int.le_refl _⟩⟩
    · rw [apC_claim, apC_claim, if_pos rfl, if_neg he]
      unfold LexLe
      split <;> omega
theorem ap_bk {xs : List Lk} {s b : Int} (hok : CdOk xs) (h : IsBk xs s b) : IsBk (apL xs s b) s b := by
  rcases h with ⟨rfl, h⟩ | ⟨x, hx, hxb, hxs, rfl, h⟩
  · refine .inl ⟨rfl, fun d hd hdb => ?_⟩
    obtain ⟨y, hy, rfl⟩ := apL_mem.1 hd
    exact h y hy hdb
  · refine .inr ⟨apC s x.a x, apL_mem.2 ⟨x, hx, rfl⟩, hxb, hxs, rfl, fun d hd hdb hds => ?_⟩
    obtain ⟨y, hy, rfl⟩ := apL_mem.1 hd
    have hys : ¬ y.a = s := hds
    by_cases he : y.a = x.a
    · obtain rfl := cd_node hok.2 hy hx he
      exact .inr ⟨rfl, .inr ⟨rfl, Int.le_refl _⟩⟩
    · rw [apC_claim, apC_claim, if_neg hys, if_neg he, if_neg hxs, if_pos rfl]
      exact .inl (by decide)
theorem ap_ap (xs : List Lk) (s b : Int) : apL (apL xs s b) s b = apL xs s b := by
  unfold apL
  rw [List.map_map]
  rfl
/-- The election of a list, as the specification does it. -/
def elA (xs : List Lk) : Int × Int := if cdB xs then (spS xs, bkS xs (spS xs)) else (-1, -1)
theorem elA_ok {xs : List Lk} (h : CdOk xs) : elA xs = (spS xs, bkS xs (spS xs)) := by unfold elA; rw [if_pos ((cdB_iff xs).2 h)]
theorem elA_by {xs : List Lk} {s b : Int} (h : CdOk xs) (h1 : IsSp xs s) (h2 : IsBk xs s b) : elA xs = (s, b) := by
  rw [elA_ok h]
  have e1 : spS xs = s := (spS_is h).uniq h1
  rw [e1]
  have e2 : bkS xs s = b := (bkS_is h s).uniq h2
  rw [e2]
theorem elA_is {xs : List Lk} {s b : Int} (h : CdOk xs) (he : elA xs = (s, b)) : IsSp xs s ∧ IsBk xs s b := by
  rw [elA_ok h] at he
  cases he
  exact ⟨spS_is h, bkS_is h _⟩
/-- What SpeakerApply answers. -/
def apA (xs : List Lk) : List Lk := if cdB xs then apL xs (elA xs).1 (elA xs).2 else []
/-- P94. -/
theorem ap_stable {xs : List Lk} (h : CdOk xs) : CdOk (apA xs) ∧ elA (apA xs) = elA xs ∧ apA (apA xs) = apA xs := by
  obtain ⟨s, b, he⟩ : ∃ s b, elA xs = (s, b) := ⟨_, _, rfl⟩
  obtain ⟨h1, h2⟩ := elA_is h he
  have ha : apA xs = apL xs s b := by unfold apA; rw [if_pos ((cdB_iff xs).2 h), he]
  have hok := apL_ok h s b
  have hel : elA (apL xs s b) = (s, b) := elA_by hok (ap_sp h h1 b) (ap_bk h h2)
  refine ⟨by rw [ha]; exact hok, by rw [ha, hel, he], ?_⟩
  rw [ha]
  unfold apA
  rw [if_pos ((cdB_iff _).2 hok), hel]
  exact ap_ap xs s b

/-! ### The laws' own -/
/-- The candidate of a node. -/
def cdI (xs : List Lk) (n : Int) : Lk := match xs.find? (fun x => decide (x.a = n)) with
  | some x => x
  | none => ⟨-1, 0, 0⟩
theorem cdI_mem {xs : List Lk} (hp : xs.Pairwise (fun x y => x.a < y.a)) {x : Lk} (h : x ∈ xs) : cdI xs x.a = x := by
  unfold cdI
  cases hf : xs.find? (fun y => decide (y.a = x.a)) with
  | none =>
    rw [List.find?_eq_none] at hf
    have := hf x h
    simp at this
  | some y => exact cd_node hp (List.mem_of_find?_eq_some hf) h (by simpa using List.find?_some hf)
theorem cdI_no {xs : List Lk} {n : Int} (h : ∀ x ∈ xs, x.a ≠ n) : cdI xs n = ⟨-1, 0, 0⟩ := by
  unfold cdI
  rw [List.find?_eq_none.2 (fun x hx => by simpa using h x hx)]
theorem cdI_node {xs : List Lk} (n : Int) (hn : 0 ≤ n) : (cdI xs n).a = n ↔ ∃ x ∈ xs, x.a = n := by
  unfold cdI
  cases hf : xs.find? (fun y => decide (y.a = n)) with
  | none =>
    rw [List.find?_eq_none] at hf
    constructor
    · intro h
      have : (-1 : Int) = n := h
      omega
    · rintro ⟨x, hx, rfl⟩
      have := hf x hx
      simp at this
  | some y =>
    constructor
    · intro _
      exact ⟨y, List.mem_of_find?_eq_some hf, by simpa using List.find?_some hf⟩
    · intro _
      simpa using List.find?_some hf
/-- P91. -/
theorem elect_diff {xs : List Lk} {s b : Int} (h : CdOk xs) (h1 : IsSp xs s) (h2 : IsBk xs s b) :
    (0 ≤ s → (cdI xs s).b ≠ 0) ∧ (0 ≤ b → (cdI xs b).b ≠ 0) ∧ ((s < 0 ∧ b < 0) ∨ s ≠ b) := by
  have hs : (s = -1 ∧ ∀ d ∈ xs, d.b ≤ 0) ∨ (0 ≤ s ∧ (cdI xs s).b ≠ 0) := by
    rcases h1 with h1 | ⟨x, hx, hxb, rfl, _⟩
    · exact .inl h1
    · exact .inr ⟨(h.1 x hx).1.1, by rw [cdI_mem h.2 hx]; omega⟩
  have hb : (b = -1) ∨ (0 ≤ b ∧ (cdI xs b).b ≠ 0 ∧ b ≠ s ∧ ∃ x ∈ xs, 0 < x.b) := by
    rcases h2 with h2 | ⟨x, hx, hxb, hxs, rfl, _⟩
    · exact .inl h2.1
    · exact .inr ⟨(h.1 x hx).1.1, by rw [cdI_mem h.2 hx]; omega, hxs, x, hx, hxb⟩
  refine ⟨fun h0 => ?_, fun h0 => ?_, ?_⟩
  · rcases hs with hs | hs
    · omega
    · exact hs.2
  · rcases hb with hb | hb
    · omega
    · exact hb.2.1
  · rcases hs with ⟨hs1, hs2⟩ | hs
    · rcases hb with hb | ⟨h3, h4, h5, x, hx, hxb⟩
      · exact .inl (by omega)
      · have := hs2 x hx
        omega
    · rcases hb with hb | hb
      · exact .inr (by omega)
      · exact .inr (fun e => hb.2.2.1 e.symm)
/-- P92. -/
theorem elect_some {xs : List Lk} {s b : Int} (h : CdOk xs) (h1 : IsSp xs s) (h2 : IsBk xs s b) :
    (0 ≤ s ↔ 1 ≤ (xs.filter (fun x => decide (0 < x.b))).length) ∧ (0 ≤ b ↔ 2 ≤ (xs.filter (fun x => decide (0 < x.b))).length) := by
  have hfm : ∀ x, x ∈ xs.filter (fun x => decide (0 < x.b)) ↔ x ∈ xs ∧ 0 < x.b := fun x => by rw [List.mem_filter]; simp
  have hfp : (xs.filter (fun x => decide (0 < x.b))).Pairwise (fun x y => x.a < y.a) := h.2.sublist (List.filter_sublist ..)
  generalize xs.filter (fun x => decide (0 < x.b)) = fs at *
  constructor
  · rcases h1 with ⟨rfl, h1⟩ | ⟨x, hx, hxb, rfl, _⟩
    · constructor
      · intro h0; omega
      · intro h0
        obtain ⟨y, hy⟩ : ∃ y, y ∈ fs := List.exists_mem_of_length_pos (by omega)
        have := (hfm y).1 hy
        have := h1 y this.1
        omega
    · have hm : x ∈ fs := (hfm x).2 ⟨hx, hxb⟩
      have := List.length_pos_of_mem hm
      exact ⟨fun _ => by omega, fun _ => (h.1 x hx).1.1⟩
  · rcases h2 with ⟨rfl, h2⟩ | ⟨x, hx, hxb, hxs, rfl, _⟩
    · constructor
      · intro h0; omega
      · intro h0
        match fs, hfm, hfp, h0 with
        | a :: c :: r, hfm, hfp, _ =>
          have ha := (hfm a).1 (List.mem_cons_self ..)
          have hc := (hfm c).1 (List.mem_cons_of_mem _ (List.mem_cons_self ..))
          have := (List.pairwise_cons.1 hfp).1 c (List.mem_cons_self ..)
          rw [h2 a ha.1 ha.2, h2 c hc.1 hc.2] at this
          omega
    · constructor
      · intro _
        have hm : x ∈ fs := (hfm x).2 ⟨hx, hxb⟩
        obtain ⟨y, hy, hyb, hys⟩ : ∃ y ∈ xs, 0 < y.b ∧ y.a = s := by
          rcases h1 with ⟨rfl, h1⟩ | ⟨y, hy, hyb, rfl, _⟩
          · have := h1 x hx
            omega
          · exact ⟨y, hy, hyb, rfl⟩
        have hmy : y ∈ fs := (hfm y).2 ⟨hy, hyb⟩
        match fs, hm, hmy with
        | [c], hm, hmy =>
          have e1 : x = c := by simpa using hm
          have e2 : y = c := by simpa using hmy
          exact absurd (by rw [e1, ← e2, hys]) hxs
        | a :: c :: r, _, _ => simp
      · intro _
        exact (h.1 x hx).1.1
/-- P93. -/
theorem elect_claim {xs : List Lk} {s : Int} (h : CdOk xs) (h1 : IsSp xs s) (h0 : 0 ≤ s) : ∀ d ∈ xs, ¬ (0 < d.b ∧ ((cdI xs s).c < d.c ∨ (d.c = (cdI xs s).c ∧ ((cdI xs s).b < d.b ∨ (d.b = (cdI xs s).b ∧ (cdI xs s).a < d.a))))) := by
  rcases h1 with ⟨rfl, h1⟩ | ⟨x, hx, hxb, rfl, h1⟩
  · omega
  · rw [cdI_mem h.2 hx]
    rintro d hd ⟨hdb, hc⟩
    have := h1 d hd hdb
    unfold LexLe at this
    omega
/-- P97. -/
theorem apply_fail {xs : List Lk} {s b : Int} (h : CdOk xs) (h2 : IsBk xs s b) : elA ((apL xs s b).filter (fun x => decide (x.a ≠ s))) = (b, bkS ((apL xs s b).filter (fun x => decide (x.a ≠ s))) b) := by
  have hok := apL_ok h s b
  have hfm : ∀ x, x ∈ (apL xs s b).filter (fun x => decide (x.a ≠ s)) ↔ x ∈ apL xs s b ∧ x.a ≠ s := fun x => by rw [List.mem_filter]; simp
  have hfok : CdOk ((apL xs s b).filter (fun x => decide (x.a ≠ s))) := ⟨fun x hx => hok.1 x ((hfm x).1 hx).1, hok.2.sublist (List.filter_sublist ..)⟩
  have hb := ap_bk h h2
  refine elA_by hfok ?_ (bkS_is hfok b)
  rcases hb with ⟨rfl, hb⟩ | ⟨x, hx, hxb, hxs, rfl, hb⟩
  · refine .inl ⟨rfl, fun d hd => ?_⟩
    obtain ⟨hd1, hd2⟩ := (hfm d).1 hd
    by_cases hdb : 0 < d.b
    · exact absurd (hb d hd1 hdb) hd2
    · omega
  · refine .inr ⟨x, (hfm x).2 ⟨hx, hxs⟩, hxb, rfl, fun d hd hdb => ?_⟩
    obtain ⟨hd1, hd2⟩ := (hfm d).1 hd
    have h3 := hb d hd1 hdb hd2
    have claim1 : ∀ d ∈ apL xs s x.a, d.a ≠ s → d.c ≤ 1 := fun d hd hs => by
      obtain ⟨y, hy, rfl⟩ := apL_mem.1 hd
      have e1 : ¬ y.a = s := hs
      rw [apC_claim, if_neg e1]
      split <;> omega
    have h4 := claim1 d hd1 hd2
    have h5 := claim1 x hx hxs
    unfold LexLe at h3 ⊢
    omega

/-! ### A new candidate -/
/-- The first k of eight nodes: the old candidates, and the new one of node n. -/
def nxU (xs : List Lk) (n : Int) : Nat → List Lk
  | 0 => []
  | i + 1 => nxU xs n i ++ (if (i : Int) = n then [⟨n, 9, 0⟩] else []) ++ (if (cdI xs (i : Int)).a = (i : Int) then [cdI xs (i : Int)] else [])
theorem nxU_mem {xs : List Lk} {n : Int} {i : Nat} {d : Lk} (hp : xs.Pairwise (fun x y => x.a < y.a)) (h0 : ∀ x ∈ xs, 0 ≤ x.a) : d ∈ nxU xs n i ↔ (d = ⟨n, 9, 0⟩ ∧ 0 ≤ n ∧ n < (i : Int)) ∨ (d ∈ xs ∧ d.a < (i : Int)) := by
  induction i with
  | zero =>
    unfold nxU
    constructor
    · intro h; cases h
    · rintro (⟨_, h1, h2⟩ | ⟨h1, h2⟩)
      · omega
      · have := h0 d h1
        omega
  | succ i ih =>
    unfold nxU
    rw [List.mem_append, List.mem_append, ih]
    have h1 : d ∈ (if (i : Int) = n then [(⟨n, 9, 0⟩ : Lk)] else []) ↔ d = ⟨n, 9, 0⟩ ∧ (i : Int) = n := by
      split
      · rename_i h; simp [h]
      · rename_i h; simp [h]
    have h2 : d ∈ (if (cdI xs (i : Int)).a = (i : Int) then [cdI xs (i : Int)] else []) ↔ d ∈ xs ∧ d.a = (i : Int) := by
      by_cases hc : (cdI xs (i : Int)).a = (i : Int)
      · rw [if_pos hc]
        obtain ⟨x, hx, hxa⟩ := (cdI_node (xs := xs) (i : Int) (by omega)).1 hc
        have hcx : cdI xs (i : Int) = x := by rw [← hxa]; exact cdI_mem hp hx
        rw [hcx]
        constructor
        · intro h
          obtain rfl : d = x := by simpa using h
          exact ⟨hx, hxa⟩
        · rintro ⟨hd, hda⟩
          have := cd_node hp hd hx (hda.trans hxa.symm)
          simp [this]
      · rw [if_neg hc]
        constructor
        · intro h; simp at h
        · rintro ⟨hd, hda⟩
          exact absurd ((cdI_node (xs := xs) (i : Int) (by omega)).2 ⟨d, hd, hda⟩) hc
    rw [h1, h2]
    constructor
    · rintro (((⟨h, h3⟩ | ⟨h, h3⟩) | ⟨h, h3⟩) | ⟨h, h3⟩)
      · exact .inl ⟨h, by omega, by omega⟩
      · exact .inr ⟨h, by omega⟩
      · exact .inl ⟨h, by omega, by omega⟩
      · exact .inr ⟨h, by omega⟩
    · rintro (⟨h, h3⟩ | ⟨h, h3⟩)
      · by_cases he : (i : Int) = n
        · exact .inl (.inr ⟨h, he⟩)
        · exact .inl (.inl (.inl ⟨h, by omega⟩))
      · by_cases he : d.a = (i : Int)
        · exact .inr ⟨h, he⟩
        · exact .inl (.inl (.inr ⟨h, by omega⟩))
theorem nxU_asc {xs : List Lk} {n : Int} (hp : xs.Pairwise (fun x y => x.a < y.a)) (h0 : ∀ x ∈ xs, 0 ≤ x.a) (hn : ∀ x ∈ xs, x.a ≠ n) (i : Nat) : (nxU xs n i).Pairwise (fun x y => x.a < y.a) := by
  induction i with
  | zero => exact List.Pairwise.nil
  | succ i ih =>
    have hm := fun d => @nxU_mem xs n i d hp h0
    unfold nxU
    have hlast : ∀ d, d ∈ nxU xs n i → d.a < (i : Int) := fun d hd => by
      rcases (hm d).1 hd with ⟨rfl, h⟩ | h
      · exact h.2
      · exact h.2
    by_cases he : (i : Int) = n
    · have hc : ¬ (cdI xs (i : Int)).a = (i : Int) := fun h => by
        obtain ⟨x, hx, hxa⟩ := (cdI_node (xs := xs) (i : Int) (by omega)).1 h
        exact hn x hx (hxa.trans he)
      rw [if_pos he, if_neg hc, List.append_nil, List.pairwise_append]
      refine ⟨ih, by simp, fun a ha b hb => ?_⟩
      obtain rfl : b = ⟨n, 9, 0⟩ := by simpa using hb
      have := hlast a ha
      show a.a < n
      omega
    · rw [if_neg he, List.append_nil]
      by_cases hc : (cdI xs (i : Int)).a = (i : Int)
      · rw [if_pos hc, List.pairwise_append]
        refine ⟨ih, by simp, fun a ha b hb => ?_⟩
        obtain rfl : b = cdI xs (i : Int) := by simpa using hb
        have := hlast a ha
        omega
      · rw [if_neg hc, List.append_nil]
        exact ih
/-- P96. -/
theorem apply_new {xs : List Lk} {s b n : Int} (h : CdOk xs) (h1 : IsSp xs s) (h2 : IsBk xs s b) (hs : 0 ≤ s) (hn0 : 0 ≤ n) (hn7 : n ≤ 7) (hn : ∀ x ∈ apL xs s b, x.a ≠ n) :
    (elA (nxU (apL xs s b) n 8)).1 = s ∧ (0 ≤ b → (elA (nxU (apL xs s b) n 8)).2 = b) := by
  have hok := apL_ok h s b
  have g1 := ap_sp h h1 b
  have g2 := ap_bk h h2
  have h0 : ∀ x ∈ apL xs s b, 0 ≤ x.a := fun x hx => (hok.1 x hx).1.1
  have hm : ∀ d, d ∈ nxU (apL xs s b) n 8 ↔ d = ⟨n, 9, 0⟩ ∨ d ∈ apL xs s b := fun d => by
    rw [nxU_mem hok.2 h0]
    constructor
    · rintro (h | h)
      · exact .inl h.1
      · exact .inr h.1
    · rintro (h | h)
      · exact .inl ⟨h, by omega, by omega⟩
      · exact .inr ⟨h, by have := (hok.1 d h).1; omega⟩
  have hxok : CdOk (nxU (apL xs s b) n 8) := ⟨fun d hd => by
    rcases (hm d).1 hd with rfl | hd
    · exact ⟨⟨hn0, hn7⟩, ⟨by show (0 : Int) ≤ 9; omega, by show (9 : Int) ≤ 9; omega⟩, by show (0 : Int) ≤ 0; omega, by show (0 : Int) ≤ 2; omega⟩
    · exact hok.1 d hd, nxU_asc hok.2 h0 hn 8⟩
  generalize nxU (apL xs s b) n 8 = nx at *
  have claim : ∀ x ∈ apL xs s b, (x.a = s → x.c = 2) ∧ (x.a ≠ s → x.a = b → x.c = 1) := fun x hx => by
    obtain ⟨y, hy, rfl⟩ := apL_mem.1 hx
    refine ⟨fun e => ?_, fun e1 e2 => ?_⟩
    · rw [apC_claim, if_pos (show y.a = s from e)]
    · rw [apC_claim, if_neg (show ¬ y.a = s from e1), if_pos (show y.a = b from e2)]
  have k1 : IsSp nx s := by
    rcases g1 with ⟨rfl, _⟩ | ⟨x, hx, hxb, hxs, g1⟩
    · omega
    · refine .inr ⟨x, (hm x).2 (.inr hx), hxb, hxs, fun d hd hdb => ?_⟩
      rcases (hm d).1 hd with rfl | hd
      · have := (claim x hx).1 hxs.symm
        exact .inl (show (0 : Int) < x.c by omega)
      · exact g1 d hd hdb
  have e1 : spS nx = s := (spS_is hxok).uniq k1
  rw [elA_ok hxok, e1]
  refine ⟨rfl, fun hb0 => ?_⟩
  refine (bkS_is hxok s).uniq ?_
  rcases g2 with ⟨rfl, _⟩ | ⟨x, hx, hxb, hxs, hxa, g2⟩
  · omega
  · refine .inr ⟨x, (hm x).2 (.inr hx), hxb, hxs, hxa, fun d hd hdb hds => ?_⟩
    rcases (hm d).1 hd with rfl | hd
    · have := (claim x hx).2 hxs hxa.symm
      exact .inl (show min (0 : Int) 1 < min x.c 1 by omega)
    · exact g2 d hd hdb hds
end Go.Proofs.Ytcndhodibeofiaa
