/-
  Contracts over this seat: the specification's StackEnd, StackPath and StackCost.
-/
import Derived.Test.YtblmmmeeljidiabSq
import Derived.Test.YtblmmmeeljidiabCo
import Derived.Test.YtblmmmeeljidiabRh
namespace Go.Proofs.Ytblmmmeeljidiab
open Go.RowKit Go.Maps

theorem endI_none {nn : Int} {ls : List Lk} {s : Int} {st : List Lb} (h : (endI nn ls s st).isSome = false) : endI nn ls s st = none := by
  cases he : endI nn ls s st with
  | none => rfl
  | some z => rw [he] at h; cases h

set_option maxRecDepth 100000 in
theorem stackEnd_spec (nn : Int) (A : Option Addr) (ls : List Lk) (c : Nat) (s : Int) (B : Option Addr) (st : List Lb) (cb : Nat) (w : World) (hm : ls.length ≤ 2000000) (hnu : nn ≤ 9223372036854775807) (hmb : st.length ≤ 2000000) (hS : Sl w w.heap.size A ls) (hT : Slb w w.heap.size B st) :
   Calls Try.prog 14 #[gval nn A ls.length c, .int .i64 s, .slice B st.length cb] w fun e w' => e = .returned (stepV (endI nn ls s st)) ∧ Below w.heap.size w w' := by
  have B0 : Below w.heap.size w (w.alloc (.cells #[.int .i64 nn, .slice A ls.length c] 25)) := by (repeat (first | exact Below.refl _ _ | (refine Below.alloc ?_ (by first | exact Nat.le_refl _ | omega | (simp; done) | (simp; omega)) _) | (refine Below.setCell ?_ (by first | exact Nat.le_refl _ | omega | (simp; done) | (simp; omega)) _) | exact Below.drew ‹_›))
  have C1 := l4nodes_any nn A ls c s B st cb _ hm hnu hmb ((hS.below B0).more B0.size) (hT.grow B0)
  unfold NdsR at C1
  have HB := Lib.hid B0
  clear hS hT B0
  have HE1 : Hid ((endI nn ls s st).isSome = false → endI nn ls s st = none) := Lib.hid endI_none
  have HE2 : Hid ((endI nn ls s st).isSome = true → st.length ≤ 8 ∧ ∃ z, endI nn ls s st = some z ∧ (ndsL nn ls s st st.length)[st.length]? = some z) := Lib.hid (fun h => by
    obtain ⟨n, z, rfl, hg, hs, h8, he, hz⟩ := endI_inv h
    exact ⟨h8, z, hz, ndsL_at (Nat.le_refl _) (by rw [List.take_length]; exact he)⟩)
  have HLN : Hid ((ndsL nn ls s st st.length).length = st.length + 1) := Lib.hid (ndsL_len _ _ _ _ _)
  generalize ndsL nn ls s st st.length = xs at *
  generalize endI nn ls s st = o at *
  go_enter Try.func14, Try.ntmps14
  go_wp2_with fail
  refine C1.mono ?_
  clear C1
  rintro e w1 (⟨hok, A1, g1, c1, rfl, hg1, ho1, hb1⟩ | ⟨hok, v, rfl, hb1⟩)
  · obtain ⟨h8, z, rfl, hz⟩ := HE2.out hok
    have B1 := Lib.hid (HB.out.trans (hb1.mono HB.out.size))
    obtain ⟨rfl, zg, hcx⟩ := ho1.at hz
    have hsub : ((st.length + 1 : Nat) : Int) - 1 = (st.length : Int) := by omega
    have hwp : IntKind.i64.wrap (st.length : Int) = (st.length : Int) := IntWalk.i64_in _ (by omega)
    have hlt : st.length < st.length + 1 := by omega
    clear hok hz ho1 hb1 hg1
    go_wp2_with fail
    go_returns
    exact ⟨rfl, B1.out⟩
  · obtain rfl := HE1.out hok
    have B1 := Lib.hid (HB.out.trans (hb1.mono HB.out.size))
    clear hok hb1
    go_wp2_with fail
    go_returns
    exact ⟨rfl, B1.out⟩

/-- A slice that reads as numbers, wherever it begins. -/
def SlicI (xs : List Int) (w : World) (e : Ending) (w' : World) : Prop :=
  ∃ g o c, e = .returned (.slice (some ⟨g, o, none⟩) xs.length c) ∧ (∀ (i : Nat) (u : Int), xs[i]? = some u → w'.cell? ⟨g, o + i, none⟩ = some (.int .i64 u)) ∧ Below w.heap.size w w'

set_option maxRecDepth 100000 in
set_option maxHeartbeats 800000 in
theorem l4part_any (n : Nat) (A : Option Addr) (ls : List Lk) (c : Nat) (x z : Int) (l : Lb) (w : World) (hg : gvB (n : Int) ls = true) (hx : 0 ≤ x ∧ x < (n : Int)) (hz : stepO (n : Int) ls x l = some z) (hS : Sl w w.heap.size A ls) :
   Calls Try.prog 43 #[gval (n : Int) A ls.length c, .int .i64 x, .int .i64 z, l.v] w (SlicI ((legP (n : Int) ls x l).drop 1) w) := by
  have hne := stepO_leg hz
  obtain ⟨z', h1, h2, h3, h4, h5, h6, h7⟩ := leg_fact hg hx hne
  rw [h1] at hz
  cases hz
  have B0 : Below w.heap.size w ((w.alloc (.cells #[.int .i64 (n : Int), .slice A ls.length c] 25)).alloc (.cells #[.int .i64 l.k, .int .i64 l.a] 40)) := by (repeat (first | exact Below.refl _ _ | (refine Below.alloc ?_ (by first | exact Nat.le_refl _ | omega | (simp; done) | (simp; omega)) _) | (refine Below.setCell ?_ (by first | exact Nat.le_refl _ | omega | (simp; done) | (simp; omega)) _) | exact Below.drew ‹_›))
  have HB := Lib.hid B0
  have HS := Lib.hid ((hS.below B0).more B0.size)
  clear hS B0
  rcases leg_kind hne with hk | hk
  · obtain ⟨rfl, -, hp⟩ := h7 hk
    have hp8 := h5
    have CP := fun W (h : Sl W W.heap.size A ls) => l2path_anyC n A ls c x l.a W hg hx h2 h
    have e : legP (n : Int) ls x l = pathI (n : Int) ls x l.a := by unfold legP; rw [if_pos hk]
    rw [e] at hne hp8 ⊢
    generalize pathI (n : Int) ls x l.a = p at *
    obtain ⟨u, r, rfl⟩ : ∃ u r, p = u :: r := by
      cases p with
      | nil => exact absurd rfl hne
      | cons u r => exact ⟨u, r, rfl⟩
    have hr8 : r.length ≤ 7 := by simp at hp8; omega
    obtain ⟨k, a⟩ := l
    dsimp only at *
    subst hk
    clear h1 h2 h3 h4 h5 h6 h7 hp e hne hp8
    simp only [List.drop_succ_cons, List.drop_zero]
    go_enter Try.func43, Try.ntmps43
    go_wp2_with fail
    refine (CP _ HS.out).mono ?_
    clear CP
    rintro e w1 ⟨A1, g1, c1, rfl, hg1, ho1, hb1, hcp⟩
    obtain ⟨rfl, zg, hc0⟩ := ho1.at (show (u :: r)[0]? = some u from rfl)
    have HO := Lib.hid ho1
    have B1 := Lib.hid (HB.out.trans (hb1.mono HB.out.size))
    simp only [List.length_cons] at *
    clear ho1 hb1 hg1
    by_cases hc1 : c1 = 1
    · obtain rfl : r = [] := List.eq_nil_of_length_eq_zero (by omega)
      subst hc1
      simp only [List.length_nil, Nat.zero_add] at *
      go_wp2_with fail
      go_ret
      exact ⟨g1, 0, 0, rfl, fun i u h => by simp at h, B1.out⟩
    · have hc2 : 1 < c1 := by omega
      go_wp2_with fail
      go_ret
      refine ⟨g1, 1, c1 - 1, rfl, fun i y h => ?_, B1.out⟩
      obtain ⟨-, -, hy⟩ := HO.out.at (show (u :: r)[i + 1]? = some y by simpa using h)
      rw [Nat.add_comm]
      exact hy
  · obtain ⟨j, lk, ha, hlk, ht, e⟩ := leg_link hk hne
    rw [e] at h6 ⊢
    simp at h6
    rw [h6]
    obtain ⟨k, a⟩ := l
    dsimp only at *
    subst hk
    clear h1 h2 h3 h4 h5 h6 h7 e hne ha hlk ht
    simp only [List.drop_succ_cons, List.drop_zero]
    go_enter Try.func43, Try.ntmps43
    go_wp2_with fail
    go_ret
    refine ⟨w.heap.size + 1 + 1, 0, 1, by simp, fun i y h => ?_, HB.out.alloc HB.out.size _⟩
    have hi := (List.getElem?_eq_some_iff.1 h).1
    obtain rfl : i = 0 := by simpa using hi
    simp at h
    subst h
    have := (Box.new ((w.alloc (.cells #[.int .i64 (n : Int), .slice A ls.length c] 25)).alloc (.cells #[.int .i64 2, .int .i64 a] 40)) 3 #[.int .i64 z]).cell 0
    simpa using this

end Go.Proofs.Ytblmmmeeljidiab
