/-
  Contracts over this seat: the program's RepairPath, and RepairStack by the package's error.
-/
import Derived.Test.YtenlofomkchlaaaVs
import Derived.Test.YtenlofomkchlaaaVl
import Derived.Test.YtenlofomkchlaaaSen
import Derived.Test.YtenlofomkchlaaaVh
import Derived.Test.YtenlofomkchlaaaVi
import Derived.Test.YtenlofomkchlaaaWr
namespace Go.Proofs.Ytenlofomkchlaaa
open Go.RowKit Go.Maps

set_option maxHeartbeats 800000 in
theorem without_no (n : Int) (A : Option Addr) (ls : List Lk) (c : Nat) (x : Int) (w : World) (hm : ls.length ≤ 2000000) (hno : withoutOk n ls x = false) (h : Sl w w.heap.size A ls) :
   Calls Try.prog 30 #[gval n A ls.length c, .int .i64 x] w (GRes 0 [] false w) := by
  have H := Lib.hid h
  have hK := ((Box.new w 30 #[.int .i64 n, .slice A ls.length c]).alloc (.cells #[.int .i64 x] 3)).alloc (.cells #[.int .i64 0, .slice none 0 0] 30)
  have hX := (Box.new (w.alloc (.cells #[.int .i64 n, .slice A ls.length c] 30)) 3 #[.int .i64 x]).alloc (.cells #[.int .i64 0, .slice none 0 0] 30)
  have hL := Box.new ((w.alloc (.cells #[.int .i64 n, .slice A ls.length c] 30)).alloc (.cells #[.int .i64 x] 3)) 30 #[.int .i64 0, .slice none 0 0]
  simp only [World.size_alloc] at hX hL
  have HK := Lib.hid hK
  have HX := Lib.hid hX
  have HL := Lib.hid hL
  clear h hK hX hL
  cases hv : gvB n ls with
  | false =>
    clear hno
    have C1 : ∀ W : World, Sl W W.heap.size A ls → Calls Try.prog 57 #[gval n A ls.length c] W fun e w' => e = .returned (.bool false) ∧ Below W.heap.size W w' := fun W hW => by
      have := valid_impl n _ ls c W hm hW
      rwa [hv] at this
    clear hv
    go_enter Try.func30, Try.ntmps30
    go_wp2_with (go_at_call 57; refine (C1 _ ((H.out.below (by (repeat (first | exact Below.refl _ _ | (refine Below.alloc ?_ (by first | exact Nat.le_refl _ | omega | (simp; done) | (simp; omega)) _) | (refine Below.setCell ?_ (by first | exact Nat.le_refl _ | omega | (simp; done) | (simp; omega)) _) | exact Below.drew ‹_›)))).more (by simp; omega))).mono ?_; rintro e w1 ⟨rfl, hb1⟩; have L1 := HL.out.below hb1 (by simp); have B1 := Lib.hid (Below.trans (B := w.heap.size) (a := w) (by (repeat (first | exact Below.refl _ _ | (refine Below.alloc ?_ (by first | exact Nat.le_refl _ | omega | (simp; done) | (simp; omega)) _) | (refine Below.setCell ?_ (by first | exact Nat.le_refl _ | omega | (simp; done) | (simp; omega)) _) | exact Below.drew ‹_›))) (hb1.mono (by simp; omega))); clear hb1; obtain ⟨z11, f10, f11, q10, q11⟩ := L1.two)
    refine bodyPost_ret (v := .tuple #[gval 0 none 0 0, .bool false]) (by simp [results, Try.results30, go_sem, f10, f11]) rfl ⟨none, w.heap.size, 0, rfl, Nat.le_refl _, fun h => absurd h (by simp), ?_⟩
    exact (B1.out.setCell (by simp; omega) _).setCell (by simp; omega) _
  | true =>
    have C1 : ∀ W : World, Sl W W.heap.size A ls → Calls Try.prog 57 #[gval n A ls.length c] W fun e w' => e = .returned (.bool true) ∧ Below W.heap.size W w' := fun W hW => by
      have := valid_impl n _ ls c W hm hW
      rwa [hv] at this
    cases hx : inB x 0 ((ls.length : Int) - 1) with
    | false =>
      clear hno
      have C2 : ∀ W : World, Calls Try.prog 55 #[gval n A ls.length c, .int .i64 x] W fun e w' => e = .returned (.bool false) ∧ Below W.heap.size W w' := fun W => by
        have := hasLink_any n A ls.length c x W hm
        rwa [hx] at this
      clear hv hx
      go_enter Try.func30, Try.ntmps30
      go_wp2_with (first
        | (go_at_call 57; refine (C1 _ ((H.out.below (by (repeat (first | exact Below.refl _ _ | (refine Below.alloc ?_ (by first | exact Nat.le_refl _ | omega | (simp; done) | (simp; omega)) _) | (refine Below.setCell ?_ (by first | exact Nat.le_refl _ | omega | (simp; done) | (simp; omega)) _) | exact Below.drew ‹_›)))).more (by simp; omega))).mono ?_; rintro e w1 ⟨rfl, hb1⟩; have L1 := Lib.hid (HL.out.below hb1 (by simp)); have K1 := HK.out.below hb1 (by simp; omega); have X1 := HX.out.below hb1 (by simp); have B1 := Lib.hid (Below.trans (B := w.heap.size) (a := w) (by (repeat (first | exact Below.refl _ _ | (refine Below.alloc ?_ (by first | exact Nat.le_refl _ | omega | (simp; done) | (simp; omega)) _) | (refine Below.setCell ?_ (by first | exact Nat.le_refl _ | omega | (simp; done) | (simp; omega)) _) | exact Below.drew ‹_›))) (hb1.mono (by simp; omega))); clear hb1; have z10 := K1.lt; have e10 := K1.cell 0; have e11 := K1.cell 1; have x10 := X1.cell 0)
        | (go_at_call 55; refine (C2 _).mono ?_; rintro e w2 ⟨rfl, hb2⟩; have L2 := L1.out.below hb2 L1.out.lt; have B2 := Lib.hid (B1.out.trans (hb2.mono (Nat.le_of_lt z10))); clear hb2 e10 e11 x10; obtain ⟨z21, f20, f21, q20, q21⟩ := L2.two))
      refine bodyPost_ret (v := .tuple #[gval 0 none 0 0, .bool false]) (by simp [results, Try.results30, go_sem, f20, f21]) rfl ⟨none, w.heap.size, 0, rfl, Nat.le_refl _, fun h => absurd h (by simp), ?_⟩
      exact (B2.out.setCell (by simp; omega) _).setCell (by simp; omega) _
    | true =>
      unfold withoutOk at hno
      rw [hv, hx] at hno
      cases hno

theorem pathI_er {nn : Int} {ls : List Lk} {s t : Int} {k : Nat} (hg : gvB nn ls = true) (h : vwB nn ls [s, t] = false) : pathI nn (ls.eraseIdx k) s t = [] := by
  refine pathI_bad ?_
  unfold vwB at h ⊢
  rw [hg, Bool.true_and] at h
  rw [h, Bool.and_false]
/-- What GraphWithout gives, and the path in it. -/
theorem rp_less (nn : Int) (A : Option Addr) (ls : List Lk) (c : Nat) (s x t : Int) (hm : ls.length ≤ 2000000) (hA : 0 < ls.length → ∃ g, A = some ⟨g, 0, none⟩) :
    ∃ (m : Int) (rs : List Lk) (ok : Bool), rs.length ≤ 2000000 ∧ pathI m rs s t = rpP nn ls s x t ∧ ∀ W : World, Sl W W.heap.size A ls → Calls Try.prog 30 #[gval nn A ls.length c, .int .i64 x] W (GRes m rs ok W) := by
  cases h : withoutOk nn ls x with
  | false =>
    refine ⟨0, [], false, by simp, ?_, fun W hW => without_no nn A ls c x W hm h hW⟩
    rw [pathI_bad (by simp [vwB, gvB, inB])]
    unfold rpP
    rw [if_neg]
    intro hc
    rw [Bool.and_eq_true] at hc
    unfold withoutOk at h
    rw [(vwB_two hc.1).1, idx_in, hc.2] at h
    cases h
  | true =>
    have h' := h
    unfold withoutOk at h'
    rw [idx_in, Bool.and_eq_true] at h'
    obtain ⟨hg, hi⟩ := h'
    obtain ⟨k, l, rfl, hl⟩ := idx_at hi
    have hkl := (List.getElem?_eq_some_iff.1 hl).1
    obtain ⟨g, rfl⟩ := hA (by omega)
    refine ⟨nn, ls.eraseIdx k, true, Nat.le_trans (List.length_eraseIdx_le _ _) hm, ?_, fun W hW => ?_⟩
    · unfold rpP
      rw [hi, Bool.and_true, show ((k : Int)).toNat = k by omega]
      cases hv : vwB nn ls [s, t] with
      | true => rfl
      | false => exact pathI_er hg hv
    · have := without_impl nn g ls c (k : Int) W hm hW
      rwa [if_pos h, keep_erase] at this

set_option maxRecDepth 100000 in
set_option maxHeartbeats 800000 in
theorem repPath_implC (nn : Int) (A : Option Addr) (ls : List Lk) (c : Nat) (s x t : Int) (w : World) (hm : ls.length ≤ 2000000) (hA : 0 < ls.length → ∃ g, A = some ⟨g, 0, none⟩) (hS : Sl w w.heap.size A ls) :
   Calls Try.prog 21 #[gval nn A ls.length c, .int .i64 s, .int .i64 x, .int .i64 t] w (NewC (rpP nn ls s x t) w) := by
  have B0 : Below w.heap.size w (w.alloc (.cells #[.int .i64 nn, .slice A ls.length c] 30)) := by (repeat (first | exact Below.refl _ _ | (refine Below.alloc ?_ (by first | exact Nat.le_refl _ | omega | (simp; done) | (simp; omega)) _) | (refine Below.setCell ?_ (by first | exact Nat.le_refl _ | omega | (simp; done) | (simp; omega)) _) | exact Below.drew ‹_›))
  have HB := Lib.hid B0
  obtain ⟨m, rs, ok, hrs, hp, CW⟩ := rp_less nn A ls c s x t hm hA
  have C1 := CW _ ((hS.below B0).more B0.size)
  have CP := fun B c' W (h : Sl W W.heap.size B rs) => path_implC m B rs c' s t W hrs h
  rw [hp] at CP
  clear hS B0 CW hp hA
  generalize rpP nn ls s x t = p at *
  go_enter Try.func21, Try.ntmps21
  go_wp2_with fail
  refine C1.mono ?_
  clear C1
  rintro e w1 ⟨A1, g1, c1, rfl, hg1, ho1, hb1⟩
  have B1 := Lib.hid (HB.out.trans (hb1.mono HB.out.size))
  have hz := HB.out.size
  have O1 := Lib.hid ((ho1.alloc (.cells #[.int .i64 m, .slice A1 rs.length c1] 30)).sl)
  have B2 := Lib.hid (B1.out.alloc B1.out.size (.cells #[.int .i64 m, .slice A1 rs.length c1] 30))
  clear hb1 ho1
  go_wp2_with fail
  refine (CP A1 c1 _ O1.out).mono ?_
  clear CP
  rintro e w2 ⟨A2, g2, c2, rfl, hg2, ho2, hb2, hc2⟩
  have B3 := Lib.hid (B2.out.trans (hb2.mono B2.out.size))
  have hz2 := B2.out.size
  have O2 := Lib.hid ho2
  clear hb2 ho2
  go_wp2_with fail
  go_ret
  exact ⟨A2, g2, c2, rfl, by omega, O2.out, B3.out, hc2⟩
theorem repPath_impl (nn : Int) (A : Option Addr) (ls : List Lk) (c : Nat) (s x t : Int) (w : World) (hm : ls.length ≤ 2000000) (hA : 0 < ls.length → ∃ g, A = some ⟨g, 0, none⟩) (hS : Sl w w.heap.size A ls) :
   Calls Try.prog 21 #[gval nn A ls.length c, .int .i64 s, .int .i64 x, .int .i64 t] w (NewI (rpP nn ls s x t) w) :=
  (repPath_implC nn A ls c s x t w hm hA hS).mono fun _ _ h => h.newI


theorem rpP_RW {nn : Int} {ls : List Lk} {s x t : Int} (h : rpP nn ls s x t ≠ []) : ∃ n k : Nat, nn = (n : Int) ∧ x = (k : Int) ∧ RW n ls k (rpP nn ls s x t) := by
  have h8 := rpP_len nn ls s x t
  obtain ⟨n, k, l, rfl, rfl, hl, hg, hs, ht, hp⟩ := rpP_some h
  refine ⟨n, k, rfl, rfl, ⟨hg, ⟨l, hl⟩, isP_nodes ht hp, hp.way (er_gv hg k) ht, ?_, by omega⟩⟩
  rcases Nat.eq_zero_or_pos (rpP (n : Int) ls s (k : Int) t).length with h0 | h0
  · exact absurd (List.length_eq_zero_iff.1 h0) h
  · exact h0



end Go.Proofs.Ytenlofomkchlaaa
