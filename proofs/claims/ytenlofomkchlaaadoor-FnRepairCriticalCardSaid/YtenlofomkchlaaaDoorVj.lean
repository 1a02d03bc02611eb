/-
  Contracts over this seat: the program's RepairPath, and RepairStack by the package's error.
-/
import Derived.Test.YtenlofomkchlaaaDoorVs
import Derived.Test.YtenlofomkchlaaaDoorVl
import Derived.Test.YtenlofomkchlaaaDoorSen
import Derived.Test.YtenlofomkchlaaaDoorVh
import Derived.Test.YtenlofomkchlaaaDoorVi
import Derived.Test.YtenlofomkchlaaaDoorWr
namespace Go.Proofs.YtenlofomkchlaaaDoor
open Go.RowKit Go.Maps

set_option maxHeartbeats 800000 in
theorem without_no (n : Int) (A : Option Addr) (ls : List Lk) (c : Nat) (x : Int) (w : World) (hm : ls.length ≤ 2000000) (hno : withoutOk n ls x = false) (h : Sl w w.heap.size A ls) :
   Calls Tryd.prog 14 #[gval n A ls.length c, .int .i64 x] w (GRes 0 [] false w) := by
  have H := Lib.hid h
  have hK := ((Box.new w 25 #[.int .i64 n, .slice A ls.length c]).alloc (.cells #[.int .i64 x] 3)).alloc (.cells #[.int .i64 0, .slice none 0 0] 25)
  have hX := (Box.new (w.alloc (.cells #[.int .i64 n, .slice A ls.length c] 25)) 3 #[.int .i64 x]).alloc (.cells #[.int .i64 0, .slice none 0 0] 25)
  have hL := Box.new ((w.alloc (.cells #[.int .i64 n, .slice A ls.length c] 25)).alloc (.cells #[.int .i64 x] 3)) 25 #[.int .i64 0, .slice none 0 0]
  simp only [World.size_alloc] at hX hL
  have HK := Lib.hid hK
  have HX := Lib.hid hX
  have HL := Lib.hid hL
  clear h hK hX hL
  cases hv : gvB n ls with
  | false =>
    clear hno
    have C1 : ∀ W : World, Sl W W.heap.size A ls → Calls Tryd.prog 13 #[gval n A ls.length c] W fun e w' => e = .returned (.bool false) ∧ Below W.heap.size W w' := fun W hW => by
      have := valid_impl n _ ls c W hm hW
      rwa [hv] at this
    clear hv
    go_enter Tryd.func14, Tryd.ntmps14
    go_wp2_with (go_at_call 13; refine (C1 _ ((H.out.below (by (repeat (first | exact Below.refl _ _ | (refine Below.alloc ?_ (by first | exact Nat.le_refl _ | omega | (simp; done) | (simp; omega)) _) | (refine Below.setCell ?_ (by first | exact Nat.le_refl _ | omega | (simp; done) | (simp; omega)) _) | exact Below.drew ‹_›)))).more (by simp; omega))).mono ?_; rintro e w1 ⟨rfl, hb1⟩; have L1 := HL.out.below hb1 (by simp); have B1 := Lib.hid (Below.trans (B := w.heap.size) (a := w) (by (repeat (first | exact Below.refl _ _ | (refine Below.alloc ?_ (by first | exact Nat.le_refl _ | omega | (simp; done) | (simp; omega)) _) | (refine Below.setCell ?_ (by first | exact Nat.le_refl _ | omega | (simp; done) | (simp; omega)) _) | exact Below.drew ‹_›))) (hb1.mono (by simp; omega))); clear hb1; obtain ⟨z11, f10, f11, q10, q11⟩ := L1.two)
    refine bodyPost_ret (v := .tuple #[gval 0 none 0 0, .bool false]) (by simp [results, Tryd.results14, go_sem, f10, f11]) rfl ⟨none, w.heap.size, 0, rfl, Nat.le_refl _, fun h => absurd h (by simp), ?_⟩
    exact (B1.out.setCell (by simp; omega) _).setCell (by simp; omega) _
  | true =>
    have C1 : ∀ W : World, Sl W W.heap.size A ls → Calls Tryd.prog 13 #[gval n A ls.length c] W fun e w' => e = .returned (.bool true) ∧ Below W.heap.size W w' := fun W hW => by
      have := valid_impl n _ ls c W hm hW
      rwa [hv] at this
    cases hx : inB x 0 ((ls.length : Int) - 1) with
    | false =>
      clear hno
      have C2 : ∀ W : World, Calls Tryd.prog 25 #[gval n A ls.length c, .int .i64 x] W fun e w' => e = .returned (.bool false) ∧ Below W.heap.size W w' := fun W => by
        have := hasLink_any n A ls.length c x W hm
        rwa [hx] at this
      clear hv hx
      go_enter Tryd.func14, Tryd.ntmps14
      go_wp2_with (first
        | (go_at_call 13; refine (C1 _ ((H.out.below (by (repeat (first | exact Below.refl _ _ | (refine Below.alloc ?_ (by first | exact Nat.le_refl _ | omega | (simp; done) | (simp; omega)) _) | (refine Below.setCell ?_ (by first | exact Nat.le_refl _ | omega | (simp; done) | (simp; omega)) _) | exact Below.drew ‹_›)))).more (by simp; omega))).mono ?_; rintro e w1 ⟨rfl, hb1⟩; have L1 := Lib.hid (HL.out.below hb1 (by simp)); have K1 := HK.out.below hb1 (by simp; omega); have X1 := HX.out.below hb1 (by simp); have B1 := Lib.hid (Below.trans (B := w.heap.size) (a := w) (by (repeat (first | exact Below.refl _ _ | (refine Below.alloc ?_ (by first | exact Nat.le_refl _ | omega | (simp; done) | (simp; omega)) _) | (refine Below.setCell ?_ (by first | exact Nat.le_refl _ | omega | (simp; done) | (simp; omega)) _) | exact Below.drew ‹_›))) (hb1.mono (by simp; omega))); clear hb1; have z10 := K1.lt; have e10 := K1.cell 0; have e11 := K1.cell 1; have x10 := X1.cell 0)
        | (go_at_call 25; refine (C2 _).mono ?_; rintro e w2 ⟨rfl, hb2⟩; have L2 := L1.out.below hb2 L1.out.lt; have B2 := Lib.hid (B1.out.trans (hb2.mono (Nat.le_of_lt z10))); clear hb2 e10 e11 x10; obtain ⟨z21, f20, f21, q20, q21⟩ := L2.two))
      refine bodyPost_ret (v := .tuple #[gval 0 none 0 0, .bool false]) (by simp [results, Tryd.results14, go_sem, f20, f21]) rfl ⟨none, w.heap.size, 0, rfl, Nat.le_refl _, fun h => absurd h (by simp), ?_⟩
      exact (B2.out.setCell (by simp; omega) _).setCell (by simp; omega) _
    | true =>
      unfold withoutOk at hno
      rw [hv, hx] at hno
      cases hno

theorem pathI_er {nn : Int} {ls : List Lk} {s t : Int} {k : Nat} (hg : gvB nn ls = true) (h : vwB nn ls [s, t] = false) : pathI nn (ls.eraseIdx k) s t = [] := by
  refine pathI_bad ?_
  unfold vwB at h ⊢
  rw [hg, Bool.true_and] at h
  rw [h, Bool.and_false]
/-- What GraphWithout gives, and the path in it. -/
theorem rp_less (nn : Int) (A : Option Addr) (ls : List Lk) (c : Nat) (s x t : Int) (hm : ls.length ≤ 2000000) (hA : 0 < ls.length → ∃ g, A = some ⟨g, 0, none⟩) :
    ∃ (m : Int) (rs : List Lk) (ok : Bool), rs.length ≤ 2000000 ∧ pathI m rs s t = rpP nn ls s x t ∧ ∀ W : World, Sl W W.heap.size A ls → Calls Tryd.prog 14 #[gval nn A ls.length c, .int .i64 x] W (GRes m rs ok W) := by
  cases h : withoutOk nn ls x with
  | false =>
    refine ⟨0, [], false, by simp, ?_, fun W hW => without_no nn A ls c x W hm h hW⟩
    rw [pathI_bad (by simp [vwB, gvB, inB])]
    unfold rpP
    rw [if_neg]
    intro hc
    rw [Bool.and_eq_true] at hc
    unfold withoutOk at h
    rw [(vwB_two hc.1).1, idx_in, hc.2] at h
    cases h
  | true =>
    have h' := h
    unfold withoutOk at h'
    rw [idx_in, Bool.and_eq_true] at h'
    obtain ⟨hg, hi⟩ := h'
    obtain ⟨k, l, rfl, hl⟩ := idx_at hi
    have hkl := (List.getElem?_eq_some_iff.1 hl).1
    obtain ⟨g, rfl⟩ := hA (by omega)
    refine ⟨nn, ls.eraseIdx k, true, Nat.le_trans (List.length_eraseIdx_le _ _) hm, ?_, fun W hW => ?_⟩
    · unfold rpP
      rw [hi, Bool.and_true, show ((k : Int)).toNat = k by omega]
      cases hv : vwB nn ls [s, t] with
      | true => rfl
      | false => exact pathI_er hg hv
    · have := without_impl nn g ls c (k : Int) W hm hW
      rwa [if_pos h, keep_erase] at this

set_option maxRecDepth 100000 in
set_option maxHeartbeats 800000 in
theorem repPath_implC (nn : Int) (A : Option Addr) (ls : List Lk) (c : Nat) (s x t : Int) (w : World) (hm : ls.length ≤ 2000000) (hA : 0 < ls.length → ∃ g, A = some ⟨g, 0, none⟩) (hS : Sl w w.heap.size A ls) :
   Calls Tryd.prog 33 #[gval nn A ls.length c, .int .i64 s, .int .i64 x, .int .i64 t] w (NewC (rpP nn ls s x t) w) := by
  have B0 : Below w.heap.size w (w.alloc (.cells #[.int .i64 nn, .slice A ls.length c] 25)) := by (repeat (first | exact Below.refl _ _ | (refine Below.alloc ?_ (by first | exact Nat.le_refl _ | omega | (simp; done) | (simp; omega)) _) | (refine Below.setCell ?_ (by first | exact Nat.le_refl _ | omega | (simp; done) | (simp; omega)) _) | exact Below.drew ‹_›))
  have HB := Lib.hid B0
  obtain ⟨m, rs, ok, hrs, hp, CW⟩ := rp_less nn A ls c s x t hm hA
  have C1 := CW _ ((hS.below B0).more B0.size)
  have CP := fun B c' W (h : Sl W W.heap.size B rs) => path_implC m B rs c' s t W hrs h
  rw [hp] at CP
  clear hS B0 CW hp hA
  generalize rpP nn ls s x t = p at *
  go_enter Tryd.func33, Tryd.ntmps33
  go_wp2_with fail
  refine C1.mono ?_
  clear C1
  rintro e w1 ⟨A1, g1, c1, rfl, hg1, ho1, hb1⟩
  have B1 := Lib.hid (HB.out.trans (hb1.mono HB.out.size))
  have hz := HB.out.size
  have O1 := Lib.hid ((ho1.alloc (.cells #[.int .i64 m, .slice A1 rs.length c1] 25)).sl)
  have B2 := Lib.hid (B1.out.alloc B1.out.size (.cells #[.int .i64 m, .slice A1 rs.length c1] 25))
  clear hb1 ho1
  go_wp2_with fail
  refine (CP A1 c1 _ O1.out).mono ?_
  clear CP
  rintro e w2 ⟨A2, g2, c2, rfl, hg2, ho2, hb2, hc2⟩
  have B3 := Lib.hid (B2.out.trans (hb2.mono B2.out.size))
  have hz2 := B2.out.size
  have O2 := Lib.hid ho2
  clear hb2 ho2
  go_wp2_with fail
  go_ret
  exact ⟨A2, g2, c2, rfl, by omega, O2.out, B3.out, hc2⟩
theorem repPath_impl (nn : Int) (A : Option Addr) (ls : List Lk) (c : Nat) (s x t : Int) (w : World) (hm : ls.length ≤ 2000000) (hA : 0 < ls.length → ∃ g, A = some ⟨g, 0, none⟩) (hS : Sl w w.heap.size A ls) :
   Calls Tryd.prog 33 #[gval nn A ls.length c, .int .i64 s, .int .i64 x, .int .i64 t] w (NewI (rpP nn ls s x t) w) :=
  (repPath_implC nn A ls c s x t w hm hA hS).mono fun _ _ h => h.newI

/-- What repair leaves: labels and no error, or the package's error. -/
def RepE (nn : Int) (ls : List Lk) (s x t : Int) (ae : Addr) (w : World) (e : Ending) (w' : World) : Prop :=
  (rpP nn ls s x t = [] ∧ e = .returned (.tuple #[.slice none 0 0, .iface 122 (.pointer (some ae))]) ∧ Below w.heap.size w w') ∨
  (rpP nn ls s x t ≠ [] ∧ ∃ A g c, e = .returned (.tuple #[.slice A (repA nn ls s x t).length c, .nilIface]) ∧ w.heap.size ≤ g ∧ Ownb w' A g (repA nn ls s x t) ∧ Below w.heap.size w w' ∧ (repA nn ls s x t).length ≤ c)
theorem rpP_RW {nn : Int} {ls : List Lk} {s x t : Int} (h : rpP nn ls s x t ≠ []) : ∃ n k : Nat, nn = (n : Int) ∧ x = (k : Int) ∧ RW n ls k (rpP nn ls s x t) := by
  have h8 := rpP_len nn ls s x t
  obtain ⟨n, k, l, rfl, rfl, hl, hg, hs, ht, hp⟩ := rpP_some h
  refine ⟨n, k, rfl, rfl, ⟨hg, ⟨l, hl⟩, isP_nodes ht hp, hp.way (er_gv hg k) ht, ?_, by omega⟩⟩
  rcases Nat.eq_zero_or_pos (rpP (n : Int) ls s (k : Int) t).length with h0 | h0
  · exact absurd (List.length_eq_zero_iff.1 h0) h
  · exact h0

set_option maxRecDepth 100000 in
set_option maxHeartbeats 1600000 in
theorem repair_any (nn : Int) (A : Option Addr) (ls : List Lk) (c : Nat) (s x t : Int) (ae : Addr) (w : World) (hm : ls.length ≤ 2000000) (hA : 0 < ls.length → ∃ g, A = some ⟨g, 0, none⟩) (hS : Sl w w.heap.size A ls) (hz0 : 0 < w.heap.size) (hE : w.cell? ⟨0, 0, none⟩ = some (.iface 122 (.pointer (some ae)))) :
   Calls Tryd.prog 19 #[gval nn A ls.length c, .int .i64 s, .int .i64 x, .int .i64 t] w (RepE nn ls s x t ae w) := by
  delta RepE
  have B0 : Below w.heap.size w ((w.alloc (.cells #[.int .i64 nn, .slice A ls.length c] 25)).alloc (.cells #[.int .i64 x] 3)) := by (repeat (first | exact Below.refl _ _ | (refine Below.alloc ?_ (by first | exact Nat.le_refl _ | omega | (simp; done) | (simp; omega)) _) | (refine Below.setCell ?_ (by first | exact Nat.le_refl _ | omega | (simp; done) | (simp; omega)) _) | exact Below.drew ‹_›))
  have G0 := Lib.hid ((Box.new w 25 #[.int .i64 nn, .slice A ls.length c]).alloc (.cells #[.int .i64 x] 3))
  have K0 := Box.new (w.alloc (.cells #[.int .i64 nn, .slice A ls.length c] 25)) 3 #[.int .i64 x]
  rw [World.size_alloc] at K0
  have K0 := Lib.hid K0
  have HB := Lib.hid B0
  have C1 := repPath_implC nn A ls c s x t _ hm hA ((hS.below B0).more B0.size)
  have HS := Lib.hid hS
  have HE := Lib.hid hE
  have h8 := rpP_len nn ls s x t
  have hr8 := repA_len nn ls s x t
  clear hS B0 hE hA
  by_cases hp : rpP nn ls s x t = []
  · have HP := Lib.hid hp
    rw [hp] at C1
    clear hp h8 hr8
    go_enter Tryd.func19, Tryd.ntmps19
    go_wp2_with fail
    refine C1.mono ?_
    clear C1
    rintro e w1 ⟨A1, g1, c1, rfl, -, -, hb1, -⟩
    have B1 := Lib.hid (HB.out.trans (hb1.mono HB.out.size))
    have z0 : 0 < w1.heap.size := Nat.lt_of_lt_of_le hz0 B1.out.size
    have e0 : w1.cell? ⟨0, 0, none⟩ = some (.iface 122 (.pointer (some ae))) := (B1.out.cell (p := ⟨0, 0, none⟩) hz0).trans HE.out
    clear hb1
    go_wp2_with fail
    try go_quiet (fail)
    try go_wp2_with fail
    go_returns
    exact .inl ⟨HP.out, rfl, by first | exact B1.out | exact B1.out.drew | exact ⟨B1.out.os, B1.out.tape, B1.out.output, B1.out.size, B1.out.block⟩⟩
  · have HP := Lib.hid hp
    obtain ⟨n, k, rfl, rfl, hrw⟩ := rpP_RW hp
    have HC := Lib.hid (show repA (n : Int) ls s (k : Int) t = repC (n : Int) ls (k : Int) (rpP (n : Int) ls s (k : Int) t) from rfl)
    generalize rpP (n : Int) ls s (k : Int) t = p at *
    have hpos := hrw.pos
    have hl0 : ((p.length : Int) == 0) = false := by simp; omega
    have CC := fun (b o cx : Nat) (W : World) (hcx : p.length ≤ cx) (h1 : Sl W W.heap.size A ls) (h2 : Box W w.heap.size 25 #[.int .i64 (n : Int), .slice A ls.length c]) (h3 : Box W (w.heap.size + 1) 3 #[.int .i64 (k : Int)]) (hX : Sli W W.heap.size (some ⟨b, o, none⟩) p) =>
      compile_gen n A ls c (.func (.func 34) #[] #[.pointer (some ⟨w.heap.size, 0, none⟩), .pointer (some ⟨w.heap.size + 1, 0, none⟩)]) b
        (fun W => Sl W W.heap.size A ls ∧ Box W w.heap.size 25 #[.int .i64 (n : Int), .slice A ls.length c] ∧ Box W (w.heap.size + 1) 3 #[.int .i64 (k : Int)]) (RW n ls k) (repC (n : Int) ls (k : Int))
        (fun W W' h hb => ⟨(h.1.below hb).more hb.size, h.2.1.below hb h.2.1.lt, h.2.2.below hb h.2.2.lt⟩) (fun xs _ h => repC_one _ _ _ h)
        (fun xs hx h2 h9 => ⟨(stR (n : Int) ls (k : Int) xs).1, (stR (n : Int) ls (k : Int) xs).2, (hx.step h2).2, hx.drop (hx.step h2).2.2, (hx.step h2).1, fun o cx W hcx hI hX =>
          first_rep n A ls c b o xs cx w.heap.size (w.heap.size + 1) _ _ (fitR (n : Int) ls (k : Int) xs) (fun W => Sl W W.heap.size A ls ∧ Box W w.heap.size 25 #[.int .i64 (n : Int), .slice A ls.length c] ∧ Box W (w.heap.size + 1) 3 #[.int .i64 (k : Int)]) W hm h2 h9 hcx
            (fun W W' h hb => ⟨(h.1.below hb).more hb.size, h.2.1.below hb h.2.1.lt, h.2.2.below hb h.2.2.lt⟩) (fun W h => h.1) hI hX
            (fun j y h0 _ hy hf hr => by rw [hx.hit h0 hy hf hr]; exact ⟨rfl, rfl⟩) (fun u v hu hv hr => by rw [hx.none hu hv hr]; exact ⟨rfl, rfl⟩)
            (fun j W _ hj hI hX => fit_any (n : Int) A ls c b o xs j cx (k : Int) w.heap.size (w.heap.size + 1) W hm hj h9 hI.1 hI.2.1 hI.2.2 hX)⟩)
        p.length o p cx W (Nat.le_refl _) hrw hpos (by omega) hcx ⟨h1, h2, h3⟩ hX
    rw [← HC.out] at CC
    generalize repA (n : Int) ls s (k : Int) t = st at *
    clear hp hrw
    go_enter Tryd.func19, Tryd.ntmps19
    go_wp2_with fail
    refine C1.mono ?_
    clear C1
    rintro e w1 ⟨A1, g1, c1, rfl, hg1, ho1, hb1, hc1⟩
    obtain ⟨rfl, -⟩ := ho1 hpos
    have B1 := Lib.hid (HB.out.trans (hb1.mono HB.out.size))
    have G1 := Lib.hid (G0.out.below hb1 G0.out.lt)
    have K1 := Lib.hid (K0.out.below hb1 K0.out.lt)
    have C2 := CC g1 0 c1 w1 hc1 ((HS.out.below B1.out).more B1.out.size) G1.out K1.out ho1.sli
    obtain ⟨z1, e10, e11, -, -⟩ := G1.out.two
    have O1 := Lib.hid ho1
    clear hb1 ho1 CC
    go_wp2_with fail
    refine C2.mono ?_
    clear C2
    rintro e w2 ⟨v, rfl, hv, hb2⟩
    have B2 := Lib.hid (B1.out.trans (hb2.mono B1.out.size))
    have CL := labels_impl v st w2 (by omega) hv
    clear hb2 hv e10 e11 z1
    go_wp2_with fail
    refine CL.mono ?_
    clear CL
    rintro e w3 ⟨A3, g3, c3, rfl, hg3, ho3, hb3, hc3⟩
    have B3 := Lib.hid (B2.out.trans (hb3.mono B2.out.size))
    have O3 := Lib.hid ho3
    have hz2 := B2.out.size
    clear hb3 ho3
    go_wp2_with fail
    go_returns
    exact .inr ⟨HP.out, A3, g3, c3, rfl, by omega, O3.out, B3.out, hc3⟩

set_option maxRecDepth 100000 in
set_option maxHeartbeats 1600000 in
theorem repStack_impl (nn : Int) (A : Option Addr) (ls : List Lk) (c : Nat) (s x t : Int) (w : World) (hm : ls.length ≤ 2000000) (hA : 0 < ls.length → ∃ g, A = some ⟨g, 0, none⟩) (hS : Sl w w.heap.size A ls) (hE : Sen w) :
   Calls Tryd.prog 9 #[gval nn A ls.length c, .int .i64 s, .int .i64 x, .int .i64 t] w (RepR nn ls s x t w) := by
  obtain ⟨hz0, ae, he⟩ := hE
  have B0 : Below w.heap.size w (w.alloc (.cells #[.int .i64 nn, .slice A ls.length c] 25)) := by (repeat (first | exact Below.refl _ _ | (refine Below.alloc ?_ (by first | exact Nat.le_refl _ | omega | (simp; done) | (simp; omega)) _) | (refine Below.setCell ?_ (by first | exact Nat.le_refl _ | omega | (simp; done) | (simp; omega)) _) | exact Below.drew ‹_›))
  have HB := Lib.hid B0
  have C1 := repair_any nn A ls c s x t ae _ hm hA ((hS.below B0).more B0.size) (Nat.lt_of_lt_of_le hz0 B0.size) ((B0.cell (p := ⟨0, 0, none⟩) hz0).trans he)
  have HE := Lib.hid he
  clear hS B0 he hA
  go_enter Tryd.func9, Tryd.ntmps9
  go_wp2_with fail
  refine C1.mono ?_
  clear C1
  rintro e w1 (⟨hp, rfl, hb1⟩ | ⟨hp, A1, g1, c1, rfl, hg1, ho1, hb1, hc1⟩)
  · have HN := Lib.hid (rep_none hp)
    have B1 := Lib.hid (HB.out.trans (hb1.mono HB.out.size))
    have z0 : 0 < w1.heap.size := Nat.lt_of_lt_of_le hz0 B1.out.size
    have e0 : w1.cell? ⟨0, 0, none⟩ = some (.iface 122 (.pointer (some ae))) := (B1.out.cell (p := ⟨0, 0, none⟩) hz0).trans HE.out
    clear hb1 hp
    go_wp2_with fail
    refine (is_same ae _).mono ?_
    rintro e w2 ⟨rfl, rfl⟩
    go_wp2_with fail
    go_returns
    unfold RepR
    rw [HN.out.1, HN.out.2]
    exact ⟨_, w2.heap.size, 0, rfl, B1.out.size, fun h => by simp at h, B1.out.alloc B1.out.size _, Nat.le_refl _⟩
  · have HP : Hid (repB nn ls s x t = true) := Lib.hid (by
      unfold repB
      cases hq : rpP nn ls s x t with
      | nil => exact absurd hq hp
      | cons a r => rfl)
    have B1 := Lib.hid (HB.out.trans (hb1.mono HB.out.size))
    have z0 : 0 < w1.heap.size := Nat.lt_of_lt_of_le hz0 B1.out.size
    have e0 : w1.cell? ⟨0, 0, none⟩ = some (.iface 122 (.pointer (some ae))) := (B1.out.cell (p := ⟨0, 0, none⟩) hz0).trans HE.out
    have O1 := Lib.hid ho1
    have hz := HB.out.size
    clear hb1 ho1 hp
    go_wp2_with fail
    refine (is_nil ae _).mono ?_
    rintro e w2 ⟨rfl, rfl⟩
    go_wp2_with fail
    go_returns
    unfold RepR
    rw [HP.out]
    exact ⟨A1, g1, c1, rfl, by omega, O1.out, B1.out, hc1⟩
end Go.Proofs.YtenlofomkchlaaaDoor
