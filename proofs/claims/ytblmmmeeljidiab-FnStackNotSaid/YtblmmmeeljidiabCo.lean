/-
  Contracts over this seat: the program's StackCost.
-/
import Derived.Test.YtblmmmeeljidiabSi
namespace Go.Proofs.Ytblmmmeeljidiab
open Go.RowKit Go.Maps

section
variable {n : Nat} {ls : List Lk}
theorem way_link (hv : gvB (n : Int) ls = true) {a b : Int} (h : ∃ e, Adj ls a b e) : ∃ (j : Nat) (l : Lk), linkI (n : Int) ls a b = (j : Int) ∧ ls[j]? = some l ∧ lcost (n : Int) ls a b = l.c ∧ 1 ≤ l.c ∧ l.c ≤ 20 := by
  obtain ⟨j, l, e1, e2, ha, _, _⟩ := nbI_link hv ((nbI_adj hv).2 h)
  have hb := gvB_at hv e2
  exact ⟨j, l, e1, e2, lcost_eq hv ha, by omega, by omega⟩
theorem Way.tail {x : Int} {xs : List Int} (h : Way ls (x :: xs)) : Way ls xs := fun k a b ha hb => h (k + 1) a b (by simpa using ha) (by simpa using hb)
theorem along_bound (hv : gvB (n : Int) ls = true) {xs : List Int} (h : Way ls xs) : 0 ≤ along (n : Int) ls xs ∧ along (n : Int) ls xs ≤ 20 * xs.length := by
  induction xs with
  | nil => simp [along]
  | cons a r ih =>
    cases r with
    | nil => simp [along]
    | cons b r =>
      have h1 := ih h.tail
      obtain ⟨j, l, _, _, hc, _, _⟩ := way_link hv (h 0 a b rfl rfl)
      simp only [along, List.length_cons] at h1 ⊢
      rw [hc]
      omega
theorem Way.take {xs : List Int} (h : Way ls xs) (d : Nat) : Way ls (xs.take d) := fun k a b ha hb => by
  have hk := (List.getElem?_eq_some_iff.1 hb).1
  have hkd : k + 1 < d := by simp at hk; omega
  rw [List.getElem?_take_of_lt (by omega)] at ha
  rw [List.getElem?_take_of_lt hkd] at hb
  exact h k a b ha hb
end

set_option maxRecDepth 100000 in
set_option maxHeartbeats 1600000 in
theorem costAlong_any (n : Nat) (A : Option Addr) (ls : List Lk) (c : Nat) (X : Option Addr) (xs : List Int) (cx : Nat) (w : World) (hm : ls.length ≤ 2000000) (hv : gvB (n : Int) ls = true) (hw : Way ls xs) (hx0 : 0 < xs.length) (hx : xs.length ≤ 57) (hS : Sl w w.heap.size A ls) (hX : Sli w w.heap.size X xs) :
   Calls Try.prog 37 #[gval (n : Int) A ls.length c, .slice X xs.length cx] w fun e w' => e = .returned (.int .i64 (along (n : Int) ls xs)) ∧ Below w.heap.size w w' := by
  have HS := Lib.hid hS
  have HX := Lib.hid hX
  have HB := Lib.hid (show Below w.heap.size w (w.alloc (.cells #[.int .i64 (n : Int), .slice A ls.length c] 25)) by (repeat (first | exact Below.refl _ _ | (refine Below.alloc ?_ (by first | exact Nat.le_refl _ | omega | (simp; done) | (simp; omega)) _) | (refine Below.setCell ?_ (by first | exact Nat.le_refl _ | omega | (simp; done) | (simp; omega)) _) | exact Below.drew ‹_›)))
  have HG := Lib.hid (Box.new w 25 #[.int .i64 (n : Int), .slice A ls.length c])
  have HLK : Hid (∀ (k : Nat) (a b : Int), xs[k]? = some a → xs[k + 1]? = some b → ∃ (j : Nat) (l : Lk), linkI (n : Int) ls a b = (j : Int) ∧ ls[j]? = some l ∧ lcost (n : Int) ls a b = l.c ∧ 1 ≤ l.c ∧ l.c ≤ 20) := Lib.hid (fun k a b ha hb => way_link hv (hw k a b ha hb))
  have HBD : Hid (∀ k, 0 ≤ along (n : Int) ls (xs.take k) ∧ along (n : Int) ls (xs.take k) ≤ 1140) := Lib.hid (fun k => by
    have := along_bound hv (hw.take k)
    have : (xs.take k).length ≤ 57 := by simp; omega
    omega)
  have HA1 : Hid (along (n : Int) ls (xs.take 1) = 0) := Lib.hid (along_one _ _ _)
  have HAE : Hid (along (n : Int) ls (xs.take xs.length) = along (n : Int) ls xs) := Lib.hid (by rw [List.take_length])
  clear hS hX hw hv
  go_enter Try.func37, Try.ntmps37
  go_wp2_with fail
  go_loopw [5, 6] (fun q i wr => ∃ k : Nat, 1 ≤ k ∧ k ≤ xs.length ∧ i = .int .i64 (k : Int) ∧ q = .int .i64 (along (n : Int) ls (xs.take k)) ∧ Below w.heap.size w wr ∧ Box wr w.heap.size 25 #[.int .i64 (n : Int), .slice A ls.length c]) (fun _ i _ => xs.length - (intOf i).toNat)
  case atStart => exact ⟨1, Nat.le_refl _, hx0, rfl, by rw [HA1.out], HB.out, HG.out⟩
  case round =>
    obtain ⟨k, hk1, hk, rfl, rfl, hb, hg⟩ := hrel
    have B1 := Lib.hid hb
    have G1 := Lib.hid hg
    obtain ⟨z1, e10, e11, -, -⟩ := hg.two
    clear hg
    obtain ⟨p, hp1⟩ : ∃ p : Nat, k = p + 1 := ⟨k - 1, by omega⟩
    have hsub : (k : Int) - 1 = (p : Int) := by omega
    have hwp : IntKind.i64.wrap (p : Int) = (p : Int) := IntWalk.i64_in _ (by omega)
    have hpl : p < xs.length := by omega
    have HP1 := Lib.hid hp1
    clear hp1
    by_cases hlt : k < xs.length
    · obtain ⟨a, ha⟩ : ∃ a, xs[p]? = some a := ⟨_, List.getElem?_eq_getElem hpl⟩
      obtain ⟨b, hb'⟩ : ∃ b, xs[k]? = some b := ⟨_, List.getElem?_eq_getElem hlt⟩
      have hb2 : xs[p + 1]? = some b := by rw [← HP1.out]; exact hb'
      obtain ⟨j, l, e1, e2, e3, e4, e5⟩ := HLK.out p a b ha hb2
      have HAN : Hid (along (n : Int) ls (xs.take (k + 1)) = along (n : Int) ls (xs.take k) + l.c) := Lib.hid (by rw [HP1.out, along_next _ _ ha hb2, e3])
      have hbd := HBD.out k
      have hjl := (List.getElem?_eq_some_iff.1 e2).1
      obtain ⟨bb, off, rfl, hbb, hc1, hc2, hc3⟩ := (HS.out.below hb) j l e2
      obtain ⟨xb, xo, rfl, hxb, hxa⟩ := (HX.out.below hb) p a ha
      obtain ⟨xb', xo', e', _, hxk⟩ := (HX.out.below hb) k b hb'
      cases e'
      have hz := hb.size
      have z2 : bb < wr.heap.size := by omega
      have z3 : xb < wr.heap.size := by omega
      have CL : ∀ Y : Ext wr, Calls Try.prog 19 #[gval (n : Int) (some ⟨bb, off, none⟩) ls.length c, .int .i64 a, .int .i64 b] Y.w fun e w' => e = .returned (.int .i64 (j : Int)) ∧ Below Y.w.heap.size Y.w w' := fun Y => by
        have := link_impl (n : Int) (some ⟨bb, off, none⟩) ls c a b Y.w hm (((HS.out.below B1.out).below (Y.below.mono hz)).more (Nat.le_trans hz Y.below.size))
        rwa [e1] at this
      generalize along (n : Int) ls (xs.take k) = q at *
      clear ha hb' hb2 e1 e2 e3 hb
      have hY := fun (x : Ext wr) (b o : Nat) (h : b < wr.heap.size) => x.cell b o h
      go_wp2_with fail
      refine wp_region_ext (by kernel_rfl) (by kernel_rfl) ?_
      repeat (go_big_quiet_step (first | (go_at_call 19; exact Calls.ext_of (CL _))))
      (refine wpQuiet_nil ?_); (rintro _ ⟨X, rfl⟩); (have hw1 := X.below); (generalize X.w = w1 at *); (clear X)
      clear hY
      have B2 := Lib.hid (B1.out.trans (hw1.mono hz))
      have G2 := Lib.hid (G1.out.below hw1 z1)
      clear hw1
      go_wp2_with fail
      go_roundw
      case rel => exact ⟨k + 1, by omega, hlt, by go_num, by rw [HAN.out], B2.out, G2.out⟩
      case measure => simp [intOf]; omega
    · obtain rfl : k = xs.length := by omega
      clear hb
      go_wp2_with fail
      go_ret
      exact ⟨ret_int HAE.out, B1.out⟩

theorem costS_none {nn : Int} {ls : List Lk} {s : Int} {st : List Lb} (h : (endI nn ls s st).isSome = false) : costS nn ls s st = -1 := by
  unfold costS
  rw [h]; rfl
theorem costS_some {nn : Int} {ls : List Lk} {s : Int} {st : List Lb} (h : (endI nn ls s st).isSome = true) : costS nn ls s st = along nn ls (pathS nn ls s st) := by
  unfold costS pathS
  rw [if_pos h, if_pos h]

set_option maxRecDepth 100000 in
theorem stackCost_impl (nn : Int) (A : Option Addr) (ls : List Lk) (c : Nat) (s : Int) (B : Option Addr) (st : List Lb) (cb : Nat) (w : World) (hm : ls.length ≤ 2000000) (hmb : st.length ≤ 2000000) (hS : Sl w w.heap.size A ls) (hT : Slb w w.heap.size B st) :
   Calls Try.prog 16 #[gval nn A ls.length c, .int .i64 s, .slice B st.length cb] w fun e w' => e = .returned (.int .i64 (costS nn ls s st)) ∧ Below w.heap.size w w' := by
  have B0 : Below w.heap.size w (w.alloc (.cells #[.int .i64 nn, .slice A ls.length c] 25)) := by (repeat (first | exact Below.refl _ _ | (refine Below.alloc ?_ (by first | exact Nat.le_refl _ | omega | (simp; done) | (simp; omega)) _) | (refine Below.setCell ?_ (by first | exact Nat.le_refl _ | omega | (simp; done) | (simp; omega)) _) | exact Below.drew ‹_›))
  have C1 := stackPath_impl nn A ls c s B st cb _ hm hmb ((hS.below B0).more B0.size) (hT.grow B0)
  have HB := Lib.hid B0
  have HG := Lib.hid (Box.new w 25 #[.int .i64 nn, .slice A ls.length c])
  have HS := Lib.hid hS
  clear hS hT B0
  have hpl := pathS_len nn ls s st
  cases he : (endI nn ls s st).isSome with
  | false =>
    rw [pathS_none he] at C1
    rw [costS_none he]
    clear he hpl
    go_enter Try.func16, Try.ntmps16
    go_wp2_with fail
    refine C1.mono ?_
    clear C1
    rintro e w1 ⟨A1, g1, c1, rfl, hg1, ho1, hb1, hcp⟩
    have B1 := Lib.hid (HB.out.trans (hb1.mono HB.out.size))
    clear hb1 ho1
    go_wp2_with fail
    go_ret
    exact ⟨rfl, B1.out⟩
  | true =>
    rw [costS_some he]
    obtain ⟨n, z, rfl, hg, hs, h8, -, hz⟩ := endI_inv he
    obtain ⟨-, hp0⟩ := pathS_end hz
    have hway : Way ls (pathS (n : Int) ls s st) := pathS_way
    have CC := fun (X : Option Addr) (cx : Nat) (W : World) (h1 : Sl W W.heap.size A ls) (h2 : Sli W W.heap.size X (pathS (n : Int) ls s st)) => costAlong_any n A ls c X (pathS (n : Int) ls s st) cx W hm hg hway hp0 hpl h1 h2
    clear he hg hz hway
    generalize along (n : Int) ls (pathS (n : Int) ls s st) = q at *
    generalize pathS (n : Int) ls s st = p at *
    have hpe : ((p.length : Int) == 0) = false := by rw [beq_eq_false_iff_ne]; omega
    go_enter Try.func16, Try.ntmps16
    go_wp2_with fail
    refine C1.mono ?_
    clear C1
    rintro e w1 ⟨A1, g1, c1, rfl, hg1, ho1, hb1, hcp⟩
    have B1 := Lib.hid (HB.out.trans (hb1.mono HB.out.size))
    obtain ⟨z1, e10, e11, -, -⟩ := (HG.out.below hb1 HG.out.lt).two
    have C2 := CC A1 c1 w1 ((HS.out.below B1.out).more B1.out.size) ho1.sli
    clear hb1 ho1 CC
    go_wp2_with (go_at_call 37; refine C2.mono ?_; clear C2; rintro e w2 ⟨rfl, hb2⟩; have B2 := Lib.hid (B1.out.trans (hb2.mono B1.out.size)); clear hb2)
    go_ret
    exact ⟨rfl, B2.out⟩

end Go.Proofs.Ytblmmmeeljidiab
