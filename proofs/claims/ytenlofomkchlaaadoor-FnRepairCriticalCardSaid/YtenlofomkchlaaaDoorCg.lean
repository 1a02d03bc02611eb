/-
  Contracts over this seat: the linked list of the labels of a path, whatever makes a part fit for a label, and its labels in a slice.
-/
import Derived.Test.YtenlofomkchlaaaDoorC3
import Derived.Test.YtenlofomkchlaaaDoorC1
namespace Go.Proofs.YtenlofomkchlaaaDoor
open Go.RowKit Go.Maps

/-- The piece of a slice. -/
theorem Sli.piece {w : World} {B b o : Nat} {xs : List Int} (h : Sli w B (some ⟨b, o, none⟩) xs) (i m : Nat) : Sli w B (some ⟨b, o + i, none⟩) ((xs.drop i).take m) := by
  intro k x hx
  have hk : k < m := by
    have := (List.getElem?_eq_some_iff.1 hx).1
    simp at this
    omega
  rw [List.getElem?_take_of_lt hk, List.getElem?_drop] at hx
  obtain ⟨b', o', e, hb, hc⟩ := h (i + k) x hx
  cases e
  exact ⟨b, o + i, rfl, hb, by rw [Nat.add_assoc]; exact hc⟩

/-- A pointer to a linked list of labels. -/
def LLst (w : World) : Option Addr → List Lb → Prop
  | v, [] => v = none
  | v, l :: r => ∃ (b : Nat) (u : Option Addr), v = some ⟨b, 0, none⟩ ∧ Box w b 101 #[.int .i64 l.k, .int .i64 l.a, .pointer u] ∧ LLst w u r
theorem LLst.below {w w' : World} (hb : Below w.heap.size w w') : ∀ {ls : List Lb} {v : Option Addr}, LLst w v ls → LLst w' v ls
  | [], _, h => h
  | _ :: _, _, ⟨b, u, e, hx, hr⟩ => ⟨b, u, e, hx.below hb hx.lt, LLst.below hb hr⟩

set_option maxRecDepth 100000 in
set_option maxHeartbeats 1600000 in
/-- The labels of a path, whatever makes a part fit: from what the first label is. -/
theorem compile_gen (n : Nat) (A : Option Addr) (ls : List Lk) (c : Nat) (fv : Value) (b : Nat) (I : World → Prop) (P : List Int → Prop) (cmp : List Int → List Lb)
    (hI : ∀ W W' : World, I W → Below W.heap.size W W' → I W') (hone : ∀ xs, P xs → xs.length ≤ 1 → cmp xs = [])
    (hstep : ∀ xs, P xs → 2 ≤ xs.length → xs.length ≤ 9 → ∃ (l : Lb) (q : Nat), (0 < q ∧ q < xs.length) ∧ P (xs.drop q) ∧ cmp xs = l :: cmp (xs.drop q) ∧ ∀ (o cx : Nat) (W : World), xs.length ≤ cx → I W → Sli W W.heap.size (some ⟨b, o, none⟩) xs →
      Calls Tryd.prog 52 #[gval (n : Int) A ls.length c, .slice (some ⟨b, o, none⟩) xs.length cx, fv] W fun e w' => e = .returned (.tuple #[l.v, .int .i64 (q : Nat)]) ∧ Below W.heap.size W w') :
   ∀ (d o : Nat) (xs : List Int) (cx : Nat) (w : World), xs.length ≤ d → P xs → 0 < xs.length → xs.length ≤ 9 → xs.length ≤ cx → I w → Sli w w.heap.size (some ⟨b, o, none⟩) xs →
   Calls Tryd.prog 36 #[gval (n : Int) A ls.length c, .slice (some ⟨b, o, none⟩) xs.length cx, fv] w fun e w' => ∃ v, e = .returned (.pointer v) ∧ LLst w' v (cmp xs) ∧ Below w.heap.size w w' := by
  intro d
  induction d with
  | zero =>
    intro o xs cx w hd hp hpos
    omega
  | succ d ih =>
    intro o xs cx w hd hp hpos hl9 hcx hS hX
    have B0 : Below w.heap.size w (w.alloc (.cells #[.int .i64 (n : Int), .slice A ls.length c] 25)) := by (repeat (first | exact Below.refl _ _ | (refine Below.alloc ?_ (by first | exact Nat.le_refl _ | omega | (simp; done) | (simp; omega)) _) | (refine Below.setCell ?_ (by first | exact Nat.le_refl _ | omega | (simp; done) | (simp; omega)) _) | exact Below.drew ‹_›))
    have HB := Lib.hid B0
    have HG := Lib.hid (Box.new w 25 #[.int .i64 (n : Int), .slice A ls.length c])
    by_cases h1 : xs.length = 1
    · have HE := Lib.hid (hone xs hp (show xs.length ≤ 1 by omega))
      clear hS hX hp ih B0 hI hone hstep
      go_enter Tryd.func36, Tryd.ntmps36
      go_wp2_with fail
      go_ret
      exact ⟨_, rfl, by rw [HE.out]; rfl, HB.out⟩
    · have h2 : 2 ≤ xs.length := by omega
      obtain ⟨l, q, ⟨he0, he1⟩, hpd, hcmp, hfirst⟩ := hstep xs hp h2 hl9
      have C1 := hfirst o cx (w.alloc (.cells #[.int .i64 (n : Int), .slice A ls.length c] 25)) hcx (hI _ _ hS B0) ((hX.below B0).more B0.size)
      have HE := Lib.hid hcmp
      have hex : q < xs.length := by omega
      have hec : q < cx := by omega
      have hdl : (xs.drop q).length = xs.length - q := List.length_drop
      have CR : ∀ W, I W → Sli W W.heap.size (some ⟨b, o, none⟩) xs → Calls Tryd.prog 36 #[gval (n : Int) A ls.length c, .slice (some ⟨b, o + q, none⟩) (xs.length - q) (cx - q), fv] W fun e' w' => ∃ v, e' = .returned (.pointer v) ∧ LLst w' v (cmp (xs.drop q)) ∧ Below W.heap.size W w' := fun W g1 g2 => by
        have := ih (o + q) (xs.drop q) (cx - q) W (by omega) hpd (by omega) (by omega) (by omega) g1 (by
          have := g2.piece q (xs.length - q)
          rwa [← hdl, List.take_length] at this)
        rwa [hdl] at this
      generalize cmp (xs.drop q) = r at *
      obtain ⟨lk, la⟩ := l
      have HI := Lib.hid hI
      have HS := Lib.hid hS
      have HX := Lib.hid hX
      have h1' : ((xs.length : Int) == 1) = false := by simp; omega
      clear hS hX hp ih B0 hdl hd h1 hI hone hstep hpd hcmp hfirst
      go_enter Tryd.func36, Tryd.ntmps36
      go_wp2_with fail
      refine C1.mono ?_
      clear C1
      rintro e' w1 ⟨rfl, hb1⟩
      have B1 := Lib.hid (HB.out.trans (hb1.mono HB.out.size))
      have G1 := Lib.hid ((HG.out.below hb1 (by simp)).alloc (.cells #[.int .i64 lk, .int .i64 la] 97))
      have L1 := Lib.hid (Box.new w1 97 #[.int .i64 lk, .int .i64 la])
      clear hb1
      go_wp2_with fail
      have B2 := Lib.hid (B1.out.alloc B1.out.size (.cells #[.int .i64 lk, .int .i64 la] 97))
      generalize w1.alloc (.cells #[.int .i64 lk, .int .i64 la] 97) = W1 at *
      generalize w1.heap.size = lb at *
      have hz := B2.out.size
      have CR1 := CR W1.drew (HI.out _ _ HS.out B2.out.drew) ((Sli.below (w' := W1.drew) HX.out B2.out.drew).more hz)
      obtain ⟨z1, e10, e11, -, -⟩ := G1.out.two
      obtain ⟨z2, d10, d11, -, -⟩ := L1.out.two
      clear CR G1 L1 B1
      have hX := fun (x : ExtB W1.heap.size W1.drew) (bb o : Nat) (h : bb < W1.heap.size) => (show x.w.cell? ⟨bb, o, none⟩ = W1.cell? ⟨bb, o, none⟩ from x.cell bb o h)
      refine wp_region_stg 10 W1.heap.size (by kernel_rfl) (by kernel_rfl) ?_
      refine stg_seg _ 4 [0, 1, 2, 3, 4, 5] (by kernel_rfl) (by kernel_rfl) (by kernel_rfl) (by kernel_rfl) ?_
      (simp only [List.map_cons, List.map_nil, List.getElem?_cons_zero, List.getElem?_cons_succ, Option.getD_some]); (repeat (go_big_quiet_step (fail))); (refine wpQuiet_nil ?_)
      refine stg_one _ 3 6 (by kernel_rfl) (by rfl) (by kernel_rfl) (by rfl) ?_
      go_wp2_with fail
      refine CR1.mono ?_
      clear CR1
      rintro e' w2 ⟨v, rfl, hv, hb2⟩
      have B3 := Lib.hid (B2.out.drew.trans (hb2.mono hz))
      have HV := Lib.hid hv
      refine ⟨hb2, w2.heap.size, hb2.size, ?_⟩
      clear hb2 hv hX e10 e11 d10 d11 z1 z2
      refine stg_one _ 2 7 (by kernel_rfl) (by rfl) (by kernel_rfl) (by rfl) ?_
      go_wp2_with fail
      refine ⟨Below.refl _ _, _, Nat.le_refl _, ?_⟩
      refine stg_one _ 1 8 (by kernel_rfl) (by rfl) (by kernel_rfl) (by rfl) ?_
      go_wp2_with fail
      refine ⟨(Below.refl _ _).alloc (Nat.le_refl _) _, _, Nat.le_refl _, ?_⟩
      refine stg_seg _ 0 [9] (by kernel_rfl) (by kernel_rfl) (by kernel_rfl) (by kernel_rfl) ?_
      (simp only [List.map_cons, List.map_nil, List.getElem?_cons_zero, List.getElem?_cons_succ, Option.getD_some]); (repeat (go_big_quiet_step (fail))); (refine wpQuiet_nil ?_)
      refine stg_end (by kernel_rfl) ?_
      go_wp2_with fail
      go_ret
      refine ⟨_, rfl, ?_, B3.out.alloc B3.out.size _⟩
      rw [HE.out]
      exact ⟨w2.heap.size, v, rfl, Box.new w2 101 #[.int .i64 lk, .int .i64 la, .pointer v], HV.out.below ((Below.refl _ _).alloc (Nat.le_refl _) _)⟩

/-! ### The list's labels -/
structure QL (w : World) (v : Value) (out : List Lb) (W : World) : Prop where
  row : W.ownsRow w.heap.size 97 2 v out.length (flatB out)
  bel : Below w.heap.size w W
theorem QL.append {w W W' : World} {v v' : Value} {out : List Lb} (h : QL w v out W) {l : Lb} {o : Obj} (hown : W'.ownsRow w.heap.size 97 2 v' (out.length + 1) (flatB out ++ [.int .i64 l.k, .int .i64 l.a])) (hg : (W.alloc o).grownBy W' v.ownBlock) : QL w v' (out ++ [l]) W' := by
  have hl := h.row.lt
  have hz := h.bel.size
  refine ⟨by rw [List.length_append, flatB_append]; exact hown, ?_⟩
  exact (h.bel.alloc hz _).grown hg (by simp; omega) (fun j e => by have := (hl j e).1; omega)
/-- Labels in a slice of the call's own. -/
def NewB (st : List Lb) (w : World) (e : Ending) (w' : World) : Prop :=
  ∃ A g c, e = .returned (.slice A st.length c) ∧ w.heap.size ≤ g ∧ Ownb w' A g st ∧ Below w.heap.size w w' ∧ st.length ≤ c
def slen : Value → Nat
  | .slice _ n _ => n
  | _ => 0

set_option maxRecDepth 100000 in
set_option maxHeartbeats 800000 in
theorem labels_impl (v : Option Addr) (st : List Lb) (w : World) (h9 : st.length ≤ 9) (hv : LLst w v st) :
   Calls Tryd.prog 37 #[.pointer v] w (NewB st w) := by
  obtain ⟨i0, hi, hz0, hz10, hz20⟩ := info_parts infoLabel
  have Q0 : Hid (QL w (.slice (some ⟨w.heap.size, 0, none⟩) 0 0) [] (w.alloc (.cells #[] 97))) :=
    Lib.hid ⟨⟨by simp [flatB], .inr ⟨w.heap.size, 0, #[], rfl, Nat.le_refl _, Box.new w 97 #[], Nat.le_refl _, by omega, rfl, by simp [flatB]⟩⟩, by (repeat (first | exact Below.refl _ _ | (refine Below.alloc ?_ (by first | exact Nat.le_refl _ | omega | (simp; done) | (simp; omega)) _) | (refine Below.setCell ?_ (by first | exact Nat.le_refl _ | omega | (simp; done) | (simp; omega)) _) | exact Below.drew ‹_›))⟩
  have HV := Lib.hid hv
  clear hv
  go_enter Tryd.func37, Tryd.ntmps37
  go_wp2_with fail
  go_loopw [0, 3] (fun p v wr => ∃ (q : Option Addr) (out r : List Lb), p = .pointer q ∧ Hid (out ++ r = st) ∧ Hid (LLst w q r) ∧ QL w v out wr) (fun _ v _ => st.length - slen v)
  case atStart => exact ⟨v, [], st, rfl, Lib.hid rfl, HV, Q0.out⟩
  case round =>
    obtain ⟨q, out, r, rfl, HO, HR, hq⟩ := hrel
    have Q := Lib.hid hq
    obtain ⟨A9, g9, c9, rfl, hg9, -, ho9, hc9⟩ := own_sliceb hq.row hq.bel.size
    have O9 := Lib.hid ho9
    clear ho9 Q0
    cases r with
    | nil =>
      have e := HR.out
      unfold LLst at e
      subst e
      have HS : Hid (out = st) := Lib.hid (by have := HO.out; simpa using this)
      clear hq
      go_wp2_with fail
      go_ret
      rw [← HS.out]
      exact ⟨A9, g9, c9, rfl, hg9, O9.out, Q.out.bel, hc9⟩
    | cons l r =>
      obtain ⟨b, u, rfl, hx, hr⟩ := HR.out
      have zb := hx.lt
      have hz := hq.bel.size
      have X1 := hx.below hq.bel hx.lt
      have e0 := X1.cell 0
      have e1 := X1.cell 1
      have e2 := X1.cell 2
      have zb1 : b < wr.heap.size := by omega
      have HRR := Lib.hid hr
      have HLN : Hid (out.length + 1 ≤ st.length) := Lib.hid (by have := HO.out; rw [← this]; simp)
      have hout : out.length ≤ 8 := by have := HLN.out; omega
      have HON : Hid ((out ++ [l]) ++ r = st) := Lib.hid (by rw [← HO.out]; simp)
      have HX0 := Lib.hid hx
      clear hq hx hr X1 HR
      obtain ⟨lk, la⟩ := l
      simp at e0 e1 e2
      go_wp2_with (at_builtin; refine wpList_append_own_at _ rfl _ _ 31 rfl w.heap.size 97 i0 _ 2 16 Tryd.underlying31 hi hz0 hz10 hz20 rfl (by decide) _ out.length _ rfl (Q.out.row.alloc _) ⟨wr.heap.size, 0, none⟩ 1 1 [.int .i64 lk, .int .i64 la] rfl rfl (new2 _ _ _ _) (one2 _ _) (by unfold maxLen; omega) (by omega) (by simp; omega) ?_; intro v' w3 hown' hgrow hnil hat; have Q3 := Lib.hid (Q.out.append (l := ⟨lk, la⟩) hown' hgrow); have e32 : w3.cell? ⟨b, 2, none⟩ = some (.pointer u) := (HX0.out.below Q3.out.bel HX0.out.lt).cell 2; have zb3 : b < w3.heap.size := Nat.lt_of_lt_of_le HX0.out.lt Q3.out.bel.size; clear hown' hgrow hnil hat)
      go_roundw
      case rel => exact ⟨u, out ++ [⟨lk, la⟩], r, rfl, HON, HRR, Q3.out⟩
      case measure =>
        obtain ⟨A8, g8, c8, rfl, -, -, -, -⟩ := own_sliceb Q3.out.row Q3.out.bel.size
        have := HLN.out
        simp [slen]
        omega

end Go.Proofs.YtenlofomkchlaaaDoor
