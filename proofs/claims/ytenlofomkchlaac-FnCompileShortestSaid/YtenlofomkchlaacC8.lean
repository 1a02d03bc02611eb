/-
  A contract over this seat: the specification's path, with the row that it lies in.
-/
import Derived.Test.YtenlofomkchlaacC2
import Derived.Test.YtenlofomkchlaacA5
import Derived.Test.YtenlofomkchlaacC3
import Derived.Test.YtenlofomkchlaacC1
namespace Go.Proofs.Ytenlofomkchlaac
open Go.RowKit Go.Maps

/-- A slice of numbers in a row of the call's own. -/
def NewR (xs : List Int) (w : World) (e : Ending) (w' : World) : Prop :=
  ∃ v, e = .returned v ∧ w'.ownsRow (w.heap.size + 1) 3 1 v xs.length (xs.map (Value.int .i64)) ∧ Below w.heap.size w w'
theorem PL.doneR {w : World} {gv : Array Value} {v : Value} {out : List Int} {W : World} (h : PL w gv v out W) : NewR out w (.returned v) W := ⟨v, rfl, h.row, h.bel⟩

set_option maxRecDepth 100000 in
set_option maxHeartbeats 1600000 in
theorem l2path_anyR (n : Nat) (A : Option Addr) (ls : List Lk) (c : Nat) (s t : Int) (w : World) (hg : gvB (n : Int) ls = true) (hs : 0 ≤ s ∧ s < (n : Int)) (ht : 0 ≤ t ∧ t < (n : Int)) (hS : Sl w w.heap.size A ls) :
   Calls Try.prog 65 #[gval (n : Int) A ls.length c, .int .i64 s, .int .i64 t] w (NewR (pathI (n : Int) ls s t) w) := by
  obtain ⟨i0, hi, hz0, hz1, hz2⟩ := info_parts infoInt
  have B0 : Below w.heap.size w ((w.alloc (.cells #[.int .i64 (n : Int), .slice A ls.length c] 32)).alloc (.cells #[.int .i64 s] 3)) := by (repeat (first | exact Below.refl _ _ | (refine Below.alloc ?_ (by first | exact Nat.le_refl _ | omega | (simp; done) | (simp; omega)) _) | (refine Below.setCell ?_ (by first | exact Nat.le_refl _ | omega | (simp; done) | (simp; omega)) _) | exact Below.drew ‹_›))
  have G0 := (Box.new w 32 #[.int .i64 (n : Int), .slice A ls.length c]).alloc (.cells #[.int .i64 s] 3)
  have E0 := Box.new (w.alloc (.cells #[.int .i64 (n : Int), .slice A ls.length c] 32)) 3 #[.int .i64 s]
  rw [World.size_alloc] at E0
  have P0 : PL w #[.int .i64 (n : Int), .slice A ls.length c] (.slice (some ⟨w.heap.size + 1, 0, none⟩) 1 1) [s] ((w.alloc (.cells #[.int .i64 (n : Int), .slice A ls.length c] 32)).alloc (.cells #[.int .i64 s] 3)) :=
    ⟨⟨by simp, .inr ⟨w.heap.size + 1, 1, #[.int .i64 s], rfl, Nat.le_refl _, E0, Nat.le_refl _, by unfold maxLen; omega, rfl, by simp⟩⟩, B0, G0⟩
  have HS := Lib.hid hS
  have HP0 := Lib.hid P0
  have hvw := vwB_of hg hs ht
  clear hS B0 G0 E0 P0
  by_cases h0 : 0 ≤ bf (n : Int) ls t s
  · have hp : IsP n ls t s (pathI (n : Int) ls s t) := by
      unfold pathI
      rw [Int.toNat_natCast]
      exact path_isP hvw h0
    have HG := Lib.hid hg
    have HIP := Lib.hid hp
    have hpl := pathI_len (n : Int) ls s t
    have hh := hp.head.1
    generalize pathI (n : Int) ls s t = p at *
    have HH := Lib.hid hh
    have HP1 : Hid (PL w #[.int .i64 (n : Int), .slice A ls.length c] (.slice (some ⟨w.heap.size + 1, 0, none⟩) 1 1) (p.take (0 + 1)) ((w.alloc (.cells #[.int .i64 (n : Int), .slice A ls.length c] 32)).alloc (.cells #[.int .i64 s] 3))) := Lib.hid (by rw [take_snoc hh]; exact HP0.out)
    clear hg hp hh hvw HP0
    go_enter Try.func65, Try.ntmps65
    go_wp2_with fail
    go_loopw [7, 1] (fun v x wr => ∃ (k : Nat) (a : Int), p[k]? = some a ∧ x = .int .i64 a ∧ PL w #[.int .i64 (n : Int), .slice A ls.length c] v (p.take (k + 1)) wr) (fun _ x _ => (bf (n : Int) ls t (intOf x)).toNat)
    case atStart => exact ⟨0, s, HH.out, rfl, HP1.out⟩
    case round =>
      obtain ⟨k, a, ha, rfl, hP⟩ := hrel
      have P2 := Lib.hid hP
      have e20 := hP.box.cell 0
      have e21 := hP.box.cell 1
      have z2 := hP.box.lt
      have hkl := (List.getElem?_eq_some_iff.1 ha).1
      have hta : (p.take (k + 1)).length ≤ 8 := by simp; omega
      have HA := Lib.hid ha
      clear hP ha HP1
      by_cases hat : a = t
      · have hat' : (a != t) = false := by simp [hat]
        have HAT := Lib.hid hat
        clear hat
        go_wp2_with fail
        have hfin := P2.out.doneR
        have hpe := path_last HIP.out (by rw [← HAT.out]; exact HA.out)
        rw [take_snoc HA.out, HAT.out, ← hpe] at hfin
        go_ret
        exact hfin
      · have hat' : (a != t) = true := by simp [hat]
        obtain ⟨b, zs, hb, hh⟩ := path_next HIP.out HA.out hat
        have har := (HIP.out.two HA.out hb).2.2.1
        obtain ⟨h1, _, h3, h4⟩ := hops_node (vwB_of HG.out har ht) (show b ∈ hopsL (n : Int) ls a t by rw [hh]; simp)
        have C3 : ∀ V : World, Sl V V.heap.size A ls → Calls Try.prog 92 #[gval (n : Int) A ls.length c, .int .i64 a, .int .i64 t] V (NewI (b :: zs) V) := fun V hV => by
          have := l2hops_any n A ls c a t V HG.out har ht hV
          rwa [hh] at this
        have HT := Lib.hid (take_snoc hb)
        have HB := Lib.hid hb
        have HM := Lib.hid (show (bf (n : Int) ls t b).toNat < (bf (n : Int) ls t a).toNat by omega)
        have hzl : ((((b :: zs).length : Nat) : Int) == 0) = false := by simp; omega
        clear hat hh hb h1 h3 h4 har
        generalize hbz : b :: zs = bz at *
        have hb0 : bz[0]? = some b := by rw [← hbz]; rfl
        have HB0 := Lib.hid hb0
        clear hbz hb0
        go_wp2_with fail
        refine (C3 wr ((HS.out.below P2.out.bel).more P2.out.bel.size)).mono ?_
        clear C3
        rintro e w4 ⟨A5, g5, c5, rfl, hg5, ho5, hb5⟩
        have P4 := Lib.hid (P2.out.call hb5)
        have hbl := (List.getElem?_eq_some_iff.1 HB0.out).1
        obtain ⟨rfl, zg5, hc5⟩ := ho5.at HB0.out
        have z4 := P4.out.box.lt
        clear hb5 ho5 hg5 e20 e21 z2
        go_wp2_with (at_builtin; refine wpList_append_own_at _ rfl _ _ 25 rfl (w.heap.size + 1) 3 i0 _ 1 8 Try.underlying25 hi hz0 hz1 hz2 rfl (by decide) _ (p.take (k + 1)).length _ rfl (P4.out.row.alloc _) ⟨w4.heap.size, 0, none⟩ 1 1 [.int .i64 b] rfl rfl (fun j u h => by obtain rfl : j = 0 := (by have := (List.getElem?_eq_some_iff.1 h).1; simpa using this); cases h; exact (Box.new w4 3 #[.int .i64 b]).cell 0) (fun u hu => by simp at hu; subst hu; rfl) (by unfold maxLen; omega) (by omega) (by simp; omega) ?_; intro v' w5 hown' hgrow _ hat; have HN := Lib.hid (P4.out.append hown' hgrow); clear hown' hgrow hat)
        go_roundw
        case rel => exact ⟨k + 1, b, HB.out, rfl, by rw [HT.out]; exact HN.out⟩
        case measure => have := HM.out; simpa [intOf] using this
  · have e : pathI (n : Int) ls s t = [] := pathI_nil (fun h => h0 h.2)
    have hne : s ≠ t := fun h => by rw [h, bf_self (gvB_fit hg).1 ht] at h0; omega
    have hnil : hopsL (n : Int) ls s t = [] := (hops_nil hvw).2 (.inr (by omega))
    have C3 : ∀ V : World, Sl V V.heap.size A ls → Calls Try.prog 92 #[gval (n : Int) A ls.length c, .int .i64 s, .int .i64 t] V (NewI [] V) := fun V hV => by
      have := l2hops_any n A ls c s t V hg hs ht hV
      rwa [hnil] at this
    have hne' : (s != t) = true := by simp [hne]
    rw [e]
    clear e hne hnil h0 hvw hg
    go_enter Try.func65, Try.ntmps65
    go_wp2_with fail
    refine wp_loop_rounds 1 ?_
    rw [rounds_succ]
    have e0 := HP0.out.box.cell 0
    go_wp2_with fail
    refine (C3 _ ((HS.out.below HP0.out.bel).more HP0.out.bel.size)).mono ?_
    clear C3
    rintro e w4 ⟨A5, g5, c5, rfl, hg5, ho5, hb5⟩
    have P4 := Lib.hid (HP0.out.call hb5)
    clear hb5 ho5 hg5
    go_wp2_with fail
    go_ret
    exact ⟨_, rfl, ⟨by simp, .inr ⟨w4.heap.size, 0, #[], rfl, P4.out.box.lt, Box.new w4 3 #[], Nat.le_refl _, by omega, rfl, by simp⟩⟩, P4.out.bel.alloc P4.out.bel.size _⟩

end Go.Proofs.Ytenlofomkchlaac

/-
  A contract over this seat: the drawn path: nodes in memory of their own.
-/
namespace Go.Proofs.Ytenlofomkchlaac
open Go.RowKit Go.Maps

/-- The state while a path is drawn: the reader, the graph's box and links, the row of nodes. -/
structure PI (w : World) (R : Nat) (A : Option Addr) (len c : Nat) (f : Nat → Int) (P : Nat) (n : Int) (ls : List Lk) (A' : Option Addr) (g' c' : Nat) (v : Value) (st : List Int) (wx : World) : Prop where
  rd : RD R A len c f P wx
  box : Box wx w.heap.size 32 #[.int .i64 n, .slice A' ls.length c']
  own : Own1 wx A' g' ls
  row : wx.ownsRow (w.heap.size + 1) 3 1 v st.length (st.map (Value.int .i64))
  gr : w.grownBy wx (some R)
  nn : v ≠ .slice none 0 0
section
variable {w w1 w2 : World} {R : Nat} {A : Option Addr} {len c : Nat} {f : Nat → Int} {P P' : Nat} {n : Int} {ls : List Lk} {A' : Option Addr} {g' c' : Nat} {v : Value} {st : List Int}
theorem PI.picked (h : PI w R A len c f P n ls A' g' c' v st w1) (hr : RD R A len c f P' w2) (hg : w1.grownBy w2 (some R)) (hRw : R < w.heap.size) (hgR : g' ≠ R) : PI w R A len c f P' n ls A' g' c' v st w2 := by
  obtain ⟨cs, hx⟩ := h.rd.box
  exact ⟨hr, h.box.grown hg (by omega), h.own.grownFar hg hgR, owns_picked h.row hx (by decide) hg, grown_trans h.gr hg, h.nn⟩
theorem PI.call (h : PI w R A len c f P n ls A' g' c' v st w1) (hb : Below w1.heap.size w1 w2) : PI w R A len c f P n ls A' g' c' v st w2 :=
  ⟨h.rd.below (hb.mono h.rd.lt), h.box.below hb h.box.lt, h.own.below hb, owns_kept h.row hb,
    ⟨hb.os.trans h.gr.os, hb.tape.trans h.gr.tape, hb.output.trans h.gr.output, Nat.le_trans h.gr.size hb.size, fun k hk hne => (hb.block k (Nat.lt_of_lt_of_le hk h.gr.size)).trans (h.gr.block k hk hne)⟩, h.nn⟩
theorem PI.alloc (h : PI w R A len c f P n ls A' g' c' v st w1) (o : Obj) : PI w R A len c f P n ls A' g' c' v st (w1.alloc o) := h.call ((Below.refl _ _).alloc (Nat.le_refl _) o)
theorem PI.drew (h : PI w R A len c f P n ls A' g' c' v st w1) : PI w R A len c f P n ls A' g' c' v st w1.drew := by
  obtain ⟨⟨p, hp, hx, hB⟩, h2, h3, h4, h5, h6⟩ := h
  exact ⟨⟨p, hp, hx, hB⟩, h2, h3, h4, ⟨h5.os, h5.tape, h5.output, h5.size, h5.block⟩, h6⟩
theorem PI.mono (h : PI w R A len c f P n ls A' g' c' v st w1) (hP : P ≤ P') : PI w R A len c f P' n ls A' g' c' v st w1 := ⟨h.rd.mono hP, h.box, h.own, h.row, h.gr, h.nn⟩
theorem PI.append (h : PI w R A len c f P n ls A' g' c' v st w1) {l : Int} {v' : Value} {o : Obj} (hRw : R < w.heap.size)
    (hown : w2.ownsRow (w.heap.size + 1) 3 1 v' (st.length + 1) (st.map (Value.int .i64) ++ [.int .i64 l])) (hg : (w1.alloc o).grownBy w2 v.ownBlock) (hnn : v' ≠ .slice none 0 0) : PI w R A len c f P n ls A' g' c' v' (st ++ [l]) w2 := by
  have hl := h.row.lt
  have zb := h.box.lt
  refine ⟨?_, ?_, fun hp => ?_, ?_, ?_, hnn⟩
  · exact h.rd.below (((Below.refl (R + 1) w1).alloc h.rd.lt o).grown hg (by have := h.rd.lt; simp; omega) (fun j e => by have := (hl j e).1; omega))
  · exact (hg.block _ (by simp; omega) (fun e => by have := (hl _ e.symm).1; omega)).trans (h.box.alloc o)
  · obtain ⟨e, cs, hh, hc⟩ := h.own hp
    have hne := own_box_ne h.row (g := g') (t := 90) hh (by decide)
    exact ⟨e, cs, (hg.block g' (by have := heap_lt hh; simp; omega) (fun e => hne e.symm)).trans ((Below.heap_alloc w1 o g' (heap_lt hh)).trans hh), hc⟩
  · rw [List.length_append, List.map_append]
    exact hown
  · exact grown_far (grown_alloc h.gr o) hg (fun j e => by have := (hl j e).1; omega)
end

theorem row_weak {w : World} {base base' e size n : Nat} {v : Value} {xs : List Value} (h : w.ownsRow base e size v n xs) (hb : base' ≤ base) : w.ownsRow base' e size v n xs := by
  obtain ⟨h1, h2⟩ := h
  refine ⟨h1, ?_⟩
  rcases h2 with h2 | ⟨g, cap, cur, e, hg, r⟩
  · exact .inl h2
  · exact .inr ⟨g, cap, cur, e, Nat.le_trans hb hg, r⟩
/-- What 'l91Path' leaves. -/
def PathD (R : Nat) (A : Option Addr) (len c : Nat) (f : Nat → Int) (P : Nat) (w : World) (e : Ending) (w' : World) : Prop :=
  ∃ (xs : List Int) (gx cx : Nat), e = .returned (.slice (some ⟨gx, 0, none⟩) xs.length cx) ∧ xs.length ≤ 12 ∧ xs.length ≤ cx ∧ w.heap.size < gx ∧ gx < w'.heap.size ∧ Own1i w' (some ⟨gx, 0, none⟩) gx xs ∧ RD R A len c f P w' ∧ w.grownBy w' (some R)

set_option maxRecDepth 100000 in
set_option maxHeartbeats 4000000 in
theorem pathd_any (R : Nat) (A : Option Addr) (len c P : Nat) (f : Nat → Int) (n : Int) (ls : List Lk) (A' : Option Addr) (g' c' : Nat) (w : World) (hlen : len ≤ 2000) (hP : P ≤ 5000) (hn0 : 0 ≤ n) (hn : n ≤ 10) (hls : ls.length ≤ 16) (hR : RD R A len c f P w) (hO : Own1 w A' g' ls) (hgR : g' ≠ R) :
   Calls Try.prog 78 #[.pointer (some ⟨R, 0, none⟩), gval n A' ls.length c'] w (PathD R A len c f (P + 60) w) := by
  obtain ⟨i0, hi, hz0, hz10, hz20⟩ := info_parts infoInt
  have hRw := hR.lt
  have R0 := Lib.hid (hR.alloc (.cells #[.int .i64 n, .slice A' ls.length c'] 32))
  have G0 := Lib.hid (Box.new w 32 #[.int .i64 n, .slice A' ls.length c'])
  have O0 := Lib.hid (hO.alloc (.cells #[.int .i64 n, .slice A' ls.length c'] 32))
  have W0 := Lib.hid (World.grownBy_alloc w (.cells #[.int .i64 n, .slice A' ls.length c'] 32) (some R))
  clear hR hO
  go_enter Try.func78, Try.ntmps78
  go_upto_region 1 with fail
  go_cut [5] (fun v wx => ∃ (g9 c9 : Nat) (x : Int), v = .slice (some ⟨g9, 0, none⟩) 1 c9 ∧ PI w R A len c f (P + 1) n ls A' g' c' v [x] wx)
  case first =>
    by_cases hn1 : 1 ≤ n
    all_goals
      go_wp2_with fail
      refine (pick_rd R A len c _ _ f _ hlen (by omega) (by omega) (by omega) R0.out).mono ?_
      rintro e w3 ⟨k3, rfl, hk3, hR3, hg3, hs3, hb3⟩
      have G3 := Lib.hid (G0.out.grown hg3 (by omega))
      have O3 := Lib.hid (O0.out.grownFar hg3 hgR)
      have W3 := Lib.hid (grown_trans W0.out hg3)
      have R3 := Lib.hid hR3
      have zz := G3.out.lt
      clear hR3 hg3 hs3 hb3 R0 G0 O0 W0
      go_wp2_with fail
      go_meet
      case rel =>
        refine ⟨w3.heap.size, 1, (k3 : Int), rfl, ?_⟩
        exact ⟨R3.out.alloc _, G3.out.alloc _, O3.out.alloc _, ⟨by simp, .inr ⟨w3.heap.size, 1, #[.int .i64 (k3 : Int)], rfl, zz, Box.new w3 3 #[.int .i64 (k3 : Int)], Nat.le_refl _, by unfold maxLen; omega, rfl, by simp⟩⟩, grown_alloc W3.out _, by simp⟩
  case rest =>
    clear R0 G0 O0 W0
    obtain ⟨g9, c9, x0, rfl, hs⟩ := hcut
    have S0 := Lib.hid hs
    clear hs
    go_wp2_with fail
    refine (pick_rd R A len c _ 8 f _ hlen (by omega) (by omega) (by omega) S0.out.rd).mono ?_
    rintro e w1 ⟨k1, rfl, hk1, hR1, hg1, hs1, hb1⟩
    have S1 := Lib.hid (S0.out.picked hR1 hg1 hRw hgR)
    clear hR1 hg1 hs1 hb1 S0
    go_wp2_with fail
    refine (pick_rd R A len c _ 16 f _ hlen (by omega) (by omega) (by omega) S1.out.rd).mono ?_
    rintro e w2 ⟨k2, rfl, hk2, hR2, hg2, hs2, hb2⟩
    have S2 := Lib.hid (S1.out.picked hR2 hg2 hRw hgR)
    clear hR2 hg2 hs2 hb2 S1
    go_upto_if 21 with fail
    go_cut [6] (fun s6 wx => ∃ m : Nat, m ≤ 9 ∧ s6 = .int .i64 (m : Int) ∧ PI w R A len c f (P + 4) n ls A' g' c' (.slice (some ⟨g9, 0, none⟩) 1 c9) [x0] wx)
    case first =>
      by_cases h2 : k2 = 0
      · subst h2
        go_wp2_with fail
        refine (pick_rd R A len c _ 2 f _ hlen (by omega) (by omega) (by omega) S2.out.rd).mono ?_
        rintro e w3 ⟨k3, rfl, hk3, hR3, hg3, hs3, hb3⟩
        have S3 := Lib.hid (S2.out.picked hR3 hg3 hRw hgR)
        clear hR3 hg3 hs3 hb3 S2
        go_wp2_with fail
        go_meet
        case rel => exact ⟨8 + k3, by omega, by go_num, S3.out.mono (by omega)⟩
      · have h2' : ((k2 : Int) == 0) = false := by simpa using h2
        go_wp2_with fail
        go_meet
        case rel => exact ⟨k1, by omega, rfl, S2.out.mono (by omega)⟩
    case rest =>
      clear S2
      obtain ⟨m, hm9, rfl, hcut⟩ := hcut
      have SC := Lib.hid hcut
      clear hcut
      go_wp2_with fail
      go_loopw [5, 7] (fun v i wr => ∃ (k : Nat) (st : List Int), k ≤ m ∧ i = .int .i64 (k : Int) ∧ Hid (st.length = k + 1) ∧ PI w R A len c f (P + 4 + k) n ls A' g' c' v st wr) (fun _ i _ => m - (intOf i).toNat)
      case atStart => exact ⟨0, [x0], Nat.zero_le _, rfl, Lib.hid rfl, SC.out⟩
      case round =>
        obtain ⟨k, st, hk, rfl, HST, hsi⟩ := hrel
        have S := Lib.hid hsi
        obtain ⟨zg, e0, e1, -, -⟩ := hsi.box.two
        obtain ⟨A8, g8, c8, rfl, hg8, hc8, ho8⟩ := own_slicec hsi.row (by have := hsi.box.lt; omega)
        have hsl : st.length ≤ 10 := by have := HST.out; omega
        have hs0 : 0 < st.length := by have := HST.out; omega
        have O8 := Lib.hid ho8
        clear hsi SC ho8
        by_cases hlt : k < m
        · obtain ⟨x, hx⟩ : ∃ x, st[k]? = some x := ⟨_, List.getElem?_eq_getElem (by have := HST.out; omega)⟩
          obtain ⟨rfl, z8, hcx⟩ := O8.out.at hx
          have hkl : k < st.length := by have := HST.out; omega
          have CN := nb_spec n A' ls c' x wr.drew (by omega) (by omega) S.out.drew.own.sl
          have hxl : (if gvB n ls = true then nbS x ls 8 else []).length ≤ 8 := by split; exact nbS_len _ _ _; simp
          generalize (if gvB n ls = true then nbS x ls 8 else []) = ys at *
          clear hx
          have hX := fun (x : Ext wr.drew) (bb o : Nat) (h : bb < wr.heap.size) => (show x.w.cell? ⟨bb, o, none⟩ = wr.cell? ⟨bb, o, none⟩ from x.cell bb o h)
          go_wp2_with fail
          refine wp_region_staged 7 (by kernel_rfl) (by kernel_rfl) ?_
          refine stage_seg _ 2 [0, 1, 2, 3, 4] (by kernel_rfl) (by kernel_rfl) (by kernel_rfl) (by kernel_rfl) ?_
          (simp only [List.map_cons, List.map_nil, List.getElem?_cons_zero, List.getElem?_cons_succ, Option.getD_some]); (repeat (go_big_quiet_step (fail))); (refine wpQuiet_nil ?_)
          refine stage_call _ 1 5 (by kernel_rfl) (by rfl) (by kernel_rfl) (by rfl) ?_
          go_wp2_with fail
          refine CN.mono ?_
          clear CN
          rintro e w4 ⟨A4, g4, c4, rfl, hg4, ho4, hb4⟩
          refine ⟨hb4, ?_⟩
          have S4 := Lib.hid (S.out.drew.call hb4)
          have O4 := Lib.hid ho4
          have O9 := Lib.hid (Own1i.below (w := wr.drew) O8.out hb4)
          have hg4' : wr.heap.size ≤ g4 := hg4
          have hg4R : g4 ≠ R := by have := S.out.rd.lt; omega
          have hy0 : ys.length ≤ 8 := hxl
          clear hb4 ho4 hX e0 e1 zg hcx
          refine stage_seg _ 0 [6] (by kernel_rfl) (by kernel_rfl) (by kernel_rfl) (by kernel_rfl) ?_
          (simp only [List.map_cons, List.map_nil, List.getElem?_cons_zero, List.getElem?_cons_succ, Option.getD_some]); (repeat (go_big_quiet_step (fail))); (refine wpQuiet_nil ?_)
          refine stage_end (by kernel_rfl) ?_
          by_cases hy : ys.length = 0
          · have hy' : ((ys.length : Int) == 0) = true := by simp [hy]
            have HWS := Lib.hid (show w.heap.size < w4.heap.size from S4.out.box.lt)
            go_wp2_with fail
            go_ret
            exact ⟨st, g8, c8, rfl, by omega, hc8, hg8, by have := (O9.out hs0).2.lt; exact this, O9.out, S4.out.rd.mono (by omega), S4.out.gr⟩
          · have hy' : ((ys.length : Int) == 0) = false := by simpa using hy
            have hyp : 0 < ys.length := by omega
            clear hy
            go_wp2_with fail
            refine (pick_rd R A len c _ _ f _ hlen (by omega) (by omega) (by omega) S4.out.rd).mono ?_
            rintro e w5 ⟨k5, rfl, hk5, hR5, hg5, hs5, hb5⟩
            have S5 := Lib.hid (S4.out.picked hR5 hg5 hRw hgR)
            have O5 := Lib.hid (Own1i.grownC O4.out hg5 (fun _ => hg4R))
            obtain ⟨y, hyk⟩ : ∃ y, ys[k5]? = some y := ⟨_, List.getElem?_eq_getElem (by omega)⟩
            obtain ⟨rfl, z5, hcy⟩ := O5.out.at hyk
            have hk5l : k5 < ys.length := by omega
            have hbase := S5.out.box.lt
            clear hR5 hg5 hs5 hb5 S4 hyk
            go_wp2_with (at_builtin; refine wpList_append_own_at _ rfl _ _ 25 rfl (w.heap.size + 1) 3 i0 _ 1 8 Try.underlying25 hi hz0 hz10 hz20 rfl (by decide) _ st.length _ rfl (S5.out.row.alloc _) ⟨w5.heap.size, 0, none⟩ 1 1 [.int .i64 y] rfl rfl (cell_one_new _ _ _) (fun u hu => by simp at hu; subst hu; rfl) (by unfold maxLen; omega) (by omega) (by simp; omega) ?_; intro v' w9 hown' hgrow hnil hat; have S9 := Lib.hid (S5.out.append (l := y) hRw hown' hgrow (fun e => by have := (hnil.1 e).2; omega)); clear hown' hgrow hnil hat)
            go_roundw
            case rel => exact ⟨k + 1, st ++ [y], hlt, by go_num, Lib.hid (by have := HST.out; simp; omega), S9.out.mono (by omega)⟩
            case measure => simp [intOf]; omega
        · obtain rfl : k = m := by omega
          go_wp2_with fail
          refine (pick_rd R A len c _ 3 f _ hlen (by omega) (by omega) (by omega) S.out.rd).mono ?_
          rintro e w3 ⟨k3, rfl, hk3, hR3, hg3, hs3, hb3⟩
          have S3 := Lib.hid (S.out.picked hR3 hg3 hRw hgR)
          clear hR3 hg3 hs3 hb3 S O8 e0 e1 zg
          go_upto_if 52 with fail
          go_cut [5] (fun v wx => ∃ (st : List Int), 1 ≤ st.length ∧ st.length ≤ 10 ∧ PI w R A len c f (P + 4 + k + 3) n ls A' g' c' v st wx)
          case first =>
            by_cases h3 : k3 = 0
            · subst h3
              obtain ⟨zg3, e30, e31, -, -⟩ := S3.out.box.two
              go_wp2_with fail
              refine (node_any R A len c _ f n A' ls.length c' _ hlen (by omega) hn0 hn S3.out.rd).mono ?_
              rintro e w4 ⟨x, rfl, hx0, hx1, hR4, hg4⟩
              have S4 := Lib.hid (S3.out.picked hR4 hg4 hRw hgR)
              clear hR4 hg4 S3 zg3 e30 e31
              obtain ⟨zg, e0, e1, -, -⟩ := S4.out.box.two
              obtain ⟨A7, g7, c7, e7, hg7, hc7, ho7⟩ := own_slicec S4.out.row (by have := S4.out.box.lt; omega)
              cases e7
              obtain ⟨y, hy⟩ : ∃ y, st[0]? = some y := ⟨_, List.getElem?_eq_getElem hs0⟩
              obtain ⟨rfl, z7, hcy⟩ := ho7.at hy
              have O7 := Lib.hid ho7
              have HY := Lib.hid hy
              clear ho7 hy
              have CV := valid_spec_any n A' ls c' w4.drew (by omega) (by omega) S4.out.drew.own.sl
              have hX := fun (x : Ext w4.drew) (bb o : Nat) (h : bb < w4.heap.size) => (show x.w.cell? ⟨bb, o, none⟩ = w4.cell? ⟨bb, o, none⟩ from x.cell bb o h)
              go_wp2_with fail
              refine wp_region_staged 14 (by kernel_rfl) (by kernel_rfl) ?_
              refine stage_seg _ 13 [0] (by kernel_rfl) (by kernel_rfl) (by kernel_rfl) (by kernel_rfl) ?_
              (simp only [List.map_cons, List.map_nil, List.getElem?_cons_zero, Option.getD_some]); (repeat (go_big_quiet_step (fail))); (refine wpQuiet_nil ?_)
              refine stage_call _ 12 1 (by kernel_rfl) (by rfl) (by kernel_rfl) (by rfl) ?_
              go_wp2_with fail
              refine CV.mono ?_
              clear CV
              rintro e w5 ⟨rfl, hb5⟩
              refine ⟨hb5, ?_⟩
              have S5 := Lib.hid (S4.out.drew.call hb5)
              have O5 := Lib.hid (Own1i.below (w := w4.drew) O7.out hb5)
              clear hb5 hX e0 e1 zg hcy z7
              obtain ⟨zg5, e50, e51, -, -⟩ := S5.out.box.two
              obtain ⟨-, z75, hcy5⟩ := O5.out.at HY.out
              have hX5 := fun (x : Ext w5) (bb o : Nat) (h : bb < w5.heap.size) => x.cell bb o h
              cases hv : gvB n ls with
              | false =>
                clear hv
                refine stage_seg _ 9 [2, 3, 4] (by kernel_rfl) (by kernel_rfl) (by kernel_rfl) (by kernel_rfl) ?_
                (simp only [List.map_cons, List.map_nil, List.getElem?_cons_zero, List.getElem?_cons_succ, Option.getD_some]); (repeat (go_big_quiet_step (fail))); (refine wpQuiet_nil ?_)
                refine stage_skip _ 8 5 (by kernel_rfl) (by rfl) (by kernel_rfl) (by rfl) ?_
                go_simp
                refine stage_seg _ 2 [6, 7, 8, 9, 10, 11] (by kernel_rfl) (by kernel_rfl) (by kernel_rfl) (by kernel_rfl) ?_
                (simp only [List.map_cons, List.map_nil, List.getElem?_cons_zero, List.getElem?_cons_succ, Option.getD_some]); (repeat (go_big_quiet_step (fail))); (refine wpQuiet_nil ?_)
                refine stage_skip _ 1 12 (by kernel_rfl) (by rfl) (by kernel_rfl) (by rfl) ?_
                go_simp
                refine stage_seg _ 0 [13] (by kernel_rfl) (by kernel_rfl) (by kernel_rfl) (by kernel_rfl) ?_
                (simp only [List.map_cons, List.map_nil, List.getElem?_cons_zero, List.getElem?_cons_succ, Option.getD_some]); (repeat (go_big_quiet_step (fail))); (refine wpQuiet_nil ?_)
                refine stage_end (by kernel_rfl) ?_
                clear hX5
                go_wp2_with fail
                go_meet
                case rel => exact ⟨st, hs0, hsl, S5.out.mono (by omega)⟩
              | true =>
                obtain ⟨-, hn1, hn8, -⟩ := gvB_fit hv
                have HV := Lib.hid hv
                clear hv
                refine stage_seg _ 9 [2, 3, 4] (by kernel_rfl) (by kernel_rfl) (by kernel_rfl) (by kernel_rfl) ?_
                (simp only [List.map_cons, List.map_nil, List.getElem?_cons_zero, List.getElem?_cons_succ, Option.getD_some]); (repeat (go_big_quiet_step (fail))); (refine wpQuiet_nil ?_)
                refine stage_call _ 8 5 (by kernel_rfl) (by rfl) (by kernel_rfl) (by rfl) ?_
                go_wp2_with fail
                refine (l1Node_any n _ x w5 hn1 hn8).mono ?_
                rintro e w6 ⟨rfl, hb6⟩
                refine ⟨hb6, ?_⟩
                have S6 := Lib.hid (S5.out.call hb6)
                have O6 := Lib.hid (O5.out.below hb6)
                clear hb6 hX5 e50 e51 zg5 hcy5 z75
                obtain ⟨zg6, e60, e61, -, -⟩ := S6.out.box.two
                obtain ⟨-, z76, hcy6⟩ := O6.out.at HY.out
                have hX6 := fun (x : Ext w6) (bb o : Nat) (h : bb < w6.heap.size) => x.cell bb o h
                by_cases hx : 0 ≤ x ∧ x < n
                · have hin : inB x 0 (n - 1) = true := by unfold inB; simp; omega
                  rw [hin]
                  clear hin
                  refine stage_seg _ 2 [6, 7, 8, 9, 10, 11] (by kernel_rfl) (by kernel_rfl) (by kernel_rfl) (by kernel_rfl) ?_
                  (simp only [List.map_cons, List.map_nil, List.getElem?_cons_zero, List.getElem?_cons_succ, Option.getD_some]); (repeat (go_big_quiet_step (fail))); (refine wpQuiet_nil ?_)
                  refine stage_call _ 1 12 (by kernel_rfl) (by rfl) (by kernel_rfl) (by rfl) ?_
                  go_wp2_with fail
                  refine (l1Node_any n _ y w6 hn1 hn8).mono ?_
                  rintro e wa ⟨rfl, hba⟩
                  refine ⟨hba, ?_⟩
                  have Sa := Lib.hid (S6.out.call hba)
                  have Oa := Lib.hid (O6.out.below hba)
                  clear hba hX6 e60 e61 zg6 hcy6 z76
                  obtain ⟨zga, ea0, ea1, -, -⟩ := Sa.out.box.two
                  obtain ⟨-, z7a, hcya⟩ := Oa.out.at HY.out
                  by_cases hy : 0 ≤ y ∧ y < n
                  · have hin : inB y 0 (n - 1) = true := by unfold inB; simp; omega
                    rw [hin]
                    clear hin
                    obtain ⟨q, rfl⟩ : ∃ q : Nat, n = (q : Int) := ⟨n.toNat, by omega⟩
                    have CP := l2path_anyR q A' ls c' y x wa.drew HV.out hy hx Sa.out.drew.own.sl
                    have hp8 := pathI_len (q : Int) ls y x
                    generalize pathI (q : Int) ls y x = p at *
                    refine stage_seg _ 0 [13] (by kernel_rfl) (by kernel_rfl) (by kernel_rfl) (by kernel_rfl) ?_
                    (simp only [List.map_cons, List.map_nil, List.getElem?_cons_zero, List.getElem?_cons_succ, Option.getD_some]); (repeat (go_big_quiet_step (fail))); (refine wpQuiet_nil ?_)
                    refine stage_end (by kernel_rfl) ?_
                    go_wp2_with fail
                    have hXa := fun (x : Ext wa.drew) (bb o : Nat) (h : bb < wa.heap.size) => (show x.w.cell? ⟨bb, o, none⟩ = wa.cell? ⟨bb, o, none⟩ from x.cell bb o h)
                    refine wp_region_staged 7 (by kernel_rfl) (by kernel_rfl) ?_
                    refine stage_seg _ 2 [0, 1, 2, 3, 4] (by kernel_rfl) (by kernel_rfl) (by kernel_rfl) (by kernel_rfl) ?_
                    (simp only [List.map_cons, List.map_nil, List.getElem?_cons_zero, List.getElem?_cons_succ, Option.getD_some]); (repeat (go_big_quiet_step (fail))); (refine wpQuiet_nil ?_)
                    refine stage_call _ 1 5 (by kernel_rfl) (by rfl) (by kernel_rfl) (by rfl) ?_
                    go_wp2_with fail
                    refine CP.mono ?_
                    clear CP
                    rintro e wb ⟨v, rfl, hrow, hbb⟩
                    refine ⟨hbb, ?_⟩
                    have Sb := Lib.hid (Sa.out.drew.call hbb)
                    have hza := Sa.out.box.lt
                    have HRW := Lib.hid (row_weak (base' := w.heap.size + 1) hrow (by show w.heap.size + 1 ≤ wa.heap.size + 1; omega))
                    obtain ⟨A9, g9', c9', rfl, hg9', hc9', ho9'⟩ := own_slicec HRW.out (by have := Sb.out.box.lt; omega)
                    clear hbb hXa ea0 ea1 zga hcya z7a hrow ho9'
                    refine stage_seg _ 0 [6] (by kernel_rfl) (by kernel_rfl) (by kernel_rfl) (by kernel_rfl) ?_
                    (simp only [List.map_cons, List.map_nil, List.getElem?_cons_zero, List.getElem?_cons_succ, Option.getD_some]); (repeat (go_big_quiet_step (fail))); (refine wpQuiet_nil ?_)
                    refine stage_end (by kernel_rfl) ?_
                    by_cases hp0 : p.length = 0
                    · have hp0' : ¬ (0 : Int) < (p.length : Int) := by omega
                      go_wp2_with fail
                      go_meet
                      case rel => exact ⟨st, hs0, hsl, Sb.out.mono (by omega)⟩
                    · have hp0' : (0 : Int) < (p.length : Int) := by omega
                      have hp1 : 1 ≤ p.length := by omega
                      clear hp0
                      go_wp2_with fail
                      go_meet
                      case rel => exact ⟨p, hp1, by omega, Sb.out.rd.mono (by omega), Sb.out.box, Sb.out.own, HRW.out, Sb.out.gr, fun e => by injection e with _ e2; omega⟩
                  · have hin : inB y 0 (n - 1) = false := by unfold inB; simp; omega
                    rw [hin]
                    clear hin
                    refine stage_seg _ 0 [13] (by kernel_rfl) (by kernel_rfl) (by kernel_rfl) (by kernel_rfl) ?_
                    (simp only [List.map_cons, List.map_nil, List.getElem?_cons_zero, List.getElem?_cons_succ, Option.getD_some]); (repeat (go_big_quiet_step (fail))); (refine wpQuiet_nil ?_)
                    refine stage_end (by kernel_rfl) ?_
                    go_wp2_with fail
                    go_meet
                    case rel => exact ⟨st, hs0, hsl, Sa.out.mono (by omega)⟩
                · have hin : inB x 0 (n - 1) = false := by unfold inB; simp; omega
                  rw [hin]
                  clear hin
                  refine stage_seg _ 2 [6, 7, 8, 9, 10, 11] (by kernel_rfl) (by kernel_rfl) (by kernel_rfl) (by kernel_rfl) ?_
                  (simp only [List.map_cons, List.map_nil, List.getElem?_cons_zero, List.getElem?_cons_succ, Option.getD_some]); (repeat (go_big_quiet_step (fail))); (refine wpQuiet_nil ?_)
                  refine stage_skip _ 1 12 (by kernel_rfl) (by rfl) (by kernel_rfl) (by rfl) ?_
                  go_simp
                  refine stage_seg _ 0 [13] (by kernel_rfl) (by kernel_rfl) (by kernel_rfl) (by kernel_rfl) ?_
                  (simp only [List.map_cons, List.map_nil, List.getElem?_cons_zero, List.getElem?_cons_succ, Option.getD_some]); (repeat (go_big_quiet_step (fail))); (refine wpQuiet_nil ?_)
                  refine stage_end (by kernel_rfl) ?_
                  clear hX6
                  go_wp2_with fail
                  go_meet
                  case rel => exact ⟨st, hs0, hsl, S6.out.mono (by omega)⟩
            · have h3' : ((k3 : Int) == 0) = false := by simpa using h3
              go_wp2_with fail
              go_meet
              case rel => exact ⟨st, hs0, hsl, S3.out.mono (by omega)⟩
          case rest =>
            clear S3 HST hs0 hsl
            obtain ⟨st, hs1, hs10, hs⟩ := hcut
            have S := Lib.hid hs
            clear hs
            go_wp2_with fail
            refine (pick_rd R A len c _ 20 f _ hlen (by omega) (by omega) (by omega) S.out.rd).mono ?_
            rintro e w3 ⟨k3, rfl, hk3, hR3, hg3, hs3, hb3⟩
            have S3 := Lib.hid (S.out.picked hR3 hg3 hRw hgR)
            clear hR3 hg3 hs3 hb3 S
            obtain ⟨A7, g7, c7, rfl, hg7, hc7, ho7⟩ := own_slicec S3.out.row (by have := S3.out.box.lt; omega)
            obtain ⟨y, hy⟩ : ∃ y, st[0]? = some y := ⟨_, List.getElem?_eq_getElem (by omega)⟩
            obtain ⟨rfl, z7, hcy⟩ := ho7.at hy
            have O7 := Lib.hid ho7
            clear ho7 hy hcy
            by_cases h0 : k3 = 0
            · subst h0
              go_wp2_with fail
              refine (pick_rd R A len c _ 9 f _ hlen (by omega) (by omega) (by omega) S3.out.rd).mono ?_
              rintro e w4 ⟨k4, rfl, hk4, hR4, hg4, hs4, hb4⟩
              have S4 := Lib.hid (S3.out.picked hR4 hg4 hRw hgR)
              have hbase := S4.out.box.lt
              clear hR4 hg4 hs4 hb4 S3 O7
              go_wp2_with (at_builtin; refine wpList_append_own_at _ rfl _ _ 25 rfl (w.heap.size + 1) 3 i0 _ 1 8 Try.underlying25 hi hz0 hz10 hz20 rfl (by decide) _ st.length _ rfl (S4.out.row.alloc _) ⟨w4.heap.size, 0, none⟩ 1 1 [.int .i64 (k4 : Int)] rfl rfl (cell_one_new _ _ _) (fun u hu => by simp at hu; subst hu; rfl) (by unfold maxLen; omega) (by omega) (by simp; omega) ?_; intro v' w9 hown' hgrow hnil hat; have S9 := Lib.hid (S4.out.append (l := (k4 : Int)) hRw hown' hgrow (fun e => by have := (hnil.1 e).2; omega)); clear hown' hgrow hnil hat)
              obtain ⟨A6, g6, c6, rfl, hg6, hc6, ho6⟩ := own_slicec S9.out.row (by have := S9.out.box.lt; omega)
              obtain ⟨rfl, z6, -⟩ := ho6.at (show (st ++ [(k4 : Int)])[st.length]? = some (k4 : Int) by simp)
              have O6 := Lib.hid ho6
              clear ho6
              go_ret
              exact ⟨_, g6, c6, rfl, by simp; omega, hc6, hg6, z6, O6.out, S9.out.rd.mono (by omega), S9.out.gr⟩
            · have h0' : ((k3 : Int) == 0) = false := by simpa using h0
              clear h0
              by_cases h1 : k3 = 1
              · subst h1
                have hc70 : 0 < c7 := by omega
                go_wp2_with fail
                go_ret
                exact ⟨[], g7, c7, rfl, by simp, by simp, hg7, z7, fun h => absurd h (by simp), S3.out.rd.mono (by omega), S3.out.gr⟩
              · have h1' : ((k3 : Int) == 1) = false := by simp; omega
                clear h1
                go_wp2_with fail
                go_ret
                exact ⟨st, g7, c7, rfl, by omega, hc7, hg7, z7, O7.out, S3.out.rd.mono (by omega), S3.out.gr⟩

end Go.Proofs.Ytenlofomkchlaac

/-
  Contracts over this seat: what the laws of paths draw.
-/
namespace Go.Proofs.Ytenlofomkchlaac
open Go.RowKit Go.Maps

theorem Own1i.set_far {w : World} {A : Option Addr} {g : Nat} {ls : List Int} (h : Own1i w A g ls) {p : Addr} (hp : g ≠ p.block) (u : Value) : Own1i (w.setCell p u) A g ls := fun hl => by
  obtain ⟨e, cs, hh, hc⟩ := h hl
  exact ⟨e, cs, (Below.heap_setCell w p u g hp).trans hh, hc⟩

/-- What a law of paths is drawn. -/
def DPth (w : World) (e : Ending) (w' : World) : Prop :=
  ∃ (n : Int) (ls : List Lk) (A' : Option Addr) (g' c' : Nat) (xs : List Int) (gx cx : Nat), e = .returned (.tuple #[gval n A' ls.length c', .slice (some ⟨gx, 0, none⟩) xs.length cx]) ∧ DG w n ls A' g' w' ∧
    xs.length ≤ 12 ∧ Own1i w' (some ⟨gx, 0, none⟩) gx xs ∧ w.heap.size ≤ gx ∧ xs.length ≤ cx ∧ gx < w'.heap.size

set_option maxRecDepth 100000 in
set_option maxHeartbeats 1600000 in
theorem drawPathValid_any (A : Option Addr) (len c : Nat) (f : Nat → Int) (w : World) (hlc : len ≤ c) (hc : c ≤ maxLen) (hB : Byt w w.heap.size A len f) :
   Calls Try.prog 49 #[.slice A len c] w (DPth w) := by
  have HB := Lib.hid (hB.alloc (.cells #[.int .i64 0, .slice none 0 0] 32))
  have HQ := Lib.hid (Box.new w 32 #[.int .i64 0, .slice none 0 0])
  clear hB
  go_enter Try.func49, Try.ntmps49
  go_wp2_with fail
  refine (open_any A len c f _ hlc hc HB.out).mono ?_
  rintro e w1 ⟨l1, hl1, rfl, hr1, hb1, hs1⟩
  rw [World.size_alloc] at hr1 hb1 hs1
  have H1 := Lib.hid hr1
  have B1 := Lib.hid (Below.trans (B := w.heap.size) (a := w) (by (repeat (first | exact Below.refl _ _ | (refine Below.alloc ?_ (by first | exact Nat.le_refl _ | omega | (simp; done) | (simp; omega)) _) | (refine Below.setCell ?_ (by first | exact Nat.le_refl _ | omega | (simp; done) | (simp; omega)) _) | exact Below.drew ‹_›))) (hb1.mono (by omega)))
  have Q1 := Lib.hid (HQ.out.below hb1 (by omega))
  clear hr1 hb1 HQ HB
  have hq := World.size_alloc w (.cells #[.int .i64 0, .slice none 0 0] 32)
  rw [hq]
  go_wp2_with fail
  refine (spoilt_any _ A l1 c 0 f w1 hl1 (by omega) H1.out).mono ?_
  rintro e w2 ⟨n, ls, A2, g2, c2, rfl, hn0, hn1, hls, hg2, ho2, hr2, hb2, -⟩
  have D2 := Lib.hid (show DI w (w.heap.size + 1) w.heap.size w2.heap.size A l1 c f (0 + 1010) n ls A2 g2 c2 (w2.alloc (.cells #[.int .i64 n, .slice A2 ls.length c2] 32)) from
    ⟨hr2.alloc _, (Q1.out.grown hb2 (by omega)).alloc _, Box.new w2 _ _, ho2.alloc _, (B1.out.grown hb2 (by omega) (fun k e => by injection e with e; omega)).alloc (by have := hb2.size; omega) _,
      by omega, by omega, by omega, by omega, by have := hb2.size; omega, by omega, by have := hb2.size; omega⟩)
  have hgR : g2 ≠ w.heap.size + 1 := by omega
  have hG0 : w.heap.size + 1 < w2.heap.size := by have := hb2.size; omega
  clear hr2 hb2 ho2 H1 B1 Q1 hg2
  go_wp2_with fail
  generalize w2.alloc (.cells #[.int .i64 n, .slice A2 ls.length c2] 32) = w3 at *
  generalize w2.heap.size = G at *
  obtain ⟨zg, d0, d1, p0, p1⟩ := D2.out.2.2.1.two
  have zq := D2.out.2.1.lt
  have D4 := Lib.hid D2.out.drew
  have hGR : G ≠ w.heap.size + 1 := by omega
  have hGQ : G ≠ w.heap.size := by omega
  clear D2
  have hX0 := fun (y : ExtX (fun b => b = w.heap.size + 1 ∨ b = w.heap.size) w3.drew) => (y.cell G 0 zg (by omega)).trans d0
  have hX1 := fun (y : ExtX (fun b => b = w.heap.size + 1 ∨ b = w.heap.size) w3.drew) => (y.cell G 1 zg (by omega)).trans d1
  refine wp_region_stx 6 (fun b => b = w.heap.size + 1 ∨ b = w.heap.size) (by kernel_rfl) (by kernel_rfl) ?_
  refine stx_seg _ 3 [0, 1, 2] (by kernel_rfl) (by kernel_rfl) (by kernel_rfl) (by kernel_rfl) ?_
  (simp only [List.map_cons, List.map_nil, List.getElem?_cons_zero, List.getElem?_cons_succ, Option.getD_some]); (repeat (go_big_quiet_step (fail))); (refine wpQuiet_nil ?_)
  clear hX0 hX1 d0 d1 p0 p1
  refine stx_one _ 2 3 (by kernel_rfl) (by rfl) (by kernel_rfl) (by rfl) ?_
  go_wp2_with fail
  refine (pathd_any _ A l1 c _ f n ls A2 g2 c2 _ hl1 (by omega) hn0 hn1 hls D4.out.1 D4.out.2.2.2.1 hgR).mono ?_
  rintro e w5 ⟨xs, g9, cx, rfl, hs9, hcx, hg9, hg9l, ho9, hr5, hg5⟩
  refine ⟨⟨hg5.os, hg5.tape, hg5.output, hg5.size, fun k hk hx => hg5.block k hk (fun e => hx (.inl (by cases e; rfl)))⟩, _, fun _ h => h, ?_⟩
  have D5 := Lib.hid (D4.out.node hr5 hg5)
  have hg10 : w3.heap.size < g9 := hg9
  have HO := Lib.hid ho9
  clear hr5 hg5 ho9 D4
  obtain ⟨zq5, e0, e1, q0, q1⟩ := D5.out.2.1.two
  refine stx_one _ 1 4 (by kernel_rfl) (by rfl) (by kernel_rfl) (by rfl) ?_
  go_wp2_with fail
  refine ⟨((Kx.refl _ _).setCell (p := ⟨w.heap.size, 0, none⟩) (.inr rfl) _).setCell (p := ⟨w.heap.size, 1, none⟩) (.inr rfl) _, _, fun _ h => h, ?_⟩
  refine stx_seg _ 0 [5] (by kernel_rfl) (by kernel_rfl) (by kernel_rfl) (by kernel_rfl) ?_
  (simp only [List.map_cons, List.map_nil, List.getElem?_cons_zero, List.getElem?_cons_succ, Option.getD_some]); (repeat (go_big_quiet_step (fail))); (refine wpQuiet_nil ?_)
  refine stx_end (by kernel_rfl) ?_
  go_wp2_with fail
  obtain ⟨b2, r0, r1⟩ := ret_two D5.out.2.1 (.int .i64 n) (.slice A2 ls.length c2)
  refine bodyPost_ret (v := .tuple #[gval n A2 ls.length c2, .slice (some ⟨g9, 0, none⟩) xs.length cx]) (by simp [results, Try.results49, go_sem, r0, r1]) rfl ?_
  exact ⟨n, ls, A2, g2, c2, xs, g9, cx, rfl, D5.out.dg hn0 hn1 hls _ _, hs9, (HO.out.set_far (by show g9 ≠ w.heap.size; omega) _).set_far (by show g9 ≠ w.heap.size; omega) _, by omega, hcx, by simpa using hg9l⟩


set_option maxRecDepth 100000 in
theorem drawCompile_any (A : Option Addr) (len c : Nat) (f : Nat → Int) (w : World) (hlc : len ≤ c) (hc : c ≤ maxLen) (hB : Byt w w.heap.size A len f) :
   Calls Try.prog 23 #[.slice A len c] w (DPth w) := by
  have HB := Lib.hid (hB.alloc (.cells #[.int .i64 0, .slice none 0 0] 32))
  have HQ := Lib.hid (Box.new w 32 #[.int .i64 0, .slice none 0 0])
  clear hB
  go_enter Try.func23, Try.ntmps23
  go_wp2_with fail
  refine (drawPathValid_any A len c f _ hlc hc HB.out).mono ?_
  rintro e w1 ⟨n, ls, A2, g2, c2, xs, gx, cx, rfl, ⟨hn0, hn1, hls, hg2, ho2, hb2⟩, hs9, hox, hgx, hcx, hgl⟩
  rw [World.size_alloc] at hg2 hb2 hgx
  have Q1 := HQ.out.below hb2 (by omega)
  have B1 := Lib.hid (Below.trans (B := w.heap.size) (a := w) (by (repeat (first | exact Below.refl _ _ | (refine Below.alloc ?_ (by first | exact Nat.le_refl _ | omega | (simp; done) | (simp; omega)) _) | (refine Below.setCell ?_ (by first | exact Nat.le_refl _ | omega | (simp; done) | (simp; omega)) _) | exact Below.drew ‹_›))) (hb2.mono (by omega)))
  have O1 := Lib.hid ho2
  have OX := Lib.hid hox
  clear HQ HB hb2 ho2 hox
  obtain ⟨zq, e0, e1, q0, q1⟩ := Q1.two
  go_wp2_with fail
  obtain ⟨b2, r0, r1⟩ := ret_two Q1 (.int .i64 n) (.slice A2 ls.length c2)
  refine bodyPost_ret (v := .tuple #[gval n A2 ls.length c2, .slice (some ⟨gx, 0, none⟩) xs.length cx]) (by simp [results, Try.results23, go_sem, r0, r1]) rfl ?_
  exact ⟨n, ls, A2, g2, c2, xs, gx, cx, rfl, ⟨hn0, hn1, hls, by omega, (O1.out.set_box Q1 (by decide) 0 _).set_box (heap_set Q1 0 _) (by decide) 1 _, (B1.out.setCell (p := ⟨w.heap.size, 0, none⟩) (Nat.le_refl _) _).setCell (p := ⟨w.heap.size, 1, none⟩) (Nat.le_refl _) _⟩, hs9, (OX.out.set_far (by show gx ≠ w.heap.size; omega) _).set_far (by show gx ≠ w.heap.size; omega) _, by omega, hcx, by simpa using hgl⟩

end Go.Proofs.Ytenlofomkchlaac
