/-
  A contract over this seat: the drawn stack: labels in memory of their own.
-/
import Derived.Test.YtenlofomkchlaacA5
import Derived.Test.YtenlofomkchlaacC3
import Derived.Test.YtenlofomkchlaacC1
import Derived.Test.YtenlofomkchlaacC4
import Derived.Test.YtenlofomkchlaacA8
namespace Go.Proofs.Ytenlofomkchlaac
open Go.RowKit Go.Maps

/-- The state while labels are drawn: the reader, the graph's box and links, the row of labels. -/
structure SI (w : World) (R : Nat) (A : Option Addr) (len c : Nat) (f : Nat → Int) (P : Nat) (n : Int) (ls : List Lk) (A' : Option Addr) (g' c' : Nat) (v : Value) (st : List Lb) (wx : World) : Prop where
  rd : RD R A len c f P wx
  box : Box wx w.heap.size 32 #[.int .i64 n, .slice A' ls.length c']
  own : Own1 wx A' g' ls
  row : wx.ownsRow (w.heap.size + 1) 53 2 v st.length (flatB st)
  gr : w.grownBy wx (some R)
  nn : v ≠ .slice none 0 0
section
variable {w w1 w2 : World} {R : Nat} {A : Option Addr} {len c : Nat} {f : Nat → Int} {P P' : Nat} {n : Int} {ls : List Lk} {A' : Option Addr} {g' c' : Nat} {v : Value} {st : List Lb}
theorem SI.picked (h : SI w R A len c f P n ls A' g' c' v st w1) (hr : RD R A len c f P' w2) (hg : w1.grownBy w2 (some R)) (hRw : R < w.heap.size) (hgR : g' ≠ R) : SI w R A len c f P' n ls A' g' c' v st w2 := by
  obtain ⟨cs, hx⟩ := h.rd.box
  exact ⟨hr, h.box.grown hg (by omega), h.own.grownFar hg hgR, owns_picked h.row hx (by decide) hg, grown_trans h.gr hg, h.nn⟩
theorem SI.call (h : SI w R A len c f P n ls A' g' c' v st w1) (hb : Below w1.heap.size w1 w2) : SI w R A len c f P n ls A' g' c' v st w2 :=
  ⟨h.rd.below (hb.mono h.rd.lt), h.box.below hb h.box.lt, h.own.below hb, owns_kept h.row hb,
    ⟨hb.os.trans h.gr.os, hb.tape.trans h.gr.tape, hb.output.trans h.gr.output, Nat.le_trans h.gr.size hb.size, fun k hk hne => (hb.block k (Nat.lt_of_lt_of_le hk h.gr.size)).trans (h.gr.block k hk hne)⟩, h.nn⟩
theorem SI.alloc (h : SI w R A len c f P n ls A' g' c' v st w1) (o : Obj) : SI w R A len c f P n ls A' g' c' v st (w1.alloc o) := h.call ((Below.refl _ _).alloc (Nat.le_refl _) o)
theorem SI.drew (h : SI w R A len c f P n ls A' g' c' v st w1) : SI w R A len c f P n ls A' g' c' v st w1.drew := by
  obtain ⟨⟨p, hp, hx, hB⟩, h2, h3, h4, h5, h6⟩ := h
  exact ⟨⟨p, hp, hx, hB⟩, h2, h3, h4, ⟨h5.os, h5.tape, h5.output, h5.size, h5.block⟩, h6⟩
theorem SI.mono (h : SI w R A len c f P n ls A' g' c' v st w1) (hP : P ≤ P') : SI w R A len c f P' n ls A' g' c' v st w1 := ⟨h.rd.mono hP, h.box, h.own, h.row, h.gr, h.nn⟩
theorem SI.setL (h : SI w R A len c f P n ls A' g' c' v st w1) {L : Nat} {cs : Array Value} (hL : Box w1 L 53 cs) (hw : w.heap.size < L) (hRw : R < w.heap.size) (hv : ∀ j, v.ownBlock = some j → j ≠ L) (i : Nat) (u : Value) :
    SI w R A len c f P n ls A' g' c' v st (w1.setCell ⟨L, i, none⟩ u) :=
  ⟨h.rd.set (q := ⟨L, i, none⟩) (by show R < L; omega) u, (Below.heap_setCell w1 ⟨L, i, none⟩ u _ (by show w.heap.size ≠ L; omega)).trans h.box, h.own.set_box hL (by decide) i u,
    h.row.kept (grown_set (World.grownBy.refl w1 (some L)) i u) (.inr (fun e => hv L e rfl)), grown_setFar h.gr (p := ⟨L, i, none⟩) (by show w.heap.size ≤ L; omega) u, h.nn⟩
theorem SI.append (h : SI w R A len c f P n ls A' g' c' v st w1) {l : Lb} {v' : Value} {o : Obj} (hRw : R < w.heap.size)
    (hown : w2.ownsRow (w.heap.size + 1) 53 2 v' (st.length + 1) (flatB st ++ [.int .i64 l.k, .int .i64 l.a])) (hg : (w1.alloc o).grownBy w2 v.ownBlock) (hnn : v' ≠ .slice none 0 0) : SI w R A len c f P n ls A' g' c' v' (st ++ [l]) w2 := by
  have hl := h.row.lt
  have zb := h.box.lt
  refine ⟨?_, ?_, fun hp => ?_, ?_, ?_, hnn⟩
  · exact h.rd.below (((Below.refl (R + 1) w1).alloc h.rd.lt o).grown hg (by have := h.rd.lt; simp; omega) (fun j e => by have := (hl j e).1; omega))
  · exact (hg.block _ (by simp; omega) (fun e => by have := (hl _ e.symm).1; omega)).trans (h.box.alloc o)
  · obtain ⟨e, cs, hh, hc⟩ := h.own hp
    have hne := own_box_ne h.row (g := g') (t := 90) hh (by decide)
    exact ⟨e, cs, (hg.block g' (by have := heap_lt hh; simp; omega) (fun e => hne e.symm)).trans ((Below.heap_alloc w1 o g' (heap_lt hh)).trans hh), hc⟩
  · rw [List.length_append, flatB_append]
    exact hown
  · exact grown_far (grown_alloc h.gr o) hg (fun j e => by have := (hl j e).1; omega)
end

theorem box_row {W W' : World} {base n L : Nat} {v : Value} {xs : List Value} {o : Obj} {cs : Array Value} {t : TypeId} (h : Box W L t cs) (_hr : W.ownsRow base 53 2 v n xs) (hv : ∀ j, v.ownBlock = some j → j ≠ L) (hg : (W.alloc o).grownBy W' v.ownBlock) : Box W' L t cs :=
  (hg.block L (by have := h.lt; simp; omega) (fun e => hv L e.symm rfl)).trans (h.alloc o)
theorem l1I_bound (mn mx : Int) (ls : List Lk) : -1 ≤ l1I mn mx ls ∧ l1I mn mx ls ≤ ls.length := by
  unfold l1I
  split
  · rename_i k hk
    have := (List.findIdx?_eq_some_iff_getElem.1 hk).1
    omega
  · omega
def LbOk (l : Lb) : Prop := -1 ≤ l.k ∧ l.k ≤ 16 ∧ -1 ≤ l.a ∧ l.a ≤ 16

/-- What 'l91Stack' leaves. -/
def StackD (R : Nat) (A : Option Addr) (len c : Nat) (f : Nat → Int) (P : Nat) (w : World) (e : Ending) (w' : World) : Prop :=
  ∃ (st : List Lb) (Ax : Option Addr) (cx : Nat), e = .returned (.slice Ax st.length cx) ∧ st.length ≤ 9 ∧ (∀ l ∈ st, LbOk l) ∧ w'.ownsRow (w.heap.size + 1) 53 2 (.slice Ax st.length cx) st.length (flatB st) ∧ RD R A len c f P w' ∧ w.grownBy w' (some R) ∧ w.heap.size < w'.heap.size ∧ Ax ≠ none

set_option maxRecDepth 100000 in
set_option maxHeartbeats 4000000 in
theorem stackd_any (R : Nat) (A : Option Addr) (len c P : Nat) (f : Nat → Int) (n : Int) (ls : List Lk) (A' : Option Addr) (g' c' : Nat) (a : Int) (w : World) (hlen : len ≤ 2000) (hP : P ≤ 100000) (hn0 : 0 ≤ n) (hn : n ≤ 10) (hls : ls.length ≤ 16) (ha : -1 ≤ a ∧ a ≤ 16) (hR : RD R A len c f P w) (hO : Own1 w A' g' ls) (hgR : g' ≠ R) :
   Calls Try.prog 90 #[.pointer (some ⟨R, 0, none⟩), gval n A' ls.length c', .int .i64 a] w (StackD R A len c f (P + 60) w) := by
  obtain ⟨i0, hi, hz0, hz10, hz20⟩ := info_parts infoLabel
  have hRw := hR.lt
  have E0 := Box.new (w.alloc (.cells #[.int .i64 n, .slice A' ls.length c'] 32)) 53 #[]
  rw [World.size_alloc] at E0
  have S0 : Hid (SI w R A len c f P n ls A' g' c' (.slice (some ⟨w.heap.size + 1, 0, none⟩) 0 0) [] ((w.alloc (.cells #[.int .i64 n, .slice A' ls.length c'] 32)).alloc (.cells #[] 53))) :=
    Lib.hid ⟨(hR.alloc _).alloc _, (Box.new w _ _).alloc _, (hO.alloc _).alloc _, ⟨by simp [flatB], .inr ⟨w.heap.size + 1, 0, #[], rfl, Nat.le_refl _, E0, Nat.le_refl _, by omega, rfl, by simp [flatB]⟩⟩, grown_alloc (World.grownBy_alloc w _ _) _, by simp⟩
  clear hR hO E0
  go_enter Try.func90, Try.ntmps90
  go_wp2_with fail
  refine (pick_rd R A len c P 5 f _ hlen (by omega) (by omega) (by omega) S0.out.rd).mono ?_
  rintro e w1 ⟨k1, rfl, hk1, hR1, hg1, hs1, hb1⟩
  have S1 := Lib.hid (S0.out.picked hR1 hg1 hRw hgR)
  clear hR1 hg1 hs1 hb1 S0
  go_wp2_with fail
  refine (pick_rd R A len c (P + 1) 16 f _ hlen (by omega) (by omega) (by omega) S1.out.rd).mono ?_
  rintro e w2 ⟨k2, rfl, hk2, hR2, hg2, hs2, hb2⟩
  have S2 := Lib.hid (S1.out.picked hR2 hg2 hRw hgR)
  clear hR2 hg2 hs2 hb2 S1
  go_upto_if 21 with fail
  go_cut [9] (fun s9 wx => ∃ m : Nat, m ≤ 9 ∧ s9 = .int .i64 (m : Int) ∧ SI w R A len c f (P + 3) n ls A' g' c' (.slice (some ⟨w.heap.size + 1, 0, none⟩) 0 0) [] wx)
  case first =>
    by_cases h2 : k2 = 0
    · subst h2
      go_wp2_with fail
      refine (pick_rd R A len c (P + 2) 3 f _ hlen (by omega) (by omega) (by omega) S2.out.rd).mono ?_
      rintro e w3 ⟨k3, rfl, hk3, hR3, hg3, hs3, hb3⟩
      have S3 := Lib.hid (S2.out.picked hR3 hg3 hRw hgR)
      clear hR3 hg3 hs3 hb3 S2
      go_wp2_with fail
      go_meet
      case rel => exact ⟨7 + k3, by omega, by go_num, S3.out⟩
    · have h2' : ((k2 : Int) == 0) = false := by simpa using h2
      go_wp2_with fail
      go_meet
      case rel => exact ⟨k1, by omega, rfl, S2.out.mono (by omega)⟩
  case rest =>
    clear S2
    obtain ⟨m, hm9, rfl, hcut⟩ := hcut
    have SC := Lib.hid hcut
    clear hcut
    go_wp2_with fail
    go_loopw [7, 8, 10] (fun v q i wr => ∃ (k : Nat) (x : Int) (st : List Lb), k ≤ m ∧ i = .int .i64 k ∧ q = .int .i64 x ∧ -1 ≤ x ∧ x ≤ 16 ∧ Hid (st.length = k) ∧ st.length ≤ 9 ∧ Hid (∀ l ∈ st, LbOk l) ∧ SI w R A len c f (P + 3 + 6 * k) n ls A' g' c' v st wr) (fun _ _ i _ => m - (intOf i).toNat)
    case atStart => exact ⟨0, a, [], Nat.zero_le _, rfl, rfl, ha.1, ha.2, Lib.hid rfl, by simp, Lib.hid (fun l h => by simp at h), SC.out⟩
    case round =>
      obtain ⟨k, x, st, hk, rfl, rfl, hx0, hx1, HST, hs9, HOK, hsi⟩ := hrel
      have S := Lib.hid hsi
      obtain ⟨zg, e0, e1, -, -⟩ := hsi.box.two
      clear hsi SC
      by_cases hlt : k < m
      · obtain ⟨A9, g9, c9, rfl, -, -, -, -⟩ := own_sliceb S.out.row (by have := S.out.box.lt; omega)
        go_upto_region 9 with fail
        go_cut [11] (fun s11 wx => ∃ (L k3 : Nat), s11 = .pointer (some ⟨L, 0, none⟩) ∧ k3 < 11 ∧ w.heap.size < L ∧ (∀ j, (Value.slice A9 st.length c9).ownBlock = some j → j ≠ L) ∧ Box wx L 53 #[.int .i64 1, .int .i64 (k3 : Int)] ∧ SI w R A len c f (P + 3 + 6 * k + 1) n ls A' g' c' (.slice A9 st.length c9) st wx)
        case first =>
          by_cases hn1 : 1 ≤ n
          all_goals
            go_wp2_with fail
            refine (pick_rd R A len c _ _ f _ hlen (by omega) (by omega) (by omega) S.out.rd).mono ?_
            rintro e w3 ⟨k3, rfl, hk3, hR3, hg3, hs3, hb3⟩
            have S3 := Lib.hid (S.out.picked hR3 hg3 hRw hgR)
            have S4 := Lib.hid (S3.out.alloc (.cells #[.int .i64 1, .int .i64 (k3 : Int)] 53))
            have L4 := Lib.hid (Box.new w3 53 #[.int .i64 1, .int .i64 (k3 : Int)])
            have hrl := S3.out.row.lt
            have hwb := S3.out.box.lt
            have HRL := Lib.hid hrl
            clear hR3 hg3 hs3 hb3 S e0 e1 zg hrl
            go_wp2_with fail
            go_meet
            case rel => exact ⟨w3.heap.size, k3, rfl, by omega, hwb, fun j e => by have := (HRL.out j e).2; omega, L4.out, S4.out⟩
        case rest =>
          obtain ⟨L, k3, rfl, hk3, hwL, hLv, hL, hs⟩ := hcut
          have S := Lib.hid hs
          have HL := Lib.hid hL
          have HLV := Lib.hid hLv
          clear zg e0 e1
          obtain ⟨zg, e0, e1, -, -⟩ := hs.box.two
          have zL := hL.lt
          clear hs hL hLv
          go_wp2_with fail
          refine (nb_spec n A' ls c' x _ (by omega) (by omega) S.out.own.sl).mono ?_
          rintro e w4 ⟨A4, g4, c4, rfl, hg4, ho4, hb4⟩
          have hxl : (if gvB n ls = true then nbS x ls 8 else []).length ≤ 8 := by split; exact nbS_len _ _ _; simp
          generalize (if gvB n ls = true then nbS x ls 8 else []) = xs at *
          have S4 := Lib.hid (S.out.call hb4)
          have L4 := Lib.hid (HL.out.below hb4 zL)
          have O4 := Lib.hid ho4
          have hgL : L < g4 := Nat.lt_of_lt_of_le zL hg4
          clear hb4 ho4 hg4 S HL e0 e1 zg zL
          go_upto_region 11 with fail
          go_cut [46] (fun s46 wx => ∃ bl : Bool, s46 = .bool bl ∧ (bl = true → 0 < xs.length) ∧ Box wx L 53 #[.int .i64 1, .int .i64 (k3 : Int)] ∧ Own1i wx A4 g4 xs ∧ SI w R A len c f (P + 3 + 6 * k + 2) n ls A' g' c' (.slice A9 st.length c9) st wx)
          case first =>
            by_cases hx0 : 0 < xs.length
            · go_wp2_with (go_at_call 95; refine (pick_rd R A len c _ 3 f _ hlen (by omega) (by omega) (by omega) S4.out.rd).mono ?_; rintro e w5 ⟨k5, rfl, hk5, hR5, hg5, hs5, hb5⟩; have S5 := Lib.hid (S4.out.picked hR5 hg5 hRw hgR); have L5 := Lib.hid (L4.out.grown hg5 (by omega)); have O5 := Lib.hid (O4.out.grownC hg5 (fun _ => by omega)); clear hR5 hg5 hs5 hb5)
              go_meet
              case rel => exact ⟨_, rfl, fun _ => hx0, L5.out, O5.out, S5.out⟩
            · go_wp2_with fail
              go_meet
              case rel => exact ⟨_, rfl, fun h => absurd h (by simp), L4.out, O4.out, S4.out.mono (by omega)⟩
          case rest =>
            obtain ⟨bl, rfl, hbl, hL, hO, hs⟩ := hcut
            have S := Lib.hid hs
            have HL := Lib.hid hL
            have O4' := Lib.hid hO
            obtain ⟨zg, e0, e1, -, -⟩ := hs.box.two
            have zL := hL.lt
            clear hs hL hO S4 L4 O4
            go_upto_if 46 with fail
            go_cut [] (fun wx => ∃ l : Lb, LbOk l ∧ Box wx L 53 #[.int .i64 l.k, .int .i64 l.a] ∧ SI w R A len c f (P + 3 + 6 * k + 3) n ls A' g' c' (.slice A9 st.length c9) st wx)
            case first =>
              cases bl with
              | false =>
                go_wp2_with fail
                go_meet
                case rel => exact ⟨⟨1, (k3 : Int)⟩, ⟨by dsimp only; omega, by dsimp only; omega, by dsimp only; omega, by dsimp only; omega⟩, HL.out, S.out.mono (by omega)⟩
              | true =>
                have hx0 := hbl rfl
                have hgR4 : g4 ≠ R := by omega
                have hLR : L ≠ R := by omega
                have hGR : w.heap.size ≠ R := by omega
                have hGL : w.heap.size ≠ L := by omega
                have SD := Lib.hid S.out.drew
                go_wp2_with fail
                have hX0 := fun (y : ExtX (fun b => b = R ∨ b = L) wc.drew) => (y.cell w.heap.size 0 zg (by omega)).trans e0
                have hX1 := fun (y : ExtX (fun b => b = R ∨ b = L) wc.drew) => (y.cell w.heap.size 1 zg (by omega)).trans e1
                refine wp_region_stx 12 (fun b => b = R ∨ b = L) (by kernel_rfl) (by kernel_rfl) ?_
                refine stx_seg _ 6 [0, 1, 2, 3, 4, 5] (by kernel_rfl) (by kernel_rfl) (by kernel_rfl) (by kernel_rfl) ?_
                (simp only [List.map_cons, List.map_nil, List.getElem?_cons_zero, List.getElem?_cons_succ, Option.getD_some]); (repeat (go_big_quiet_step (fail))); (refine wpQuiet_nil ?_)
                clear hX0 hX1
                refine stx_one _ 5 6 (by kernel_rfl) (by rfl) (by kernel_rfl) (by rfl) ?_
                go_wp2_with fail
                refine (pick_rd R A len c _ _ f _ hlen (by omega) (by omega) (by omega) SD.out.rd).mono ?_
                rintro e w5 ⟨k5, rfl, hk5, hR5, hg5, hs5, hb5⟩
                refine ⟨⟨hg5.os, hg5.tape, hg5.output, hg5.size, fun k hk hx => hg5.block k hk (fun e => hx (.inl (by cases e; rfl)))⟩, _, fun _ h => h, ?_⟩
                have S5 := Lib.hid (SD.out.picked hR5 hg5 hRw hgR)
                have L5 := Lib.hid (Box.grown (w := wc.drew) HL.out hg5 hLR)
                have O5 := Lib.hid (Own1i.grownC (w := wc.drew) O4'.out hg5 (fun _ => hgR4))
                obtain ⟨y, hy⟩ : ∃ y, xs[k5]? = some y := ⟨_, List.getElem?_eq_getElem (by omega)⟩
                obtain ⟨rfl, zg5, hcy⟩ := O5.out.at hy
                have hX5 := fun (z : ExtX (fun b => b = R ∨ b = L) w5) => (z.cell g4 k5 zg5 (by omega)).trans hcy
                have hkx : k5 < xs.length := by omega
                clear hR5 hg5 hs5 hb5 SD hy
                refine stx_seg _ 3 [7, 8] (by kernel_rfl) (by kernel_rfl) (by kernel_rfl) (by kernel_rfl) ?_
                (simp only [List.map_cons, List.map_nil, List.getElem?_cons_zero, List.getElem?_cons_succ, Option.getD_some]); (repeat (go_big_quiet_step (fail))); (refine wpQuiet_nil ?_)
                clear hX5
                refine stx_one _ 2 9 (by kernel_rfl) (by rfl) (by kernel_rfl) (by rfl) ?_
                go_wp2_with fail
                refine (l1Link_any n A' ls c' x y w5 (by omega) S5.out.own.sl).mono ?_
                rintro e w6 ⟨rfl, hb6⟩
                refine ⟨Kx.of_below hb6, _, fun _ h => h, ?_⟩
                have S6 := Lib.hid (S5.out.call hb6)
                have L6 := Lib.hid (L5.out.below hb6 L5.out.lt)
                have hlb := l1I_bound (min x y) (max x y) ls
                generalize l1I (min x y) (max x y) ls = lx at *
                clear hb6 S5 L5 O5 hcy zg5
                refine stx_one _ 1 10 (by kernel_rfl) (by rfl) (by kernel_rfl) (by rfl) ?_
                go_wp2_with fail
                refine ⟨Kx.refl _ _, _, fun _ h => h, ?_⟩
                obtain ⟨zL6, d0, d1, q0, q1⟩ := L6.out.two
                refine stx_one _ 0 11 (by kernel_rfl) (by rfl) (by kernel_rfl) (by rfl) ?_
                go_wp2_with fail
                refine ⟨((Kx.refl _ _).setCell (p := ⟨L, 0, none⟩) (.inr rfl) _).setCell (p := ⟨L, 1, none⟩) (.inr rfl) _, _, fun _ h => h, ?_⟩
                refine stx_end (by kernel_rfl) ?_
                have S7 := Lib.hid ((S6.out.setL L6.out hwL hRw HLV.out 0 (.int .i64 2)).setL (heap_set L6.out 0 _) hwL hRw HLV.out 1 (.int .i64 lx))
                have L7 := Lib.hid (heap_set (heap_set L6.out 0 (.int .i64 2)) 1 (.int .i64 lx))
                clear d0 d1 q0 q1
                go_wp2_with fail
                go_meet
                case rel => exact ⟨⟨2, lx⟩, ⟨by dsimp only; omega, by dsimp only; omega, by dsimp only; omega, by dsimp only; omega⟩, L7.out, S7.out.mono (by omega)⟩
            case rest =>
              clear S HL O4' zg e0 e1 zL
              obtain ⟨l0, hl0, hL, hs⟩ := hcut
              have S := Lib.hid hs
              have HL := Lib.hid hL
              clear hs hL
              go_wp2_with fail
              refine (pick_rd R A len c _ 30 f _ hlen (by omega) (by omega) (by omega) S.out.rd).mono ?_
              rintro e w8 ⟨k8, rfl, hk8, hR8, hg8, hs8, hb8⟩
              have S8 := Lib.hid (S.out.picked hR8 hg8 hRw hgR)
              have L8 := Lib.hid (HL.out.grown hg8 (by omega))
              clear hR8 hg8 hs8 hb8 S HL
              go_upto_if 60 with fail
              go_cut [] (fun wx => ∃ l : Lb, LbOk l ∧ Box wx L 53 #[.int .i64 l.k, .int .i64 l.a] ∧ SI w R A len c f (P + 3 + 6 * k + 6) n ls A' g' c' (.slice A9 st.length c9) st wx)
              case first =>
                by_cases h8 : k8 = 0
                · subst h8
                  go_wp2_with fail
                  refine (pick_rd R A len c _ 4 f _ hlen (by omega) (by omega) (by omega) S8.out.rd).mono ?_
                  rintro e wa ⟨ka, rfl, hka, hRa, hga, hsa, hba⟩
                  have Sa := Lib.hid (S8.out.picked hRa hga hRw hgR)
                  have La := Lib.hid (L8.out.grown hga (by omega))
                  clear hRa hga hsa hba S8 L8
                  go_wp2_with fail
                  refine (pick_rd R A len c _ 16 f _ hlen (by omega) (by omega) (by omega) Sa.out.rd).mono ?_
                  rintro e wb ⟨kb, rfl, hkb, hRb, hgb, hsb, hbb⟩
                  have Sb := Lib.hid (Sa.out.picked hRb hgb hRw hgR)
                  have Lb := Lib.hid (La.out.grown hgb (by omega))
                  obtain ⟨zLb, d0, d1, q0, q1⟩ := Lb.out.two
                  clear hRb hgb hsb hbb Sa La
                  have Sc := Lib.hid ((Sb.out.setL Lb.out hwL hRw HLV.out 0 (.int .i64 ka)).setL (heap_set Lb.out 0 _) hwL hRw HLV.out 1 (.int .i64 ((kb : Int) - 1)))
                  have Lc := Lib.hid (heap_set (heap_set Lb.out 0 (.int .i64 ka)) 1 (.int .i64 ((kb : Int) - 1)))
                  go_wp2_with fail
                  go_meet
                  case rel => exact ⟨⟨ka, (kb : Int) - 1⟩, ⟨by dsimp only; omega, by dsimp only; omega, by dsimp only; omega, by dsimp only; omega⟩, Lc.out, Sc.out.mono (by omega)⟩
                · have h8' : ((k8 : Int) == 0) = false := by simpa using h8
                  go_wp2_with fail
                  go_meet
                  case rel => exact ⟨l0, hl0, L8.out, S8.out.mono (by omega)⟩
              case rest =>
                clear S8 L8 hl0
                obtain ⟨l, hl, hL, hs⟩ := hcut
                have S := Lib.hid hs
                have HL := Lib.hid hL
                have HLO := Lib.hid hl
                obtain ⟨zL, d0, d1, -, -⟩ := hL.two
                have hbase := hs.box.lt
                clear hs hL hl
                have HN1 : Hid ((st ++ [l]).length = k + 1 ∧ (st ++ [l]).length ≤ 9) := Lib.hid (by have := HST.out; simp; omega)
                have HN2 : Hid (∀ y ∈ st ++ [l], LbOk y) := Lib.hid (fun y hy => by
                  rcases List.mem_append.1 hy with hy | hy
                  · exact HOK.out y hy
                  · simp at hy
                    subst hy
                    exact HLO.out)
                have hmp : P + 3 + 6 * k + 6 ≤ P + 3 + 6 * (k + 1) := by omega
                go_wp2_with (at_builtin; refine wpList_append_own_at _ rfl _ _ 27 rfl (w.heap.size + 1) 53 i0 _ 2 16 Try.underlying27 hi hz0 hz10 hz20 rfl (by decide) _ st.length _ rfl (S.out.row.alloc _) ⟨wc.heap.size, 0, none⟩ 1 1 [.int .i64 l.k, .int .i64 l.a] rfl rfl (new2 _ _ _ _) (one2 _ _) (by unfold maxLen; omega) (by omega) (by simp; omega) ?_; intro v' w10 hown' hgrow hnil hat; have S10 := Lib.hid (S.out.append (l := l) hRw hown' hgrow (fun e => by have := (hnil.1 e).2; omega)); clear hnil; have L10 := Lib.hid (box_row HL.out S.out.row HLV.out hgrow); have e100 : w10.cell? ⟨w.heap.size, 0, none⟩ = some (.int .i64 n) := S10.out.box.cell 0; have e101 : w10.cell? ⟨w.heap.size, 1, none⟩ = some (.slice A' ls.length c') := S10.out.box.cell 1; have z10 := S10.out.box.lt; clear hown' hgrow hat d0 d1 zL S HL)
                refine (valid_spec_any n A' ls c' w10 (by omega) (by omega) S10.out.own.sl).mono ?_
                rintro e w11 ⟨rfl, hb11⟩
                have S11 := Lib.hid (S10.out.call hb11)
                have L11 := Lib.hid (L10.out.below hb11 L10.out.lt)
                have e110 : w11.cell? ⟨w.heap.size, 0, none⟩ = some (.int .i64 n) := S11.out.box.cell 0
                have e111 : w11.cell? ⟨w.heap.size, 1, none⟩ = some (.slice A' ls.length c') := S11.out.box.cell 1
                have z11 := S11.out.box.lt
                clear hb11 S10 L10 e100 e101 z10
                cases hv : gvB n ls with
                | false =>
                  clear hv
                  go_wp2_with fail
                  go_roundw
                  case rel => exact ⟨k + 1, x, st ++ [l], hlt, by go_num, rfl, hx0, hx1, Lib.hid HN1.out.1, HN1.out.2, HN2, S11.out.mono hmp⟩
                  case measure => simp [intOf]; omega
                | true =>
                  obtain ⟨-, hn1, hn8, -⟩ := gvB_fit hv
                  have HV := Lib.hid hv
                  clear hv
                  go_wp2_with fail
                  refine (l1Node_any n _ x w11 hn1 hn8).mono ?_
                  rintro e w12 ⟨rfl, hb12⟩
                  have S12 := Lib.hid (S11.out.call hb12)
                  have L12 := Lib.hid (L11.out.below hb12 L11.out.lt)
                  have e120 : w12.cell? ⟨w.heap.size, 0, none⟩ = some (.int .i64 n) := S12.out.box.cell 0
                  have e121 : w12.cell? ⟨w.heap.size, 1, none⟩ = some (.slice A' ls.length c') := S12.out.box.cell 1
                  have z12 := S12.out.box.lt
                  have d120 : w12.cell? ⟨L, 0, none⟩ = some (.int .i64 l.k) := L12.out.cell 0
                  have d121 : w12.cell? ⟨L, 1, none⟩ = some (.int .i64 l.a) := L12.out.cell 1
                  have zL12 := L12.out.lt
                  clear hb12 S11 L11 e110 e111 z11
                  by_cases hx : 0 ≤ x ∧ x < n
                  · have hin : inB x 0 (n - 1) = true := by unfold inB; simp; omega
                    rw [hin]
                    obtain ⟨q, rfl⟩ : ∃ q : Nat, n = (q : Int) := ⟨n.toNat, by omega⟩
                    have C4 := l4step_any q A' ls c' x l w12 HV.out hx S12.out.own.sl
                    have HSN : Hid (∀ z, stepO (q : Int) ls x l = some z → 0 ≤ z ∧ z < (q : Int)) := Lib.hid (fun z h => stepO_node HV.out hx h)
                    obtain ⟨lk, la⟩ := l
                    dsimp only at d120 d121
                    generalize stepO (q : Int) ls x ⟨lk, la⟩ = o at *
                    clear hin
                    go_wp2_with fail
                    refine C4.mono ?_
                    clear C4
                    rintro e w13 ⟨rfl, hb13⟩
                    have S13 := Lib.hid (S12.out.call hb13)
                    clear hb13 S12 L12 e120 e121 z12 d120 d121 zL12
                    unfold stepV
                    cases o with
                    | none =>
                      go_wp2_with fail
                      go_roundw
                      case rel => exact ⟨k + 1, x, st ++ [⟨lk, la⟩], hlt, by go_num, rfl, hx0, hx1, Lib.hid HN1.out.1, HN1.out.2, HN2, S13.out.mono hmp⟩
                      case measure => simp [intOf]; omega
                    | some z =>
                      have hz := HSN.out z rfl
                      go_wp2_with fail
                      go_roundw
                      case rel => exact ⟨k + 1, z, st ++ [⟨lk, la⟩], hlt, by go_num, rfl, by omega, by omega, Lib.hid HN1.out.1, HN1.out.2, HN2, S13.out.mono hmp⟩
                      case measure => simp [intOf]; omega
                  · have hin : inB x 0 (n - 1) = false := by unfold inB; simp; omega
                    rw [hin]
                    clear hin
                    go_wp2_with fail
                    go_roundw
                    case rel => exact ⟨k + 1, x, st ++ [l], hlt, by go_num, rfl, hx0, hx1, Lib.hid HN1.out.1, HN1.out.2, HN2, S12.out.mono hmp⟩
                    case measure => simp [intOf]; omega
      · obtain rfl : k = m := by omega
        obtain ⟨A9, g9, c9, rfl, -, -, -, -⟩ := own_sliceb S.out.row (by have := S.out.box.lt; omega)
        go_wp2_with fail
        go_ret
        exact ⟨st, A9, c9, rfl, by omega, HOK.out, S.out.row, S.out.rd.mono (by omega), S.out.gr, S.out.box.lt, fun e => by
          subst e
          rcases S.out.row.2 with ⟨h, _⟩ | ⟨g, cap, cur, h, _⟩
          · exact S.out.nn h
          · injection h with h; cases h⟩

end Go.Proofs.Ytenlofomkchlaac

/-
  Contracts over this seat: what the laws of stacks draw.
-/
namespace Go.Proofs.Ytenlofomkchlaac
open Go.RowKit Go.Maps

theorem Ownb.set_far {w : World} {A : Option Addr} {g : Nat} {ls : List Lb} (h : Ownb w A g ls) {p : Addr} (hp : g ≠ p.block) (u : Value) : Ownb (w.setCell p u) A g ls := fun hl => by
  obtain ⟨e, cs, hh, hc⟩ := h hl
  exact ⟨e, cs, (Below.heap_setCell w p u g hp).trans hh, hc⟩

theorem own_some {w : World} {base cx : Nat} {Ax : Option Addr} {ls : List Lb} (h : w.ownsRow base 53 2 (.slice Ax ls.length cx) ls.length (flatB ls)) (hn : Ax ≠ none) :
    ∃ g, Ax = some ⟨g, 0, none⟩ ∧ base ≤ g ∧ g < w.heap.size ∧ Ownb w (some ⟨g, 0, none⟩) g ls ∧ ls.length ≤ cx := by
  rcases h.2 with ⟨h0, _⟩ | ⟨g, cap, cur, h0, hbg, hh, hl, _, hs, ht⟩
  · injection h0 with h0
    exact absurd h0 hn
  · injection h0 with h1 h2 h3
    subst h1 h3
    refine ⟨g, rfl, hbg, heap_lt hh, fun _ => ⟨rfl, cur, hh, fun k l hl => ?_⟩, hl⟩
    have hk : k < ls.length := (List.getElem?_eq_some_iff.1 hl).1
    obtain ⟨h1, h2⟩ := flatB_at ls k l hl
    rw [← ht] at h1 h2
    rw [List.getElem?_take_of_lt (by omega), Array.getElem?_toList] at h1 h2
    exact ⟨h1, h2⟩

/-- What a law of stacks is drawn. -/
def DStk (w : World) (e : Ending) (w' : World) : Prop :=
  ∃ (n : Int) (ls : List Lk) (A' : Option Addr) (g' c' : Nat) (x : Int) (st : List Lb) (Ax : Option Addr) (gx cx : Nat), e = .returned (.tuple #[gval n A' ls.length c', .int .i64 x, .slice Ax st.length cx]) ∧ DG w n ls A' g' w' ∧ -1 ≤ x ∧ x ≤ 10 ∧
    st.length ≤ 9 ∧ (∀ l ∈ st, LbOk l) ∧ Ownb w' Ax gx st ∧ w.heap.size ≤ gx ∧ st.length ≤ cx ∧ Ax = some ⟨gx, 0, none⟩ ∧ gx < w'.heap.size

set_option maxRecDepth 100000 in
set_option maxHeartbeats 1600000 in
theorem drawStackEnd_any (A : Option Addr) (len c : Nat) (f : Nat → Int) (w : World) (hlc : len ≤ c) (hc : c ≤ maxLen) (hB : Byt w w.heap.size A len f) :
   Calls Try.prog 58 #[.slice A len c] w (DStk w) := by
  have HB := Lib.hid (hB.alloc (.cells #[.int .i64 0, .slice none 0 0] 32))
  have HQ := Lib.hid (Box.new w 32 #[.int .i64 0, .slice none 0 0])
  clear hB
  go_enter Try.func58, Try.ntmps58
  go_wp2_with fail
  refine (open_any A len c f _ hlc hc HB.out).mono ?_
  rintro e w1 ⟨l1, hl1, rfl, hr1, hb1, hs1⟩
  rw [World.size_alloc] at hr1 hb1 hs1
  have H1 := Lib.hid hr1
  have B1 := Lib.hid (Below.trans (B := w.heap.size) (a := w) (by (repeat (first | exact Below.refl _ _ | (refine Below.alloc ?_ (by first | exact Nat.le_refl _ | omega | (simp; done) | (simp; omega)) _) | (refine Below.setCell ?_ (by first | exact Nat.le_refl _ | omega | (simp; done) | (simp; omega)) _) | exact Below.drew ‹_›))) (hb1.mono (by omega)))
  have Q1 := Lib.hid (HQ.out.below hb1 (by omega))
  clear hr1 hb1 HQ HB
  have hq := World.size_alloc w (.cells #[.int .i64 0, .slice none 0 0] 32)
  rw [hq]
  go_wp2_with fail
  refine (spoilt_any _ A l1 c 0 f w1 hl1 (by omega) H1.out).mono ?_
  rintro e w2 ⟨n, ls, A2, g2, c2, rfl, hn0, hn1, hls, hg2, ho2, hr2, hb2, -⟩
  have D2 := Lib.hid (show DI w (w.heap.size + 1) w.heap.size w2.heap.size A l1 c f (0 + 1010) n ls A2 g2 c2 (w2.alloc (.cells #[.int .i64 n, .slice A2 ls.length c2] 32)) from
    ⟨hr2.alloc _, (Q1.out.grown hb2 (by omega)).alloc _, Box.new w2 _ _, ho2.alloc _, (B1.out.grown hb2 (by omega) (fun k e => by injection e with e; omega)).alloc (by have := hb2.size; omega) _,
      by omega, by omega, by omega, by omega, by have := hb2.size; omega, by omega, by have := hb2.size; omega⟩)
  have hgR : g2 ≠ w.heap.size + 1 := by omega
  have hG0 : w.heap.size + 1 < w2.heap.size := by have := hb2.size; omega
  clear hr2 hb2 ho2 H1 B1 Q1 hg2
  generalize hG : w2.heap.size = G at *
  go_wp2_with fail
  refine (node_any _ A l1 c _ f n A2 ls.length c2 _ hl1 (by omega) hn0 hn1 D2.out.1).mono ?_
  rintro e w3 ⟨x, rfl, hx0, hx1, hr3, hb3⟩
  have D3 := Lib.hid (D2.out.node hr3 hb3)
  clear hr3 hb3 D2 hG
  obtain ⟨zg, d0, d1, p0, p1⟩ := D3.out.2.2.1.two
  have zq := D3.out.2.1.lt
  have D4 := Lib.hid D3.out.drew
  have hGR : G ≠ w.heap.size + 1 := by omega
  have hGQ : G ≠ w.heap.size := by omega
  clear D3
  go_wp2_with fail
  have hX0 := fun (y : ExtX (fun b => b = w.heap.size + 1 ∨ b = w.heap.size) w3.drew) => (y.cell G 0 zg (by omega)).trans d0
  have hX1 := fun (y : ExtX (fun b => b = w.heap.size + 1 ∨ b = w.heap.size) w3.drew) => (y.cell G 1 zg (by omega)).trans d1
  refine wp_region_stx 9 (fun b => b = w.heap.size + 1 ∨ b = w.heap.size) (by kernel_rfl) (by kernel_rfl) ?_
  refine stx_seg _ 4 [0, 1, 2, 3, 4] (by kernel_rfl) (by kernel_rfl) (by kernel_rfl) (by kernel_rfl) ?_
  (simp only [List.map_cons, List.map_nil, List.getElem?_cons_zero, List.getElem?_cons_succ, Option.getD_some]); (repeat (go_big_quiet_step (fail))); (refine wpQuiet_nil ?_)
  clear hX0 hX1 d0 d1 p0 p1
  refine stx_one _ 3 5 (by kernel_rfl) (by rfl) (by kernel_rfl) (by rfl) ?_
  go_wp2_with fail
  refine (stackd_any _ A l1 c _ f n ls A2 g2 c2 x _ hl1 (by omega) hn0 hn1 hls ⟨hx0, by omega⟩ D4.out.1 D4.out.2.2.2.1 hgR).mono ?_
  rintro e w5 ⟨st, Ax, cx, rfl, hs9, hok, hrow, hr5, hg5, hsz, hne⟩
  refine ⟨⟨hg5.os, hg5.tape, hg5.output, hg5.size, fun k hk hx => hg5.block k hk (fun e => hx (.inl (by cases e; rfl)))⟩, _, fun _ h => h, ?_⟩
  have D5 := Lib.hid (D4.out.node hr5 hg5)
  obtain ⟨g9, rfl, hg9, hg9l, ho9, hc9⟩ := own_some hrow hne
  have hg10 : w3.heap.size + 1 ≤ g9 := hg9
  have HOK := Lib.hid hok
  have HO := Lib.hid ho9
  clear hr5 hg5 hrow ho9 hok D4
  obtain ⟨zq5, e0, e1, q0, q1⟩ := D5.out.2.1.two
  refine stx_one _ 2 6 (by kernel_rfl) (by rfl) (by kernel_rfl) (by rfl) ?_
  go_wp2_with fail
  refine ⟨((Kx.refl _ _).setCell (p := ⟨w.heap.size, 0, none⟩) (.inr rfl) _).setCell (p := ⟨w.heap.size, 1, none⟩) (.inr rfl) _, _, fun _ h => h, ?_⟩
  refine stx_seg _ 0 [7, 8] (by kernel_rfl) (by kernel_rfl) (by kernel_rfl) (by kernel_rfl) ?_
  (simp only [List.map_cons, List.map_nil, List.getElem?_cons_zero, List.getElem?_cons_succ, Option.getD_some]); (repeat (go_big_quiet_step (fail))); (refine wpQuiet_nil ?_)
  refine stx_end (by kernel_rfl) ?_
  go_wp2_with fail
  obtain ⟨b2, r0, r1⟩ := ret_two D5.out.2.1 (.int .i64 n) (.slice A2 ls.length c2)
  refine bodyPost_ret (v := .tuple #[gval n A2 ls.length c2, .int .i64 x, .slice (some ⟨g9, 0, none⟩) st.length cx]) (by simp [results, Try.results58, go_sem, r0, r1]) rfl ?_
  exact ⟨n, ls, A2, g2, c2, x, st, some ⟨g9, 0, none⟩, g9, cx, rfl, D5.out.dg hn0 hn1 hls _ _, hx0, hx1, hs9, HOK.out, (HO.out.set_far (by show g9 ≠ w.heap.size; omega) _).set_far (by show g9 ≠ w.heap.size; omega) _, by omega, hc9, rfl, by simpa using hg9l⟩



set_option maxRecDepth 100000 in
theorem drawStackUnique_any (A : Option Addr) (len c : Nat) (f : Nat → Int) (w : World) (hlc : len ≤ c) (hc : c ≤ maxLen) (hB : Byt w w.heap.size A len f) :
   Calls Try.prog 32 #[.slice A len c] w (DStk w) := by
  have HB := Lib.hid (hB.alloc (.cells #[.int .i64 0, .slice none 0 0] 32))
  have HQ := Lib.hid (Box.new w 32 #[.int .i64 0, .slice none 0 0])
  clear hB
  go_enter Try.func32, Try.ntmps32
  go_wp2_with fail
  refine (drawStackEnd_any A len c f _ hlc hc HB.out).mono ?_
  rintro e w1 ⟨n, ls, A2, g2, c2, x, st, _, gx, cx, rfl, ⟨hn0, hn1, hls, hg2, ho2, hb2⟩, hx0, hx1, hs9, hok, hox, hgx, hcx, rfl, hgl⟩
  rw [World.size_alloc] at hg2 hb2 hgx
  have Q1 := HQ.out.below hb2 (by omega)
  have B1 := Lib.hid (Below.trans (B := w.heap.size) (a := w) (by (repeat (first | exact Below.refl _ _ | (refine Below.alloc ?_ (by first | exact Nat.le_refl _ | omega | (simp; done) | (simp; omega)) _) | (refine Below.setCell ?_ (by first | exact Nat.le_refl _ | omega | (simp; done) | (simp; omega)) _) | exact Below.drew ‹_›))) (hb2.mono (by omega)))
  have O1 := Lib.hid ho2
  have OX := Lib.hid hox
  have HOK := Lib.hid hok
  clear HQ HB hb2 ho2 hox hok
  obtain ⟨zq, e0, e1, q0, q1⟩ := Q1.two
  go_wp2_with fail
  obtain ⟨b2, r0, r1⟩ := ret_two Q1 (.int .i64 n) (.slice A2 ls.length c2)
  refine bodyPost_ret (v := .tuple #[gval n A2 ls.length c2, .int .i64 x, .slice (some ⟨gx, 0, none⟩) st.length cx]) (by simp [results, Try.results32, go_sem, r0, r1]) rfl ?_
  exact ⟨n, ls, A2, g2, c2, x, st, _, gx, cx, rfl, ⟨hn0, hn1, hls, by omega, (O1.out.set_box Q1 (by decide) 0 _).set_box (heap_set Q1 0 _) (by decide) 1 _, (B1.out.setCell (p := ⟨w.heap.size, 0, none⟩) (Nat.le_refl _) _).setCell (p := ⟨w.heap.size, 1, none⟩) (Nat.le_refl _) _⟩, hx0, hx1, hs9, HOK.out, (OX.out.set_far (by show gx ≠ w.heap.size; omega) _).set_far (by show gx ≠ w.heap.size; omega) _, by omega, hcx, rfl, by simpa using hgl⟩

end Go.Proofs.Ytenlofomkchlaac

/-
  The state of a law of stacks, and plain facts that the laws ask for.
-/
namespace Go.Proofs.Ytenlofomkchlaac
open Go.RowKit Go.Maps

/-- The state of a law over a drawn graph and drawn labels. -/
def LC (w : World) (G : Nat) (n : Int) (ls : List Lk) (A' : Option Addr) (g' c' : Nat) (Ax : Option Addr) (gx : Nat) (st : List Lb) (wx : World) : Prop := LB w G n ls A' g' c' wx ∧ Ownb wx Ax gx st
section
variable {w w1 w2 : World} {G : Nat} {n : Int} {ls : List Lk} {A' : Option Addr} {g' c' : Nat} {Ax : Option Addr} {gx : Nat} {st : List Lb}
theorem LC.call (h : LC w G n ls A' g' c' Ax gx st w1) (hb : Below w1.heap.size w1 w2) : LC w G n ls A' g' c' Ax gx st w2 := ⟨h.1.call hb, h.2.below hb⟩
theorem LC.alloc (h : LC w G n ls A' g' c' Ax gx st w1) (o : Obj) : LC w G n ls A' g' c' Ax gx st (w1.alloc o) := ⟨h.1.alloc o, h.2.alloc o⟩
theorem LC.drew (h : LC w G n ls A' g' c' Ax gx st w1) : LC w G n ls A' g' c' Ax gx st w1.drew := ⟨h.1.drew, h.2⟩
theorem LC.sl (h : LC w G n ls A' g' c' Ax gx st w1) : Sl w1 w1.heap.size A' ls := h.1.2.1.sl
theorem LC.slb (h : LC w G n ls A' g' c' Ax gx st w1) : Slb w1 w1.heap.size Ax st := h.2.slb
theorem LC.lab (h : LC w G n ls A' g' c' Ax gx st w1) {k : Nat} {l : Lb} (hk : st[k]? = some l) :
    Ax = some ⟨gx, 0, none⟩ ∧ gx < w1.heap.size ∧ w1.cell? ⟨gx, k * 2, none⟩ = some (.int .i64 l.k) ∧ w1.cell? ⟨gx, k * 2 + 1, none⟩ = some (.int .i64 l.a) := by
  have hlt := (List.getElem?_eq_some_iff.1 hk).1
  obtain ⟨e, ha⟩ := h.2 (by omega)
  obtain ⟨cs, hh, hc⟩ := ha
  obtain ⟨h1, h2⟩ := hc k l hk
  exact ⟨e, heap_lt hh, by rw [cell_of_row w1 gx _ cs _ _ hh]; exact h1, by rw [cell_of_row w1 gx _ cs _ _ hh]; exact h2⟩
end

theorem end_nil {n : Int} {ls : List Lk} {x z : Int} (h : endI n ls x [] = some z) : x = z := by
  obtain ⟨m, z', rfl, _, _, _, he, hi⟩ := endI_inv (by rw [h]; rfl)
  rw [hi] at h; cases h
  simpa [endO] using he
theorem end_last {n : Int} {ls : List Lk} {x z : Int} {st : List Lb} (h : endI n ls x st = some z) {q : Nat} {l : Lb} (hl : st[q]? = some l) (hq : st.length = q + 1) :
    (l.k = 1 ∧ z = l.a) ∨ (l.k = 2 ∧ ∃ (j : Nat) (y : Lk), l.a = (j : Int) ∧ ls[j]? = some y ∧ (z = y.a ∨ z = y.b)) := by
  obtain ⟨m, z', rfl, hg, hs, _, he, hi⟩ := endI_inv (by rw [h]; rfl)
  rw [hi] at h; cases h
  obtain ⟨u, hu⟩ := endO_upto he q
  have hn := endO_next hu hl
  rw [show st.take (q + 1) = st by rw [← hq, List.take_length], he] at hn
  have hun := endO_node hg hs hu
  have hne := stepO_leg hn.symm
  rcases leg_kind hne with hk | hk
  · obtain ⟨z', h1, _, _, _, _, _, h7⟩ := leg_fact hg hun hne
    rw [← hn] at h1
    cases h1
    exact .inl ⟨hk, (h7 hk).1⟩
  · obtain ⟨j, y, ha, hy, ht, e⟩ := leg_link hk hne
    refine .inr ⟨hk, j, y, ha, hy, ?_⟩
    have h3 : stepO (m : Int) ls u l = some (acrossI y u) := by unfold stepO; rw [e]; rfl
    rw [h3] at hn
    cases hn
    unfold acrossI
    split
    · exact .inr rfl
    · exact .inl rfl
theorem pathS_facts {n : Int} {ls : List Lk} {x : Int} {st : List Lb} (h : 0 < (pathS n ls x st).length) :
    ∃ (m : Nat) (z : Int), n = (m : Int) ∧ gvB (m : Int) ls = true ∧ endI (m : Int) ls x st = some z ∧ (pathS n ls x st)[0]? = some x ∧ (pathS n ls x st)[(pathS n ls x st).length - 1]? = some z ∧ Way ls (pathS n ls x st) := by
  cases hs : (endI n ls x st).isSome with
  | false => rw [pathS_none hs] at h; simp at h
  | true =>
    obtain ⟨m, z, rfl, hg, _, _, _, hi⟩ := endI_inv hs
    exact ⟨m, z, rfl, hg, hi, by rw [pathS_some hs]; rfl, (pathS_end hi).1, pathS_way⟩
theorem cost_sign (n : Int) (ls : List Lk) (x : Int) (st : List Lb) : ((endI n ls x st).isSome = true → 0 ≤ costS n ls x st) ∧ (endI n ls x st = none → costS n ls x st = -1) := by
  refine ⟨fun h => ?_, fun h => costS_none (by rw [h]; rfl)⟩
  obtain ⟨m, z, rfl, hg, _⟩ := endI_inv h
  rw [costS_some h]
  exact (along_bound hg pathS_way).1

end Go.Proofs.Ytenlofomkchlaac
