/-
  Contracts over this seat: the draw of a number of nodes and announcements.
-/
import Derived.Test.YtnkohgdfipgdoabCl
import Derived.Test.YtnkohgdfipgdoabA4
import Derived.Test.YtnkohgdfipgdoabB1
namespace Go.Proofs.Ytnkohgdfipgdoab
open Go.RowKit Go.Maps

section
variable {w w1 w2 : World} {R : Nat} {A : Option Addr} {len c : Nat} {f : Nat → Int} {P P' : Nat} {vz : Value} {zs : List Lz} {B G : Nat} {o : Int} {v v' : Value} {out : List Lb}
/-- What comes later keeps the list, where all of it lies below B. -/
theorem ZL.far (h : ZL w R A len c f P vz zs w1) (hb : Below B w1 w2) (hw : w.heap.size ≤ B) (hR : R < B) (hv : ∀ j, vz.ownBlock = some j → j < B) (hz : ∀ z ∈ zs, 0 < z.es.length → z.g < B) : ZL w R A len c f P vz zs w2 := by
  obtain ⟨h1, ⟨hrow, hinn, hdis⟩, h3⟩ := h
  refine ⟨h1.below (hb.mono hR), ⟨?_, fun z hzm => ?_, hdis⟩, ⟨hb.os.trans h3.os, hb.tape.trans h3.tape, hb.output.trans h3.output, Nat.le_trans h3.size hb.size, fun k hk hne => (hb.block k (by omega)).trans (h3.block k hk hne)⟩⟩
  · obtain ⟨h6, h7⟩ := hrow
    refine ⟨h6, ?_⟩
    rcases h7 with h7 | ⟨g, cap, cur, rfl, hbg, hh, r⟩
    · exact .inl h7
    · exact .inr ⟨g, cap, cur, rfl, hbg, (hb.block g (hv g rfl)).trans hh, r⟩
  · obtain ⟨h6, h7, h8⟩ := hinn z hzm
    refine ⟨fun hp => ?_, h7, h8⟩
    obtain ⟨e, cs, hh, hc⟩ := h6 hp
    exact ⟨e, cs, (hb.block _ (hz z hzm hp)).trans hh, hc⟩
/-- The list grows by an announcement. -/
theorem ZL.appendZ {z : Lz} {W' : World} {ob : Obj} (h : ZL w R A len c f P vz zs w1) (ho : Owne w1 z.A z.g z.es) (hzg : w.heap.size ≤ z.g) (hzc : z.es.length ≤ z.c) (hd : ∀ x ∈ zs, 0 < x.es.length → 0 < z.es.length → x.g ≠ z.g) (hRw : R < w.heap.size)
    (hown : W'.ownsRow w.heap.size 54 3 v' (zs.length + 1) (flatZ zs ++ [.int .i64 z.o, .int .i64 z.q, .slice z.A z.es.length z.c])) (hg : (w1.alloc ob).grownBy W' vz.ownBlock) : ZL w R A len c f P v' (zs ++ [z]) W' := by
  obtain ⟨h1, h2, h3⟩ := h
  have hl := h2.row.lt
  exact ⟨h1.below (((Below.refl (R + 1) w1).alloc h1.lt _).grown hg (by have := h1.lt; simp; omega) (fun j e => by have := (hl j e).1; omega)), h2.append ⟨ho, hzg, hzc⟩ hd hown hg, grown_far (grown_alloc h3 _) hg (fun j e => (hl j e).1)⟩
/-- A full announcement under way: the list, its box, its neighbours. -/
structure ZF (w : World) (R : Nat) (A : Option Addr) (len c : Nat) (f : Nat → Int) (P : Nat) (vz : Value) (zs : List Lz) (B G : Nat) (o : Int) (v : Value) (out : List Lb) (W : World) : Prop where
  zl : ZL w R A len c f P vz zs W
  box : Box W G 54 #[.int .i64 o, .int .i64 1, v]
  row : W.ownsRow B 56 2 v out.length (flatB out)
theorem ZF.picked (h : ZF w R A len c f P vz zs B G o v out w1) (hr : RD R A len c f P' w2) (hg : w1.grownBy w2 (some R)) (hRw : R < w.heap.size) (hG : G ≠ R) : ZF w R A len c f P' vz zs B G o v out w2 := by
  obtain ⟨cs, hx⟩ := h.zl.rd.box
  exact ⟨h.zl.picked hr hg hRw, h.box.grown hg hG, owns_picked h.row hx (by decide) hg⟩
theorem ZF.mono (h : ZF w R A len c f P vz zs B G o v out w1) (hP : P ≤ P') : ZF w R A len c f P' vz zs B G o v out w1 := ⟨h.zl.mono hP, h.box, h.row⟩
/-- Behind an append onto the neighbours, ahead of the store of the new slice. -/
theorem ZF.grown (h : ZF w R A len c f P vz zs B G o v out w1) (hw : w.heap.size ≤ B) (hR : R < B) (hBG : B ≤ G) (hv : ∀ j, vz.ownBlock = some j → j < B) (hz : ∀ z ∈ zs, 0 < z.es.length → z.g < B) {l : Lb} {ob : Obj}
    (hown : w2.ownsRow B 56 2 v' (out.length + 1) (flatB out ++ [.int .i64 l.k, .int .i64 l.a])) (hg : (w1.alloc ob).grownBy w2 v.ownBlock) (hB1 : B ≤ w1.heap.size) :
    Box w2 G 54 #[.int .i64 o, .int .i64 1, v] ∧ ZF w R A len c f P vz zs B G o v' (out ++ [l]) (w2.setCell ⟨G, 2, none⟩ v') := by
  have hl := h.row.lt
  have b2 : Box w2 G 54 #[.int .i64 o, .int .i64 1, v] := (hg.block _ (by have := h.box.lt; simp; omega) (fun e => own_box_ne h.row h.box (by decide) e.symm)).trans (h.box.alloc ob)
  have hb : Below B w1 (w2.setCell ⟨G, 2, none⟩ v') := ((((Below.refl B w1).alloc hB1 ob).grown hg (by simp; omega) (fun j e => (hl j e).1)).setCell (p := ⟨G, 2, none⟩) hBG _)
  refine ⟨b2, h.zl.far hb hw hR hv hz, heap_set b2 2 v', ?_⟩
  have hk := hown.kept (grown_set (World.grownBy.refl w2 (some G)) 2 v') (.inr (own_box_ne hown b2 (by decide)))
  rw [flatB_append, List.length_append]
  exact hk
end
/-- A drawn number of nodes and drawn announcements. -/
def GrX (w : World) (e : Ending) (w' : World) : Prop := ∃ (n : Int) (zs : List Lz) (A : Option Addr) (c : Nat), e = .returned (.tuple #[.int .i64 n, .slice A zs.length c]) ∧ 0 ≤ n ∧ n ≤ 10 ∧ zs.length ≤ 10 ∧ (∀ z ∈ zs, z.es.length ≤ 10) ∧
  Slz w' w'.heap.size A zs ∧ Below w.heap.size w w' ∧ zs.length ≤ c

set_option maxRecDepth 100000 in
set_option maxHeartbeats 8000000 in
theorem drawDbGraph_any (A : Option Addr) (len c : Nat) (f : Nat → Int) (w : World) (hlc : len ≤ c) (hc : c ≤ maxLen) (hB : Byt w w.heap.size A len f) :
   Calls Try.prog 21 #[.slice A len c] w (GrX w) := by
  obtain ⟨i0, hi, hz0, hz10, hz20⟩ := info_parts infoLsa
  obtain ⟨j0, hj, jz0, jz10, jz20⟩ := info_parts infoEnd
  have HB := Lib.hid hB
  clear hB
  go_enter Try.func21, Try.ntmps21
  go_wp2_with fail
  refine (open_any A len c f _ hlc hc HB.out).mono ?_
  rintro e w1 ⟨l1, hl1, rfl, hr1, hb1, hs1⟩
  have H1 := Lib.hid hr1
  have B1 := Lib.hid hb1
  have hz1 : w.heap.size < w1.heap.size := by omega
  clear hr1 hb1 HB hs1
  go_wp2_with fail
  refine (drawG_any _ A l1 c 0 f w1 hl1 (by omega) H1.out).mono ?_
  rintro e w2 ⟨n, ls, Ag, cg, rfl, hn0, hn10, hls, how, hr2, hb2⟩
  obtain ⟨A', gg, c', he, hgg, -, hog⟩ := own_slice how hb2.size
  cases he
  have hbn := hb2.size
  have hBb := B1.out.grown hb2 (by omega) (fun k e => by injection e with e; omega)
  have R3 := Lib.hid (hr2.alloc (.cells #[.int .i64 n, .slice Ag ls.length cg] 48))
  have X3 := Lib.hid (Box.new w2 48 #[.int .i64 n, .slice Ag ls.length cg])
  have O3 := Lib.hid (hog.alloc (.cells #[.int .i64 n, .slice Ag ls.length cg] 48))
  have B3 := Lib.hid (hBb.alloc hBb.size (.cells #[.int .i64 n, .slice Ag ls.length cg] 48))
  have hsz := World.size_alloc w2 (.cells #[.int .i64 n, .slice Ag ls.length cg] 48)
  have hgR : 0 < ls.length → gg ≠ w.heap.size := fun _ => by omega
  have HGR := Lib.hid hgR
  obtain ⟨zX, e0, e1, -, -⟩ := X3.out.two
  clear how hog hBb hr2 hb2 H1 B1 hgR
  go_wp2_with fail
  generalize w2.heap.size = G0 at *
  generalize w2.alloc (.cells #[.int .i64 n, .slice Ag ls.length cg] 48) = w3 at *
  have hw3 : w.heap.size < w3.heap.size := by omega
  refine (pick_rd _ A l1 c _ 16 f _ hl1 (by omega) (by omega) (by omega) R3.out).mono ?_
  rintro e w4 ⟨k4, rfl, hk4, hR4, hg4, hs4, -⟩
  have R4 := Lib.hid hR4
  have X4 := Lib.hid (X3.out.grown hg4 (by omega))
  have O4 := Lib.hid (show Own1 w4 Ag gg ls from fun hp => by
    obtain ⟨e, cs, hh, hcc⟩ := O3.out hp
    exact ⟨e, cs, (hg4.block gg (heap_lt hh) (fun e => HGR.out hp (Option.some.inj e))).trans hh, hcc⟩)
  have B4 := Lib.hid (B3.out.grown hg4 B3.out.size (fun k e => by injection e with e; omega))
  have hw4 : w.heap.size < w4.heap.size := by omega
  clear hR4 hg4 hs4 R3 X3 O3 B3 zX e0 e1 hsz
  obtain ⟨m, rfl⟩ : ∃ m : Nat, n = (m : Int) := ⟨n.toNat, by omega⟩
  have hm10 : m ≤ 10 := by omega
  clear hn0 hn10
  by_cases h0 : k4 = 0
  · subst h0
    go_wp2_with fail
    refine (pick_rd _ A l1 c _ 10 f _ hl1 (by omega) (by omega) (by omega) R4.out).mono ?_
    rintro e w5 ⟨k5, rfl, hk5, hR5, hg5, hs5, -⟩
    have R5 := Lib.hid hR5
    have X5 := Lib.hid (X4.out.grown hg5 (by omega))
    have O5 := Lib.hid (show Own1 w5 Ag gg ls from fun hp => by
      obtain ⟨e, cs, hh, hcc⟩ := O4.out hp
      exact ⟨e, cs, (hg5.block gg (heap_lt hh) (fun e => HGR.out hp (Option.some.inj e))).trans hh, hcc⟩)
    have B5 := Lib.hid (B4.out.grown hg5 B4.out.size (fun k e => by injection e with e; omega))
    clear hR5 hg5 hs5 R4 X4 O4 B4
    obtain ⟨zX, e0, e1, -, -⟩ := X5.out.two
    go_wp2_with fail
    refine (l91close_any w.heap.size A l1 c _ f m Ag gg cg ls w5 hl1 (by omega) hm10 (by omega) R5.out O5.out HGR.out).mono ?_
    rintro e w6 ⟨zs, Az, cz, rfl, hzl, hze, hzi, hr6, hg6⟩
    have B6 := Lib.hid (B5.out.grown hg6 B5.out.size (fun k e => by injection e with e; omega))
    have hs6 := hg6.size
    have hsz6 := hzi.slz (by omega)
    have hcc : zs.length ≤ cz := by
      obtain ⟨A', g', c', e, -, -, h, -, -⟩ := own_slicez hzi.row (by omega)
      cases e
      exact h
    go_wp2_with fail
    go_returns
    exact ⟨(k5 : Int), zs, Az, cz, rfl, by omega, by omega, hzl, hze, hsz6, B6.out, hcc⟩
  · by_cases h1 : k4 = 1
    · subst h1
      go_wp2_with fail
      refine (l91db_any _ A l1 c _ f w4 hl1 (by omega) R4.out).mono ?_
      rintro e w5 ⟨zs, Az, cz, rfl, hl9, hok, hzi, hr5, hg5⟩
      have hze : ∀ z ∈ zs, z.es.length ≤ 10 := fun z hz => by have := (hok z hz).2.2.2.2.1; dsimp only at this; omega
      have B5 := Lib.hid (B4.out.grown hg5 B4.out.size (fun k e => by injection e with e; omega))
      have hs5 := hg5.size
      have hsz5 := hzi.slz (by omega)
      have hcc : zs.length ≤ cz := by
        obtain ⟨A', g', c', e, -, -, h, -, -⟩ := own_slicez hzi.row (by omega)
        cases e
        exact h
      go_wp2_with fail
      go_returns
      exact ⟨6, zs, Az, cz, rfl, by omega, by omega, by omega, hze, hsz5, B5.out, hcc⟩
    · by_cases h2 : k4 = 2
      · subst h2
        have S0 := Lib.hid (show ZL w4 w.heap.size A l1 c f (0 + 1000 + 1) (.slice (some ⟨w4.heap.size, 0, none⟩) 0 0) [] (w4.alloc (.cells #[] 54)) from ⟨R4.out.alloc _, ZI.start _ w4 (Nat.le_refl _), World.grownBy_alloc w4 _ _⟩)
        have B4' := B4
        clear X4 O4 R4 B4 h0 h1
        go_wp2_with fail
        go_loopw [8, 7] (fun i v wr => ∃ (a : Nat) (zs : List Lz), a ≤ 6 ∧ i = .int .i64 (a : Int) ∧ zs.length ≤ a ∧ Hid (∀ z ∈ zs, z.es.length ≤ 10) ∧ Hid (ZL w4 w.heap.size A l1 c f (0 + 1000 + 1 + 10 * a) v zs wr)) (fun i _ _ => 6 - (intOf i).toNat)
        case atStart => exact ⟨0, [], by omega, rfl, Nat.le_refl _, Lib.hid (fun z hz => by cases hz), S0⟩
        case round =>
          obtain ⟨a, zs, ha, rfl, hza, HZ, S⟩ := hrel
          clear S0
          have hwz := S.out.gr.size
          obtain ⟨A2, g2, c2, rfl, hg2, -, hcc, -, -⟩ := own_slicez S.out.row.row hwz
          by_cases hlt : a < 6
          · have hlti : (a : Int) < 6 := by omega
            have HVB := Lib.hid (fun j (e : (Value.slice A2 zs.length c2).ownBlock = some j) => (S.out.row.row.lt j e).2)
            have HZB := Lib.hid (fun z (hz : z ∈ zs) (hp : 0 < z.es.length) => S.out.row.lt hz hp)
            have F0 := Lib.hid (show ZF w4 w.heap.size A l1 c f (0 + 1000 + 1 + 10 * a) (.slice A2 zs.length c2) zs wr.heap.size (wr.heap.size + 1) (a : Int) (.slice (some ⟨wr.heap.size, 0, none⟩) 0 0) [] ((wr.alloc (.cells #[] 56)).alloc (.cells #[.int .i64 (a : Int), .int .i64 1, .slice (some ⟨wr.heap.size, 0, none⟩) 0 0] 54)) from
              ⟨(S.out.call ((Below.refl _ _).alloc (Nat.le_refl _) _)).call ((Below.refl _ _).alloc (Nat.le_refl _) _), by
                have := Box.new (wr.alloc (.cells #[] 56)) 54 #[.int .i64 (a : Int), .int .i64 1, .slice (some ⟨wr.heap.size, 0, none⟩) 0 0]
                rwa [World.size_alloc] at this, (World.ownsRow_made (base := wr.heap.size) (e := 56) (size := 2) wr #[] 0 (Nat.le_refl _) (by unfold maxLen; omega) rfl).alloc _⟩)
            have hBw : w4.heap.size ≤ wr.heap.size := hwz
            have hFs : wr.heap.size + 1 < ((wr.alloc (.cells #[] 56)).alloc (.cells #[.int .i64 (a : Int), .int .i64 1, .slice (some ⟨wr.heap.size, 0, none⟩) 0 0] 54)).heap.size := by simp
            clear S
            go_wp2_with fail
            generalize (wr.alloc (.cells #[] 56)).alloc (.cells #[.int .i64 (a : Int), .int .i64 1, .slice (some ⟨wr.heap.size, 0, none⟩) 0 0] 54) = W0 at *
            generalize wr.heap.size = B at *
            go_loopw [10] (fun i wq => ∃ (b : Nat) (v : Value) (out : List Lb), b ≤ 6 ∧ i = .int .i64 (b : Int) ∧ out.length ≤ b ∧ B + 1 < wq.heap.size ∧ Hid (ZF w4 w.heap.size A l1 c f (0 + 1000 + 1 + 10 * a + b) (.slice A2 zs.length c2) zs B (B + 1) (a : Int) v out wq)) (fun i _ => 6 - (intOf i).toNat)
            case atStart => exact ⟨0, _, [], by omega, rfl, Nat.le_refl _, hFs, F0⟩
            case round =>
              obtain ⟨b, v, out, hb, rfl, hob, hBq, F⟩ := hrel
              clear F0 hFs
              have hRB : w.heap.size < B := by omega
              obtain ⟨zx, x0, x1, x2, q0, q1, q2⟩ := F.out.box.three
              obtain ⟨A9, g9, c9, rfl, hg9, -, ho9, hc9⟩ := own_slicee F.out.row (by omega)
              have HO9 := Lib.hid ho9
              clear ho9
              by_cases hlb : b < 6
              · have hlbi : (b : Int) < 6 := by omega
                by_cases hab : (a : Int) = (b : Int)
                · have hab' : ((a : Int) != (b : Int)) = false := by simpa using hab
                  clear hab
                  go_wp2_with fail
                  go_roundw
                  case rel => exact ⟨b + 1, _, out, by omega, by go_num, by omega, hBq, Lib.hid (F.out.mono (by omega))⟩
                  case measure => simp [intOf]; omega
                · have hab' : ((a : Int) != (b : Int)) = true := by simpa using hab
                  clear hab
                  go_wp2_with fail
                  refine (pick_rd _ A l1 c _ 3 f _ hl1 (by omega) (by omega) (by omega) F.out.zl.rd).mono ?_
                  rintro e w6 ⟨k6, rfl, hk6, hR6, hg6, hs6, -⟩
                  have F6 := Lib.hid (F.out.picked hR6 hg6 hw4 (by omega))
                  have hB6 : B + 1 < w6.heap.size := by omega
                  have es1 : IntKind.i64.wrap ((a : Int) + (b : Int)) = (a : Int) + (b : Int) := IntWalk.i64_in _ (by omega)
                  have es2 : IntKind.i64.wrap (8 + (k6 : Int)) = 8 + (k6 : Int) := IntWalk.i64_in _ (by omega)
                  clear hR6 hg6 hs6 F zx x0 x1 x2 q0 q1 q2
                  obtain ⟨zx, x0, x1, x2, q0, q1, q2⟩ := F6.out.box.three
                  by_cases hlt2 : (a : Int) + (b : Int) < 8 + (k6 : Int)
                  · go_wp2_with (at_builtin; refine wpList_append_own _ rfl _ _ 52 rfl B 56 j0 _ 2 16 Try.underlying52 hj jz0 jz10 jz20 rfl (by decide) _ out.length (flatB out) rfl (F6.out.row.alloc _) ⟨w6.heap.size, 0, none⟩ 1 1 [.int .i64 (b : Int), .int .i64 1] rfl rfl (new2 _ _ _ _) (one2 _ _) (by unfold maxLen; omega) (by omega) (by simp; omega) ?_; intro v' w8 hown8 hgrow8 _; have S8 := F6.out.grown (by omega) hRB (by omega) HVB.out HZB.out (l := ⟨(b : Int), 1⟩) hown8 hgrow8 (by omega); have z8 := S8.1.lt; have e8 := S8.1.cell 2; have q8 := S8.1.frozen 2; have R8 := Lib.hid S8.2; obtain ⟨A8, g8, c8, he8, -, -, -, -⟩ := own_slicee (ls := out ++ [⟨(b : Int), 1⟩]) R8.out.row (by simp; omega); have he9 : v' = .slice A8 (out.length + 1) c8 := (by rw [he8]; simp); clear he8 S8 hown8 hgrow8; subst he9)
                    go_roundw
                    case rel => exact ⟨b + 1, _, out ++ [⟨(b : Int), 1⟩], by omega, by go_num, by simp; omega, by simpa using z8, Lib.hid (R8.out.mono (by omega))⟩
                    case measure => simp [intOf]; omega
                  · go_wp2_with fail
                    go_roundw
                    case rel => exact ⟨b + 1, _, out, by omega, by go_num, by omega, hB6, Lib.hid (F6.out.mono (by omega))⟩
                    case measure => simp [intOf]; omega
              · obtain rfl : b = 6 := by omega
                go_wp2_with (at_builtin; refine wpList_append_own _ rfl _ _ 29 rfl w4.heap.size 54 i0 _ 3 40 Try.underlying29 hi hz0 hz10 hz20 rfl (by decide) _ zs.length (flatZ zs) rfl (F.out.zl.row.row.alloc _) ⟨wr.heap.size, 0, none⟩ 1 1 [.int .i64 (a : Int), .int .i64 1, .slice A9 out.length c9] rfl rfl (new3z _ _ _ _ _) (one3z _ _ _ rfl rfl rfl) (by unfold maxLen; omega) (by omega) (by simp; omega) ?_; intro v' w9 hown9 hgrow9 _; have S9 := Lib.hid ((F.out.zl.appendZ (z := ⟨(a : Int), 1, out, A9, c9, g9⟩) HO9.out (by show w4.heap.size ≤ g9; omega) hc9 (fun x hx h1 _ => by have := HZB.out x hx h1; show x.g ≠ g9; omega) hw4 hown9 hgrow9).mono (P' := 0 + 1000 + 1 + 10 * (a + 1)) (by omega)); clear hown9 hgrow9)
                go_roundw
                case rel => exact ⟨a + 1, zs ++ [⟨(a : Int), 1, out, A9, c9, g9⟩], hlt, by go_num, by simp; omega, Lib.hid (fun z hz => by
                  rcases List.mem_append.1 hz with hz | hz
                  · exact HZ.out z hz
                  · obtain rfl : z = ⟨(a : Int), 1, out, A9, c9, g9⟩ := by simpa using hz
                    show out.length ≤ 10
                    omega), S9⟩
                case measure => simp [intOf]; omega
          · obtain rfl : a = 6 := by omega
            have B5 := Lib.hid (B4'.out.grown S.out.gr B4'.out.size (fun k e => by injection e with e; omega))
            have hsz5 := S.out.row.slz hwz
            go_wp2_with fail
            go_returns
            exact ⟨6, zs, A2, c2, rfl, by omega, by omega, by omega, HZ.out, hsz5, B5.out, hcc⟩
      · have h0' : ((k4 : Int) == 0) = false := by simpa using h0
        have h1' : ((k4 : Int) == 1) = false := beq_eq_false_iff_ne.2 (by omega)
        have h2' : ((k4 : Int) == 2) = false := beq_eq_false_iff_ne.2 (by omega)
        clear h0 h1 h2
        obtain ⟨zX, e0, e1, -, -⟩ := X4.out.two
        go_wp2_with fail
        refine (l91close_any w.heap.size A l1 c _ f m Ag gg cg ls w4 hl1 (by omega) hm10 (by omega) R4.out O4.out HGR.out).mono ?_
        rintro e w6 ⟨zs, Az, cz, rfl, hzl, hze, hzi, hr6, hg6⟩
        have B6 := Lib.hid (B4.out.grown hg6 B4.out.size (fun k e => by injection e with e; omega))
        have hs6 := hg6.size
        have hsz6 := hzi.slz (by omega)
        have hcc : zs.length ≤ cz := by
          obtain ⟨A', g', c', e, -, -, h, -, -⟩ := own_slicez hzi.row (by omega)
          cases e
          exact h
        go_wp2_with fail
        go_returns
        exact ⟨(m : Int), zs, Az, cz, rfl, by omega, by omega, hzl, hze, hsz6, B6.out, hcc⟩
end Go.Proofs.Ytnkohgdfipgdoab
