/-
  Contracts over this seat: the specification's DbGraph.
-/
import Derived.Test.YtnkohgdfipgdoabZh
import Derived.Test.YtnkohgdfipgdoabA7
namespace Go.Proofs.Ytnkohgdfipgdoab
open Go.RowKit Go.Maps

theorem lnkG_len (db : List La) (a b : Int) : (lnkG db a b).length ≤ 1 := by unfold lnkG; split <;> simp
theorem rowG_len (db : List La) (a k : Nat) : (rowG db a k).length ≤ k := by
  induction k with
  | zero => exact Nat.le_refl 0
  | succ k ih =>
    unfold rowG
    rw [List.length_append]
    have := lnkG_len db (a : Int) ((a + 1 + k : Nat) : Int)
    omega
theorem topG_len (db : List La) {m : Nat} (hm : m ≤ 8) (k : Nat) : (topG db m k).length ≤ k * 8 := by
  induction k with
  | zero => exact Nat.le_refl 0
  | succ k ih =>
    unfold topG
    rw [List.length_append]
    have := rowG_len db k (m - (k + 1))
    omega

/-- The graph under way: its box, its links in memory of their own, the result's box. -/
structure GB (w : World) (m : Int) (v : Value) (out : List Lk) (W : World) : Prop where
  res : Box W w.heap.size 48 #[.int .i64 0, .slice none 0 0]
  box : Box W (w.heap.size + 2) 48 #[.int .i64 m, v]
  row : W.ownsRow (w.heap.size + 1) 59 3 v out.length (flat out)
  bel : Below w.heap.size w W
theorem GB.call {w : World} {m : Int} {v : Value} {out : List Lk} {W W' : World} (h : GB w m v out W) (hb : Below W.heap.size W W') : GB w m v out W' :=
  ⟨h.res.below hb h.res.lt, h.box.below hb h.box.lt, owns_kept h.row hb, h.bel.trans (hb.mono h.bel.size)⟩
/-- Behind an append onto the row, ahead of the store of the new slice. -/
theorem GB.grown {w : World} {m : Int} {v v' : Value} {out : List Lk} {W W' : World} {o : Obj} {l : Lk} (h : GB w m v out W)
    (hown : W'.ownsRow (w.heap.size + 1) 59 3 v' (out.length + 1) (flat out ++ [.int .i64 l.a, .int .i64 l.b, .int .i64 l.c])) (hg : (W.alloc o).grownBy W' v.ownBlock) :
    Box W' (w.heap.size + 2) 48 #[.int .i64 m, v] ∧ GB w m v' (out ++ [l]) (W'.setCell ⟨w.heap.size + 2, 1, none⟩ v') := by
  obtain ⟨h1, h2, h3, h4⟩ := h
  have hbase := h3.lt
  have b1 : Box W' w.heap.size 48 #[.int .i64 0, .slice none 0 0] := (hg.block _ (by have := h1.lt; simp; omega) (fun e => own_box_ne h3 h1 (by decide) e.symm)).trans (h1.alloc o)
  have b2 : Box W' (w.heap.size + 2) 48 #[.int .i64 m, v] := (hg.block _ (by have := h2.lt; simp; omega) (fun e => own_box_ne h3 h2 (by decide) e.symm)).trans (h2.alloc o)
  have b4 : Below w.heap.size w W' := (h4.alloc h4.size _).grown hg (by have := h4.size; simp; omega) (fun j e => by have := (hbase j e).1; omega)
  refine ⟨b2, (Below.heap_setCell W' ⟨w.heap.size + 2, 1, none⟩ _ w.heap.size (by show w.heap.size ≠ w.heap.size + 2; omega)).trans b1, heap_set b2 1 _, ?_, b4.setCell (by show w.heap.size ≤ w.heap.size + 2; omega) _⟩
  have hk := hown.kept (grown_set (World.grownBy.refl W' (some (w.heap.size + 2))) 1 v') (.inr (own_box_ne hown b2 (by decide)))
  rw [flat_append, List.length_append]
  exact hk

set_option maxRecDepth 100000 in
set_option maxHeartbeats 1600000 in
theorem l11graph_any (m : Nat) (hm8 : m ≤ 8) (A : Option Addr) (zs : List Lz) (c : Nat) (w : World) (hm : zs.length ≤ 1000000) (hes : ∀ z ∈ zs, z.es.length ≤ 2000000) (hS : Slz w w.heap.size A zs) :
   Calls Try.prog 49 #[.int .i64 (m : Int), .slice A zs.length c] w (NewG (m : Int) (graphL (datL zs) m) w) := by
  obtain ⟨i0, hi, hz0, hz1, hz2⟩ := info_parts infoLink
  have HS := Lib.hid hS
  have CC := fun (o n : Int) W (h : Slz W W.heap.size A zs) => l11cost_any A zs c o n W hm hes h
  have h1 := ((Box.new w 48 #[.int .i64 0, .slice none 0 0]).alloc (.cells #[] 59)).alloc (.cells #[.int .i64 (m : Int), .slice (some ⟨w.heap.size + 1, 0, none⟩) 0 0] 48)
  have h2 := Box.new ((w.alloc (.cells #[.int .i64 0, .slice none 0 0] 48)).alloc (.cells #[] 59)) 48 #[.int .i64 (m : Int), .slice (some ⟨w.heap.size + 1, 0, none⟩) 0 0]
  have h3 := (World.ownsRow_made (base := w.heap.size + 1) (e := 59) (size := 3) (w.alloc (.cells #[.int .i64 0, .slice none 0 0] 48)) #[] 0 (by simp) (by unfold maxLen; omega) rfl).alloc (.cells #[.int .i64 (m : Int), .slice (some ⟨w.heap.size + 1, 0, none⟩) 0 0] 48)
  have h4 : Below w.heap.size w (((w.alloc (.cells #[.int .i64 0, .slice none 0 0] 48)).alloc (.cells #[] 59)).alloc (.cells #[.int .i64 (m : Int), .slice (some ⟨w.heap.size + 1, 0, none⟩) 0 0] 48)) := by (repeat (first | exact Below.refl _ _ | (refine Below.alloc ?_ (by first | exact Nat.le_refl _ | omega | (simp; done) | (simp; omega)) _) | (refine Below.setCell ?_ (by first | exact Nat.le_refl _ | omega | (simp; done) | (simp; omega)) _) | exact Below.drew ‹_›))
  simp only [World.size_alloc] at h1 h2 h3
  have G0 := Lib.hid (show GB w (m : Int) _ [] _ from ⟨h1, h2, h3, h4⟩)
  clear hS h1 h2 h3 h4 hes hm
  go_enter Try.func49, Try.ntmps49
  go_wp2_with fail
  go_loopw [6] (fun i wr => ∃ (a : Nat) (v : Value), a ≤ m ∧ i = .int .i64 (a : Int) ∧ Hid (GB w (m : Int) v (topG (datL zs) m a) wr)) (fun i _ => m - (intOf i).toNat)
  case atStart => exact ⟨0, _, Nat.zero_le _, rfl, G0⟩
  case round =>
    obtain ⟨a, v, ha, rfl, G1⟩ := hrel
    clear G0
    by_cases hlt : a < m
    · have hlti : (a : Int) < (m : Int) := by omega
      go_wp2_with fail
      go_loopw [7] (fun i wr => ∃ (k b : Nat) (v : Value) (out : List Lk), b ≤ m ∧ Hid (b = a + 1 + k) ∧ i = .int .i64 (b : Int) ∧ Hid (out = topG (datL zs) m a ++ rowG (datL zs) a k) ∧ Hid (GB w (m : Int) v out wr)) (fun i _ => m - (intOf i).toNat)
      case atStart => exact ⟨0, a + 1, v, _, by omega, Lib.hid rfl, by go_num, Lib.hid rfl, by rw [show rowG (datL zs) a 0 = [] from rfl, List.append_nil]; exact G1⟩
      case round =>
        obtain ⟨k, b, v, out, hb, HB, rfl, HO, G2⟩ := hrel
        clear G1
        by_cases hbt : b < m
        · have hbti : (b : Int) < (m : Int) := by omega
          go_wp2_with fail
          refine (CC (a : Int) (b : Int) _ ((HS.out.below G2.out.bel).more G2.out.bel.size)).mono ?_
          rintro e w1 ⟨rfl, hb1⟩
          have G3 := Lib.hid (G2.out.call hb1)
          clear hb1 G2
          go_wp2_with fail
          refine (CC (b : Int) (a : Int) _ ((HS.out.below G3.out.bel).more G3.out.bel.size)).mono ?_
          rintro e w2 ⟨rfl, hb2⟩
          have G4 := Lib.hid (G3.out.call hb2)
          clear hb2 G3
          have HL : Hid (lnkG (datL zs) (a : Int) (b : Int) = if 0 < costL (datL zs) (a : Int) (b : Int) ∧ 0 < costL (datL zs) (b : Int) (a : Int) then [⟨(a : Int), (b : Int), max (costL (datL zs) (a : Int) (b : Int)) (costL (datL zs) (b : Int) (a : Int))⟩] else []) := Lib.hid rfl
          have HN : Hid (topG (datL zs) m a ++ rowG (datL zs) a (k + 1) = out ++ lnkG (datL zs) (a : Int) (b : Int)) := Lib.hid (by
            rw [HO.out, HB.out, List.append_assoc]
            rfl)
          have hle : out.length ≤ 200 := by
            rw [HO.out, List.length_append]
            have h5 := topG_len (datL zs) hm8 a
            have h6 := rowG_len (datL zs) a k
            have := HB.out
            omega
          generalize costL (datL zs) (a : Int) (b : Int) = x at *
          generalize costL (datL zs) (b : Int) (a : Int) = y at *
          by_cases hx : 0 < x
          · by_cases hy : 0 < y
            · by_cases hxy : x < y
              · have HL2 : Hid (lnkG (datL zs) (a : Int) (b : Int) = [⟨(a : Int), (b : Int), y⟩]) := Lib.hid (by rw [HL.out, if_pos ⟨hx, hy⟩, show max x y = y by omega])
                obtain ⟨z2, c0, c1, q0, q1⟩ := G4.out.box.two
                clear HL
                go_wp2_with (at_builtin; refine wpList_append_own _ rfl _ _ 46 rfl (w.heap.size + 1) 59 i0 _ 3 24 Try.underlying46 hi hz0 hz1 hz2 rfl (by decide) _ out.length (flat out) rfl (G4.out.row.alloc _) ⟨w2.heap.size, 0, none⟩ 1 1 _ rfl rfl (new3l _ _ _ _ _) (one3l _ _ _) (by unfold maxLen; omega) (by omega) (by have := G4.out.bel.size; simp; omega) ?_; intro v' w3 hown3 hgrow3 _; have GG := G4.out.grown (l := ⟨(a : Int), (b : Int), y⟩) hown3 hgrow3; have G5 := Lib.hid GG.2; obtain ⟨A9, g9, c9, rfl, -, -, -⟩ := own_slice G5.out.row (by have := G5.out.bel.size; have := G5.out.box.lt; omega); obtain ⟨z3, c0', c1', q0', q1'⟩ := GG.1.two; clear GG hown3 hgrow3 z2 c0 c1 q0 q1)
                go_roundw
                case rel => exact ⟨k + 1, b + 1, _, out ++ [⟨(a : Int), (b : Int), y⟩], by omega, Lib.hid (by have := HB.out; omega), by go_num, Lib.hid (by rw [HN.out, HL2.out]), by rw [List.length_append] at G5; exact G5⟩
                case measure => simp [intOf]; omega
              · have hyx : y ≤ x := by omega
                have HL2 : Hid (lnkG (datL zs) (a : Int) (b : Int) = [⟨(a : Int), (b : Int), x⟩]) := Lib.hid (by rw [HL.out, if_pos ⟨hx, hy⟩, show max x y = x by omega])
                obtain ⟨z2, c0, c1, q0, q1⟩ := G4.out.box.two
                clear HL
                go_wp2_with (at_builtin; refine wpList_append_own _ rfl _ _ 46 rfl (w.heap.size + 1) 59 i0 _ 3 24 Try.underlying46 hi hz0 hz1 hz2 rfl (by decide) _ out.length (flat out) rfl (G4.out.row.alloc _) ⟨w2.heap.size, 0, none⟩ 1 1 _ rfl rfl (new3l _ _ _ _ _) (one3l _ _ _) (by unfold maxLen; omega) (by omega) (by have := G4.out.bel.size; simp; omega) ?_; intro v' w3 hown3 hgrow3 _; have GG := G4.out.grown (l := ⟨(a : Int), (b : Int), x⟩) hown3 hgrow3; have G5 := Lib.hid GG.2; obtain ⟨A9, g9, c9, rfl, -, -, -⟩ := own_slice G5.out.row (by have := G5.out.bel.size; have := G5.out.box.lt; omega); obtain ⟨z3, c0', c1', q0', q1'⟩ := GG.1.two; clear GG hown3 hgrow3 z2 c0 c1 q0 q1)
                go_roundw
                case rel => exact ⟨k + 1, b + 1, _, out ++ [⟨(a : Int), (b : Int), x⟩], by omega, Lib.hid (by have := HB.out; omega), by go_num, Lib.hid (by rw [HN.out, HL2.out]), by rw [List.length_append] at G5; exact G5⟩
                case measure => simp [intOf]; omega
            · have HL2 : Hid (lnkG (datL zs) (a : Int) (b : Int) = []) := Lib.hid (by rw [HL.out, if_neg (fun h => hy h.2)])
              clear HL
              go_wp2_with fail
              go_roundw
              case rel => exact ⟨k + 1, b + 1, v, out, by omega, Lib.hid (by have := HB.out; omega), by go_num, Lib.hid (by rw [HN.out, HL2.out, List.append_nil]), G4⟩
              case measure => simp [intOf]; omega
          · have HL2 : Hid (lnkG (datL zs) (a : Int) (b : Int) = []) := Lib.hid (by rw [HL.out, if_neg (fun h => hx h.1)])
            clear HL
            go_wp2_with fail
            go_roundw
            case rel => exact ⟨k + 1, b + 1, v, out, by omega, Lib.hid (by have := HB.out; omega), by go_num, Lib.hid (by rw [HN.out, HL2.out, List.append_nil]), G4⟩
            case measure => simp [intOf]; omega
        · have hbti : ¬ (b : Int) < (m : Int) := by omega
          have HT : Hid (out = topG (datL zs) m (a + 1)) := Lib.hid (by
            have h5 := HB.out
            rw [HO.out]
            show _ = topG (datL zs) m a ++ rowG (datL zs) a (m - (a + 1))
            rw [show m - (a + 1) = k by omega])
          go_wp2_with fail
          go_roundw
          case rel => exact ⟨a + 1, v, hlt, by go_num, by rw [← HT.out]; exact G2⟩
          case measure => simp [intOf]; omega
    · have hlti : ¬ (a : Int) < (m : Int) := by omega
      obtain rfl : a = m := by omega
      obtain ⟨A', g', c', rfl, hg', -, ho⟩ := own_slice G1.out.row (by have := G1.out.bel.size; have := G1.out.box.lt; omega)
      have HO := Lib.hid ho
      obtain ⟨zk, e10, e11, -, -⟩ := G1.out.box.two
      obtain ⟨zn, f10, f11, q10, q11⟩ := G1.out.res.two
      clear ho
      go_wp2_with fail
      refine bodyPost_ret (v := gval (a : Int) A' (topG (datL zs) a a).length c') (by simp [results, Try.results49, go_sem, f10, f11]) rfl ⟨A', g', c', rfl, by omega, ?_, ?_⟩
      · exact (HO.out.set_far (by dsimp only; omega) _).set_far (by dsimp only; omega) _
      · exact (G1.out.bel.setCell (by simp) _).setCell (by simp) _
end Go.Proofs.Ytnkohgdfipgdoab
