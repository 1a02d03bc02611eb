/-
  Contracts over this seat: the program's DbGraph.
-/
import Derived.Test.YtnkohgdfipgdoabE9
import Derived.Test.YtnkohgdfipgdoabZj
namespace Go.Proofs.Ytnkohgdfipgdoab
open Go.RowKit Go.Maps

theorem endC_ok {es : List Lb} (hp : ∀ e ∈ es, 0 < e.a) {n : Int} (h : ∃ e ∈ es, e.k = n) : 0 < endC es n := by
  unfold endC
  cases hf : es.find? (fun e => decide (e.k = n)) with
  | none =>
    obtain ⟨e, he, hk⟩ := h
    have := List.find?_eq_none.1 hf e he
    simp [hk] at this
  | some e => exact hp e (List.mem_of_find?_eq_some hf)

set_option maxRecDepth 100000 in
set_option maxHeartbeats 1600000 in
theorem costTo_any (o q : Int) (es : List Lb) (A : Option Addr) (c : Nat) (n : Int) (w : World) (hm : es.length ≤ 2000000) (hp : ∀ e ∈ es, 0 < e.a) (hS : Slb w w.heap.size A es) :
   Calls Try.prog 73 #[.agg #[.int .i64 o, .int .i64 q, .slice A es.length c], .int .i64 n] w fun e w' => e = .returned (.tuple #[.int .i64 (endC es n), .bool (decide (0 < endC es n))]) ∧ Below w.heap.size w w' := by
  have HE := Lib.hid hS
  have HP := Lib.hid hp
  have B0 := Lib.hid (show Below w.heap.size w (w.alloc (.cells #[.int .i64 o, .int .i64 q, .slice A es.length c] 54)) by (repeat (first | exact Below.refl _ _ | (refine Below.alloc ?_ (by first | exact Nat.le_refl _ | omega | (simp; done) | (simp; omega)) _) | (refine Below.setCell ?_ (by first | exact Nat.le_refl _ | omega | (simp; done) | (simp; omega)) _) | exact Below.drew ‹_›)))
  clear hS hp
  go_enter Try.func73, Try.ntmps73
  go_wp2_with fail
  go_loopw [11] (fun i wr => ∃ k : Nat, k ≤ es.length ∧ i = .int .i64 (k : Int) ∧ Hid (∀ (j : Nat) (z : Lb), j < k → es[j]? = some z → z.k ≠ n) ∧ Below w.heap.size w wr) (fun i _ => es.length - (intOf i).toNat)
  case atStart => exact ⟨0, Nat.zero_le _, rfl, Lib.hid (fun j z h => by omega), B0.out⟩
  case round =>
    obtain ⟨k, hk, rfl, HJ, hb⟩ := hrel
    have B2 := Lib.hid hb
    clear B0
    by_cases hlt : k < es.length
    · obtain ⟨x, hx⟩ : ∃ x, es[k]? = some x := ⟨_, List.getElem?_eq_getElem hlt⟩
      obtain ⟨b, off, rfl, hbb, hc1, hc2⟩ := (HE.out.below hb) k x hx
      have HX := Lib.hid hx
      have hz := hb.size
      have z1 : b < wr.heap.size := by omega
      obtain ⟨xk, xa⟩ := x
      dsimp only at hc1 hc2
      have B3 := Lib.hid (hb.alloc hb.size (.cells #[.int .i64 xk, .int .i64 xa] 56))
      clear hx hb
      by_cases ho : xk = n
      · subst ho
        have HF : Hid (endC es xk = xa) := Lib.hid (endC_hit HX.out rfl HJ.out)
        have HG : Hid (0 < endC es xk) := Lib.hid (endC_ok HP.out ⟨_, List.mem_of_getElem? HX.out, rfl⟩)
        go_wp2_with fail
        refine bodyPost_ret (v := .tuple #[.int .i64 xa, .bool true]) (by simp [results, Try.results73, go_sem]) rfl ?_
        exact ⟨by rw [decide_eq_true HG.out, HF.out], B3.out⟩
      · have ho' : (xk == n) = false := by simpa using ho
        have HO := Lib.hid ho
        clear ho
        go_wp2_with fail
        go_roundw
        case rel => exact ⟨k + 1, hlt, by go_num, Lib.hid (fun j z hj hz => by
          by_cases hjk : j < k
          · exact HJ.out j z hjk hz
          · obtain rfl : j = k := by omega
            rw [HX.out] at hz
            cases hz
            exact HO.out), B3.out⟩
        case measure => simp [intOf]; omega
    · obtain rfl : k = es.length := by omega
      have HF : Hid (endC es n = 0) := Lib.hid (endC_miss (fun j z hz => HJ.out j z (List.getElem?_eq_some_iff.1 hz).1 hz))
      clear hb
      go_wp2_with fail
      refine bodyPost_ret (v := .tuple #[.int .i64 0, .bool false]) (by simp [results, Try.results73, go_sem]) rfl ?_
      exact ⟨by rw [HF.out]; rfl, B2.out⟩

/-- What the map has under an origin, as the program looks it up. -/
theorem lookZ_cases {b nb : Nat} {f : Int → Option Lz} {db : List La} {W : World} (hM : OwnM W b nb f) (hf : ∀ o, getL db o = (f o).map Lz.d) (hv : ∀ x ∈ db, laB x = true) (hS : ∀ o z, f o = some z → Slb W W.heap.size z.A z.es ∧ z.es.length ≤ 2000000) (o n : Int) (ho : 0 ≤ o ∧ o ≤ 8) :
    ∃ (bo bq : Int) (es : List Lb) (A1 : Option Addr) (c1 : Nat), (Instr.lookup 80 (.map (some b)) (.int .i64 o) false).run Try.prog W = .ok (.agg #[.int .i64 bo, .int .i64 bq, .slice A1 es.length c1]) W ∧ Slb W W.heap.size A1 es ∧ costL db o n = endC es n ∧ es.length ≤ 2000000 ∧ ∀ e ∈ es, 0 < e.a := by
  have hl := hM.look (o := o) (by omega)
  cases hz : f o with
  | none =>
    refine ⟨0, 0, [], none, 0, (hl.2 hz).2, fun k l h => by simp at h, ?_, by simp, fun e he => by cases he⟩
    unfold costL
    rw [hf, hz]
    rfl
  | some z =>
    obtain ⟨h1, h2⟩ := hS o z hz
    refine ⟨z.o, z.q, z.es, z.A, z.c, (hl.1 z hz).2, h1, ?_, h2, fun e he => ?_⟩
    · unfold costL
      rw [hf, hz]
      rfl
    · have hg : getL db o = some z.d := by rw [hf, hz]; rfl
      have hm : z.d ∈ db := List.mem_of_find?_eq_some hg
      have := ((laB_iff.1 (hv z.d hm)).1.1 e he).2.2
      omega

/-- The links under way: the map, the links in memory of their own. -/
structure GL (w : World) (b nb : Nat) (f : Int → Option Lz) (v : Value) (out : List Lk) (W : World) : Prop where
  map : OwnM W b nb f
  row : W.ownsRow w.heap.size 59 3 v out.length (flat out)
  bel : Below w.heap.size w W
theorem GL.call {w : World} {b nb : Nat} {f : Int → Option Lz} {v : Value} {out : List Lk} {W W' : World} (h : GL w b nb f v out W) (hb : Below W.heap.size W W') : GL w b nb f v out W' :=
  ⟨h.map.call hb, owns_kept h.row hb, h.bel.trans (hb.mono h.bel.size)⟩
theorem GL.grown {w : World} {b nb : Nat} {f : Int → Option Lz} {v v' : Value} {out : List Lk} {W W' : World} {o : Obj} {l : Lk} (h : GL w b nb f v out W)
    (hown : W'.ownsRow w.heap.size 59 3 v' (out.length + 1) (flat out ++ [.int .i64 l.a, .int .i64 l.b, .int .i64 l.c])) (hg : (W.alloc o).grownBy W' v.ownBlock) :
    GL w b nb f v' (out ++ [l]) W' := by
  obtain ⟨h1, h3, h4⟩ := h
  have hbase := h3.lt
  refine ⟨(h1.call ((Below.refl _ _).alloc (Nat.le_refl _) o)).block (hg.block _ (by have := h1.lt; simp; omega) (fun e => ?_)), ?_, (h4.alloc h4.size _).grown hg (by have := h4.size; simp; omega) (fun j e => by have := (hbase j e).1; omega)⟩
  · rcases h3.2 with ⟨h0, -⟩ | ⟨g, cap, cur, h0, -, hh, -, -, -, -⟩
    · rw [h0] at e; cases e
    · rw [h0] at e
      have : b = g := Option.some.inj e
      subst this
      obtain ⟨D, ⟨es, ck, hb, -⟩, -⟩ := h1
      rw [hb] at hh
      cases hh
  · rw [flat_append, List.length_append]
    exact hown

/-- What is left: links in new memory. -/
def NewL (ls : List Lk) (w : World) (e : Ending) (w' : World) : Prop := ∃ A g c, e = .returned (.slice A ls.length c) ∧ w.heap.size ≤ g ∧ Own1 w' A g ls ∧ Below w.heap.size w w'

set_option maxRecDepth 100000 in
set_option maxHeartbeats 3200000 in
theorem links_any (m : Nat) (hm8 : m ≤ 8) (b nb : Nat) (f : Int → Option Lz) (db : List La) (w : World) (hf : ∀ o, getL db o = (f o).map Lz.d) (hv : ∀ x ∈ db, laB x = true) (hM : OwnM w b nb f) (hS : ∀ o z, f o = some z → Slb w w.heap.size z.A z.es ∧ z.es.length ≤ 2000000) :
   Calls Try.prog 48 #[.map (some b), .int .i64 (m : Int)] w (NewL (graphL db m) w) := by
  obtain ⟨i0, hi, hz0, hz1, hz2⟩ := info_parts infoLink
  have CK := Lib.hid (fun (o n : Int) (W : World) (h : OwnM W b nb f) (hb : Below w.heap.size w W) (ho : 0 ≤ o ∧ o ≤ 8) => lookZ_cases h hf hv (fun o z hz => ⟨((hS o z hz).1.below hb).more hb.size, (hS o z hz).2⟩) o n ho)
  have h1 : OwnM (w.alloc (.cells #[] 59)) b nb f := hM.call ((Below.refl _ _).alloc (Nat.le_refl _) _)
  have h3 := World.ownsRow_made (base := w.heap.size) (e := 59) (size := 3) w #[] 0 (by simp) (by unfold maxLen; omega) rfl
  have h4 : Below w.heap.size w (w.alloc (.cells #[] 59)) := by (repeat (first | exact Below.refl _ _ | (refine Below.alloc ?_ (by first | exact Nat.le_refl _ | omega | (simp; done) | (simp; omega)) _) | (refine Below.setCell ?_ (by first | exact Nat.le_refl _ | omega | (simp; done) | (simp; omega)) _) | exact Below.drew ‹_›))
  have G0 := Lib.hid (show GL w b nb f _ [] _ from ⟨h1, h3, h4⟩)
  clear hS hM hf hv h1 h3 h4
  go_enter Try.func48, Try.ntmps48
  go_wp2_with fail
  go_loopw [14, 5] (fun i v wr => ∃ (a : Nat), a ≤ m ∧ i = .int .i64 (a : Int) ∧ Hid (GL w b nb f v (topG db m a) wr)) (fun i _ _ => m - (intOf i).toNat)
  case atStart => exact ⟨0, Nat.zero_le _, rfl, G0⟩
  case round =>
    obtain ⟨a, ha, rfl, G1⟩ := hrel
    clear G0
    obtain ⟨A1, g1, c1, rfl, -, -, -⟩ := own_slice G1.out.row G1.out.bel.size
    by_cases hlt : a < m
    · have hlti : (a : Int) < (m : Int) := by omega
      go_wp2_with fail
      go_loopw [7, 5] (fun i v wr => ∃ (k b1 : Nat) (out : List Lk), b1 ≤ m ∧ Hid (b1 = a + 1 + k) ∧ i = .int .i64 (b1 : Int) ∧ Hid (out = topG db m a ++ rowG db a k) ∧ Hid (GL w b nb f v out wr)) (fun i _ _ => m - (intOf i).toNat)
      case atStart => exact ⟨0, a + 1, _, by omega, Lib.hid rfl, by go_num, Lib.hid rfl, by rw [show rowG db a 0 = [] from rfl, List.append_nil]; exact G1⟩
      case round =>
        obtain ⟨k, b1, out, hb, HB, rfl, HO, G2⟩ := hrel
        clear G1
        obtain ⟨A2, g2, c2, rfl, -, -, -⟩ := own_slice G2.out.row G2.out.bel.size
        by_cases hbt : b1 < m
        · have hbti : (b1 : Int) < (m : Int) := by omega
          obtain ⟨xo, xq, xes, xA, xc, hlk1, hxs, hxc, hxl, hxp⟩ := CK.out (a : Int) (b1 : Int) _ G2.out.map G2.out.bel (by omega)
          have C1 := fun (o q : Int) => costTo_any o q xes xA xc (b1 : Int) _ hxl hxp hxs
          rw [← hxc] at C1
          clear hxc hxs hxp
          go_wp2_with fail
          refine (C1 xo xq).mono ?_
          clear C1
          rintro e w1 ⟨rfl, hb1⟩
          have G3 := Lib.hid (G2.out.call hb1)
          clear hb1 G2 hlk1
          obtain ⟨yo, yq, yes, yA, yc, hlk2, hys, hyc, hyl, hyp⟩ := CK.out (b1 : Int) (a : Int) _ G3.out.map G3.out.bel (by omega)
          have C2 := fun (o q : Int) => costTo_any o q yes yA yc (a : Int) _ hyl hyp hys
          rw [← hyc] at C2
          clear hyc hys hyp
          go_wp2_with fail
          refine (C2 yo yq).mono ?_
          clear C2
          rintro e w2 ⟨rfl, hb2⟩
          have G4 := Lib.hid (G3.out.call hb2)
          clear hb2 G3 hlk2
          have HL : Hid (lnkG db (a : Int) (b1 : Int) = if 0 < costL db (a : Int) (b1 : Int) ∧ 0 < costL db (b1 : Int) (a : Int) then [⟨(a : Int), (b1 : Int), max (costL db (a : Int) (b1 : Int)) (costL db (b1 : Int) (a : Int))⟩] else []) := Lib.hid rfl
          have HN : Hid (topG db m a ++ rowG db a (k + 1) = out ++ lnkG db (a : Int) (b1 : Int)) := Lib.hid (by
            rw [HO.out, HB.out, List.append_assoc]
            rfl)
          have hle : out.length ≤ 200 := by
            rw [HO.out, List.length_append]
            have h5 := topG_len db hm8 a
            have h6 := rowG_len db a k
            have := HB.out
            omega
          generalize costL db (a : Int) (b1 : Int) = x at *
          generalize costL db (b1 : Int) (a : Int) = y at *
          by_cases hx : 0 < x
          · have hx' : decide (0 < x) = true := decide_eq_true hx
            by_cases hy : 0 < y
            · have hy' : decide (0 < y) = true := decide_eq_true hy
              have HL2 : Hid (lnkG db (a : Int) (b1 : Int) = [⟨(a : Int), (b1 : Int), max x y⟩]) := Lib.hid (by rw [HL.out, if_pos ⟨hx, hy⟩])
              clear HL
              go_wp2_with (at_builtin; refine wpList_append_own _ rfl _ _ 46 rfl w.heap.size 59 i0 _ 3 24 Try.underlying46 hi hz0 hz1 hz2 rfl (by decide) _ out.length (flat out) rfl (owns_kept G4.out.row ((Below.refl _ _).alloc (Nat.le_refl _) _)) ⟨w2.heap.size, 0, none⟩ 1 1 _ rfl rfl (new3l _ _ _ _ _) (one3l _ _ _) (by unfold maxLen; omega) (by omega) (by have := G4.out.bel.size; simp; omega) ?_; intro v' w3 hown3 hgrow3 _; have G5 := Lib.hid (G4.out.grown (l := ⟨(a : Int), (b1 : Int), max x y⟩) hown3 hgrow3); clear hown3 hgrow3)
              go_roundw
              case rel => exact ⟨k + 1, b1 + 1, out ++ [⟨(a : Int), (b1 : Int), max x y⟩], by omega, Lib.hid (by have := HB.out; omega), by go_num, Lib.hid (by rw [HN.out, HL2.out]), G5⟩
              case measure => simp [intOf]; omega
            · have hy' : decide (0 < y) = false := decide_eq_false hy
              have HL2 : Hid (lnkG db (a : Int) (b1 : Int) = []) := Lib.hid (by rw [HL.out, if_neg (fun h => hy h.2)])
              clear HL
              go_wp2_with fail
              go_roundw
              case rel => exact ⟨k + 1, b1 + 1, out, by omega, Lib.hid (by have := HB.out; omega), by go_num, Lib.hid (by rw [HN.out, HL2.out, List.append_nil]), G4⟩
              case measure => simp [intOf]; omega
          · have hx' : decide (0 < x) = false := decide_eq_false hx
            have HL2 : Hid (lnkG db (a : Int) (b1 : Int) = []) := Lib.hid (by rw [HL.out, if_neg (fun h => hx h.1)])
            clear HL
            go_wp2_with fail
            go_roundw
            case rel => exact ⟨k + 1, b1 + 1, out, by omega, Lib.hid (by have := HB.out; omega), by go_num, Lib.hid (by rw [HN.out, HL2.out, List.append_nil]), G4⟩
            case measure => simp [intOf]; omega
        · have hbti : ¬ (b1 : Int) < (m : Int) := by omega
          have HT : Hid (out = topG db m (a + 1)) := Lib.hid (by
            have h5 := HB.out
            rw [HO.out]
            show _ = topG db m a ++ rowG db a (m - (a + 1))
            rw [show m - (a + 1) = k by omega])
          go_wp2_with fail
          go_roundw
          case rel => exact ⟨a + 1, hlt, by go_num, by rw [← HT.out]; exact G2⟩
          case measure => simp [intOf]; omega
    · have hlti : ¬ (a : Int) < (m : Int) := by omega
      obtain rfl : a = m := by omega
      go_wp2_with fail
      go_ret
      obtain ⟨A3, g3, c3, e3, hg3, -, ho3⟩ := own_slice G1.out.row G1.out.bel.size
      cases e3
      exact ⟨A1, g3, c1, rfl, hg3, ho3, G1.out.bel⟩

theorem ret_two' {w : World} {Q t : Nat} {v0 v1 : Value} (h : Box w Q t #[v0, v1]) (u0 u1 : Value) :
    ((w.setCell ⟨Q, 0, none⟩ u0).setCell ⟨Q, 1, none⟩ u1).cell? ⟨Q, 0, none⟩ = some u0 ∧ ((w.setCell ⟨Q, 0, none⟩ u0).setCell ⟨Q, 1, none⟩ u1).cell? ⟨Q, 1, none⟩ = some u1 := by
  have b2 : Box ((w.setCell ⟨Q, 0, none⟩ u0).setCell ⟨Q, 1, none⟩ u1) Q t #[u0, u1] := heap_set (heap_set h 0 u0) 1 u1
  exact ⟨b2.cell 0, b2.cell 1⟩

set_option maxRecDepth 100000 in
set_option maxHeartbeats 1600000 in
theorem dbGraph_impl (n : Int) (A : Option Addr) (zs : List Lz) (c : Nat) (w : World) (hm : zs.length ≤ 1000000) (hes : ∀ z ∈ zs, z.es.length ≤ 2000000) (hS : Slz w w.heap.size A zs) :
   Calls Try.prog 22 #[.int .i64 n, .slice A zs.length c] w (if grB n (datL zs) = true then GRes n (graphL (datL zs) n.toNat) true w else GRes 0 [] false w) := by
  have HS := Lib.hid hS
  have CV := fun W (h : Slz W W.heap.size A zs) => dbValid_impl A zs c W (by omega) hes h
  have HR := Lib.hid (Box.new w 48 #[.int .i64 0, .slice none 0 0])
  have B0 := Lib.hid (show Below w.heap.size w (w.alloc (.cells #[.int .i64 0, .slice none 0 0] 48)) by (repeat (first | exact Below.refl _ _ | (refine Below.alloc ?_ (by first | exact Nat.le_refl _ | omega | (simp; done) | (simp; omega)) _) | (refine Below.setCell ?_ (by first | exact Nat.le_refl _ | omega | (simp; done) | (simp; omega)) _) | exact Below.drew ‹_›)))
  clear hS
  cases hi : inB n 1 8 with
  | false =>
    rw [if_neg (by unfold grB; rw [hi]; exact Bool.false_ne_true)]
    have hn : n < 1 ∨ 8 < n := by
      unfold inB at hi
      simp at hi
      omega
    clear hi CV
    obtain ⟨z1, f0, f1, q0, q1⟩ := HR.out.two
    rcases hn with hn | hn
    · go_enter Try.func22, Try.ntmps22
      go_wp2_with fail
      refine bodyPost_ret (v := .tuple #[gval 0 none 0 0, .bool false]) (by simp [results, Try.results22, go_sem]) rfl ⟨none, w.heap.size, 0, rfl, Nat.le_refl _, fun h => absurd h (by simp), ?_⟩
      exact B0.out
    · have hn' : ¬ n < 1 := by omega
      go_enter Try.func22, Try.ntmps22
      go_wp2_with fail
      refine bodyPost_ret (v := .tuple #[gval 0 none 0 0, .bool false]) (by simp [results, Try.results22, go_sem]) rfl ⟨none, w.heap.size, 0, rfl, Nat.le_refl _, fun h => absurd h (by simp), ?_⟩
      exact B0.out
  | true =>
    have hn : 1 ≤ n ∧ n ≤ 8 := by
      unfold inB at hi
      simpa using hi
    have hn1 : ¬ n < 1 := by omega
    have hn2 : ¬ 8 < n := by omega
    cases hd : dbB (datL zs) with
    | false =>
      rw [hd] at CV
      rw [if_neg (by unfold grB; rw [hd]; simp)]
      clear hi hd
      go_enter Try.func22, Try.ntmps22
      go_wp2_with fail
      refine (CV _ ((HS.out.below B0.out).more B0.out.size)).mono ?_
      rintro e w2 ⟨rfl, hb2⟩
      have B2 := Lib.hid (B0.out.trans (hb2.mono B0.out.size))
      have R2 := Lib.hid (HR.out.below hb2 HR.out.lt)
      clear hb2 HR B0
      obtain ⟨z1, f0, f1, q0, q1⟩ := R2.out.two
      obtain ⟨x0, x1⟩ := ret_two' R2.out (.int .i64 0) (.slice none 0 0)
      go_wp2_with fail
      refine bodyPost_ret (v := .tuple #[gval 0 none 0 0, .bool false]) (by simp [results, Try.results22, go_sem, x0, x1]) rfl ⟨none, w.heap.size, 0, rfl, Nat.le_refl _, fun h => absurd h (by simp), ?_⟩
      exact (B2.out.setCell (by simp) _).setCell (by simp) _
    | true =>
      rw [hd] at CV
      obtain ⟨m, rfl⟩ : ∃ m : Nat, n = (m : Int) := ⟨n.toNat, by omega⟩
      have hm8 : m ≤ 8 := by omega
      have HV := Lib.hid hd
      have CD := fun W (h : Slz W W.heap.size A zs) => databaseOf_any A zs c W (by omega) hd h
      have CL := fun (b : Nat) W (h : OwnM W b zs.length (findZ zs)) (h2 : Slz W W.heap.size A zs) => links_any m hm8 b zs.length (findZ zs) (datL zs) W (fun o => (findZ_map zs o).symm) (dbB_inv hd).1 h (fun o z hz => by
        have hzm := (findZ_at hz).1
        obtain ⟨k, hk⟩ := List.getElem?_of_mem hzm
        obtain ⟨_, _, -, -, -, -, -, h5⟩ := h2 k z hk
        exact ⟨h5, hes z hzm⟩)
      have hlen : (graphL (datL zs) m).length ≤ 64 := by
        have := topG_len (datL zs) hm8 m
        unfold graphL
        omega
      have hgr : grB (m : Int) (datL zs) = decide ((graphL (datL zs) m).length ≤ 14) := by
        unfold grB
        rw [hi, hd, Int.toNat_natCast]
        rfl
      rw [hgr, Int.toNat_natCast]
      clear hgr hi hd hes
      generalize graphL (datL zs) m = gl at *
      by_cases h14 : gl.length ≤ 14
      · have h14' : ¬ (14 : Int) < (gl.length : Int) := by omega
        rw [decide_eq_true h14, if_pos rfl]
        go_enter Try.func22, Try.ntmps22
        go_wp2_with fail
        refine (CV _ ((HS.out.below B0.out).more B0.out.size)).mono ?_
        clear CV
        rintro e w2 ⟨rfl, hb2⟩
        have B2 := Lib.hid (B0.out.trans (hb2.mono B0.out.size))
        have R2 := Lib.hid (HR.out.below hb2 HR.out.lt)
        clear hb2 HR B0
        go_wp2_with fail
        refine (CD _ ((HS.out.below B2.out).more B2.out.size)).mono ?_
        clear CD
        rintro e w3 ⟨b, rfl, hbb, hm3, hb3⟩
        have B3 := Lib.hid (B2.out.trans (hb3.mono B2.out.size))
        have R3 := Lib.hid (R2.out.below hb3 R2.out.lt)
        have M3 := Lib.hid hm3
        clear hb3 hm3 hbb R2 B2
        go_wp2_with fail
        refine (CL b _ M3.out ((HS.out.below B3.out).more B3.out.size)).mono ?_
        clear CL
        rintro e w4 ⟨A4, g4, c4, rfl, hg4, ho4, hb4⟩
        have B4 := Lib.hid (B3.out.trans (hb4.mono B3.out.size))
        have R4 := Lib.hid (R3.out.below hb4 R3.out.lt)
        have hR := R3.out.lt
        have hg : w.heap.size < g4 := by omega
        have O4 := Lib.hid ho4
        clear hb4 ho4 R3 B3 M3
        obtain ⟨z1, f0, f1, q0, q1⟩ := R4.out.two
        obtain ⟨x0, x1⟩ := ret_two' R4.out (.int .i64 (m : Int)) (.slice A4 gl.length c4)
        go_wp2_with fail
        refine bodyPost_ret (v := .tuple #[gval (m : Int) A4 gl.length c4, .bool true]) (by simp [results, Try.results22, go_sem, x0, x1]) rfl ⟨A4, g4, c4, rfl, by omega, ?_, (B4.out.setCell (by simp) _).setCell (by simp) _⟩
        intro h0
        obtain ⟨e, cs, hh, hc⟩ := O4.out h0
        exact ⟨e, cs, (Below.heap_setCell _ ⟨w.heap.size, 1, none⟩ _ g4 (by show g4 ≠ w.heap.size; omega)).trans ((Below.heap_setCell _ ⟨w.heap.size, 0, none⟩ _ g4 (by show g4 ≠ w.heap.size; omega)).trans hh), hc⟩
      · have h14' : (14 : Int) < (gl.length : Int) := by omega
        rw [decide_eq_false h14, if_neg Bool.false_ne_true]
        go_enter Try.func22, Try.ntmps22
        go_wp2_with fail
        refine (CV _ ((HS.out.below B0.out).more B0.out.size)).mono ?_
        clear CV
        rintro e w2 ⟨rfl, hb2⟩
        have B2 := Lib.hid (B0.out.trans (hb2.mono B0.out.size))
        have R2 := Lib.hid (HR.out.below hb2 HR.out.lt)
        clear hb2 HR B0
        go_wp2_with fail
        refine (CD _ ((HS.out.below B2.out).more B2.out.size)).mono ?_
        clear CD
        rintro e w3 ⟨b, rfl, hbb, hm3, hb3⟩
        have B3 := Lib.hid (B2.out.trans (hb3.mono B2.out.size))
        have R3 := Lib.hid (R2.out.below hb3 R2.out.lt)
        have M3 := Lib.hid hm3
        clear hb3 hm3 hbb R2 B2
        go_wp2_with fail
        refine (CL b _ M3.out ((HS.out.below B3.out).more B3.out.size)).mono ?_
        clear CL
        rintro e w4 ⟨A4, g4, c4, rfl, hg4, ho4, hb4⟩
        have B4 := Lib.hid (B3.out.trans (hb4.mono B3.out.size))
        have R4 := Lib.hid (R3.out.below hb4 R3.out.lt)
        have hR := R3.out.lt
        have hg : w.heap.size < g4 := by omega
        have O4 := Lib.hid ho4
        clear hb4 ho4 R3 B3 M3
        obtain ⟨z1, f0, f1, q0, q1⟩ := R4.out.two
        obtain ⟨x0, x1⟩ := ret_two' R4.out (.int .i64 0) (.slice none 0 0)
        go_wp2_with fail
        refine bodyPost_ret (v := .tuple #[gval 0 none 0 0, .bool false]) (by simp [results, Try.results22, go_sem, x0, x1]) rfl ⟨none, w.heap.size, 0, rfl, Nat.le_refl _, fun h => absurd h (by simp), ?_⟩
        exact (B4.out.setCell (by simp) _).setCell (by simp) _
end Go.Proofs.Ytnkohgdfipgdoab
