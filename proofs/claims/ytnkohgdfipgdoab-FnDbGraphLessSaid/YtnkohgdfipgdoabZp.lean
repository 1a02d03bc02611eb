/-
  Contracts over this seat: the specification's DbPut.
-/
import Derived.Test.YtnkohgdfipgdoabZc
import Derived.Handy
namespace Go.Proofs.Ytnkohgdfipgdoab
open Go.RowKit Go.Maps

def findZ (zs : List Lz) (o : Int) : Option Lz := zs.find? (fun z => decide (z.o = o))
theorem findZ_get (zs : List Lz) (o : Int) : getL (datL zs) o = (findZ zs o).map Lz.d := by
  unfold getL findZ datL
  rw [List.find?_map]
  rfl
theorem findZ_none {zs : List Lz} {o : Int} (h : ∀ (j : Nat) (z : Lz), zs[j]? = some z → z.o ≠ o) : findZ zs o = none := by
  unfold findZ
  rw [List.find?_eq_none]
  intro z hz
  obtain ⟨j, hj⟩ := List.getElem?_of_mem hz
  simpa using h j z hj
theorem findZ_some {zs : List Lz} {o : Int} {k : Nat} {x : Lz} (hx : zs[k]? = some x) (ho : x.o = o) (h : ∀ (j : Nat) (z : Lz), j < k → zs[j]? = some z → z.o ≠ o) : findZ zs o = some x := by
  unfold findZ
  rw [List.find?_eq_some_iff_getElem]
  obtain ⟨hk, hxe⟩ := List.getElem?_eq_some_iff.1 hx
  refine ⟨by simpa using ho, k, hk, hxe, fun j hj => ?_⟩
  have := h j zs[j] hj (List.getElem?_eq_getElem (by omega))
  simpa using this
/-- What 'l11Find' answers. -/
def fndV : Option Lz → Value
  | some z => .tuple #[z.v, .bool true]
  | none => .tuple #[.agg #[.int .i64 0, .int .i64 0, .slice none 0 0], .bool false]

set_option maxRecDepth 100000 in
set_option maxHeartbeats 1600000 in
theorem l11find_any (A : Option Addr) (zs : List Lz) (c : Nat) (o : Int) (w : World) (hm : zs.length ≤ 2000000) (hS : Slz w w.heap.size A zs) :
   Calls Try.prog 55 #[.slice A zs.length c, .int .i64 o] w fun e w' => e = .returned (fndV (findZ zs o)) ∧ Below w.heap.size w w' := by
  have HS := Lib.hid hS
  have HR := Lib.hid (Box.new w 54 #[.int .i64 0, .int .i64 0, .slice none 0 0])
  have B0 := Lib.hid (show Below w.heap.size w (w.alloc (.cells #[.int .i64 0, .int .i64 0, .slice none 0 0] 54)) by (repeat (first | exact Below.refl _ _ | (refine Below.alloc ?_ (by first | exact Nat.le_refl _ | omega | (simp; done) | (simp; omega)) _) | (refine Below.setCell ?_ (by first | exact Nat.le_refl _ | omega | (simp; done) | (simp; omega)) _) | exact Below.drew ‹_›)))
  clear hS
  go_enter Try.func55, Try.ntmps55
  go_wp2_with fail
  go_loopw [6] (fun i wr => ∃ k : Nat, k ≤ zs.length ∧ i = .int .i64 (k : Int) ∧ Hid (∀ (j : Nat) (z : Lz), j < k → zs[j]? = some z → z.o ≠ o) ∧ Below w.heap.size w wr ∧ Hid (Box wr w.heap.size 54 #[.int .i64 0, .int .i64 0, .slice none 0 0])) (fun i _ => zs.length - (intOf i).toNat)
  case atStart => exact ⟨0, Nat.zero_le _, rfl, Lib.hid (fun j z h => by omega), B0.out, HR⟩
  case round =>
    obtain ⟨k, hk, rfl, HJ, hb, G1⟩ := hrel
    have B1 := Lib.hid hb
    obtain ⟨zr, r0, r1, r2, t0, t1, t2⟩ := G1.out.three
    clear HR B0
    by_cases hlt : k < zs.length
    · obtain ⟨x, hx⟩ : ∃ x, zs[k]? = some x := ⟨_, List.getElem?_eq_getElem hlt⟩
      obtain ⟨b, off, rfl, hbb, hc1, hc2, hc3, -⟩ := (HS.out.below hb) k x hx
      have HX := Lib.hid hx
      have hz := hb.size
      have z1 : b < wr.heap.size := by omega
      obtain ⟨zo, zq, zes, zA, zc, zg⟩ := x
      dsimp only at hc1 hc2 hc3
      clear hx hb
      by_cases ho : zo = o
      · subst ho
        have HF : Hid (findZ zs zo = some ⟨zo, zq, zes, zA, zc, zg⟩) := Lib.hid (findZ_some HX.out rfl HJ.out)
        go_wp2_with fail
        obtain ⟨b3, x0, x1, x2⟩ := ret_three G1.out (.int .i64 zo) (.int .i64 zq) (.slice zA zes.length zc)
        refine bodyPost_ret (v := .tuple #[(⟨zo, zq, zes, zA, zc, zg⟩ : Lz).v, .bool true]) (by simp [results, Try.results55, go_sem, x0, x1, x2]) rfl ?_
        exact ⟨by rw [HF.out]; rfl, ((B1.out.setCell (p := ⟨w.heap.size, 0, none⟩) (Nat.le_refl _) _).setCell (p := ⟨w.heap.size, 1, none⟩) (Nat.le_refl _) _).setCell (p := ⟨w.heap.size, 2, none⟩) (Nat.le_refl _) _⟩
      · have ho' : (zo == o) = false := by simpa using ho
        have HO := Lib.hid ho
        clear ho
        go_wp2_with fail
        go_roundw
        case rel => exact ⟨k + 1, hlt, by go_num, Lib.hid (fun j z hj hz => by
          by_cases hjk : j < k
          · exact HJ.out j z hjk hz
          · obtain rfl : j = k := by omega
            rw [HX.out] at hz
            cases hz
            exact HO.out), B1.out, G1⟩
        case measure => simp [intOf]; omega
    · obtain rfl : k = zs.length := by omega
      have HF : Hid (findZ zs o = none) := Lib.hid (findZ_none (fun j z hz => HJ.out j z (List.getElem?_eq_some_iff.1 hz).1 hz))
      clear hb
      go_wp2_with fail
      obtain ⟨b3, x0, x1, x2⟩ := ret_three G1.out (.int .i64 0) (.int .i64 0) (.slice none 0 0)
      refine bodyPost_ret (v := .tuple #[.agg #[.int .i64 0, .int .i64 0, .slice none 0 0], .bool false]) (by simp [results, Try.results55, go_sem, x0, x1, x2]) rfl ?_
      exact ⟨by rw [HF.out]; rfl, ((B1.out.setCell (p := ⟨w.heap.size, 0, none⟩) (Nat.le_refl _) _).setCell (p := ⟨w.heap.size, 1, none⟩) (Nat.le_refl _) _).setCell (p := ⟨w.heap.size, 2, none⟩) (Nat.le_refl _) _⟩

/-- The boxes of 'l11Put': its announcement at the head of the call's memory. -/
structure ST (w : World) (lo lq : Int) (lA : Option Addr) (len lc : Nat) (W : World) : Prop where
  bel : Below w.heap.size w W
  box : Box W w.heap.size 54 #[.int .i64 lo, .int .i64 lq, .slice lA len lc]
theorem ST.call {w : World} {lo lq : Int} {lA : Option Addr} {len lc : Nat} {W W' : World} (h : ST w lo lq lA len lc W) (hb : Below W.heap.size W W') : ST w lo lq lA len lc W' :=
  ⟨h.bel.trans (hb.mono h.bel.size), h.box.below hb h.box.lt⟩
theorem ST.alloc {w : World} {lo lq : Int} {lA : Option Addr} {len lc : Nat} {W : World} (h : ST w lo lq lA len lc W) (o : Obj) : ST w lo lq lA len lc (W.alloc o) := h.call ((Below.refl _ _).alloc (Nat.le_refl _) o)
theorem ST.drew {w : World} {lo lq : Int} {lA : Option Addr} {len lc : Nat} {W : World} (h : ST w lo lq lA len lc W) : ST w lo lq lA len lc W.drew := ⟨h.bel.drew, h.box⟩
theorem ST.grow {w : World} {lo lq : Int} {lA : Option Addr} {len lc : Nat} {W W' : World} {v : Value} (h : ST w lo lq lA len lc W) (hg : W.grownBy W' v.ownBlock) (hv : ∀ j, v.ownBlock = some j → w.heap.size < j) : ST w lo lq lA len lc W' :=
  ⟨h.bel.grown hg h.bel.size (fun j e => Nat.le_of_lt (hv j e)), (hg.block _ h.box.lt (fun e => by have := hv _ e.symm; omega)).trans h.box⟩
theorem tw_take {α : Type} {p : α → Bool} : ∀ {xs : List α} {k : Nat}, (∀ (j : Nat) (x : α), j < k → xs[j]? = some x → p x = true) → (∀ x, xs[k]? = some x → p x = false) → k ≤ xs.length → xs.takeWhile p = xs.take k
  | [], 0, _, _, _ => rfl
  | [], k + 1, _, _, h => by simp at h
  | x :: xs, 0, _, h2, _ => by rw [List.takeWhile_cons, h2 x rfl]; rfl
  | x :: xs, k + 1, h1, h2, h3 => by
    rw [List.takeWhile_cons, h1 0 x (by omega) rfl, List.take_succ_cons]
    simp only [if_true]
    rw [tw_take (fun j y hj hy => h1 (j + 1) y (by omega) hy) (fun y hy => h2 y hy) (by simpa using h3)]
theorem filter_next {p : La → Bool} {zs : List Lz} {k : Nat} {z : Lz} (h : zs[k]? = some z) : ((datL zs).take (k + 1)).filter p = ((datL zs).take k).filter p ++ (if p z.d = true then [z.d] else []) := by
  rw [datL_next h, List.filter_append]
  congr 1
  by_cases hp : p z.d = true
  · rw [if_pos hp, List.filter_cons_of_pos hp]; rfl
  · rw [if_neg hp, List.filter_cons_of_neg hp]; rfl
theorem tw_data {zs : List Lz} {lo : Int} {k : Nat} (h1 : ∀ (j : Nat) (z : Lz), j < k → zs[j]? = some z → z.o < lo) (h2 : ∀ z, zs[k]? = some z → ¬ z.o < lo) (hk : k ≤ zs.length) : (datL zs).takeWhile (fun x => decide (x.o < lo)) = (datL zs).take k :=
  tw_take (fun j x hj hx => by
    rw [List.getElem?_map] at hx
    cases hz : zs[j]? with
    | none => rw [hz] at hx; cases hx
    | some z => rw [hz] at hx; cases hx; exact decide_eq_true (h1 j z hj hz)) (fun x hx => by
    rw [List.getElem?_map] at hx
    cases hz : zs[k]? with
    | none => rw [hz] at hx; cases hx
    | some z => rw [hz] at hx; cases hx; exact decide_eq_false (h2 z hz)) (by simpa [datL] using hk)
theorem ZI.down {B B' : Nat} {v : Value} {zs : List Lz} {W : World} (h : ZI B v zs W) (hb : B' ≤ B) : ZI B' v zs W := by
  refine ⟨?_, fun z hz => (h.inn z hz).weak hb, h.dis⟩
  obtain ⟨h1, h2⟩ := h.row
  refine ⟨h1, ?_⟩
  rcases h2 with h2 | ⟨g, cap, cur, e, hg, r⟩
  · exact .inl h2
  · exact .inr ⟨g, cap, cur, e, Nat.le_trans hb hg, r⟩
/-- What 'l11Put' leaves. -/
def PutZ (ds : List La) (n : Int) (w : World) (e : Ending) (w' : World) : Prop :=
  ∃ (zs : List Lz) (A : Option Addr) (c : Nat), e = .returned (.tuple #[.slice A zs.length c, .int .i64 n]) ∧ datL zs = ds ∧ ZI w.heap.size (.slice A zs.length c) zs w' ∧ Below w.heap.size w w'

set_option maxRecDepth 100000 in
set_option maxHeartbeats 4000000 in
theorem l11put_any (A : Option Addr) (zs : List Lz) (c : Nat) (l : Lz) (w : World) (hm : zs.length ≤ 1000000) (hes : ∀ z ∈ zs, z.es.length ≤ 2000000) (hle : l.es.length ≤ 2000000) (hS : Slz w w.heap.size A zs) (hL : Slb w w.heap.size l.A l.es) :
   Calls Try.prog 85 #[.slice A zs.length c, l.v] w (PutZ (putL (datL zs) l.d) (putC (datL zs) l.d) w) := by
  obtain ⟨i0, hi, hz0, hz10, hz20⟩ := info_parts infoLsa
  obtain ⟨lo, lq, les, lA, lc, lg⟩ := l
  dsimp only at *
  have S0 := Lib.hid (show ST w lo lq lA les.length lc (w.alloc (.cells #[.int .i64 lo, .int .i64 lq, .slice lA les.length lc] 54)) from ⟨by (repeat (first | exact Below.refl _ _ | (refine Below.alloc ?_ (by first | exact Nat.le_refl _ | omega | (simp; done) | (simp; omega)) _) | (refine Below.setCell ?_ (by first | exact Nat.le_refl _ | omega | (simp; done) | (simp; omega)) _) | exact Below.drew ‹_›)), Box.new w _ _⟩)
  have HS := Lib.hid hS
  have HES := Lib.hid hes
  have HL := Lib.hid hL
  have CF := fun W (h : Slz W W.heap.size A zs) => l11find_any A zs c lo W (by omega) h
  have CC := fun W (h : Slz W W.heap.size A zs) => l11copy_any A zs c W (by omega) hes h
  have HG := Lib.hid (findZ_get zs lo)
  clear hS hes hL
  cases hf : findZ zs lo with
  | none =>
    rw [hf] at CF
    have HP : Hid (putL (datL zs) ⟨lo, lq, les⟩ = insL (datL zs) ⟨lo, lq, les⟩ ∧ putC (datL zs) ⟨lo, lq, les⟩ = 0) := Lib.hid (by
      have := HG.out
      rw [hf] at this
      unfold putL putC
      dsimp only
      rw [this]
      exact ⟨rfl, rfl⟩)
    clear hf HG
    unfold fndV at CF
    go_enter Try.func85, Try.ntmps85
    go_wp2_with fail
    refine (CF _ ((HS.out.below S0.out.bel).more S0.out.bel.size)).mono ?_
    clear CF
    rintro e w1 ⟨rfl, hb1⟩
    have S1 := Lib.hid (S0.out.call hb1)
    clear hb1 S0
    have S0 := Lib.hid ((S1.out.alloc (.cells #[.int .i64 0, .int .i64 0, .slice none 0 0] 54)).alloc (.cells #[] 54))
    have Z00 := ZI.start (w.heap.size + 1) (w1.alloc (.cells #[.int .i64 0, .int .i64 0, .slice none 0 0] 54)) (by have := S1.out.box.lt; simp; omega)
    rw [World.size_alloc] at Z00
    have Z0 := Lib.hid Z00
    clear Z00
    clear S1
    -- the announcements ahead
    go_wp2_with fail
    go_loopw [8, 9] (fun v i wr => ∃ (k : Nat) (ys : List Lz), k ≤ zs.length ∧ i = .int .i64 (k : Int) ∧ Hid (datL ys = (datL zs).take k) ∧ ys.length ≤ k ∧ Hid (∀ (j : Nat) (z : Lz), j < k → zs[j]? = some z → z.o < lo) ∧ ZI (w.heap.size + 1) v ys wr ∧ ST w lo lq lA les.length lc wr) (fun _ i _ => zs.length - (intOf i).toNat)
    case atStart => exact ⟨0, [], Nat.zero_le _, rfl, Lib.hid rfl, Nat.le_refl _, Lib.hid (fun j z h => by omega), Z0.out, S0.out⟩
    case round =>
      obtain ⟨k, ys, hk, rfl, HD, hyk, HJ, hzi, hst⟩ := hrel
      have Z1 := Lib.hid hzi
      have S1 := Lib.hid hst
      obtain ⟨A9, g9, c9, rfl, hg9, -, hc9, -, -⟩ := own_slicez hzi.row hst.box.lt
      obtain ⟨zl, l0, l1, l2, -, -, -⟩ := hst.box.three
      have S2 := Lib.hid S1.out.drew
      have Z2 := Lib.hid Z1.out.drew
      have HW := Lib.hid (show ∀ b o : Nat, wr.drew.cell? ⟨b, o, none⟩ = wr.cell? ⟨b, o, none⟩ from fun _ _ => rfl)
      have hX := fun (x : Ext wr.drew) (bb oo : Nat) (h : bb < wr.heap.size) => (show x.w.cell? ⟨bb, oo, none⟩ = wr.cell? ⟨bb, oo, none⟩ from x.cell bb oo h)
      clear hzi hst S0 Z0
      by_cases hlt : k < zs.length
      · have hlti : (k : Int) < (zs.length : Int) := by omega
        obtain ⟨x, hx⟩ : ∃ x, zs[k]? = some x := ⟨_, List.getElem?_eq_getElem hlt⟩
        obtain ⟨b, off, rfl, hbb, hc1, hc2, hc3, hin⟩ := (HS.out.below S1.out.bel) k x hx
        have hxl := HES.out x (List.mem_of_getElem? hx)
        have hz := S1.out.bel.size
        have z1 : b < wr.heap.size := by omega
        have HIN := Lib.hid hin
        have HDN := Lib.hid (datL_next hx)
        have HX := Lib.hid hx
        obtain ⟨zo, zq, zes, zA, zc, zg⟩ := x
        dsimp only at hc1 hc2 hc3 hxl
        clear hx hin
        by_cases ho : zo < lo
        · go_wp2_with fail
          refine wp_region_staged 14 (by kernel_rfl) (by kernel_rfl) ?_
          refine stage_seg _ 0 [0, 1, 2, 3, 4, 5, 6, 7, 8, 9, 10, 11, 12, 13] (by kernel_rfl) (by kernel_rfl) (by kernel_rfl) (by kernel_rfl) ?_
          (simp only [List.map_cons, List.map_nil, List.getElem?_cons_zero, List.getElem?_cons_succ, Option.getD_some]); (repeat (go_big_quiet_step (fail))); (refine wpQuiet_nil ?_)
          refine stage_end (by kernel_rfl) ?_
          have hc1 : wr.drew.cell? ⟨b, off + k * 3, none⟩ = some (.int .i64 zo) := hc1
          have hc2 : wr.drew.cell? ⟨b, off + k * 3 + 1, none⟩ = some (.int .i64 zq) := hc2
          have hc3 : wr.drew.cell? ⟨b, off + k * 3 + 2, none⟩ = some (.slice zA zes.length zc) := hc3
          have z1 : b < wr.drew.heap.size := z1
          have hz : w.heap.size ≤ wr.drew.heap.size := hz
          have HIN := Lib.hid (show Slb wr.drew w.heap.size zA zes from HIN.out)
          clear hX l0 l1 l2 zl HW S1 Z1
          generalize wr.drew = W2 at *
          go_wp2_with fail
          refine (l11one_any ⟨zo, zq, zes, zA, zc, zg⟩ W2 hxl (Slb.more (w := W2) HIN.out hz)).mono ?_
          rintro e w4 ⟨z, rfl, hd, hinn, hb4⟩
          have S4 := Lib.hid (ST.call (W := W2) S2.out hb4)
          have HB4 := Lib.hid hb4
          have HI := Lib.hid hinn
          have HDD := Lib.hid hd
          have hz4 := S4.out.bel.size
          have hzB : w.heap.size + 1 ≤ W2.heap.size := S2.out.box.lt
          have zb4 := S4.out.box.lt
          clear hb4 hinn hd hc1 hc2 hc3
          obtain ⟨yo, yq, yes, yA, yc, yg⟩ := z
          go_wp2_with (at_builtin; refine wpList_append_own_at _ rfl _ _ 29 rfl (w.heap.size + 1) 54 i0 _ 3 40 Try.underlying29 hi hz0 hz10 hz20 rfl (by decide) _ ys.length _ rfl (owns_kept (owns_kept Z2.out.row HB4.out) ((Below.refl _ _).alloc (Nat.le_refl _) _)) ⟨w4.heap.size, 0, none⟩ 1 1 [.int .i64 yo, .int .i64 yq, .slice yA yes.length yc] rfl rfl (new3z _ _ _ _ _) (one3z _ _ _ rfl rfl rfl) (by unfold maxLen; omega) (by omega) (by simp; omega) ?_; intro v' w5 hown' hgrow hnil hat; have Z5 := Lib.hid (Z2.out.more HB4.out hzB HI.out hown' hgrow); have hrl := Z2.out.row.lt; have S5 := Lib.hid (show ST w lo lq lA les.length lc w5 from (S4.out.alloc (.cells #[.int .i64 yo, .int .i64 yq, .slice yA yes.length yc] 54)).grow hgrow (fun j e => by have := (hrl j e).1; omega)); clear hown' hgrow hnil hat hrl)
          go_roundw
          case rel => exact ⟨k + 1, ys ++ [⟨yo, yq, yes, yA, yc, yg⟩], hlt, by go_num, Lib.hid (by rw [HDN.out, ← HD.out, ← HDD.out]; simp [datL]), by simp; omega, Lib.hid (fun j z hj hz => by
            by_cases hjk : j < k
            · exact HJ.out j z hjk hz
            · obtain rfl : j = k := by omega
              rw [HX.out] at hz
              cases hz
              exact ho), Z5.out, S5.out⟩
          case measure => simp [intOf]; omega
        · have HTW : Hid ((datL zs).takeWhile (fun x => decide (x.o < lo)) = (datL zs).take k) := Lib.hid (tw_data HJ.out (fun z hz => by rw [HX.out] at hz; cases hz; exact ho) hk)
          go_wp2_with fail
          refine wp_region_staged 14 (by kernel_rfl) (by kernel_rfl) ?_
          refine stage_seg _ 0 [0, 1, 2, 3, 4, 5, 6, 7, 8, 9, 10, 11, 12, 13] (by kernel_rfl) (by kernel_rfl) (by kernel_rfl) (by kernel_rfl) ?_
          (simp only [List.map_cons, List.map_nil, List.getElem?_cons_zero, List.getElem?_cons_succ, Option.getD_some]); (repeat (go_big_quiet_step (fail))); (refine wpQuiet_nil ?_)
          refine stage_end (by kernel_rfl) ?_
          clear hX hc1 hc2 hc3 z1 hlti l0 l1 l2 zl HW S1 Z1 HIN HX HDN hz hlt
          -- the new one
          generalize wr.drew = W2 at *
          obtain ⟨zl, l0, l1, l2, -, -, -⟩ := S2.out.box.three
          go_wp2_with fail
          refine (l11one_any ⟨lo, lq, les, lA, lc, lg⟩ W2 hle ((HL.out.below S2.out.bel).more S2.out.bel.size)).mono ?_
          rintro e w4 ⟨z, rfl, hd, hinn, hb4⟩
          have S4 := Lib.hid (S2.out.call hb4)
          have HB4 := Lib.hid hb4
          have HI := Lib.hid hinn
          have HDD := Lib.hid hd
          have hz4 := S4.out.bel.size
          have hzB : w.heap.size + 1 ≤ W2.heap.size := S2.out.box.lt
          have zb4 := S4.out.box.lt
          clear hb4 hinn hd l0 l1 l2 zl
          obtain ⟨yo, yq, yes, yA, yc, yg⟩ := z
          go_wp2_with (at_builtin; refine wpList_append_own_at _ rfl _ _ 29 rfl (w.heap.size + 1) 54 i0 _ 3 40 Try.underlying29 hi hz0 hz10 hz20 rfl (by decide) _ ys.length _ rfl (owns_kept (owns_kept Z2.out.row HB4.out) ((Below.refl _ _).alloc (Nat.le_refl _) _)) ⟨w4.heap.size, 0, none⟩ 1 1 [.int .i64 yo, .int .i64 yq, .slice yA yes.length yc] rfl rfl (new3z _ _ _ _ _) (one3z _ _ _ rfl rfl rfl) (by unfold maxLen; omega) (by omega) (by simp; omega) ?_; intro v' w5 hown' hgrow hnil hat; have Z5 := Lib.hid (Z2.out.more HB4.out hzB HI.out hown' hgrow); have hrl := Z2.out.row.lt; have S5 := Lib.hid (show ST w lo lq lA les.length lc w5 from (S4.out.alloc (.cells #[.int .i64 yo, .int .i64 yq, .slice yA yes.length yc] 54)).grow hgrow (fun j e => by have := (hrl j e).1; omega)); clear hown' hgrow hnil hat hrl)
          have HY : Hid (datL (ys ++ [⟨yo, yq, yes, yA, yc, yg⟩]) = (datL zs).takeWhile (fun x => decide (x.o < lo)) ++ [⟨lo, lq, les⟩] ++ ((datL zs).take 0).filter (fun x => decide (lo < x.o))) := Lib.hid (by
            have h2 : (⟨yo, yq, yes⟩ : La) = ⟨lo, lq, les⟩ := HDD.out
            rw [HTW.out, ← HD.out, ← h2]
            simp [datL])
          have hyl : (ys ++ [(⟨yo, yq, yes, yA, yc, yg⟩ : Lz)]).length ≤ zs.length + 1 + 0 := by simp; omega
          generalize ys ++ [(⟨yo, yq, yes, yA, yc, yg⟩ : Lz)] = ya at *
          clear HTW HD HJ HI HDD HB4 S4 Z2 S2 hz4 hzB zb4 hk hyk
          -- the announcements behind
          go_loopw [8, 10] (fun v i wr => ∃ (k : Nat) (ys : List Lz), k ≤ zs.length ∧ i = .int .i64 (k : Int) ∧ Hid (datL ys = (datL zs).takeWhile (fun x => decide (x.o < lo)) ++ [⟨lo, lq, les⟩] ++ ((datL zs).take k).filter (fun x => decide (lo < x.o))) ∧ ys.length ≤ zs.length + 1 + k ∧ ZI (w.heap.size + 1) v ys wr ∧ ST w lo lq lA les.length lc wr) (fun _ i _ => zs.length - (intOf i).toNat)
          case atStart => exact ⟨0, ya, Nat.zero_le _, rfl, HY, hyl, Z5.out, S5.out⟩
          case round =>
            obtain ⟨k, ys, hk, rfl, HD, hyk, hzi, hst⟩ := hrel
            have Z1 := Lib.hid hzi
            have S1 := Lib.hid hst
            obtain ⟨A9, g9, c9, rfl, hg9, -, hc9, -, -⟩ := own_slicez hzi.row hst.box.lt
            obtain ⟨zl, l0, l1, l2, -, -, -⟩ := hst.box.three
            clear hzi hst S5 Z5 HY hyl
            by_cases hlt : k < zs.length
            · have S2 := Lib.hid S1.out.drew
              have Z2 := Lib.hid Z1.out.drew
              have hX := fun (x : Ext wr.drew) (bb oo : Nat) (h : bb < wr.heap.size) => (show x.w.cell? ⟨bb, oo, none⟩ = wr.cell? ⟨bb, oo, none⟩ from x.cell bb oo h)
              obtain ⟨x, hx⟩ : ∃ x, zs[k]? = some x := ⟨_, List.getElem?_eq_getElem hlt⟩
              obtain ⟨b', off', e', hbb, hc1, hc2, hc3, hin⟩ := (HS.out.below S1.out.bel) k x hx
              cases e'
              have hxl := HES.out x (List.mem_of_getElem? hx)
              have hz := S1.out.bel.size
              have z1 : b < wr.heap.size := by omega
              have HIN := Lib.hid hin
              have HDN := Lib.hid (datL_next hx)
              have HX := Lib.hid hx
              obtain ⟨zo, zq, zes, zA, zc, zg⟩ := x
              dsimp only at hc1 hc2 hc3 hxl
              clear hx hin
              have HFN := Lib.hid (filter_next (p := fun x => decide (lo < x.o)) HX.out)
              go_wp2_with fail
              refine wp_region_staged 8 (by kernel_rfl) (by kernel_rfl) ?_
              refine stage_seg _ 0 [0, 1, 2, 3, 4, 5, 6, 7] (by kernel_rfl) (by kernel_rfl) (by kernel_rfl) (by kernel_rfl) ?_
              (simp only [List.map_cons, List.map_nil, List.getElem?_cons_zero, List.getElem?_cons_succ, Option.getD_some]); (repeat (go_big_quiet_step (fail))); (refine wpQuiet_nil ?_)
              refine stage_end (by kernel_rfl) ?_
              have hc1 : wr.drew.cell? ⟨b, off + k * 3, none⟩ = some (.int .i64 zo) := hc1
              have hc2 : wr.drew.cell? ⟨b, off + k * 3 + 1, none⟩ = some (.int .i64 zq) := hc2
              have hc3 : wr.drew.cell? ⟨b, off + k * 3 + 2, none⟩ = some (.slice zA zes.length zc) := hc3
              have z1 : b < wr.drew.heap.size := z1
              have hz : w.heap.size ≤ wr.drew.heap.size := hz
              have HIN := Lib.hid (show Slb wr.drew w.heap.size zA zes from HIN.out)
              clear hX l0 l1 l2 zl S1 Z1
              generalize wr.drew = W2 at *
              by_cases ho : lo < zo
              · go_wp2_with fail
                refine (l11one_any ⟨zo, zq, zes, zA, zc, zg⟩ W2 hxl (Slb.more (w := W2) HIN.out hz)).mono ?_
                rintro e w4 ⟨z, rfl, hd, hinn, hb4⟩
                have S4 := Lib.hid (ST.call (W := W2) S2.out hb4)
                have HB4 := Lib.hid hb4
                have HI := Lib.hid hinn
                have HDD := Lib.hid hd
                have hz4 := S4.out.bel.size
                have hzB : w.heap.size + 1 ≤ W2.heap.size := S2.out.box.lt
                have zb4 := S4.out.box.lt
                clear hb4 hinn hd hc1 hc2 hc3
                obtain ⟨yo, yq, yes, yA, yc, yg⟩ := z
                go_wp2_with (at_builtin; refine wpList_append_own_at _ rfl _ _ 29 rfl (w.heap.size + 1) 54 i0 _ 3 40 Try.underlying29 hi hz0 hz10 hz20 rfl (by decide) _ ys.length _ rfl (owns_kept (owns_kept Z2.out.row HB4.out) ((Below.refl _ _).alloc (Nat.le_refl _) _)) ⟨w4.heap.size, 0, none⟩ 1 1 [.int .i64 yo, .int .i64 yq, .slice yA yes.length yc] rfl rfl (new3z _ _ _ _ _) (one3z _ _ _ rfl rfl rfl) (by unfold maxLen; omega) (by omega) (by simp; omega) ?_; intro v' w5 hown' hgrow hnil hat; have Z5 := Lib.hid (Z2.out.more HB4.out hzB HI.out hown' hgrow); have hrl := Z2.out.row.lt; have S5 := Lib.hid (show ST w lo lq lA les.length lc w5 from (S4.out.alloc (.cells #[.int .i64 yo, .int .i64 yq, .slice yA yes.length yc] 54)).grow hgrow (fun j e => by have := (hrl j e).1; omega)); clear hown' hgrow hnil hat hrl)
                go_roundw
                case rel => exact ⟨k + 1, ys ++ [⟨yo, yq, yes, yA, yc, yg⟩], hlt, by go_num, Lib.hid (by
                  have h1 := HFN.out
                  rw [if_pos (decide_eq_true ho)] at h1
                  rw [h1, ← List.append_assoc, ← HD.out, ← HDD.out]
                  simp [datL]), by simp; omega, Z5.out, S5.out⟩
                case measure => simp [intOf]; omega
              · clear hc1 hc2 hc3
                go_wp2_with fail
                go_roundw
                case rel => exact ⟨k + 1, ys, hlt, by go_num, Lib.hid (by
                  have h1 := HFN.out
                  rw [if_neg (by simpa using ho)] at h1
                  rw [h1, List.append_nil]
                  exact HD.out), by omega, Z2.out, S2.out⟩
                case measure => simp [intOf]; omega
            · obtain rfl : k = zs.length := by omega
              go_wp2_with fail
              go_returns
              refine ⟨ys, A9, c9, by rw [HP.out.2]; rfl, ?_, Z1.out.down (Nat.le_succ _), S1.out.bel⟩
              rw [HP.out.1, HD.out, show zs.length = (datL zs).length by simp [datL], List.take_length]
              unfold insL
              rw [List.append_assoc]
              rfl
      · have hlti : decide ((k : Int) < (zs.length : Int)) = false := by rw [decide_eq_false_iff_not]; omega
        have HTW : Hid ((datL zs).takeWhile (fun x => decide (x.o < lo)) = (datL zs).take k) := Lib.hid (tw_data HJ.out (fun z hz => by have := (List.getElem?_eq_some_iff.1 hz).1; omega) hk)
        go_wp2_with fail
        refine wp_region_staged 14 (by kernel_rfl) (by kernel_rfl) ?_
        refine stage_seg _ 0 [0, 1, 2, 3, 4, 5, 6, 7, 8, 9, 10, 11, 12, 13] (by kernel_rfl) (by kernel_rfl) (by kernel_rfl) (by kernel_rfl) ?_
        (simp only [List.map_cons, List.map_nil, List.getElem?_cons_zero, List.getElem?_cons_succ, Option.getD_some]); (repeat (go_big_quiet_step (fail))); (refine wpQuiet_nil ?_)
        refine stage_end (by kernel_rfl) ?_
        clear hX hlti l0 l1 l2 zl HW S1 Z1 hlt
        -- the new one
        generalize wr.drew = W2 at *
        obtain ⟨zl, l0, l1, l2, -, -, -⟩ := S2.out.box.three
        go_wp2_with fail
        refine (l11one_any ⟨lo, lq, les, lA, lc, lg⟩ W2 hle ((HL.out.below S2.out.bel).more S2.out.bel.size)).mono ?_
        rintro e w4 ⟨z, rfl, hd, hinn, hb4⟩
        have S4 := Lib.hid (S2.out.call hb4)
        have HB4 := Lib.hid hb4
        have HI := Lib.hid hinn
        have HDD := Lib.hid hd
        have hz4 := S4.out.bel.size
        have hzB : w.heap.size + 1 ≤ W2.heap.size := S2.out.box.lt
        have zb4 := S4.out.box.lt
        clear hb4 hinn hd l0 l1 l2 zl
        obtain ⟨yo, yq, yes, yA, yc, yg⟩ := z
        go_wp2_with (at_builtin; refine wpList_append_own_at _ rfl _ _ 29 rfl (w.heap.size + 1) 54 i0 _ 3 40 Try.underlying29 hi hz0 hz10 hz20 rfl (by decide) _ ys.length _ rfl (owns_kept (owns_kept Z2.out.row HB4.out) ((Below.refl _ _).alloc (Nat.le_refl _) _)) ⟨w4.heap.size, 0, none⟩ 1 1 [.int .i64 yo, .int .i64 yq, .slice yA yes.length yc] rfl rfl (new3z _ _ _ _ _) (one3z _ _ _ rfl rfl rfl) (by unfold maxLen; omega) (by omega) (by simp; omega) ?_; intro v' w5 hown' hgrow hnil hat; have Z5 := Lib.hid (Z2.out.more HB4.out hzB HI.out hown' hgrow); have hrl := Z2.out.row.lt; have S5 := Lib.hid (show ST w lo lq lA les.length lc w5 from (S4.out.alloc (.cells #[.int .i64 yo, .int .i64 yq, .slice yA yes.length yc] 54)).grow hgrow (fun j e => by have := (hrl j e).1; omega)); clear hown' hgrow hnil hat hrl)
        have HY : Hid (datL (ys ++ [⟨yo, yq, yes, yA, yc, yg⟩]) = (datL zs).takeWhile (fun x => decide (x.o < lo)) ++ [⟨lo, lq, les⟩] ++ ((datL zs).take 0).filter (fun x => decide (lo < x.o))) := Lib.hid (by
          have h2 : (⟨yo, yq, yes⟩ : La) = ⟨lo, lq, les⟩ := HDD.out
          rw [HTW.out, ← HD.out, ← h2]
          simp [datL])
        have hyl : (ys ++ [(⟨yo, yq, yes, yA, yc, yg⟩ : Lz)]).length ≤ zs.length + 1 + 0 := by simp; omega
        generalize ys ++ [(⟨yo, yq, yes, yA, yc, yg⟩ : Lz)] = ya at *
        clear HTW HD HJ HI HDD HB4 S4 Z2 S2 hz4 hzB zb4 hk hyk
        -- the announcements behind
        go_loopw [8, 10] (fun v i wr => ∃ (k : Nat) (ys : List Lz), k ≤ zs.length ∧ i = .int .i64 (k : Int) ∧ Hid (datL ys = (datL zs).takeWhile (fun x => decide (x.o < lo)) ++ [⟨lo, lq, les⟩] ++ ((datL zs).take k).filter (fun x => decide (lo < x.o))) ∧ ys.length ≤ zs.length + 1 + k ∧ ZI (w.heap.size + 1) v ys wr ∧ ST w lo lq lA les.length lc wr) (fun _ i _ => zs.length - (intOf i).toNat)
        case atStart => exact ⟨0, ya, Nat.zero_le _, rfl, HY, hyl, Z5.out, S5.out⟩
        case round =>
          obtain ⟨k, ys, hk, rfl, HD, hyk, hzi, hst⟩ := hrel
          have Z1 := Lib.hid hzi
          have S1 := Lib.hid hst
          obtain ⟨A9, g9, c9, rfl, hg9, -, hc9, -, -⟩ := own_slicez hzi.row hst.box.lt
          obtain ⟨zl, l0, l1, l2, -, -, -⟩ := hst.box.three
          clear hzi hst S5 Z5 HY hyl
          by_cases hlt : k < zs.length
          · have S2 := Lib.hid S1.out.drew
            have Z2 := Lib.hid Z1.out.drew
            have hX := fun (x : Ext wr.drew) (bb oo : Nat) (h : bb < wr.heap.size) => (show x.w.cell? ⟨bb, oo, none⟩ = wr.cell? ⟨bb, oo, none⟩ from x.cell bb oo h)
            obtain ⟨x, hx⟩ : ∃ x, zs[k]? = some x := ⟨_, List.getElem?_eq_getElem hlt⟩
            obtain ⟨b, off, rfl, hbb, hc1, hc2, hc3, hin⟩ := (HS.out.below S1.out.bel) k x hx
            have hxl := HES.out x (List.mem_of_getElem? hx)
            have hz := S1.out.bel.size
            have z1 : b < wr.heap.size := by omega
            have HIN := Lib.hid hin
            have HDN := Lib.hid (datL_next hx)
            have HX := Lib.hid hx
            obtain ⟨zo, zq, zes, zA, zc, zg⟩ := x
            dsimp only at hc1 hc2 hc3 hxl
            clear hx hin
            have HFN := Lib.hid (filter_next (p := fun x => decide (lo < x.o)) HX.out)
            go_wp2_with fail
            refine wp_region_staged 8 (by kernel_rfl) (by kernel_rfl) ?_
            refine stage_seg _ 0 [0, 1, 2, 3, 4, 5, 6, 7] (by kernel_rfl) (by kernel_rfl) (by kernel_rfl) (by kernel_rfl) ?_
            (simp only [List.map_cons, List.map_nil, List.getElem?_cons_zero, List.getElem?_cons_succ, Option.getD_some]); (repeat (go_big_quiet_step (fail))); (refine wpQuiet_nil ?_)
            refine stage_end (by kernel_rfl) ?_
            have hc1 : wr.drew.cell? ⟨b, off + k * 3, none⟩ = some (.int .i64 zo) := hc1
            have hc2 : wr.drew.cell? ⟨b, off + k * 3 + 1, none⟩ = some (.int .i64 zq) := hc2
            have hc3 : wr.drew.cell? ⟨b, off + k * 3 + 2, none⟩ = some (.slice zA zes.length zc) := hc3
            have z1 : b < wr.drew.heap.size := z1
            have hz : w.heap.size ≤ wr.drew.heap.size := hz
            have HIN := Lib.hid (show Slb wr.drew w.heap.size zA zes from HIN.out)
            clear hX l0 l1 l2 zl S1 Z1
            generalize wr.drew = W2 at *
            by_cases ho : lo < zo
            · go_wp2_with fail
              refine (l11one_any ⟨zo, zq, zes, zA, zc, zg⟩ W2 hxl (Slb.more (w := W2) HIN.out hz)).mono ?_
              rintro e w4 ⟨z, rfl, hd, hinn, hb4⟩
              have S4 := Lib.hid (ST.call (W := W2) S2.out hb4)
              have HB4 := Lib.hid hb4
              have HI := Lib.hid hinn
              have HDD := Lib.hid hd
              have hz4 := S4.out.bel.size
              have hzB : w.heap.size + 1 ≤ W2.heap.size := S2.out.box.lt
              have zb4 := S4.out.box.lt
              clear hb4 hinn hd hc1 hc2 hc3
              obtain ⟨yo, yq, yes, yA, yc, yg⟩ := z
              go_wp2_with (at_builtin; refine wpList_append_own_at _ rfl _ _ 29 rfl (w.heap.size + 1) 54 i0 _ 3 40 Try.underlying29 hi hz0 hz10 hz20 rfl (by decide) _ ys.length _ rfl (owns_kept (owns_kept Z2.out.row HB4.out) ((Below.refl _ _).alloc (Nat.le_refl _) _)) ⟨w4.heap.size, 0, none⟩ 1 1 [.int .i64 yo, .int .i64 yq, .slice yA yes.length yc] rfl rfl (new3z _ _ _ _ _) (one3z _ _ _ rfl rfl rfl) (by unfold maxLen; omega) (by omega) (by simp; omega) ?_; intro v' w5 hown' hgrow hnil hat; have Z5 := Lib.hid (Z2.out.more HB4.out hzB HI.out hown' hgrow); have hrl := Z2.out.row.lt; have S5 := Lib.hid (show ST w lo lq lA les.length lc w5 from (S4.out.alloc (.cells #[.int .i64 yo, .int .i64 yq, .slice yA yes.length yc] 54)).grow hgrow (fun j e => by have := (hrl j e).1; omega)); clear hown' hgrow hnil hat hrl)
              go_roundw
              case rel => exact ⟨k + 1, ys ++ [⟨yo, yq, yes, yA, yc, yg⟩], hlt, by go_num, Lib.hid (by
                have h1 := HFN.out
                rw [if_pos (decide_eq_true ho)] at h1
                rw [h1, ← List.append_assoc, ← HD.out, ← HDD.out]
                simp [datL]), by simp; omega, Z5.out, S5.out⟩
              case measure => simp [intOf]; omega
            · clear hc1 hc2 hc3
              go_wp2_with fail
              go_roundw
              case rel => exact ⟨k + 1, ys, hlt, by go_num, Lib.hid (by
                have h1 := HFN.out
                rw [if_neg (by simpa using ho)] at h1
                rw [h1, List.append_nil]
                exact HD.out), by omega, Z2.out, S2.out⟩
              case measure => simp [intOf]; omega
          · obtain rfl : k = zs.length := by omega
            go_wp2_with fail
            go_returns
            refine ⟨ys, A9, c9, by rw [HP.out.2]; rfl, ?_, Z1.out.down (Nat.le_succ _), S1.out.bel⟩
            rw [HP.out.1, HD.out, show zs.length = (datL zs).length by simp [datL], List.take_length]
            unfold insL
            rw [List.append_assoc]
            rfl
  | some x =>
    rw [hf] at CF
    have hgx : getL (datL zs) lo = some x.d := by rw [HG.out, hf]; rfl
    have HGX := Lib.hid hgx
    obtain ⟨xo, xq, xes, xA, xc, xg⟩ := x
    unfold fndV at CF
    clear hf HG hgx
    go_enter Try.func85, Try.ntmps85
    go_wp2_with fail
    refine (CF _ ((HS.out.below S0.out.bel).more S0.out.bel.size)).mono ?_
    clear CF
    rintro e w1 ⟨rfl, hb1⟩
    have S1 := Lib.hid (S0.out.call hb1)
    clear hb1 S0
    by_cases h1 : xq = lq
    · have h1' : (xq == lq) = true := by simp [h1]
      have HP : Hid (putL (datL zs) ⟨lo, lq, les⟩ = datL zs ∧ putC (datL zs) ⟨lo, lq, les⟩ = 1) := Lib.hid ⟨putL_keep HGX.out (by show lq ≤ xq; omega), by unfold putC; dsimp only; rw [HGX.out]; dsimp only; rw [if_pos h1]⟩
      clear h1
      obtain ⟨zl, l0, l1, l2, -, -, -⟩ := S1.out.box.three
      have S2 := Lib.hid (S1.out.alloc (.cells #[.int .i64 xo, .int .i64 xq, .slice xA xes.length xc] 54))
      go_wp2_with fail
      refine (CC _ ((HS.out.below S2.out.bel).more S2.out.bel.size)).mono ?_
      rintro e w3 ⟨ys, A3, c3, rfl, hd3, hz3, hb3⟩
      have S3 := Lib.hid (S2.out.call hb3)
      have Z3 := Lib.hid hz3
      have D3 := Lib.hid hd3
      clear hb3 hz3 hd3
      go_wp2_with fail
      go_returns
      exact ⟨ys, A3, c3, by rw [HP.out.2]; rfl, by rw [HP.out.1]; exact D3.out, Z3.out.down S2.out.bel.size, S3.out.bel⟩
    · have h1' : (xq == lq) = false := by simpa using h1
      by_cases h2 : lq < xq
      · have HP : Hid (putL (datL zs) ⟨lo, lq, les⟩ = datL zs ∧ putC (datL zs) ⟨lo, lq, les⟩ = 2) := Lib.hid ⟨putL_keep HGX.out (by show lq ≤ xq; omega), by unfold putC; dsimp only; rw [HGX.out]; dsimp only; rw [if_neg h1, if_pos h2]⟩
        clear h1
        obtain ⟨zl, l0, l1, l2, -, -, -⟩ := S1.out.box.three
        have S2 := Lib.hid (S1.out.alloc (.cells #[.int .i64 xo, .int .i64 xq, .slice xA xes.length xc] 54))
        go_wp2_with fail
        refine (CC _ ((HS.out.below S2.out.bel).more S2.out.bel.size)).mono ?_
        rintro e w3 ⟨ys, A3, c3, rfl, hd3, hz3, hb3⟩
        have S3 := Lib.hid (S2.out.call hb3)
        have Z3 := Lib.hid hz3
        have D3 := Lib.hid hd3
        clear hb3 hz3 hd3
        go_wp2_with fail
        go_returns
        exact ⟨ys, A3, c3, by rw [HP.out.2]; rfl, by rw [HP.out.1]; exact D3.out, Z3.out.down S2.out.bel.size, S3.out.bel⟩
      · have HP : Hid (putL (datL zs) ⟨lo, lq, les⟩ = insL (datL zs) ⟨lo, lq, les⟩ ∧ putC (datL zs) ⟨lo, lq, les⟩ = 0) := Lib.hid ⟨by unfold putL; dsimp only; rw [HGX.out]; dsimp only; rw [if_neg (by omega)], by unfold putC; dsimp only; rw [HGX.out]; dsimp only; rw [if_neg h1, if_neg h2]⟩
        have h2' : xq ≤ lq := by omega
        clear h1 h2
        obtain ⟨zl, l0, l1, l2, -, -, -⟩ := S1.out.box.three
        have S0 := Lib.hid ((S1.out.alloc (.cells #[.int .i64 xo, .int .i64 xq, .slice xA xes.length xc] 54)).alloc (.cells #[] 54))
        have Z00 := ZI.start (w.heap.size + 1) (w1.alloc (.cells #[.int .i64 xo, .int .i64 xq, .slice xA xes.length xc] 54)) (by have := S1.out.box.lt; simp; omega)
        rw [World.size_alloc] at Z00
        have Z0 := Lib.hid Z00
        clear Z00
        clear S1
        -- the announcements ahead
        go_wp2_with fail
        go_loopw [8, 9] (fun v i wr => ∃ (k : Nat) (ys : List Lz), k ≤ zs.length ∧ i = .int .i64 (k : Int) ∧ Hid (datL ys = (datL zs).take k) ∧ ys.length ≤ k ∧ Hid (∀ (j : Nat) (z : Lz), j < k → zs[j]? = some z → z.o < lo) ∧ ZI (w.heap.size + 1) v ys wr ∧ ST w lo lq lA les.length lc wr) (fun _ i _ => zs.length - (intOf i).toNat)
        case atStart => exact ⟨0, [], Nat.zero_le _, rfl, Lib.hid rfl, Nat.le_refl _, Lib.hid (fun j z h => by omega), Z0.out, S0.out⟩
        case round =>
          obtain ⟨k, ys, hk, rfl, HD, hyk, HJ, hzi, hst⟩ := hrel
          have Z1 := Lib.hid hzi
          have S1 := Lib.hid hst
          obtain ⟨A9, g9, c9, rfl, hg9, -, hc9, -, -⟩ := own_slicez hzi.row hst.box.lt
          obtain ⟨zl, l0, l1, l2, -, -, -⟩ := hst.box.three
          have S2 := Lib.hid S1.out.drew
          have Z2 := Lib.hid Z1.out.drew
          have HW := Lib.hid (show ∀ b o : Nat, wr.drew.cell? ⟨b, o, none⟩ = wr.cell? ⟨b, o, none⟩ from fun _ _ => rfl)
          have hX := fun (x : Ext wr.drew) (bb oo : Nat) (h : bb < wr.heap.size) => (show x.w.cell? ⟨bb, oo, none⟩ = wr.cell? ⟨bb, oo, none⟩ from x.cell bb oo h)
          clear hzi hst S0 Z0
          by_cases hlt : k < zs.length
          · have hlti : (k : Int) < (zs.length : Int) := by omega
            obtain ⟨x, hx⟩ : ∃ x, zs[k]? = some x := ⟨_, List.getElem?_eq_getElem hlt⟩
            obtain ⟨b, off, rfl, hbb, hc1, hc2, hc3, hin⟩ := (HS.out.below S1.out.bel) k x hx
            have hxl := HES.out x (List.mem_of_getElem? hx)
            have hz := S1.out.bel.size
            have z1 : b < wr.heap.size := by omega
            have HIN := Lib.hid hin
            have HDN := Lib.hid (datL_next hx)
            have HX := Lib.hid hx
            obtain ⟨zo, zq, zes, zA, zc, zg⟩ := x
            dsimp only at hc1 hc2 hc3 hxl
            clear hx hin
            by_cases ho : zo < lo
            · go_wp2_with fail
              refine wp_region_staged 14 (by kernel_rfl) (by kernel_rfl) ?_
              refine stage_seg _ 0 [0, 1, 2, 3, 4, 5, 6, 7, 8, 9, 10, 11, 12, 13] (by kernel_rfl) (by kernel_rfl) (by kernel_rfl) (by kernel_rfl) ?_
              (simp only [List.map_cons, List.map_nil, List.getElem?_cons_zero, List.getElem?_cons_succ, Option.getD_some]); (repeat (go_big_quiet_step (fail))); (refine wpQuiet_nil ?_)
              refine stage_end (by kernel_rfl) ?_
              have hc1 : wr.drew.cell? ⟨b, off + k * 3, none⟩ = some (.int .i64 zo) := hc1
              have hc2 : wr.drew.cell? ⟨b, off + k * 3 + 1, none⟩ = some (.int .i64 zq) := hc2
              have hc3 : wr.drew.cell? ⟨b, off + k * 3 + 2, none⟩ = some (.slice zA zes.length zc) := hc3
              have z1 : b < wr.drew.heap.size := z1
              have hz : w.heap.size ≤ wr.drew.heap.size := hz
              have HIN := Lib.hid (show Slb wr.drew w.heap.size zA zes from HIN.out)
              clear hX l0 l1 l2 zl HW S1 Z1
              generalize wr.drew = W2 at *
              go_wp2_with fail
              refine (l11one_any ⟨zo, zq, zes, zA, zc, zg⟩ W2 hxl (Slb.more (w := W2) HIN.out hz)).mono ?_
              rintro e w4 ⟨z, rfl, hd, hinn, hb4⟩
              have S4 := Lib.hid (ST.call (W := W2) S2.out hb4)
              have HB4 := Lib.hid hb4
              have HI := Lib.hid hinn
              have HDD := Lib.hid hd
              have hz4 := S4.out.bel.size
              have hzB : w.heap.size + 1 ≤ W2.heap.size := S2.out.box.lt
              have zb4 := S4.out.box.lt
              clear hb4 hinn hd hc1 hc2 hc3
              obtain ⟨yo, yq, yes, yA, yc, yg⟩ := z
              go_wp2_with (at_builtin; refine wpList_append_own_at _ rfl _ _ 29 rfl (w.heap.size + 1) 54 i0 _ 3 40 Try.underlying29 hi hz0 hz10 hz20 rfl (by decide) _ ys.length _ rfl (owns_kept (owns_kept Z2.out.row HB4.out) ((Below.refl _ _).alloc (Nat.le_refl _) _)) ⟨w4.heap.size, 0, none⟩ 1 1 [.int .i64 yo, .int .i64 yq, .slice yA yes.length yc] rfl rfl (new3z _ _ _ _ _) (one3z _ _ _ rfl rfl rfl) (by unfold maxLen; omega) (by omega) (by simp; omega) ?_; intro v' w5 hown' hgrow hnil hat; have Z5 := Lib.hid (Z2.out.more HB4.out hzB HI.out hown' hgrow); have hrl := Z2.out.row.lt; have S5 := Lib.hid (show ST w lo lq lA les.length lc w5 from (S4.out.alloc (.cells #[.int .i64 yo, .int .i64 yq, .slice yA yes.length yc] 54)).grow hgrow (fun j e => by have := (hrl j e).1; omega)); clear hown' hgrow hnil hat hrl)
              go_roundw
              case rel => exact ⟨k + 1, ys ++ [⟨yo, yq, yes, yA, yc, yg⟩], hlt, by go_num, Lib.hid (by rw [HDN.out, ← HD.out, ← HDD.out]; simp [datL]), by simp; omega, Lib.hid (fun j z hj hz => by
                by_cases hjk : j < k
                · exact HJ.out j z hjk hz
                · obtain rfl : j = k := by omega
                  rw [HX.out] at hz
                  cases hz
                  exact ho), Z5.out, S5.out⟩
              case measure => simp [intOf]; omega
            · have HTW : Hid ((datL zs).takeWhile (fun x => decide (x.o < lo)) = (datL zs).take k) := Lib.hid (tw_data HJ.out (fun z hz => by rw [HX.out] at hz; cases hz; exact ho) hk)
              go_wp2_with fail
              refine wp_region_staged 14 (by kernel_rfl) (by kernel_rfl) ?_
              refine stage_seg _ 0 [0, 1, 2, 3, 4, 5, 6, 7, 8, 9, 10, 11, 12, 13] (by kernel_rfl) (by kernel_rfl) (by kernel_rfl) (by kernel_rfl) ?_
              (simp only [List.map_cons, List.map_nil, List.getElem?_cons_zero, List.getElem?_cons_succ, Option.getD_some]); (repeat (go_big_quiet_step (fail))); (refine wpQuiet_nil ?_)
              refine stage_end (by kernel_rfl) ?_
              clear hX hc1 hc2 hc3 z1 hlti l0 l1 l2 zl HW S1 Z1 HIN HX HDN hz hlt
              -- the new one
              generalize wr.drew = W2 at *
              obtain ⟨zl, l0, l1, l2, -, -, -⟩ := S2.out.box.three
              go_wp2_with fail
              refine (l11one_any ⟨lo, lq, les, lA, lc, lg⟩ W2 hle ((HL.out.below S2.out.bel).more S2.out.bel.size)).mono ?_
              rintro e w4 ⟨z, rfl, hd, hinn, hb4⟩
              have S4 := Lib.hid (S2.out.call hb4)
              have HB4 := Lib.hid hb4
              have HI := Lib.hid hinn
              have HDD := Lib.hid hd
              have hz4 := S4.out.bel.size
              have hzB : w.heap.size + 1 ≤ W2.heap.size := S2.out.box.lt
              have zb4 := S4.out.box.lt
              clear hb4 hinn hd l0 l1 l2 zl
              obtain ⟨yo, yq, yes, yA, yc, yg⟩ := z
              go_wp2_with (at_builtin; refine wpList_append_own_at _ rfl _ _ 29 rfl (w.heap.size + 1) 54 i0 _ 3 40 Try.underlying29 hi hz0 hz10 hz20 rfl (by decide) _ ys.length _ rfl (owns_kept (owns_kept Z2.out.row HB4.out) ((Below.refl _ _).alloc (Nat.le_refl _) _)) ⟨w4.heap.size, 0, none⟩ 1 1 [.int .i64 yo, .int .i64 yq, .slice yA yes.length yc] rfl rfl (new3z _ _ _ _ _) (one3z _ _ _ rfl rfl rfl) (by unfold maxLen; omega) (by omega) (by simp; omega) ?_; intro v' w5 hown' hgrow hnil hat; have Z5 := Lib.hid (Z2.out.more HB4.out hzB HI.out hown' hgrow); have hrl := Z2.out.row.lt; have S5 := Lib.hid (show ST w lo lq lA les.length lc w5 from (S4.out.alloc (.cells #[.int .i64 yo, .int .i64 yq, .slice yA yes.length yc] 54)).grow hgrow (fun j e => by have := (hrl j e).1; omega)); clear hown' hgrow hnil hat hrl)
              have HY : Hid (datL (ys ++ [⟨yo, yq, yes, yA, yc, yg⟩]) = (datL zs).takeWhile (fun x => decide (x.o < lo)) ++ [⟨lo, lq, les⟩] ++ ((datL zs).take 0).filter (fun x => decide (lo < x.o))) := Lib.hid (by
                have h2 : (⟨yo, yq, yes⟩ : La) = ⟨lo, lq, les⟩ := HDD.out
                rw [HTW.out, ← HD.out, ← h2]
                simp [datL])
              have hyl : (ys ++ [(⟨yo, yq, yes, yA, yc, yg⟩ : Lz)]).length ≤ zs.length + 1 + 0 := by simp; omega
              generalize ys ++ [(⟨yo, yq, yes, yA, yc, yg⟩ : Lz)] = ya at *
              clear HTW HD HJ HI HDD HB4 S4 Z2 S2 hz4 hzB zb4 hk hyk
              -- the announcements behind
              go_loopw [8, 10] (fun v i wr => ∃ (k : Nat) (ys : List Lz), k ≤ zs.length ∧ i = .int .i64 (k : Int) ∧ Hid (datL ys = (datL zs).takeWhile (fun x => decide (x.o < lo)) ++ [⟨lo, lq, les⟩] ++ ((datL zs).take k).filter (fun x => decide (lo < x.o))) ∧ ys.length ≤ zs.length + 1 + k ∧ ZI (w.heap.size + 1) v ys wr ∧ ST w lo lq lA les.length lc wr) (fun _ i _ => zs.length - (intOf i).toNat)
              case atStart => exact ⟨0, ya, Nat.zero_le _, rfl, HY, hyl, Z5.out, S5.out⟩
              case round =>
                obtain ⟨k, ys, hk, rfl, HD, hyk, hzi, hst⟩ := hrel
                have Z1 := Lib.hid hzi
                have S1 := Lib.hid hst
                obtain ⟨A9, g9, c9, rfl, hg9, -, hc9, -, -⟩ := own_slicez hzi.row hst.box.lt
                obtain ⟨zl, l0, l1, l2, -, -, -⟩ := hst.box.three
                clear hzi hst S5 Z5 HY hyl
                by_cases hlt : k < zs.length
                · have S2 := Lib.hid S1.out.drew
                  have Z2 := Lib.hid Z1.out.drew
                  have hX := fun (x : Ext wr.drew) (bb oo : Nat) (h : bb < wr.heap.size) => (show x.w.cell? ⟨bb, oo, none⟩ = wr.cell? ⟨bb, oo, none⟩ from x.cell bb oo h)
                  obtain ⟨x, hx⟩ : ∃ x, zs[k]? = some x := ⟨_, List.getElem?_eq_getElem hlt⟩
                  obtain ⟨b', off', e', hbb, hc1, hc2, hc3, hin⟩ := (HS.out.below S1.out.bel) k x hx
                  cases e'
                  have hxl := HES.out x (List.mem_of_getElem? hx)
                  have hz := S1.out.bel.size
                  have z1 : b < wr.heap.size := by omega
                  have HIN := Lib.hid hin
                  have HDN := Lib.hid (datL_next hx)
                  have HX := Lib.hid hx
                  obtain ⟨zo, zq, zes, zA, zc, zg⟩ := x
                  dsimp only at hc1 hc2 hc3 hxl
                  clear hx hin
                  have HFN := Lib.hid (filter_next (p := fun x => decide (lo < x.o)) HX.out)
                  go_wp2_with fail
                  refine wp_region_staged 8 (by kernel_rfl) (by kernel_rfl) ?_
                  refine stage_seg _ 0 [0, 1, 2, 3, 4, 5, 6, 7] (by kernel_rfl) (by kernel_rfl) (by kernel_rfl) (by kernel_rfl) ?_
                  (simp only [List.map_cons, List.map_nil, List.getElem?_cons_zero, List.getElem?_cons_succ, Option.getD_some]); (repeat (go_big_quiet_step (fail))); (refine wpQuiet_nil ?_)
                  refine stage_end (by kernel_rfl) ?_
                  have hc1 : wr.drew.cell? ⟨b, off + k * 3, none⟩ = some (.int .i64 zo) := hc1
                  have hc2 : wr.drew.cell? ⟨b, off + k * 3 + 1, none⟩ = some (.int .i64 zq) := hc2
                  have hc3 : wr.drew.cell? ⟨b, off + k * 3 + 2, none⟩ = some (.slice zA zes.length zc) := hc3
                  have z1 : b < wr.drew.heap.size := z1
                  have hz : w.heap.size ≤ wr.drew.heap.size := hz
                  have HIN := Lib.hid (show Slb wr.drew w.heap.size zA zes from HIN.out)
                  clear hX l0 l1 l2 zl S1 Z1
                  generalize wr.drew = W2 at *
                  by_cases ho : lo < zo
                  · go_wp2_with fail
                    refine (l11one_any ⟨zo, zq, zes, zA, zc, zg⟩ W2 hxl (Slb.more (w := W2) HIN.out hz)).mono ?_
                    rintro e w4 ⟨z, rfl, hd, hinn, hb4⟩
                    have S4 := Lib.hid (ST.call (W := W2) S2.out hb4)
                    have HB4 := Lib.hid hb4
                    have HI := Lib.hid hinn
                    have HDD := Lib.hid hd
                    have hz4 := S4.out.bel.size
                    have hzB : w.heap.size + 1 ≤ W2.heap.size := S2.out.box.lt
                    have zb4 := S4.out.box.lt
                    clear hb4 hinn hd hc1 hc2 hc3
                    obtain ⟨yo, yq, yes, yA, yc, yg⟩ := z
                    go_wp2_with (at_builtin; refine wpList_append_own_at _ rfl _ _ 29 rfl (w.heap.size + 1) 54 i0 _ 3 40 Try.underlying29 hi hz0 hz10 hz20 rfl (by decide) _ ys.length _ rfl (owns_kept (owns_kept Z2.out.row HB4.out) ((Below.refl _ _).alloc (Nat.le_refl _) _)) ⟨w4.heap.size, 0, none⟩ 1 1 [.int .i64 yo, .int .i64 yq, .slice yA yes.length yc] rfl rfl (new3z _ _ _ _ _) (one3z _ _ _ rfl rfl rfl) (by unfold maxLen; omega) (by omega) (by simp; omega) ?_; intro v' w5 hown' hgrow hnil hat; have Z5 := Lib.hid (Z2.out.more HB4.out hzB HI.out hown' hgrow); have hrl := Z2.out.row.lt; have S5 := Lib.hid (show ST w lo lq lA les.length lc w5 from (S4.out.alloc (.cells #[.int .i64 yo, .int .i64 yq, .slice yA yes.length yc] 54)).grow hgrow (fun j e => by have := (hrl j e).1; omega)); clear hown' hgrow hnil hat hrl)
                    go_roundw
                    case rel => exact ⟨k + 1, ys ++ [⟨yo, yq, yes, yA, yc, yg⟩], hlt, by go_num, Lib.hid (by
                      have h1 := HFN.out
                      rw [if_pos (decide_eq_true ho)] at h1
                      rw [h1, ← List.append_assoc, ← HD.out, ← HDD.out]
                      simp [datL]), by simp; omega, Z5.out, S5.out⟩
                    case measure => simp [intOf]; omega
                  · clear hc1 hc2 hc3
                    go_wp2_with fail
                    go_roundw
                    case rel => exact ⟨k + 1, ys, hlt, by go_num, Lib.hid (by
                      have h1 := HFN.out
                      rw [if_neg (by simpa using ho)] at h1
                      rw [h1, List.append_nil]
                      exact HD.out), by omega, Z2.out, S2.out⟩
                    case measure => simp [intOf]; omega
                · obtain rfl : k = zs.length := by omega
                  go_wp2_with fail
                  go_returns
                  refine ⟨ys, A9, c9, by rw [HP.out.2]; rfl, ?_, Z1.out.down (Nat.le_succ _), S1.out.bel⟩
                  rw [HP.out.1, HD.out, show zs.length = (datL zs).length by simp [datL], List.take_length]
                  unfold insL
                  rw [List.append_assoc]
                  rfl
          · have hlti : decide ((k : Int) < (zs.length : Int)) = false := by rw [decide_eq_false_iff_not]; omega
            have HTW : Hid ((datL zs).takeWhile (fun x => decide (x.o < lo)) = (datL zs).take k) := Lib.hid (tw_data HJ.out (fun z hz => by have := (List.getElem?_eq_some_iff.1 hz).1; omega) hk)
            go_wp2_with fail
            refine wp_region_staged 14 (by kernel_rfl) (by kernel_rfl) ?_
            refine stage_seg _ 0 [0, 1, 2, 3, 4, 5, 6, 7, 8, 9, 10, 11, 12, 13] (by kernel_rfl) (by kernel_rfl) (by kernel_rfl) (by kernel_rfl) ?_
            (simp only [List.map_cons, List.map_nil, List.getElem?_cons_zero, List.getElem?_cons_succ, Option.getD_some]); (repeat (go_big_quiet_step (fail))); (refine wpQuiet_nil ?_)
            refine stage_end (by kernel_rfl) ?_
            clear hX hlti l0 l1 l2 zl HW S1 Z1 hlt
            -- the new one
            generalize wr.drew = W2 at *
            obtain ⟨zl, l0, l1, l2, -, -, -⟩ := S2.out.box.three
            go_wp2_with fail
            refine (l11one_any ⟨lo, lq, les, lA, lc, lg⟩ W2 hle ((HL.out.below S2.out.bel).more S2.out.bel.size)).mono ?_
            rintro e w4 ⟨z, rfl, hd, hinn, hb4⟩
            have S4 := Lib.hid (S2.out.call hb4)
            have HB4 := Lib.hid hb4
            have HI := Lib.hid hinn
            have HDD := Lib.hid hd
            have hz4 := S4.out.bel.size
            have hzB : w.heap.size + 1 ≤ W2.heap.size := S2.out.box.lt
            have zb4 := S4.out.box.lt
            clear hb4 hinn hd l0 l1 l2 zl
            obtain ⟨yo, yq, yes, yA, yc, yg⟩ := z
            go_wp2_with (at_builtin; refine wpList_append_own_at _ rfl _ _ 29 rfl (w.heap.size + 1) 54 i0 _ 3 40 Try.underlying29 hi hz0 hz10 hz20 rfl (by decide) _ ys.length _ rfl (owns_kept (owns_kept Z2.out.row HB4.out) ((Below.refl _ _).alloc (Nat.le_refl _) _)) ⟨w4.heap.size, 0, none⟩ 1 1 [.int .i64 yo, .int .i64 yq, .slice yA yes.length yc] rfl rfl (new3z _ _ _ _ _) (one3z _ _ _ rfl rfl rfl) (by unfold maxLen; omega) (by omega) (by simp; omega) ?_; intro v' w5 hown' hgrow hnil hat; have Z5 := Lib.hid (Z2.out.more HB4.out hzB HI.out hown' hgrow); have hrl := Z2.out.row.lt; have S5 := Lib.hid (show ST w lo lq lA les.length lc w5 from (S4.out.alloc (.cells #[.int .i64 yo, .int .i64 yq, .slice yA yes.length yc] 54)).grow hgrow (fun j e => by have := (hrl j e).1; omega)); clear hown' hgrow hnil hat hrl)
            have HY : Hid (datL (ys ++ [⟨yo, yq, yes, yA, yc, yg⟩]) = (datL zs).takeWhile (fun x => decide (x.o < lo)) ++ [⟨lo, lq, les⟩] ++ ((datL zs).take 0).filter (fun x => decide (lo < x.o))) := Lib.hid (by
              have h2 : (⟨yo, yq, yes⟩ : La) = ⟨lo, lq, les⟩ := HDD.out
              rw [HTW.out, ← HD.out, ← h2]
              simp [datL])
            have hyl : (ys ++ [(⟨yo, yq, yes, yA, yc, yg⟩ : Lz)]).length ≤ zs.length + 1 + 0 := by simp; omega
            generalize ys ++ [(⟨yo, yq, yes, yA, yc, yg⟩ : Lz)] = ya at *
            clear HTW HD HJ HI HDD HB4 S4 Z2 S2 hz4 hzB zb4 hk hyk
            -- the announcements behind
            go_loopw [8, 10] (fun v i wr => ∃ (k : Nat) (ys : List Lz), k ≤ zs.length ∧ i = .int .i64 (k : Int) ∧ Hid (datL ys = (datL zs).takeWhile (fun x => decide (x.o < lo)) ++ [⟨lo, lq, les⟩] ++ ((datL zs).take k).filter (fun x => decide (lo < x.o))) ∧ ys.length ≤ zs.length + 1 + k ∧ ZI (w.heap.size + 1) v ys wr ∧ ST w lo lq lA les.length lc wr) (fun _ i _ => zs.length - (intOf i).toNat)
            case atStart => exact ⟨0, ya, Nat.zero_le _, rfl, HY, hyl, Z5.out, S5.out⟩
            case round =>
              obtain ⟨k, ys, hk, rfl, HD, hyk, hzi, hst⟩ := hrel
              have Z1 := Lib.hid hzi
              have S1 := Lib.hid hst
              obtain ⟨A9, g9, c9, rfl, hg9, -, hc9, -, -⟩ := own_slicez hzi.row hst.box.lt
              obtain ⟨zl, l0, l1, l2, -, -, -⟩ := hst.box.three
              clear hzi hst S5 Z5 HY hyl
              by_cases hlt : k < zs.length
              · have S2 := Lib.hid S1.out.drew
                have Z2 := Lib.hid Z1.out.drew
                have hX := fun (x : Ext wr.drew) (bb oo : Nat) (h : bb < wr.heap.size) => (show x.w.cell? ⟨bb, oo, none⟩ = wr.cell? ⟨bb, oo, none⟩ from x.cell bb oo h)
                obtain ⟨x, hx⟩ : ∃ x, zs[k]? = some x := ⟨_, List.getElem?_eq_getElem hlt⟩
                obtain ⟨b, off, rfl, hbb, hc1, hc2, hc3, hin⟩ := (HS.out.below S1.out.bel) k x hx
                have hxl := HES.out x (List.mem_of_getElem? hx)
                have hz := S1.out.bel.size
                have z1 : b < wr.heap.size := by omega
                have HIN := Lib.hid hin
                have HDN := Lib.hid (datL_next hx)
                have HX := Lib.hid hx
                obtain ⟨zo, zq, zes, zA, zc, zg⟩ := x
                dsimp only at hc1 hc2 hc3 hxl
                clear hx hin
                have HFN := Lib.hid (filter_next (p := fun x => decide (lo < x.o)) HX.out)
                go_wp2_with fail
                refine wp_region_staged 8 (by kernel_rfl) (by kernel_rfl) ?_
                refine stage_seg _ 0 [0, 1, 2, 3, 4, 5, 6, 7] (by kernel_rfl) (by kernel_rfl) (by kernel_rfl) (by kernel_rfl) ?_
                (simp only [List.map_cons, List.map_nil, List.getElem?_cons_zero, List.getElem?_cons_succ, Option.getD_some]); (repeat (go_big_quiet_step (fail))); (refine wpQuiet_nil ?_)
                refine stage_end (by kernel_rfl) ?_
                have hc1 : wr.drew.cell? ⟨b, off + k * 3, none⟩ = some (.int .i64 zo) := hc1
                have hc2 : wr.drew.cell? ⟨b, off + k * 3 + 1, none⟩ = some (.int .i64 zq) := hc2
                have hc3 : wr.drew.cell? ⟨b, off + k * 3 + 2, none⟩ = some (.slice zA zes.length zc) := hc3
                have z1 : b < wr.drew.heap.size := z1
                have hz : w.heap.size ≤ wr.drew.heap.size := hz
                have HIN := Lib.hid (show Slb wr.drew w.heap.size zA zes from HIN.out)
                clear hX l0 l1 l2 zl S1 Z1
                generalize wr.drew = W2 at *
                by_cases ho : lo < zo
                · go_wp2_with fail
                  refine (l11one_any ⟨zo, zq, zes, zA, zc, zg⟩ W2 hxl (Slb.more (w := W2) HIN.out hz)).mono ?_
                  rintro e w4 ⟨z, rfl, hd, hinn, hb4⟩
                  have S4 := Lib.hid (ST.call (W := W2) S2.out hb4)
                  have HB4 := Lib.hid hb4
                  have HI := Lib.hid hinn
                  have HDD := Lib.hid hd
                  have hz4 := S4.out.bel.size
                  have hzB : w.heap.size + 1 ≤ W2.heap.size := S2.out.box.lt
                  have zb4 := S4.out.box.lt
                  clear hb4 hinn hd hc1 hc2 hc3
                  obtain ⟨yo, yq, yes, yA, yc, yg⟩ := z
                  go_wp2_with (at_builtin; refine wpList_append_own_at _ rfl _ _ 29 rfl (w.heap.size + 1) 54 i0 _ 3 40 Try.underlying29 hi hz0 hz10 hz20 rfl (by decide) _ ys.length _ rfl (owns_kept (owns_kept Z2.out.row HB4.out) ((Below.refl _ _).alloc (Nat.le_refl _) _)) ⟨w4.heap.size, 0, none⟩ 1 1 [.int .i64 yo, .int .i64 yq, .slice yA yes.length yc] rfl rfl (new3z _ _ _ _ _) (one3z _ _ _ rfl rfl rfl) (by unfold maxLen; omega) (by omega) (by simp; omega) ?_; intro v' w5 hown' hgrow hnil hat; have Z5 := Lib.hid (Z2.out.more HB4.out hzB HI.out hown' hgrow); have hrl := Z2.out.row.lt; have S5 := Lib.hid (show ST w lo lq lA les.length lc w5 from (S4.out.alloc (.cells #[.int .i64 yo, .int .i64 yq, .slice yA yes.length yc] 54)).grow hgrow (fun j e => by have := (hrl j e).1; omega)); clear hown' hgrow hnil hat hrl)
                  go_roundw
                  case rel => exact ⟨k + 1, ys ++ [⟨yo, yq, yes, yA, yc, yg⟩], hlt, by go_num, Lib.hid (by
                    have h1 := HFN.out
                    rw [if_pos (decide_eq_true ho)] at h1
                    rw [h1, ← List.append_assoc, ← HD.out, ← HDD.out]
                    simp [datL]), by simp; omega, Z5.out, S5.out⟩
                  case measure => simp [intOf]; omega
                · clear hc1 hc2 hc3
                  go_wp2_with fail
                  go_roundw
                  case rel => exact ⟨k + 1, ys, hlt, by go_num, Lib.hid (by
                    have h1 := HFN.out
                    rw [if_neg (by simpa using ho)] at h1
                    rw [h1, List.append_nil]
                    exact HD.out), by omega, Z2.out, S2.out⟩
                  case measure => simp [intOf]; omega
              · obtain rfl : k = zs.length := by omega
                go_wp2_with fail
                go_returns
                refine ⟨ys, A9, c9, by rw [HP.out.2]; rfl, ?_, Z1.out.down (Nat.le_succ _), S1.out.bel⟩
                rw [HP.out.1, HD.out, show zs.length = (datL zs).length by simp [datL], List.take_length]
                unfold insL
                rw [List.append_assoc]
                rfl

end Go.Proofs.Ytnkohgdfipgdoab
