/-
  Contracts over this seat: arrays of bools; next hops while some nodes have changed, of the specification.
-/
import Derived.Test.YtkcnbgimdiggoabG1
import Derived.Test.YtkcnbgimdiggoabVe
namespace Go.Proofs.Ytkcnbgimdiggoab
open Go.RowKit Go.Maps

/-! ### Arrays of bools -/
def bools (n : Nat) (p : Nat → Bool) : Array Value := ((List.range n).map (fun i => Value.bool (p i))).toArray
theorem bools_size (n : Nat) (p : Nat → Bool) : (bools n p).size = n := by unfold bools; simp
theorem bools_at {n i : Nat} (p : Nat → Bool) (h : i < n) : (bools n p)[i]? = some (.bool (p i)) := by unfold bools; simp [h]
theorem bools_set (n i : Nat) (p : Nat → Bool) (v : Bool) : (bools n p).setIfInBounds i (.bool v) = bools n (fun j => if j = i then v else p j) := by
  apply Array.ext
  · simp [bools_size]
  · intro j h1 h2
    have hj : j < n := by rw [bools_size] at h2; exact h2
    rw [Array.getElem_setIfInBounds (by rw [bools_size]; exact hj)]
    have h3 : (bools n (fun j => if j = i then v else p j))[j]? = some (.bool (if j = i then v else p j)) := bools_at _ hj
    have h4 : (bools n p)[j]? = some (.bool (p j)) := bools_at _ hj
    rw [Array.getElem?_eq_getElem h2] at h3
    rw [Array.getElem?_eq_getElem (by rw [bools_size]; exact hj)] at h4
    rw [Option.some.inj h3, Option.some.inj h4]
    by_cases e : i = j
    · rw [if_pos e, if_pos e.symm]
    · rw [if_neg e, if_neg (fun x => e x.symm)]
theorem infoBool : (Try.prog.info? 4).map (fun i => (i.zero, i.size, i.bytes)) = some (some (.bool false), 1, 1) := by kernel_rfl
theorem made_bools (n : Nat) : madeCells (Value.bool false).cells n = bools n (fun _ => false) := by
  unfold madeCells bools
  apply Array.ext
  · simp
  · intro j h1 h2
    simp [Value.cells, Nat.mod_one]
theorem make_bools (n : Nat) (hn : n ≤ 1000) (w : World) : (Instr.makeSlice 65 (.int .i64 (n : Int)) (.int .i64 (n : Int))).run Try.prog w = .ok (.slice (some ⟨w.heap.size, 0, none⟩) n n) (w.alloc (.cells (bools n (fun _ => false)) 4)) := by
  obtain ⟨i0, hi, hz0, hz1, hz2⟩ := info_parts infoBool
  have := run_make (P := Try.prog) w 65 4 i0 _ Try.underlying65 hi hz0 .i64 .i64 (n : Int) (n : Int) (by omega) (Int.le_refl _) (by rw [hz2]; omega) (by omega)
  rw [hz1, Int.toNat_natCast, Nat.mul_one, made_bools] at this
  exact this

theorem l1hasV_any (A : Option Addr) (xs : List Int) (c : Nat) (n : Int) (w : World) (hm : xs.length ≤ 2000000)
    (h1 : Sli w w.heap.size A xs) :
   Calls Try.prog 88 #[.slice A xs.length c, .int .i64 n] w fun e w' => e = .returned (.bool (decide (n ∈ xs))) ∧ Below w.heap.size w w' := by
  have R1 := Lib.hid h1
  clear h1
  go_enter Try.func88, Try.ntmps88
  go_wp2
  go_loopw [5] (fun i wr => ∃ k : Nat, k ≤ xs.length ∧ (∀ j, j < k → xs[j]? ≠ some n) ∧ i = .int .i64 k ∧ Below w.heap.size w wr) (fun i _ => xs.length - (intOf i).toNat)
  case atStart => exact ⟨0, Nat.zero_le _, fun j h => by omega, rfl, Below.refl _ _⟩
  case round =>
    obtain ⟨k, hk, hj, rfl, hb⟩ := hrel
    by_cases hlt : k < xs.length
    · obtain ⟨x, hx⟩ : ∃ x, xs[k]? = some x := ⟨_, List.getElem?_eq_getElem hlt⟩
      have HX := Lib.hid hx
      obtain ⟨b, off, rfl, hbb, hc1⟩ := (R1.out.below hb) k x hx
      clear hx
      by_cases hxn : x = n
      · subst hxn
        go_wp2
        try go_quiet (fail)
        try go_wp2
        go_ret
        exact ⟨ret_bool (by simpa using (List.mem_of_getElem? HX.out)), by first | exact hb | exact hb.drew | exact ⟨hb.os, hb.tape, hb.output, hb.size, hb.block⟩⟩
      · have hxn' : (x == n) = false := by simpa using hxn
        go_wp2
        try go_quiet (fail)
        try go_wp2
        go_roundw
        case rel =>
          refine ⟨k + 1, hlt, fun j hjk => ?_, by go_num, by first | exact hb | exact hb.drew | exact ⟨hb.os, hb.tape, hb.output, hb.size, hb.block⟩⟩
          by_cases e : j = k
          · subst e
            rw [HX.out]
            exact fun h => hxn (Option.some.inj h)
          · exact hj j (by omega)
        case measure => simp [intOf]; omega
    · have hge : xs.length ≤ k := by omega
      have HJ := Lib.hid hj
      clear hj
      go_wp2
      go_ret
      refine ⟨ret_bool ?_, hb⟩
      have : ¬ n ∈ xs := fun h => by
        obtain ⟨j, hj⟩ := List.getElem?_of_mem h
        exact HJ.out j (by have := (List.getElem?_eq_some_iff.1 hj).1; omega) hj
      simpa using this

/-- Numbers that grow beside a path in memory of its own. -/
structure RIB (w : World) (gv : Array Value) (g3 : Nat) (A3 : Option Addr) (xs : List Int) (v : Value) (out : List Int) (W : World) : Prop where
  row : W.ownsRow (w.heap.size + 1) 3 1 v out.length (out.map (Value.int .i64))
  far : ∀ g, v.ownBlock = some g → g ≠ g3
  own : Own1i W A3 g3 xs
  bel : Below w.heap.size w W
  box : Box W w.heap.size 25 gv
  lt3 : 0 < xs.length → g3 < W.heap.size
section
variable {w : World} {gv : Array Value} {g3 : Nat} {A3 : Option Addr} {xs : List Int} {v : Value} {out : List Int} {W W' : World}
theorem RIB.call (h : RIB w gv g3 A3 xs v out W) (hb : Below W.heap.size W W') : RIB w gv g3 A3 xs v out W' :=
  ⟨owns_kept h.row hb, h.far, h.own.below hb, h.bel.trans (hb.mono h.bel.size), h.box.below hb h.box.lt, fun hp => Nat.lt_of_lt_of_le (h.lt3 hp) hb.size⟩
theorem RIB.append (h : RIB w gv g3 A3 xs v out W) (hp : 0 < xs.length) {x : Int} {v' : Value} {o : Obj}
    (hown : W'.ownsRow (w.heap.size + 1) 3 1 v' (out.length + 1) (out.map (Value.int .i64) ++ [.int .i64 x])) (hg : (W.alloc o).grownBy W' v.ownBlock) (hat : v'.ownBlock = v.ownBlock ∨ v'.ownBlock = some (W.alloc o).heap.size) :
    RIB w gv g3 A3 xs v' (out ++ [x]) W' := by
  have hl := h.row.lt
  have z3 := h.lt3 hp
  have zb := h.box.lt
  refine ⟨by rw [List.length_append, List.map_append]; exact hown, fun g e => ?_, fun hq => ?_, ?_, ?_, fun _ => ?_⟩
  · rcases hat with e2 | e2
    · exact h.far g (e2.symm.trans e)
    · rw [e] at e2
      simp at e2
      omega
  · obtain ⟨e, cs, hh, hc⟩ := h.own hq
    exact ⟨e, cs, (hg.block g3 (by simp; omega) (fun e => h.far g3 e.symm rfl)).trans ((Below.heap_alloc W _ _ z3).trans hh), hc⟩
  · exact (h.bel.alloc (by omega) _).grown hg (by simp; omega) (fun j e => by have := (hl j e).1; omega)
  · exact (hg.block _ (by simp; omega) (fun e => by have := (hl _ e.symm).1; omega)).trans (h.box.alloc _)
  · have := hg.size
    simp at this
    omega
end
theorem RIB.start {w W : World} {gv : Array Value} {g3 r : Nat} {A3 : Option Addr} {xs : List Int} {W0 : World} (hE : Box W0 r 3 #[]) (hr : w.heap.size + 1 ≤ r) (hG : Box W0 w.heap.size 25 gv) (hb : Below W0.heap.size W0 W) (hb0 : Below w.heap.size w W0) (hg3 : W0.heap.size ≤ g3) (ho : Own1i W A3 g3 xs) :
    RIB w gv g3 A3 xs (.slice (some ⟨r, 0, none⟩) 0 0) [] W := by
  have z0 := hE.lt
  refine ⟨⟨by simp, .inr ⟨r, 0, #[], rfl, hr, hE.below hb z0, Nat.le_refl _, by omega, rfl, by simp⟩⟩, fun g e => ?_, ho, hb0.trans (hb.mono hb0.size), hG.below hb hG.lt, fun hp => (ho hp).2.lt⟩
  simp [Value.ownBlock] at e
  omega
theorem RIB.drew {w : World} {gv : Array Value} {g3 : Nat} {A3 : Option Addr} {xs : List Int} {v : Value} {out : List Int} {W : World} (h : RIB w gv g3 A3 xs v out W) : RIB w gv g3 A3 xs v out W.drew :=
  ⟨h.row, h.far, h.own, h.bel.drew, h.box, h.lt3⟩
theorem filter_next {hs : List Int} {p : Int → Bool} {i : Nat} {y : Int} (h : hs[i]? = some y) : (hs.take (i + 1)).filter p = (hs.take i).filter p ++ (if p y then [y] else []) := by
  rw [List.take_add_one, h, List.filter_append]
  cases hp : p y <;> simp [hp]

set_option maxRecDepth 100000 in
set_option maxHeartbeats 1600000 in
theorem l22hops_any (n : Nat) (g : Nat) (ls : List Lk) (c : Nat) (k : Nat) (t : Int) (B : Option Addr) (ch : List Int) (cb : Nat) (x : Int) (w : World) (hv : gvB (n : Int) ls = true) (hk : k < ls.length) (ht : 0 ≤ t ∧ t < (n : Int)) (hx : 0 ≤ x ∧ x < (n : Int)) (hlc : ls.length ≤ c) (hmb : ch.length ≤ 2000000) (hS : Sl w w.heap.size (some ⟨g, 0, none⟩) ls) (hB : Sli w w.heap.size B ch) :
   Calls Try.prog 63 #[gval (n : Int) (some ⟨g, 0, none⟩) ls.length c, .int .i64 (k : Int), .int .i64 t, .slice B ch.length cb, .int .i64 x] w (NewI (mixH (n : Int) ls k t ch x) w) := by
  obtain ⟨hf, hn1, hn8, hl14⟩ := gvB_fit hv
  have HS := Lib.hid hS
  have HK := Lib.hid (Box.new w 25 #[.int .i64 (n : Int), .slice (some ⟨g, 0, none⟩) ls.length c])
  have B0 := Lib.hid (show Below w.heap.size w (w.alloc (.cells #[.int .i64 (n : Int), .slice (some ⟨g, 0, none⟩) ls.length c] 25)) by (repeat (first | exact Below.refl _ _ | (refine Below.alloc ?_ (by first | exact Nat.le_refl _ | omega | (simp; done) | (simp; omega)) _) | (refine Below.setCell ?_ (by first | exact Nat.le_refl _ | omega | (simp; done) | (simp; omega)) _) | exact Below.drew ‹_›)))
  have C1 := l1hasV_any B ch cb x _ hmb ((hB.below B0.out).more B0.out.size)
  have hel : (ls.eraseIdx k).length ≤ 14 := Nat.le_trans (List.length_eraseIdx_le _ _) hl14
  clear hS hB
  cases hc : decide (x ∈ ch) with
  | true =>
    have hm : mixH (n : Int) ls k t ch x = hopsL (n : Int) (ls.eraseIdx k) x t := mix_new (of_decide_eq_true hc)
    have CW := fun W (h : Sl W W.heap.size (some ⟨g, 0, none⟩) ls) => l1Without_any (n : Int) g ls c k W (by omega) hlc hk h
    rw [← List.eraseIdx_eq_take_drop_succ] at CW
    have CP := fun B c W (h : Sl W W.heap.size B (ls.eraseIdx k)) => l2hops_any n B (ls.eraseIdx k) c x t W (er_gv hv k) hx ht h
    rw [hc] at C1
    rw [hm]
    clear hc hm hv hf ht hx
    generalize ls.eraseIdx k = es at *
    generalize hopsL (n : Int) es x t = hs at *
    go_enter Try.func63, Try.ntmps63
    go_wp2_with fail
    refine C1.mono ?_
    clear C1
    rintro e w1 ⟨rfl, hb1⟩
    have B1 := Lib.hid (B0.out.trans (hb1.mono B0.out.size))
    have K1 := Lib.hid (HK.out.below hb1 (by simp))
    clear hb1 HK B0
    obtain ⟨z1, e10, e11, -, -⟩ := K1.out.two
    go_wp2_with fail
    refine (CW _ ((HS.out.below B1.out).more B1.out.size)).mono ?_
    rintro e w2 ⟨A2, g2, c2, rfl, -, ho2, hb2⟩
    have B2 := Lib.hid (B1.out.trans (hb2.mono B1.out.size))
    have S2 := Lib.hid ho2.sl
    clear hb2 ho2 CW e10 e11 K1
    go_wp2_with fail
    refine (CP _ _ _ S2.out).mono ?_
    rintro e w3 ⟨A3, g3, c3, rfl, hg3, ho3, hb3⟩
    have hz2 := B2.out.size
    have B3 := Lib.hid (B2.out.trans (hb3.mono B2.out.size))
    have O3 := Lib.hid ho3
    clear hb3 ho3
    go_wp2_with fail
    go_ret
    exact ⟨A3, g3, c3, rfl, by omega, O3.out, B3.out⟩
  | false =>
    have hm : mixH (n : Int) ls k t ch x = (hopsL (n : Int) ls x t).filter (fun y => !decide (linkI (n : Int) ls x y = (k : Int))) := by unfold mixH; rw [if_neg (of_decide_eq_false hc)]
    have CP := fun W (h : Sl W W.heap.size (some ⟨g, 0, none⟩) ls) => l2hops_any n (some ⟨g, 0, none⟩) ls c x t W hv hx ht h
    have CL := fun (b : Int) W (h : Sl W W.heap.size (some ⟨g, 0, none⟩) ls) => (show Calls Try.prog 91 #[gval (n : Int) (some ⟨g, 0, none⟩) ls.length c, .int .i64 x, .int .i64 b] W fun e w' => e = .returned (.int .i64 (linkI (n : Int) ls x b)) ∧ Below W.heap.size W w' by
      have := l1Link_any (n : Int) (some ⟨g, 0, none⟩) ls c x b W (by omega) h
      rwa [show l1I (min x b) (max x b) ls = linkI (n : Int) ls x b by rw [← linkI_eq, if_pos hv]] at this)
    have hh8 := hops_len (n : Int) ls x t
    rw [hc] at C1
    rw [hm]
    clear hc hm hv hf ht hx
    generalize hopsL (n : Int) ls x t = hs at *
    go_enter Try.func63, Try.ntmps63
    go_wp2_with fail
    refine C1.mono ?_
    clear C1
    rintro e w1 ⟨rfl, hb1⟩
    have B1 := Lib.hid (B0.out.trans (hb1.mono B0.out.size))
    have K1 := Lib.hid (HK.out.below hb1 (by simp))
    clear hb1 HK B0
    go_upto_region 4 with fail
    obtain ⟨i0, hi, hz0, hz10, hz20⟩ := info_parts infoInt
    have E1 := Lib.hid (Box.new w1 3 #[])
    have K2 := Lib.hid (K1.out.alloc (.cells #[] 3))
    have B2 := Lib.hid (B1.out.alloc B1.out.size (.cells #[] 3))
    have hr1 : w.heap.size + 1 ≤ w1.heap.size := K1.out.lt
    clear K1 B1
    have hz1 := World.size_alloc w1 (.cells #[] 3)
    generalize w1.alloc (.cells #[] 3) = w2 at *
    obtain ⟨z2, e20, e21, -, -⟩ := K2.out.two
    go_wp2_with fail
    refine (CP _ ((HS.out.below B2.out).more B2.out.size)).mono ?_
    clear CP
    rintro e w3 ⟨A3, g3, c3, rfl, hg3, ho3, hb3⟩
    have Q3 := Lib.hid (RIB.start E1.out hr1 K2.out hb3 B2.out hg3 ho3)
    have hg3w : w.heap.size < g3 := by omega
    clear hb3 ho3 hg3 E1 K2 B2 z2 e20 e21
    go_wp2_with fail
    go_loopw [11, 13] (fun v i wr => ∃ (j : Nat) (out : List Int), j ≤ hs.length ∧ i = .int .i64 (j : Int) ∧ Hid (out = (hs.take j).filter (fun y => !decide (linkI (n : Int) ls x y = (k : Int)))) ∧ out.length ≤ j ∧ Hid (RIB w #[.int .i64 (n : Int), .slice (some ⟨g, 0, none⟩) ls.length c] g3 A3 hs v out wr)) (fun _ i _ => hs.length - (intOf i).toNat)
    case atStart => exact ⟨0, [], Nat.zero_le _, rfl, Lib.hid rfl, Nat.le_refl _, Q3⟩
    case round =>
      obtain ⟨j, out, hj, rfl, HD1, hol, Q⟩ := hrel
      clear Q3
      obtain ⟨A9, g9, c9, rfl, hg9, -, ho9⟩ := own_slicei Q.out.row (by have := Q.out.box.lt; omega)
      have O9 := Lib.hid ho9
      by_cases hlt : j < hs.length
      · obtain ⟨y, hy⟩ : ∃ y, hs[j]? = some y := ⟨_, List.getElem?_eq_getElem hlt⟩
        have HX := Lib.hid (filter_next (p := fun y => !decide (linkI (n : Int) ls x y = (k : Int))) hy)
        obtain ⟨rfl, z3, cy⟩ := Q.out.own.at hy
        obtain ⟨zq, f0, f1, -, -⟩ := Q.out.box.two
        have CY := CL y wr.drew ((Sl.below (w' := wr.drew) HS.out Q.out.bel.drew).more Q.out.bel.size)
        have HYY := Lib.hid hy
        clear hy ho9
        have hX := fun (x : Ext wr.drew) (bb oo : Nat) (h : bb < wr.heap.size) => (show x.w.cell? ⟨bb, oo, none⟩ = wr.cell? ⟨bb, oo, none⟩ from x.cell bb oo h)
        go_upto_region 8 with fail
        refine wp_region_staged 9 (by kernel_rfl) (by kernel_rfl) ?_
        refine stage_seg _ 2 [0, 1, 2, 3, 4, 5, 7] (by kernel_rfl) (by kernel_rfl) (by kernel_rfl) (by kernel_rfl) ?_
        (simp only [List.map_cons, List.map_nil, List.getElem?_cons_zero, List.getElem?_cons_succ, Option.getD_some]); (repeat (go_big_quiet_step (fail))); (refine wpQuiet_nil ?_)
        clear hX f0 f1 zq cy z3
        refine stage_call _ 1 6 (by kernel_rfl) (by rfl) (by kernel_rfl) (by rfl) ?_
        go_wp2_with fail
        refine CY.mono ?_
        clear CY
        rintro e w5 ⟨rfl, hb5⟩
        refine ⟨hb5, ?_⟩
        have Q5 := Lib.hid (Q.out.drew.call hb5)
        clear hb5 Q
        by_cases hkk : linkI (n : Int) ls x y = (k : Int)
        · have hne : (linkI (n : Int) ls x y != (k : Int)) = false := by simp [hkk]
          have HN := Lib.hid (show (!decide (linkI (n : Int) ls x y = (k : Int))) = false by simp [hkk])
          clear hkk
          generalize linkI (n : Int) ls x y = lk at *
          refine stage_seg _ 0 [8] (by kernel_rfl) (by kernel_rfl) (by kernel_rfl) (by kernel_rfl) ?_
          (simp only [List.map_cons, List.map_nil, List.getElem?_cons_zero, List.getElem?_cons_succ, Option.getD_some]); (repeat (go_big_quiet_step (fail))); (refine wpQuiet_nil ?_)
          refine stage_end (by kernel_rfl) ?_
          go_wp2_with fail
          go_roundw
          case rel => exact ⟨j + 1, out, by omega, by go_num, Lib.hid (by rw [HX.out, HD1.out]; rw [HN.out]; simp), by omega, Q5⟩
          case measure => simp [intOf]; omega
        · have hne : (linkI (n : Int) ls x y != (k : Int)) = true := by simpa using hkk
          have HN := Lib.hid (show (!decide (linkI (n : Int) ls x y = (k : Int))) = true by simp [hkk])
          clear hkk
          refine stage_seg _ 0 [8] (by kernel_rfl) (by kernel_rfl) (by kernel_rfl) (by kernel_rfl) ?_
          (simp only [List.map_cons, List.map_nil, List.getElem?_cons_zero, List.getElem?_cons_succ, Option.getD_some]); (repeat (go_big_quiet_step (fail))); (refine wpQuiet_nil ?_)
          refine stage_end (by kernel_rfl) ?_
          obtain ⟨-, z3, cy⟩ := Q5.out.own.at HYY.out
          have hz5 := Q5.out.bel.size
          have zb5 := Q5.out.box.lt
          have hpos : 0 < hs.length := by omega
          go_wp2_with (at_builtin; refine wpList_append_own_at _ rfl _ _ 28 rfl (w.heap.size + 1) 3 i0 _ 1 8 Try.underlying28 hi hz0 hz10 hz20 rfl (by decide) _ out.length _ rfl (Q5.out.row.alloc _) ⟨w5.heap.size, 0, none⟩ 1 1 [.int .i64 y] rfl rfl (cell_one_new _ _ _) (fun u hu => by simp at hu; subst hu; rfl) (by unfold maxLen; omega) (by omega) (by simp; omega) ?_; intro v' w8 hown' hgrow hnil hat; have Q8 := Lib.hid (Q5.out.append hpos (x := y) hown' hgrow hat); clear hown' hgrow hnil hat)
          go_roundw
          case rel => exact ⟨j + 1, out ++ [y], by omega, by go_num, Lib.hid (by rw [HX.out, HD1.out]; rw [HN.out]; simp), by simp; omega, Q8⟩
          case measure => simp [intOf]; omega
      · obtain rfl : j = hs.length := by omega
        have hge : ¬ ((hs.length : Int) < (hs.length : Int)) := by omega
        have HO := Lib.hid (show out = hs.filter (fun y => !decide (linkI (n : Int) ls x y = (k : Int))) by rw [HD1.out, List.take_length])
        go_wp2_with fail
        go_ret
        rw [← HO.out]
        exact ⟨A9, g9, c9, rfl, by omega, O9.out, Q.out.bel⟩

end Go.Proofs.Ytkcnbgimdiggoab

/-
  Contracts over this seat: MixedHops and UpdateOrder of the specification.
-/
namespace Go.Proofs.Ytkcnbgimdiggoab
open Go.RowKit Go.Maps

/-- What MixedHops answers. -/
def mixA (nn : Int) (ls : List Lk) (x t : Int) (ch : List Int) (y : Int) : List Int := if vwB nn ls [y, t] && idxB ls x then mixH nn ls x.toNat t ch y else []


set_option maxRecDepth 100000 in
set_option maxHeartbeats 3200000 in
theorem updOrder_specC (nn : Int) (A : Option Addr) (ls : List Lk) (c : Nat) (x t : Int) (w : World) (hm : ls.length ≤ 2000000) (hnu : nn ≤ 9223372036854775807) (hS : Sl w w.heap.size A ls) :
   Calls Try.prog 13 #[gval nn A ls.length c, .int .i64 x, .int .i64 t] w (NewC (ordA nn ls x t) w) := by
  obtain ⟨i0, hi, hz0, hz10, hz20⟩ := info_parts infoInt
  have B0 : Below w.heap.size w ((w.alloc (.cells #[.int .i64 nn, .slice A ls.length c] 25)).alloc (.cells #[] 3)) := by (repeat (first | exact Below.refl _ _ | (refine Below.alloc ?_ (by first | exact Nat.le_refl _ | omega | (simp; done) | (simp; omega)) _) | (refine Below.setCell ?_ (by first | exact Nat.le_refl _ | omega | (simp; done) | (simp; omega)) _) | exact Below.drew ‹_›))
  have G0 := Lib.hid ((Box.new w 25 #[.int .i64 nn, .slice A ls.length c]).alloc (.cells #[] 3))
  have E0 := Box.new (w.alloc (.cells #[.int .i64 nn, .slice A ls.length c] 25)) 3 #[]
  rw [World.size_alloc] at E0
  have E1 := Lib.hid E0
  clear E0
  have C1 := l21ok_any nn A ls c 0 x t _ hm hnu ((hS.below B0).more B0.size)
  have HS := Lib.hid hS
  have HB := Lib.hid B0
  clear hS B0
  unfold ordA
  cases h1 : vwB nn ls [0, t] && idxB ls x with
  | false =>
    rw [h1] at C1
    rw [if_neg (by simp)]
    clear h1
    go_enter Try.func13, Try.ntmps13
    go_wp2_with fail
    refine C1.mono ?_
    rintro e w1 ⟨rfl, hb1⟩
    have B1 := Lib.hid (HB.out.trans (hb1.mono HB.out.size))
    clear hb1
    go_wp2_with fail
    go_ret
    exact ⟨_, w.heap.size, _, rfl, Nat.le_refl _, fun h => by simp at h, B1.out, Nat.le_refl _⟩
  | true =>
    rw [h1] at C1
    rw [if_pos rfl]
    rw [Bool.and_eq_true] at h1
    obtain ⟨hv, hi'⟩ := h1
    obtain ⟨hg, hs, ht⟩ := vwB_two hv
    obtain ⟨k, l, rfl, hl⟩ := idx_at hi'
    obtain ⟨n, rfl⟩ : ∃ n : Nat, nn = (n : Int) := ⟨nn.toNat, by omega⟩
    obtain ⟨hf, hn1, hn8, hl14⟩ := gvB_fit hg
    rw [show ((n : Int)).toNat = n by omega]
    have CD := fun W (h : Sl W W.heap.size A ls) => l2d_any n A ls c t W (by omega) (by omega) hl14 hf ht h
    have CU := fun (tn : Nat) (h2 : tn < n) W (h : Sl W W.heap.size A ls) => (show Calls Try.prog 47 #[gval (n : Int) A ls.length c, .int .i64 (tn : Int), .int .i64 t, .int .i64 (k : Int)] W fun e w' => e = .returned (.bool (usedB (n : Int) ls (tn : Int) t (k : Int))) ∧ Below W.heap.size W w' by
      rw [used_at (vwB_of hg ⟨by omega, by omega⟩ ht) hl]
      exact l2used_any n A ls c (tn : Int) t k l W hl hg ⟨by omega, by omega⟩ ht h)
    have HFL := Lib.hid (fun (j : Nat) (h : j < n) => fl_at (f := bf (n : Int) ls t) h)
    have hfl := fl_len n (bf (n : Int) ls t)
    have HOT := Lib.hid (fun f : Nat => (show ordT n ls (k : Int) t (f + 1) = (nodL n).filter (fun y => decide (bf (n : Int) ls t y = ((f + 1 : Nat) : Int)) && usedB (n : Int) ls y t (k : Int)) ++ ordT n ls (k : Int) t f from rfl))
    have HO8 := Lib.hid (show (ordT n ls (k : Int) t (n * 20)).length ≤ 8 by
      have := ordA_len8 (n : Int) ls (k : Int) t
      rwa [ordA_ok hg ht hi', show ((n : Int)).toNat = n by omega] at this)
    clear hv hi' hg hs ht hl hf hl14
    generalize fl n (bf (n : Int) ls t) = ds at *
    go_enter Try.func13, Try.ntmps13
    go_wp2_with fail
    refine C1.mono ?_
    clear C1
    rintro e w1 ⟨rfl, hb1⟩
    have B1 := Lib.hid (HB.out.trans (hb1.mono HB.out.size))
    have G1 := Lib.hid (G0.out.below hb1 G0.out.lt)
    have E2 := Lib.hid (E1.out.below hb1 E1.out.lt)
    clear hb1 HB G0 E1
    obtain ⟨z1, e10, e11, -, -⟩ := G1.out.two
    go_wp2_with fail
    refine (CD _ ((HS.out.below B1.out).more B1.out.size)).mono ?_
    clear CD
    rintro e w2 ⟨A3, g3, c3, rfl, hg3, ho3, hb2⟩
    have Q3 := Lib.hid (RIB.start E2.out (Nat.le_refl _) G1.out hb2 B1.out hg3 ho3)
    have hg3w : w.heap.size < g3 := by omega
    clear hb2 ho3 hg3 E2 G1 B1 z1 e10 e11
    obtain ⟨z1, e10, e11, -, -⟩ := Q3.out.box.two
    have hwm : IntKind.i64.wrap ((n : Int) * 20) = ((n * 20 : Nat) : Int) := by rw [IntWalk.i64_in _ (by omega)]; omega
    go_wp2_with fail
    go_loopw [7, 9] (fun v far wr => ∃ (f : Nat) (out : List Int), far = .int .i64 (f : Int) ∧ f ≤ 160 ∧ Hid (out ++ ordT n ls (k : Int) t f = ordT n ls (k : Int) t (n * 20)) ∧ Hid (RIB w #[.int .i64 (n : Int), .slice A ls.length c] g3 A3 ds v out wr)) (fun _ far _ => (intOf far).toNat)
    case atStart => exact ⟨n * 20, [], by first | rfl | rw [hwm] | (rw [← hwm]; rfl), by omega, Lib.hid rfl, Q3⟩
    case round =>
      obtain ⟨f, out, rfl, hf160, HO, Q⟩ := hrel
      clear Q3 z1 e10 e11
      obtain ⟨A9, g9, c9, rfl, hg9, hc9, ho9⟩ := own_slicec Q.out.row (by have := Q.out.box.lt; omega)
      have O9 := Lib.hid ho9
      have HC9 := Lib.hid hc9
      clear ho9 hc9
      by_cases hf0 : 0 < f
      · obtain ⟨f, rfl⟩ : ∃ q, f = q + 1 := ⟨f - 1, by omega⟩
        have hf0i : (0 : Int) < ((f + 1 : Nat) : Int) := by omega
        have HF := Lib.hid (HOT.out f)
        clear O9
        obtain ⟨far, hfar⟩ : ∃ far : Int, far = ((f + 1 : Nat) : Int) := ⟨_, rfl⟩
        have HFAR := Lib.hid hfar
        rw [← hfar] at hf0i HF ⊢
        clear hfar
        go_wp2_with fail
        go_loopw [7, 10] (fun v i wr => ∃ (j : Nat) (o2 : List Int), j ≤ n ∧ i = .int .i64 (j : Int) ∧ Hid (o2 = out ++ (nodL j).filter (fun y => decide (bf (n : Int) ls t y = far) && usedB (n : Int) ls y t (k : Int))) ∧ Hid (RIB w #[.int .i64 (n : Int), .slice A ls.length c] g3 A3 ds v o2 wr)) (fun _ i _ => n - (intOf i).toNat)
        case atStart => exact ⟨0, out, Nat.zero_le _, rfl, Lib.hid (by simp [nodL]), Q⟩
        case round =>
          obtain ⟨j, o2, hj, rfl, HD2, Q2⟩ := hrel
          clear Q
          obtain ⟨A8, g8, c8, rfl, hg8, -, -⟩ := own_slicei Q2.out.row (by have := Q2.out.box.lt; omega)
          obtain ⟨zq, f0, f1, -, -⟩ := Q2.out.box.two
          by_cases hlt : j < n
          · have hlti : (j : Int) < (n : Int) := by omega
            have hdj := HFL.out j hlt
            obtain ⟨rfl, z3, cd⟩ := Q2.out.own.at hdj
            have hjl : j < ds.length := by omega
            have HX := Lib.hid (nodL_next (fun y => decide (bf (n : Int) ls t y = far) && usedB (n : Int) ls y t (k : Int)) j)
            have C4 := CU j hlt
            have HL8 : Hid (o2.length ≤ 200) := Lib.hid (by
              rw [HD2.out, List.length_append]
              have h1 : out.length ≤ 8 := by
                have := congrArg List.length HO.out
                rw [List.length_append] at this
                have := HO8.out
                omega
              have h2 : ((nodL j).filter (fun y => decide (bf (n : Int) ls t y = far) && usedB (n : Int) ls y t (k : Int))).length ≤ j := Nat.le_trans (List.length_filter_le _ _) (by unfold nodL; simp)
              omega)
            generalize bf (n : Int) ls t (j : Int) = d at *
            generalize usedB (n : Int) ls (j : Int) t (k : Int) = u at *
            clear hdj
            by_cases hdf : d = far
            · have hdf' : (d == far) = true := by simp [hdf]
              have HDF := Lib.hid (decide_eq_true hdf)
              clear hdf
              cases u with
              | true =>
                have hpos : 0 < ds.length := by omega
                have hl8 := HL8.out
                go_wp2_with (first
                  | (go_at_call 47; refine (C4 _ ((HS.out.below Q2.out.bel).more Q2.out.bel.size)).mono ?_; rintro e w5 ⟨rfl, hb5⟩; have Q5 := Lib.hid (Q2.out.call hb5); have hz5 := Q5.out.bel.size; have zb5 := Q5.out.box.lt; clear hb5 f0 f1 zq cd z3)
                  | (at_builtin; refine wpList_append_own_at _ rfl _ _ 28 rfl (w.heap.size + 1) 3 i0 _ 1 8 Try.underlying28 hi hz0 hz10 hz20 rfl (by decide) _ o2.length _ rfl (Q5.out.row.alloc _) ⟨w5.heap.size, 0, none⟩ 1 1 [.int .i64 (j : Int)] rfl rfl (cell_one_new _ _ _) (fun u hu => by simp at hu; subst hu; rfl) (by unfold maxLen; omega) (by omega) (by simp; omega) ?_; intro v' w8 hown' hgrow hnil hat; have Q8 := Lib.hid (Q5.out.append hpos (x := (j : Int)) hown' hgrow hat); clear hown' hgrow hnil hat))
                go_roundw
                case rel => exact ⟨j + 1, o2 ++ [(j : Int)], hlt, by go_num, Lib.hid (by rw [HX.out, HDF.out, HD2.out]; simp), Q8⟩
                case measure => simp [intOf]; omega
              | false =>
                go_wp2_with fail
                refine (C4 _ ((HS.out.below Q2.out.bel).more Q2.out.bel.size)).mono ?_
                rintro e w5 ⟨rfl, hb5⟩
                have Q5 := Lib.hid (Q2.out.call hb5)
                clear hb5 f0 f1 zq cd z3
                go_wp2_with fail
                go_roundw
                case rel => exact ⟨j + 1, o2, hlt, by go_num, Lib.hid (by rw [HX.out, HD2.out]; simp), Q5⟩
                case measure => simp [intOf]; omega
            · have hdf' : (d == far) = false := by simpa using hdf
              have HDF := Lib.hid (decide_eq_false hdf)
              clear hdf
              go_wp2_with fail
              go_roundw
              case rel => exact ⟨j + 1, o2, hlt, by go_num, Lib.hid (by rw [HX.out, HDF.out, HD2.out]; simp), Q2⟩
              case measure => simp [intOf]; omega
          · obtain rfl : j = n := by omega
            have hge : ¬ ((j : Int) < (j : Int)) := by omega
            have hfw : IntKind.i64.wrap (far - 1) = far - 1 := by have := HFAR.out; exact IntWalk.i64_in _ (by omega)
            have HFF := Lib.hid (show far - 1 = ((f : Nat) : Int) by have := HFAR.out; omega)
            go_wp2_with fail
            go_roundw
            case rel => exact ⟨f, o2, by rw [← HFF.out], by omega, Lib.hid (by rw [HD2.out, ← HO.out, HF.out]; simp), Q2⟩
            case measure => have := HFF.out; have := HFAR.out; simp [intOf]; omega
      · obtain rfl : f = 0 := by omega
        have HE := Lib.hid (show out = ordT n ls (k : Int) t (n * 20) by rw [← HO.out]; simp [ordT])
        go_wp2_with fail
        go_ret
        rw [← HE.out]
        exact ⟨A9, g9, c9, rfl, by omega, O9.out, Q.out.bel, HC9.out⟩
theorem updOrder_spec (nn : Int) (A : Option Addr) (ls : List Lk) (c : Nat) (x t : Int) (w : World) (hm : ls.length ≤ 2000000) (hnu : nn ≤ 9223372036854775807) (hS : Sl w w.heap.size A ls) :
   Calls Try.prog 13 #[gval nn A ls.length c, .int .i64 x, .int .i64 t] w (NewI (ordA nn ls x t) w) := (updOrder_specC nn A ls c x t w hm hnu hS).mono fun _ _ h => h.newI
end Go.Proofs.Ytkcnbgimdiggoab

/-
  Contracts over this seat: the nodes that can be next, of the specification.
-/
namespace Go.Proofs.Ytkcnbgimdiggoab
open Go.RowKit Go.Maps

theorem bools_ext {n : Nat} {p q : Nat → Bool} (h : ∀ j, j < n → p j = q j) : bools n p = bools n q := by
  unfold bools
  congr 1
  exact List.map_congr_left fun j hj => by rw [h j (List.mem_range.1 hj)]
theorem Own1i.setFar {w : World} {A : Option Addr} {g : Nat} {xs : List Int} (h : Own1i w A g xs) {p : Addr} (hp : g ≠ p.block) (u : Value) : Own1i (w.setCell p u) A g xs := fun hl => by
  obtain ⟨e, cs, hh, hc⟩ := h hl
  exact ⟨e, cs, (Below.heap_setCell w p u g hp).trans hh, hc⟩
/-- A graph in a box, an array of bools, and nothing else changed. -/
structure NX (w : World) (gv : Array Value) (go n : Nat) (q : Nat → Bool) (W : World) : Prop where
  box : Box W w.heap.size 25 gv
  arr : Box W go 4 (bools n q)
  bel : Below w.heap.size w W
section
variable {w : World} {gv : Array Value} {go n : Nat} {q q' : Nat → Bool} {W W' : World}
theorem NX.call (h : NX w gv go n q W) (hb : Below W.heap.size W W') : NX w gv go n q W' := ⟨h.box.below hb h.box.lt, h.arr.below hb h.arr.lt, h.bel.trans (hb.mono h.bel.size)⟩
theorem NX.drew (h : NX w gv go n q W) : NX w gv go n q W.drew := ⟨h.box, h.arr, h.bel.drew⟩
theorem NX.ext (h : NX w gv go n q W) (he : ∀ j, j < n → q j = q' j) : NX w gv go n q' W := ⟨h.box, by rw [← bools_ext he]; exact h.arr, h.bel⟩
theorem NX.set (h : NX w gv go n q W) (hg : w.heap.size < go) (i : Nat) (v : Bool) : NX w gv go n (fun j => if j = i then v else q j) (W.setCell ⟨go, i, none⟩ (.bool v)) :=
  ⟨(Below.heap_setCell W ⟨go, i, none⟩ (.bool v) w.heap.size (by show w.heap.size ≠ go; omega)).trans h.box, by rw [← bools_set]; exact heap_set h.arr i _, h.bel.setCell (p := ⟨go, i, none⟩) (Nat.le_of_lt hg) _⟩
theorem NX.at (h : NX w gv go n q W) {i : Nat} (hi : i < n) : go < W.heap.size ∧ W.cell? ⟨go, i, none⟩ = some (.bool (q i)) ∧ W.frozen? ⟨go, i, none⟩ = false := ⟨h.arr.lt, by rw [h.arr.cell i]; exact bools_at q hi, h.arr.frozen i⟩
end
/-- The nodes that can be next. -/
def nxtP (H : Int → List Int) (p : Nat → Bool) (k y : Nat) : Bool := (List.range k).any (fun x => p x && decide ((y : Int) ∈ H (x : Int)))
theorem nxtP_next (H : Int → List Int) (p : Nat → Bool) (k y : Nat) : nxtP H p (k + 1) y = (nxtP H p k y || (p k && decide ((y : Int) ∈ H (k : Int)))) := by
  unfold nxtP
  rw [List.range_succ, List.any_append]
  simp

set_option maxRecDepth 100000 in
set_option maxHeartbeats 1600000 in
theorem l22next_any (n : Nat) (g : Nat) (ls : List Lk) (c : Nat) (k : Nat) (t : Int) (B : Option Addr) (ch : List Int) (cb : Nat) (gs : Nat) (p : Nat → Bool) (w : World) (hv : gvB (n : Int) ls = true) (hk : k < ls.length) (ht : 0 ≤ t ∧ t < (n : Int)) (hlc : ls.length ≤ c) (hmb : ch.length ≤ 2000000) (hS : Sl w w.heap.size (some ⟨g, 0, none⟩) ls) (hB : Sli w w.heap.size B ch) (hP : Box w gs 4 (bools n p)) :
   Calls Try.prog 51 #[gval (n : Int) (some ⟨g, 0, none⟩) ls.length c, .int .i64 (k : Int), .int .i64 t, .slice B ch.length cb, .slice (some ⟨gs, 0, none⟩) n n] w
     fun e w' => ∃ go q, e = .returned (.slice (some ⟨go, 0, none⟩) n n) ∧ w.heap.size ≤ go ∧ Box w' go 4 (bools n q) ∧ (∀ y, y < n → q y = nxtP (mixH (n : Int) ls k t ch) p n y) ∧ Below w.heap.size w w' := by
  obtain ⟨hf, hn1, hn8, hl14⟩ := gvB_fit hv
  have HS := Lib.hid hS
  have HBB := Lib.hid hB
  have HP := Lib.hid hP
  have hgs := hP.lt
  have CP := fun (x : Nat) (hx : x < n) W h h' => l22hops_any n g ls c k t B ch cb (x : Int) W hv hk ht ⟨by omega, by omega⟩ hlc hmb h h'
  have HIR := Lib.hid (mix_range (k := k) (ch := ch) hv ht)
  have HH8 := Lib.hid (fun x : Int => (show (mixH (n : Int) ls k t ch x).length ≤ 8 by
    unfold mixH
    split
    · exact hops_len _ _ _ _
    · exact Nat.le_trans (List.length_filter_le _ _) (hops_len _ _ _ _)))
  have hmk := make_bools n (by omega)
  have N0 := Lib.hid (show NX w #[.int .i64 (n : Int), .slice (some ⟨g, 0, none⟩) ls.length c] (w.heap.size + 1) n (fun _ => false) ((w.alloc (.cells #[.int .i64 (n : Int), .slice (some ⟨g, 0, none⟩) ls.length c] 25)).alloc (.cells (bools n (fun _ => false)) 4)) from
    ⟨(Box.new w _ _).alloc _, by have := Box.new (w.alloc (.cells #[.int .i64 (n : Int), .slice (some ⟨g, 0, none⟩) ls.length c] 25)) 4 (bools n (fun _ => false)); rwa [World.size_alloc] at this, by (repeat (first | exact Below.refl _ _ | (refine Below.alloc ?_ (by first | exact Nat.le_refl _ | omega | (simp; done) | (simp; omega)) _) | (refine Below.setCell ?_ (by first | exact Nat.le_refl _ | omega | (simp; done) | (simp; omega)) _) | exact Below.drew ‹_›))⟩)
  clear hS hB hP hv hf ht
  generalize mixH (n : Int) ls k t ch = H at *
  go_enter Try.func51, Try.ntmps51
  go_wp2_with fail
  generalize (w.alloc (.cells #[.int .i64 (n : Int), .slice (some ⟨g, 0, none⟩) ls.length c] 25)).alloc (.cells (bools n (fun _ => false)) 4) = W0 at *
  go_loopw [12] (fun i wr => ∃ (x : Nat) (q : Nat → Bool), x ≤ n ∧ i = .int .i64 (x : Int) ∧ Hid (∀ y, y < n → q y = nxtP H p x y) ∧ Hid (NX w #[.int .i64 (n : Int), .slice (some ⟨g, 0, none⟩) ls.length c] (w.heap.size + 1) n q wr)) (fun i _ => n - (intOf i).toNat)
  case atStart => exact ⟨0, _, Nat.zero_le _, rfl, Lib.hid (fun y _ => rfl), N0⟩
  case round =>
    obtain ⟨x, q, hx, rfl, HQ, N1⟩ := hrel
    clear N0
    obtain ⟨zg, d0, d1, -, -⟩ := N1.out.box.two
    by_cases hlt : x < n
    · have hlti : (x : Int) < (n : Int) := by omega
      have HHX := Lib.hid (HIR.out (x : Int))
      have hh8 := HH8.out (x : Int)
      have CX := CP x hlt
      have HNX := Lib.hid (fun y => nxtP_next H p x y)
      generalize H (x : Int) = hs at *
      go_wp2_with fail
      refine (CX _ ((HS.out.below N1.out.bel).more N1.out.bel.size) ((HBB.out.below N1.out.bel).more N1.out.bel.size)).mono ?_
      rintro e w3 ⟨A3, g3, c3, rfl, hg3, ho3, hb⟩
      have N3 := Lib.hid (N1.out.call hb)
      have O3 := Lib.hid ho3
      have hgo3 : w.heap.size + 1 < g3 := Nat.lt_of_lt_of_le N1.out.arr.lt hg3
      clear hb ho3 N1 zg d0 d1 hg3 CX
      go_wp2_with fail
      cases hpx : p x with
      | false =>
        have HPX := Lib.hid hpx
        clear hpx
        go_loopw [14] (fun i wr => i = .int .i64 0 ∧ Hid (NX w #[.int .i64 (n : Int), .slice (some ⟨g, 0, none⟩) ls.length c] (w.heap.size + 1) n q wr)) (fun _ _ => 0)
        case atStart => exact ⟨rfl, N3⟩
        case round =>
          obtain ⟨rfl, N4⟩ := hrel
          clear N3
          have PP := HP.out.below N4.out.bel hgs
          have pc : wr.cell? ⟨gs, x, none⟩ = some (.bool false) := by rw [PP.cell x, bools_at p hlt, HPX.out]
          have zp := PP.lt
          by_cases hh0 : 0 < hs.length
          · have hh0i : (0 : Int) < (hs.length : Int) := by omega
            go_wp2_with fail
            go_roundw
            case rel => exact ⟨x + 1, q, hlt, by go_num, Lib.hid (fun y hy => by rw [HNX.out, HPX.out, HQ.out y hy]; simp), N4⟩
            case measure => simp [intOf]; omega
          · have hh0i : ¬ (0 : Int) < (hs.length : Int) := by omega
            go_wp2_with fail
            go_roundw
            case rel => exact ⟨x + 1, q, hlt, by go_num, Lib.hid (fun y hy => by rw [HNX.out, HPX.out, HQ.out y hy]; simp), N4⟩
            case measure => simp [intOf]; omega
      | true =>
        have HPX := Lib.hid hpx
        clear hpx
        go_loopw [14] (fun i wr => ∃ (j : Nat) (q' : Nat → Bool), j ≤ hs.length ∧ i = .int .i64 (j : Int) ∧ Hid (∀ y, y < n → q' y = (q y || decide ((y : Int) ∈ hs.take j))) ∧ Hid (Own1i wr A3 g3 hs) ∧ Hid (NX w #[.int .i64 (n : Int), .slice (some ⟨g, 0, none⟩) ls.length c] (w.heap.size + 1) n q' wr)) (fun i _ => hs.length - (intOf i).toNat)
        case atStart => exact ⟨0, q, Nat.zero_le _, rfl, Lib.hid (fun y _ => by simp), O3, N3⟩
        case round =>
          obtain ⟨j, q', hj, rfl, HQ', O4, N4⟩ := hrel
          clear O3 N3
          have PP := HP.out.below N4.out.bel hgs
          have pc : wr.cell? ⟨gs, x, none⟩ = some (.bool true) := by rw [PP.cell x, bools_at p hlt, HPX.out]
          have zp := PP.lt
          by_cases hjl : j < hs.length
          · obtain ⟨y, hy⟩ : ∃ y, hs[j]? = some y := ⟨_, List.getElem?_eq_getElem hjl⟩
            have hyr := HHX.out y (by omega) hlti (List.mem_of_getElem? hy)
            obtain ⟨yn, rfl⟩ : ∃ z : Nat, y = (z : Int) := ⟨y.toNat, by omega⟩
            obtain ⟨rfl, z3, cy⟩ := O4.out.at hy
            have hyn : yn < n := by omega
            obtain ⟨zo, co, fo⟩ := N4.out.at hyn
            have HTK := Lib.hid (show hs.take (j + 1) = hs.take j ++ [(yn : Int)] by rw [List.take_add_one, hy]; rfl)
            clear hy
            go_wp2_with fail
            go_roundw
            case rel =>
              refine ⟨j + 1, _, hjl, by go_num, Lib.hid (fun y hy => ?_), Lib.hid (O4.out.setFar (p := ⟨w.heap.size + 1, yn, none⟩) (by show g3 ≠ w.heap.size + 1; omega) _), Lib.hid (N4.out.set (by omega) yn true)⟩
              show (if y = yn then true else q' y) = _
              rw [HTK.out, HQ'.out y hy]
              by_cases e : y = yn
              · rw [if_pos e, e]; simp
              · rw [if_neg e]
                have e' : ¬ (y : Int) = (yn : Int) := by omega
                simp [e']
            case measure => simp [intOf]; omega
          · obtain rfl : j = hs.length := by omega
            have hge : ¬ ((hs.length : Int) < (hs.length : Int)) := by omega
            go_wp2_with fail
            go_roundw
            case rel => exact ⟨x + 1, q', hlt, by go_num, Lib.hid (fun y hy => by rw [HNX.out, HPX.out, HQ'.out y hy, HQ.out y hy, List.take_length]; simp), N4⟩
            case measure => simp [intOf]; omega
    · obtain rfl : x = n := by omega
      have hge : ¬ ((x : Int) < (x : Int)) := by omega
      go_wp2_with fail
      go_ret
      exact ⟨w.heap.size + 1, rfl, by omega, q, N1.out.arr, HQ.out, N1.out.bel⟩
end Go.Proofs.Ytkcnbgimdiggoab
