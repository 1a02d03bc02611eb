/-
  Contracts over this seat: how an office compares two candidates.
-/
import Derived.Test.YtcndhodibeofiaaKh
import Derived.Test.YtcndhodibeofiaaA4
namespace Go.Proofs.Ytcndhodibeofiaa
open Go.RowKit Go.Maps

def cpI (x y : Int) : Int := if x < y then -1 else if y < x then 1 else 0
def orz (x y : Int) : Int := if x = 0 then y else x
theorem claimOf_any (o : Int) (x : Lk) (w : World) :
   Calls Try.prog 44 #[.int .i64 o, cdV x] w fun e w' => e = .returned (.int .i64 (min x.c o)) ∧ Below w.heap.size w w' := by
  obtain ⟨xa, xb, xc⟩ := x
  go_enter Try.func44, Try.ntmps44
  go_wp2
  all_goals
    go_ret
    exact ⟨ret_int (by omega), by (repeat (first | exact Below.refl _ _ | (refine Below.alloc ?_ (by first | exact Nat.le_refl _ | omega | (simp; done) | (simp; omega)) _) | (refine Below.setCell ?_ (by first | exact Nat.le_refl _ | omega | (simp; done) | (simp; omega)) _) | exact Below.drew ‹_›))⟩
theorem nan_any (x : Int) (w : World) :
   Calls Try.prog 45 #[.int .i64 x] w fun e w' => e = .returned (.bool false) ∧ w = w' := by
  go_enter Try.func45, Try.ntmps45
  go_wp2
  all_goals
    go_ret
    exact ⟨ret_bool (by simp), rfl⟩
theorem cmpc_any (x y : Int) (w : World) :
   Calls Try.prog 43 #[.int .i64 x, .int .i64 y] w fun e w' => e = .returned (.int .i64 (cpI x y)) ∧ w = w' := by
  have C := fun (x : Int) (W : World) => nan_any x W
  by_cases h1 : x < y
  · have HR : Hid (cpI x y = -1) := Lib.hid (by unfold cpI; rw [if_pos h1])
    go_enter Try.func43, Try.ntmps43
    go_wp2_with (go_at_call 45; refine (C _ _).mono ?_; rintro e w1 ⟨rfl, rfl⟩)
    go_ret
    exact ⟨ret_int HR.out.symm, rfl⟩
  · by_cases h2 : y < x
    · have HR : Hid (cpI x y = 1) := Lib.hid (by unfold cpI; rw [if_neg h1, if_pos h2])
      go_enter Try.func43, Try.ntmps43
      go_wp2_with (go_at_call 45; refine (C _ _).mono ?_; rintro e w1 ⟨rfl, rfl⟩)
      go_ret
      exact ⟨ret_int HR.out.symm, rfl⟩
    · have HR : Hid (cpI x y = 0) := Lib.hid (by unfold cpI; rw [if_neg h1, if_neg h2])
      go_enter Try.func43, Try.ntmps43
      go_wp2_with (go_at_call 45; refine (C _ _).mono ?_; rintro e w1 ⟨rfl, rfl⟩)
      go_ret
      exact ⟨ret_int HR.out.symm, rfl⟩
theorem or3_any (g c : Nat) (x y z : Int) (w : World) (hg : g < w.heap.size) (h0 : w.cell? ⟨g, 0, none⟩ = some (.int .i64 x)) (h1 : w.cell? ⟨g, 1, none⟩ = some (.int .i64 y)) (h2 : w.cell? ⟨g, 2, none⟩ = some (.int .i64 z)) :
   Calls Try.prog 42 #[.slice (some ⟨g, 0, none⟩) 3 c] w fun e w' => e = .returned (.int .i64 (orz x (orz y z))) ∧ Below w.heap.size w w' := by
  go_enter Try.func42, Try.ntmps42
  have HR : Hid ((x ≠ 0 → orz x (orz y z) = x) ∧ (x = 0 → y ≠ 0 → orz x (orz y z) = y) ∧ (x = 0 → y = 0 → orz x (orz y z) = z)) := Lib.hid (by
    unfold orz
    refine ⟨fun h => by rw [if_neg h], fun h h' => by rw [if_pos h, if_neg h'], fun h h' => by rw [if_pos h, if_pos h']⟩)
  go_wp2
  go_loopw [8] (fun v wr => ∃ k : Nat, v = .int .i64 k ∧ Hid (k = 0 ∨ (k = 1 ∧ x = 0) ∨ (k = 2 ∧ x = 0 ∧ y = 0) ∨ (k = 3 ∧ x = 0 ∧ y = 0 ∧ z = 0)) ∧ Below w.heap.size w wr) (fun v _ => 3 - (intOf v).toNat)
  case atStart => exact ⟨0, rfl, Lib.hid (.inl rfl), Below.refl _ _⟩
  case round =>
    obtain ⟨k, rfl, HK, hb⟩ := hrel
    have hbs := hb.size
    have e0 := (hb.cell (p := ⟨g, 0, none⟩) hg).trans h0
    have e1 := (hb.cell (p := ⟨g, 1, none⟩) hg).trans h1
    have e2 := (hb.cell (p := ⟨g, 2, none⟩) hg).trans h2
    rcases HK.out with rfl | ⟨rfl, rfl⟩ | ⟨rfl, rfl, rfl⟩ | ⟨rfl, rfl, rfl, rfl⟩
    · by_cases hx : x = 0
      · subst hx
        go_wp2
        go_roundw
        case rel => exact ⟨1, rfl, Lib.hid (.inr (.inl ⟨rfl, by trivial⟩)), hb⟩
        case measure => simp [intOf]
      · have HX := Lib.hid hx
        have hx' : (x != 0) = true := by simpa using hx
        clear hx
        go_wp2
        go_ret
        exact ⟨ret_int (HR.out.1 HX.out).symm, hb⟩
    · by_cases hx : y = 0
      · subst hx
        go_wp2
        go_roundw
        case rel => exact ⟨2, rfl, Lib.hid (.inr (.inr (.inl ⟨rfl, by trivial, by trivial⟩))), hb⟩
        case measure => simp [intOf]
      · have HX := Lib.hid hx
        have hx' : (y != 0) = true := by simpa using hx
        clear hx
        go_wp2
        go_ret
        exact ⟨ret_int (HR.out.2.1 (by trivial) HX.out).symm, hb⟩
    · by_cases hx : z = 0
      · subst hx
        go_wp2
        go_roundw
        case rel => exact ⟨3, rfl, Lib.hid (.inr (.inr (.inr ⟨rfl, by trivial, by trivial, by trivial⟩))), hb⟩
        case measure => simp [intOf]
      · have HX := Lib.hid hx
        have hx' : (z != 0) = true := by simpa using hx
        clear hx
        go_wp2
        go_ret
        exact ⟨ret_int (HR.out.2.2 (by trivial) (by trivial)).symm, hb⟩
    · go_wp2
      go_ret
      exact ⟨ret_int (HR.out.2.2 (by trivial) (by trivial)).symm, hb⟩

/-- Does candidate x come behind y, for an office? -/
def LexO (o : Int) (x y : Lk) : Prop := LexLe (min x.c o) x.b x.a (min y.c o) y.b y.a
theorem lexO_cmp (o : Int) (x y : Lk) : 0 < orz (cpI (min x.c o) (min y.c o)) (orz (cpI x.b y.b) (cpI x.a y.a)) ↔ ¬ LexO o x y := by
  have c : ∀ a b : Int, (a < b ∧ cpI a b = -1) ∨ (a = b ∧ cpI a b = 0) ∨ (b < a ∧ cpI a b = 1) := fun a b => by
    unfold cpI
    rcases Int.lt_trichotomy a b with h | h | h
    · exact .inl ⟨h, by rw [if_pos h]⟩
    · exact .inr (.inl ⟨h, by rw [if_neg (by omega), if_neg (by omega)]⟩)
    · exact .inr (.inr ⟨h, by rw [if_neg (by omega), if_pos h]⟩)
  unfold LexO LexLe orz
  generalize min x.c o = p
  generalize min y.c o = q
  rcases c p q with ⟨h, e⟩ | ⟨h, e⟩ | ⟨h, e⟩
  · rw [e, if_neg (by decide)]; omega
  · rw [e, if_pos rfl]
    rcases c x.b y.b with ⟨h1, e1⟩ | ⟨h1, e1⟩ | ⟨h1, e1⟩
    · rw [e1, if_neg (by decide)]; omega
    · rw [e1, if_pos rfl]
      rcases c x.a y.a with ⟨h2, e2⟩ | ⟨h2, e2⟩ | ⟨h2, e2⟩
      · rw [e2]; omega
      · rw [e2]; omega
      · rw [e2]; omega
    · rw [e1, if_neg (by decide)]; omega
  · rw [e, if_neg (by decide)]; omega

theorem below_dk {B : Nat} {a b : World} (h : Below B a.drew b) : Below B a b := ⟨h.os, h.tape, h.output, h.size, h.block⟩
set_option maxRecDepth 100000 in
set_option maxHeartbeats 4000000 in
theorem compare_any' (o : Int) (x y : Lk) (w : World) :
   Calls Try.prog 40 #[.int .i64 o, cdV x, cdV y] w fun e w' => (∃ r : Int, e = .returned (.int .i64 r) ∧ (0 < r ↔ ¬ LexO o x y)) ∧ Below w.heap.size w w' := by
  have HL := Lib.hid (lexO_cmp o x y)
  have C1 := fun W => claimOf_any o x W
  have C2 := fun W => claimOf_any o y W
  have CC := fun (p q : Int) W => cmpc_any p q W
  have CO := or3_any
  obtain ⟨xa, xb, xc⟩ := x
  obtain ⟨ya, yb, yc⟩ := y
  dsimp only [cdV] at C1 C2 HL ⊢
  generalize min xc o = p at *
  generalize min yc o = q at *
  go_enter Try.func40, Try.ntmps40
  go_upto_region 1 with fail
  have B1 : Box ((w.alloc (.cells #[.int .i64 xa, .int .i64 xb, .int .i64 xc] 36)).alloc (.cells #[.int .i64 ya, .int .i64 yb, .int .i64 yc] 36)) w.heap.size 36 #[.int .i64 xa, .int .i64 xb, .int .i64 xc] := (Box.new w _ _).alloc _
  have B2 : Box ((w.alloc (.cells #[.int .i64 xa, .int .i64 xb, .int .i64 xc] 36)).alloc (.cells #[.int .i64 ya, .int .i64 yb, .int .i64 yc] 36)) (w.heap.size + 1) 36 #[.int .i64 ya, .int .i64 yb, .int .i64 yc] := by have := Box.new (w.alloc (.cells #[.int .i64 xa, .int .i64 xb, .int .i64 xc] 36)) 36 #[.int .i64 ya, .int .i64 yb, .int .i64 yc]; simpa using this
  have hw0 : Below w.heap.size w ((w.alloc (.cells #[.int .i64 xa, .int .i64 xb, .int .i64 xc] 36)).alloc (.cells #[.int .i64 ya, .int .i64 yb, .int .i64 yc] 36)) := by (repeat (first | exact Below.refl _ _ | (refine Below.alloc ?_ (by first | exact Nat.le_refl _ | omega | (simp; done) | (simp; omega)) _) | (refine Below.setCell ?_ (by first | exact Nat.le_refl _ | omega | (simp; done) | (simp; omega)) _) | exact Below.drew ‹_›))
  have h1 := B1.lt
  have h2 := B2.lt
  have p0 := B1.cell 0
  have p1 := B1.cell 1
  have p2 := B1.cell 2
  have q0 := B2.cell 0
  have q1 := B2.cell 1
  have q2 := B2.cell 2
  simp only [List.getElem?_toArray, List.getElem?_cons_zero, List.getElem?_cons_succ] at p0 p1 p2 q0 q1 q2
  clear B1 B2
  generalize ((w.alloc (.cells #[.int .i64 xa, .int .i64 xb, .int .i64 xc] 36)).alloc (.cells #[.int .i64 ya, .int .i64 yb, .int .i64 yc] 36)) = W at *
  have HW := Lib.hid hw0
  have hX := fun (x : ExtB W.heap.size W.drew) (bb o : Nat) (h : bb < W.heap.size) => (show x.w.cell? ⟨bb, o, none⟩ = W.cell? ⟨bb, o, none⟩ from x.cell bb o h)
  refine wp_region_stg 20 W.heap.size (by kernel_rfl) (by kernel_rfl) ?_
  refine stg_seg _ 8 [0, 1, 3, 4, 7, 8, 9, 10, 12, 13, 14, 15] (by kernel_rfl) (by kernel_rfl) (by kernel_rfl) (by kernel_rfl) ?_
  (simp only [List.map_cons, List.map_nil, List.getElem?_cons_zero, List.getElem?_cons_succ, Option.getD_some]); (repeat (go_big_quiet_step (fail))); (refine wpQuiet_nil ?_)
  clear hX p0 p1 p2 q0 q1 q2
  refine stg_one _ 7 2 (by kernel_rfl) (by rfl) (by kernel_rfl) (by rfl) ?_
  go_wp2_with fail
  refine (C1 _).mono ?_
  rintro e w1 ⟨rfl, hb1⟩
  refine ⟨hb1, W.heap.size, Nat.le_refl _, ?_⟩
  have H1 := Lib.hid (HW.out.trans ((below_dk hb1).mono HW.out.size))
  have z1 : W.heap.size ≤ w1.heap.size := hb1.size
  clear hb1 C1
  refine stg_one _ 6 5 (by kernel_rfl) (by rfl) (by kernel_rfl) (by rfl) ?_
  go_wp2_with fail
  refine (C2 _).mono ?_
  rintro e w2 ⟨rfl, hb2⟩
  refine ⟨hb2.mono z1, W.heap.size, Nat.le_refl _, ?_⟩
  have H2 := Lib.hid (H1.out.trans (hb2.mono H1.out.size))
  have z2 : W.heap.size ≤ w2.heap.size := Nat.le_trans z1 hb2.size
  clear hb2 C2 H1
  refine stg_one _ 5 6 (by kernel_rfl) (by rfl) (by kernel_rfl) (by rfl) ?_
  go_wp2_with fail
  refine (CC p q _).mono ?_
  rintro e w3 ⟨rfl, rfl⟩
  refine ⟨Below.refl _ _, W.heap.size, Nat.le_refl _, ?_⟩
  refine stg_one _ 4 11 (by kernel_rfl) (by rfl) (by kernel_rfl) (by rfl) ?_
  go_wp2_with fail
  refine (CC xb yb _).mono ?_
  rintro e w3 ⟨rfl, rfl⟩
  refine ⟨Below.refl _ _, W.heap.size, Nat.le_refl _, ?_⟩
  refine stg_one _ 3 16 (by kernel_rfl) (by rfl) (by kernel_rfl) (by rfl) ?_
  go_wp2_with fail
  refine (CC xa ya _).mono ?_
  rintro e w3 ⟨rfl, rfl⟩
  refine ⟨Below.refl _ _, W.heap.size, Nat.le_refl _, ?_⟩
  refine stg_one _ 2 17 (by kernel_rfl) (by rfl) (by kernel_rfl) (by rfl) ?_
  go_wp2_with fail
  refine ⟨(Below.refl _ _).alloc z2 _, W.heap.size, Nat.le_refl _, ?_⟩
  have K := Box.new w2 3 #[.int .i64 (cpI p q), .int .i64 (cpI xb yb), .int .i64 (cpI xa ya)]
  have C9 := CO w2.heap.size 3 (cpI p q) (cpI xb yb) (cpI xa ya) _ K.lt (K.cell 0) (K.cell 1) (K.cell 2)
  have H3 := Lib.hid (H2.out.alloc H2.out.size (.cells #[.int .i64 (cpI p q), .int .i64 (cpI xb yb), .int .i64 (cpI xa ya)] 3))
  have z3 : W.heap.size ≤ (w2.alloc (.cells #[.int .i64 (cpI p q), .int .i64 (cpI xb yb), .int .i64 (cpI xa ya)] 3)).heap.size := by simp; omega
  clear K CO CC
  generalize (w2.alloc (.cells #[.int .i64 (cpI p q), .int .i64 (cpI xb yb), .int .i64 (cpI xa ya)] 3)) = w4 at *
  refine stg_one _ 1 18 (by kernel_rfl) (by rfl) (by kernel_rfl) (by rfl) ?_
  go_wp2_with fail
  refine C9.mono ?_
  rintro e w5 ⟨rfl, hb5⟩
  refine ⟨hb5.mono z3, W.heap.size, Nat.le_refl _, ?_⟩
  have H5 := Lib.hid (H3.out.trans (hb5.mono H3.out.size))
  clear hb5 C9 H3
  have hX := fun (x : ExtB W.heap.size w5) (bb o : Nat) (h : bb < W.heap.size) => (show x.w.cell? ⟨bb, o, none⟩ = w5.cell? ⟨bb, o, none⟩ from x.cell bb o h)
  refine stg_seg _ 0 [19] (by kernel_rfl) (by kernel_rfl) (by kernel_rfl) (by kernel_rfl) ?_
  (simp only [List.map_cons, List.map_nil, List.getElem?_cons_zero, List.getElem?_cons_succ, Option.getD_some]); (repeat (go_big_quiet_step (fail))); (refine wpQuiet_nil ?_)
  refine stg_end (by kernel_rfl) ?_
  clear hX
  go_wp2_with fail
  go_ret
  exact ⟨⟨_, rfl, HL.out⟩, H5.out⟩

end Go.Proofs.Ytcndhodibeofiaa
