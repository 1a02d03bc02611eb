/-
  Contracts over this seat: the last route of a table that a function holds of.
-/
import Derived.Test.YtohflcbpjjnccabTfc
import Derived.Test.YtohflcbpjjnccabA3
namespace Go.Proofs.Ytohflcbpjjnccab
open Go.RowKit Go.Shelf Go.Maps

attribute [local go_sem] Oper.semAt_some

/-- The places, from the last one on. -/
def bwTo (n : Nat) : Nat → List (Fin n)
  | 0 => []
  | k + 1 => bwTo n k ++ (if h : k < n then [⟨n - 1 - k, by omega⟩] else [])
theorem bw_next {n m k : Nat} (h : m + 1 + k = n) : bwTo n (k + 1) = bwTo n k ++ [⟨m, by omega⟩] := by
  have e : (⟨n - 1 - k, by omega⟩ : Fin n) = ⟨m, by omega⟩ := Fin.ext (by show n - 1 - k = m; omega)
  rw [bwTo, dif_pos (by omega), e]
theorem bw_len {n : Nat} : ∀ {k : Nat}, k ≤ n → (bwTo n k).length = k
  | 0, _ => rfl
  | k + 1, h => by rw [bw_next (m := n - 1 - k) (by omega), List.length_append, bw_len (by omega)]; rfl
theorem bw_mem {n j : Nat} (hj : j < n) : ∀ {k : Nat}, k ≤ n → n - k ≤ j → (⟨j, hj⟩ : Fin n) ∈ bwTo n k
  | 0, _, h => by omega
  | k + 1, hk, h => by
    rw [bw_next (m := n - 1 - k) (by omega), List.mem_append]
    by_cases e : n - k ≤ j
    · exact .inl (bw_mem hj (by omega) e)
    · refine .inr (List.mem_singleton.2 (Fin.ext ?_))
      show j = n - 1 - k
      omega
theorem bw_last {n k : Nat} (hk : k ≤ n) {ini : List (Fin n)} {x : Fin n} (h : bwTo n k = ini ++ [x]) : ∃ k', k = k' + 1 ∧ ini = bwTo n k' ∧ x.val + 1 + k' = n := by
  cases k with
  | zero =>
    have := congrArg List.length h
    simp [bwTo] at this
  | succ k' =>
    rw [bw_next (m := n - 1 - k') (by omega)] at h
    obtain ⟨h1, h2⟩ := List.append_inj' h rfl
    refine ⟨k', rfl, h1.symm, ?_⟩
    have h3 : (⟨n - 1 - k', by omega⟩ : Fin n) = x := by simpa using h2
    rw [← h3]
    show n - 1 - k' + 1 + k' = n
    omega

set_option maxRecDepth 100000 in
set_option maxHeartbeats 2000000 in
theorem bw_iter (N : Nat) (hN : 2 ≤ N) (l Bs n₀ : Nat) (P : Nat → Prop) (A : Option Addr) (rs : List Lk) (c : Nat) (hm : rs.length ≤ 1048576) (J Jx : List (Fin rs.length) → World → Prop)
    (W : World) (hP0 : ∀ b, b < n₀ → P b) (hPs : P Bs) (hPlt : ∀ k, P k → k < W.heap.size)
    (hY : ∀ pre x W1, J pre W1 → pre.length < rs.length → YieldAt Fence.wide (N - 1) Try.prog l #[.int .i64 (x.val : Int), rtV rs[x]] W1 fun e W' =>
      (e = .returned (.bool true) ∧ J (pre ++ [x]) W' ∧ KeepB P W1 W') ∨ (e = .returned (.bool false) ∧ Jx (pre ++ [x]) W'))
    (hs : Box W Bs 28 #[.slice A rs.length c]) (hS : Sl W n₀ A rs) (h0 : J [] W) :
    CallsIn Fence.wide N Try.prog 79 #[.func (.yield l) #[] #[], .pointer (some ⟨Bs, 0, none⟩)] W fun e W' => (∃ v, e = .returned v) ∧
      ((∃ ys, ys = bwTo rs.length rs.length ∧ J ys W') ∨ (∃ pre, (∃ k, k ≤ rs.length ∧ pre = bwTo rs.length k) ∧ Jx pre W')) := by
  have hbs0 : W.cell? ⟨Bs, 0, none⟩ = some (.slice A rs.length c) := hs.cell 0
  have hw0 : IntKind.i64.wrap ((rs.length : Int) - 1) = (rs.length : Int) - 1 := IntWalk.i64_in _ (by omega)
  have h1N : 1 ≤ N := by omega
  have HS := Lib.hid hS
  have HB := Lib.hid hs
  have HY := Lib.hid hY
  clear hS hs hY
  refine callsIn_of_wp Try.func79 rfl trivial ?_ rfl
  simp only [Try.ntmps79, List.size_toArray, List.length_cons, List.length_nil, Nat.reduceAdd, Nat.reduceSub, Array.replicate_succ, Array.replicate_zero, List.push_toArray, List.append_toArray, List.nil_append, List.cons_append]
  gi_wp2
  gi_loopw [3] (fun i wr => ∃ m k : Nat, Hid (m + k = rs.length) ∧ i = .int .i64 ((m : Int) - 1) ∧ J (bwTo rs.length k) wr ∧ KeepB P W wr)
    (fun i _ => (intOf i + 1).toNat)
  case atStart => exact ⟨rs.length, 0, Lib.hid rfl, rfl, h0, KeepB.refl _ _⟩
  case round =>
    obtain ⟨m, k, HMK, rfl, hJs, hnx⟩ := hrel
    have hz := hnx.1
    have hcb : wr.cell? ⟨Bs, 0, none⟩ = some (.slice A rs.length c) := Box.cell (show Box wr Bs 28 #[.slice A rs.length c] from (hnx.2 Bs hPs).trans HB.out) 0
    have hbs1 : Bs < wr.heap.size := Nat.lt_of_lt_of_le (hPlt Bs hPs) hz
    clear hbs0
    cases m with
    | zero =>
      have hk : k = rs.length := by have := HMK.out; omega
      have HJ := Lib.hid hJs
      have HK := Lib.hid hk
      clear hJs hk
      gi_wp2
      go_end0
      exact ⟨⟨_, rfl⟩, .inl ⟨_, rfl, HK.out ▸ HJ.out⟩⟩
    | succ m =>
      have hmk := HMK.out
      have hlt : m < rs.length := by omega
      have hl : rs[m]? = some rs[m] := List.getElem?_eq_getElem hlt
      obtain ⟨b, off, rfl, hbb, hc1, hc2, hc3⟩ := (HS.out.keepB hnx hP0) m _ hl
      have hbb1 : b < wr.heap.size := Nat.lt_of_lt_of_le (hPlt b (hP0 b hbb)) hz
      have hsub : ((m + 1 : Nat) : Int) - 1 = (m : Int) := by omega
      have hwm : IntKind.i64.wrap ((m : Int) - 1) = (m : Int) - 1 := IntWalk.i64_in _ (by omega)
      have hwm0 : IntKind.i64.wrap (m : Int) = (m : Int) := IntWalk.i64_in _ (by omega)
      have hge : (0 : Int) ≤ (m : Int) := by omega
      have HNX : Hid (bwTo rs.length (k + 1) = bwTo rs.length k ++ [⟨m, hlt⟩]) := Lib.hid (bw_next (n := rs.length) (m := m) (k := k) (by omega))
      have HX := Lib.hid hnx
      obtain ⟨fn, tmps, assign, body, hy, hR⟩ := HY.out _ ⟨m, hlt⟩ wr hJs (by rw [bw_len (by omega)]; omega)
      have HR := Lib.hid hR
      have HJ := Lib.hid hJs
      clear hl hJs hnx hmk hR
      dsimp only [Fin.getElem_fin] at hy
      generalize rs[m] = x at hy hc1 hc2 hc3
      obtain ⟨xa, xb, xc⟩ := x
      dsimp only [rtV] at *
      gi_wp2_with fail
      refine HR.out.mono ?_
      rintro e W3 (⟨rfl, hJ3, hk3⟩ | ⟨rfl, hJx3⟩)
      · gi_wp2
        go_roundw
        case rel => exact ⟨m, k + 1, Lib.hid (by have := HMK.out; omega), rfl, by rw [HNX.out]; exact hJ3, HX.out.trans hk3⟩
        case measure => simp [intOf]
      · gi_wp2
        refine bodyPost_ret (results_none rfl _ _ _) rfl ?_
        exact ⟨⟨_, rfl⟩, .inr ⟨_, ⟨k + 1, by have := HMK.out; omega, HNX.out.symm⟩, hJx3⟩⟩
theorem bw_stops (N : Nat) (hN : 2 ≤ N) (Bs n₀ : Nat) (P : Nat → Prop) (A : Option Addr) (rs : List Lk) (c : Nat) (hm : rs.length ≤ 1048576)
    (w : World) (hP0 : ∀ b, b < n₀ → P b) (hPs : P Bs) (hPlt : ∀ k, P k → k < w.heap.size)
    (hs : Box w Bs 28 #[.slice A rs.length c]) (hn₀ : n₀ ≤ w.heap.size) (hS : Sl w n₀ A rs) :
    SeqStopsK Fence.wide N Try.prog 79 #[.pointer (some ⟨Bs, 0, none⟩)] (fun x : Fin rs.length => #[Value.int .i64 (x.val : Int), rtV rs[x]]) (KeepB P)
      (fun ys => ys = bwTo rs.length rs.length) (fun pre => ∃ k, k ≤ rs.length ∧ pre = bwTo rs.length k) rs.length w := fun l J Jx W hW _hJ _ hY h0 =>
  bw_iter N hN l Bs n₀ P A rs c hm J Jx W hP0 hPs (fun k hk => Nat.lt_of_lt_of_le (hPlt k hk) hW.size) hY (hs.below hW hs.lt) (hS.below (hW.mono hn₀)) h0
theorem backward_any (A : Option Addr) (n c : Nat) (w : World) :
   Calls Try.prog 73 #[.slice A n c] w fun e w' => e = .returned (.func (.func 79) #[] #[.pointer (some ⟨w.heap.size, 0, none⟩)]) ∧
     w.alloc (.cells #[.slice A n c] 28) = w' := by
  go_enter Try.func73, Try.ntmps73
  go_wp2
  go_ret
  exact ⟨rfl, rfl⟩

theorem acl_any (x r : Lk) (P : Nat) (w : World) (hP : Box w P 38 #[.int .i64 r.a, .int .i64 r.b, .int .i64 r.c]) :
   Calls Try.prog 50 #[rtV x, .pointer (some ⟨P, 0, none⟩)] w fun e w' => e = .returned (.bool (rtLt x r)) ∧ Below w.heap.size w w' := by
  obtain ⟨xa, xb, xc⟩ := x
  obtain ⟨ra, rb, rc⟩ := r
  have C := fun W => rtbef_any ⟨xa, xb, xc⟩ ⟨ra, rb, rc⟩ W
  dsimp only [rtV] at *
  obtain ⟨z1, p0, p1, p2, -, -, -⟩ := hP.trip
  have hb0 := Lib.hid (show Below w.heap.size w (w.alloc (.cells #[.int .i64 xa, .int .i64 xb, .int .i64 xc] 38)) by (repeat (first | exact Below.refl _ _ | (refine Below.alloc ?_ (by first | exact Nat.le_refl _ | omega | (simp; done) | (simp; omega)) _) | (refine Below.setCell ?_ (by first | exact Nat.le_refl _ | omega | (simp; done) | (simp; omega)) _) | exact Below.drew ‹_›)))
  clear hP
  go_enter Try.func50, Try.ntmps50
  go_wp2_with (go_at_call 41; refine (C _).mono ?_; clear C; rintro e w1 ⟨rfl, hb1⟩; have B1 := Lib.hid (hb0.out.trans (hb1.mono hb0.out.size)); clear hb1)
  go_ret
  exact ⟨rfl, B1.out⟩
theorem fcl_any (x : Lk) (a : Int) (P : Nat) (w : World) (ha : 0 ≤ a ∧ a ≤ 255) (hb : 0 ≤ x.b ∧ x.b ≤ 8) (hP : Box w P 3 #[.int .i64 a]) :
   Calls Try.prog 58 #[rtV x, .pointer (some ⟨P, 0, none⟩)] w fun e w' => e = .returned (.bool (decide (x.a = fbI a x.b))) ∧ Below w.heap.size w w' := by
  obtain ⟨xa, xb, xc⟩ := x
  have C := fun W => fbits_any a xb W ha hb
  dsimp only [rtV] at *
  have KX := Lib.hid (Box.new w 38 #[.int .i64 xa, .int .i64 xb, .int .i64 xc])
  have KP := Lib.hid (hP.alloc (.cells #[.int .i64 xa, .int .i64 xb, .int .i64 xc] 38))
  have hb0 := Lib.hid (show Below w.heap.size w (w.alloc (.cells #[.int .i64 xa, .int .i64 xb, .int .i64 xc] 38)) by (repeat (first | exact Below.refl _ _ | (refine Below.alloc ?_ (by first | exact Nat.le_refl _ | omega | (simp; done) | (simp; omega)) _) | (refine Below.setCell ?_ (by first | exact Nat.le_refl _ | omega | (simp; done) | (simp; omega)) _) | exact Below.drew ‹_›)))
  clear hP
  generalize fbI a xb = fb at *
  go_enter Try.func58, Try.ntmps58
  go_wp2_with fail
  generalize w.alloc (.cells #[.int .i64 xa, .int .i64 xb, .int .i64 xc] 38) = V at *
  obtain ⟨z2, x10, x11, x12, -, -, -⟩ := KX.out.trip
  have p0 : V.cell? ⟨P, 0, none⟩ = some (.int .i64 a) := KP.out.cell 0
  have zp := KP.out.lt
  have hX := fun (y : Ext V) (bb o : Nat) (h : bb < V.heap.size) => y.cell bb o h
  refine wp_region_ext (by kernel_rfl) (by kernel_rfl) ?_
  repeat (go_big_quiet_step (first | (go_at_call 59; exact Calls.ext_of (C _)) | fail))
  (refine wpQuiet_nil ?_); (rintro _ ⟨X, rfl⟩); (have hw1 := X.below); (generalize X.w = w1 at *); (clear X)
  clear hX
  go_wp2_with fail
  go_ret
  exact ⟨ret_bool (by by_cases h : xa = fb <;> simp [h]), hb0.out.trans (hw1.mono hb0.out.size)⟩
theorem lst_done {rs : List Lk} {pr : Lk → Bool} (h : ∀ p ∈ bwTo rs.length rs.length, pr rs[p] = false) : IsLst pr rs (-1) := by
  refine .inl ⟨rfl, fun j y hy => ?_⟩
  obtain ⟨hj, rfl⟩ := List.getElem?_eq_some_iff.1 hy
  exact h ⟨j, hj⟩ (bw_mem hj (Nat.le_refl _) (by omega))
theorem lst_stop {rs : List Lk} {pr : Lk → Bool} {k : Nat} (hk : k ≤ rs.length) {ini : List (Fin rs.length)} {x : Fin rs.length} (e : bwTo rs.length k = ini ++ [x]) (h : ∀ p ∈ ini, pr rs[p] = false) (hx : pr rs[x] = true) : IsLst pr rs (x.val : Int) := by
  obtain ⟨k', rfl, rfl, hv⟩ := bw_last hk e
  refine .inr ⟨x.val, rs[x], rfl, List.getElem?_eq_getElem x.isLt, hx, fun j y hj hy => ?_⟩
  obtain ⟨hj2, rfl⟩ := List.getElem?_eq_some_iff.1 hy
  exact h ⟨j, hj2⟩ (bw_mem hj2 (by omega) (by omega))

set_option maxRecDepth 100000 in
set_option maxHeartbeats 3200000 in
theorem lastadd_any (pr : Lk → Bool) (P : Nat) (A : Option Addr) (rs : List Lk) (c : Nat) (B : Option Addr) (m d : Nat) (w : World) (hm : rs.length ≤ 1048576) (hS : Sl w w.heap.size A rs)
   (HC : ∀ (x : Lk) (W : World), x ∈ rs → Below w.heap.size w W → Calls Try.prog 50 #[rtV x, .pointer (some ⟨P, 0, none⟩)] W fun e w' => e = .returned (.bool (pr x)) ∧ Below W.heap.size W w') :
   Calls Try.prog 49 #[tbV A rs.length c B m d, .func (.func 50) #[] #[.pointer (some ⟨P, 0, none⟩)]] w fun e w' => (∃ k : Int, e = .returned (.int .i64 k) ∧ IsLst pr rs k) ∧ Below w.heap.size w w' := by
  have HS := Lib.hid hS
  have HH := Lib.hid HC
  clear hS HC
  obtain ⟨N, hN⟩ : ∃ N : Nat, 5 ≤ N := ⟨5, Nat.le_refl _⟩
  refine (callsIn_wide (n := N)).1 ?_
  have h1 : 1 ≤ N := by omega
  refine callsIn_of_wp_marks Try.func49 rfl trivial ?_ rfl
  simp only [Try.ntmps49, List.size_toArray, List.length_cons, List.length_nil, Nat.reduceAdd, Nat.reduceSub, Array.replicate_succ, Array.replicate_zero, List.push_toArray, List.append_toArray, List.nil_append, List.cons_append]
  gi_wp2_with fail
  refine ⟨trivial, ?_⟩
  refine (callsIn_wide.2 (backward_any A rs.length c _)).mono ?_
  rintro e w2 ⟨rfl, hw2⟩
  have hF0 : Box w2 (w.heap.size + 1) 59 #[.func (.func 50) #[] #[.pointer (some ⟨P, 0, none⟩)]] := by
    rw [← hw2]
    have := Box.new (w.alloc (.cells #[.slice A rs.length c, .slice B m d] 30)) 59 #[.func (.func 50) #[] #[.pointer (some ⟨P, 0, none⟩)]]
    rw [World.size_alloc] at this
    exact (this.alloc _).alloc _
  have hR0 : Box w2 (w.heap.size + 1 + 1) 3 #[.int .i64 0] := by
    rw [← hw2]
    have := Box.new ((w.alloc (.cells #[.slice A rs.length c, .slice B m d] 30)).alloc (.cells #[.func (.func 50) #[] #[.pointer (some ⟨P, 0, none⟩)]] 59)) 3 #[.int .i64 0]
    simp only [World.size_alloc] at this
    exact this.alloc _
  have hB0 : Box w2 (w.heap.size + 1 + 1 + 1) 28 #[.slice A rs.length c] := by
    rw [← hw2]
    have := Box.new (((w.alloc (.cells #[.slice A rs.length c, .slice B m d] 30)).alloc (.cells #[.func (.func 50) #[] #[.pointer (some ⟨P, 0, none⟩)]] 59)).alloc (.cells #[.int .i64 0] 3)) 28 #[.slice A rs.length c]
    simpa only [World.size_alloc] using this
  have hW0 : Below w.heap.size w w2 := by
    rw [← hw2]
    (repeat (first | exact Below.refl _ _ | (refine Below.alloc ?_ (by first | exact Nat.le_refl _ | omega | (simp; done) | (simp; omega)) _) | (refine Below.setCell ?_ (by first | exact Nat.le_refl _ | omega | (simp; done) | (simp; omega)) _) | exact Below.drew ‹_›))
  have hz2 : w2.heap.size = w.heap.size + 1 + 1 + 1 + 1 := by
    rw [← hw2]
    simp
  simp only [World.size_alloc]
  clear hw2
  gi_wp2_with fail
  have hz3 : w.heap.size + 4 ≤ w2.heap.size ∧ w2.heap.size ≤ w.heap.size + 4 := by omega
  have HZ := Lib.hid hz2
  clear hz2
  have S2 := HS.out.below hW0
  refine wpIn_rangeFunc_ownH rfl h1 (gf := 79) (lb := #[.pointer (some ⟨w.heap.size + 1 + 1 + 1, 0, none⟩)]) rfl trivial (enters_of Try.func79 (by kernel_rfl) rfl)
    (bw_stops (N - 1) (by omega) (w.heap.size + 1 + 1 + 1) w.heap.size (fun k => k < w2.heap.size) A rs c hm w2 (fun b h => by omega) (by omega) (fun k h => h) hB0 (by omega) S2)
    (fun h k => h.trans k) (fun W l o o' hl h _ _ => KeepB.put (w := w2) (fun k h => h) W l o o' hl h) (Below.refl _ _) (fun _ => rfl)
    (fun pre W => (((∀ p ∈ pre, pr rs[p] = false) ∧ Boxed W (w.heap.size + 1) 59 (.func (.func 50) #[] #[.pointer (some ⟨P, 0, none⟩)])) ∧ Boxed W (w.heap.size + 1 + 1) 3 (.int .i64 0)) ∧ w2.heap.size ≤ W.heap.size ∧ Below w.heap.size w W)
    (fun c pre W => (c = .ret ∧ ∃ ini last, pre = ini ++ [last] ∧ (∀ p ∈ ini, pr rs[p] = false) ∧ pr rs[last] = true ∧ W.cell? ⟨w.heap.size + 1 + 1, 0, none⟩ = some (.int .i64 (last.val : Int))) ∧ Below w.heap.size w W)
    (OwnFrom.and (OwnFrom.and (OwnFrom.and (ownFrom_pure _ (fun pre : List (Fin rs.length) => ∀ p ∈ pre, pr rs[p] = false)) (Own.from (boxed_own _ _ (fun _ => .func (.func 50) #[] #[.pointer (some ⟨P, 0, none⟩)])) _)) (Own.from (boxed_own _ _ (fun _ => .int .i64 0)) _)) (OwnFrom.and (fun _ _ _ _ hs hg _ => Nat.le_trans hs hg.size) (ownFrom_below (Nat.le_refl _) (by omega))))
    (fun c => OwnFrom.and (Own.from (fun s A B row hs hg hr => by obtain ⟨hc, ini, last, e1, e2, e3, e4⟩ := hs; exact ⟨hc, ini, last, e1, e2, e3, cell_kept e4 hg hr⟩) _) (ownFrom_below (Nat.le_refl _) (by omega)))
    ⟨⟨⟨fun p h => by simp at h, hF0⟩, hR0⟩, Nat.le_refl _, hW0⟩
    (fun x a' W => ∃ r, a' = { tmps := #[tbV A rs.length c B m d, .func (.func 50) #[] #[.pointer (some ⟨P, 0, none⟩)], .pointer (some ⟨w.heap.size, 0, none⟩), .pointer (some ⟨w.heap.size + 1, 0, none⟩), .pointer (some ⟨w.heap.size + 1 + 1, 0, none⟩), .int .i64 (x.val : Int), .pointer (some ⟨r, 0, none⟩), .pointer (some ⟨w.heap.size, 0, none⟩), .slice A rs.length c,
      .func (.func 79) #[] #[.pointer (some ⟨w.heap.size + 1 + 1 + 1, 0, none⟩)], .int .i64 (x.val : Int), rtV rs[x], undef, undef, undef, undef], defers := [] } ∧ Box W r 38 #[.int .i64 rs[x].a, .int .i64 rs[x].b, .int .i64 rs[x].c])
    (fun x a' _ X Y row hs hg hr => by obtain ⟨r, e, hb⟩ := hs; exact ⟨r, e, (hg.block r hb.lt (fun e' => by obtain ⟨_, o, ho, hc⟩ := hr r e'.symm; rw [show X.heap[r]? = _ from hb] at ho; cases ho; cases hc)).trans hb⟩) ?assign ?body ?done ?stop
  case assign =>
    rintro l pre x W K ⟨⟨⟨hp, hF⟩, hR⟩, hz, hB⟩ hK
    gi_wp2
    refine hK _ _ (KeepsFrom.of_grownBy (World.grownBy_alloc W _ none) (fun j e => by cases e)) ⟨by simp, fun k hk => Below.heap_alloc W _ k (by omega)⟩ ⟨⟨⟨hp, hF.alloc _⟩, hR.alloc _⟩, by simp; omega, hB.alloc hB.size _⟩ ⟨_, rfl, Box.new W _ _⟩
  case body =>
    rintro l pre x a' W hl hr ⟨⟨⟨hp, hF⟩, hR⟩, hz, hB⟩ ⟨r, rfl, hbx⟩ _
    have hfc := hF.cell
    obtain ⟨zr, r0, r1, r2, -, -, -⟩ := hbx.trip
    have C1 := HH.out rs[x] W (List.getElem_mem _) hB
    have hlr := hR.lt
    have HP := Lib.hid hp
    have HF := Lib.hid hF
    have HR := Lib.hid hR
    have HB := Lib.hid hB
    have hd : 1 ≤ N - 1 - 1 := by omega
    clear hp hF hR hB hbx hr
    cases hpx : pr rs[x] with
    | true =>
      rw [hpx] at C1
      have HX := Lib.hid hpx
      clear hpx
      dsimp only [rtV, Fin.getElem_fin] at *
      gi_wp2_with (first
        | (refine ⟨trivial, ?_⟩; gi_at_call 50; refine (callsIn_wide.2 C1).mono ?_; clear C1; rintro e w1 ⟨rfl, hb1⟩; have B1 := Lib.hid hb1; have HR1 := Lib.hid (Box.below HR.out hb1 (by omega)); clear hb1; have q0 := HR1.out.cell 0; have qf := HR1.out.frozen 0)
        | fail)
      exact ⟨(KeepsFrom.of_grownBy (below_grown B1.out) (fun j e => by cases e)).trans ((KeepsOthers.setCell _ _ _).from _), ⟨rfl, pre, x, rfl, HP.out, HX.out, World.cell?_setCell_same' _ _ _ (by rw [q0]; rfl)⟩, (HB.out.trans (B1.out.mono HB.out.size)).setCell (by simp; omega) _⟩
    | false =>
      rw [hpx] at C1
      have HX := Lib.hid hpx
      clear hpx
      dsimp only [rtV, Fin.getElem_fin] at *
      gi_wp2_with (first
        | (refine ⟨trivial, ?_⟩; gi_at_call 50; refine (callsIn_wide.2 C1).mono ?_; clear C1; rintro e w1 ⟨rfl, hb1⟩; have B1 := Lib.hid hb1; clear hb1)
        | fail)
      have hs1 := B1.out.size
      exact ⟨KeepsFrom.of_grownBy (below_grown B1.out) (fun j e => by cases e), KeepB.of_below B1.out (fun k h => by omega), ⟨⟨⟨fun p hp' => (List.mem_append.1 hp').elim (HP.out p) (fun e => by simp at e; subst e; exact HX.out), Box.below HF.out B1.out HF.out.lt⟩, Box.below HR.out B1.out HR.out.lt⟩, by omega, HB.out.trans (B1.out.mono HB.out.size)⟩⟩
  case done =>
    rintro D ys W hD rfl ⟨⟨⟨hp, hF⟩, hR⟩, hz, hB⟩ hK
    have q0 := hR.cell
    have qf := hR.frozen
    have hlr := hR.lt
    gi_wp2
    have hK' := (KeepsOthers.setCell W ⟨w.heap.size + 1 + 1, 0, none⟩ (.int .i64 (-1))).same D _ hK rfl
    refine ⟨by simp, .inl ⟨_, _, rfl, run_takeDeferred hK', ?_⟩⟩
    have hc5 := cell_kept (World.cell?_setCell_same' W ⟨w.heap.size + 1 + 1, 0, none⟩ (.int .i64 (-1)) (by rw [q0]; rfl)) (grownBy_putObj' _ D (.deferred none)) (fun r e => by cases e; exact ⟨_, hK', rfl⟩)
    refine ⟨.int .i64 (-1), ?_, ⟨-1, rfl, lst_done hp⟩, (hB.setCell (p := ⟨w.heap.size + 1 + 1, 0, none⟩) (by simp; omega) _).trans (belowK_b (w := w) (Nat.le_refl _) _ D _ _ (by omega) hK' rfl rfl)⟩
    simp [results, Try.f49, go_sem, hc5]
  case stop =>
    rintro D c' pre W hD ⟨k, hk, rfl⟩ ⟨⟨rfl, ini, last, e1, e2, e3, hcr⟩, hB⟩ hK
    gi_wp2
    refine ⟨by simp, .inl ⟨_, _, rfl, run_takeDeferred hK, ?_⟩⟩
    have hc5 := cell_kept hcr (grownBy_putObj' _ D (.deferred none)) (fun r e => by cases e; exact ⟨_, hK, rfl⟩)
    refine ⟨.int .i64 (last.val : Int), ?_, ⟨_, rfl, lst_stop hk e1 e2 e3⟩, hB.trans (belowK_b (w := w) (Nat.le_refl _) W D _ _ (by omega) hK rfl rfl)⟩
    simp [results, Try.f49, go_sem, hc5]

set_option maxRecDepth 100000 in
set_option maxHeartbeats 3200000 in
theorem lastfnd_any (pr : Lk → Bool) (P : Nat) (A : Option Addr) (rs : List Lk) (c : Nat) (B : Option Addr) (m d : Nat) (w : World) (hm : rs.length ≤ 1048576) (hS : Sl w w.heap.size A rs)
   (HC : ∀ (x : Lk) (W : World), x ∈ rs → Below w.heap.size w W → Calls Try.prog 58 #[rtV x, .pointer (some ⟨P, 0, none⟩)] W fun e w' => e = .returned (.bool (pr x)) ∧ Below W.heap.size W w') :
   Calls Try.prog 49 #[tbV A rs.length c B m d, .func (.func 58) #[] #[.pointer (some ⟨P, 0, none⟩)]] w fun e w' => (∃ k : Int, e = .returned (.int .i64 k) ∧ IsLst pr rs k) ∧ Below w.heap.size w w' := by
  have HS := Lib.hid hS
  have HH := Lib.hid HC
  clear hS HC
  obtain ⟨N, hN⟩ : ∃ N : Nat, 5 ≤ N := ⟨5, Nat.le_refl _⟩
  refine (callsIn_wide (n := N)).1 ?_
  have h1 : 1 ≤ N := by omega
  refine callsIn_of_wp_marks Try.func49 rfl trivial ?_ rfl
  simp only [Try.ntmps49, List.size_toArray, List.length_cons, List.length_nil, Nat.reduceAdd, Nat.reduceSub, Array.replicate_succ, Array.replicate_zero, List.push_toArray, List.append_toArray, List.nil_append, List.cons_append]
  gi_wp2_with fail
  refine ⟨trivial, ?_⟩
  refine (callsIn_wide.2 (backward_any A rs.length c _)).mono ?_
  rintro e w2 ⟨rfl, hw2⟩
  have hF0 : Box w2 (w.heap.size + 1) 59 #[.func (.func 58) #[] #[.pointer (some ⟨P, 0, none⟩)]] := by
    rw [← hw2]
    have := Box.new (w.alloc (.cells #[.slice A rs.length c, .slice B m d] 30)) 59 #[.func (.func 58) #[] #[.pointer (some ⟨P, 0, none⟩)]]
    rw [World.size_alloc] at this
    exact (this.alloc _).alloc _
  have hR0 : Box w2 (w.heap.size + 1 + 1) 3 #[.int .i64 0] := by
    rw [← hw2]
    have := Box.new ((w.alloc (.cells #[.slice A rs.length c, .slice B m d] 30)).alloc (.cells #[.func (.func 58) #[] #[.pointer (some ⟨P, 0, none⟩)]] 59)) 3 #[.int .i64 0]
    simp only [World.size_alloc] at this
    exact this.alloc _
  have hB0 : Box w2 (w.heap.size + 1 + 1 + 1) 28 #[.slice A rs.length c] := by
    rw [← hw2]
    have := Box.new (((w.alloc (.cells #[.slice A rs.length c, .slice B m d] 30)).alloc (.cells #[.func (.func 58) #[] #[.pointer (some ⟨P, 0, none⟩)]] 59)).alloc (.cells #[.int .i64 0] 3)) 28 #[.slice A rs.length c]
    simpa only [World.size_alloc] using this
  have hW0 : Below w.heap.size w w2 := by
    rw [← hw2]
    (repeat (first | exact Below.refl _ _ | (refine Below.alloc ?_ (by first | exact Nat.le_refl _ | omega | (simp; done) | (simp; omega)) _) | (refine Below.setCell ?_ (by first | exact Nat.le_refl _ | omega | (simp; done) | (simp; omega)) _) | exact Below.drew ‹_›))
  have hz2 : w2.heap.size = w.heap.size + 1 + 1 + 1 + 1 := by
    rw [← hw2]
    simp
  simp only [World.size_alloc]
  clear hw2
  gi_wp2_with fail
  have hz3 : w.heap.size + 4 ≤ w2.heap.size ∧ w2.heap.size ≤ w.heap.size + 4 := by omega
  have HZ := Lib.hid hz2
  clear hz2
  have S2 := HS.out.below hW0
  refine wpIn_rangeFunc_ownH rfl h1 (gf := 79) (lb := #[.pointer (some ⟨w.heap.size + 1 + 1 + 1, 0, none⟩)]) rfl trivial (enters_of Try.func79 (by kernel_rfl) rfl)
    (bw_stops (N - 1) (by omega) (w.heap.size + 1 + 1 + 1) w.heap.size (fun k => k < w2.heap.size) A rs c hm w2 (fun b h => by omega) (by omega) (fun k h => h) hB0 (by omega) S2)
    (fun h k => h.trans k) (fun W l o o' hl h _ _ => KeepB.put (w := w2) (fun k h => h) W l o o' hl h) (Below.refl _ _) (fun _ => rfl)
    (fun pre W => (((∀ p ∈ pre, pr rs[p] = false) ∧ Boxed W (w.heap.size + 1) 59 (.func (.func 58) #[] #[.pointer (some ⟨P, 0, none⟩)])) ∧ Boxed W (w.heap.size + 1 + 1) 3 (.int .i64 0)) ∧ w2.heap.size ≤ W.heap.size ∧ Below w.heap.size w W)
    (fun c pre W => (c = .ret ∧ ∃ ini last, pre = ini ++ [last] ∧ (∀ p ∈ ini, pr rs[p] = false) ∧ pr rs[last] = true ∧ W.cell? ⟨w.heap.size + 1 + 1, 0, none⟩ = some (.int .i64 (last.val : Int))) ∧ Below w.heap.size w W)
    (OwnFrom.and (OwnFrom.and (OwnFrom.and (ownFrom_pure _ (fun pre : List (Fin rs.length) => ∀ p ∈ pre, pr rs[p] = false)) (Own.from (boxed_own _ _ (fun _ => .func (.func 58) #[] #[.pointer (some ⟨P, 0, none⟩)])) _)) (Own.from (boxed_own _ _ (fun _ => .int .i64 0)) _)) (OwnFrom.and (fun _ _ _ _ hs hg _ => Nat.le_trans hs hg.size) (ownFrom_below (Nat.le_refl _) (by omega))))
    (fun c => OwnFrom.and (Own.from (fun s A B row hs hg hr => by obtain ⟨hc, ini, last, e1, e2, e3, e4⟩ := hs; exact ⟨hc, ini, last, e1, e2, e3, cell_kept e4 hg hr⟩) _) (ownFrom_below (Nat.le_refl _) (by omega)))
    ⟨⟨⟨fun p h => by simp at h, hF0⟩, hR0⟩, Nat.le_refl _, hW0⟩
    (fun x a' W => ∃ r, a' = { tmps := #[tbV A rs.length c B m d, .func (.func 58) #[] #[.pointer (some ⟨P, 0, none⟩)], .pointer (some ⟨w.heap.size, 0, none⟩), .pointer (some ⟨w.heap.size + 1, 0, none⟩), .pointer (some ⟨w.heap.size + 1 + 1, 0, none⟩), .int .i64 (x.val : Int), .pointer (some ⟨r, 0, none⟩), .pointer (some ⟨w.heap.size, 0, none⟩), .slice A rs.length c,
      .func (.func 79) #[] #[.pointer (some ⟨w.heap.size + 1 + 1 + 1, 0, none⟩)], .int .i64 (x.val : Int), rtV rs[x], undef, undef, undef, undef], defers := [] } ∧ Box W r 38 #[.int .i64 rs[x].a, .int .i64 rs[x].b, .int .i64 rs[x].c])
    (fun x a' _ X Y row hs hg hr => by obtain ⟨r, e, hb⟩ := hs; exact ⟨r, e, (hg.block r hb.lt (fun e' => by obtain ⟨_, o, ho, hc⟩ := hr r e'.symm; rw [show X.heap[r]? = _ from hb] at ho; cases ho; cases hc)).trans hb⟩) ?assign ?body ?done ?stop
  case assign =>
    rintro l pre x W K ⟨⟨⟨hp, hF⟩, hR⟩, hz, hB⟩ hK
    gi_wp2
    refine hK _ _ (KeepsFrom.of_grownBy (World.grownBy_alloc W _ none) (fun j e => by cases e)) ⟨by simp, fun k hk => Below.heap_alloc W _ k (by omega)⟩ ⟨⟨⟨hp, hF.alloc _⟩, hR.alloc _⟩, by simp; omega, hB.alloc hB.size _⟩ ⟨_, rfl, Box.new W _ _⟩
  case body =>
    rintro l pre x a' W hl hr ⟨⟨⟨hp, hF⟩, hR⟩, hz, hB⟩ ⟨r, rfl, hbx⟩ _
    have hfc := hF.cell
    obtain ⟨zr, r0, r1, r2, -, -, -⟩ := hbx.trip
    have C1 := HH.out rs[x] W (List.getElem_mem _) hB
    have hlr := hR.lt
    have HP := Lib.hid hp
    have HF := Lib.hid hF
    have HR := Lib.hid hR
    have HB := Lib.hid hB
    have hd : 1 ≤ N - 1 - 1 := by omega
    clear hp hF hR hB hbx hr
    cases hpx : pr rs[x] with
    | true =>
      rw [hpx] at C1
      have HX := Lib.hid hpx
      clear hpx
      dsimp only [rtV, Fin.getElem_fin] at *
      gi_wp2_with (first
        | (refine ⟨trivial, ?_⟩; gi_at_call 58; refine (callsIn_wide.2 C1).mono ?_; clear C1; rintro e w1 ⟨rfl, hb1⟩; have B1 := Lib.hid hb1; have HR1 := Lib.hid (Box.below HR.out hb1 (by omega)); clear hb1; have q0 := HR1.out.cell 0; have qf := HR1.out.frozen 0)
        | fail)
      exact ⟨(KeepsFrom.of_grownBy (below_grown B1.out) (fun j e => by cases e)).trans ((KeepsOthers.setCell _ _ _).from _), ⟨rfl, pre, x, rfl, HP.out, HX.out, World.cell?_setCell_same' _ _ _ (by rw [q0]; rfl)⟩, (HB.out.trans (B1.out.mono HB.out.size)).setCell (by simp; omega) _⟩
    | false =>
      rw [hpx] at C1
      have HX := Lib.hid hpx
      clear hpx
      dsimp only [rtV, Fin.getElem_fin] at *
      gi_wp2_with (first
        | (refine ⟨trivial, ?_⟩; gi_at_call 58; refine (callsIn_wide.2 C1).mono ?_; clear C1; rintro e w1 ⟨rfl, hb1⟩; have B1 := Lib.hid hb1; clear hb1)
        | fail)
      have hs1 := B1.out.size
      exact ⟨KeepsFrom.of_grownBy (below_grown B1.out) (fun j e => by cases e), KeepB.of_below B1.out (fun k h => by omega), ⟨⟨⟨fun p hp' => (List.mem_append.1 hp').elim (HP.out p) (fun e => by simp at e; subst e; exact HX.out), Box.below HF.out B1.out HF.out.lt⟩, Box.below HR.out B1.out HR.out.lt⟩, by omega, HB.out.trans (B1.out.mono HB.out.size)⟩⟩
  case done =>
    rintro D ys W hD rfl ⟨⟨⟨hp, hF⟩, hR⟩, hz, hB⟩ hK
    have q0 := hR.cell
    have qf := hR.frozen
    have hlr := hR.lt
    gi_wp2
    have hK' := (KeepsOthers.setCell W ⟨w.heap.size + 1 + 1, 0, none⟩ (.int .i64 (-1))).same D _ hK rfl
    refine ⟨by simp, .inl ⟨_, _, rfl, run_takeDeferred hK', ?_⟩⟩
    have hc5 := cell_kept (World.cell?_setCell_same' W ⟨w.heap.size + 1 + 1, 0, none⟩ (.int .i64 (-1)) (by rw [q0]; rfl)) (grownBy_putObj' _ D (.deferred none)) (fun r e => by cases e; exact ⟨_, hK', rfl⟩)
    refine ⟨.int .i64 (-1), ?_, ⟨-1, rfl, lst_done hp⟩, (hB.setCell (p := ⟨w.heap.size + 1 + 1, 0, none⟩) (by simp; omega) _).trans (belowK_b (w := w) (Nat.le_refl _) _ D _ _ (by omega) hK' rfl rfl)⟩
    simp [results, Try.f49, go_sem, hc5]
  case stop =>
    rintro D c' pre W hD ⟨k, hk, rfl⟩ ⟨⟨rfl, ini, last, e1, e2, e3, hcr⟩, hB⟩ hK
    gi_wp2
    refine ⟨by simp, .inl ⟨_, _, rfl, run_takeDeferred hK, ?_⟩⟩
    have hc5 := cell_kept hcr (grownBy_putObj' _ D (.deferred none)) (fun r e => by cases e; exact ⟨_, hK, rfl⟩)
    refine ⟨.int .i64 (last.val : Int), ?_, ⟨_, rfl, lst_stop hk e1 e2 e3⟩, hB.trans (belowK_b (w := w) (Nat.le_refl _) W D _ _ (by omega) hK rfl rfl)⟩
    simp [results, Try.f49, go_sem, hc5]
end Go.Proofs.Ytohflcbpjjnccab
