/-
  Contracts over this seat: the specification's Distances.
-/
import Derived.Test.YtkcnbgimdiggoabB5
import Derived.Test.YtkcnbgimdiggoabB4
import Derived.Test.YtkcnbgimdiggoabA2
import Derived.Maps.AppendAt
namespace Go.Proofs.Ytkcnbgimdiggoab
open Go.RowKit

theorem l1Node_vis (nn : Int) (A : Option Addr) (len c : Nat) (x : Int) (w : World) (h1 : 1 ≤ nn) (h8 : nn ≤ 8) :
   Calls Try.prog 79 #[gval nn A len c, .int .i64 x] w fun e w' => e = .returned (.bool (inB x 0 (nn - 1))) ∧ Below w.heap.size w w' := by
  go_enter Try.func79, Try.ntmps79
  go_wp2_with (go_at_call 52; refine (l6In_any x 0 (nn - 1) _).mono ?_; rintro e w' ⟨rfl, rfl⟩)
  go_ret
  exact ⟨rfl, by (repeat (first | exact Below.refl _ _ | (refine Below.alloc ?_ (by first | exact Nat.le_refl _ | omega | (simp; done) | (simp; omega)) _) | (refine Below.setCell ?_ (by first | exact Nat.le_refl _ | omega | (simp; done) | (simp; omega)) _) | exact Below.drew ‹_›))⟩

theorem distL_fl {n : Nat} {ls : List Lk} {s : Int} (h : vwB (n : Int) ls [s] = true) : distL (n : Int) ls s = fl n (bf (n : Int) ls s) := by
  unfold distL fl
  rw [if_pos h, Int.toNat_natCast]
theorem distL_len (nn : Int) (ls : List Lk) (s : Int) : (distL nn ls s).length ≤ 8 := by
  unfold distL
  split
  · rename_i h
    unfold vwB at h
    simp only [Bool.and_eq_true] at h
    obtain ⟨_, h1, h8, _⟩ := gvB_fit h.1
    simp; omega
  · simp


end Go.Proofs.Ytkcnbgimdiggoab

/-
  Both, of one graph: the program's and the specification's distances.
-/
namespace Go.Proofs.Ytkcnbgimdiggoab
open Go.RowKit


end Go.Proofs.Ytkcnbgimdiggoab

/-
  Contracts over this seat: GraphReach, of the program and of the specification.
-/
namespace Go.Proofs.Ytkcnbgimdiggoab
open Go.RowKit Go.Maps

/-- The places of the first k numbers that are not -1. -/
def rTo (ds : List Int) : Nat → List Int
  | 0 => []
  | k + 1 => rTo ds k ++ (match ds[k]? with
    | some d => if d = -1 then [] else [(k : Int)]
    | none => [])
theorem rTo_len (ds : List Int) (k : Nat) : (rTo ds k).length ≤ k := by
  induction k with
  | zero => simp [rTo]
  | succ k ih =>
    simp only [rTo, List.length_append]
    split
    · split <;> simp <;> omega
    · simp; omega
theorem rTo_hit {ds : List Int} {k : Nat} {d : Int} (h : ds[k]? = some d) (hd : d ≠ -1) : rTo ds (k + 1) = rTo ds k ++ [(k : Int)] := by simp [rTo, h, hd]
theorem rTo_miss {ds : List Int} {k : Nat} {d : Int} (h : ds[k]? = some d) (hd : d = -1) : rTo ds (k + 1) = rTo ds k := by simp [rTo, h, hd]
def reachL (nn : Int) (ls : List Lk) (s : Int) : List Int := rTo (distL nn ls s) (distL nn ls s).length

/-- A list that grows, beside the distances. -/
structure AL (w : World) (gv : Array Value) (g3 : Nat) (A3 : Option Addr) (xs : List Int) (v : Value) (out : List Int) (W : World) : Prop where
  row : W.ownsRow (w.heap.size + 1) 3 1 v out.length (out.map (Value.int .i64))
  far : ∀ g, v.ownBlock = some g → g ≠ g3
  own : Own1i W A3 g3 xs
  bel : Below w.heap.size w W
  box : Box W w.heap.size 25 gv
  lt3 : 0 < xs.length → g3 < W.heap.size
theorem AL.append {w : World} {gv : Array Value} {g3 : Nat} {A3 : Option Addr} {xs : List Int} {v : Value} {out : List Int} {W : World} (h : AL w gv g3 A3 xs v out W) (hp : 0 < xs.length) {x : Int} {v' : Value} {W' : World}
    (hown : W'.ownsRow (w.heap.size + 1) 3 1 v' (out.length + 1) (out.map (Value.int .i64) ++ [.int .i64 x])) (hg : (W.alloc (.cells #[.int .i64 x] 3)).grownBy W' v.ownBlock) (hat : v'.ownBlock = v.ownBlock ∨ v'.ownBlock = some (W.alloc (.cells #[.int .i64 x] 3)).heap.size) :
    AL w gv g3 A3 xs v' (out ++ [x]) W' := by
  have hl := h.row.lt
  have z3 := h.lt3 hp
  have zb := h.box.lt
  refine ⟨by rw [List.length_append, List.map_append]; exact hown, fun g e => ?_, fun hq => ?_, ?_, ?_, fun _ => ?_⟩
  · rcases hat with e2 | e2
    · exact h.far g (e2.symm.trans e)
    · rw [e] at e2
      simp at e2
      omega
  · obtain ⟨e, cs, hh, hc⟩ := h.own hq
    exact ⟨e, cs, (hg.block g3 (by simp; omega) (fun e => h.far g3 e.symm rfl)).trans ((Below.heap_alloc W _ _ z3).trans hh), hc⟩
  · exact (h.bel.alloc (by omega) _).grown hg (by simp; omega) (fun j e => by have := (hl j e).1; omega)
  · exact (hg.block _ (by simp; omega) (fun e => by have := (hl _ e.symm).1; omega)).trans (h.box.alloc _)
  · have := hg.size
    simp at this
    omega
theorem AL.start {w W : World} {gv : Array Value} {g3 : Nat} {A3 : Option Addr} {xs : List Int} {W0 : World} (hE : Box W0 (w.heap.size + 1) 3 #[]) (hG : Box W0 w.heap.size 25 gv) (hb : Below W0.heap.size W0 W) (hb0 : Below w.heap.size w W0) (hg3 : W0.heap.size ≤ g3) (ho : Own1i W A3 g3 xs) :
    AL w gv g3 A3 xs (.slice (some ⟨w.heap.size + 1, 0, none⟩) 0 0) [] W := by
  have z0 := hE.lt
  refine ⟨⟨by simp, .inr ⟨w.heap.size + 1, 0, #[], rfl, Nat.le_refl _, hE.below hb z0, Nat.le_refl _, by omega, rfl, by simp⟩⟩, fun g e => ?_, ho, hb0.trans (hb.mono hb0.size), hG.below hb hG.lt, fun hp => (ho hp).2.lt⟩
  simp [Value.ownBlock] at e
  omega
theorem AL.done {w : World} {gv : Array Value} {g3 : Nat} {A3 : Option Addr} {xs : List Int} {v : Value} {out : List Int} {W : World} (h : AL w gv g3 A3 xs v out W) : ∃ A g c, v = .slice A out.length c ∧ w.heap.size ≤ g ∧ Own1i W A g out := by
  obtain ⟨A, g, c, e, hg, _, ho⟩ := own_slicei h.row (by have := h.box.lt; omega)
  exact ⟨A, g, c, e, by omega, ho⟩

set_option maxRecDepth 100000 in
set_option maxHeartbeats 1600000 in
theorem reach_impl (nn : Int) (A : Option Addr) (ls : List Lk) (c : Nat) (s : Int) (w : World) (hm : ls.length ≤ 2000000) (hS : Sl w w.heap.size A ls) :
   Calls Try.prog 23 #[gval nn A ls.length c, .int .i64 s] w (NewI (reachL nn ls s) w) := by
  obtain ⟨i0, hi, hz0, hz1, hz2⟩ := info_parts infoInt
  have B0 : Below w.heap.size w ((w.alloc (.cells #[.int .i64 nn, .slice A ls.length c] 25)).alloc (.cells #[] 3)) := by (repeat (first | exact Below.refl _ _ | (refine Below.alloc ?_ (by first | exact Nat.le_refl _ | omega | (simp; done) | (simp; omega)) _) | (refine Below.setCell ?_ (by first | exact Nat.le_refl _ | omega | (simp; done) | (simp; omega)) _) | exact Below.drew ‹_›))
  have G0 := (Box.new w 25 #[.int .i64 nn, .slice A ls.length c]).alloc (.cells #[] 3)
  have E0 := Box.new (w.alloc (.cells #[.int .i64 nn, .slice A ls.length c] 25)) 3 #[]
  rw [World.size_alloc] at E0
  have C1 := dist_impl nn A ls c s _ hm ((hS.below B0).more (by simp; omega))
  have HB0 := Lib.hid B0
  have HG0 := Lib.hid G0
  have HE0 := Lib.hid E0
  have hd8 := distL_len nn ls s
  unfold reachL
  obtain ⟨ds, hds⟩ : ∃ ds, ds = distL nn ls s := ⟨_, rfl⟩
  rw [← hds] at C1 hd8 ⊢
  clear hS B0 G0 E0 hds
  go_enter Try.func23, Try.ntmps23
  go_wp2_with (go_at_call 41; refine C1.mono ?_; clear C1; rintro e w1 ⟨A3, g3, c3, rfl, hg3, ho3, hb3⟩; have HA := Lib.hid (AL.start HE0.out HG0.out hb3 HB0.out hg3 ho3); clear hg3 ho3 hb3)
  clear HE0 HG0 HB0
  go_loopw [5, 13] (fun v5 v13 wr => ∃ k : Nat, k ≤ ds.length ∧ v13 = .int .i64 k ∧ AL w #[.int .i64 nn, .slice A ls.length c] g3 A3 ds v5 (rTo ds k) wr) (fun _ v13 _ => ds.length - (intOf v13).toNat)
  case atStart => exact ⟨0, Nat.zero_le _, rfl, HA.out⟩
  case round =>
    obtain ⟨k, hk, rfl, ha⟩ := hrel
    have HA := Lib.hid ha
    by_cases hlt : k < ds.length
    · obtain ⟨d, hd⟩ : ∃ d, ds[k]? = some d := ⟨_, List.getElem?_eq_getElem hlt⟩
      obtain ⟨rfl, harr⟩ := ha.own (by omega)
      have hc := harr.cell hd
      have zg := harr.lt
      have hkl := rTo_len ds k
      have hwz := ha.box.lt
      have HD := Lib.hid hd
      clear ha harr hd
      go_wp2_with (at_builtin; refine wpList_append_own_at _ rfl _ _ 28 rfl (w.heap.size + 1) 3 i0 _ 1 8 Try.underlying28 hi hz0 hz1 hz2 rfl (by decide) _ (rTo ds k).length _ rfl (HA.out.row.alloc _) ⟨wr.heap.size, 0, none⟩ 1 1 [.int .i64 k] rfl rfl (fun j u h => by obtain rfl : j = 0 := (by have := (List.getElem?_eq_some_iff.1 h).1; simpa using this); cases h; exact (Box.new wr 3 #[.int .i64 (k : Int)]).cell 0) (fun u hu => by simp at hu; subst hu; rfl) (by unfold maxLen; omega) (by omega) (by simp; omega) ?_; intro v' w3 hown' hgrow _ hat; have HN := Lib.hid (HA.out.append (by omega) hown' hgrow hat); clear hown' hgrow hat)
      · go_roundw
        case rel =>
          refine ⟨k + 1, hlt, by go_num, ?_⟩
          rw [rTo_hit HD.out (by simpa using ‹(d != -1) = true›)]
          exact HN.out
        case measure => simp [intOf]; omega
      · go_roundw
        case rel =>
          refine ⟨k + 1, hlt, by go_num, ?_⟩
          rw [rTo_miss HD.out (by simpa using ‹(d != -1) = false›)]
          exact HA.out
        case measure => simp [intOf]; omega
    · obtain rfl : k = ds.length := by omega
      clear ha
      go_wp2
      obtain ⟨A', g', c', rfl, hg', ho⟩ := HA.out.done
      go_ret
      exact ⟨A', g', c', rfl, hg', ho, HA.out.bel⟩

theorem bf_sign {n : Nat} {ls : List Lk} {s : Int} (hf : Fit (n : Int) ls) (hs : 0 ≤ s ∧ s < (n : Int)) (v : Int) : 0 ≤ bf (n : Int) ls s v ∨ bf (n : Int) ls s v = -1 := by
  rcases bf_isD hf hs v with h | h
  · exact .inl h.1
  · exact .inr h.1


theorem reachL_len (nn : Int) (ls : List Lk) (s : Int) : (reachL nn ls s).length ≤ 8 := Nat.le_trans (rTo_len _ _) (distL_len nn ls s)

end Go.Proofs.Ytkcnbgimdiggoab

/-
  Plain facts: the laws of distances.
-/
namespace Go.Proofs.Ytkcnbgimdiggoab

theorem IsD.symm {ls : List Lk} {s v d : Int} (h : IsD ls s v d) : IsD ls v s d := by
  rcases h with ⟨h0, ⟨k, hk⟩, hm⟩ | ⟨rfl, hn⟩
  · exact .inl ⟨h0, ⟨k, hk.symm⟩, fun c j hw => hm c j hw.symm⟩
  · exact .inr ⟨rfl, fun c j hw => hn c j hw.symm⟩
section
variable {n : Int} {ls : List Lk}
theorem bf_symm (hf : Fit n ls) {s v : Int} (hs : 0 ≤ s ∧ s < n) (hv : 0 ≤ v ∧ v < n) : bf n ls s v = bf n ls v s :=
  (bf_isD hf hs v).uniq (bf_isD hf hv s).symm
theorem bf_walk (hf : Fit n ls) {s v : Int} (hs : 0 ≤ s ∧ s < n) (h0 : 0 ≤ bf n ls s v) : ∃ k, Wk ls s v (bf n ls s v) k := by
  rcases bf_isD hf hs v with ⟨_, h, _⟩ | ⟨e, _⟩
  · exact h
  · omega
theorem bf_le (hf : Fit n ls) {s v c : Int} {k : Nat} (hs : 0 ≤ s ∧ s < n) (hw : Wk ls s v c k) : 0 ≤ bf n ls s v ∧ bf n ls s v ≤ c := by
  rcases bf_isD hf hs v with ⟨h0, _, h⟩ | ⟨_, h⟩
  · exact ⟨h0, h _ _ hw⟩
  · exact absurd hw (h _ _)
theorem bf_three (hf : Fit n ls) {s c b : Int} (hs : 0 ≤ s ∧ s < n) (hc : 0 ≤ c ∧ c < n) (h1 : 0 ≤ bf n ls s c) (h2 : 0 ≤ bf n ls c b) : 0 ≤ bf n ls s b ∧ bf n ls s b ≤ bf n ls s c + bf n ls c b := by
  obtain ⟨k, hk⟩ := bf_walk hf hs h1
  obtain ⟨m, hm⟩ := bf_walk hf hc h2
  exact bf_le hf hs (hk.trans hm)
theorem bf_self (hf : Fit n ls) {s : Int} (hs : 0 ≤ s ∧ s < n) : bf n ls s s = 0 := by
  have := bf_le hf hs (Wk.nil (ls := ls) (s := s))
  omega
theorem bf_edge (hf : Fit n ls) {s u v e : Int} (hs : 0 ≤ s ∧ s < n) (ha : Adj ls u v e) (h : 0 ≤ bf n ls s u) : 0 ≤ bf n ls s v ∧ bf n ls s v ≤ bf n ls s u + e := by
  obtain ⟨k, hk⟩ := bf_walk hf hs h
  exact bf_le hf hs (hk.snoc ha)
theorem bf_bound (hf : Fit n ls) {s : Int} (hs : 0 ≤ s ∧ s < n) (h8 : n ≤ 8) (v : Int) : -1 ≤ bf n ls s v ∧ bf n ls s v ≤ 140 := by
  have h := bf_isD hf hs v
  have hb := isD_bound hf hs h8 h
  rcases h with h | h <;> omega
theorem bf_link (hf : Fit n ls) {s : Int} (hs : 0 ≤ s ∧ s < n) {l : Lk} (hl : l ∈ ls) :
    (bf n ls s l.a < 0 ↔ bf n ls s l.b < 0) ∧ bf n ls s l.a - bf n ls s l.b ≤ l.c ∧ bf n ls s l.b - bf n ls s l.a ≤ l.c := by
  have ha : Adj ls l.a l.b l.c := ⟨l, hl, .inl ⟨rfl, rfl⟩, rfl⟩
  have h1 : 0 ≤ bf n ls s l.a → _ := bf_edge hf hs ha
  have h2 : 0 ≤ bf n ls s l.b → _ := bf_edge hf hs ha.symm
  have hc := hf.c1 l hl
  have g1 : 0 ≤ bf n ls s l.a ∨ bf n ls s l.a = -1 := by
    rcases bf_isD hf hs l.a with h | h
    · exact .inl h.1
    · exact .inr h.1
  have g2 : 0 ≤ bf n ls s l.b ∨ bf n ls s l.b = -1 := by
    rcases bf_isD hf hs l.b with h | h
    · exact .inl h.1
    · exact .inr h.1
  omega
/-- The last link of a shortest walk. -/
theorem bf_pred (hf : Fit n ls) {s v : Int} (hs : 0 ≤ s ∧ s < n) (hv : v ≠ s) (h0 : 0 ≤ bf n ls s v) : ∃ u e, Adj ls u v e ∧ 0 ≤ bf n ls s u ∧ bf n ls s v = bf n ls s u + e := by
  obtain ⟨k, hk⟩ := bf_walk hf hs h0
  generalize hc : bf n ls s v = c at hk
  cases hk with
  | nil => exact absurd rfl hv
  | @snoc u _ c e k hw ha =>
    have h1 := bf_le hf hs hw
    have h2 := bf_edge hf hs ha h1.1
    exact ⟨u, e, ha, h1.1, by omega⟩
end

theorem rTo_mem {ds : List Int} {k : Nat} {x : Int} : x ∈ rTo ds k ↔ ∃ i : Nat, i < k ∧ x = (i : Int) ∧ ∃ d, ds[i]? = some d ∧ d ≠ -1 := by
  induction k with
  | zero => simp [rTo]
  | succ k ih =>
    simp only [rTo, List.mem_append, ih]
    constructor
    · rintro (⟨i, hi, e, d, hd, hne⟩ | h)
      · exact ⟨i, by omega, e, d, hd, hne⟩
      · split at h
        · rename_i d hd
          split at h
          · simp at h
          · rename_i hne
            exact ⟨k, by omega, by simpa using h, d, hd, hne⟩
        · simp at h
    · rintro ⟨i, hi, e, d, hd, hne⟩
      by_cases hik : i < k
      · exact .inl ⟨i, hik, e, d, hd, hne⟩
      · obtain rfl : i = k := by omega
        right
        rw [hd]
        dsimp only
        rw [if_neg hne]
        simpa using e
theorem rTo_asc (ds : List Int) (k : Nat) : (rTo ds k).Pairwise (· < ·) := by
  induction k with
  | zero => simp [rTo]
  | succ k ih =>
    simp only [rTo]
    refine List.pairwise_append.2 ⟨ih, ?_, fun a ha b hb => ?_⟩
    · split
      · split <;> simp
      · simp
    · obtain ⟨i, hi, e, _⟩ := rTo_mem.1 ha
      split at hb
      · split at hb
        · simp at hb
        · have : b = (k : Int) := by simpa using hb
          omega
      · simp at hb
/-- A node is reached just where its distance is not -1. -/
theorem reach_mem {n : Nat} {ls : List Lk} {s : Int} (hv : vwB (n : Int) ls [s] = true) (hf : Fit (n : Int) ls) (hs : 0 ≤ s ∧ s < (n : Int)) {x : Int} : x ∈ reachL (n : Int) ls s ↔ (0 ≤ x ∧ x < (n : Int)) ∧ 0 ≤ bf (n : Int) ls s x := by
  unfold reachL
  rw [distL_fl hv, fl_len, rTo_mem]
  constructor
  · rintro ⟨i, hi, rfl, d, hd, hne⟩
    rw [fl_at hi] at hd
    cases hd
    have := bf_sign hf hs (i : Int)
    omega
  · rintro ⟨⟨h0, h1⟩, h2⟩
    exact ⟨x.toNat, by omega, by omega, _, fl_at (by omega), by rw [show ((x.toNat : Nat) : Int) = x by omega]; omega⟩
/-- Nodes that are reached from one another reach the same nodes. -/
theorem reach_same {n : Nat} {ls : List Lk} {s x : Int} (hg : gvB (n : Int) ls = true) (hs : 0 ≤ s ∧ s < (n : Int)) (hx : x ∈ reachL (n : Int) ls s) : reachL (n : Int) ls x = reachL (n : Int) ls s := by
  obtain ⟨hf, _, _, _⟩ := gvB_fit hg
  have hv : ∀ y : Int, 0 ≤ y ∧ y < (n : Int) → vwB (n : Int) ls [y] = true := fun y hy => by unfold vwB inB; simp [hg]; omega
  obtain ⟨hxr, hx0⟩ := (reach_mem (hv s hs) hf hs).1 hx
  have hsx := bf_symm hf hs hxr
  have key : ∀ y, y ∈ reachL (n : Int) ls x ↔ y ∈ reachL (n : Int) ls s := fun y => by
    rw [reach_mem (hv x hxr) hf hxr, reach_mem (hv s hs) hf hs]
    constructor
    · rintro ⟨hy, h⟩
      exact ⟨hy, (bf_three hf hs hxr hx0 h).1⟩
    · rintro ⟨hy, h⟩
      exact ⟨hy, (bf_three hf hxr hs (by omega) h).1⟩
  have h1 : (reachL (n : Int) ls x).Pairwise (· < ·) := rTo_asc _ _
  have h2 : (reachL (n : Int) ls s).Pairwise (· < ·) := rTo_asc _ _
  revert key h1 h2
  generalize reachL (n : Int) ls x = a
  generalize reachL (n : Int) ls s = b
  clear hx hsx hx0
  intro key h1 h2
  induction a generalizing b with
  | nil =>
    cases b with
    | nil => rfl
    | cons y b => have := (key y).2 (by simp); simp at this
  | cons y a ih =>
    cases b with
    | nil => have := (key y).1 (by simp); simp at this
    | cons z b =>
      have h1' := List.pairwise_cons.1 h1
      have h2' := List.pairwise_cons.1 h2
      have hyz : y = z := by
        have a1 := (key y).1 (by simp)
        have a2 := (key z).2 (by simp)
        simp only [List.mem_cons] at a1 a2
        rcases a1 with a1 | a1
        · exact a1
        · rcases a2 with a2 | a2
          · exact a2.symm
          · have := h1'.1 _ a2
            have := h2'.1 _ a1
            omega
      subst hyz
      rw [ih b (fun x => by
        have := key x
        simp only [List.mem_cons] at this
        constructor
        · intro hx
          rcases this.1 (.inr hx) with e | e
          · subst e; have := h1'.1 _ hx; omega
          · exact e
        · intro hx
          rcases this.2 (.inr hx) with e | e
          · subst e; have := h2'.1 _ hx; omega
          · exact e) h1'.2 h2'.2]

end Go.Proofs.Ytkcnbgimdiggoab
