/-
  Contracts over this seat: labels in memory: what the exact laws do with them.
-/
import Derived.Test.YtblmmmeeljidiaaSk
namespace Go.Proofs.Ytblmmmeeljidiaa
open Go.RowKit

abbrev Lb.v (l : Lb) : Value := .agg #[.int .i64 l.k, .int .i64 l.a]
theorem infoLabel : (Try.prog.info? 53).map (fun i => (i.zero, i.size, i.bytes)) = some (some (.agg #[.int .i64 0, .int .i64 0]), 2, 16) := by kernel_rfl

/-- The slice of address A reads as the labels st, below block B. -/
def Slb (w : World) (B : Nat) (A : Option Addr) (st : List Lb) : Prop :=
  ∀ k l, st[k]? = some l → ∃ b off, A = some ⟨b, off, none⟩ ∧ b < B ∧ w.cell? ⟨b, off + k * 2, none⟩ = some (.int .i64 l.k) ∧ w.cell? ⟨b, off + k * 2 + 1, none⟩ = some (.int .i64 l.a)
theorem Slb.keep {w w' : World} {B : Nat} {A : Option Addr} {ls : List Lb} (h : Slb w B A ls) (hk : ∀ b o, b < B → w'.cell? ⟨b, o, none⟩ = w.cell? ⟨b, o, none⟩) : Slb w' B A ls := by
  intro k l hl
  obtain ⟨b, off, e, hb, h1, h2⟩ := h k l hl
  exact ⟨b, off, e, hb, (hk _ _ hb).trans h1, (hk _ _ hb).trans h2⟩
theorem Slb.below {w w' : World} {B : Nat} {A : Option Addr} {ls : List Lb} (h : Slb w B A ls) (hb : Below B w w') : Slb w' B A ls := h.keep fun b o h => hb.cell (p := ⟨b, o, none⟩) h
theorem Slb.more {w : World} {B B' : Nat} {A : Option Addr} {ls : List Lb} (h : Slb w B A ls) (hb : B ≤ B') : Slb w B' A ls := by
  intro k l hl
  obtain ⟨b, off, e, hb', h1, h2⟩ := h k l hl
  exact ⟨b, off, e, by omega, h1, h2⟩
theorem Slb.alloc {w : World} {B : Nat} {A : Option Addr} {ls : List Lb} (h : Slb w B A ls) (hB : B ≤ w.heap.size) (o : Obj) : Slb (w.alloc o) B A ls :=
  h.below ((Below.refl _ _).alloc hB _)
/-- As it stands in a grown world. -/
theorem Slb.grow {w w' : World} {A : Option Addr} {ls : List Lb} (h : Slb w w.heap.size A ls) (hb : Below w.heap.size w w') : Slb w' w'.heap.size A ls := (h.below hb).more hb.size
theorem Slb.take {w : World} {B : Nat} {A : Option Addr} {ls : List Lb} (h : Slb w B A ls) (d : Nat) : Slb w B A (ls.take d) := by
  intro k l hl
  by_cases hk : k < d
  · rw [List.getElem?_take_of_lt hk] at hl
    exact h k l hl
  · rw [List.getElem?_eq_none (by simp; omega)] at hl
    cases hl
theorem Slb.drop {w : World} {B g off : Nat} {ls : List Lb} (h : Slb w B (some ⟨g, off, none⟩) ls) (d : Nat) : Slb w B (some ⟨g, off + d * 2, none⟩) (ls.drop d) := by
  intro k l hl
  rw [List.getElem?_drop] at hl
  obtain ⟨b, o, he, hb, h1, h2⟩ := h _ _ hl
  cases he
  refine ⟨g, off + d * 2, rfl, hb, ?_, ?_⟩
  · rw [show off + d * 2 + k * 2 = off + (d + k) * 2 by omega]; exact h1
  · rw [show off + d * 2 + k * 2 = off + (d + k) * 2 by omega]; exact h2

/-- Block g is an array whose first elements are the labels ls. -/
def Arrb (w : World) (g : Nat) (ls : List Lb) : Prop :=
  ∃ cs : Array Value, w.heap[g]? = some (.cells cs 53 (0, 0)) ∧ ∀ k l, ls[k]? = some l → cs[k * 2]? = some (.int .i64 l.k) ∧ cs[k * 2 + 1]? = some (.int .i64 l.a)
theorem Arrb.lt {w : World} {g : Nat} {ls : List Lb} (h : Arrb w g ls) : g < w.heap.size := by
  obtain ⟨cs, h, _⟩ := h
  exact heap_lt h
theorem Arrb.slb {w : World} {g B : Nat} {ls : List Lb} (h : Arrb w g ls) (hB : g < B) : Slb w B (some ⟨g, 0, none⟩) ls := by
  obtain ⟨cs, hh, hc⟩ := h
  intro k l hl
  obtain ⟨h1, h2⟩ := hc k l hl
  refine ⟨g, 0, rfl, hB, ?_, ?_⟩
  · rw [cell_of_row w g _ cs _ _ hh]; simpa using h1
  · rw [cell_of_row w g _ cs _ _ hh]; simpa using h2
theorem Arrb.below {w w' : World} {g B : Nat} {ls : List Lb} (h : Arrb w g ls) (hb : Below B w w') (hg : g < B) : Arrb w' g ls := by
  obtain ⟨cs, hh, hc⟩ := h
  exact ⟨cs, (hb.block g hg).trans hh, hc⟩
/-- Where there is an element, the slice lies at the head of block g, which begins with the labels ls. -/
def Ownb (w : World) (A : Option Addr) (g : Nat) (ls : List Lb) : Prop := 0 < ls.length → A = some ⟨g, 0, none⟩ ∧ Arrb w g ls
theorem Ownb.grownFar {w w' : World} {A : Option Addr} {g g' : Nat} {ls : List Lb} (h : Ownb w A g ls) (hg : w.grownBy w' (some g')) (hne : g ≠ g') : Ownb w' A g ls := fun hp => by
  obtain ⟨e, cs, hh, hc⟩ := h hp
  exact ⟨e, cs, (hg.block g (heap_lt hh) (fun e => hne (Option.some.inj e))).trans hh, hc⟩
theorem Ownb.below {w w' : World} {A : Option Addr} {g : Nat} {ls : List Lb} (h : Ownb w A g ls) (hb : Below w.heap.size w w') : Ownb w' A g ls := fun hp => by
  obtain ⟨e, ha⟩ := h hp
  exact ⟨e, ha.below hb ha.lt⟩
theorem Ownb.alloc {w : World} {A : Option Addr} {g : Nat} {ls : List Lb} (h : Ownb w A g ls) (o : Obj) : Ownb (w.alloc o) A g ls :=
  h.below ((Below.refl _ _).alloc (Nat.le_refl _) _)
theorem Ownb.slb {w : World} {A : Option Addr} {g : Nat} {ls : List Lb} (h : Ownb w A g ls) : Slb w w.heap.size A ls := fun k l hl => by
  obtain ⟨rfl, ha⟩ := h (by have := (List.getElem?_eq_some_iff.1 hl).1; omega)
  exact ha.slb ha.lt k l hl
theorem arrb_size {w : World} {g : Nat} {ls : List Lb} (h : Arrb w g ls) : ∃ cs : Array Value, w.heap[g]? = some (.cells cs 53 (0, 0)) ∧ (0 < ls.length → ls.length * 2 ≤ cs.size) := by
  obtain ⟨cs, hh, hc⟩ := h
  refine ⟨cs, hh, fun hp => ?_⟩
  obtain ⟨_, h3⟩ := hc (ls.length - 1) _ (List.getElem?_eq_getElem (by omega))
  have := (Array.getElem?_eq_some_iff.1 h3).1
  omega

def flatB : List Lb → List Value
  | [] => []
  | l :: ls => .int .i64 l.k :: .int .i64 l.a :: flatB ls
theorem flatB_len (ls : List Lb) : (flatB ls).length = ls.length * 2 := by
  induction ls with
  | nil => rfl
  | cons l ls ih => simp [flatB, ih]; omega
theorem flatB_append (xs ys : List Lb) : flatB (xs ++ ys) = flatB xs ++ flatB ys := by
  induction xs with
  | nil => rfl
  | cons l ls ih => simp [flatB, ih]
theorem flatB_at (ls : List Lb) : ∀ (k : Nat) (l : Lb), ls[k]? = some l → (flatB ls)[k * 2]? = some (.int .i64 l.k) ∧ (flatB ls)[k * 2 + 1]? = some (.int .i64 l.a) := by
  induction ls with
  | nil => intro k l h; simp at h
  | cons x ls ih =>
    intro k l h
    cases k with
    | zero =>
      simp at h
      subst h
      exact ⟨rfl, rfl⟩
    | succ k =>
      obtain ⟨h1, h2⟩ := ih k l (by simpa using h)
      rw [show (k + 1) * 2 = k * 2 + 1 + 1 by omega]
      exact ⟨h1, h2⟩
theorem flatB_inv (ls : List Lb) : ∀ (j : Nat) (u : Value), (flatB ls)[j]? = some u → ∃ k l, ls[k]? = some l ∧ ((j = k * 2 ∧ u = .int .i64 l.k) ∨ (j = k * 2 + 1 ∧ u = .int .i64 l.a)) := by
  induction ls with
  | nil => intro j u h; simp [flatB] at h
  | cons x ls ih =>
    intro j u h
    match j, h with
    | 0, h => exact ⟨0, x, rfl, .inl ⟨rfl, by simpa [flatB] using h.symm⟩⟩
    | 1, h => exact ⟨0, x, rfl, .inr ⟨rfl, by simpa [flatB] using h.symm⟩⟩
    | j + 2, h =>
      obtain ⟨k, l, hl, hc⟩ := ih j u (by simpa [flatB] using h)
      refine ⟨k + 1, l, by simpa using hl, ?_⟩
      rcases hc with ⟨e, h⟩ | ⟨e, h⟩
      · exact .inl ⟨by omega, h⟩
      · exact .inr ⟨by omega, h⟩
theorem flatB_one (ls : List Lb) : ∀ u ∈ flatB ls, u.oneCell' = true := by
  intro u hu
  obtain ⟨j, hj⟩ := List.getElem?_of_mem hu
  obtain ⟨k, l, _, h | h⟩ := flatB_inv ls j u hj
  · rw [h.2]; rfl
  · rw [h.2]; rfl
theorem Slb.flat {w : World} {B g off : Nat} {ls : List Lb} (h : Slb w B (some ⟨g, off, none⟩) ls) : ∀ j u, (flatB ls)[j]? = some u → w.cell? ((⟨g, off, none⟩ : Addr).add j) = some u := by
  intro j u hj
  have e : ∀ j, (⟨g, off, none⟩ : Addr).add j = ⟨g, off + j, none⟩ := fun j => by
    unfold Addr.add
    by_cases h : j = 0 <;> simp [h]
  obtain ⟨k, l, hl, hc⟩ := flatB_inv ls j u hj
  obtain ⟨b, o, he, _, h1, h2⟩ := h k l hl
  cases he
  rw [e]
  rcases hc with ⟨rfl, rfl⟩ | ⟨rfl, rfl⟩
  · exact h1
  · exact h2
/-- A row of the call's own. -/
theorem own_sliceb {w : World} {base n : Nat} {v : Value} {ls : List Lb} (h : w.ownsRow base 53 2 v n (flatB ls)) (hb : base ≤ w.heap.size) :
    ∃ A g c, v = .slice A ls.length c ∧ base ≤ g ∧ n = ls.length ∧ Ownb w A g ls ∧ ls.length ≤ c := by
  have hn : n = ls.length := by have := h.1; rw [flatB_len] at this; omega
  subst hn
  rcases h.2 with ⟨rfl, h0⟩ | ⟨g, cap, cur, rfl, hbg, hh, hn, _, hs, ht⟩
  · exact ⟨none, w.heap.size, 0, by rw [h0], hb, rfl, fun hp => by omega, by omega⟩
  · refine ⟨_, g, cap, rfl, hbg, rfl, fun _ => ⟨rfl, cur, hh, fun k l hl => ?_⟩, hn⟩
    have hk : k < ls.length := (List.getElem?_eq_some_iff.1 hl).1
    obtain ⟨h1, h2⟩ := flatB_at ls k l hl
    rw [← ht] at h1 h2
    rw [List.getElem?_take_of_lt (by omega), Array.getElem?_toList] at h1 h2
    exact ⟨h1, h2⟩

/-! ### toLabelS, eqLabelS, markLabelS -/
def MadeArrb (ls : List Lb) (w : World) (e : Ending) (w' : World) : Prop :=
  ∃ g, e = .returned (.slice (some ⟨g, 0, none⟩) ls.length ls.length) ∧ w.heap.size ≤ g ∧ Arrb w' g ls ∧ Below w.heap.size w w'
def Uptob (cs : Array Value) (ls : List Lb) (k : Nat) : Prop :=
  ∀ j l, j < k → ls[j]? = some l → cs[j * 2]? = some (.int .i64 l.k) ∧ cs[j * 2 + 1]? = some (.int .i64 l.a)
theorem Uptob.succ {cs : Array Value} {ls : List Lb} {k : Nat} {l : Lb} (h : Uptob cs ls k) (hl : ls[k]? = some l) (hs : k * 2 + 1 < cs.size) :
    Uptob ((cs.setIfInBounds (k * 2) (.int .i64 l.k)).setIfInBounds (k * 2 + 1) (.int .i64 l.a)) ls (k + 1) := by
  intro j m hj hm
  by_cases hjk : j < k
  · obtain ⟨h1, h2⟩ := h j m hjk hm
    simp only [Array.getElem?_setIfInBounds, Array.size_setIfInBounds]
    refine ⟨?_, ?_⟩
    · rw [if_neg (by omega), if_neg (by omega)]; exact h1
    · rw [if_neg (by omega), if_neg (by omega)]; exact h2
  · obtain rfl : j = k := by omega
    rw [hl] at hm
    cases hm
    simp only [Array.getElem?_setIfInBounds, Array.size_setIfInBounds]
    refine ⟨?_, ?_⟩
    · rw [if_neg (by omega), if_pos trivial, if_pos (by omega)]
    · rw [if_pos trivial, if_pos (by omega)]

theorem toLabel_any (l : Lb) (w : World) :
   Calls Try.prog 40 #[l.v] w fun e w' => e = .returned l.v ∧ Below w.heap.size w w' := by
  go_enter Try.func40, Try.ntmps40
  go_wp2
  refine bodyPost_ret (v := l.v) (by simp [results, Try.results40, go_sem]) rfl ⟨rfl, ?_⟩
  (repeat (first | exact Below.refl _ _ | (refine Below.alloc ?_ (by first | exact Nat.le_refl _ | omega | (simp; done) | (simp; omega)) _) | (refine Below.setCell ?_ (by first | exact Nat.le_refl _ | omega | (simp; done) | (simp; omega)) _) | exact Below.drew ‹_›))
theorem toLabel_at (l : Lb) (wr : World) {g : Nat} {t : TypeId} {cs : Array Value} {k : Nat} (hcs : wr.heap[g]? = some (.cells cs t (0, 0))) (hs : k * 2 + 1 < cs.size) :
   Calls Try.prog 40 #[l.v] wr fun e w1 => e = .returned l.v ∧ Below wr.heap.size wr w1 ∧ Hid (w1.heap[g]? = some (.cells cs t (0, 0))) ∧ (∀ i, w1.frozen? ⟨g, i, none⟩ = false) ∧
     (∃ v, w1.cell? ⟨g, k * 2, none⟩ = some v) ∧ (∃ v, w1.cell? ⟨g, k * 2 + 1, none⟩ = some v) :=
  (toLabel_any l wr).mono fun e w1 ⟨he, hb⟩ => by
    have hh := (hb.block _ (heap_lt hcs)).trans hcs
    exact ⟨he, hb, hh, heap_frozen hh, cell_in hh (by omega), cell_in hh hs⟩

set_option maxHeartbeats 400000 in
theorem toLabelS_any (A : Option Addr) (ls : List Lb) (c : Nat) (w : World) (hm : ls.length ≤ 2000000)
    (h1 : Slb w w.heap.size A ls) :
   Calls Try.prog 16 #[.slice A ls.length c] w (MadeArrb ls w) := by
  obtain ⟨i0, hi, hz0, hz1, hz2⟩ := info_parts infoLabel
  have H1 := Lib.hid h1
  clear h1
  go_enter Try.func16, Try.ntmps16
  go_wp2_with (first | (at_make; refine wpList_make_full _ rfl _ _ 34 rfl w.heap.size 53 i0 _ 2 Try.underlying34 hi hz0 hz1 _ _ _ _ ls.length rfl rfl rfl rfl (by rw [hz2]; omega) (by unfold maxLen; omega) (Nat.le_refl _) ?_; intro w1 hown hgrow))
  obtain ⟨cs0, hh0, hs0, hg0, _, _⟩ := own_arr hown
  have HB := Lib.hid ((Below.refl w.heap.size w).grown hgrow (Nat.le_refl _) (fun _ h => by cases h))
  have HH := Lib.hid hh0
  have HS := Lib.hid hs0
  clear hown hgrow hh0 hs0 hg0 hi hz0 hz1 hz2
  go_loopw [4] (fun i wr => ∃ k : Nat, k ≤ ls.length ∧ i = .int .i64 k ∧ Below w.heap.size w wr ∧ ∃ cs : Array Value, wr.heap[w.heap.size]? = some (.cells cs 53 (0, 0)) ∧ cs.size = ls.length * 2 ∧ Uptob cs ls k) (fun i _ => ls.length - (intOf i).toNat)
  case atStart => exact ⟨0, Nat.zero_le _, rfl, HB.out, cs0, HH.out, HS.out, fun j _ h => by omega⟩
  case round =>
    obtain ⟨k, hk, rfl, hb, cs, hcs, hsz, hup⟩ := hrel
    have HU := Lib.hid hup
    have HC := Lib.hid hcs
    have HZ := Lib.hid hsz
    have hgl : w.heap.size < wr.heap.size := heap_lt hcs
    clear hup HB HH HS
    by_cases hlt : k < ls.length
    · obtain ⟨l, hl⟩ : ∃ x, ls[k]? = some x := ⟨_, List.getElem?_eq_getElem hlt⟩
      obtain ⟨b, off, rfl, hbb, hc1, hc2⟩ := (H1.out.below hb) k l hl
      have HL := Lib.hid hl
      clear hl hcs hsz
      have hs3 : k * 2 + 1 < cs.size := by rw [HZ.out]; omega
      have C1 := toLabel_at l wr HC.out hs3
      go_wp2_with (first | (go_at_call 40; refine C1.mono ?_; clear C1; rintro e w1 ⟨rfl, hb1, HH, hf, ⟨v0, hd0⟩, ⟨v1, hd1⟩⟩))
      go_roundw
      case rel => exact ⟨k + 1, hlt, by go_num, ((hb.trans (hb1.mono hb.size)).setCell (Nat.le_refl _) _).setCell (Nat.le_refl _) _, _, heap_set (heap_set HH.out _ _) _ _, by simp only [Array.size_setIfInBounds]; exact HZ.out, HU.out.succ HL.out hs3⟩
      case measure => simp [intOf]; omega
    · obtain rfl : k = ls.length := by omega
      go_wp2
      go_ret
      exact ⟨_, rfl, Nat.le_refl _, ⟨cs, HC.out, fun j l hl => HU.out j l (List.getElem?_eq_some_iff.1 hl).1 hl⟩, hb⟩

theorem eqLabel_same (l : Lb) (w : World) :
   Calls Try.prog 42 #[l.v, l.v] w fun e w' => e = .returned (.bool true) ∧ Below w.heap.size w w' := by
  go_enter Try.func42, Try.ntmps42
  go_wp2
  all_goals
    go_ret
    exact ⟨ret_bool (by simp_all), by (repeat (first | exact Below.refl _ _ | (refine Below.alloc ?_ (by first | exact Nat.le_refl _ | omega | (simp; done) | (simp; omega)) _) | (refine Below.setCell ?_ (by first | exact Nat.le_refl _ | omega | (simp; done) | (simp; omega)) _) | exact Below.drew ‹_›))⟩

set_option maxHeartbeats 400000 in
theorem eqLabelS_same (A1 A2 : Option Addr) (xs : List Lb) (c1 c2 : Nat) (w : World) (hm : xs.length ≤ 2000000)
    (h1 : Slb w w.heap.size A1 xs) (h2 : Slb w w.heap.size A2 xs) :
   Calls Try.prog 19 #[.slice A1 xs.length c1, .slice A2 xs.length c2] w fun e w' => e = .returned (.bool true) ∧ Below w.heap.size w w' := by
  have R1 := Lib.hid h1
  have R2 := Lib.hid h2
  clear h1 h2
  go_enter Try.func19, Try.ntmps19
  go_wp2
  go_loopw [5] (fun i wr => ∃ k : Nat, k ≤ xs.length ∧ i = .int .i64 k ∧ Below w.heap.size w wr) (fun i _ => xs.length - (intOf i).toNat)
  case atStart => exact ⟨0, Nat.zero_le _, rfl, Below.refl _ _⟩
  case round =>
    obtain ⟨k, hk, rfl, hb⟩ := hrel
    by_cases hlt : k < xs.length
    · obtain ⟨x, hx⟩ : ∃ x, xs[k]? = some x := ⟨_, List.getElem?_eq_getElem hlt⟩
      obtain ⟨b, off, rfl, hbb, hc1, hc2⟩ := (R1.out.below hb) k x hx
      obtain ⟨b', off', rfl, hbb', hd1, hd2⟩ := (R2.out.below hb) k x hx
      have hz := hb.size
      have hbb1 : b < wr.heap.size := by omega
      have hbb2 : b' < wr.heap.size := by omega
      clear hx
      have hX := fun (x : Ext wr) (bb o : Nat) (h : bb < wr.heap.size) => x.cell bb o h
      go_wp2
      refine wp_region_ext (by kernel_rfl) (by kernel_rfl) ?_
      repeat (go_big_quiet_step (first | (go_at_call 42; exact Calls.ext_of (eqLabel_same _ _))))
      (refine wpQuiet_nil ?_); (rintro _ ⟨X, rfl⟩); (have hw1 := X.below); (generalize X.w = w1 at *); (clear X)
      clear hX
      go_wp2
      go_roundw
      case rel => exact ⟨k + 1, hlt, by go_num, hb.trans (hw1.mono hz)⟩
      case measure => simp [intOf]; omega
    · have hge : xs.length ≤ k := by omega
      go_wp2
      go_ret
      exact ⟨rfl, hb⟩

set_option maxHeartbeats 400000 in
theorem markLabelS_any (A : Option Addr) (g : Nat) (ls : List Lb) (c : Nat) (k : Int) (w : World) (hm : ls.length ≤ 2000000) (hk0 : 0 ≤ k) (hk1 : k ≤ 10000000) (h : Ownb w A g ls) :
   Calls Try.prog 24 #[.slice A ls.length c, .int .i64 k] w fun e w' => e = .returned (.int .i64 (k + 2 * ls.length)) ∧ w.grownBy w' (some g) := by
  by_cases hp : ls.length = 0
  · have e0 : ls = [] := List.eq_nil_of_length_eq_zero hp
    subst e0
    clear h hp
    go_enter Try.func24, Try.ntmps24
    go_wp2
    go_loopw [1, 5] (fun a i wr => a = .int .i64 k ∧ i = .int .i64 0 ∧ wr = w) (fun _ _ _ => 0)
    case atStart => exact ⟨rfl, rfl, rfl⟩
    case round =>
      obtain ⟨rfl, rfl, rfl⟩ := hrel
      go_wp2
      go_ret
      exact ⟨ret_int (by simp), World.grownBy.refl _ _⟩
  · obtain ⟨rfl, harr⟩ := h (by omega)
    obtain ⟨cs0, hh0, hs0⟩ := arrb_size harr
    have HS := Lib.hid (hs0 (by omega))
    have HH := Lib.hid hh0
    clear h harr hh0 hs0 hp
    go_enter Try.func24, Try.ntmps24
    go_wp2
    go_loopw [1, 5] (fun a i wr => ∃ j : Nat, j ≤ ls.length ∧ i = .int .i64 j ∧ a = .int .i64 (k + 2 * j) ∧ w.grownBy wr (some g) ∧ ∃ cs : Array Value, wr.heap[g]? = some (.cells cs 53 (0, 0)) ∧ ls.length * 2 ≤ cs.size) (fun _ i _ => ls.length - (intOf i).toNat)
    case atStart => exact ⟨0, Nat.zero_le _, rfl, by simp, World.grownBy.refl _ _, cs0, HH.out, HS.out⟩
    case round =>
      obtain ⟨j, hj, rfl, rfl, hg, cs, hcs, hsz⟩ := hrel
      have HC := Lib.hid hcs
      have HG := Lib.hid hg
      clear hg
      by_cases hlt : j < ls.length
      · have hf := heap_frozen hcs
        obtain ⟨v0, hd0⟩ := cell_in hcs (i := j * 2) (by omega)
        obtain ⟨v1, hd1⟩ := cell_in hcs (i := j * 2 + 1) (by omega)
        clear hcs
        go_wp2
        go_roundw
        case rel =>
          exact ⟨j + 1, hlt, by go_num, int_eq (by omega), grown_set (grown_set HG.out _ _) _ _, _, heap_set (heap_set HC.out _ _) _ _, by simp only [Array.size_setIfInBounds]; exact hsz⟩
        case measure => simp [intOf]; omega
      · obtain rfl : j = ls.length := by omega
        clear hcs
        go_wp2
        go_ret
        exact ⟨rfl, HG.out⟩

end Go.Proofs.Ytblmmmeeljidiaa
