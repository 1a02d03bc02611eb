/-
  Contracts over this seat: neighbours in memory: what the exact laws do with them.
-/
import Derived.Test.YtnkohgdfipgdoabC1
import Derived.Test.YtnkohgdfipgdoabEi
namespace Go.Proofs.Ytnkohgdfipgdoab
open Go.RowKit

theorem infoEnd : (Try.prog.info? 56).map (fun i => (i.zero, i.size, i.bytes)) = some (some (.agg #[.int .i64 0, .int .i64 0]), 2, 16) := by kernel_rfl

/-- Block g is an array whose first elements are the labels ls. -/
def Arre (w : World) (g : Nat) (ls : List Lb) : Prop :=
  ∃ cs : Array Value, w.heap[g]? = some (.cells cs 56 (0, 0)) ∧ ∀ k l, ls[k]? = some l → cs[k * 2]? = some (.int .i64 l.k) ∧ cs[k * 2 + 1]? = some (.int .i64 l.a)
theorem Arre.lt {w : World} {g : Nat} {ls : List Lb} (h : Arre w g ls) : g < w.heap.size := by
  obtain ⟨cs, h, _⟩ := h
  exact heap_lt h
theorem Arre.slb {w : World} {g B : Nat} {ls : List Lb} (h : Arre w g ls) (hB : g < B) : Slb w B (some ⟨g, 0, none⟩) ls := by
  obtain ⟨cs, hh, hc⟩ := h
  intro k l hl
  obtain ⟨h1, h2⟩ := hc k l hl
  refine ⟨g, 0, rfl, hB, ?_, ?_⟩
  · rw [cell_of_row w g _ cs _ _ hh]; simpa using h1
  · rw [cell_of_row w g _ cs _ _ hh]; simpa using h2
theorem Arre.below {w w' : World} {g B : Nat} {ls : List Lb} (h : Arre w g ls) (hb : Below B w w') (hg : g < B) : Arre w' g ls := by
  obtain ⟨cs, hh, hc⟩ := h
  exact ⟨cs, (hb.block g hg).trans hh, hc⟩
/-- Where there is an element, the slice lies at the head of block g, which begins with the labels ls. -/
def Owne (w : World) (A : Option Addr) (g : Nat) (ls : List Lb) : Prop := 0 < ls.length → A = some ⟨g, 0, none⟩ ∧ Arre w g ls
theorem Owne.grownFar {w w' : World} {A : Option Addr} {g g' : Nat} {ls : List Lb} (h : Owne w A g ls) (hg : w.grownBy w' (some g')) (hne : g ≠ g') : Owne w' A g ls := fun hp => by
  obtain ⟨e, cs, hh, hc⟩ := h hp
  exact ⟨e, cs, (hg.block g (heap_lt hh) (fun e => hne (Option.some.inj e))).trans hh, hc⟩
theorem Owne.below {w w' : World} {A : Option Addr} {g : Nat} {ls : List Lb} (h : Owne w A g ls) (hb : Below w.heap.size w w') : Owne w' A g ls := fun hp => by
  obtain ⟨e, ha⟩ := h hp
  exact ⟨e, ha.below hb ha.lt⟩
theorem Owne.alloc {w : World} {A : Option Addr} {g : Nat} {ls : List Lb} (h : Owne w A g ls) (o : Obj) : Owne (w.alloc o) A g ls :=
  h.below ((Below.refl _ _).alloc (Nat.le_refl _) _)
theorem Owne.slb {w : World} {A : Option Addr} {g : Nat} {ls : List Lb} (h : Owne w A g ls) : Slb w w.heap.size A ls := fun k l hl => by
  obtain ⟨rfl, ha⟩ := h (by have := (List.getElem?_eq_some_iff.1 hl).1; omega)
  exact ha.slb ha.lt k l hl
theorem arre_size {w : World} {g : Nat} {ls : List Lb} (h : Arre w g ls) : ∃ cs : Array Value, w.heap[g]? = some (.cells cs 56 (0, 0)) ∧ (0 < ls.length → ls.length * 2 ≤ cs.size) := by
  obtain ⟨cs, hh, hc⟩ := h
  refine ⟨cs, hh, fun hp => ?_⟩
  obtain ⟨_, h3⟩ := hc (ls.length - 1) _ (List.getElem?_eq_getElem (by omega))
  have := (Array.getElem?_eq_some_iff.1 h3).1
  omega

theorem own_slicee {w : World} {base n : Nat} {v : Value} {ls : List Lb} (h : w.ownsRow base 56 2 v n (flatB ls)) (hb : base ≤ w.heap.size) :
    ∃ A g c, v = .slice A ls.length c ∧ base ≤ g ∧ n = ls.length ∧ Owne w A g ls ∧ ls.length ≤ c := by
  have hn : n = ls.length := by have := h.1; rw [flatB_len] at this; omega
  subst hn
  rcases h.2 with ⟨rfl, h0⟩ | ⟨g, cap, cur, rfl, hbg, hh, hn, _, hs, ht⟩
  · exact ⟨none, w.heap.size, 0, by rw [h0], hb, rfl, fun hp => by omega, by omega⟩
  · refine ⟨_, g, cap, rfl, hbg, rfl, fun _ => ⟨rfl, cur, hh, fun k l hl => ?_⟩, hn⟩
    have hk : k < ls.length := (List.getElem?_eq_some_iff.1 hl).1
    obtain ⟨h1, h2⟩ := flatB_at ls k l hl
    rw [← ht] at h1 h2
    rw [List.getElem?_take_of_lt (by omega), Array.getElem?_toList] at h1 h2
    exact ⟨h1, h2⟩

/-! ### toEndS, eqEndS, markEndS -/
def MadeArre (ls : List Lb) (w : World) (e : Ending) (w' : World) : Prop :=
  ∃ g, e = .returned (.slice (some ⟨g, 0, none⟩) ls.length ls.length) ∧ w.heap.size ≤ g ∧ Arre w' g ls ∧ Below w.heap.size w w'
def Uptoe (cs : Array Value) (ls : List Lb) (k : Nat) : Prop :=
  ∀ j l, j < k → ls[j]? = some l → cs[j * 2]? = some (.int .i64 l.k) ∧ cs[j * 2 + 1]? = some (.int .i64 l.a)
theorem Uptoe.succ {cs : Array Value} {ls : List Lb} {k : Nat} {l : Lb} (h : Uptoe cs ls k) (hl : ls[k]? = some l) (hs : k * 2 + 1 < cs.size) :
    Uptoe ((cs.setIfInBounds (k * 2) (.int .i64 l.k)).setIfInBounds (k * 2 + 1) (.int .i64 l.a)) ls (k + 1) := by
  intro j m hj hm
  by_cases hjk : j < k
  · obtain ⟨h1, h2⟩ := h j m hjk hm
    simp only [Array.getElem?_setIfInBounds, Array.size_setIfInBounds]
    refine ⟨?_, ?_⟩
    · rw [if_neg (by omega), if_neg (by omega)]; exact h1
    · rw [if_neg (by omega), if_neg (by omega)]; exact h2
  · obtain rfl : j = k := by omega
    rw [hl] at hm
    cases hm
    simp only [Array.getElem?_setIfInBounds, Array.size_setIfInBounds]
    refine ⟨?_, ?_⟩
    · rw [if_neg (by omega), if_pos trivial, if_pos (by omega)]
    · rw [if_pos trivial, if_pos (by omega)]

theorem toEnd_any (l : Lb) (w : World) :
   Calls Try.prog 80 #[l.v] w fun e w' => e = .returned l.v ∧ Below w.heap.size w w' := by
  go_enter Try.func80, Try.ntmps80
  go_wp2
  refine bodyPost_ret (v := l.v) (by simp [results, Try.results80, go_sem]) rfl ⟨rfl, ?_⟩
  (repeat (first | exact Below.refl _ _ | (refine Below.alloc ?_ (by first | exact Nat.le_refl _ | omega | (simp; done) | (simp; omega)) _) | (refine Below.setCell ?_ (by first | exact Nat.le_refl _ | omega | (simp; done) | (simp; omega)) _) | exact Below.drew ‹_›))
theorem toEnd_at (l : Lb) (wr : World) {g : Nat} {t : TypeId} {cs : Array Value} {k : Nat} (hcs : wr.heap[g]? = some (.cells cs t (0, 0))) (hs : k * 2 + 1 < cs.size) :
   Calls Try.prog 80 #[l.v] wr fun e w1 => e = .returned l.v ∧ Below wr.heap.size wr w1 ∧ Hid (w1.heap[g]? = some (.cells cs t (0, 0))) ∧ (∀ i, w1.frozen? ⟨g, i, none⟩ = false) ∧
     (∃ v, w1.cell? ⟨g, k * 2, none⟩ = some v) ∧ (∃ v, w1.cell? ⟨g, k * 2 + 1, none⟩ = some v) :=
  (toEnd_any l wr).mono fun e w1 ⟨he, hb⟩ => by
    have hh := (hb.block _ (heap_lt hcs)).trans hcs
    exact ⟨he, hb, hh, heap_frozen hh, cell_in hh (by omega), cell_in hh hs⟩

set_option maxHeartbeats 400000 in
theorem toEndS_any (A : Option Addr) (ls : List Lb) (c : Nat) (w : World) (hm : ls.length ≤ 2000000)
    (h1 : Slb w w.heap.size A ls) :
   Calls Try.prog 56 #[.slice A ls.length c] w (MadeArre ls w) := by
  obtain ⟨i0, hi, hz0, hz1, hz2⟩ := info_parts infoEnd
  have H1 := Lib.hid h1
  clear h1
  go_enter Try.func56, Try.ntmps56
  go_wp2_with (first | (at_make; refine wpList_make_full _ rfl _ _ 52 rfl w.heap.size 56 i0 _ 2 Try.underlying52 hi hz0 hz1 _ _ _ _ ls.length rfl rfl rfl rfl (by rw [hz2]; omega) (by unfold maxLen; omega) (Nat.le_refl _) ?_; intro w1 hown hgrow))
  obtain ⟨cs0, hh0, hs0, hg0, _, _⟩ := own_arr hown
  have HB := Lib.hid ((Below.refl w.heap.size w).grown hgrow (Nat.le_refl _) (fun _ h => by cases h))
  have HH := Lib.hid hh0
  have HS := Lib.hid hs0
  clear hown hgrow hh0 hs0 hg0 hi hz0 hz1 hz2
  go_loopw [4] (fun i wr => ∃ k : Nat, k ≤ ls.length ∧ i = .int .i64 k ∧ Below w.heap.size w wr ∧ ∃ cs : Array Value, wr.heap[w.heap.size]? = some (.cells cs 56 (0, 0)) ∧ cs.size = ls.length * 2 ∧ Uptoe cs ls k) (fun i _ => ls.length - (intOf i).toNat)
  case atStart => exact ⟨0, Nat.zero_le _, rfl, HB.out, cs0, HH.out, HS.out, fun j _ h => by omega⟩
  case round =>
    obtain ⟨k, hk, rfl, hb, cs, hcs, hsz, hup⟩ := hrel
    have HU := Lib.hid hup
    have HC := Lib.hid hcs
    have HZ := Lib.hid hsz
    have hgl : w.heap.size < wr.heap.size := heap_lt hcs
    clear hup HB HH HS
    by_cases hlt : k < ls.length
    · obtain ⟨l, hl⟩ : ∃ x, ls[k]? = some x := ⟨_, List.getElem?_eq_getElem hlt⟩
      obtain ⟨b, off, rfl, hbb, hc1, hc2⟩ := (H1.out.below hb) k l hl
      have HL := Lib.hid hl
      clear hl hcs hsz
      have hs3 : k * 2 + 1 < cs.size := by rw [HZ.out]; omega
      have C1 := toEnd_at l wr HC.out hs3
      go_wp2_with (first | (go_at_call 80; refine C1.mono ?_; clear C1; rintro e w1 ⟨rfl, hb1, HH, hf, ⟨v0, hd0⟩, ⟨v1, hd1⟩⟩))
      go_roundw
      case rel => exact ⟨k + 1, hlt, by go_num, ((hb.trans (hb1.mono hb.size)).setCell (Nat.le_refl _) _).setCell (Nat.le_refl _) _, _, heap_set (heap_set HH.out _ _) _ _, by simp only [Array.size_setIfInBounds]; exact HZ.out, HU.out.succ HL.out hs3⟩
      case measure => simp [intOf]; omega
    · obtain rfl : k = ls.length := by omega
      go_wp2
      go_ret
      exact ⟨_, rfl, Nat.le_refl _, ⟨cs, HC.out, fun j l hl => HU.out j l (List.getElem?_eq_some_iff.1 hl).1 hl⟩, hb⟩

theorem eqEnd_same (l : Lb) (w : World) :
   Calls Try.prog 84 #[l.v, l.v] w fun e w' => e = .returned (.bool true) ∧ Below w.heap.size w w' := by
  go_enter Try.func84, Try.ntmps84
  go_wp2
  all_goals
    go_ret
    exact ⟨ret_bool (by simp_all), by (repeat (first | exact Below.refl _ _ | (refine Below.alloc ?_ (by first | exact Nat.le_refl _ | omega | (simp; done) | (simp; omega)) _) | (refine Below.setCell ?_ (by first | exact Nat.le_refl _ | omega | (simp; done) | (simp; omega)) _) | exact Below.drew ‹_›))⟩

set_option maxHeartbeats 400000 in
theorem eqEndS_same (A1 A2 : Option Addr) (xs : List Lb) (c1 c2 : Nat) (w : World) (hm : xs.length ≤ 2000000)
    (h1 : Slb w w.heap.size A1 xs) (h2 : Slb w w.heap.size A2 xs) :
   Calls Try.prog 65 #[.slice A1 xs.length c1, .slice A2 xs.length c2] w fun e w' => e = .returned (.bool true) ∧ Below w.heap.size w w' := by
  have R1 := Lib.hid h1
  have R2 := Lib.hid h2
  clear h1 h2
  go_enter Try.func65, Try.ntmps65
  go_wp2
  go_loopw [5] (fun i wr => ∃ k : Nat, k ≤ xs.length ∧ i = .int .i64 k ∧ Below w.heap.size w wr) (fun i _ => xs.length - (intOf i).toNat)
  case atStart => exact ⟨0, Nat.zero_le _, rfl, Below.refl _ _⟩
  case round =>
    obtain ⟨k, hk, rfl, hb⟩ := hrel
    by_cases hlt : k < xs.length
    · obtain ⟨x, hx⟩ : ∃ x, xs[k]? = some x := ⟨_, List.getElem?_eq_getElem hlt⟩
      obtain ⟨b, off, rfl, hbb, hc1, hc2⟩ := (R1.out.below hb) k x hx
      obtain ⟨b', off', rfl, hbb', hd1, hd2⟩ := (R2.out.below hb) k x hx
      have hz := hb.size
      have hbb1 : b < wr.heap.size := by omega
      have hbb2 : b' < wr.heap.size := by omega
      clear hx
      have hX := fun (x : Ext wr) (bb o : Nat) (h : bb < wr.heap.size) => x.cell bb o h
      go_wp2
      refine wp_region_ext (by kernel_rfl) (by kernel_rfl) ?_
      repeat (go_big_quiet_step (first | (go_at_call 84; exact Calls.ext_of (eqEnd_same _ _))))
      (refine wpQuiet_nil ?_); (rintro _ ⟨X, rfl⟩); (have hw1 := X.below); (generalize X.w = w1 at *); (clear X)
      clear hX
      go_wp2
      go_roundw
      case rel => exact ⟨k + 1, hlt, by go_num, hb.trans (hw1.mono hz)⟩
      case measure => simp [intOf]; omega
    · have hge : xs.length ≤ k := by omega
      go_wp2
      go_ret
      exact ⟨rfl, hb⟩

def UptoM (cs : Array Value) (k : Int) (j : Nat) : Prop := ∀ i, i < j → cs[i * 2]? = some (.int .i64 (k + 2 * i)) ∧ cs[i * 2 + 1]? = some (.int .i64 (k + 2 * i + 1))
theorem UptoM.succ {cs : Array Value} {k : Int} {j : Nat} (h : UptoM cs k j) (hs : j * 2 + 1 < cs.size) : UptoM ((cs.setIfInBounds (j * 2) (.int .i64 (k + 2 * j))).setIfInBounds (j * 2 + 1) (.int .i64 (k + 2 * j + 1))) k (j + 1) := by
  intro i hi
  simp only [Array.getElem?_setIfInBounds, Array.size_setIfInBounds]
  by_cases e : i < j
  · rw [if_neg (by omega), if_neg (by omega), if_neg (by omega), if_neg (by omega)]
    exact h i e
  · obtain rfl : i = j := by omega
    rw [if_neg (by omega), if_pos rfl, if_pos (by omega), if_pos rfl, if_pos hs]
    exact ⟨rfl, rfl⟩



theorem Owne.grownC {w w' : World} {A : Option Addr} {g g' : Nat} {ls : List Lb} (h : Owne w A g ls) (hg : w.grownBy w' (some g')) (hne : 0 < ls.length → g ≠ g') : Owne w' A g ls := fun hp => by
  obtain ⟨e, cs, hh, hc⟩ := h hp
  exact ⟨e, cs, (hg.block g (heap_lt hh) (fun e => hne hp (Option.some.inj e))).trans hh, hc⟩
theorem Owne.fresh {w : World} {A : Option Addr} {g : Nat} {ls : List Lb} (h : Owne w A g ls) : ∃ g', Owne w A g' ls ∧ ((0 < ls.length ∧ g' = g) ∨ g' = w.heap.size) := by
  by_cases hp : 0 < ls.length
  · exact ⟨g, h, .inl ⟨hp, rfl⟩⟩
  · exact ⟨w.heap.size, fun h => absurd h hp, .inr rfl⟩

end Go.Proofs.Ytnkohgdfipgdoab
