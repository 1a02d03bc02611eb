/-
  Contracts over this seat: the marks that the exact laws write into a slice, and the look at them; two slices of numbers compared.
-/
import Derived.Test.YtigamnnboojiiaaMem
namespace Go.Proofs.Ytigamnnboojiiaa
open Go.RowKit

theorem grown_set {w wr : World} {g : Nat} (h : w.grownBy wr (some g)) (i : Nat) (u : Value) : w.grownBy (wr.setCell ⟨g, i, none⟩ u) (some g) :=
  ⟨h.os, h.tape, h.output, by simpa using h.size, fun k hk hne => (Below.heap_setCell wr ⟨g, i, none⟩ u k (fun e => hne (by rw [e]))).trans (h.block k hk hne)⟩

/-- Where there is an element, the slice lies at the head of block g, which begins with the links ls. -/
def Own1 (w : World) (A : Option Addr) (g : Nat) (ls : List Lk) : Prop := 0 < ls.length → A = some ⟨g, 0, none⟩ ∧ Arr w g ls

theorem int_eq {a b : Int} (h : a = b) : Value.int .i64 a = .int .i64 b := by rw [h]
def marks (k : Int) (n : Nat) : List Lk := (List.range n).map fun (j : Nat) => ⟨k + 3 * j, k + 3 * j + 1, k + 3 * j + 1 + 1⟩
theorem marks_len (k : Int) (n : Nat) : (marks k n).length = n := by simp [marks]
theorem marks_at {k : Int} {n j : Nat} (h : j < n) : (marks k n)[j]? = some ⟨k + 3 * j, k + 3 * j + 1, k + 3 * j + 1 + 1⟩ := by
  simp [marks, List.getElem?_range h]

theorem marks_succ {cs : Array Value} {k : Int} {n j : Nat} (h : Upto cs (marks k n) j) (hlt : j < n) (hs : j * 3 + 2 < cs.size) :
    Upto (((cs.setIfInBounds (j * 3) (.int .i64 (k + 3 * (j : Int)))).setIfInBounds (j * 3 + 1) (.int .i64 (k + 3 * (j : Int) + 1))).setIfInBounds (j * 3 + 2) (.int .i64 (k + 3 * (j : Int) + 1 + 1))) (marks k n) (j + 1) := by
  have := h.succ (marks_at hlt) hs
  exact this
theorem arr_size {w : World} {g : Nat} {ls : List Lk} (h : Arr w g ls) : ∃ cs : Array Value, w.heap[g]? = some (.cells cs 47 (0, 0)) ∧ (0 < ls.length → ls.length * 3 ≤ cs.size) := by
  obtain ⟨cs, hh, hc⟩ := h
  refine ⟨cs, hh, fun hp => ?_⟩
  obtain ⟨_, _, h3⟩ := hc (ls.length - 1) _ (List.getElem?_eq_getElem (by omega))
  have := (Array.getElem?_eq_some_iff.1 h3).1
  omega

set_option maxHeartbeats 400000 in
theorem markLinkS_any (A : Option Addr) (g : Nat) (ls : List Lk) (c : Nat) (k : Int) (w : World) (hm : ls.length ≤ 2000000) (hk0 : 0 ≤ k) (hk1 : k ≤ 10000000) (h : Own1 w A g ls) :
   Calls Try.prog 42 #[.slice A ls.length c, .int .i64 k] w fun e w' => e = .returned (.int .i64 (k + 3 * ls.length)) ∧ Own1 w' A g (marks k ls.length) ∧ w.grownBy w' (some g) := by
  by_cases hp : ls.length = 0
  · have e0 : ls = [] := List.eq_nil_of_length_eq_zero hp
    subst e0
    clear h hp
    go_enter Try.func42, Try.ntmps42
    go_wp2
    go_loopw [1, 5] (fun a i wr => a = .int .i64 k ∧ i = .int .i64 0 ∧ wr = w) (fun _ _ _ => 0)
    case atStart => exact ⟨rfl, rfl, rfl⟩
    case round =>
      obtain ⟨rfl, rfl, rfl⟩ := hrel
      go_wp2
      go_ret
      exact ⟨ret_int (by simp), fun h => absurd h (by simp [marks]), World.grownBy.refl _ _⟩
  · obtain ⟨rfl, harr⟩ := h (by omega)
    obtain ⟨cs0, hh0, hs0⟩ := arr_size harr
    have HS := Lib.hid (hs0 (by omega))
    have HH := Lib.hid hh0
    clear h harr hh0 hs0 hp
    go_enter Try.func42, Try.ntmps42
    go_wp2
    go_loopw [1, 5] (fun a i wr => ∃ j : Nat, j ≤ ls.length ∧ i = .int .i64 j ∧ a = .int .i64 (k + 3 * j) ∧ w.grownBy wr (some g) ∧ ∃ cs : Array Value, wr.heap[g]? = some (.cells cs 47 (0, 0)) ∧ ls.length * 3 ≤ cs.size ∧ Upto cs (marks k ls.length) j) (fun _ i _ => ls.length - (intOf i).toNat)
    case atStart => exact ⟨0, Nat.zero_le _, rfl, by simp, World.grownBy.refl _ _, cs0, HH.out, HS.out, fun j _ h => by omega⟩
    case round =>
      obtain ⟨j, hj, rfl, rfl, hg, cs, hcs, hsz, hup⟩ := hrel
      have HU := Lib.hid hup
      have HC := Lib.hid hcs
      have HG := Lib.hid hg
      clear hup hg
      by_cases hlt : j < ls.length
      · have hf := heap_frozen hcs
        have hs3 : j * 3 + 2 < cs.size := by omega
        obtain ⟨v0, hd0⟩ := cell_in hcs (i := j * 3) (by omega)
        obtain ⟨v1, hd1⟩ := cell_in hcs (i := j * 3 + 1) (by omega)
        obtain ⟨v2, hd2⟩ := cell_in hcs (i := j * 3 + 2) (by omega)
        have HN : Hid (Upto (((cs.setIfInBounds (j * 3) (.int .i64 (k + 3 * (j : Int)))).setIfInBounds (j * 3 + 1) (.int .i64 (k + 3 * (j : Int) + 1))).setIfInBounds (j * 3 + 2) (.int .i64 (k + 3 * (j : Int) + 1 + 1))) (marks k ls.length) (j + 1)) := marks_succ HU.out hlt hs3
        clear hcs
        go_wp2
        go_roundw
        case rel =>
          exact ⟨j + 1, hlt, by go_num, int_eq (by omega), grown_set (grown_set (grown_set HG.out _ _) _ _) _ _, _, heap_set (heap_set (heap_set HC.out _ _) _ _) _ _, by simp only [Array.size_setIfInBounds]; exact hsz, HN.out⟩
        case measure => simp [intOf]; omega
      · obtain rfl : j = ls.length := by omega
        clear hcs
        go_wp2
        go_ret
        exact ⟨rfl, fun _ => ⟨rfl, cs, HC.out, fun i l hl => HU.out i l (by have := (List.getElem?_eq_some_iff.1 hl).1; rwa [marks_len] at this) hl⟩, HG.out⟩


theorem Own1.grownFar {w w' : World} {A : Option Addr} {g g' : Nat} {ls : List Lk} (h : Own1 w A g ls) (hg : w.grownBy w' (some g')) (hne : g ≠ g') : Own1 w' A g ls := fun hp => by
  obtain ⟨e, cs, hh, hc⟩ := h hp
  exact ⟨e, cs, (hg.block g (heap_lt hh) (fun e => hne (Option.some.inj e))).trans hh, hc⟩
theorem Own1.below {w w' : World} {A : Option Addr} {g : Nat} {ls : List Lk} (h : Own1 w A g ls) (hb : Below w.heap.size w w') : Own1 w' A g ls := fun hp => by
  obtain ⟨e, ha⟩ := h hp
  exact ⟨e, ha.below hb ha.lt⟩
theorem Own1.alloc {w : World} {A : Option Addr} {g : Nat} {ls : List Lk} (h : Own1 w A g ls) (o : Obj) : Own1 (w.alloc o) A g ls :=
  h.below ((Below.refl _ _).alloc (Nat.le_refl _) _)
theorem Own1.sl {w : World} {A : Option Addr} {g : Nat} {ls : List Lk} (h : Own1 w A g ls) : Sl w w.heap.size A ls := fun k l hl => by
  obtain ⟨rfl, ha⟩ := h (by have := (List.getElem?_eq_some_iff.1 hl).1; omega)
  exact ha.sl ha.lt k l hl
theorem grown_alloc {w wr : World} {g : Option Nat} (h : w.grownBy wr g) (o : Obj) : w.grownBy (wr.alloc o) g :=
  ⟨h.os, h.tape, h.output, by have := h.size; simp; omega, fun k hk hne => (Below.heap_alloc wr o k (Nat.lt_of_lt_of_le hk h.size)).trans (h.block k hk hne)⟩
theorem grown_trans {a b c : World} {g : Option Nat} (h : a.grownBy b g) (k : b.grownBy c g) : a.grownBy c g :=
  ⟨k.os.trans h.os, k.tape.trans h.tape, k.output.trans h.output, Nat.le_trans h.size k.size, fun i hi hne => (k.block i (Nat.lt_of_lt_of_le hi h.size) hne).trans (h.block i hi hne)⟩

theorem markGraph_any (n : Int) (A : Option Addr) (g : Nat) (ls : List Lk) (c : Nat) (k : Int) (w : World) (hm : ls.length ≤ 2000000) (hk0 : 0 ≤ k) (hk1 : k ≤ 10000000) (h : Own1 w A g ls) :
   Calls Try.prog 19 #[gval n A ls.length c, .int .i64 k] w fun e w' => e = .returned (.int .i64 (k + 3 * ls.length)) ∧ Own1 w' A g (marks k ls.length) ∧ w.grownBy w' (some g) := by
  have H := Lib.hid h
  clear h
  go_enter Try.func19, Try.ntmps19
  go_wp2_with (go_at_call 42; refine (markLinkS_any A g ls c k _ hm hk0 hk1 (H.out.alloc _)).mono ?_; rintro e w1 ⟨rfl, ho, hg⟩; have HO := Lib.hid ho; have HG := Lib.hid hg; clear ho hg)
  go_ret
  exact ⟨rfl, HO.out, grown_trans (World.grownBy_alloc _ _ _) HG.out⟩


/-! ### Slices of numbers -/
def Arri (w : World) (g : Nat) (xs : List Int) : Prop :=
  ∃ cs : Array Value, w.heap[g]? = some (.cells cs 3 (0, 0)) ∧ ∀ (k : Nat) (x : Int), xs[k]? = some x → cs[k]? = some (.int .i64 x)
theorem Arri.lt {w : World} {g : Nat} {xs : List Int} (h : Arri w g xs) : g < w.heap.size := by
  obtain ⟨cs, h, _⟩ := h
  exact heap_lt h
theorem Arri.below {w w' : World} {g B : Nat} {ls : List Int} (h : Arri w g ls) (hb : Below B w w') (hg : g < B) : Arri w' g ls := by
  obtain ⟨cs, hh, hc⟩ := h
  exact ⟨cs, (hb.block g hg).trans hh, hc⟩
def Sli (w : World) (B : Nat) (A : Option Addr) (xs : List Int) : Prop :=
  ∀ (k : Nat) (x : Int), xs[k]? = some x → ∃ b off, A = some ⟨b, off, none⟩ ∧ b < B ∧ w.cell? ⟨b, off + k, none⟩ = some (.int .i64 x)
theorem Sli.keep {w w' : World} {B : Nat} {A : Option Addr} {xs : List Int} (h : Sli w B A xs) (hk : ∀ b o, b < B → w'.cell? ⟨b, o, none⟩ = w.cell? ⟨b, o, none⟩) : Sli w' B A xs := by
  intro k x hx
  obtain ⟨b, off, e, hb, h1⟩ := h k x hx
  exact ⟨b, off, e, hb, (hk _ _ hb).trans h1⟩
theorem Sli.below {w w' : World} {B : Nat} {A : Option Addr} {xs : List Int} (h : Sli w B A xs) (hb : Below B w w') : Sli w' B A xs := h.keep fun b o h => hb.cell (p := ⟨b, o, none⟩) h
theorem Sli.more {w : World} {B B' : Nat} {A : Option Addr} {xs : List Int} (h : Sli w B A xs) (hb : B ≤ B') : Sli w B' A xs := by
  intro k x hx
  obtain ⟨b, off, e, hb', h1⟩ := h k x hx
  exact ⟨b, off, e, by omega, h1⟩
theorem Arri.sli {w : World} {g B : Nat} {xs : List Int} (h : Arri w g xs) (hB : g < B) : Sli w B (some ⟨g, 0, none⟩) xs := by
  obtain ⟨cs, hh, hc⟩ := h
  intro k x hx
  refine ⟨g, 0, rfl, hB, ?_⟩
  rw [cell_of_row w g _ cs _ _ hh]
  simpa using hc k x hx
def Own1i (w : World) (A : Option Addr) (g : Nat) (xs : List Int) : Prop := 0 < xs.length → A = some ⟨g, 0, none⟩ ∧ Arri w g xs
theorem Own1i.grownFar {w w' : World} {A : Option Addr} {g g' : Nat} {ls : List Int} (h : Own1i w A g ls) (hg : w.grownBy w' (some g')) (hne : g ≠ g') : Own1i w' A g ls := fun hp => by
  obtain ⟨e, cs, hh, hc⟩ := h hp
  exact ⟨e, cs, (hg.block g (heap_lt hh) (fun e => hne (Option.some.inj e))).trans hh, hc⟩
theorem Own1i.below {w w' : World} {A : Option Addr} {g : Nat} {ls : List Int} (h : Own1i w A g ls) (hb : Below w.heap.size w w') : Own1i w' A g ls := fun hp => by
  obtain ⟨e, ha⟩ := h hp
  exact ⟨e, ha.below hb ha.lt⟩
theorem Own1i.alloc {w : World} {A : Option Addr} {g : Nat} {ls : List Int} (h : Own1i w A g ls) (o : Obj) : Own1i (w.alloc o) A g ls :=
  h.below ((Below.refl _ _).alloc (Nat.le_refl _) _)
theorem Own1i.sli {w : World} {A : Option Addr} {g : Nat} {ls : List Int} (h : Own1i w A g ls) : Sli w w.heap.size A ls := fun k l hl => by
  obtain ⟨rfl, ha⟩ := h (by have := (List.getElem?_eq_some_iff.1 hl).1; omega)
  exact ha.sli ha.lt k l hl

def markis (k : Int) (n : Nat) : List Int := (List.range n).map fun (j : Nat) => k + j
theorem markis_len (k : Int) (n : Nat) : (markis k n).length = n := by simp [markis]
theorem markis_at {k : Int} {n j : Nat} (h : j < n) : (markis k n)[j]? = some (k + j) := by simp [markis, List.getElem?_range h]
theorem arri_size {w : World} {g : Nat} {ls : List Int} (h : Arri w g ls) : ∃ cs : Array Value, w.heap[g]? = some (.cells cs 3 (0, 0)) ∧ (0 < ls.length → ls.length ≤ cs.size) := by
  obtain ⟨cs, hh, hc⟩ := h
  refine ⟨cs, hh, fun hp => ?_⟩
  have h3 := hc (ls.length - 1) _ (List.getElem?_eq_getElem (by omega))
  have := (Array.getElem?_eq_some_iff.1 h3).1
  omega
def Uptoi (cs : Array Value) (k : Int) (j : Nat) : Prop := ∀ i, i < j → cs[i]? = some (.int .i64 (k + i))
theorem Uptoi.succ {cs : Array Value} {k : Int} {j : Nat} (h : Uptoi cs k j) (hs : j < cs.size) : Uptoi (cs.setIfInBounds j (.int .i64 (k + j))) k (j + 1) := by
  intro i hi
  simp only [Array.getElem?_setIfInBounds]
  by_cases e : i < j
  · rw [if_neg (by omega)]; exact h i e
  · obtain rfl : i = j := by omega
    rw [if_pos rfl, if_pos hs]

set_option maxHeartbeats 400000 in
theorem markIntS_any (A : Option Addr) (g : Nat) (ls : List Int) (c : Nat) (k : Int) (w : World) (hm : ls.length ≤ 2000000) (hk0 : 0 ≤ k) (hk1 : k ≤ 10000000) (h : Own1i w A g ls) :
   Calls Try.prog 20 #[.slice A ls.length c, .int .i64 k] w fun e w' => e = .returned (.int .i64 (k + ls.length)) ∧ Own1i w' A g (markis k ls.length) ∧ w.grownBy w' (some g) := by
  by_cases hp : ls.length = 0
  · have e0 : ls = [] := List.eq_nil_of_length_eq_zero hp
    subst e0
    clear h hp
    go_enter Try.func20, Try.ntmps20
    go_wp2
    go_loopw [1, 5] (fun a i wr => a = .int .i64 k ∧ i = .int .i64 0 ∧ wr = w) (fun _ _ _ => 0)
    case atStart => exact ⟨rfl, rfl, rfl⟩
    case round =>
      obtain ⟨rfl, rfl, rfl⟩ := hrel
      go_wp2
      go_ret
      exact ⟨ret_int (by simp), fun h => absurd h (by simp [markis]), World.grownBy.refl _ _⟩
  · obtain ⟨rfl, harr⟩ := h (by omega)
    obtain ⟨cs0, hh0, hs0⟩ := arri_size harr
    have HS := Lib.hid (hs0 (by omega))
    have HH := Lib.hid hh0
    clear h harr hh0 hs0 hp
    go_enter Try.func20, Try.ntmps20
    go_wp2
    go_loopw [1, 5] (fun a i wr => ∃ j : Nat, j ≤ ls.length ∧ i = .int .i64 j ∧ a = .int .i64 (k + j) ∧ w.grownBy wr (some g) ∧ ∃ cs : Array Value, wr.heap[g]? = some (.cells cs 3 (0, 0)) ∧ ls.length ≤ cs.size ∧ Uptoi cs k j) (fun _ i _ => ls.length - (intOf i).toNat)
    case atStart => exact ⟨0, Nat.zero_le _, rfl, by simp, World.grownBy.refl _ _, cs0, HH.out, HS.out, fun j h => by omega⟩
    case round =>
      obtain ⟨j, hj, rfl, rfl, hg, cs, hcs, hsz, hup⟩ := hrel
      have HU := Lib.hid hup
      have HC := Lib.hid hcs
      have HG := Lib.hid hg
      clear hup hg
      by_cases hlt : j < ls.length
      · have hf := heap_frozen hcs
        obtain ⟨v0, hd0⟩ := cell_in hcs (i := j) (by omega)
        have HN := Lib.hid (HU.out.succ (by omega))
        clear hcs
        go_wp2
        go_roundw
        case rel => exact ⟨j + 1, hlt, by go_num, int_eq (by omega), grown_set HG.out _ _, _, heap_set HC.out _ _, by simp only [Array.size_setIfInBounds]; exact hsz, HN.out⟩
        case measure => simp [intOf]; omega
      · obtain rfl : j = ls.length := by omega
        clear hcs
        go_wp2
        go_ret
        exact ⟨rfl, fun _ => ⟨rfl, cs, HC.out, fun i l hl => by
          have hi : i < ls.length := by have := (List.getElem?_eq_some_iff.1 hl).1; rwa [markis_len] at this
          rw [markis_at hi] at hl
          cases hl
          exact HU.out i hi⟩, HG.out⟩

set_option maxHeartbeats 400000 in
theorem heldIntS_any (A : Option Addr) (g n : Nat) (c : Nat) (k : Int) (w : World) (hm : n ≤ 2000000) (hk0 : 0 ≤ k) (hk1 : k ≤ 10000000) (h : Own1i w A g (markis k n)) :
   Calls Try.prog 21 #[.slice A n c, .int .i64 k] w fun e w' => e = .returned (.int .i64 (k + n)) ∧ w = w' := by
  have R := Lib.hid h.sli
  clear h
  go_enter Try.func21, Try.ntmps21
  go_wp2
  go_loop [1, 5] (fun a i => ∃ j : Nat, j ≤ n ∧ i = .int .i64 j ∧ a = .int .i64 (k + j)) (fun _ i => n - (intOf i).toNat)
  case atStart => exact ⟨0, Nat.zero_le _, rfl, by simp⟩
  case round =>
    obtain ⟨j, hj, rfl, rfl⟩ := hrel
    by_cases hlt : j < n
    · obtain ⟨b, off, rfl, hbb, hc1⟩ := R.out j _ (markis_at hlt)
      go_wp2
      go_round
      case rel => exact ⟨j + 1, hlt, by go_num, int_eq (by omega)⟩
      case measure => simp [intOf]; omega
    · obtain rfl : j = n := by omega
      go_wp2
      go_ret
      exact ⟨rfl, rfl⟩

set_option maxHeartbeats 400000 in
theorem eqIntS_same (A1 A2 : Option Addr) (xs : List Int) (c1 c2 : Nat) (w : World) (hm : xs.length ≤ 2000000)
    (h1 : Sli w w.heap.size A1 xs) (h2 : Sli w w.heap.size A2 xs) :
   Calls Try.prog 17 #[.slice A1 xs.length c1, .slice A2 xs.length c2] w fun e w' => e = .returned (.bool true) ∧ Below w.heap.size w w' := by
  have R1 := Lib.hid h1
  have R2 := Lib.hid h2
  clear h1 h2
  go_enter Try.func17, Try.ntmps17
  go_wp2
  go_loopw [5] (fun i wr => ∃ k : Nat, k ≤ xs.length ∧ i = .int .i64 k ∧ Below w.heap.size w wr) (fun i _ => xs.length - (intOf i).toNat)
  case atStart => exact ⟨0, Nat.zero_le _, rfl, Below.refl _ _⟩
  case round =>
    obtain ⟨k, hk, rfl, hb⟩ := hrel
    by_cases hlt : k < xs.length
    · obtain ⟨x, hx⟩ : ∃ x, xs[k]? = some x := ⟨_, List.getElem?_eq_getElem hlt⟩
      obtain ⟨b, off, rfl, hbb, hc1⟩ := (R1.out.below hb) k x hx
      obtain ⟨b', off', rfl, hbb', hd1⟩ := (R2.out.below hb) k x hx
      clear hx
      go_wp2
      go_quiet (fail)
      go_wp2
      go_roundw
      case rel => exact ⟨k + 1, hlt, by go_num, by first | exact hb.drew | exact ⟨hb.os, hb.tape, hb.output, hb.size, hb.block⟩⟩
      case measure => simp [intOf]; omega
    · have hge : xs.length ≤ k := by omega
      go_wp2
      go_ret
      exact ⟨rfl, hb⟩

end Go.Proofs.Ytigamnnboojiiaa
