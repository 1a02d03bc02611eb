/-
  Contracts over this seat: the marks that the exact laws write into a slice, and the look at them; two slices of numbers compared.
-/
import Derived.Test.YtohflcbpjjnccabA1
import Derived.Lib.LazyBuf
namespace Go.Proofs.Ytohflcbpjjnccab
open Go.RowKit

theorem grown_set {w wr : World} {g : Nat} (h : w.grownBy wr (some g)) (i : Nat) (u : Value) : w.grownBy (wr.setCell ⟨g, i, none⟩ u) (some g) :=
  ⟨h.os, h.tape, h.output, by simpa using h.size, fun k hk hne => (Below.heap_setCell wr ⟨g, i, none⟩ u k (fun e => hne (by rw [e]))).trans (h.block k hk hne)⟩


theorem int_eq {a b : Int} (h : a = b) : Value.int .i64 a = .int .i64 b := by rw [h]
def marks (k : Int) (n : Nat) : List Lk := (List.range n).map fun (j : Nat) => ⟨k + 3 * j, k + 3 * j + 1, k + 3 * j + 1 + 1⟩
theorem marks_len (k : Int) (n : Nat) : (marks k n).length = n := by simp [marks]
theorem marks_at {k : Int} {n j : Nat} (h : j < n) : (marks k n)[j]? = some ⟨k + 3 * j, k + 3 * j + 1, k + 3 * j + 1 + 1⟩ := by
  simp [marks, List.getElem?_range h]

theorem marks_succ {cs : Array Value} {k : Int} {n j : Nat} (h : Upto cs (marks k n) j) (hlt : j < n) (hs : j * 3 + 2 < cs.size) :
    Upto (((cs.setIfInBounds (j * 3) (.int .i64 (k + 3 * (j : Int)))).setIfInBounds (j * 3 + 1) (.int .i64 (k + 3 * (j : Int) + 1))).setIfInBounds (j * 3 + 2) (.int .i64 (k + 3 * (j : Int) + 1 + 1))) (marks k n) (j + 1) := by
  have := h.succ (marks_at hlt) hs
  exact this







theorem grown_alloc {w wr : World} {g : Option Nat} (h : w.grownBy wr g) (o : Obj) : w.grownBy (wr.alloc o) g :=
  ⟨h.os, h.tape, h.output, by have := h.size; simp; omega, fun k hk hne => (Below.heap_alloc wr o k (Nat.lt_of_lt_of_le hk h.size)).trans (h.block k hk hne)⟩
theorem grown_trans {a b c : World} {g : Option Nat} (h : a.grownBy b g) (k : b.grownBy c g) : a.grownBy c g :=
  ⟨k.os.trans h.os, k.tape.trans h.tape, k.output.trans h.output, Nat.le_trans h.size k.size, fun i hi hne => (k.block i (Nat.lt_of_lt_of_le hi h.size) hne).trans (h.block i hi hne)⟩



/-! ### Slices of numbers -/
def Arri (w : World) (g : Nat) (xs : List Int) : Prop :=
  ∃ cs : Array Value, w.heap[g]? = some (.cells cs 3 (0, 0)) ∧ ∀ (k : Nat) (x : Int), xs[k]? = some x → cs[k]? = some (.int .i64 x)
theorem Arri.lt {w : World} {g : Nat} {xs : List Int} (h : Arri w g xs) : g < w.heap.size := by
  obtain ⟨cs, h, _⟩ := h
  exact heap_lt h
theorem Arri.below {w w' : World} {g B : Nat} {ls : List Int} (h : Arri w g ls) (hb : Below B w w') (hg : g < B) : Arri w' g ls := by
  obtain ⟨cs, hh, hc⟩ := h
  exact ⟨cs, (hb.block g hg).trans hh, hc⟩
def Sli (w : World) (B : Nat) (A : Option Addr) (xs : List Int) : Prop :=
  ∀ (k : Nat) (x : Int), xs[k]? = some x → ∃ b off, A = some ⟨b, off, none⟩ ∧ b < B ∧ w.cell? ⟨b, off + k, none⟩ = some (.int .i64 x)
theorem Sli.keep {w w' : World} {B : Nat} {A : Option Addr} {xs : List Int} (h : Sli w B A xs) (hk : ∀ b o, b < B → w'.cell? ⟨b, o, none⟩ = w.cell? ⟨b, o, none⟩) : Sli w' B A xs := by
  intro k x hx
  obtain ⟨b, off, e, hb, h1⟩ := h k x hx
  exact ⟨b, off, e, hb, (hk _ _ hb).trans h1⟩
theorem Sli.below {w w' : World} {B : Nat} {A : Option Addr} {xs : List Int} (h : Sli w B A xs) (hb : Below B w w') : Sli w' B A xs := h.keep fun b o h => hb.cell (p := ⟨b, o, none⟩) h
theorem Sli.more {w : World} {B B' : Nat} {A : Option Addr} {xs : List Int} (h : Sli w B A xs) (hb : B ≤ B') : Sli w B' A xs := by
  intro k x hx
  obtain ⟨b, off, e, hb', h1⟩ := h k x hx
  exact ⟨b, off, e, by omega, h1⟩
theorem Arri.sli {w : World} {g B : Nat} {xs : List Int} (h : Arri w g xs) (hB : g < B) : Sli w B (some ⟨g, 0, none⟩) xs := by
  obtain ⟨cs, hh, hc⟩ := h
  intro k x hx
  refine ⟨g, 0, rfl, hB, ?_⟩
  rw [cell_of_row w g _ cs _ _ hh]
  simpa using hc k x hx
def Own1i (w : World) (A : Option Addr) (g : Nat) (xs : List Int) : Prop := 0 < xs.length → A = some ⟨g, 0, none⟩ ∧ Arri w g xs
theorem Own1i.grownFar {w w' : World} {A : Option Addr} {g g' : Nat} {ls : List Int} (h : Own1i w A g ls) (hg : w.grownBy w' (some g')) (hne : g ≠ g') : Own1i w' A g ls := fun hp => by
  obtain ⟨e, cs, hh, hc⟩ := h hp
  exact ⟨e, cs, (hg.block g (heap_lt hh) (fun e => hne (Option.some.inj e))).trans hh, hc⟩
theorem Own1i.below {w w' : World} {A : Option Addr} {g : Nat} {ls : List Int} (h : Own1i w A g ls) (hb : Below w.heap.size w w') : Own1i w' A g ls := fun hp => by
  obtain ⟨e, ha⟩ := h hp
  exact ⟨e, ha.below hb ha.lt⟩
theorem Own1i.alloc {w : World} {A : Option Addr} {g : Nat} {ls : List Int} (h : Own1i w A g ls) (o : Obj) : Own1i (w.alloc o) A g ls :=
  h.below ((Below.refl _ _).alloc (Nat.le_refl _) _)
theorem Own1i.sli {w : World} {A : Option Addr} {g : Nat} {ls : List Int} (h : Own1i w A g ls) : Sli w w.heap.size A ls := fun k l hl => by
  obtain ⟨rfl, ha⟩ := h (by have := (List.getElem?_eq_some_iff.1 hl).1; omega)
  exact ha.sli ha.lt k l hl

def markis (k : Int) (n : Nat) : List Int := (List.range n).map fun (j : Nat) => k + j
theorem markis_len (k : Int) (n : Nat) : (markis k n).length = n := by simp [markis]
theorem markis_at {k : Int} {n j : Nat} (h : j < n) : (markis k n)[j]? = some (k + j) := by simp [markis, List.getElem?_range h]
theorem arri_size {w : World} {g : Nat} {ls : List Int} (h : Arri w g ls) : ∃ cs : Array Value, w.heap[g]? = some (.cells cs 3 (0, 0)) ∧ (0 < ls.length → ls.length ≤ cs.size) := by
  obtain ⟨cs, hh, hc⟩ := h
  refine ⟨cs, hh, fun hp => ?_⟩
  have h3 := hc (ls.length - 1) _ (List.getElem?_eq_getElem (by omega))
  have := (Array.getElem?_eq_some_iff.1 h3).1
  omega
def Uptoi (cs : Array Value) (k : Int) (j : Nat) : Prop := ∀ i, i < j → cs[i]? = some (.int .i64 (k + i))
theorem Uptoi.succ {cs : Array Value} {k : Int} {j : Nat} (h : Uptoi cs k j) (hs : j < cs.size) : Uptoi (cs.setIfInBounds j (.int .i64 (k + j))) k (j + 1) := by
  intro i hi
  simp only [Array.getElem?_setIfInBounds]
  by_cases e : i < j
  · rw [if_neg (by omega)]; exact h i e
  · obtain rfl : i = j := by omega
    rw [if_pos rfl, if_pos hs]

set_option maxHeartbeats 400000 in
theorem markIntS_any (A : Option Addr) (g : Nat) (ls : List Int) (c : Nat) (k : Int) (w : World) (hm : ls.length ≤ 2000000) (hk0 : 0 ≤ k) (hk1 : k ≤ 10000000) (h : Own1i w A g ls) :
   Calls Try.prog 53 #[.slice A ls.length c, .int .i64 k] w fun e w' => e = .returned (.int .i64 (k + ls.length)) ∧ Own1i w' A g (markis k ls.length) ∧ w.grownBy w' (some g) := by
  by_cases hp : ls.length = 0
  · have e0 : ls = [] := List.eq_nil_of_length_eq_zero hp
    subst e0
    clear h hp
    go_enter Try.func53, Try.ntmps53
    go_wp2
    go_loopw [1, 5] (fun a i wr => a = .int .i64 k ∧ i = .int .i64 0 ∧ wr = w) (fun _ _ _ => 0)
    case atStart => exact ⟨rfl, rfl, rfl⟩
    case round =>
      obtain ⟨rfl, rfl, rfl⟩ := hrel
      go_wp2
      go_ret
      exact ⟨ret_int (by simp), fun h => absurd h (by simp [markis]), World.grownBy.refl _ _⟩
  · obtain ⟨rfl, harr⟩ := h (by omega)
    obtain ⟨cs0, hh0, hs0⟩ := arri_size harr
    have HS := Lib.hid (hs0 (by omega))
    have HH := Lib.hid hh0
    clear h harr hh0 hs0 hp
    go_enter Try.func53, Try.ntmps53
    go_wp2
    go_loopw [1, 5] (fun a i wr => ∃ j : Nat, j ≤ ls.length ∧ i = .int .i64 j ∧ a = .int .i64 (k + j) ∧ w.grownBy wr (some g) ∧ ∃ cs : Array Value, wr.heap[g]? = some (.cells cs 3 (0, 0)) ∧ ls.length ≤ cs.size ∧ Uptoi cs k j) (fun _ i _ => ls.length - (intOf i).toNat)
    case atStart => exact ⟨0, Nat.zero_le _, rfl, by simp, World.grownBy.refl _ _, cs0, HH.out, HS.out, fun j h => by omega⟩
    case round =>
      obtain ⟨j, hj, rfl, rfl, hg, cs, hcs, hsz, hup⟩ := hrel
      have HU := Lib.hid hup
      have HC := Lib.hid hcs
      have HG := Lib.hid hg
      clear hup hg
      by_cases hlt : j < ls.length
      · have hf := heap_frozen hcs
        obtain ⟨v0, hd0⟩ := cell_in hcs (i := j) (by omega)
        have HN := Lib.hid (HU.out.succ (by omega))
        clear hcs
        go_wp2
        go_roundw
        case rel => exact ⟨j + 1, hlt, by go_num, int_eq (by omega), grown_set HG.out _ _, _, heap_set HC.out _ _, by simp only [Array.size_setIfInBounds]; exact hsz, HN.out⟩
        case measure => simp [intOf]; omega
      · obtain rfl : j = ls.length := by omega
        clear hcs
        go_wp2
        go_ret
        exact ⟨rfl, fun _ => ⟨rfl, cs, HC.out, fun i l hl => by
          have hi : i < ls.length := by have := (List.getElem?_eq_some_iff.1 hl).1; rwa [markis_len] at this
          rw [markis_at hi] at hl
          cases hl
          exact HU.out i hi⟩, HG.out⟩

set_option maxHeartbeats 400000 in
theorem heldIntS_any (A : Option Addr) (g n : Nat) (c : Nat) (k : Int) (w : World) (hm : n ≤ 2000000) (hk0 : 0 ≤ k) (hk1 : k ≤ 10000000) (h : Own1i w A g (markis k n)) :
   Calls Try.prog 55 #[.slice A n c, .int .i64 k] w fun e w' => e = .returned (.int .i64 (k + n)) ∧ w = w' := by
  have R := Lib.hid h.sli
  clear h
  go_enter Try.func55, Try.ntmps55
  go_wp2
  go_loop [1, 5] (fun a i => ∃ j : Nat, j ≤ n ∧ i = .int .i64 j ∧ a = .int .i64 (k + j)) (fun _ i => n - (intOf i).toNat)
  case atStart => exact ⟨0, Nat.zero_le _, rfl, by simp⟩
  case round =>
    obtain ⟨j, hj, rfl, rfl⟩ := hrel
    by_cases hlt : j < n
    · obtain ⟨b, off, rfl, hbb, hc1⟩ := R.out j _ (markis_at hlt)
      go_wp2
      go_round
      case rel => exact ⟨j + 1, hlt, by go_num, int_eq (by omega)⟩
      case measure => simp [intOf]; omega
    · obtain rfl : j = n := by omega
      go_wp2
      go_ret
      exact ⟨rfl, rfl⟩

set_option maxHeartbeats 400000 in
theorem eqIntS_same (A1 A2 : Option Addr) (xs : List Int) (c1 c2 : Nat) (w : World) (hm : xs.length ≤ 2000000)
    (h1 : Sli w w.heap.size A1 xs) (h2 : Sli w w.heap.size A2 xs) :
   Calls Try.prog 46 #[.slice A1 xs.length c1, .slice A2 xs.length c2] w fun e w' => e = .returned (.bool true) ∧ Below w.heap.size w w' := by
  have R1 := Lib.hid h1
  have R2 := Lib.hid h2
  clear h1 h2
  go_enter Try.func46, Try.ntmps46
  go_wp2
  go_loopw [5] (fun i wr => ∃ k : Nat, k ≤ xs.length ∧ i = .int .i64 k ∧ Below w.heap.size w wr) (fun i _ => xs.length - (intOf i).toNat)
  case atStart => exact ⟨0, Nat.zero_le _, rfl, Below.refl _ _⟩
  case round =>
    obtain ⟨k, hk, rfl, hb⟩ := hrel
    by_cases hlt : k < xs.length
    · obtain ⟨x, hx⟩ : ∃ x, xs[k]? = some x := ⟨_, List.getElem?_eq_getElem hlt⟩
      obtain ⟨b, off, rfl, hbb, hc1⟩ := (R1.out.below hb) k x hx
      obtain ⟨b', off', rfl, hbb', hd1⟩ := (R2.out.below hb) k x hx
      clear hx
      go_wp2
      go_quiet (fail)
      go_wp2
      go_roundw
      case rel => exact ⟨k + 1, hlt, by go_num, by first | exact hb.drew | exact ⟨hb.os, hb.tape, hb.output, hb.size, hb.block⟩⟩
      case measure => simp [intOf]; omega
    · have hge : xs.length ≤ k := by omega
      go_wp2
      go_ret
      exact ⟨rfl, hb⟩

end Go.Proofs.Ytohflcbpjjnccab

/-
  Small lemmas on memory over this seat: a block that is an array of just these cells.
-/
namespace Go.Proofs.Ytohflcbpjjnccab
open Go.RowKit

/-- Block b is an array of just these cells. -/
def Box (w : World) (b : Nat) (t : TypeId) (cs : Array Value) : Prop := w.heap[b]? = some (.cells cs t (0, 0))
theorem Box.new (w : World) (t : TypeId) (cs : Array Value) : Box (w.alloc (.cells cs t)) w.heap.size t cs := heap_alloc_new w _
theorem Box.lt {w : World} {b : Nat} {t : TypeId} {cs : Array Value} (h : Box w b t cs) : b < w.heap.size := heap_lt h
theorem Box.below {w w' : World} {b B : Nat} {t : TypeId} {cs : Array Value} (h : Box w b t cs) (hb : Below B w w') (hB : b < B) : Box w' b t cs := (hb.block b hB).trans h
theorem Box.alloc {w : World} {b : Nat} {t : TypeId} {cs : Array Value} (h : Box w b t cs) (o : Obj) : Box (w.alloc o) b t cs := (Below.heap_alloc w o b h.lt).trans h
theorem Box.grown {w w' : World} {b g : Nat} {t : TypeId} {cs : Array Value} (h : Box w b t cs) (hg : w.grownBy w' (some g)) (hne : b ≠ g) : Box w' b t cs :=
  (hg.block b h.lt (fun e => hne (Option.some.inj e))).trans h
theorem Box.cell {w : World} {b : Nat} {t : TypeId} {cs : Array Value} (h : Box w b t cs) (i : Nat) : w.cell? ⟨b, i, none⟩ = cs[i]? := cell_of_row w b i cs t (0, 0) h
theorem Box.frozen {w : World} {b : Nat} {t : TypeId} {cs : Array Value} (h : Box w b t cs) (i : Nat) : w.frozen? ⟨b, i, none⟩ = false := heap_frozen h i
/-- What the walk reads of a block of two cells. -/
theorem Box.two {w : World} {b : Nat} {t : TypeId} {v0 v1 : Value} (h : Box w b t #[v0, v1]) : b < w.heap.size ∧ w.cell? ⟨b, 0, none⟩ = some v0 ∧ w.cell? ⟨b, 1, none⟩ = some v1 ∧ w.frozen? ⟨b, 0, none⟩ = false ∧ w.frozen? ⟨b, 1, none⟩ = false :=
  ⟨h.lt, h.cell 0, h.cell 1, h.frozen 0, h.frozen 1⟩

end Go.Proofs.Ytohflcbpjjnccab

/-
  Over this seat: an array of links as a list of cells, and what an append onto a row of the call's own leaves; slices.Clone of links.
-/
namespace Go.Proofs.Ytohflcbpjjnccab
open Go.RowKit

def flat : List Lk → List Value
  | [] => []
  | l :: ls => .int .i64 l.a :: .int .i64 l.b :: .int .i64 l.c :: flat ls
theorem flat_len (ls : List Lk) : (flat ls).length = ls.length * 3 := by
  induction ls with
  | nil => rfl
  | cons l ls ih => simp [flat, ih]; omega
theorem flat_append (xs ys : List Lk) : flat (xs ++ ys) = flat xs ++ flat ys := by
  induction xs with
  | nil => rfl
  | cons l ls ih => simp [flat, ih]
theorem flat_at (ls : List Lk) : ∀ (k : Nat) (l : Lk), ls[k]? = some l → (flat ls)[k * 3]? = some (.int .i64 l.a) ∧ (flat ls)[k * 3 + 1]? = some (.int .i64 l.b) ∧ (flat ls)[k * 3 + 2]? = some (.int .i64 l.c) := by
  induction ls with
  | nil => intro k l h; simp at h
  | cons x ls ih =>
    intro k l h
    cases k with
    | zero =>
      simp at h
      subst h
      exact ⟨rfl, rfl, rfl⟩
    | succ k =>
      obtain ⟨h1, h2, h3⟩ := ih k l (by simpa using h)
      rw [show (k + 1) * 3 = k * 3 + 1 + 1 + 1 by omega]
      exact ⟨h1, h2, h3⟩
theorem flat_inv (ls : List Lk) : ∀ (j : Nat) (u : Value), (flat ls)[j]? = some u → ∃ k l, ls[k]? = some l ∧ ((j = k * 3 ∧ u = .int .i64 l.a) ∨ (j = k * 3 + 1 ∧ u = .int .i64 l.b) ∨ (j = k * 3 + 2 ∧ u = .int .i64 l.c)) := by
  induction ls with
  | nil => intro j u h; simp [flat] at h
  | cons x ls ih =>
    intro j u h
    match j, h with
    | 0, h => exact ⟨0, x, rfl, .inl ⟨rfl, by simpa [flat] using h.symm⟩⟩
    | 1, h => exact ⟨0, x, rfl, .inr (.inl ⟨rfl, by simpa [flat] using h.symm⟩)⟩
    | 2, h => exact ⟨0, x, rfl, .inr (.inr ⟨rfl, by simpa [flat] using h.symm⟩)⟩
    | j + 3, h =>
      obtain ⟨k, l, hl, hc⟩ := ih j u (by simpa [flat] using h)
      refine ⟨k + 1, l, by simpa using hl, ?_⟩
      rcases hc with ⟨e, h⟩ | ⟨e, h⟩ | ⟨e, h⟩
      · exact .inl ⟨by omega, h⟩
      · exact .inr (.inl ⟨by omega, h⟩)
      · exact .inr (.inr ⟨by omega, h⟩)
theorem flat_one (ls : List Lk) : ∀ u ∈ flat ls, u.oneCell' = true := by
  intro u hu
  obtain ⟨j, hj⟩ := List.getElem?_of_mem hu
  obtain ⟨k, l, _, h | h | h⟩ := flat_inv ls j u hj
  · rw [h.2]; rfl
  · rw [h.2]; rfl
  · rw [h.2]; rfl

theorem Sl.flat {w : World} {B g off : Nat} {ls : List Lk} (h : Sl w B (some ⟨g, off, none⟩) ls) : ∀ j u, (flat ls)[j]? = some u → w.cell? ((⟨g, off, none⟩ : Addr).add j) = some u := by
  intro j u hj
  have e : ∀ j, (⟨g, off, none⟩ : Addr).add j = ⟨g, off + j, none⟩ := fun j => by
    unfold Addr.add
    by_cases h : j = 0 <;> simp [h]
  obtain ⟨k, l, hl, hc⟩ := flat_inv ls j u hj
  obtain ⟨b, o, he, _, h1, h2, h3⟩ := h k l hl
  cases he
  rw [e]
  rcases hc with ⟨rfl, rfl⟩ | ⟨rfl, rfl⟩ | ⟨rfl, rfl⟩
  · exact h1
  · exact h2
  · exact h3
theorem Sl.drop {w : World} {B g off : Nat} {ls : List Lk} (h : Sl w B (some ⟨g, off, none⟩) ls) (d : Nat) : Sl w B (some ⟨g, off + d * 3, none⟩) (ls.drop d) := by
  intro k l hl
  rw [List.getElem?_drop] at hl
  obtain ⟨b, o, he, hb, h1, h2, h3⟩ := h _ _ hl
  cases he
  refine ⟨g, off + d * 3, rfl, hb, ?_, ?_, ?_⟩
  · rw [show off + d * 3 + k * 3 = off + (d + k) * 3 by omega]; exact h1
  · rw [show off + d * 3 + k * 3 = off + (d + k) * 3 by omega]; exact h2
  · rw [show off + d * 3 + k * 3 = off + (d + k) * 3 by omega]; exact h3
theorem Sl.take {w : World} {B : Nat} {A : Option Addr} {ls : List Lk} (h : Sl w B A ls) (d : Nat) : Sl w B A (ls.take d) := by
  intro k l hl
  by_cases hk : k < d
  · rw [List.getElem?_take_of_lt hk] at hl
    exact h k l hl
  · rw [List.getElem?_eq_none (by simp; omega)] at hl
    cases hl




end Go.Proofs.Ytohflcbpjjnccab

/-
  Contracts over this seat: GraphCost, of the program and of the specification.
-/
namespace Go.Proofs.Ytohflcbpjjnccab
open Go.RowKit



def costOk (n : Int) (ls : List Lk) (x cost : Int) : Bool := gvB n ls && inB x 0 ((ls.length : Int) - 1) && inB cost 1 20
def costLs (ls : List Lk) (x : Nat) (cost : Int) : List Lk := match ls[x]? with
  | some l => ls.set x ⟨l.a, l.b, cost⟩
  | none => ls
theorem costLs_len (ls : List Lk) (x : Nat) (cost : Int) : (costLs ls x cost).length = ls.length := by
  unfold costLs; split <;> simp




end Go.Proofs.Ytohflcbpjjnccab

/-
  Contracts over this seat: the specification's GraphCost and what it calls.
-/
namespace Go.Proofs.Ytohflcbpjjnccab
open Go.RowKit








end Go.Proofs.Ytohflcbpjjnccab

/-
  Small lemmas on a slice of numbers of the call's own.
-/
namespace Go.Proofs.Ytohflcbpjjnccab
open Go.RowKit

theorem Own1i.grownC {w w' : World} {A : Option Addr} {g g' : Nat} {ls : List Int} (h : Own1i w A g ls) (hg : w.grownBy w' (some g')) (hne : 0 < ls.length → g ≠ g') : Own1i w' A g ls := fun hp => by
  obtain ⟨e, cs, hh, hc⟩ := h hp
  exact ⟨e, cs, (hg.block g (heap_lt hh) (fun e => hne hp (Option.some.inj e))).trans hh, hc⟩
theorem Own1i.fresh {w : World} {A : Option Addr} {g : Nat} {ls : List Int} (h : Own1i w A g ls) : ∃ g', Own1i w A g' ls ∧ ((0 < ls.length ∧ g' = g) ∨ g' = w.heap.size) := by
  by_cases hp : 0 < ls.length
  · exact ⟨g, h, .inl ⟨hp, rfl⟩⟩
  · exact ⟨w.heap.size, fun h => absurd h hp, .inr rfl⟩

end Go.Proofs.Ytohflcbpjjnccab
