/-
  Announcements in memory: how they read, and rows of them that a call owns.
-/
import Derived.Test.YtnkohgdfipgdoabEn
import Derived.Test.YtnkohgdfipgdoabAr
namespace Go.Proofs.Ytnkohgdfipgdoab
open Go.RowKit

/-- An announcement as it lies: its two numbers, its neighbours, where those lie. -/
structure Lz where
  o : Int
  q : Int
  es : List Lb
  A : Option Addr
  c : Nat
  g : Nat
abbrev Lz.d (z : Lz) : La := ⟨z.o, z.q, z.es⟩
abbrev Lz.v (z : Lz) : Value := .agg #[.int .i64 z.o, .int .i64 z.q, .slice z.A z.es.length z.c]
abbrev datL (zs : List Lz) : List La := zs.map Lz.d
theorem infoLsa : (Try.prog.info? 54).map (fun i => (i.zero, i.size, i.bytes)) = some (some (.agg #[.int .i64 0, .int .i64 0, .slice none 0 0]), 3, 40) := by kernel_rfl
/-- The slice of address A reads as the announcements zs, all of them below block B. -/
def Slz (w : World) (B : Nat) (A : Option Addr) (zs : List Lz) : Prop :=
  ∀ (k : Nat) (z : Lz), zs[k]? = some z → ∃ b off, A = some ⟨b, off, none⟩ ∧ b < B ∧ w.cell? ⟨b, off + k * 3, none⟩ = some (.int .i64 z.o) ∧ w.cell? ⟨b, off + k * 3 + 1, none⟩ = some (.int .i64 z.q) ∧ w.cell? ⟨b, off + k * 3 + 2, none⟩ = some (.slice z.A z.es.length z.c) ∧ Slb w B z.A z.es
theorem Slz.below {w w' : World} {B : Nat} {A : Option Addr} {zs : List Lz} (h : Slz w B A zs) (hb : Below B w w') : Slz w' B A zs := by
  intro k z hz
  obtain ⟨b, off, e, hbB, h0, h1, h2, h3⟩ := h k z hz
  exact ⟨b, off, e, hbB, (hb.cell (p := ⟨b, off + k * 3, none⟩) hbB).trans h0, (hb.cell (p := ⟨b, off + k * 3 + 1, none⟩) hbB).trans h1, (hb.cell (p := ⟨b, off + k * 3 + 2, none⟩) hbB).trans h2, h3.below hb⟩
theorem Slz.more {w : World} {B B' : Nat} {A : Option Addr} {zs : List Lz} (h : Slz w B A zs) (hb : B ≤ B') : Slz w B' A zs := by
  intro k z hz
  obtain ⟨b, off, e, hbB, h0, h1, h2, h3⟩ := h k z hz
  exact ⟨b, off, e, by omega, h0, h1, h2, h3.more hb⟩
theorem Slz.grow {w w' : World} {A : Option Addr} {zs : List Lz} (h : Slz w w.heap.size A zs) (hb : Below w.heap.size w w') : Slz w' w'.heap.size A zs := (h.below hb).more hb.size

def flatZ : List Lz → List Value
  | [] => []
  | z :: zs => .int .i64 z.o :: .int .i64 z.q :: .slice z.A z.es.length z.c :: flatZ zs
theorem flatZ_len (zs : List Lz) : (flatZ zs).length = zs.length * 3 := by
  induction zs with
  | nil => rfl
  | cons z zs ih => simp [flatZ, ih]; omega
theorem flatZ_append (xs ys : List Lz) : flatZ (xs ++ ys) = flatZ xs ++ flatZ ys := by
  induction xs with
  | nil => rfl
  | cons z zs ih => simp [flatZ, ih]
theorem flatZ_at (zs : List Lz) : ∀ (k : Nat) (z : Lz), zs[k]? = some z → (flatZ zs)[k * 3]? = some (.int .i64 z.o) ∧ (flatZ zs)[k * 3 + 1]? = some (.int .i64 z.q) ∧ (flatZ zs)[k * 3 + 2]? = some (.slice z.A z.es.length z.c) := by
  induction zs with
  | nil => intro k z h; simp at h
  | cons x zs ih =>
    intro k z h
    cases k with
    | zero =>
      simp at h
      subst h
      exact ⟨rfl, rfl, rfl⟩
    | succ k =>
      obtain ⟨h1, h2, h3⟩ := ih k z (by simpa using h)
      rw [show (k + 1) * 3 = k * 3 + 1 + 1 + 1 by omega]
      exact ⟨h1, h2, h3⟩

/-- Neighbours of an announcement in memory of their own. -/
def InnZ (W : World) (B : Nat) (z : Lz) : Prop := Owne W z.A z.g z.es ∧ B ≤ z.g ∧ z.es.length ≤ z.c
/-- A row of announcements of a call's own: each with its neighbours in memory of their own. -/
structure ZI (B : Nat) (v : Value) (zs : List Lz) (W : World) : Prop where
  row : W.ownsRow B 54 3 v zs.length (flatZ zs)
  inn : ∀ z ∈ zs, InnZ W B z
  dis : zs.Pairwise (fun a b => 0 < a.es.length → 0 < b.es.length → a.g ≠ b.g)
theorem InnZ.below {W W' : World} {B : Nat} {z : Lz} (h : InnZ W B z) (hb : Below W.heap.size W W') : InnZ W' B z := ⟨h.1.below hb, h.2.1, h.2.2⟩
theorem ZI.call {B : Nat} {v : Value} {zs : List Lz} {W W' : World} (h : ZI B v zs W) (hb : Below W.heap.size W W') : ZI B v zs W' :=
  ⟨owns_kept h.row hb, fun z hz => (h.inn z hz).below hb, h.dis⟩
theorem ZI.alloc {B : Nat} {v : Value} {zs : List Lz} {W : World} (h : ZI B v zs W) (o : Obj) : ZI B v zs (W.alloc o) := h.call ((Below.refl _ _).alloc (Nat.le_refl _) o)
theorem ZI.drew {B : Nat} {v : Value} {zs : List Lz} {W : World} (h : ZI B v zs W) : ZI B v zs W.drew := ⟨h.row, h.inn, h.dis⟩
theorem ZI.lt {B : Nat} {v : Value} {zs : List Lz} {W : World} (h : ZI B v zs W) {z : Lz} (hz : z ∈ zs) (hp : 0 < z.es.length) : z.g < W.heap.size := ((h.inn z hz).1 hp).2.lt
/-- A row grows: the neighbours stay as they were. -/
theorem Owne.row {W W' : World} {base n : Nat} {v : Value} {xs : List Value} {o : Obj} {A : Option Addr} {g : Nat} {p : List Lb} (h : Owne W A g p) (hr : W.ownsRow base 54 3 v n xs) (hg : (W.alloc o).grownBy W' v.ownBlock) : Owne W' A g p := fun hp => by
  obtain ⟨e, cs, hh, hc⟩ := h hp
  have hne := own_box_ne hr (g := g) (t := 56) hh (by decide)
  exact ⟨e, cs, (hg.block g (by have := heap_lt hh; simp; omega) (fun e => hne e.symm)).trans ((Below.heap_alloc W o g (heap_lt hh)).trans hh), hc⟩
theorem ZI.append {B : Nat} {v : Value} {zs : List Lz} {W : World} (h : ZI B v zs W) {z : Lz} {v' : Value} {W' : World} {o : Obj} (hz : InnZ W B z) (hd : ∀ x ∈ zs, 0 < x.es.length → 0 < z.es.length → x.g ≠ z.g)
    (hown : W'.ownsRow B 54 3 v' (zs.length + 1) (flatZ zs ++ [.int .i64 z.o, .int .i64 z.q, .slice z.A z.es.length z.c])) (hg : (W.alloc o).grownBy W' v.ownBlock) : ZI B v' (zs ++ [z]) W' := by
  refine ⟨by rw [List.length_append, flatZ_append]; exact hown, fun x hx => ?_, ?_⟩
  · rcases List.mem_append.1 hx with hx | hx
    · have := h.inn x hx
      exact ⟨this.1.row h.row hg, this.2.1, this.2.2⟩
    · have : x = z := by simpa using hx
      subst this
      exact ⟨hz.1.row h.row hg, hz.2.1, hz.2.2⟩
  · rw [List.pairwise_append]
    exact ⟨h.dis, by simp, fun a ha b hb => by
      have : b = z := by simpa using hb
      subst this
      exact hd a ha⟩
theorem own_slicez {w : World} {base n : Nat} {v : Value} {zs : List Lz} (h : w.ownsRow base 54 3 v n (flatZ zs)) (hb : base ≤ w.heap.size) :
    ∃ A g c, v = .slice A zs.length c ∧ base ≤ g ∧ n = zs.length ∧ zs.length ≤ c ∧ (0 < zs.length → A = some ⟨g, 0, none⟩ ∧ g < w.heap.size) ∧
      ∀ (k : Nat) (z : Lz), zs[k]? = some z → A = some ⟨g, 0, none⟩ ∧ g < w.heap.size ∧ w.cell? ⟨g, k * 3, none⟩ = some (.int .i64 z.o) ∧ w.cell? ⟨g, k * 3 + 1, none⟩ = some (.int .i64 z.q) ∧ w.cell? ⟨g, k * 3 + 2, none⟩ = some (.slice z.A z.es.length z.c) := by
  have hn : n = zs.length := by have := h.1; rw [flatZ_len] at this; omega
  subst hn
  rcases h.2 with ⟨rfl, h0⟩ | ⟨g, cap, cur, rfl, hbg, hh, hn, _, hs, ht⟩
  · have hz : zs.length = 0 := h0
    exact ⟨none, w.heap.size, 0, by rw [hz], hb, rfl, by omega, fun hp => by omega, fun k z hk => by have := (List.getElem?_eq_some_iff.1 hk).1; omega⟩
  · refine ⟨_, g, cap, rfl, hbg, rfl, hn, fun _ => ⟨rfl, heap_lt hh⟩, fun k z hk => ⟨rfl, heap_lt hh, ?_⟩⟩
    have hkl : k < zs.length := (List.getElem?_eq_some_iff.1 hk).1
    obtain ⟨h1, h2, h3⟩ := flatZ_at zs k z hk
    rw [← ht] at h1 h2 h3
    rw [List.getElem?_take_of_lt (by omega), Array.getElem?_toList] at h1 h2 h3
    exact ⟨by rw [cell_of_row w g _ cur _ _ hh]; exact h1, by rw [cell_of_row w g _ cur _ _ hh]; exact h2, by rw [cell_of_row w g _ cur _ _ hh]; exact h3⟩
/-- A row of a call's own reads as what it is. -/
theorem ZI.slz {B : Nat} {A : Option Addr} {c : Nat} {zs : List Lz} {W : World} (h : ZI B (.slice A zs.length c) zs W) (hB : B ≤ W.heap.size) : Slz W W.heap.size A zs := by
  obtain ⟨A', g, c', e, _, _, _, _, hk⟩ := own_slicez h.row hB
  cases e
  intro k z hz
  obtain ⟨e1, hg, h1, h2, h3⟩ := hk k z hz
  refine ⟨g, 0, e1, hg, by rw [Nat.zero_add]; exact h1, by rw [Nat.zero_add]; exact h2, by rw [Nat.zero_add]; exact h3, ?_⟩
  exact (h.inn z (List.mem_of_getElem? hz)).1.slb
theorem add_az (g o j : Nat) : (⟨g, o, none⟩ : Addr).add j = ⟨g, o + j, none⟩ := by
  unfold Addr.add
  by_cases h : j = 0
  · simp [h]
  · simp [h]
theorem new3z (w : World) (x y u : Value) (t : TypeId) : ∀ j a, [x, y, u][j]? = some a → (w.alloc (.cells #[x, y, u] t)).cell? ((⟨w.heap.size, 0, none⟩ : Addr).add j) = some a := by
  intro j a hj
  have hl := (List.getElem?_eq_some_iff.1 hj).1
  simp at hl
  have hb := (heap_alloc_new w (.cells #[x, y, u] t))
  rw [add_az, cell_of_row _ _ _ _ _ _ hb]
  rw [Nat.zero_add]
  match j, hj with
  | 0, hj => simpa using hj
  | 1, hj => simpa using hj
  | 2, hj => simpa using hj
theorem one3z (x y u : Value) (hx : x.oneCell' = true) (hy : y.oneCell' = true) (hu : u.oneCell' = true) : ∀ a ∈ [x, y, u], a.oneCell' = true := by
  intro a ha
  simp at ha
  rcases ha with rfl | rfl | rfl
  · exact hx
  · exact hy
  · exact hu

end Go.Proofs.Ytnkohgdfipgdoab
