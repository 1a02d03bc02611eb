/-
  Contracts over this seat: rows of routes in memory; a table copied.
-/
import Derived.Test.YtohflcbpjjnccabTf
import Derived.Test.YtohflcbpjjnccabC1
import Derived.Test.YtohflcbpjjnccabA4
namespace Go.Proofs.Ytohflcbpjjnccab
open Go.RowKit Go.Maps

theorem infoRoute : (Try.prog.info? 38).map (fun i => (i.zero, i.size, i.bytes)) = some (some (.agg #[.int .i64 0, .int .i64 0, .int .i64 0]), 3, 24) := by kernel_rfl
/-- Block g is an array whose first elements are the routes ls. -/
def Arrt (w : World) (g : Nat) (ls : List Lk) : Prop :=
  ∃ cs : Array Value, w.heap[g]? = some (.cells cs 38 (0, 0)) ∧ ∀ k l, ls[k]? = some l → cs[k * 3]? = some (.int .i64 l.a) ∧ cs[k * 3 + 1]? = some (.int .i64 l.b) ∧ cs[k * 3 + 2]? = some (.int .i64 l.c)
theorem Arrt.lt {w : World} {g : Nat} {ls : List Lk} (h : Arrt w g ls) : g < w.heap.size := by
  obtain ⟨cs, h, _⟩ := h
  exact heap_lt h
theorem Arrt.sl {w : World} {g B : Nat} {ls : List Lk} (h : Arrt w g ls) (hB : g < B) : Sl w B (some ⟨g, 0, none⟩) ls := by
  obtain ⟨cs, hh, hc⟩ := h
  intro k l hl
  obtain ⟨h1, h2, h3⟩ := hc k l hl
  refine ⟨g, 0, rfl, hB, ?_, ?_, ?_⟩
  · rw [cell_of_row w g _ cs _ _ hh]; simpa using h1
  · rw [cell_of_row w g _ cs _ _ hh]; simpa using h2
  · rw [cell_of_row w g _ cs _ _ hh]; simpa using h3
theorem Arrt.block {w w' : World} {g : Nat} {ls : List Lk} (h : Arrt w g ls) (hb : w'.heap[g]? = w.heap[g]?) : Arrt w' g ls := by
  obtain ⟨cs, hh, hc⟩ := h
  exact ⟨cs, hb.trans hh, hc⟩
theorem Arrt.below {w w' : World} {g B : Nat} {ls : List Lk} (h : Arrt w g ls) (hb : Below B w w') (hg : g < B) : Arrt w' g ls := h.block (hb.block g hg)
theorem Arri.block {w w' : World} {g : Nat} {xs : List Int} (h : Arri w g xs) (hb : w'.heap[g]? = w.heap[g]?) : Arri w' g xs := by
  obtain ⟨cs, hh, hc⟩ := h
  exact ⟨cs, hb.trans hh, hc⟩
/-- Rows of different types are different blocks. -/
theorem arr_ne {w : World} {g g' : Nat} {ls : List Lk} {xs : List Int} (h : Arrt w g ls) (h' : Arri w g' xs) : g ≠ g' := by
  rintro rfl
  obtain ⟨cs, hh, _⟩ := h
  obtain ⟨cs', hh', _⟩ := h'
  rw [hh] at hh'
  simp at hh'
theorem own_routes {w : World} {base n : Nat} {v : Value} {ls : List Lk} (h : w.ownsRow base 38 3 v n (flat ls)) (hv : v ≠ .slice none 0 0) :
    ∃ g c, v = .slice (some ⟨g, 0, none⟩) ls.length c ∧ base ≤ g ∧ n = ls.length ∧ Arrt w g ls ∧ ls.length ≤ c := by
  have hn : n = ls.length := by have := h.1; rw [flat_len] at this; omega
  subst hn
  rcases h.2 with ⟨rfl, h0⟩ | ⟨g, cap, cur, rfl, hbg, hh, hn, _, hs, ht⟩
  · exact absurd rfl hv
  · refine ⟨g, cap, rfl, hbg, rfl, ⟨cur, hh, fun k l hl => ?_⟩, hn⟩
    have hk : k < ls.length := (List.getElem?_eq_some_iff.1 hl).1
    obtain ⟨h1, h2, h3⟩ := flat_at ls k l hl
    rw [← ht] at h1 h2 h3
    rw [List.getElem?_take_of_lt (by omega), Array.getElem?_toList] at h1 h2 h3
    exact ⟨h1, h2, h3⟩
theorem own_nodes {w : World} {base n : Nat} {v : Value} {xs : List Int} (h : w.ownsRow base 3 1 v n (xs.map (Value.int .i64))) (hv : v ≠ .slice none 0 0) :
    ∃ g c, v = .slice (some ⟨g, 0, none⟩) xs.length c ∧ base ≤ g ∧ n = xs.length ∧ Arri w g xs ∧ xs.length ≤ c := by
  have hn : n = xs.length := by have := h.1; simp at this; omega
  subst hn
  rcases h.2 with ⟨rfl, h0⟩ | ⟨g, cap, cur, rfl, hbg, hh, hn, _, hs, ht⟩
  · exact absurd rfl hv
  · refine ⟨g, cap, rfl, hbg, rfl, ⟨cur, hh, fun k x hk => ?_⟩, hn⟩
    have hkl : k < xs.length := (List.getElem?_eq_some_iff.1 hk).1
    have h1 : (xs.map (Value.int .i64))[k]? = some (.int .i64 x) := by rw [List.getElem?_map, hk]; rfl
    rw [← ht, List.getElem?_take_of_lt (by omega), Array.getElem?_toList] at h1
    exact h1
/-- A row with room for c routes. -/
def Room (w : World) (g c : Nat) : Prop := c ≤ maxLen ∧ ∃ cs : Array Value, w.heap[g]? = some (.cells cs 38 (0, 0)) ∧ cs.size = c * 3
theorem Room.lt {w : World} {g c : Nat} (h : Room w g c) : g < w.heap.size := by
  obtain ⟨_, cs, hh, _⟩ := h
  exact heap_lt hh
theorem Room.block {w w' : World} {g c : Nat} (h : Room w g c) (hb : w'.heap[g]? = w.heap[g]?) : Room w' g c := by
  obtain ⟨hm, cs, hh, hc⟩ := h
  exact ⟨hm, cs, hb.trans hh, hc⟩
theorem Room.below {w w' : World} {g c B : Nat} (h : Room w g c) (hb : Below B w w') (hg : g < B) : Room w' g c := h.block (hb.block g hg)
theorem Room.far {w : World} {g c : Nat} (h : Room w g c) {p : Addr} (hp : g ≠ p.block) (u : Value) : Room (w.setCell p u) g c := h.block (Below.heap_setCell w p u g hp)
theorem Room.set {w : World} {g c : Nat} (h : Room w g c) (i : Nat) (u : Value) : Room (w.setCell ⟨g, i, none⟩ u) g c := by
  obtain ⟨hm, cs, hh, hc⟩ := h
  exact ⟨hm, _, heap_set hh i u, by rw [Array.size_setIfInBounds]; exact hc⟩
theorem own_room {w : World} {base n c g : Nat} {us : List Value} (h : w.ownsRow base 38 3 (.slice (some ⟨g, 0, none⟩) n c) n us) : Room w g c := by
  rcases h.2 with ⟨e, _⟩ | ⟨g', cap, cur, e, hbg, hh, hn, hm, hs, ht⟩
  · simp at e
  · simp only [Value.slice.injEq, Option.some.injEq, Addr.mk.injEq, and_true, true_and] at e
    obtain ⟨rfl, rfl⟩ := e
    exact ⟨hm, cur, hh, hs⟩
theorem flat_take {cur : Array Value} : ∀ {ls : List Lk} {k : Nat}, (∀ j l, ls[j]? = some l → cur[(k + j) * 3]? = some (.int .i64 l.a) ∧ cur[(k + j) * 3 + 1]? = some (.int .i64 l.b) ∧ cur[(k + j) * 3 + 2]? = some (.int .i64 l.c)) → ∀ i u, (flat ls)[i]? = some u → cur[k * 3 + i]? = some u
  | [], k, h, i, u, hu => by simp [flat] at hu
  | x :: r, k, h, i, u, hu => by
    obtain ⟨h0, h1, h2⟩ := h 0 x rfl
    rw [Nat.add_zero] at h0 h1 h2
    match i, hu with
    | 0, hu => cases hu; exact h0
    | 1, hu => cases hu; exact h1
    | 2, hu => cases hu; exact h2
    | i + 3, hu =>
      have := flat_take (ls := r) (k := k + 1) (fun j l hj => by
        have := h (j + 1) l hj
        rwa [show k + (j + 1) = k + 1 + j by omega] at this) i u hu
      rwa [show (k + 1) * 3 + i = k * 3 + (i + 3) by omega] at this
theorem Room.own {w : World} {g c base : Nat} {ls : List Lk} (h : Room w g c) (ha : Arrt w g ls) (hc : ls.length ≤ c) (hb : base ≤ g) : w.ownsRow base 38 3 (.slice (some ⟨g, 0, none⟩) ls.length c) ls.length (flat ls) := by
  obtain ⟨hm, cs, hh, hs⟩ := h
  obtain ⟨cs', hh', hp⟩ := ha
  have e : cs' = cs := by rw [hh] at hh'; simpa using hh'.symm
  subst e
  refine ⟨flat_len ls, .inr ⟨g, c, cs', rfl, hb, hh, hc, hm, hs, ?_⟩⟩
  refine List.ext_getElem? fun i => ?_
  by_cases hi : i < ls.length * 3
  · rw [List.getElem?_take_of_lt hi, Array.getElem?_toList]
    have hf : i < (flat ls).length := by rw [flat_len]; exact hi
    rw [List.getElem?_eq_getElem hf]
    have := flat_take (cur := cs') (ls := ls) (k := 0) (fun j l hj => by rw [Nat.zero_add]; exact hp j l hj) i _ (List.getElem?_eq_getElem hf)
    rwa [Nat.zero_mul, Nat.zero_add] at this
  · rw [List.getElem?_eq_none (by rw [List.length_take]; omega), List.getElem?_eq_none (by rw [flat_len]; omega)]
/-- A table in memory of the call's own. -/
def NewTb (rs : List Lk) (hs : List Int) (w : World) (v : Value) (w' : World) : Prop :=
  ∃ g c g' d, v = tbV (some ⟨g, 0, none⟩) rs.length c (some ⟨g', 0, none⟩) hs.length d ∧ w.heap.size ≤ g ∧ w.heap.size ≤ g' ∧ Arrt w' g rs ∧ Arri w' g' hs ∧ Below w.heap.size w w' ∧ rs.length ≤ c ∧ hs.length ≤ d ∧ Room w' g c
/-- Routes in a row that is newer than a world. -/
structure QT (w : World) (v : Value) (out : List Lk) (W : World) : Prop where
  row : W.ownsRow w.heap.size 38 3 v out.length (flat out)
  bel : Below w.heap.size w W
  nn : v ≠ .slice none 0 0
/-- Nodes in a row that is newer than a world. -/
structure QN (w : World) (v : Value) (out : List Int) (W : World) : Prop where
  row : W.ownsRow w.heap.size 3 1 v out.length (out.map (Value.int .i64))
  bel : Below w.heap.size w W
  nn : v ≠ .slice none 0 0
theorem flat_app (a b : List Lk) : flat (a ++ b) = flat a ++ flat b := by
  induction a with
  | nil => rfl
  | cons x r ih => simp [flat, ih]
section
variable {w W W' : World} {v v' v2 : Value} {out : List Lk} {xs : List Int}
theorem rt_keep {e size n : Nat} {us : List Value} {B : Nat} (h : W.ownsRow B e size v n us) (hb : Below W.heap.size W W') : W'.ownsRow B e size v n us :=
  h.kept ⟨hb.os, hb.tape, hb.output, hb.size, fun k hk _ => hb.block k hk⟩ (row := none) (by
    by_cases h : v.ownBlock = none
    · exact .inl h
    · exact .inr h)
theorem own_block {e size n : Nat} {us : List Value} {B g : Nat} (h : W.ownsRow B e size v n us) (hg : v.ownBlock = some g) : ∃ cs, Box W g e cs := by
  rcases h.2 with ⟨rfl, _⟩ | ⟨g', cap, cur, rfl, _, hh, _⟩
  · simp [Value.ownBlock] at hg
  · have : g' = g := by simpa [Value.ownBlock] using hg
    subst this
    exact ⟨cur, hh⟩
/-- A row stays when a row of another type grows. -/
theorem own_other {e size n e2 size2 n2 : Nat} {us us2 : List Value} {B B2 : Nat} (h : W.ownsRow B e size v n us) (h2 : W.ownsRow B2 e2 size2 v2 n2 us2) (hne : e2 ≠ e) (hg : W.grownBy W' v2.ownBlock) : W'.ownsRow B e size v n us := by
  refine h.kept hg ?_
  cases hv : v.ownBlock with
  | none => exact .inl rfl
  | some g =>
    obtain ⟨cs, hb⟩ := own_block h hv
    exact .inr fun e' => own_box_ne h2 hb hne e'.symm
theorem QT.call (h : QT w v out W) (hb : Below W.heap.size W W') : QT w v out W' := ⟨rt_keep h.row hb, h.bel.trans (hb.mono h.bel.size), h.nn⟩
theorem QN.call (h : QN w v xs W) (hb : Below W.heap.size W W') : QN w v xs W' := ⟨rt_keep h.row hb, h.bel.trans (hb.mono h.bel.size), h.nn⟩
theorem QT.made (hb : Below w.heap.size w W) : QT w (.slice (some ⟨W.heap.size, 0, none⟩) 0 0) [] (W.alloc (.cells #[] 38)) :=
  ⟨World.ownsRow_made (base := w.heap.size) (e := 38) (size := 3) W #[] 0 hb.size (by unfold maxLen; omega) rfl, hb.alloc hb.size _, by simp⟩
theorem QN.made (hb : Below w.heap.size w W) : QN w (.slice (some ⟨W.heap.size, 0, none⟩) 0 0) [] (W.alloc (.cells #[] 3)) :=
  ⟨World.ownsRow_made (base := w.heap.size) (e := 3) (size := 1) W #[] 0 hb.size (by unfold maxLen; omega) rfl, hb.alloc hb.size _, by simp⟩
theorem QT.grown {zs : List Lk} {m : Nat} (h : QT w v out W) (hm : m = zs.length) (ho : W'.ownsRow w.heap.size 38 3 v' (out.length + m) (flat out ++ flat zs)) (hg : W.grownBy W' v.ownBlock) (hn : v' = .slice none 0 0 ↔ v = .slice none 0 0 ∧ m = 0) : QT w v' (out ++ zs) W' := by
  subst hm
  refine ⟨?_, h.bel.grown hg h.bel.size (fun j e => (h.row.lt j e).1), fun e => h.nn (hn.1 e).1⟩
  rw [List.length_append, flat_app]
  exact ho
theorem QN.grown {zs : List Int} {m : Nat} (h : QN w v xs W) (hm : m = zs.length) (ho : W'.ownsRow w.heap.size 3 1 v' (xs.length + m) (xs.map (Value.int .i64) ++ zs.map (Value.int .i64))) (hg : W.grownBy W' v.ownBlock) (hn : v' = .slice none 0 0 ↔ v = .slice none 0 0 ∧ m = 0) : QN w v' (xs ++ zs) W' := by
  subst hm
  refine ⟨?_, h.bel.grown hg h.bel.size (fun j e => (h.row.lt j e).1), fun e => h.nn (hn.1 e).1⟩
  rw [List.length_append, List.map_append]
  exact ho
theorem QT.other (h : QT w v out W) (h2 : QN w v2 xs W) (hg : W.grownBy W' v2.ownBlock) : QT w v out W' :=
  ⟨own_other h.row h2.row (by decide) hg, h.bel.grown hg h.bel.size (fun j e => (h2.row.lt j e).1), h.nn⟩
theorem QN.other (h : QN w v xs W) (h2 : QT w v2 out W) (hg : W.grownBy W' v2.ownBlock) : QN w v xs W' :=
  ⟨own_other h.row h2.row (by decide) hg, h.bel.grown hg h.bel.size (fun j e => (h2.row.lt j e).1), h.nn⟩
theorem sli_flat {g off B : Nat} {xs : List Int} (h : Sli w B (some ⟨g, off, none⟩) xs) : ∀ j u, (xs.map (Value.int .i64))[j]? = some u → w.cell? ((⟨g, off, none⟩ : Addr).add j) = some u := by
  intro j u hu
  rw [List.getElem?_map, Option.map_eq_some_iff] at hu
  obtain ⟨x, hx, rfl⟩ := hu
  obtain ⟨b, o, e, _, hc⟩ := h j x hx
  cases e
  have e : (⟨g, off, none⟩ : Addr).add j = ⟨g, off + j, none⟩ := by
    unfold Addr.add
    by_cases hj : j = 0 <;> simp [hj]
  rw [e]
  exact hc
theorem ints_one (xs : List Int) : ∀ u ∈ xs.map (Value.int .i64), u.oneCell' = true := by
  intro u hu
  obtain ⟨x, _, rfl⟩ := List.mem_map.1 hu
  rfl
end
end Go.Proofs.Ytohflcbpjjnccab
