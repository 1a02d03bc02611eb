/-
  Contracts over this seat: the specification's copies of announcements, and the search for an origin.
-/
import Derived.Test.YtnkohgdfipgdoabZv
namespace Go.Proofs.Ytnkohgdfipgdoab
open Go.RowKit Go.Maps

theorem Owne.set_far {w : World} {A : Option Addr} {g : Nat} {ls : List Lb} (h : Owne w A g ls) {p : Addr} (hp : g ≠ p.block) (u : Value) : Owne (w.setCell p u) A g ls := fun hl => by
  obtain ⟨e, cs, hh, hc⟩ := h hl
  exact ⟨e, cs, (Below.heap_setCell w p u g hp).trans hh, hc⟩
theorem ret_three {w : World} {Q t : Nat} {v0 v1 v2 : Value} (h : Box w Q t #[v0, v1, v2]) (u0 u1 u2 : Value) :
    Box (((w.setCell ⟨Q, 0, none⟩ u0).setCell ⟨Q, 1, none⟩ u1).setCell ⟨Q, 2, none⟩ u2) Q t #[u0, u1, u2] ∧ (((w.setCell ⟨Q, 0, none⟩ u0).setCell ⟨Q, 1, none⟩ u1).setCell ⟨Q, 2, none⟩ u2).cell? ⟨Q, 0, none⟩ = some u0 ∧
      (((w.setCell ⟨Q, 0, none⟩ u0).setCell ⟨Q, 1, none⟩ u1).setCell ⟨Q, 2, none⟩ u2).cell? ⟨Q, 1, none⟩ = some u1 ∧ (((w.setCell ⟨Q, 0, none⟩ u0).setCell ⟨Q, 1, none⟩ u1).setCell ⟨Q, 2, none⟩ u2).cell? ⟨Q, 2, none⟩ = some u2 := by
  have b2 : Box (((w.setCell ⟨Q, 0, none⟩ u0).setCell ⟨Q, 1, none⟩ u1).setCell ⟨Q, 2, none⟩ u2) Q t #[u0, u1, u2] := heap_set (heap_set (heap_set h 0 u0) 1 u1) 2 u2
  exact ⟨b2, b2.cell 0, b2.cell 1, b2.cell 2⟩
theorem Box.three {w : World} {b : Nat} {t : TypeId} {v0 v1 v2 : Value} (h : Box w b t #[v0, v1, v2]) : b < w.heap.size ∧ w.cell? ⟨b, 0, none⟩ = some v0 ∧ w.cell? ⟨b, 1, none⟩ = some v1 ∧ w.cell? ⟨b, 2, none⟩ = some v2 ∧ w.frozen? ⟨b, 0, none⟩ = false ∧ w.frozen? ⟨b, 1, none⟩ = false ∧ w.frozen? ⟨b, 2, none⟩ = false :=
  ⟨h.lt, h.cell 0, h.cell 1, h.cell 2, h.frozen 0, h.frozen 1, h.frozen 2⟩

/-- What 'l11One' leaves: the announcement, its neighbours in new memory. -/
def OneZ (d : La) (w : World) (e : Ending) (w' : World) : Prop := ∃ z : Lz, e = .returned z.v ∧ z.d = d ∧ InnZ w' w.heap.size z ∧ Below w.heap.size w w'

set_option maxRecDepth 100000 in
set_option maxHeartbeats 1600000 in
theorem l11one_any (z : Lz) (w : World) (hm : z.es.length ≤ 2000000) (hS : Slb w w.heap.size z.A z.es) :
   Calls Try.prog 68 #[z.v] w (OneZ z.d w) := by
  obtain ⟨i0, hi, hz0, hz10, hz20⟩ := info_parts infoEnd
  obtain ⟨o, q, es, A, c, g⟩ := z
  dsimp only at *
  have B0 : Below w.heap.size w (((w.alloc (.cells #[.int .i64 o, .int .i64 q, .slice A es.length c] 54)).alloc (.cells #[.int .i64 0, .int .i64 0, .slice none 0 0] 54)).alloc (.cells #[] 56)) := by (repeat (first | exact Below.refl _ _ | (refine Below.alloc ?_ (by first | exact Nat.le_refl _ | omega | (simp; done) | (simp; omega)) _) | (refine Below.setCell ?_ (by first | exact Nat.le_refl _ | omega | (simp; done) | (simp; omega)) _) | exact Below.drew ‹_›))
  have HB := Lib.hid B0
  have HG := Lib.hid (((Box.new w 54 #[.int .i64 o, .int .i64 q, .slice A es.length c]).alloc (.cells #[.int .i64 0, .int .i64 0, .slice none 0 0] 54)).alloc (.cells #[] 56))
  have R0 := (Box.new (w.alloc (.cells #[.int .i64 o, .int .i64 q, .slice A es.length c] 54)) 54 #[.int .i64 0, .int .i64 0, .slice none 0 0]).alloc (.cells #[] 56)
  rw [World.size_alloc] at R0
  have HR := Lib.hid R0
  have E0 := Box.new ((w.alloc (.cells #[.int .i64 o, .int .i64 q, .slice A es.length c] 54)).alloc (.cells #[.int .i64 0, .int .i64 0, .slice none 0 0] 54)) 56 #[]
  rw [World.size_alloc, World.size_alloc] at E0
  have HE : Hid ((((w.alloc (.cells #[.int .i64 o, .int .i64 q, .slice A es.length c] 54)).alloc (.cells #[.int .i64 0, .int .i64 0, .slice none 0 0] 54)).alloc (.cells #[] 56)).ownsRow (w.heap.size + 2) 56 2 (.slice (some ⟨w.heap.size + 1 + 1, 0, none⟩) 0 0) 0 (flatB [])) :=
    Lib.hid ⟨by simp [flatB], .inr ⟨w.heap.size + 1 + 1, 0, #[], rfl, by omega, E0, Nat.le_refl _, by omega, rfl, by simp [flatB]⟩⟩
  have HS := Lib.hid (hS.below B0)
  clear hS R0 E0
  go_enter Try.func68, Try.ntmps68
  cases A with
  | none =>
    have he : es = [] := by
      cases es with
      | nil => rfl
      | cons x r => obtain ⟨_, _, h, _⟩ := HS.out 0 x rfl; cases h
    subst he
    clear HS HE
    go_wp2_with fail
    have R1 := (Box.new (w.alloc (.cells #[.int .i64 o, .int .i64 q, .slice (some ⟨w.heap.size + 1 + 1, 0, none⟩) 0 0] 54)) 54 #[.int .i64 o, .int .i64 q, .slice (some ⟨w.heap.size + 1 + 1, 0, none⟩) 0 0]).alloc (.cells #[] 56)
    rw [World.size_alloc] at R1
    have r0 := R1.cell 0
    have r1 := R1.cell 1
    have r2 := R1.cell 2
    refine bodyPost_ret (v := (⟨o, q, [], some ⟨w.heap.size + 1 + 1, 0, none⟩, 0, w.heap.size + 1 + 1⟩ : Lz).v) (by simp [results, Try.results68, go_sem, r0, r1, r2]) rfl ?_
    exact ⟨_, rfl, rfl, ⟨fun h => absurd h (by simp), by show w.heap.size ≤ w.heap.size + 1 + 1; omega, Nat.le_refl _⟩, by (repeat (first | exact Below.refl _ _ | (refine Below.alloc ?_ (by first | exact Nat.le_refl _ | omega | (simp; done) | (simp; omega)) _) | (refine Below.setCell ?_ (by first | exact Nat.le_refl _ | omega | (simp; done) | (simp; omega)) _) | exact Below.drew ‹_›))⟩
  | some ad =>
    have HN : Hid (∀ j u, (flatB es)[j]? = some u → (((w.alloc (.cells #[.int .i64 o, .int .i64 q, .slice (some ad) es.length c] 54)).alloc (.cells #[.int .i64 0, .int .i64 0, .slice none 0 0] 54)).alloc (.cells #[] 56)).cell? (ad.add j) = some u) := Lib.hid (fun j u h => by
      cases es with
      | nil => simp [flatB] at h
      | cons x r =>
        obtain ⟨b, off, e, _⟩ := HS.out 0 x rfl
        cases e
        exact HS.out.flat j u h)
    go_wp2_with (at_builtin; refine wpList_append_own_at _ rfl _ _ 52 rfl (w.heap.size + 2) 56 i0 _ 2 16 Try.underlying52 hi hz0 hz10 hz20 rfl (by decide) _ 0 (flatB []) rfl HE.out ad es.length c (flatB es) rfl (by rw [flatB_len]) HN.out (flatB_one es) (by unfold maxLen; omega) (by omega) (by simp) ?_; intro v' w3 hown' hgrow hnil hat; have ho3 := own_slicee (ls := es) (by rw [Nat.zero_add] at hown'; exact hown') (by have := hgrow.size; simp at this; omega); obtain ⟨A', g', c', rfl, hg', -, ho', hc'⟩ := ho3; have G3 := Lib.hid (HG.out.grown (show (((w.alloc (.cells #[.int .i64 o, .int .i64 q, .slice (some ad) es.length c] 54)).alloc (.cells #[.int .i64 0, .int .i64 0, .slice none 0 0] 54)).alloc (.cells #[] 56)).grownBy w3 (some (w.heap.size + 1 + 1)) from hgrow) (by omega)); have R3 := Lib.hid (HR.out.grown (show (((w.alloc (.cells #[.int .i64 o, .int .i64 q, .slice (some ad) es.length c] 54)).alloc (.cells #[.int .i64 0, .int .i64 0, .slice none 0 0] 54)).alloc (.cells #[] 56)).grownBy w3 (some (w.heap.size + 1 + 1)) from hgrow) (by omega)); have O3 := Lib.hid ho'; have B3 := Lib.hid (HB.out.grown (show (((w.alloc (.cells #[.int .i64 o, .int .i64 q, .slice (some ad) es.length c] 54)).alloc (.cells #[.int .i64 0, .int .i64 0, .slice none 0 0] 54)).alloc (.cells #[] 56)).grownBy w3 (some (w.heap.size + 1 + 1)) from hgrow) (by simp; omega) (fun j e => by cases e; omega)); obtain ⟨zg, p0, p1, p2, f0, f1, f2⟩ := G3.out.three; obtain ⟨zr, r0, r1, r2, t0, t1, t2⟩ := R3.out.three; clear hown' hgrow hnil hat ho' HB HG HR HE HS)
    obtain ⟨b3, x0, x1, x2⟩ := ret_three (w := w3.setCell ⟨w.heap.size, 2, none⟩ (.slice A' es.length c')) (Q := w.heap.size + 1) (t := 54) (v0 := .int .i64 0) (v1 := .int .i64 0) (v2 := .slice none 0 0) ((Below.heap_setCell w3 ⟨w.heap.size, 2, none⟩ _ (w.heap.size + 1) (by simp)).trans R3.out) (.int .i64 o) (.int .i64 q) (.slice A' es.length c')
    refine bodyPost_ret (v := (⟨o, q, es, A', c', g'⟩ : Lz).v) (by simp [results, Try.results68, go_sem, x0, x1, x2]) rfl ?_
    refine ⟨_, rfl, rfl, ⟨((((O3.out.set_far ?_ _).set_far ?_ _).set_far ?_ _).set_far ?_ _), ?_, hc'⟩, ?_⟩
    · show g' ≠ w.heap.size; omega
    · show g' ≠ w.heap.size + 1; omega
    · show g' ≠ w.heap.size + 1; omega
    · show g' ≠ w.heap.size + 1; omega
    · show w.heap.size ≤ g'; omega
    · exact (((B3.out.setCell (p := ⟨w.heap.size, 2, none⟩) (Nat.le_refl _) _).setCell (p := ⟨w.heap.size + 1, 0, none⟩) (Nat.le_succ _) _).setCell (p := ⟨w.heap.size + 1, 1, none⟩) (Nat.le_succ _) _).setCell (p := ⟨w.heap.size + 1, 2, none⟩) (Nat.le_succ _) _

/-- Announcements in memory of the call's own. -/
def NewZ (ds : List La) (w : World) (e : Ending) (w' : World) : Prop :=
  ∃ (zs : List Lz) (A : Option Addr) (c : Nat), e = .returned (.slice A zs.length c) ∧ datL zs = ds ∧ ZI w.heap.size (.slice A zs.length c) zs w' ∧ Below w.heap.size w w'
theorem InnZ.weak {W : World} {B B' : Nat} {z : Lz} (h : InnZ W B z) (hb : B' ≤ B) : InnZ W B' z := ⟨h.1, Nat.le_trans hb h.2.1, h.2.2⟩
/-- One more announcement, whose neighbours are newer than the row. -/
theorem ZI.more {B : Nat} {v : Value} {zs : List Lz} {W W4 W' : World} (h : ZI B v zs W) (hb : Below W.heap.size W W4) (hB : B ≤ W.heap.size) {z : Lz} {v' : Value} {o : Obj} (hz : InnZ W4 W.heap.size z)
    (hown : W'.ownsRow B 54 3 v' (zs.length + 1) (flatZ zs ++ [.int .i64 z.o, .int .i64 z.q, .slice z.A z.es.length z.c])) (hg : (W4.alloc o).grownBy W' v.ownBlock) : ZI B v' (zs ++ [z]) W' :=
  (h.call hb).append (hz.weak hB) (fun x hx h1 _ => by have := h.lt hx h1; have := hz.2.1; omega) hown hg
theorem ZI.start (B : Nat) (w : World) (h : B ≤ w.heap.size) : ZI B (.slice (some ⟨w.heap.size, 0, none⟩) 0 0) [] (w.alloc (.cells #[] 54)) :=
  ⟨⟨by simp [flatZ], .inr ⟨w.heap.size, 0, #[], rfl, h, Box.new w 54 #[], Nat.le_refl _, by omega, rfl, by simp [flatZ]⟩⟩, fun z hz => by simp at hz, .nil⟩
theorem datL_next {zs : List Lz} {k : Nat} {z : Lz} (h : zs[k]? = some z) : (datL zs).take (k + 1) = (datL zs).take k ++ [z.d] := by
  rw [List.take_add_one]
  unfold datL
  rw [List.getElem?_map, h]
  rfl

set_option maxRecDepth 100000 in
set_option maxHeartbeats 1600000 in
theorem l11copy_any (A : Option Addr) (zs : List Lz) (c : Nat) (w : World) (hm : zs.length ≤ 2000000) (hes : ∀ z ∈ zs, z.es.length ≤ 2000000) (hS : Slz w w.heap.size A zs) :
   Calls Try.prog 39 #[.slice A zs.length c] w (NewZ (datL zs) w) := by
  obtain ⟨i0, hi, hz0, hz10, hz20⟩ := info_parts infoLsa
  have HS := Lib.hid hS
  have HES := Lib.hid hes
  have Z0 := Lib.hid (ZI.start w.heap.size w (Nat.le_refl _))
  have B0 := Lib.hid (show Below w.heap.size w (w.alloc (.cells #[] 54)) by (repeat (first | exact Below.refl _ _ | (refine Below.alloc ?_ (by first | exact Nat.le_refl _ | omega | (simp; done) | (simp; omega)) _) | (refine Below.setCell ?_ (by first | exact Nat.le_refl _ | omega | (simp; done) | (simp; omega)) _) | exact Below.drew ‹_›)))
  clear hS hes
  go_enter Try.func39, Try.ntmps39
  go_wp2_with fail
  go_loopw [3, 4] (fun v i wr => ∃ (k : Nat) (ys : List Lz), k ≤ zs.length ∧ i = .int .i64 (k : Int) ∧ Hid (datL ys = (datL zs).take k) ∧ ys.length ≤ k ∧ ZI w.heap.size v ys wr ∧ Below w.heap.size w wr) (fun _ i _ => zs.length - (intOf i).toNat)
  case atStart => exact ⟨0, [], Nat.zero_le _, rfl, Lib.hid rfl, Nat.le_refl _, Z0.out, B0.out⟩
  case round =>
    obtain ⟨k, ys, hk, rfl, HD, hyk, hzi, hb⟩ := hrel
    have Z1 := Lib.hid hzi
    have B1 := Lib.hid hb
    obtain ⟨A9, g9, c9, rfl, hg9, -, hc9, -, -⟩ := own_slicez hzi.row hb.size
    clear hzi Z0 B0
    by_cases hlt : k < zs.length
    · obtain ⟨x, hx⟩ : ∃ x, zs[k]? = some x := ⟨_, List.getElem?_eq_getElem hlt⟩
      obtain ⟨b, off, rfl, hbb, hc1, hc2, hc3, hin⟩ := (HS.out.below hb) k x hx
      have hxl := HES.out x (List.mem_of_getElem? hx)
      have hz := hb.size
      have z1 : b < wr.heap.size := by omega
      have CO := l11one_any x wr hxl (hin.more hz)
      have HDN := Lib.hid (datL_next hx)
      obtain ⟨zo, zq, zes, zA, zc, zg⟩ := x
      dsimp only at hc1 hc2 hc3 hxl
      clear hx hb hin
      go_wp2_with fail
      refine CO.mono ?_
      clear CO
      rintro e w4 ⟨z, rfl, hd, hinn, hb4⟩
      have B4 := Lib.hid (B1.out.trans (hb4.mono hz))
      have HB4 := Lib.hid hb4
      have HI := Lib.hid hinn
      have HDD := Lib.hid hd
      have hz4 := B4.out.size
      clear hb4 hinn hd hc1 hc2 hc3
      obtain ⟨yo, yq, yes, yA, yc, yg⟩ := z
      go_wp2_with (at_builtin; refine wpList_append_own_at _ rfl _ _ 29 rfl w.heap.size 54 i0 _ 3 40 Try.underlying29 hi hz0 hz10 hz20 rfl (by decide) _ ys.length _ rfl (owns_kept (owns_kept Z1.out.row HB4.out) ((Below.refl _ _).alloc (Nat.le_refl _) _)) ⟨w4.heap.size, 0, none⟩ 1 1 [.int .i64 yo, .int .i64 yq, .slice yA yes.length yc] rfl rfl (new3z _ _ _ _ _) (one3z _ _ _ rfl rfl rfl) (by unfold maxLen; omega) (by omega) (by simp; omega) ?_; intro v' w5 hown' hgrow hnil hat; have Z5 := Lib.hid (Z1.out.more HB4.out hz HI.out hown' hgrow); have B5 := Lib.hid ((B4.out.alloc hz4 (.cells #[.int .i64 yo, .int .i64 yq, .slice yA yes.length yc] 54)).grown hgrow (by simp; omega) (fun j e => (Z1.out.row.lt j e).1)); clear hown' hgrow hnil hat)
      go_roundw
      case rel => exact ⟨k + 1, ys ++ [⟨yo, yq, yes, yA, yc, yg⟩], hlt, by go_num, Lib.hid (by rw [HDN.out, ← HD.out, ← HDD.out]; simp [datL]), by simp; omega, Z5.out, B5.out⟩
      case measure => simp [intOf]; omega
    · obtain rfl : k = zs.length := by omega
      clear hb
      go_wp2_with fail
      go_ret
      exact ⟨ys, A9, c9, rfl, by rw [HD.out, show zs.length = (datL zs).length by simp [datL], List.take_length], Z1.out, B1.out⟩

end Go.Proofs.Ytnkohgdfipgdoab
