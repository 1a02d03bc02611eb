/-
  Contracts over this seat: the specification's GraphWithout; both graphs are the same.
-/
import Derived.Test.YtkcnbgimdiggoabA7
import Derived.Deep.RegionHeld3
import Derived.Deep.AppendLies
import Derived.Deep.DeepCutAuto
namespace Go.Proofs.Ytkcnbgimdiggoab
open Go.RowKit

theorem step_append_own {P : Program} (w : World) {ops : Array Oper} {o : Oper} {a : Act} {K : Act → World → Prop} {Q : Exit → Act → World → Prop} {E : Prop} (hgd : o.guard = none) (s x : Operand) (t : TypeId)
    (ho : o.op = .call { callee := .builtin .append, args := #[s, x], argTypes := #[t, t] })
    (base : Nat) (e : TypeId) (i : TypeInfo) (z : Value) (size bytes : Nat) (ht : P.underlying t = some (.slice e)) (hi : P.info? e = some i) (hz : i.zero = some z)
    (hsize : i.size = size) (hby : i.bytes = bytes) (hzs : z.cells.size = size) (hsz : 0 < size)
    (v : Value) (n : Nat) (xs : List Value) (hs : a.eval s = v) (hown : w.ownsRow base e size v n xs)
    (ad : Addr) (m c : Nat) (news : List Value) (hx : a.eval x = .slice (some ad) m c) (hl : news.length = m * size) (hnews : ∀ j u, news[j]? = some u → w.cell? (ad.add j) = some u) (h1 : ∀ u ∈ news, u.oneCell' = true)
    (h63 : n + m ≤ maxLen) (hbytes : (n + m) * bytes ≤ 140737488355328) (hbase : base ≤ w.heap.size)
    (h : ∀ v' w', w'.ownsRow base e size v' (n + m) (xs ++ news) → w.grownBy w' v.ownBlock → (v' = .slice none 0 0 ↔ v = .slice none 0 0 ∧ m = 0) → K (a.put o.dst v') w') :
    if Region.wanted o (yielded ops a.tmps) = true then Oper.wp P o a w K Q else E := by
  have hw : Region.wanted o (yielded ops a.tmps) = true := by simp [Region.wanted, hgd]
  rw [if_pos hw]
  exact wp_append_own w s x t ho base e i z size bytes ht hi hz hsize hby hzs hsz v n xs hs hown ad m c news hx hl hnews h1 h63 hbytes hbase h

set_option maxRecDepth 100000 in
set_option maxHeartbeats 2000000 in
theorem l1Without_any (n : Int) (g : Nat) (ls : List Lk) (c : Nat) (k : Nat) (w : World) (hm : ls.length ≤ 2000000) (hlc : ls.length ≤ c) (hk : k < ls.length) (h : Sl w w.heap.size (some ⟨g, 0, none⟩) ls) :
   Calls Try.prog 90 #[gval n (some ⟨g, 0, none⟩) ls.length c, .int .i64 k] w (NewG n (ls.take k ++ ls.drop (k + 1)) w) := by
  obtain ⟨i0, hi, hz0, hz1, hz2⟩ := info_parts infoLink
  have H := Lib.hid h
  clear h
  generalize hrs : ls.take k ++ ls.drop (k + 1) = rs
  have HRS := Lib.hid hrs
  clear hrs
  have hL := (Box.new (w.alloc (.cells #[.int .i64 n, .slice (some ⟨g, 0, none⟩) ls.length c] 25)) 25 #[.int .i64 0, .slice none 0 0])
  have hK := (Box.new w 25 #[.int .i64 n, .slice (some ⟨g, 0, none⟩) ls.length c]).alloc (.cells #[.int .i64 0, .slice none 0 0] 25)
  simp only [World.size_alloc] at hL
  have HL := Lib.hid hL
  have HK := Lib.hid hK
  clear hL hK
  go_enter Try.func90, Try.ntmps90
  go_wp2_with fail
  generalize hW0 : (w.alloc (.cells #[.int .i64 n, .slice (some ⟨g, 0, none⟩) ls.length c] 25)).alloc (.cells #[.int .i64 0, .slice none 0 0] 25) = W0 at HK HL ⊢
  have hs0 : W0.heap.size = w.heap.size + 2 := by rw [← hW0]; simp
  have B0 : Below w.heap.size w W0 := by rw [← hW0]; (repeat (first | exact Below.refl _ _ | (refine Below.alloc ?_ (by first | exact Nat.le_refl _ | omega | (simp; done) | (simp; omega)) _) | (refine Below.setCell ?_ (by first | exact Nat.le_refl _ | omega | (simp; done) | (simp; omega)) _) | exact Below.drew ‹_›))
  have HS := Lib.hid (H.out.below B0)
  have HB0 := Lib.hid B0
  clear hW0 B0 H
  obtain ⟨zk, f0, f1, r0, r1⟩ := HK.out.two
  obtain ⟨zl, h0, h1, s0, s1⟩ := HL.out.two
  have hkc : k ≤ c := by omega
  have hwr : IntKind.i64.wrap ((k : Int) + 1) = ((k + 1 : Nat) : Int) := by simp [IntKind.wrap, IntKind.bits, IntKind.signed]; omega
  have hM := World.ownsRow_made (base := w.heap.size + 2) (e := 68) (size := 3) W0 #[] 0 (by omega) (by unfold maxLen; omega) rfl
  rw [hs0] at hM
  have HM := Lib.hid hM
  have HT := Lib.hid (((HS.out.take k).below ((Below.refl w.heap.size W0).alloc (by omega) (.cells #[] 68))).flat)
  clear hM
  have hk0 : (0 : Int) ≤ (k : Int) + 1 := by omega
  have hk1 : (k : Int) + 1 ≤ (ls.length : Int) := by omega
  have HDl := Lib.hid (show Sl W0 w.heap.size (some ⟨g, (k + 1) * 3, none⟩) (ls.drop (k + 1)) by have := HS.out.drop (k + 1); rwa [Nat.zero_add] at this)
  by_cases hcap : c = k + 1
  · subst hcap
    have hkk : (k : Int) ≤ (k : Int) + 1 := by omega
    go_region_law (first
      | (refine step_append_own _ rfl _ _ 23 rfl (w.heap.size + 2) 68 i0 _ 3 24 Try.underlying23 hi hz0 hz1 hz2 rfl (by decide) _ 0 [] rfl HM.out ⟨g, 0, none⟩ k (k + 1) (flat (ls.take k)) rfl (by rw [flat_len, List.length_take]; congr 1; omega) HT.out (flat_one _) (by unfold maxLen; omega) (by omega) (by simp; omega) ?_; intro v1 w1 hown1 hgrow1 _; have O1 := Lib.hid hown1; have B1 := Lib.hid (Below.grown (B := w.heap.size + 2) ((Below.refl (w.heap.size + 2) W0).alloc (by omega) (.cells #[] 68)) (show (W0.alloc (.cells #[] 68)).grownBy w1 (some (w.heap.size + 2)) from ⟨hgrow1.os, hgrow1.tape, hgrow1.output, hgrow1.size, hgrow1.block⟩) (by simp; omega) (fun j e => by cases e; omega)); clear hown1 hgrow1; have K1 := Lib.hid (HK.out.below B1.out (by omega)); obtain ⟨zk1, k0, k1, t0, t1⟩ := K1.out.two)
      | (refine step_append_own _ rfl _ _ 23 rfl (w.heap.size + 2) 68 i0 _ 3 24 Try.underlying23 hi hz0 hz1 hz2 rfl (by decide) v1 (0 + k) ([] ++ flat (ls.take k)) rfl O1.out ⟨g, 0, none⟩ 0 0 (flat (ls.drop (k + 1))) rfl (by rw [List.drop_eq_nil_of_le (by omega)]; rfl) (by rw [List.drop_eq_nil_of_le (by omega)]; intro j u h; simp [flat] at h) (flat_one _) (by unfold maxLen; omega) (by omega) (by have := B1.out.size; omega) ?_; intro v2 w2 hown2 hgrow2 _; have hl1 := O1.out.lt; have B2 := Lib.hid (B1.out.grown hgrow2 (by have := B1.out.size; omega) (fun j e => (hl1 j e).1)); rw [List.nil_append, ← flat_append, HRS.out] at hown2; obtain ⟨A', g', c', rfl, hg', hlen, ho⟩ := own_slice hown2 (by have := B2.out.size; omega); have HO := Lib.hid ho; clear hown2 hgrow2 hl1 ho hlen; have K2 := Lib.hid (HK.out.below B2.out (by omega)); have L2 := Lib.hid (HL.out.below B2.out (by omega)); obtain ⟨zk2, m0, m1, u0, u1⟩ := K2.out.two; obtain ⟨zl2, l0, l1, x0, x1⟩ := L2.out.two))
    all_goals
      go_wp2_with fail
      have b2 := L2.out.below ((Below.refl (w.heap.size + 1 + 1) w2).mono (Nat.le_refl _)) (by omega)
      have b3 : Box (((w2.setCell ⟨w.heap.size, 1, none⟩ (.slice A' rs.length c')).setCell ⟨w.heap.size + 1, 0, none⟩ (.int .i64 n)).setCell ⟨w.heap.size + 1, 1, none⟩ (.slice A' rs.length c')) (w.heap.size + 1) 25 #[.int .i64 n, .slice A' rs.length c'] :=
        heap_set (heap_set ((Below.heap_setCell w2 ⟨w.heap.size, 1, none⟩ _ (w.heap.size + 1) (by simp)).trans b2) 0 (.int .i64 n)) 1 _
      have y0 := b3.cell 0
      have y1 := b3.cell 1
      refine bodyPost_ret (v := gval n A' rs.length c') (by simp [results, Try.results90, go_sem, y0, y1]) rfl ⟨A', g', c', rfl, by omega, ?_, ?_⟩
      · exact ((HO.out.set_far (by dsimp only; omega) _).set_far (by dsimp only; omega) _).set_far (by dsimp only; omega) _
      · exact (((HB0.out.trans (B2.out.mono (by omega))).setCell (by simp) _).setCell (by simp) _).setCell (by simp) _
  · have hcap' : ¬ (c : Nat) = k + 1 := hcap
    go_region_law (first
      | (refine step_append_own _ rfl _ _ 23 rfl (w.heap.size + 2) 68 i0 _ 3 24 Try.underlying23 hi hz0 hz1 hz2 rfl (by decide) _ 0 [] rfl HM.out ⟨g, 0, none⟩ k c (flat (ls.take k)) rfl (by rw [flat_len, List.length_take]; congr 1; omega) HT.out (flat_one _) (by unfold maxLen; omega) (by omega) (by simp; omega) ?_; intro v1 w1 hown1 hgrow1 _; have O1 := Lib.hid hown1; have B1 := Lib.hid (Below.grown (B := w.heap.size + 2) ((Below.refl (w.heap.size + 2) W0).alloc (by omega) (.cells #[] 68)) (show (W0.alloc (.cells #[] 68)).grownBy w1 (some (w.heap.size + 2)) from ⟨hgrow1.os, hgrow1.tape, hgrow1.output, hgrow1.size, hgrow1.block⟩) (by simp; omega) (fun j e => by cases e; omega)); clear hown1 hgrow1; have K1 := Lib.hid (HK.out.below B1.out (by omega)); obtain ⟨zk1, k0, k1, t0, t1⟩ := K1.out.two)
      | (refine step_append_own _ rfl _ _ 23 rfl (w.heap.size + 2) 68 i0 _ 3 24 Try.underlying23 hi hz0 hz1 hz2 rfl (by decide) v1 (0 + k) ([] ++ flat (ls.take k)) rfl O1.out ⟨g, (k + 1) * 3, none⟩ (ls.length - (k + 1)) (c - (k + 1)) (flat (ls.drop (k + 1))) rfl (by rw [flat_len, List.length_drop]) ((HDl.out.below (B1.out.mono (by omega))).flat) (flat_one _) (by unfold maxLen; omega) (by omega) (by have := B1.out.size; omega) ?_; intro v2 w2 hown2 hgrow2 _; have hl1 := O1.out.lt; have B2 := Lib.hid (B1.out.grown hgrow2 (by have := B1.out.size; omega) (fun j e => (hl1 j e).1)); rw [List.nil_append, ← flat_append, HRS.out] at hown2; obtain ⟨A', g', c', rfl, hg', hlen, ho⟩ := own_slice hown2 (by have := B2.out.size; omega); have HO := Lib.hid ho; clear hown2 hgrow2 hl1 ho hlen; have K2 := Lib.hid (HK.out.below B2.out (by omega)); have L2 := Lib.hid (HL.out.below B2.out (by omega)); obtain ⟨zk2, m0, m1, u0, u1⟩ := K2.out.two; obtain ⟨zl2, l0, l1, x0, x1⟩ := L2.out.two))
    all_goals
      go_wp2_with fail
      have b2 := L2.out.below ((Below.refl (w.heap.size + 1 + 1) w2).mono (Nat.le_refl _)) (by omega)
      have b3 : Box (((w2.setCell ⟨w.heap.size, 1, none⟩ (.slice A' rs.length c')).setCell ⟨w.heap.size + 1, 0, none⟩ (.int .i64 n)).setCell ⟨w.heap.size + 1, 1, none⟩ (.slice A' rs.length c')) (w.heap.size + 1) 25 #[.int .i64 n, .slice A' rs.length c'] :=
        heap_set (heap_set ((Below.heap_setCell w2 ⟨w.heap.size, 1, none⟩ _ (w.heap.size + 1) (by simp)).trans b2) 0 (.int .i64 n)) 1 _
      have y0 := b3.cell 0
      have y1 := b3.cell 1
      refine bodyPost_ret (v := gval n A' rs.length c') (by simp [results, Try.results90, go_sem, y0, y1]) rfl ⟨A', g', c', rfl, by omega, ?_, ?_⟩
      · exact ((HO.out.set_far (by dsimp only; omega) _).set_far (by dsimp only; omega) _).set_far (by dsimp only; omega) _
      · exact (((HB0.out.trans (B2.out.mono (by omega))).setCell (by simp) _).setCell (by simp) _).setCell (by simp) _
end Go.Proofs.Ytkcnbgimdiggoab
