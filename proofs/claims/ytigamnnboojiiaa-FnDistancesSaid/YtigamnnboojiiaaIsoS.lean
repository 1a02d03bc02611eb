/-
  Contracts over this seat: the specification's GraphIsolate.
-/
import Derived.Test.YtigamnnboojiiaaKeep
namespace Go.Proofs.Ytigamnnboojiiaa
open Go.RowKit

theorem own_box_ne2 {w : World} {base e size n : Nat} {v : Value} {xs : List Value} {g t : Nat} {cs : Array Value} (h : w.ownsRow base e size v n xs) (hg : Box w g t cs) (hne : e ≠ t) : v.ownBlock ≠ some g := by
  rcases h.2 with ⟨rfl, _⟩ | ⟨g', cap, cur, rfl, _, hh, _⟩
  · simp [Value.ownBlock]
  · intro he
    have : g' = g := by simpa [Value.ownBlock] using he
    subst this
    unfold Box at hg
    rw [hh] at hg
    injection hg with hg
    injection hg with _ ht
    exact hne ht

theorem l1Node_any (n : Int) (v : Value) (x : Int) (w : World) (hn1 : 1 ≤ n) (hn8 : n ≤ 8) :
   Calls Try.prog 38 #[.agg #[.int .i64 n, v], .int .i64 x] w fun e w' => e = .returned (.bool (inB x 0 (n - 1))) ∧ Below w.heap.size w w' := by
  go_enter Try.func38, Try.ntmps38
  go_wp2_with (go_at_call 54; refine (l6In_any _ _ _ _).mono ?_; rintro e w' ⟨rfl, rfl⟩)
  go_ret
  exact ⟨rfl, by (repeat (first | exact Below.refl _ _ | (refine Below.alloc ?_ (by first | exact Nat.le_refl _ | omega | (simp; done) | (simp; omega)) _) | (refine Below.setCell ?_ (by first | exact Nat.le_refl _ | omega | (simp; done) | (simp; omega)) _) | exact Below.drew ‹_›))⟩

theorem gvB_n {n : Int} {ls : List Lk} (h : gvB n ls = true) : 1 ≤ n ∧ n ≤ 8 ∧ ls.length ≤ 14 := by
  unfold gvB inB at h
  simp at h
  omega

/-- The state while the graph is filled: the argument's box, the result's, the new graph's box and its row. -/
def IS (w : World) (b0 : Nat) (n : Int) (A : Option Addr) (len c : Nat) (ks : List Lk) (v : Value) (wx : World) : Prop :=
  Box wx w.heap.size 30 #[.int .i64 n, .slice A len c] ∧ Box wx (w.heap.size + 1) 30 #[.int .i64 0, .slice none 0 0] ∧ Box wx (b0 + 1) 30 #[.int .i64 n, v] ∧
  wx.ownsRow b0 47 3 v ks.length (flat ks) ∧ Below w.heap.size w wx ∧ w.heap.size + 1 < b0 ∧ b0 ≤ wx.heap.size
theorem IS.drew {w wx : World} {b0 : Nat} {n : Int} {A : Option Addr} {len c : Nat} {ks : List Lk} {v : Value} (h : IS w b0 n A len c ks v wx) : IS w b0 n A len c ks v wx.drew :=
  ⟨h.1, h.2.1, h.2.2.1, h.2.2.2.1, h.2.2.2.2.1.drew, h.2.2.2.2.2⟩
theorem IS.stored {w wx w8 : World} {b0 : Nat} {n : Int} {A : Option Addr} {len c : Nat} {ks : List Lk} {v v' : Value} {o : Obj} {x y z : Int} (h : IS w b0 n A len c ks v wx)
    (hown : w8.ownsRow b0 47 3 v' (ks.length + 1) (flat ks ++ [.int .i64 x, .int .i64 y, .int .i64 z])) (hg : (wx.alloc o).grownBy w8 v.ownBlock) :
    Box w8 (b0 + 1) 30 #[.int .i64 n, v] ∧ IS w b0 n A len c (ks ++ [⟨x, y, z⟩]) v' (w8.setCell ⟨b0 + 1, 1, none⟩ v') := by
  obtain ⟨h1, h2, h3, h4, h5, h6, h7⟩ := h
  have hbase := h4.lt
  have k1 : Box w8 w.heap.size 30 #[.int .i64 n, .slice A len c] := (hg.block _ (by have := h1.lt; simp; omega) (fun e => own_box_ne2 h4 h1 (by decide) e.symm)).trans (h1.alloc o)
  have k2 : Box w8 (w.heap.size + 1) 30 #[.int .i64 0, .slice none 0 0] := (hg.block _ (by have := h2.lt; simp; omega) (fun e => own_box_ne2 h4 h2 (by decide) e.symm)).trans (h2.alloc o)
  have k3 : Box w8 (b0 + 1) 30 #[.int .i64 n, v] := (hg.block _ (by have := h3.lt; simp; omega) (fun e => own_box_ne2 h4 h3 (by decide) e.symm)).trans (h3.alloc o)
  refine ⟨k3, (Below.heap_setCell w8 ⟨b0 + 1, 1, none⟩ _ _ (by dsimp only; omega)).trans k1, (Below.heap_setCell w8 ⟨b0 + 1, 1, none⟩ _ _ (by dsimp only; omega)).trans k2, heap_set k3 1 _, ?_, ?_, h6, ?_⟩
  · have hk := hown.kept (grown_set (World.grownBy.refl w8 (some (b0 + 1))) 1 v') (.inr (own_box_ne2 hown k3 (by decide)))
    rw [flat_append, List.length_append]
    exact hk
  · exact ((h5.alloc (by omega) o).grown hg (by simp; omega) (fun j e => by have := (hbase j e).1; omega)).setCell (by dsimp only; omega) _
  · have := hg.size; simp at this ⊢; omega

set_option maxRecDepth 100000 in
set_option maxHeartbeats 2000000 in
theorem isolate_spec (n : Int) (g : Nat) (ls : List Lk) (c : Nat) (x : Int) (w : World) (hm : ls.length ≤ 2000000) (hnu : n ≤ 9223372036854775807) (h : Sl w w.heap.size (some ⟨g, 0, none⟩) ls) :
   Calls Try.prog 31 #[gval n (some ⟨g, 0, none⟩) ls.length c, .int .i64 x] w
     (if isolateOk n ls x = true then GRes n (keepTo (fun _ l => !decide (l.a = x) && !decide (l.b = x)) ls ls.length) true w else GRes 0 [] false w) := by
  obtain ⟨i0, hi, hz0, hz1, hz2⟩ := info_parts infoLink
  have H := Lib.hid h
  have hK := (Box.new w 30 #[.int .i64 n, .slice (some ⟨g, 0, none⟩) ls.length c]).alloc (.cells #[.int .i64 0, .slice none 0 0] 30)
  have hL := Box.new (w.alloc (.cells #[.int .i64 n, .slice (some ⟨g, 0, none⟩) ls.length c] 30)) 30 #[.int .i64 0, .slice none 0 0]
  simp only [World.size_alloc] at hL
  have HK := Lib.hid hK
  have HL := Lib.hid hL
  clear h hK hL
  cases hv : gvB n ls with
  | false =>
    have hok : isolateOk n ls x = false := by unfold isolateOk; rw [hv]; rfl
    rw [if_neg (by rw [hok]; exact Bool.false_ne_true)]
    have C1 : ∀ W : World, Sl W W.heap.size (some ⟨g, 0, none⟩) ls → Calls Try.prog 37 #[gval n (some ⟨g, 0, none⟩) ls.length c] W fun e w' => e = .returned (.bool false) ∧ Below W.heap.size W w' := fun W hW => by
      have := valid_spec_any n _ ls c W hm hnu hW
      rwa [hv] at this
    clear hv hok
    go_enter Try.func31, Try.ntmps31
    go_wp2_with (go_at_call 37; refine (C1 _ ((H.out.below (by (repeat (first | exact Below.refl _ _ | (refine Below.alloc ?_ (by first | exact Nat.le_refl _ | omega | (simp; done) | (simp; omega)) _) | (refine Below.setCell ?_ (by first | exact Nat.le_refl _ | omega | (simp; done) | (simp; omega)) _) | exact Below.drew ‹_›)))).more (by simp; omega))).mono ?_; rintro e w1 ⟨rfl, hb1⟩; have L1 := HL.out.below hb1 (by simp); have B1 := Lib.hid (Below.trans (B := w.heap.size) (a := w) (by (repeat (first | exact Below.refl _ _ | (refine Below.alloc ?_ (by first | exact Nat.le_refl _ | omega | (simp; done) | (simp; omega)) _) | (refine Below.setCell ?_ (by first | exact Nat.le_refl _ | omega | (simp; done) | (simp; omega)) _) | exact Below.drew ‹_›))) (hb1.mono (by simp; omega))); clear hb1; obtain ⟨z11, f10, f11, q10, q11⟩ := L1.two)
    refine bodyPost_ret (v := .tuple #[gval 0 none 0 0, .bool false]) (by simp [results, Try.results31, go_sem, f10, f11]) rfl ⟨none, w.heap.size, 0, rfl, Nat.le_refl _, fun h => absurd h (by simp), ?_⟩
    exact (B1.out.setCell (by simp) _).setCell (by simp) _
  | true =>
    obtain ⟨hn1, hn8, hl14⟩ := gvB_n hv
    have C1 : ∀ W : World, Sl W W.heap.size (some ⟨g, 0, none⟩) ls → Calls Try.prog 37 #[gval n (some ⟨g, 0, none⟩) ls.length c] W fun e w' => e = .returned (.bool true) ∧ Below W.heap.size W w' := fun W hW => by
      have := valid_spec_any n _ ls c W hm hnu hW
      rwa [hv] at this
    cases hx : inB x 0 (n - 1) with
    | false =>
      have hok : isolateOk n ls x = false := by unfold isolateOk; rw [hx]; simp
      rw [if_neg (by rw [hok]; exact Bool.false_ne_true)]
      have C2 : ∀ W : World, Calls Try.prog 38 #[gval n (some ⟨g, 0, none⟩) ls.length c, .int .i64 x] W fun e w' => e = .returned (.bool false) ∧ Below W.heap.size W w' := fun W => by
        have := l1Node_any n (.slice (some ⟨g, 0, none⟩) ls.length c) x W hn1 hn8
        rwa [hx] at this
      clear hv hx hok
      go_enter Try.func31, Try.ntmps31
      go_wp2_with (first
        | (go_at_call 37; refine (C1 _ ((H.out.below (by (repeat (first | exact Below.refl _ _ | (refine Below.alloc ?_ (by first | exact Nat.le_refl _ | omega | (simp; done) | (simp; omega)) _) | (refine Below.setCell ?_ (by first | exact Nat.le_refl _ | omega | (simp; done) | (simp; omega)) _) | exact Below.drew ‹_›)))).more (by simp; omega))).mono ?_; rintro e w1 ⟨rfl, hb1⟩; have L1 := Lib.hid (HL.out.below hb1 (by simp)); have K1 := HK.out.below hb1 (by simp; omega); have B1 := Lib.hid (Below.trans (B := w.heap.size) (a := w) (by (repeat (first | exact Below.refl _ _ | (refine Below.alloc ?_ (by first | exact Nat.le_refl _ | omega | (simp; done) | (simp; omega)) _) | (refine Below.setCell ?_ (by first | exact Nat.le_refl _ | omega | (simp; done) | (simp; omega)) _) | exact Below.drew ‹_›))) (hb1.mono (by simp; omega))); clear hb1; have z10 := K1.lt; have e10 := K1.cell 0; have e11 := K1.cell 1)
        | (go_at_call 38; refine (C2 _).mono ?_; rintro e w2 ⟨rfl, hb2⟩; have L2 := L1.out.below hb2 L1.out.lt; have B2 := Lib.hid (B1.out.trans (hb2.mono (Nat.le_of_lt z10))); clear hb2 e10 e11; obtain ⟨z21, f20, f21, q20, q21⟩ := L2.two))
      refine bodyPost_ret (v := .tuple #[gval 0 none 0 0, .bool false]) (by simp [results, Try.results31, go_sem, f20, f21]) rfl ⟨none, w.heap.size, 0, rfl, Nat.le_refl _, fun h => absurd h (by simp), ?_⟩
      exact (B2.out.setCell (by simp) _).setCell (by simp) _
    | true =>
      have hok : isolateOk n ls x = true := by unfold isolateOk; rw [hv, hx]; rfl
      rw [if_pos hok]
      have C2 : ∀ W : World, Calls Try.prog 38 #[gval n (some ⟨g, 0, none⟩) ls.length c, .int .i64 x] W fun e w' => e = .returned (.bool true) ∧ Below W.heap.size W w' := fun W => by
        have := l1Node_any n (.slice (some ⟨g, 0, none⟩) ls.length c) x W hn1 hn8
        rwa [hx] at this
      clear hv hx hok
      go_enter Try.func31, Try.ntmps31
      go_wp2_with (first
        | (go_at_call 37; refine (C1 _ ((H.out.below (by (repeat (first | exact Below.refl _ _ | (refine Below.alloc ?_ (by first | exact Nat.le_refl _ | omega | (simp; done) | (simp; omega)) _) | (refine Below.setCell ?_ (by first | exact Nat.le_refl _ | omega | (simp; done) | (simp; omega)) _) | exact Below.drew ‹_›)))).more (by simp; omega))).mono ?_; rintro e w1 ⟨rfl, hb1⟩; have L1 := Lib.hid (HL.out.below hb1 (by simp)); have K1 := HK.out.below hb1 (by simp; omega); have B1 := Lib.hid (Below.trans (B := w.heap.size) (a := w) (by (repeat (first | exact Below.refl _ _ | (refine Below.alloc ?_ (by first | exact Nat.le_refl _ | omega | (simp; done) | (simp; omega)) _) | (refine Below.setCell ?_ (by first | exact Nat.le_refl _ | omega | (simp; done) | (simp; omega)) _) | exact Below.drew ‹_›))) (hb1.mono (by simp; omega))); clear hb1; have z10 := K1.lt; have e10 := K1.cell 0; have e11 := K1.cell 1)
        | (go_at_call 38; refine (C2 _).mono ?_; rintro e w2 ⟨rfl, hb2⟩; have L2 := Lib.hid (L1.out.below hb2 L1.out.lt); have K2 := Lib.hid (K1.below hb2 K1.lt); have B2 := Lib.hid (B1.out.trans (hb2.mono (Nat.le_of_lt z10))); have z20 := L2.out.lt; clear hb2 e10 e11; have e20 := K2.out.cell 0; have e21 := K2.out.cell 1))
      go_loopw [7] (fun i wr => ∃ (k : Nat) (v : Value), k ≤ ls.length ∧ i = .int .i64 k ∧ IS w w2.heap.size n (some ⟨g, 0, none⟩) ls.length c (keepTo (fun _ l => !decide (l.a = x) && !decide (l.b = x)) ls k) v wr) (fun i _ => ls.length - (intOf i).toNat)
      case atStart =>
        refine ⟨0, .slice (some ⟨w2.heap.size, 0, none⟩) 0 0, Nat.zero_le _, rfl, (K2.out.alloc _).alloc _, (L2.out.alloc _).alloc _, ?_, ?_, ?_, z20, by simp; omega⟩
        · have := Box.new (w2.alloc (.cells #[] 47)) 30 #[.int .i64 n, .slice (some ⟨w2.heap.size, 0, none⟩) 0 0]
          rwa [World.size_alloc] at this
        · exact (World.ownsRow_made (base := w2.heap.size) (e := 47) (size := 3) w2 #[] 0 (Nat.le_refl _) (by unfold maxLen; omega) rfl).alloc _
        · exact (B2.out.alloc (by omega) _).alloc (by simp; omega) _
      case round =>
        obtain ⟨k, v, hk, rfl, his⟩ := hrel
        obtain ⟨A', g', c', rfl, _, _, _⟩ := own_slice his.2.2.2.1 his.2.2.2.2.2.2
        have S := Lib.hid his
        have S1 := Lib.hid ((H.out.below his.2.2.2.2.1).more (Nat.le_of_lt his.1.lt))
        obtain ⟨zk, f0, f1, _, _⟩ := his.1.two
        have zb := his.2.2.2.2.2.1
        clear his e20 e21
        by_cases hlt : k < ls.length
        · obtain ⟨l, hl⟩ : ∃ x, ls[k]? = some x := ⟨_, List.getElem?_eq_getElem hlt⟩
          obtain ⟨bb, off, hge, hbb, hc1, hc2, hc3⟩ := S1.out k l hl
          cases hge
          simp only [Nat.zero_add] at hc1 hc2 hc3
          have HLl := Lib.hid hl
          have hkl := keepTo_len (fun _ l => !decide (l.a = x) && !decide (l.b = x)) ls k
          clear hl
          cases hq1 : (l.a != x) with
          | false =>
            have HN := Lib.hid (keepTo_miss (T := (fun _ l => !decide (l.a = x) && !decide (l.b = x))) HLl.out (by have : l.a = x := by simpa using hq1
                                                                                                                   simp [this]))
            go_wp2
            go_roundw
            case rel => exact ⟨k + 1, _, hlt, by go_num, by rw [HN.out]; exact S.out⟩
            case measure => simp [intOf]; omega
          | true =>
            cases hq2 : (l.b != x) with
            | false =>
              have HN := Lib.hid (keepTo_miss (T := (fun _ l => !decide (l.a = x) && !decide (l.b = x))) HLl.out (by have : l.b = x := by simpa using hq2
                                                                                                                     simp [this]))
              go_wp2
              go_roundw
              case rel => exact ⟨k + 1, _, hlt, by go_num, by rw [HN.out]; exact S.out⟩
              case measure => simp [intOf]; omega
            | true =>
              have HN := Lib.hid (keepTo_hit (T := (fun _ l => !decide (l.a = x) && !decide (l.b = x))) HLl.out (by have h1 : l.a ≠ x := by simpa using hq1
                                                                                                                    have h2 : l.b ≠ x := by simpa using hq2
                                                                                                                    simp [h1, h2]))
              obtain ⟨zg, c0, c1, q0, q1⟩ := S.out.2.2.1.two
              have SD := Lib.hid S.out.drew
              go_wp2
              go_region_law (first
                | (refine step_append_lies _ rfl _ _ 28 rfl w2.heap.size 47 i0 _ 3 24 Try.underlying28 hi hz0 hz1 hz2 rfl (by decide) _ (keepTo (fun _ l => !decide (l.a = x) && !decide (l.b = x)) ls k).length (flat (keepTo (fun _ l => !decide (l.a = x) && !decide (l.b = x)) ls k)) rfl (SD.out.2.2.2.1.alloc _) ⟨wr.heap.size, 0, none⟩ 1 1 _ rfl rfl (new3l _ _ _ _ _) (one3l _ _ _) (by decide) (by unfold maxLen; omega) (by omega) (by have := SD.out.2.2.2.2.2.2; simp at this ⊢; omega) _ rfl ?_; intro g8 cap8 w8 hown8 hgrow8 hat8 hlt8; have S8 := SD.out.stored hown8 hgrow8; have e8 := S8.1.cell 1; have q8 := S8.1.frozen 1; have R8 := Lib.hid S8.2; clear S8 hown8 hgrow8 hat8 hlt8))
              all_goals
                go_wp2
                go_roundw
                case rel => exact ⟨k + 1, _, hlt, by go_num, by rw [HN.out]; exact R8.out⟩
                case measure => simp [intOf]; omega
        · obtain rfl : k = ls.length := by omega
          obtain ⟨zg, c0, c1, q0, q1⟩ := S.out.2.2.1.two
          obtain ⟨zq, d0, d1, p0, p1⟩ := S.out.2.1.two
          go_wp2
          obtain ⟨A2, g2, c2, he2, hg2, _, ho2⟩ := own_slice S.out.2.2.2.1 S.out.2.2.2.2.2.2
          cases he2
          refine bodyPost_ret (v := .tuple #[gval n A' (keepTo (fun _ l => !decide (l.a = x) && !decide (l.b = x)) ls ls.length).length c', .bool true]) (by simp [results, Try.results31, go_sem, d0, d1]) rfl ⟨A', g2, c', rfl, by omega, ?_, ?_⟩
          · exact (ho2.set_far (by dsimp only; omega) _).set_far (by dsimp only; omega) _
          · exact (S.out.2.2.2.2.1.setCell (by simp) _).setCell (by simp) _

theorem isolate_both (n : Int) (ls : List Lk) (x : Int) (hm : ls.length ≤ 2000000) (hnu : n ≤ 9223372036854775807) :
    ∃ (m : Int) (rs : List Lk) (ok : Bool), rs.length ≤ 2000000 ∧
      (∀ (g c : Nat) (w : World), Sl w w.heap.size (some ⟨g, 0, none⟩) ls → Calls Try.prog 30 #[gval n (some ⟨g, 0, none⟩) ls.length c, .int .i64 x] w (GRes m rs ok w)) ∧
      (∀ (g c : Nat) (w : World), Sl w w.heap.size (some ⟨g, 0, none⟩) ls → Calls Try.prog 31 #[gval n (some ⟨g, 0, none⟩) ls.length c, .int .i64 x] w (GRes m rs ok w)) := by
  by_cases h : isolateOk n ls x = true
  · refine ⟨n, keepTo (fun _ l => !decide (l.a = x) && !decide (l.b = x)) ls ls.length, true, Nat.le_trans (keepTo_len _ _ _) hm, fun g c w hs => ?_, fun g c w hs => ?_⟩
    · have := isolate_impl n g ls c x w hm hs
      rwa [if_pos h] at this
    · have := isolate_spec n g ls c x w hm hnu hs
      rwa [if_pos h] at this
  · refine ⟨0, [], false, by simp, fun g c w hs => ?_, fun g c w hs => ?_⟩
    · have := isolate_impl n g ls c x w hm hs
      rwa [if_neg h] at this
    · have := isolate_spec n g ls c x w hm hnu hs
      rwa [if_neg h] at this

end Go.Proofs.Ytigamnnboojiiaa
