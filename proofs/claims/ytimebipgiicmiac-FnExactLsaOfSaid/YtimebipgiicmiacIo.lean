/-
  Contracts over this seat: the program's LsaOf.
-/
import Derived.Test.YtimebipgiicmiacZl
import Derived.Test.YtimebipgiicmiacIv
import Derived.Test.YtimebipgiicmiacRi
namespace Go.Proofs.Ytimebipgiicmiac
open Go.RowKit Go.Shelf Go.Maps

attribute [local go_sem] Oper.semAt_some

theorem kxo_own {β : Type} {X : Nat → Prop} (W4 : World) : OwnFrom W4.heap.size (fun (_ : β) W => Kx X W4 W) := by
  rintro _ Y Z row hk hg hr
  exact ⟨hg.os.trans hk.os, hg.tape.trans hk.tape, hg.output.trans hk.output, Nat.le_trans hk.size hg.size, fun j hj hx => (hg.block j (Nat.lt_of_lt_of_le hj hk.size) (fun e => by have := (hr j e.symm).1; omega)).trans (hk.block j hj hx)⟩
theorem holdsBox_own {β : Type} (n₀ B : Nat) (t e : TypeId) (size : Nat) (mk : Value → Array Value) (k : β → Nat) (f : β → List Value) (G : β → Value → Prop) : Own (fun s W => ∃ v, Box W B t (mk v) ∧ W.ownsRow n₀ e size v (k s) (f s) ∧ G s v) := by
  rintro s X Y row ⟨v, hv, hr, hG⟩ hg hrow
  refine ⟨v, (hg.block B hv.lt (fun e' => ?_)).trans hv, hr.kept hg ?_, hG⟩
  · obtain ⟨o, ho, hc⟩ := hrow B e'.symm
    rw [show X.heap[B]? = _ from hv] at ho; cases ho; cases hc
  · rcases hr.2 with ⟨rfl, _⟩ | ⟨g, cap, cur, rfl, _, hgb, _⟩
    · exact .inl rfl
    · refine .inr fun e' => ?_
      obtain ⟨o, ho, hc⟩ := hrow g (by simpa [Value.ownBlock] using e'.symm)
      rw [hgb] at ho; cases ho; cases hc
theorem own_listO {w : World} {b : Nat} {xs : List Int} (h : Box w b 3 (xs.map (Value.int .i64)).toArray) : Own1i w (some ⟨b, 0, none⟩) b xs := fun _ =>
  ⟨rfl, _, h, fun k x hk => by simp [hk]⟩

/-- The neighbours that have come, with the costs of their links. -/
def ofP (o : Int) (ls : List Lk) (pre : List (NbA o ls)) : List Lb := pre.map (fun x => ⟨x.1.1, costAt ls x.1.2⟩)
theorem ofP_snoc (o : Int) (ls : List Lk) (pre : List (NbA o ls)) (x : NbA o ls) : ofP o ls (pre ++ [x]) = ofP o ls pre ++ [⟨x.1.1, costAt ls x.1.2⟩] := by
  unfold ofP
  rw [List.map_append]
  rfl
theorem ofP_len (o : Int) (ls : List Lk) (pre : List (NbA o ls)) : (ofP o ls pre).length = pre.length := by
  unfold ofP; simp
theorem glI_mem {ps : List (Int × Nat)} (h : (ps.map (·.1)).Pairwise (· < ·)) {p : Int × Nat} (hp : p ∈ ps) : glI p.1 ps = (p.2 : Int) := by
  obtain ⟨ini, rest, rfl⟩ := List.append_of_mem hp
  rw [List.map_append, List.map_cons, List.pairwise_append] at h
  have := glI_some p.1 ini p rest (fun q hq e => by
    have := h.2.2 q.1 (List.mem_map_of_mem hq) p.1 (List.mem_cons_self ..)
    omega) rfl
  simpa using this
theorem ofT_costs {nn : Int} {ls : List Lk} (hg : gvB nn ls = true) (o : Int) : ofT nn ls o nn.toNat = (nbTo o ls ls.length).map (fun p => ⟨p.1, costAt ls p.2⟩) := by
  have h1 : ofT nn ls o nn.toNat = ((ofT nn ls o nn.toNat).map Lb.k).map (fun x => ⟨x, lcost nn ls o x⟩) := by
    rw [List.map_map]
    conv => lhs; rw [← List.map_id (ofT nn ls o nn.toNat)]
    refine List.map_congr_left fun e he => ?_
    obtain ⟨j, _, _, rfl⟩ := ofT_mem.1 he
    rfl
  rw [h1, ofT_map hg]
  unfold nbI
  rw [if_pos hg, List.map_map]
  refine List.map_congr_left fun p hp => ?_
  have := glI_mem (nbTo_asc hg o ls.length) hp
  show (⟨p.1, lcost nn ls o p.1⟩ : Lb) = _
  unfold lcost linkI
  rw [if_pos hg, this, Int.toNat_natCast]
theorem ofP_all {nn : Int} {ls : List Lk} (hg : gvB nn ls = true) (o : Int) : ofP o ls (nbQ o ls ls.length) = ofT nn ls o nn.toNat := by
  rw [ofT_costs hg, ← nbQ_map o ls ls.length (Nat.le_refl _), List.map_map]
  rfl
theorem lofB_eq (n : Int) (ls : List Lk) (o q : Int) : lofB n ls o q = (vwB n ls [o] && inB q 1 99) := by
  unfold lofB vwB
  simp

theorem lsa_grown {W w1 : World} {n₀ l : Nat} {x0 x1 v v' : Value} {k m : Nat} {xs ys : List Value} {tmp : Obj}
    (hv : Box W l 28 #[x0, x1, v]) (hrow : W.ownsRow n₀ 46 2 v k xs)
    (hown' : w1.ownsRow n₀ 46 2 v' m ys) (hgrow : (W.alloc tmp).grownBy w1 v.ownBlock) :
    Box w1 l 28 #[x0, x1, v] ∧ Box (w1.setCell ⟨l, 2, none⟩ v') l 28 #[x0, x1, v'] ∧ (w1.setCell ⟨l, 2, none⟩ v').ownsRow n₀ 46 2 v' m ys ∧ KeepsOthers W (w1.setCell ⟨l, 2, none⟩ v') := by
  have hv1 : Box w1 l 28 #[x0, x1, v] := (hgrow.block _ (by have := hv.lt; simp; omega) (fun e => own_box_ne hrow hv (by decide) e.symm)).trans (hv.alloc tmp)
  refine ⟨hv1, heap_set hv1 2 v', hown'.kept (grown_set (World.grownBy.refl w1 (some l)) 2 v') (.inr (own_box_ne hown' hv1 (by decide))), ?_⟩
  refine ((KeepsOthers.alloc W tmp).trans (KeepsOthers.of_grownBy hgrow fun j o ej hj => ?_)).trans (KeepsOthers.setCell _ _ _)
  rcases (hrow.alloc tmp).2 with ⟨rfl, _⟩ | ⟨g, cap, cur, rfl, _, hgb, _⟩
  · simp [Value.ownBlock] at ej
  · obtain rfl : g = j := by simpa [Value.ownBlock] using ej
    rw [hgb] at hj; cases hj; rfl
theorem kxo_appended {X : Nat → Prop} {W4 W w3 : World} {l : Nat} {v v' : Value} {tmp : Obj} (hk : Kx X W4 W) (hx : X l) (hgrow : (W.alloc tmp).grownBy w3 v.ownBlock) (hg : ∀ g, v.ownBlock = some g → X g ∨ W4.heap.size ≤ g) :
    Kx X W4 (w3.setCell ⟨l, 2, none⟩ v') := by
  have h1 := hk.alloc tmp
  refine Kx.setCell (p := ⟨l, 2, none⟩) ⟨hgrow.os.trans h1.os, hgrow.tape.trans h1.tape, hgrow.output.trans h1.output, Nat.le_trans h1.size hgrow.size, fun j hj hxj => ?_⟩ hx v'
  refine (hgrow.block j (Nat.lt_of_lt_of_le hj h1.size) (fun e => ?_)).trans (h1.block j hj hxj)
  rcases hg j e.symm with h | h
  · exact hxj h
  · omega
theorem own_ret3 {W : World} {base n Q : Nat} {v : Value} {xs : List Value} {cs : Array Value} (h : W.ownsRow base 46 2 v n xs) (hb : Box W Q 28 cs) (u0 u1 u2 : Value) :
    (((W.setCell ⟨Q, 0, none⟩ u0).setCell ⟨Q, 1, none⟩ u1).setCell ⟨Q, 2, none⟩ u2).ownsRow base 46 2 v n xs :=
  h.kept (grown_set (grown_set (grown_set (World.grownBy.refl W (some Q)) 0 u0) 1 u1) 2 u2) (.inr (own_box_ne h hb (by decide)))
theorem heap_ret3 {W : World} {Q D : Nat} {o : Obj} (h : W.heap[D]? = some o) (hne : D ≠ Q) (u0 u1 u2 : Value) : (((W.setCell ⟨Q, 0, none⟩ u0).setCell ⟨Q, 1, none⟩ u1).setCell ⟨Q, 2, none⟩ u2).heap[D]? = some o :=
  (Below.heap_setCell _ ⟨Q, 2, none⟩ u2 D hne).trans ((Below.heap_setCell _ ⟨Q, 1, none⟩ u1 D hne).trans ((Below.heap_setCell W ⟨Q, 0, none⟩ u0 D hne).trans h))

set_option maxRecDepth 100000 in
set_option maxHeartbeats 2000000 in
theorem lsaOf_impl (nn : Int) (A : Option Addr) (ls : List Lk) (c : Nat) (o q : Int) (w : World) (hm : ls.length ≤ 2000000) (hS : Sl w w.heap.size A ls) :
   Calls Try.prog 12 #[gval nn A ls.length c, .int .i64 o, .int .i64 q] w (LofR (lofL nn ls o q) (lofB nn ls o q) w) := by
  obtain ⟨i0, hi, hz0, hz10, hz20⟩ := info_parts infoEnd
  have HS := Lib.hid hS
  have h0 := ((Box.new w 33 #[.int .i64 nn, .slice A ls.length c]).alloc (.cells #[.int .i64 0, .int .i64 0, .slice none 0 0] 28)).alloc (.cells #[.int .i64 o] 3)
  have h1 := (Box.new (w.alloc (.cells #[.int .i64 nn, .slice A ls.length c] 33)) 28 #[.int .i64 0, .int .i64 0, .slice none 0 0]).alloc (.cells #[.int .i64 o] 3)
  have h2 := Box.new ((w.alloc (.cells #[.int .i64 nn, .slice A ls.length c] 33)).alloc (.cells #[.int .i64 0, .int .i64 0, .slice none 0 0] 28)) 3 #[.int .i64 o]
  have h4 : Below w.heap.size w (((w.alloc (.cells #[.int .i64 nn, .slice A ls.length c] 33)).alloc (.cells #[.int .i64 0, .int .i64 0, .slice none 0 0] 28)).alloc (.cells #[.int .i64 o] 3)) := by (repeat (first | exact Below.refl _ _ | (refine Below.alloc ?_ (by first | exact Nat.le_refl _ | omega | (simp; done) | (simp; omega)) _) | (refine Below.setCell ?_ (by first | exact Nat.le_refl _ | omega | (simp; done) | (simp; omega)) _) | exact Below.drew ‹_›))
  simp only [World.size_alloc] at h1 h2
  have KG := Lib.hid h0
  have KR := Lib.hid h1
  have KX := Lib.hid h2
  have KB := Lib.hid h4
  have CV := fun W (h : Sl W W.heap.size A ls) (k : Own1i W (some ⟨w.heap.size + 1 + 1, 0, none⟩) (w.heap.size + 1 + 1) [o]) => vw_any nn A ls c (some ⟨w.heap.size + 1 + 1, 0, none⟩) [o] 1 W hm (by simp) h k.sli
  have CQ := fun W => seqv_any q W
  rw [lofB_eq]
  clear hS h0 h1 h2 h4
  cases hv : vwB nn ls [o] with
  | false =>
    rw [hv] at CV
    have HL : Hid (lofL nn ls o q = ⟨0, 0, []⟩) := Lib.hid (by unfold lofL; rw [lofB_eq, hv]; rfl)
    clear hv CQ
    go_enter Try.func12, Try.ntmps12
    go_wp2_with fail
    refine (CV _ ((HS.out.below KB.out).more KB.out.size) (own_listO (by simpa using KX.out))).mono ?_
    rintro e w1 ⟨rfl, hb1⟩
    have B1 := Lib.hid (KB.out.trans (hb1.mono KB.out.size))
    have R1 := Lib.hid (KR.out.below hb1 KR.out.lt)
    clear hb1 KB KR KG KX CV
    obtain ⟨z4, r0, r1, r2, q0, q1, q2⟩ := R1.out.three
    obtain ⟨b4, x0, x1, x2⟩ := ret_three R1.out (.int .i64 0) (.int .i64 0) (.slice none 0 0)
    go_wp2_with fail
    refine bodyPost_ret (v := .tuple #[(⟨0, 0, [], none, 0, w.heap.size⟩ : Lz).v, .bool false]) (by simp [results, Try.results12, go_sem, x0, x1, x2]) rfl ?_
    exact ⟨⟨0, 0, [], none, 0, w.heap.size⟩, rfl, HL.out.symm, ⟨fun h => absurd h (by simp), Nat.le_refl _, Nat.le_refl _⟩, ((B1.out.setCell (p := ⟨w.heap.size + 1, 0, none⟩) (Nat.le_succ _) _).setCell (p := ⟨w.heap.size + 1, 1, none⟩) (Nat.le_succ _) _).setCell (p := ⟨w.heap.size + 1, 2, none⟩) (Nat.le_succ _) _⟩
  | true =>
    rw [hv] at CV
    cases hq : inB q 1 99 with
    | false =>
      rw [hq] at CQ
      have HL : Hid (lofL nn ls o q = ⟨0, 0, []⟩) := Lib.hid (by unfold lofL; rw [lofB_eq, hv, hq]; rfl)
      clear hv hq
      go_enter Try.func12, Try.ntmps12
      go_wp2_with fail
      refine (CV _ ((HS.out.below KB.out).more KB.out.size) (own_listO (by simpa using KX.out))).mono ?_
      rintro e w1 ⟨rfl, hb1⟩
      have B1 := Lib.hid (KB.out.trans (hb1.mono KB.out.size))
      have R1 := Lib.hid (KR.out.below hb1 KR.out.lt)
      clear hb1 KB KR KG KX CV
      go_wp2_with fail
      refine (CQ _).mono ?_
      rintro e w2 ⟨rfl, hb2⟩
      have B2 := Lib.hid (B1.out.trans (hb2.mono B1.out.size))
      have R2 := Lib.hid (R1.out.below hb2 R1.out.lt)
      clear hb2 B1 R1 CQ
      obtain ⟨z4, r0, r1, r2, q0, q1, q2⟩ := R2.out.three
      obtain ⟨b4, x0, x1, x2⟩ := ret_three R2.out (.int .i64 0) (.int .i64 0) (.slice none 0 0)
      go_wp2_with fail
      refine bodyPost_ret (v := .tuple #[(⟨0, 0, [], none, 0, w.heap.size⟩ : Lz).v, .bool false]) (by simp [results, Try.results12, go_sem, x0, x1, x2]) rfl ?_
      exact ⟨⟨0, 0, [], none, 0, w.heap.size⟩, rfl, HL.out.symm, ⟨fun h => absurd h (by simp), Nat.le_refl _, Nat.le_refl _⟩, ((B2.out.setCell (p := ⟨w.heap.size + 1, 0, none⟩) (Nat.le_succ _) _).setCell (p := ⟨w.heap.size + 1, 1, none⟩) (Nat.le_succ _) _).setCell (p := ⟨w.heap.size + 1, 2, none⟩) (Nat.le_succ _) _⟩
    | true =>
      rw [hq] at CQ
      have hgv : gvB nn ls = true := by unfold vwB at hv; simp at hv; exact hv.1
      have HL : Hid (lofL nn ls o q = ⟨o, q, ofP o ls (nbQ o ls ls.length)⟩) := Lib.hid (by unfold lofL; rw [lofB_eq, hv, hq, ofP_all hgv]; rfl)
      obtain ⟨N, hN⟩ : ∃ N : Nat, 5 ≤ N := ⟨5, Nat.le_refl _⟩
      clear hv hq hgv
      refine (callsIn_wide (n := N)).1 ?_
      have h1 : 1 ≤ N := by omega
      refine callsIn_of_wp_marks Try.func12 rfl trivial ?_ rfl
      simp only [Try.ntmps12, List.size_toArray, List.length_cons, List.length_nil, Nat.reduceAdd, Nat.reduceSub, Array.replicate_succ, Array.replicate_zero, List.push_toArray, List.append_toArray, List.nil_append, List.cons_append]
      gi_wp2_with fail
      refine ⟨trivial, ?_⟩
      refine (callsIn_wide.2 (CV _ ((HS.out.below KB.out).more KB.out.size) (own_listO (by simpa using KX.out)))).mono ?_
      clear CV
      rintro e w1 ⟨rfl, hb1⟩
      have B1 := Lib.hid (KB.out.trans (hb1.mono KB.out.size))
      have R1 := Lib.hid (KR.out.below hb1 KR.out.lt)
      have G1 := Lib.hid (KG.out.below hb1 KG.out.lt)
      clear hb1 KB KR KG KX
      gi_wp2_with fail
      refine ⟨trivial, ?_⟩
      refine (callsIn_wide.2 (CQ _)).mono ?_
      rintro e w2 ⟨rfl, hb2⟩
      have B2 := Lib.hid (B1.out.trans (hb2.mono B1.out.size))
      have R2 := Lib.hid (R1.out.below hb2 R1.out.lt)
      have G2 := Lib.hid (G1.out.below hb2 G1.out.lt)
      have z2 := G2.out.lt
      have g20 := G2.out.cell 0
      have g21 := G2.out.cell 1
      clear hb2 B1 R1 G1 CQ
      gi_wp2_with fail
      refine ⟨trivial, ?_⟩
      have hB2 : Below w2.heap.size w2 ((w2.alloc (.cells #[] 46)).alloc (.cells #[.int .i64 o, .int .i64 q, .slice (some ⟨w2.heap.size, 0, none⟩) 0 0] 28)) := by (repeat (first | exact Below.refl _ _ | (refine Below.alloc ?_ (by first | exact Nat.le_refl _ | omega | (simp; done) | (simp; omega)) _) | (refine Below.setCell ?_ (by first | exact Nat.le_refl _ | omega | (simp; done) | (simp; omega)) _) | exact Below.drew ‹_›))
      have hE3 := (Box.new w2 46 #[]).alloc (.cells #[.int .i64 o, .int .i64 q, .slice (some ⟨w2.heap.size, 0, none⟩) 0 0] 28)
      have hL3 := Box.new (w2.alloc (.cells #[] 46)) 28 #[.int .i64 o, .int .i64 q, .slice (some ⟨w2.heap.size, 0, none⟩) 0 0]
      rw [World.size_alloc] at hL3
      have G3 := Lib.hid (G2.out.below hB2 G2.out.lt)
      have R3 := Lib.hid (R2.out.below hB2 R2.out.lt)
      have E3 := Lib.hid hE3
      have L3 := Lib.hid hL3
      have B3 := Lib.hid (B2.out.trans (hB2.mono B2.out.size))
      have z3 : ((w2.alloc (.cells #[] 46)).alloc (.cells #[.int .i64 o, .int .i64 q, .slice (some ⟨w2.heap.size, 0, none⟩) 0 0] 28)).heap.size = w2.heap.size + 1 + 1 := by simp
      have zw2 : w.heap.size + 1 < w2.heap.size := R2.out.lt
      clear hB2 hE3 hL3 G2 R2 B2 g20 g21
      generalize (w2.alloc (.cells #[] 46)).alloc (.cells #[.int .i64 o, .int .i64 q, .slice (some ⟨w2.heap.size, 0, none⟩) 0 0] 28) = W3 at *
      refine (callsIn_wide.2 (neighbours_any nn A ls.length c o W3)).mono ?_
      rintro e W4 ⟨rfl, hW4⟩
      have b4 : Below W3.heap.size W3 W4 := by rw [← hW4]; (repeat (first | exact Below.refl _ _ | (refine Below.alloc ?_ (by first | exact Nat.le_refl _ | omega | (simp; done) | (simp; omega)) _) | (refine Below.setCell ?_ (by first | exact Nat.le_refl _ | omega | (simp; done) | (simp; omega)) _) | exact Below.drew ‹_›))
      have hG4 : Box W4 W3.heap.size 33 #[.int .i64 nn, .slice A ls.length c] := by
        rw [← hW4]
        exact (Box.new W3 33 #[.int .i64 nn, .slice A ls.length c]).alloc _
      have hN4 : Box W4 (W3.heap.size + 1) 3 #[.int .i64 o] := by
        rw [← hW4]
        have := Box.new (W3.alloc (.cells #[.int .i64 nn, .slice A ls.length c] 33)) 3 #[.int .i64 o]
        rwa [World.size_alloc] at this
      have z5 : W4.heap.size = W3.heap.size + 1 + 1 := by rw [← hW4]; simp
      have KG4 := Lib.hid hG4
      have KN4 := Lib.hid hN4
      have G4 := Lib.hid (G3.out.below b4 G3.out.lt)
      have R4 := Lib.hid (R3.out.below b4 R3.out.lt)
      have E4 := Lib.hid (E3.out.below b4 E3.out.lt)
      have L4 := Lib.hid (L3.out.below b4 L3.out.lt)
      have B4 := Lib.hid (B3.out.trans (b4.mono B3.out.size))
      have S4 := Lib.hid (HS.out.below B4.out)
      have Z3 := Lib.hid z3
      have Z5 := Lib.hid z5
      clear b4 hG4 hN4 hW4 G3 R3 E3 L3 B3 z3 z5
      gi_wp2_with fail
      have z3 : w2.heap.size + 2 ≤ W3.heap.size ∧ W3.heap.size ≤ w2.heap.size + 2 := ⟨Nat.le_of_eq Z3.out.symm, Nat.le_of_eq Z3.out⟩
      have z5 : W3.heap.size + 2 ≤ W4.heap.size ∧ W4.heap.size ≤ W3.heap.size + 2 := ⟨Nat.le_of_eq Z5.out.symm, Nat.le_of_eq Z5.out⟩
      have O4 : W4.ownsRow w.heap.size 46 2 (.slice (some ⟨w2.heap.size, 0, none⟩) 0 0) 0 [] := ⟨by simp, .inr ⟨w2.heap.size, 0, #[], rfl, by omega, E4.out, Nat.le_refl _, by omega, rfl, by simp⟩⟩
      refine wpIn_rangeFunc_ownG rfl h1 (gf := 76) (lb := #[.pointer (some ⟨W3.heap.size, 0, none⟩), .pointer (some ⟨W3.heap.size + 1, 0, none⟩)]) rfl trivial (enters_of Try.func76 (by kernel_rfl) rfl)
        (nbs_stops (N - 1) (by omega) W3.heap.size (W3.heap.size + 1) w.heap.size (fun k => k < w.heap.size ∨ k = W3.heap.size + 1) A ls c nn o hm W4 (fun b h => .inl h) (.inr rfl) (fun k h => by omega) KG4.out KN4.out (by omega) S4.out)
        (fun h k => h.trans k) (fun W l o o' hl h _ _ => KeepB.put (w := W4) (fun k h => by omega) W l o o' hl h) (Below.refl _ _) (fun _ => rfl)
        (fun pre W => (∃ v, Box W (w2.heap.size + 1) 28 #[.int .i64 o, .int .i64 q, v] ∧ W.ownsRow w.heap.size 46 2 v (ofP o ls pre).length (flatB (ofP o ls pre)) ∧ (∀ g, v.ownBlock = some g → g = w2.heap.size ∨ W4.heap.size ≤ g)) ∧ Kx (fun k => k = w2.heap.size + 1 ∨ k = w2.heap.size) W4 W)
        (fun _ _ _ => False)
        (OwnFrom.and (Own.from (holdsBox_own w.heap.size (w2.heap.size + 1) 28 46 2 (fun v => #[.int .i64 o, .int .i64 q, v]) (fun pre : List (NbA o ls) => (ofP o ls pre).length) (fun pre => flatB (ofP o ls pre)) (fun _ v => ∀ g, v.ownBlock = some g → g = w2.heap.size ∨ W4.heap.size ≤ g)) _) (kxo_own W4))
        (fun _ _ _ _ _ hs _ _ => hs)
        ⟨⟨_, L4.out, O4, fun g e => by simp [Value.ownBlock] at e; omega⟩, Kx.refl _ _⟩
        (fun x => { tmps := #[gval nn A ls.length c, .int .i64 o, .int .i64 q, .pointer (some ⟨w.heap.size, 0, none⟩), undef, undef, .pointer (some ⟨w.heap.size + 1, 0, none⟩), .bool false, .pointer (some ⟨w2.heap.size + 1, 0, none⟩), .int .i64 x.1.1, .int .i64 (x.1.2 : Int),
          .agg #[.int .i64 nn, .slice A ls.length c], .int .i64 o, .slice (some ⟨w.heap.size + 1 + 1, 0, none⟩) 1 1, .bool true, .bool false, .bool false, .int .i64 q, .bool true, .bool false, .bool false, undef, .int .i64 o, .int .i64 q, .slice (some ⟨w2.heap.size, 0, none⟩) 0 0, .agg #[.int .i64 o, .int .i64 q, .slice (some ⟨w2.heap.size, 0, none⟩) 0 0],
          .agg #[.int .i64 nn, .slice A ls.length c], .int .i64 o, .func (.func 76) #[] #[.pointer (some ⟨W3.heap.size, 0, none⟩), .pointer (some ⟨W3.heap.size + 1, 0, none⟩)], .int .i64 x.1.1, .int .i64 (x.1.2 : Int), undef, undef, undef, undef, undef, undef, undef, undef, undef, undef, undef, undef, undef, undef], defers := [] }) ?assign ?body ?done ?stop
      case assign =>
        intro l x W K hK
        gi_wp2
        exact hK
      case body =>
        rintro l pre x W ⟨⟨v, hv, hrow, hgg⟩, hk⟩ hlt
        obtain ⟨lk, hlk⟩ : ∃ lk, ls[x.1.2]? = some lk := by obtain ⟨lk, h, _⟩ := x.2; exact ⟨lk, h⟩
        have HSN := Lib.hid (ofP_snoc o ls pre x)
        have HCO := Lib.hid (costAt_at hlk)
        have hFl : (ofP o ls pre).length ≤ pre.length := Nat.le_of_eq (ofP_len o ls pre)
        have hxk := (List.getElem?_eq_some_iff.1 hlk).1
        have sl := S4.out.below (hk.below (B := w.heap.size) (by omega) (fun j e => by omega))
        obtain ⟨⟨xv, xk⟩, hxok⟩ := x
        dsimp only at *
        obtain ⟨bb, off, rfl, hbb, -, -, hc3⟩ := sl xk lk hlk
        have gx := (hk.box G4.out (by omega)).cell 1
        have lx0 := hv.cell 0
        have lx1 := hv.cell 1
        have lx2 := hv.cell 2
        have hmx : Try.prog.follows .mixedOrders = true := by kernel_rfl
        have zk := hk.size
        have HKX := Lib.hid hk
        have HVX := Lib.hid hv
        have HRX := Lib.hid hrow
        have HGX := Lib.hid hgg
        have hd : 1 ≤ N - 1 - 1 := by omega
        clear hk hv hrow hgg sl hlk
        gi_wp2
        have HVD := Lib.hid (show Box W.drew (w2.heap.size + 1) 28 #[.int .i64 o, .int .i64 q, v] from HVX.out)
        have HRD := Lib.hid (show W.drew.ownsRow w.heap.size 46 2 v (ofP o ls pre).length (flatB (ofP o ls pre)) from HRX.out)
        have HRA := Lib.hid (show (W.alloc (.cells #[.int .i64 xv, .int .i64 lk.c] 46)).drew.ownsRow w.heap.size 46 2 v (ofP o ls pre).length (flatB (ofP o ls pre)) from HRX.out.alloc _)
        have HNA := Lib.hid (show ∀ (j : Nat) (u : Value), [Value.int .i64 xv, .int .i64 lk.c][j]? = some u → (W.alloc (.cells #[.int .i64 xv, .int .i64 lk.c] 46)).drew.cell? ((⟨W.heap.size, 0, none⟩ : Addr).add j) = some u from new2 W xv lk.c 46)
        have zA : W4.heap.size ≤ (W.alloc (.cells #[.int .i64 xv, .int .i64 lk.c] 46)).drew.heap.size := by show W4.heap.size ≤ (W.alloc _).heap.size; simp; omega
        have zD : W.drew.heap.size ≤ W.heap.size ∧ W.heap.size ≤ W.drew.heap.size := ⟨Nat.le_refl _, Nat.le_refl _⟩
        have gD : W.drew.cell? ⟨w.heap.size, 1, none⟩ = some (.slice (some ⟨bb, off, none⟩) ls.length c) := gx
        have lD : W.drew.cell? ⟨w2.heap.size + 1, 2, none⟩ = some v := lx2
        have cD : W.drew.cell? ⟨bb, off + xk * 3 + 2, none⟩ = some (.int .i64 lk.c) := hc3
        have zb : bb < W.drew.heap.size := by omega
        have hX0 := fun (y : Ext W.drew) => (y.cell w.heap.size 1 (by omega)).trans gD
        have hX1 := fun (y : Ext W.drew) => (y.cell (w2.heap.size + 1) 2 (by omega)).trans lD
        have hX2 := fun (y : Ext W.drew) => (y.cell bb (off + xk * 3 + 2) (by omega)).trans cD
        have z7 : w.heap.size < W.drew.heap.size ∧ w2.heap.size + 1 < W.drew.heap.size := by omega
        clear KG4 KN4 G4 R4 E4 L4 B4 S4 HS gx lx0 lx1 lx2 hc3
        refine wpIn_region_head 14 3 11 #[true, true, true, true, true, true, true, true, true, true, true, false, false, false] hmx (by rfl) (by rfl) (by kernel_rfl) ?_
        refine ste_seg _ 2 [0, 1, 2, 3, 4, 5, 6, 7, 8] (by kernel_rfl) (by kernel_rfl) (by kernel_rfl) (by kernel_rfl) (by kernel_rfl) (by kernel_rfl) ?_
        (simp only [List.map_cons, List.map_nil, List.getElem?_cons_zero, List.getElem?_cons_succ, Option.getD_some]); (repeat (go_big_quiet_step (fail))); (refine wpQuiet_nil ?_)
        clear hX0 hX1 hX2 gD lD cD
        refine ste_one _ 1 9 (by kernel_rfl) (by rfl) (by kernel_rfl) (by rfl) ?_
        go_wp2_with fail
        refine ⟨Below.refl _ _, ?_⟩
        refine ste_one _ 0 10 (by kernel_rfl) (by rfl) (by kernel_rfl) (by rfl) ?_
        go_wp2_with fail
        refine ⟨show Below W.drew.heap.size W.drew (W.drew.alloc (.cells #[.int .i64 xv, .int .i64 lk.c] 46)) from (Below.refl _ _).alloc (Nat.le_refl _) _, ?_⟩
        refine ste_end (by rfl) ?_
        refine in_one _ 2 11 (by kernel_rfl) (by rfl) (by kernel_rfl) (by rfl) (by rfl) ?_
        refine wp_append_lies _ _ _ 26 rfl w.heap.size 46 i0 _ 2 16 Try.underlying26 hi hz0 hz10 hz20 rfl (by decide) _ (ofP o ls pre).length (flatB (ofP o ls pre)) rfl HRA.out ⟨W.heap.size, 0, none⟩ 1 1 _ rfl rfl HNA.out (one2 _ _) (by decide) (by unfold maxLen; omega) (by omega) (by omega) _ rfl ?_
        intro g' cap' w3 hown' hgrow hat _
        have HGR := Lib.hid (show (W.drew.alloc (.cells #[.int .i64 xv, .int .i64 lk.c] 46)).grownBy w3 v.ownBlock from hgrow)
        have HAT := Lib.hid hat
        obtain ⟨hv1, hv2, hr2, hk2⟩ := lsa_grown HVD.out HRD.out hown' HGR.out
        have HV2 := Lib.hid hv2
        have HR2 := Lib.hid hr2
        have HK2 := Lib.hid hk2
        have hc1 := hv1.cell 2
        have hf1 := hv1.frozen 2
        clear hown' hgrow hat hv1 hv2 hr2 hk2
        refine in_one _ 1 12 (by kernel_rfl) (by rfl) (by kernel_rfl) (by rfl) (by rfl) ?_
        go_wp2_with fail
        refine in_one _ 0 13 (by kernel_rfl) (by rfl) (by kernel_rfl) (by rfl) (by rfl) ?_
        go_wp2_with fail
        refine in_end (by kernel_rfl) ?_
        have hkf := (show KeepsOthers W (w3.setCell ⟨w2.heap.size + 1, 2, none⟩ (.slice (some ⟨g', 0, none⟩) ((ofP o ls pre).length + 1) cap')) from ⟨HK2.out.1, HK2.out.2⟩).from W4.heap.size
        refine ⟨⟨hkf.1, hkf.2⟩, ⟨by have := HK2.out.1; simpa using this, fun k hk => ?_⟩, ⟨_, HV2.out, ?_, fun g e => ?_⟩, kxo_appended HKX.out.drew (.inl rfl) HGR.out (fun g e => ?_)⟩
        · refine (Below.heap_setCell w3 ⟨w2.heap.size + 1, 2, none⟩ _ k (by dsimp only; omega)).trans ((HGR.out.block k (by simp; omega) (fun e => ?_)).trans (Below.heap_alloc W.drew _ k (by omega)))
          rcases HGX.out k e.symm with h | h <;> omega
        · rw [HSN.out, List.length_append, flatB_append, HCO.out]
          exact HR2.out
        · simp [Value.ownBlock] at e
          subst e
          rcases HAT.out with h | h
          · exact HGX.out g' h
          · right
            omega
        · rcases HGX.out g e with h | h
          · exact .inl (.inr h)
          · exact .inr h
      case done =>
        rintro D ys W hD rfl ⟨⟨v, hv, hrow, hgg⟩, hk⟩ hK
        have hsz : w.heap.size ≤ W.heap.size := by have := hk.size; have := B4.out.size; omega
        obtain ⟨A', g', c', rfl, -⟩ := own_slicee hrow hsz
        have R9 := Lib.hid (hk.box R4.out (by omega))
        have hB : Below w.heap.size w W := B4.out.trans (hk.below B4.out.size (fun j e => by omega))
        have hr3 := own_ret3 hrow R9.out (.int .i64 o) (.int .i64 q) (.slice A' (ofP o ls (nbQ o ls ls.length)).length c')
        have hK3 := heap_ret3 hK (show D ≠ w.heap.size + 1 by omega) (.int .i64 o) (.int .i64 q) (.slice A' (ofP o ls (nbQ o ls ls.length)).length c')
        have hB3 := ((hB.setCell (p := ⟨w.heap.size + 1, 0, none⟩) (Nat.le_succ _) (.int .i64 o)).setCell (p := ⟨w.heap.size + 1, 1, none⟩) (Nat.le_succ _) (.int .i64 q)).setCell (p := ⟨w.heap.size + 1, 2, none⟩) (Nat.le_succ _) (.slice A' (ofP o ls (nbQ o ls ls.length)).length c')
        have KK3 := Lib.hid hK3
        have RR3 := Lib.hid (ownsRow_putObj hr3 (.deferred none) hK3 rfl)
        have BB3 := Lib.hid hB3
        obtain ⟨zl, l0, l1, l2, -, -, -⟩ := hv.three
        obtain ⟨zr, r0, r1, r2, q0, q1, q2⟩ := R9.out.three
        obtain ⟨b3, y0, y1, y2⟩ := ret_three R9.out (.int .i64 o) (.int .i64 q) (.slice A' (ofP o ls (nbQ o ls ls.length)).length c')
        have HB3 := Lib.hid b3
        clear hr3 hK3 hB3 hrow hgg hk hv hK hB b3
        gi_wp2
        clear l0 l1 l2 r0 r1 r2 q0 q1 q2 y0 y1 y2
        have hne : w.heap.size + 1 ≠ D := by omega
        have hb4 : Box ((((W.setCell ⟨w.heap.size + 1, 0, none⟩ (.int .i64 o)).setCell ⟨w.heap.size + 1, 1, none⟩ (.int .i64 q)).setCell ⟨w.heap.size + 1, 2, none⟩ (.slice A' (ofP o ls (nbQ o ls ls.length)).length c')).putObj D (.deferred none)) (w.heap.size + 1) 28 #[.int .i64 o, .int .i64 q, .slice A' (ofP o ls (nbQ o ls ls.length)).length c'] := (World.putObj_heap_other hne).trans HB3.out
        have hBB := BB3.out.trans (belowK_b (w := w) (Nat.le_refl _) _ D _ (.deferred none) (by have := B4.out.size; omega) KK3.out rfl rfl)
        obtain ⟨A9, g9, c9, e9, hg9, -, ho9, hc9⟩ := own_slicee RR3.out hBB.size
        obtain ⟨z4, x0, x1, x2, -, -, -⟩ := hb4.three
        refine ⟨by simp, .inl ⟨_, _, rfl, run_takeDeferred KK3.out, ?_⟩⟩
        clear KK3 RR3 BB3 HB3 hb4
        generalize ((((W.setCell ⟨w.heap.size + 1, 0, none⟩ (.int .i64 o)).setCell ⟨w.heap.size + 1, 1, none⟩ (.int .i64 q)).setCell ⟨w.heap.size + 1, 2, none⟩ (.slice A' (ofP o ls (nbQ o ls ls.length)).length c')).putObj D (.deferred none)) = WE at *
        cases e9
        refine ⟨.tuple #[(⟨o, q, ofP o ls (nbQ o ls ls.length), A', c', g9⟩ : Lz).v, .bool true], by simp [results, Try.results12, go_sem, x0, x1, x2], ⟨o, q, ofP o ls (nbQ o ls ls.length), A', c', g9⟩, rfl, HL.out.symm, ⟨ho9, hg9, hc9⟩, hBB⟩
      case stop =>
        rintro D c pre W _ _ h _
        exact h.elim
end Go.Proofs.Ytimebipgiicmiac
