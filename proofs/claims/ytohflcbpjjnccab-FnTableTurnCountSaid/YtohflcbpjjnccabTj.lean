/-
  Contracts over this seat: TableRemove of the specification.
-/
import Derived.Test.YtohflcbpjjnccabTi
import Derived.Test.YtohflcbpjjnccabC1
namespace Go.Proofs.Ytohflcbpjjnccab
open Go.RowKit Go.Maps

theorem step_appo {P : Program} (w : World) {ops : Array Oper} {o : Oper} {a : Act} {K : Act → World → Prop} {Q : Exit → Act → World → Prop} {E : Prop} (hgd : o.guard = none) (s x : Operand) (t : TypeId)
    (ho : o.op = .call { callee := .builtin .append, args := #[s, x], argTypes := #[t, t] })
    (base : Nat) (e : TypeId) (i : TypeInfo) (z : Value) (size bytes : Nat) (ht : P.underlying t = some (.slice e)) (hi : P.info? e = some i) (hz : i.zero = some z)
    (hsize : i.size = size) (hby : i.bytes = bytes) (hzs : z.cells.size = size) (hsz : 0 < size)
    (v : Value) (n : Nat) (xs : List Value) (hs : a.eval s = v) (hown : w.ownsRow base e size v n xs)
    (ad : Addr) (m c : Nat) (news : List Value) (hx : a.eval x = .slice (some ad) m c) (hl : news.length = m * size) (hnews : ∀ j u, news[j]? = some u → w.cell? (ad.add j) = some u) (h1 : ∀ u ∈ news, u.oneCell' = true)
    (h63 : n + m ≤ maxLen) (hbytes : (n + m) * bytes ≤ 140737488355328) (hbase : base ≤ w.heap.size)
    (h : ∀ v' w', w'.ownsRow base e size v' (n + m) (xs ++ news) → w.grownBy w' v.ownBlock → (v' = .slice none 0 0 ↔ v = .slice none 0 0 ∧ m = 0) → K (a.put o.dst v') w') :
    if Region.wanted o (yielded ops a.tmps) = true then Oper.wp P o a w K Q else E := by
  have hw : Region.wanted o (yielded ops a.tmps) = true := by simp [Region.wanted, hgd]
  rw [if_pos hw]
  exact wp_append_own w s x t ho base e i z size bytes ht hi hz hsize hby hzs hsz v n xs hs hown ad m c news hx hl hnews h1 h63 hbytes hbase h
/-- A table whose routes grow, in a box of its own, beside the table that came in and the result's box. -/
structure RM (w wd : World) (gv : Array Value) (X gn dn : Nat) (hs : List Int) (v : Value) (out : List Lk) (W : World) : Prop where
  row : QT wd v out W
  kT : Box W w.heap.size 30 gv
  kL : Box W (w.heap.size + 1) 30 #[.slice none 0 0, .slice none 0 0]
  kX : Box W X 30 #[v, .slice (some ⟨gn, 0, none⟩) hs.length dn]
  an : Arri W gn hs
  bel : Below w.heap.size w W
section
variable {w wd W W' : World} {gv : Array Value} {X gn dn : Nat} {hs : List Int} {v v' : Value} {out : List Lk}
theorem RM.call (h : RM w wd gv X gn dn hs v out W) (hb : Below W.heap.size W W') : RM w wd gv X gn dn hs v out W' :=
  ⟨h.row.call hb, h.kT.below hb h.kT.lt, h.kL.below hb h.kL.lt, h.kX.below hb h.kX.lt, h.an.below hb h.an.lt, h.bel.trans (hb.mono h.bel.size)⟩
theorem RM.keepX (h : RM w wd gv X gn dn hs v out W) (hg : W.grownBy W' v.ownBlock) : Box W' X 30 #[v, .slice (some ⟨gn, 0, none⟩) hs.length dn] :=
  (hg.block _ h.kX.lt (fun e => own_box_ne h.row.row h.kX (by decide) e.symm)).trans h.kX
/-- The row grows, and the box is told of it. -/
theorem RM.append {x : Lk} (h : RM w wd gv X gn dn hs v out W) (hX : wd.heap.size ≤ X) (hwd : w.heap.size + 2 ≤ wd.heap.size) (ho : W'.ownsRow wd.heap.size 38 3 v' (out.length + 1) (flat out ++ flat [x])) (hg : W.grownBy W' v.ownBlock) (hn : v' = .slice none 0 0 ↔ v = .slice none 0 0 ∧ 1 = 0) :
    RM w wd gv X gn dn hs v' (out ++ [x]) (W'.setCell ⟨X, 0, none⟩ v') := by
  have r1 := h.row.grown (zs := [x]) rfl ho hg hn
  have kp : ∀ {b t : Nat} {cs : Array Value}, Box W b t cs → 38 ≠ t → Box W' b t cs := fun hb ht => (hg.block _ hb.lt (fun e => own_box_ne h.row.row hb ht e.symm)).trans hb
  have kx := kp h.kX (by decide)
  have hv : v'.ownBlock ≠ some X := own_box_ne r1.row kx (by decide)
  have han : Arri W' gn hs := by
    obtain ⟨cs, hh, hc⟩ := h.an
    exact ⟨cs, kp (b := gn) hh (by decide), hc⟩
  have hne : gn ≠ X := by
    rintro rfl
    obtain ⟨cs, hh, hc⟩ := han
    have : some (Obj.cells cs 3 (0, 0)) = _ := hh.symm.trans kx
    simp at this
  have hb' : Below w.heap.size w W' := h.bel.grown hg h.bel.size (fun j e => by have := (h.row.row.lt j e).1; omega)
  refine ⟨⟨r1.row.kept (grown_set (World.grownBy.refl W' (some X)) 0 v') (.inr hv), ?_, r1.nn⟩, ?_, ?_, heap_set kx 0 v', ?_, hb'.setCell (p := ⟨X, 0, none⟩) (show w.heap.size ≤ X by omega) v'⟩
  · exact r1.bel.trans ⟨rfl, rfl, rfl, by simp, fun k hk => Below.heap_setCell W' ⟨X, 0, none⟩ v' k (fun e => by dsimp only at e; omega)⟩
  · exact (kp h.kT (by decide)).setFar (p := ⟨X, 0, none⟩) (by dsimp only; omega) v'
  · exact (kp h.kL (by decide)).setFar (p := ⟨X, 0, none⟩) (by dsimp only; omega) v'
  · exact han.setFar (p := ⟨X, 0, none⟩) hne v'
end
theorem remR_next {rs : List Lk} {k : Nat} {x : Lk} (hx : rs[k]? = some x) (p b : Int) : delR p b (rs.take (k + 1)) = delR p b (rs.take k) ++ (if x.a = p ∧ x.b = b then [] else [x]) := by
  unfold delR
  rw [List.take_add_one, hx, List.filter_append]
  by_cases e : x.a = p ∧ x.b = b
  · rw [if_pos e]
    simp [e.1, e.2]
  · rw [if_neg e]
    congr 1
    by_cases e1 : x.a = p
    · have e2 : ¬ x.b = b := fun h => e ⟨e1, h⟩
      simp [e1, e2]
    · simp [e1]
/-- One block alone. -/
def XL (B : Nat) (b : Nat) : Prop := b = B
theorem Kx.set2 (w : World) (B : Nat) (u v : Value) : Kx (XL B) w ((w.setCell ⟨B, 0, none⟩ u).setCell ⟨B, 1, none⟩ v) :=
  ⟨rfl, rfl, rfl, by simp, fun k _ hx => (Below.heap_setCell _ ⟨B, 1, none⟩ v k (fun e => hx e)).trans (Below.heap_setCell _ ⟨B, 0, none⟩ u k (fun e => hx e))⟩
def RemRes (rs : List Lk) (hs : List Int) (p b : Int) (w : World) (e : Ending) (w' : World) : Prop :=
  ∃ v, e = .returned (.tuple #[v, .bool (remB rs hs p b)]) ∧ NewTU (remR rs hs p b) (remH rs hs) w v w'
theorem keyB_len {rs : List Lk} {p b : Int} : decide ((delR p b rs).length < rs.length) = keyB p b rs := by
  induction rs with
  | nil => rfl
  | cons x r ih =>
    have hle : (delR p b r).length ≤ r.length := List.length_filter_le _ _
    unfold delR keyB at *
    rw [List.filter_cons, List.any_cons, ← ih]
    by_cases e : (decide (x.a = p) && decide (x.b = b)) = true
    · rw [e]
      simp only [Bool.not_true, Bool.false_eq_true, if_false, Bool.true_or, decide_eq_true_eq, List.length_cons]
      exact Nat.lt_succ_of_le hle
    · simp only [Bool.not_eq_true] at e
      rw [e]
      simp

set_option maxRecDepth 100000 in
set_option maxHeartbeats 3200000 in
theorem tableRemove_spec (ga oa : Nat) (rs : List Lk) (c : Nat) (gb ob : Nat) (hs : List Int) (d : Nat) (p b : Int) (w : World) (hm : rs.length ≤ 1048576) (hmh : hs.length ≤ 1048576) (hS : Sl w w.heap.size (some ⟨ga, oa, none⟩) rs) (hI : Sli w w.heap.size (some ⟨gb, ob, none⟩) hs) :
   Calls Try.prog 22 #[tbV (some ⟨ga, oa, none⟩) rs.length c (some ⟨gb, ob, none⟩) hs.length d, .int .i64 p, .int .i64 b] w (RemRes rs hs p b w) := by
  obtain ⟨i0, hi, hz0, hz1, hz2⟩ := info_parts infoRoute
  obtain ⟨j0, hj, hy0, hy1, hy2⟩ := info_parts infoInt
  have B0 : Below w.heap.size w ((w.alloc (.cells #[.slice (some ⟨ga, oa, none⟩) rs.length c, .slice (some ⟨gb, ob, none⟩) hs.length d] 30)).alloc (.cells #[.slice none 0 0, .slice none 0 0] 30)) := by (repeat (first | exact Below.refl _ _ | (refine Below.alloc ?_ (by first | exact Nat.le_refl _ | omega | (simp; done) | (simp; omega)) _) | (refine Below.setCell ?_ (by first | exact Nat.le_refl _ | omega | (simp; done) | (simp; omega)) _) | exact Below.drew ‹_›))
  have HK := Lib.hid ((Box.new w 30 #[.slice (some ⟨ga, oa, none⟩) rs.length c, .slice (some ⟨gb, ob, none⟩) hs.length d]).alloc (.cells #[.slice none 0 0, .slice none 0 0] 30))
  have L0 := Box.new (w.alloc (.cells #[.slice (some ⟨ga, oa, none⟩) rs.length c, .slice (some ⟨gb, ob, none⟩) hs.length d] 30)) 30 #[.slice none 0 0, .slice none 0 0]
  rw [World.size_alloc] at L0
  have HL := Lib.hid L0
  have HS := Lib.hid hS
  have HI := Lib.hid hI
  have HB := Lib.hid B0
  have CV := fun W h1 h2 => tableValid_spec (some ⟨ga, oa, none⟩) rs c (some ⟨gb, ob, none⟩) hs d W hm hmh h1 h2
  clear hS hI B0 L0
  cases hv : tbB rs hs with
  | false =>
    rw [hv] at CV
    have HF : Hid (remR rs hs p b = [] ∧ remH rs hs = [] ∧ remB rs hs p b = false) := Lib.hid (by unfold remR remH remB; rw [hv]; exact ⟨rfl, rfl, rfl⟩)
    clear hv
    go_enter Try.func22, Try.ntmps22
    go_wp2_with fail
    refine (CV _ ((HS.out.below HB.out).more HB.out.size) ((HI.out.below HB.out).more HB.out.size)).mono ?_
    clear CV
    rintro e w1 ⟨rfl, hb1⟩
    have B1 := Lib.hid (HB.out.trans (hb1.mono HB.out.size))
    have L1 := Lib.hid (HL.out.below hb1 HL.out.lt)
    clear hb1
    obtain ⟨z9, f0, f1, q0, q1⟩ := L1.out.two
    go_wp2_with fail
    obtain ⟨b2, r0, r1⟩ := ret_two L1.out (.slice none 0 0) (.slice none 0 0)
    refine bodyPost_ret (v := .tuple #[tbV none 0 0 none 0 0, .bool false]) (by simp [results, Try.results22, go_sem, r0, r1]) rfl ?_
    unfold RemRes
    rw [HF.out.1, HF.out.2.1, HF.out.2.2]
    exact ⟨_, rfl, none, 0, w.heap.size, none, 0, w.heap.size, rfl, Nat.le_refl _, Nat.le_refl _, fun h => by simp at h, fun h => by simp at h, (B1.out.setCell (p := ⟨w.heap.size + 1, 0, none⟩) (Nat.le_succ _) _).setCell (p := ⟨w.heap.size + 1, 1, none⟩) (Nat.le_succ _) _, Nat.le_refl _, Nat.le_refl _⟩
  | true =>
    rw [hv] at CV
    have HF : Hid (remR rs hs p b = delR p b rs ∧ remH rs hs = hs ∧ remB rs hs p b = decide ((delR p b rs).length < rs.length)) := Lib.hid (by unfold remR remH remB; rw [hv, keyB_len]; exact ⟨rfl, rfl, rfl⟩)
    clear hv
    go_enter Try.func22, Try.ntmps22
    go_wp2_with fail
    refine (CV _ ((HS.out.below HB.out).more HB.out.size) ((HI.out.below HB.out).more HB.out.size)).mono ?_
    clear CV
    rintro e w1 ⟨rfl, hb1⟩
    have B1 := Lib.hid (HB.out.trans (hb1.mono HB.out.size))
    have K1 := Lib.hid (HK.out.below hb1 HK.out.lt)
    have L1 := Lib.hid (HL.out.below hb1 HL.out.lt)
    have hz1' := L1.out.lt
    clear hb1 HK HL HB
    obtain ⟨z1, e10, e11, -, -⟩ := K1.out.two
    have R2 := Lib.hid (QT.made (w := w1) (W := w1) (Below.refl _ _))
    have N3 := Lib.hid (QN.made (w := w1) (W := w1.alloc (.cells #[] 38)) R2.out.bel)
    have R3 := Lib.hid (R2.out.call ((Below.refl _ _).alloc (Nat.le_refl _) (.cells #[] 3)))
    have hz3 : ((w1.alloc (.cells #[] 38)).alloc (.cells #[] 3)).heap.size = w1.heap.size + 2 := by simp
    simp only [World.size_alloc] at N3
    clear R2
    go_wp2_with (at_builtin; refine wpList_append_own _ rfl _ _ 23 rfl w1.heap.size 3 j0 _ 1 8 Try.underlying23 hj hy0 hy1 hy2 rfl (by decide) _ 0 (List.map (Value.int .i64) []) rfl N3.out.row ⟨gb, ob, none⟩ hs.length d (hs.map (Value.int .i64)) rfl (by simp) (sli_flat ((HI.out.below B1.out).below (N3.out.bel.mono B1.out.size))) (ints_one hs) (by unfold maxLen; omega) (by omega) N3.out.bel.size ?_; intro v4 w4 ho4 hg4 hn4; have N4 := Lib.hid (N3.out.grown rfl ho4 hg4 hn4); have R4 := Lib.hid (R3.out.other N3.out hg4); clear ho4 hg4 hn4; rw [List.nil_append] at N4; obtain ⟨gn, dn, e2, hgn, -, an, hdn⟩ := own_nodes N4.out.row N4.out.nn; subst e2; have AN := Lib.hid an; have hzn := an.lt; clear an N3 R3 hz3 e10 e11)
    have M5 := Lib.hid (show RM w w1 #[.slice (some ⟨ga, oa, none⟩) rs.length c, .slice (some ⟨gb, ob, none⟩) hs.length d] w4.heap.size gn dn hs (.slice (some ⟨w1.heap.size, 0, none⟩) 0 0) [] (w4.alloc (.cells #[.slice (some ⟨w1.heap.size, 0, none⟩) 0 0, .slice (some ⟨gn, 0, none⟩) hs.length dn] 30)) from
      ⟨R4.out.call ((Below.refl _ _).alloc (Nat.le_refl _) _), (K1.out.below N4.out.bel z1).alloc _, (L1.out.below N4.out.bel (by omega)).alloc _, Box.new w4 _ _, AN.out.below ((Below.refl _ _).alloc (Nat.le_refl _) _) hzn, (B1.out.trans (N4.out.bel.mono B1.out.size)).alloc (Nat.le_trans B1.out.size N4.out.bel.size) _⟩)
    have hX4 := N4.out.bel.size
    have hgn2 : w1.heap.size ≤ gn := hgn
    clear R4 N4 AN L1 K1 B1 z1
    generalize w4.alloc (.cells #[.slice (some ⟨w1.heap.size, 0, none⟩) 0 0, .slice (some ⟨gn, 0, none⟩) hs.length dn] 30) = W5 at *
    generalize w4.heap.size = X at *
    go_loopw [9] (fun i wr => ∃ (k : Nat) (v : Value) (out : List Lk), k ≤ rs.length ∧ i = .int .i64 (k : Int) ∧ Hid (out = delR p b (rs.take k)) ∧ out.length ≤ k ∧ Hid (RM w w1 #[.slice (some ⟨ga, oa, none⟩) rs.length c, .slice (some ⟨gb, ob, none⟩) hs.length d] X gn dn hs v out wr)) (fun i _ => rs.length - (intOf i).toNat)
    case atStart => exact ⟨0, _, [], Nat.zero_le _, rfl, Lib.hid rfl, Nat.le_refl _, M5⟩
    case round =>
      obtain ⟨k, v, out, hk, rfl, HO, hok, M⟩ := hrel
      clear M5
      obtain ⟨z5, e50, e51, -, -⟩ := M.out.kT.two
      obtain ⟨z6, f60, f61, q60, q61⟩ := M.out.kX.two
      obtain ⟨g9, c9, hv9, hg9, -, ar9, hc9⟩ := own_routes M.out.row.row M.out.row.nn
      have hwb := M.out.bel.size
      have hwb1 := M.out.row.bel.size
      by_cases hlt : k < rs.length
      · obtain ⟨x, hx⟩ : ∃ x, rs[k]? = some x := ⟨_, List.getElem?_eq_getElem hlt⟩
        obtain ⟨b', off, e', hbb, hc0, hc1, hc2⟩ := (HS.out.below M.out.bel) k x hx
        cases e'
        have hb1 : ga < wr.heap.size := by omega
        have HN := Lib.hid (remR_next hx p b)
        rw [← HO.out] at HN
        have HV9 := Lib.hid hv9
        clear hx hv9 ar9
        obtain ⟨xa, xb, xc⟩ := x
        dsimp only at hc0 hc1 hc2 HN
        have M6 := Lib.hid (M.out.call (W' := (wr.alloc (.cells #[.int .i64 xa, .int .i64 xb, .int .i64 xc] 38)).drew) ((Below.refl _ _).alloc (Nat.le_refl _) _).drew)
        have hXw : w1.heap.size ≤ X := hX4
        have hw2 : w.heap.size + 2 ≤ w1.heap.size := by omega
        by_cases h1 : xa = p
        · by_cases h2 : xb = b
          · have n1 : (xa != p) = false := by simp [h1]
            have n2 : (xb != b) = false := by simp [h2]
            have HN2 : Hid (delR p b (rs.take (k + 1)) = out) := Lib.hid (by rw [HN.out, if_pos ⟨h1, h2⟩, List.append_nil])
            clear HN h1 h2
            go_wp2_with fail
            go_roundw
            case rel => exact ⟨k + 1, v, out, hlt, by go_num, Lib.hid HN2.out.symm, by omega, M⟩
            case measure => simp [intOf]; omega
          · have n1 : (xa != p) = false := by simp [h1]
            have n2 : (xb != b) = true := by simp [h2]
            have HN2 : Hid (delR p b (rs.take (k + 1)) = out ++ [⟨xa, xb, xc⟩]) := Lib.hid (by rw [HN.out, if_neg (fun h => h2 h.2)])
            clear HN h1 h2
            go_wp2_with fail
            go_region_law (first
              | (refine step_appo _ rfl _ _ 28 rfl w1.heap.size 38 i0 _ 3 24 Try.underlying28 hi hz0 hz1 hz2 rfl (by decide) _ out.length (flat out) rfl M6.out.row.row ⟨wr.heap.size, 0, none⟩ 1 1 [.int .i64 xa, .int .i64 xb, .int .i64 xc] rfl rfl (new3 wr (.int .i64 xa) (.int .i64 xb) (.int .i64 xc) 38) (one3 _ _ _) (by unfold maxLen; omega) (by omega) M6.out.row.bel.size ?_; intro v' w9 hown hgrow hnil; have M9 := Lib.hid (M6.out.append (x := ⟨xa, xb, xc⟩) hXw hw2 hown hgrow hnil); have X9 := Lib.hid (M6.out.keepX hgrow); obtain ⟨g7, c7, e7, -, -, -, -⟩ := own_routes (M6.out.row.grown (zs := [⟨xa, xb, xc⟩]) rfl hown hgrow hnil).row (M6.out.row.grown (zs := [⟨xa, xb, xc⟩]) rfl hown hgrow hnil).nn; rw [List.length_append, List.length_singleton] at e7; subst e7; obtain ⟨z9, x90, x91, y90, y91⟩ := X9.out.two; clear hown hgrow hnil))
            all_goals
              go_wp2_with fail
              go_roundw
              case rel => exact ⟨k + 1, _, out ++ [⟨xa, xb, xc⟩], hlt, by go_num, Lib.hid HN2.out.symm, by simp; omega, M9⟩
              case measure => simp [intOf]; omega
        · have n1 : (xa != p) = true := by simp [h1]
          have HN2 : Hid (delR p b (rs.take (k + 1)) = out ++ [⟨xa, xb, xc⟩]) := Lib.hid (by rw [HN.out, if_neg (fun h => h1 h.1)])
          clear HN h1
          go_wp2_with fail
          go_region_law (first
            | (refine step_appo _ rfl _ _ 28 rfl w1.heap.size 38 i0 _ 3 24 Try.underlying28 hi hz0 hz1 hz2 rfl (by decide) _ out.length (flat out) rfl M6.out.row.row ⟨wr.heap.size, 0, none⟩ 1 1 [.int .i64 xa, .int .i64 xb, .int .i64 xc] rfl rfl (new3 wr (.int .i64 xa) (.int .i64 xb) (.int .i64 xc) 38) (one3 _ _ _) (by unfold maxLen; omega) (by omega) M6.out.row.bel.size ?_; intro v' w9 hown hgrow hnil; have M9 := Lib.hid (M6.out.append (x := ⟨xa, xb, xc⟩) hXw hw2 hown hgrow hnil); have X9 := Lib.hid (M6.out.keepX hgrow); obtain ⟨g7, c7, e7, -, -, -, -⟩ := own_routes (M6.out.row.grown (zs := [⟨xa, xb, xc⟩]) rfl hown hgrow hnil).row (M6.out.row.grown (zs := [⟨xa, xb, xc⟩]) rfl hown hgrow hnil).nn; rw [List.length_append, List.length_singleton] at e7; subst e7; obtain ⟨z9, x90, x91, y90, y91⟩ := X9.out.two; clear hown hgrow hnil))
          all_goals
            go_wp2_with fail
            go_roundw
            case rel => exact ⟨k + 1, _, out ++ [⟨xa, xb, xc⟩], hlt, by go_num, Lib.hid HN2.out.symm, by simp; omega, M9⟩
            case measure => simp [intOf]; omega
      · obtain rfl : k = rs.length := by omega
        have hge : ¬ ((rs.length : Int) < (rs.length : Int)) := by omega
        have HO2 := HO.out
        rw [List.take_length] at HO2
        have HO3 := Lib.hid HO2
        subst hv9
        obtain ⟨zl, l0, l1, m0, m1⟩ := M.out.kL.two
        have AR := Lib.hid ar9
        have hzr := ar9.lt
        have hzn := M.out.an.lt
        clear HO2 HO ar9
        go_wp2_with fail
        have nT : ¬ XL (w.heap.size + 1) w.heap.size := fun e => by unfold XL at e; omega
        have nX : ¬ XL (w.heap.size + 1) X := fun e => by unfold XL at e; omega
        have hX0 := fun (y : ExtX (XL (w.heap.size + 1)) wr.drew) => (y.cell w.heap.size 0 z5 nT).trans (show wr.drew.cell? ⟨w.heap.size, 0, none⟩ = _ from e50)
        have hX1 := fun (y : ExtX (XL (w.heap.size + 1)) wr.drew) => (y.cell X 0 z6 nX).trans (show wr.drew.cell? ⟨X, 0, none⟩ = _ from f60)
        have hX2 := fun (y : ExtX (XL (w.heap.size + 1)) wr.drew) => (y.cell X 1 z6 nX).trans (show wr.drew.cell? ⟨X, 1, none⟩ = _ from f61)
        refine wp_region_stx 10 (XL (w.heap.size + 1)) (by kernel_rfl) (by kernel_rfl) ?_
        refine stx_seg _ 2 [0, 1, 2, 3, 4, 5, 6, 7] (by kernel_rfl) (by kernel_rfl) (by kernel_rfl) (by kernel_rfl) ?_
        (simp only [List.map_cons, List.map_nil, List.getElem?_cons_zero, List.getElem?_cons_succ, Option.getD_some]); (repeat (go_big_quiet_step (fail))); (refine wpQuiet_nil ?_)
        clear hX0 hX1 hX2
        refine stx_one _ 1 8 (by kernel_rfl) (by rfl) (by kernel_rfl) (by rfl) ?_
        go_wp2_with fail
        refine ⟨Kx.set2 _ _ _ _, _, fun _ h => h, ?_⟩
        refine stx_seg _ 0 [9] (by kernel_rfl) (by kernel_rfl) (by kernel_rfl) (by kernel_rfl) ?_
        (simp only [List.map_cons, List.map_nil, List.getElem?_cons_zero, List.getElem?_cons_succ, Option.getD_some]); (repeat (go_big_quiet_step (fail))); (refine wpQuiet_nil ?_)
        refine stx_end (by kernel_rfl) ?_
        go_wp2_with fail
        obtain ⟨b2, r0, r1⟩ := ret_two M.out.kL (.slice (some ⟨g9, 0, none⟩) out.length c9) (.slice (some ⟨gn, 0, none⟩) hs.length dn)
        refine bodyPost_ret (v := .tuple #[tbV (some ⟨g9, 0, none⟩) out.length c9 (some ⟨gn, 0, none⟩) hs.length dn, .bool (decide ((out.length : Int) < (rs.length : Int)))]) (by simp [results, Try.results22, go_sem, r0, r1]) rfl ?_
        unfold RemRes
        rw [HF.out.1, HF.out.2.1, HF.out.2.2, ← HO3.out]
        refine ⟨_, by rw [show decide ((out.length : Int) < (rs.length : Int)) = decide (out.length < rs.length) by rw [decide_eq_decide]; omega], some ⟨g9, 0, none⟩, c9, g9, some ⟨gn, 0, none⟩, dn, gn, rfl, by omega, by omega, fun _ => ⟨rfl, ?_⟩, fun _ => ⟨rfl, ?_⟩, ?_, hc9, hdn⟩
        · exact (AR.out.far (p := ⟨w.heap.size + 1, 0, none⟩) (by dsimp only; omega) _).far (p := ⟨w.heap.size + 1, 1, none⟩) (by dsimp only; omega) _
        · exact (M.out.an.setFar (p := ⟨w.heap.size + 1, 0, none⟩) (by dsimp only; omega) _).setFar (p := ⟨w.heap.size + 1, 1, none⟩) (by dsimp only; omega) _
        · exact (M.out.bel.drew.setCell (p := ⟨w.heap.size + 1, 0, none⟩) (Nat.le_succ _) _).setCell (p := ⟨w.heap.size + 1, 1, none⟩) (Nat.le_succ _) _
end Go.Proofs.Ytohflcbpjjnccab
