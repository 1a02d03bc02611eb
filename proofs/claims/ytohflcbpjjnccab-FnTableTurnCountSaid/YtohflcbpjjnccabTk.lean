/-
  Contracts over this seat: TableAdd of the specification.
-/
import Derived.Test.YtohflcbpjjnccabTj
import Derived.Test.YtohflcbpjjnccabTn
namespace Go.Proofs.Ytohflcbpjjnccab
open Go.RowKit Go.Maps

/-- What TableAdd has in memory while it looks for a route's place. -/
structure AM (w : World) (gv rv xv : Array Value) (X g gn cr : Nat) (rs : List Lk) (hs : List Int) (W : World) : Prop where
  kT : Box W w.heap.size 30 gv
  kR : Box W (w.heap.size + 1) 38 rv
  kL : Box W (w.heap.size + 2) 30 #[.slice none 0 0, .slice none 0 0]
  kX : Box W X 30 xv
  ar : Arrt W g rs
  an : Arri W gn hs
  bel : Below w.heap.size w W
  rm : Room W g cr
theorem AM.call {w W W' : World} {gv rv xv : Array Value} {X g gn cr : Nat} {rs : List Lk} {hs : List Int} (h : AM w gv rv xv X g gn cr rs hs W) (hb : Below W.heap.size W W') : AM w gv rv xv X g gn cr rs hs W' :=
  ⟨h.kT.below hb h.kT.lt, h.kR.below hb h.kR.lt, h.kL.below hb h.kL.lt, h.kX.below hb h.kX.lt, h.ar.below hb h.ar.lt, h.an.below hb h.an.lt, h.bel.trans (hb.mono h.bel.size), h.rm.below hb h.rm.lt⟩
/-- A table in memory of the call's own, with room, or one without routes and hops. -/
def NewTW (rs : List Lk) (hs : List Int) (w : World) (v : Value) (w' : World) : Prop :=
  ∃ A c g B d g', v = tbV A rs.length c B hs.length d ∧ w.heap.size ≤ g ∧ w.heap.size ≤ g' ∧ OwT w' A g rs ∧ Own1i w' B g' hs ∧ Below w.heap.size w w' ∧ rs.length ≤ c ∧ hs.length ≤ d ∧ (0 < rs.length → Room w' g c)
theorem NewTW.u {rs : List Lk} {hs : List Int} {w : World} {v : Value} {w' : World} (h : NewTW rs hs w v w') : NewTU rs hs w v w' := by
  obtain ⟨A, c, g, B, d, g', h1, h2, h3, h4, h5, h6, h7, h8, -⟩ := h
  exact ⟨A, c, g, B, d, g', h1, h2, h3, h4, h5, h6, h7, h8⟩
def AddRes (rs : List Lk) (hs : List Int) (r : Lk) (w : World) (e : Ending) (w' : World) : Prop :=
  ∃ v, e = .returned (.tuple #[v, .bool (addB rs hs r)]) ∧ NewTW (addR rs hs r) (addH rs hs r) w v w'
theorem add_no {rs : List Lk} {hs : List Int} {r : Lk} (h : addOk rs hs r = false) : addR rs hs r = [] ∧ addH rs hs r = [] ∧ addB rs hs r = false := by
  unfold addR addH addB
  rw [h]
  exact ⟨rfl, rfl, rfl⟩
theorem add_full {rs : List Lk} {hs : List Int} {r : Lk} (h : addOk rs hs r = true) (hn : hasR r rs = false) (hl : 10 ≤ rs.length) : addR rs hs r = rs ∧ addH rs hs r = hs ∧ addB rs hs r = false := by
  have hb : addB rs hs r = false := by
    unfold addB
    rw [h, hn, decide_eq_false (by omega)]
    rfl
  unfold addR addH
  rw [if_pos h, if_pos h, hb]
  exact ⟨rfl, rfl, rfl⟩
theorem add_go {rs : List Lk} {hs : List Int} {r : Lk} (h : addOk rs hs r = true) (hn : hasR r rs = true ∨ rs.length < 10) : addR rs hs r = insR r rs ∧ addH rs hs r = hs ∧ addB rs hs r = true := by
  have hb : addB rs hs r = true := by
    unfold addB
    rw [h, Bool.true_and, Bool.or_eq_true, decide_eq_true_eq]
    exact hn
  obtain ⟨h1, h2⟩ := add_yes hb
  exact ⟨h1, h2, hb⟩
theorem Arrt.setL {w : World} {g : Nat} {xs : List Lk} (h : Arrt w g xs) {k : Nat} (hk : k < xs.length) (y : Lk) :
    Arrt (((w.setCell ⟨g, k * 3, none⟩ (.int .i64 y.a)).setCell ⟨g, k * 3 + 1, none⟩ (.int .i64 y.b)).setCell ⟨g, k * 3 + 2, none⟩ (.int .i64 y.c)) g (xs.set k y) := by
  obtain ⟨cs, hh, hc⟩ := h
  refine ⟨_, heap_set (heap_set (heap_set hh (k * 3) (.int .i64 y.a)) (k * 3 + 1) (.int .i64 y.b)) (k * 3 + 2) (.int .i64 y.c), fun j l hj => ?_⟩
  have hks := (Array.getElem?_eq_some_iff.1 (hc k _ (List.getElem?_eq_getElem hk)).2.2).1
  simp only [Array.getElem?_setIfInBounds, Array.size_setIfInBounds]
  by_cases e : j = k
  · subst e
    rw [List.getElem?_set_self hk] at hj
    cases hj
    refine ⟨?_, ?_, ?_⟩
    · rw [if_neg (by omega), if_neg (by omega), if_pos rfl, if_pos (by omega)]
    · rw [if_neg (by omega), if_pos rfl, if_pos (by omega)]
    · rw [if_pos rfl, if_pos (by omega)]
  · rw [List.getElem?_set_ne (fun x => e x.symm)] at hj
    obtain ⟨c0, c1, c2⟩ := hc j l hj
    refine ⟨?_, ?_, ?_⟩
    · rw [if_neg (by omega), if_neg (by omega), if_neg (by omega)]; exact c0
    · rw [if_neg (by omega), if_neg (by omega), if_neg (by omega)]; exact c1
    · rw [if_neg (by omega), if_neg (by omega), if_neg (by omega)]; exact c2
theorem new3b {W : World} {Q t : Nat} {a b c : Value} (h : Box W Q t #[a, b, c]) : ∀ j u, [a, b, c][j]? = some u → W.cell? ((⟨Q, 0, none⟩ : Addr).add j) = some u := by
  intro j u hu
  have e : (⟨Q, 0, none⟩ : Addr).add j = ⟨Q, j, none⟩ := by
    unfold Addr.add
    by_cases hj : j = 0 <;> simp [hj]
  rw [e]
  match j, hu with
  | 0, hu => cases hu; exact h.cell 0
  | 1, hu => cases hu; exact h.cell 1
  | 2, hu => cases hu; exact h.cell 2
  | _ + 3, hu => simp at hu
theorem Arrt.frozen {W : World} {g : Nat} {xs : List Lk} (h : Arrt W g xs) (i : Nat) : W.frozen? ⟨g, i, none⟩ = false := by
  obtain ⟨cs, hh, _⟩ := h
  exact heap_frozen hh i
theorem Arrt.cells {W : World} {g : Nat} {xs : List Lk} (h : Arrt W g xs) {k : Nat} {x : Lk} (hx : xs[k]? = some x) : W.cell? ⟨g, k * 3, none⟩ = some (.int .i64 x.a) ∧ W.cell? ⟨g, k * 3 + 1, none⟩ = some (.int .i64 x.b) ∧ W.cell? ⟨g, k * 3 + 2, none⟩ = some (.int .i64 x.c) := by
  obtain ⟨cs, hh, hc⟩ := h
  obtain ⟨h1, h2, h3⟩ := hc k x hx
  exact ⟨by rw [cell_of_row W g _ cs _ _ hh]; exact h1, by rw [cell_of_row W g _ cs _ _ hh]; exact h2, by rw [cell_of_row W g _ cs _ _ hh]; exact h3⟩

set_option maxRecDepth 100000 in
set_option maxHeartbeats 6400000 in
theorem tableAdd_spec (ga oa : Nat) (rs : List Lk) (c : Nat) (gb ob : Nat) (hs : List Int) (d : Nat) (r : Lk) (w : World) (hm : rs.length ≤ 1048576) (hmh : hs.length ≤ 1048576) (hcc : rs.length ≤ c) (hS : Sl w w.heap.size (some ⟨ga, oa, none⟩) rs) (hI : Sli w w.heap.size (some ⟨gb, ob, none⟩) hs) :
   Calls Try.prog 17 #[tbV (some ⟨ga, oa, none⟩) rs.length c (some ⟨gb, ob, none⟩) hs.length d, rtV r] w (AddRes rs hs r w) := by
  obtain ⟨i0, hi, iz0, iz1, iz2⟩ := info_parts infoRoute
  have CV := fun W h1 h2 => tableValid_spec (some ⟨ga, oa, none⟩) rs c (some ⟨gb, ob, none⟩) hs d W hm hmh h1 h2
  have CR := fun W => l23route_any r hs.length W (by omega)
  have CLX := fun (x : Lk) W => l23less_any x r W
  have CLR := fun (x : Lk) W => l23less_any r x W
  have HE : Hid (addOk rs hs r = (tbB rs hs && rtB hs.length r)) := Lib.hid rfl
  have HR0 := Lib.hid (rfl : r = r)
  obtain ⟨ra, rb, rc⟩ := r
  dsimp only [rtV] at CR CLX CLR ⊢
  have B0 : Below w.heap.size w (((w.alloc (.cells #[.slice (some ⟨ga, oa, none⟩) rs.length c, .slice (some ⟨gb, ob, none⟩) hs.length d] 30)).alloc (.cells #[.int .i64 ra, .int .i64 rb, .int .i64 rc] 38)).alloc (.cells #[.slice none 0 0, .slice none 0 0] 30)) := by (repeat (first | exact Below.refl _ _ | (refine Below.alloc ?_ (by first | exact Nat.le_refl _ | omega | (simp; done) | (simp; omega)) _) | (refine Below.setCell ?_ (by first | exact Nat.le_refl _ | omega | (simp; done) | (simp; omega)) _) | exact Below.drew ‹_›))
  have HK := Lib.hid (((Box.new w 30 #[.slice (some ⟨ga, oa, none⟩) rs.length c, .slice (some ⟨gb, ob, none⟩) hs.length d]).alloc (.cells #[.int .i64 ra, .int .i64 rb, .int .i64 rc] 38)).alloc (.cells #[.slice none 0 0, .slice none 0 0] 30))
  have R0 := (Box.new (w.alloc (.cells #[.slice (some ⟨ga, oa, none⟩) rs.length c, .slice (some ⟨gb, ob, none⟩) hs.length d] 30)) 38 #[.int .i64 ra, .int .i64 rb, .int .i64 rc]).alloc (.cells #[.slice none 0 0, .slice none 0 0] 30)
  have L0 := Box.new ((w.alloc (.cells #[.slice (some ⟨ga, oa, none⟩) rs.length c, .slice (some ⟨gb, ob, none⟩) hs.length d] 30)).alloc (.cells #[.int .i64 ra, .int .i64 rb, .int .i64 rc] 38)) 30 #[.slice none 0 0, .slice none 0 0]
  simp only [World.size_alloc] at R0 L0
  have HR := Lib.hid R0
  have HL := Lib.hid L0
  have HS := Lib.hid hS
  have HI := Lib.hid hI
  have HB := Lib.hid B0
  clear hS hI B0 L0 R0 HR0
  cases hv : tbB rs hs with
  | false =>
    rw [hv] at CV
    have HF := Lib.hid (add_no (rs := rs) (hs := hs) (r := ⟨ra, rb, rc⟩) (by rw [HE.out, hv]; rfl))
    clear hv HE
    go_enter Try.func17, Try.ntmps17
    go_wp2_with fail
    refine (CV _ ((HS.out.below HB.out).more HB.out.size) ((HI.out.below HB.out).more HB.out.size)).mono ?_
    clear CV
    rintro e w1 ⟨rfl, hb1⟩
    have B1 := Lib.hid (HB.out.trans (hb1.mono HB.out.size))
    have K1 := Lib.hid (HK.out.below hb1 HK.out.lt)
    have R1 := Lib.hid (HR.out.below hb1 HR.out.lt)
    have L1 := Lib.hid (HL.out.below hb1 HL.out.lt)
    clear hb1
    obtain ⟨z1, e10, e11, -, -⟩ := K1.out.two
    obtain ⟨zr, p10, p11, p12, -, -, -⟩ := R1.out.trip
    obtain ⟨z9, f0, f1, q0, q1⟩ := L1.out.two
    go_wp2_with fail
    obtain ⟨b2, r0, r1⟩ := ret_two L1.out (.slice none 0 0) (.slice none 0 0)
    refine bodyPost_ret (v := .tuple #[tbV none 0 0 none 0 0, .bool false]) (by simp [results, Try.results17, go_sem, r0, r1]) rfl ?_
    unfold AddRes
    rw [HF.out.1, HF.out.2.1, HF.out.2.2]
    exact ⟨_, rfl, none, 0, w.heap.size, none, 0, w.heap.size, rfl, Nat.le_refl _, Nat.le_refl _, fun h => by simp at h, fun h => by simp at h, (B1.out.setCell (p := ⟨w.heap.size + 2, 0, none⟩) (by dsimp only; omega) _).setCell (p := ⟨w.heap.size + 2, 1, none⟩) (by dsimp only; omega) _, Nat.le_refl _, Nat.le_refl _, fun h => by simp at h⟩
  | true =>
    rw [hv] at CV
    cases hr : rtB hs.length ⟨ra, rb, rc⟩ with
    | false =>
      rw [hr] at CR
      have HF := Lib.hid (add_no (rs := rs) (hs := hs) (r := ⟨ra, rb, rc⟩) (by rw [HE.out, hv, hr]; rfl))
      clear hv hr HE
      go_enter Try.func17, Try.ntmps17
      go_wp2_with fail
      refine (CV _ ((HS.out.below HB.out).more HB.out.size) ((HI.out.below HB.out).more HB.out.size)).mono ?_
      clear CV
      rintro e w1 ⟨rfl, hb1⟩
      have B1 := Lib.hid (HB.out.trans (hb1.mono HB.out.size))
      have K1 := Lib.hid (HK.out.below hb1 HK.out.lt)
      have R1 := Lib.hid (HR.out.below hb1 HR.out.lt)
      have L1 := Lib.hid (HL.out.below hb1 HL.out.lt)
      clear hb1
      obtain ⟨z1, e10, e11, -, -⟩ := K1.out.two
      obtain ⟨zr, p10, p11, p12, -, -, -⟩ := R1.out.trip
      go_wp2_with fail
      refine (CR _).mono ?_
      clear CR
      rintro e w2 ⟨rfl, hb2⟩
      have B2 := Lib.hid (B1.out.trans (hb2.mono B1.out.size))
      have K2 := Lib.hid (K1.out.below hb2 K1.out.lt)
      have R2 := Lib.hid (R1.out.below hb2 R1.out.lt)
      have L2 := Lib.hid (L1.out.below hb2 L1.out.lt)
      clear hb2 e10 e11 p10 p11 p12 zr z1 K1 R1 L1 B1
      obtain ⟨z9, f0, f1, q0, q1⟩ := L2.out.two
      go_wp2_with fail
      obtain ⟨b2, r0, r1⟩ := ret_two L2.out (.slice none 0 0) (.slice none 0 0)
      refine bodyPost_ret (v := .tuple #[tbV none 0 0 none 0 0, .bool false]) (by simp [results, Try.results17, go_sem, r0, r1]) rfl ?_
      unfold AddRes
      rw [HF.out.1, HF.out.2.1, HF.out.2.2]
      exact ⟨_, rfl, none, 0, w.heap.size, none, 0, w.heap.size, rfl, Nat.le_refl _, Nat.le_refl _, fun h => by simp at h, fun h => by simp at h, (B2.out.setCell (p := ⟨w.heap.size + 2, 0, none⟩) (by dsimp only; omega) _).setCell (p := ⟨w.heap.size + 2, 1, none⟩) (by dsimp only; omega) _, Nat.le_refl _, Nat.le_refl _, fun h => by simp at h⟩
    | true =>
      rw [hr] at CR
      have HOK : Hid (addOk rs hs ⟨ra, rb, rc⟩ = true) := Lib.hid (by rw [HE.out, hv, hr]; rfl)
      have HASC := Lib.hid (tbB_iff.1 hv).2.2.1
      have CC := fun W h1 h2 => l23copy_any ga oa rs c gb ob hs d W hm hmh h1 h2
      clear hv hr HE
      go_enter Try.func17, Try.ntmps17
      go_wp2_with fail
      refine (CV _ ((HS.out.below HB.out).more HB.out.size) ((HI.out.below HB.out).more HB.out.size)).mono ?_
      clear CV
      rintro e w1 ⟨rfl, hb1⟩
      have B1 := Lib.hid (HB.out.trans (hb1.mono HB.out.size))
      have K1 := Lib.hid (HK.out.below hb1 HK.out.lt)
      have R1 := Lib.hid (HR.out.below hb1 HR.out.lt)
      have L1 := Lib.hid (HL.out.below hb1 HL.out.lt)
      clear hb1
      obtain ⟨z1, e10, e11, -, -⟩ := K1.out.two
      obtain ⟨zr, p10, p11, p12, -, -, -⟩ := R1.out.trip
      go_wp2_with fail
      refine (CR _).mono ?_
      clear CR
      rintro e w2 ⟨rfl, hb2⟩
      have B2 := Lib.hid (B1.out.trans (hb2.mono B1.out.size))
      have K2 := Lib.hid (K1.out.below hb2 K1.out.lt)
      have R2 := Lib.hid (R1.out.below hb2 R1.out.lt)
      have L2 := Lib.hid (L1.out.below hb2 L1.out.lt)
      clear hb2 e10 e11 p10 p11 p12 zr z1 K1 R1 L1 B1
      obtain ⟨z2, e20, e21, -, -⟩ := K2.out.two
      go_wp2_with fail
      refine (CC _ ((HS.out.below B2.out).more B2.out.size) ((HI.out.below B2.out).more B2.out.size)).mono ?_
      clear CC
      rintro e w3 ⟨v, rfl, g, cr, gn, dn, rfl, hg, hgn, har, han, hb3, hcr, hdn, hrm⟩
      have hz2 := L2.out.lt
      have hw3 := hb3.size
      have M4 := Lib.hid (show AM w #[.slice (some ⟨ga, oa, none⟩) rs.length c, .slice (some ⟨gb, ob, none⟩) hs.length d] #[.int .i64 ra, .int .i64 rb, .int .i64 rc] #[.slice (some ⟨g, 0, none⟩) rs.length cr, .slice (some ⟨gn, 0, none⟩) hs.length dn] w3.heap.size g gn cr rs hs (w3.alloc (.cells #[.slice (some ⟨g, 0, none⟩) rs.length cr, .slice (some ⟨gn, 0, none⟩) hs.length dn] 30)) from
        ⟨(K2.out.below hb3 K2.out.lt).alloc _, (R2.out.below hb3 R2.out.lt).alloc _, (L2.out.below hb3 L2.out.lt).alloc _, Box.new w3 _ _, har.below ((Below.refl _ _).alloc (Nat.le_refl _) _) har.lt, han.below ((Below.refl _ _).alloc (Nat.le_refl _) _) han.lt, (B2.out.trans (hb3.mono B2.out.size)).alloc (Nat.le_trans B2.out.size hw3) _, hrm.below ((Below.refl _ _).alloc (Nat.le_refl _) _) hrm.lt⟩)
      clear hb3 har han hrm e20 e21 z2 K2 R2 L2 B2
      go_wp2_with fail
      generalize w3.alloc (.cells #[.slice (some ⟨g, 0, none⟩) rs.length cr, .slice (some ⟨gn, 0, none⟩) hs.length dn] 30) = W5 at *
      have hXs : w.heap.size + 3 ≤ w3.heap.size := by omega
      have hgs : w.heap.size + 3 ≤ g ∧ w.heap.size + 3 ≤ gn := by omega
      generalize w3.heap.size = X at *
      go_loopw [7] (fun i wr => ∃ k : Nat, k ≤ rs.length ∧ i = .int .i64 (k : Int) ∧ Hid (∀ j y, j < k → rs[j]? = some y → rtLt y ⟨ra, rb, rc⟩ = true) ∧ Hid (AM w #[.slice (some ⟨ga, oa, none⟩) rs.length c, .slice (some ⟨gb, ob, none⟩) hs.length d] #[.int .i64 ra, .int .i64 rb, .int .i64 rc] #[.slice (some ⟨g, 0, none⟩) rs.length cr, .slice (some ⟨gn, 0, none⟩) hs.length dn] X g gn cr rs hs wr)) (fun i _ => rs.length - (intOf i).toNat)
      case atStart => exact ⟨0, Nat.zero_le _, rfl, Lib.hid (fun j y h => by omega), M4⟩
      case round =>
        obtain ⟨k, hk, rfl, HJ, M⟩ := hrel
        clear M4
        obtain ⟨z5, e50, e51, -, -⟩ := M.out.kT.two
        obtain ⟨z6, p60, p61, p62, -, -, -⟩ := M.out.kR.trip
        have hwb := M.out.bel.size
        by_cases hlt : k < rs.length
        · obtain ⟨x, hx⟩ : ∃ x, rs[k]? = some x := ⟨_, List.getElem?_eq_getElem hlt⟩
          obtain ⟨b, off, e', hbb, hc0, hc1, hc2⟩ := (HS.out.below M.out.bel) k x hx
          cases e'
          have hb1 : ga < wr.heap.size := by omega
          have CL := fun W => CLX x W
          have CM := fun W => CLR x W
          have HX := Lib.hid hx
          obtain ⟨xa, xb, xc⟩ := x
          dsimp only at hc0 hc1 hc2 CL CM
          have hX := fun (x : Ext wr) (bb o : Nat) (h : bb < wr.heap.size) => x.cell bb o h
          clear hx CLX CLR
          cases hless : rtLt ⟨xa, xb, xc⟩ ⟨ra, rb, rc⟩ with
          | true =>
            rw [hless] at CL
            have HL1 := Lib.hid hless
            clear hless CM
            go_wp2_with fail
            refine wp_region_ext (by kernel_rfl) (by kernel_rfl) ?_
            repeat (go_big_quiet_step (first | (go_at_call 37; exact Calls.ext_of (CL _))))
            (refine wpQuiet_nil ?_); (rintro _ ⟨X, rfl⟩); (have hw1 := X.below); (generalize X.w = w1 at *); (clear X)
            clear hX
            have M5 := Lib.hid (M.out.call hw1)
            clear hw1 M
            go_wp2_with fail
            go_roundw
            case rel => exact ⟨k + 1, hlt, by go_num, Lib.hid (fun j y hj hy => by
              by_cases e : j < k
              · exact HJ.out j y e hy
              · obtain rfl : j = k := by omega
                rw [HX.out] at hy
                cases hy
                exact HL1.out), M5⟩
            case measure => simp [intOf]; omega
          | false =>
            rw [hless] at CL
            have HL1 := Lib.hid hless
            clear hless
            go_wp2_with fail
            refine wp_region_ext (by kernel_rfl) (by kernel_rfl) ?_
            repeat (go_big_quiet_step (first | (go_at_call 37; exact Calls.ext_of (CL _))))
            (refine wpQuiet_nil ?_); (rintro _ ⟨X, rfl⟩); (have hw1 := X.below); (generalize X.w = w1 at *); (clear X)
            clear hX CL
            have M5 := Lib.hid (M.out.call hw1)
            have hwz := hw1.size
            clear hw1 M e50 e51 z5 p60 p61 p62 z6 hc0 hc1 hc2 hb1
            obtain ⟨z5, e50, e51, -, -⟩ := M5.out.kT.two
            obtain ⟨z6, p60, p61, p62, -, -, -⟩ := M5.out.kR.trip
            obtain ⟨b', off', e', hbb', hc0, hc1, hc2⟩ := (HS.out.below M5.out.bel) k _ HX.out
            cases e'
            dsimp only at hc0 hc1 hc2
            have hwb5 := M5.out.bel.size
            have hb1 : ga < w1.heap.size := by omega
            have hX := fun (x : Ext w1) (bb o : Nat) (h : bb < w1.heap.size) => x.cell bb o h
            cases hm2 : rtLt ⟨ra, rb, rc⟩ ⟨xa, xb, xc⟩ with
            | false =>
              rw [hm2] at CM
              have HF := Lib.hid (add_go HOK.out (.inl (ins_here HJ.out HX.out HL1.out hm2).2))
              have HI2 := Lib.hid (ins_here HJ.out HX.out HL1.out hm2).1
              clear hm2
              go_wp2_with fail
              refine wp_region_ext (by kernel_rfl) (by kernel_rfl) ?_
              repeat (go_big_quiet_step (first | (go_at_call 37; exact Calls.ext_of (CM _))))
              refine wpQuiet_nil ?_
              rintro _ ⟨X9, rfl⟩
              have hw9 := X9.below
              generalize X9.w = w9 at *
              clear X9
              clear hX CM
              have M9 := Lib.hid (M5.out.call hw9)
              clear hw9 M5 e50 e51 z5 p60 p61 p62 z6 hc0 hc1 hc2 hb1
              obtain ⟨zt, t0, t1, -, -⟩ := M9.out.kT.two
              have hgX : g ≠ X := by
                rintro rfl
                obtain ⟨cs, hh, _⟩ := M9.out.ar
                have := hh.symm.trans M9.out.kX
                simp at this
              have hXg : X ≠ g := fun e => hgX e.symm
              have hLg : w.heap.size + 2 ≠ g := by omega
              have hLX : w.heap.size + 2 ≠ X := by omega
              obtain ⟨zl, l0, l1, m0, m1⟩ := M9.out.kL.two
              obtain ⟨zx, x0, x1, n0, n1⟩ := M9.out.kX.two
              obtain ⟨zq, q0, q1, q2, -, -, -⟩ := M9.out.kR.trip
              have hzg := M9.out.ar.lt
              have hzn := M9.out.an.lt
              obtain ⟨c0, c1, c2⟩ := M9.out.ar.cells HX.out
              have f0 := M9.out.ar.frozen (k * 3)
              have f1 := M9.out.ar.frozen (k * 3 + 1)
              have f2 := M9.out.ar.frozen (k * 3 + 2)
              have hlti : (k : Int) < (rs.length : Int) := by omega
              have hkc : k < cr := by omega
              dsimp only at c0 c1 c2
              go_wp2_with fail
              have L9 := Lib.hid (((M9.out.kL.setFar (p := ⟨g, k * 3, none⟩) (by dsimp only; omega) (.int .i64 ra)).setFar (p := ⟨g, k * 3 + 1, none⟩) (by dsimp only; omega) (.int .i64 rb)).setFar (p := ⟨g, k * 3 + 2, none⟩) (by dsimp only; omega) (.int .i64 rc))
              obtain ⟨b2, r0, r1⟩ := ret_two L9.out (.slice (some ⟨g, 0, none⟩) rs.length cr) (.slice (some ⟨gn, 0, none⟩) hs.length dn)
              refine bodyPost_ret (v := .tuple #[tbV (some ⟨g, 0, none⟩) rs.length cr (some ⟨gn, 0, none⟩) hs.length dn, .bool true]) (by simp [results, Try.results17, go_sem, r0, r1]) rfl ?_
              unfold AddRes
              rw [HF.out.1, HF.out.2.1, HF.out.2.2, HI2.out]
              refine ⟨_, rfl, some ⟨g, 0, none⟩, cr, g, some ⟨gn, 0, none⟩, dn, gn, by rw [List.length_set], by omega, by omega, fun _ => ⟨rfl, ?_⟩, fun _ => ⟨rfl, ?_⟩, ?_, by rw [List.length_set]; exact hcr, hdn, fun _ => ?_⟩
              · exact ((M9.out.ar.setL hlt ⟨ra, rb, rc⟩).far (p := ⟨w.heap.size + 2, 0, none⟩) (by dsimp only; omega) _).far (p := ⟨w.heap.size + 2, 1, none⟩) (by dsimp only; omega) _
              · have hne := arr_ne M9.out.ar M9.out.an
                exact ((((M9.out.an.setFar (p := ⟨g, k * 3, none⟩) (fun e => hne e.symm) _).setFar (p := ⟨g, k * 3 + 1, none⟩) (fun e => hne e.symm) _).setFar (p := ⟨g, k * 3 + 2, none⟩) (fun e => hne e.symm) _).setFar (p := ⟨w.heap.size + 2, 0, none⟩) (by dsimp only; omega) _).setFar (p := ⟨w.heap.size + 2, 1, none⟩) (by dsimp only; omega) _
              · exact ((((M9.out.bel.setCell (p := ⟨g, k * 3, none⟩) (by dsimp only; omega) _).setCell (p := ⟨g, k * 3 + 1, none⟩) (by dsimp only; omega) _).setCell (p := ⟨g, k * 3 + 2, none⟩) (by dsimp only; omega) _).setCell (p := ⟨w.heap.size + 2, 0, none⟩) (by dsimp only; omega) _).setCell (p := ⟨w.heap.size + 2, 1, none⟩) (by dsimp only; omega) _
              · exact ((((M9.out.rm.set (k * 3) _).set (k * 3 + 1) _).set (k * 3 + 2) _).far (p := ⟨w.heap.size + 2, 0, none⟩) (by dsimp only; omega) _).far (p := ⟨w.heap.size + 2, 1, none⟩) (by dsimp only; omega) _
            | true =>
              rw [hm2] at CM
              have HNO := Lib.hid (has_no HASC.out HJ.out (.inr ⟨_, HX.out, HL1.out, hm2⟩))
              have HINS := Lib.hid (ins_behind HJ.out (Nat.le_of_lt hlt) (.inr ⟨_, HX.out, HL1.out, hm2⟩))
              clear hm2
              go_wp2_with fail
              refine wp_region_ext (by kernel_rfl) (by kernel_rfl) ?_
              repeat (go_big_quiet_step (first | (go_at_call 37; exact Calls.ext_of (CM _))))
              refine wpQuiet_nil ?_
              rintro _ ⟨X9, rfl⟩
              have hw9 := X9.below
              generalize X9.w = w9 at *
              clear X9
              clear hX CM
              have M9 := Lib.hid (M5.out.call hw9)
              clear hw9 M5 e50 e51 z5 p60 p61 p62 z6 hc0 hc1 hc2 hb1
              by_cases h10 : 10 ≤ rs.length
              · obtain ⟨zt, t0, t1, -, -⟩ := M9.out.kT.two
                have hgX : g ≠ X := by
                  rintro rfl
                  obtain ⟨cs, hh, _⟩ := M9.out.ar
                  have := hh.symm.trans M9.out.kX
                  simp at this
                have hXg : X ≠ g := fun e => hgX e.symm
                have hLg : w.heap.size + 2 ≠ g := by omega
                have hLX : w.heap.size + 2 ≠ X := by omega
                obtain ⟨zl, l0, l1, m0, m1⟩ := M9.out.kL.two
                obtain ⟨zx, x0, x1, n0, n1⟩ := M9.out.kX.two
                obtain ⟨zq, q0, q1, q2, -, -, -⟩ := M9.out.kR.trip
                have hzg := M9.out.ar.lt
                have hzn := M9.out.an.lt
                have HF := Lib.hid (add_full HOK.out HNO.out h10)
                have h10i : (rs.length : Int) ≥ 10 := by omega
                go_wp2_with fail
                obtain ⟨b2, r0, r1⟩ := ret_two M9.out.kL (.slice (some ⟨g, 0, none⟩) rs.length cr) (.slice (some ⟨gn, 0, none⟩) hs.length dn)
                refine bodyPost_ret (v := .tuple #[tbV (some ⟨g, 0, none⟩) rs.length cr (some ⟨gn, 0, none⟩) hs.length dn, .bool false]) (by simp [results, Try.results17, go_sem, r0, r1]) rfl ?_
                unfold AddRes
                rw [HF.out.1, HF.out.2.1, HF.out.2.2]
                refine ⟨_, rfl, some ⟨g, 0, none⟩, cr, g, some ⟨gn, 0, none⟩, dn, gn, rfl, by omega, by omega, fun _ => ⟨rfl, ?_⟩, fun _ => ⟨rfl, ?_⟩, ?_, hcr, hdn, fun _ => ?_⟩
                · exact (M9.out.ar.far (p := ⟨w.heap.size + 2, 0, none⟩) (by dsimp only; omega) _).far (p := ⟨w.heap.size + 2, 1, none⟩) (by dsimp only; omega) _
                · exact (M9.out.an.setFar (p := ⟨w.heap.size + 2, 0, none⟩) (by dsimp only; omega) _).setFar (p := ⟨w.heap.size + 2, 1, none⟩) (by dsimp only; omega) _
                · exact (M9.out.bel.setCell (p := ⟨w.heap.size + 2, 0, none⟩) (by dsimp only; omega) _).setCell (p := ⟨w.heap.size + 2, 1, none⟩) (by dsimp only; omega) _
                · exact (M9.out.rm.far (p := ⟨w.heap.size + 2, 0, none⟩) (by dsimp only; omega) _).far (p := ⟨w.heap.size + 2, 1, none⟩) (by dsimp only; omega) _
              · obtain ⟨zt, t0, t1, -, -⟩ := M9.out.kT.two
                obtain ⟨zq, q0, q1, q2, -, -, -⟩ := M9.out.kR.trip
                have HF := Lib.hid (add_go HOK.out (.inr (show rs.length < 10 by omega)))
                have h10i : ¬ (rs.length : Int) ≥ 10 := by omega
                have hkc : k ≤ c := by omega
                have hki : (k : Int) ≤ (rs.length : Int) := by omega
                have HSD := Lib.hid (show Sl w9.drew w.heap.size (some ⟨ga, oa, none⟩) rs from HS.out.below M9.out.bel.drew)
                have HSD := Lib.hid (HSD.out.more (show w.heap.size ≤ w9.drew.heap.size from M9.out.bel.size))
                have MD := Lib.hid (M9.out.call (Below.refl w9.heap.size w9).drew)
                have zt3 : w.heap.size < w.heap.size + 3 := by omega
                have zq3 : w.heap.size + 1 < w.heap.size + 3 := by omega
                have hwd3 : w.heap.size + 3 ≤ w9.drew.heap.size := by have := M9.out.kX.lt; show _ ≤ w9.heap.size; omega
                go_wp2_with fail
                by_cases hcap : c = k
                · exfalso; omega
                · have hcap' : ¬ c = k := hcap
                  have hkc2 : k < c := by omega
                  have hX0 := fun (y : ExtB (w.heap.size + 3) w9.drew) => (y.cell w.heap.size 0 zt3).trans (show w9.drew.cell? ⟨w.heap.size, 0, none⟩ = _ from t0)
                  have hX1 := fun (y : ExtB (w.heap.size + 3) w9.drew) => (y.cell (w.heap.size + 1) 0 zq3).trans (show w9.drew.cell? ⟨w.heap.size + 1, 0, none⟩ = _ from q0)
                  have hX2 := fun (y : ExtB (w.heap.size + 3) w9.drew) => (y.cell (w.heap.size + 1) 1 zq3).trans (show w9.drew.cell? ⟨w.heap.size + 1, 1, none⟩ = _ from q1)
                  have hX3 := fun (y : ExtB (w.heap.size + 3) w9.drew) => (y.cell (w.heap.size + 1) 2 zq3).trans (show w9.drew.cell? ⟨w.heap.size + 1, 2, none⟩ = _ from q2)
                  refine wp_region_stg 16 (w.heap.size + 3) (by kernel_rfl) (by kernel_rfl) ?_
                  refine stg_seg _ 7 [1, 2, 3, 4, 6, 9, 10, 11, 12] (by kernel_rfl) (by kernel_rfl) (by kernel_rfl) (by kernel_rfl) ?_
                  (simp only [List.map_cons, List.map_nil, List.getElem?_cons_zero, List.getElem?_cons_succ, Option.getD_some]); (repeat (go_big_quiet_step (fail))); (refine wpQuiet_nil ?_)
                  clear hX0 hX1 hX2 hX3 t0 zt zq q0 q1 q2
                  generalize w9.drew = wd at *
                  refine stg_two _ 6 0 7 (by rfl) (by rfl) (by rfl) (by kernel_rfl) (by rfl) (by rfl) ?_ ?_
                  · go_wp2_with fail
                    have Z1 := Lib.hid (show Below wd.heap.size wd (wd.alloc (.cells #[] 38)) from (Below.refl _ _).alloc (Nat.le_refl _) _)
                    refine ⟨Z1.out.mono (by omega), _, Nat.le_refl _, ?_⟩
                    have Q1 := Lib.hid (QT.made (w := wd) (W := wd) (Below.refl wd.heap.size wd))
                    have Y1 := Lib.hid (show wd.heap.size < (wd.alloc (.cells #[] 38)).heap.size by simp)
                    generalize wd.alloc (.cells #[] 38) = u1 at *
                    refine stg_two _ 5 5 7 (by rfl) (by rfl) (by rfl) (by kernel_rfl) (by rfl) (by rfl) ?_ ?_
                    · refine wp_append_own _ _ _ 28 rfl wd.heap.size 38 i0 _ 3 24 Try.underlying28 hi iz0 iz1 iz2 rfl (by decide) _ 0 (flat []) rfl Q1.out.row ⟨ga, oa, none⟩ k c (flat (rs.take k)) rfl (by rw [flat_len, List.length_take]; congr 1; omega) ((HSD.out.take k).below Q1.out.bel).flat (flat_one _) (by unfold maxLen; first | omega | (simp; omega)) (by first | omega | (simp; omega)) Q1.out.bel.size ?_
                      intro v2 u2 ho2 hg2 hn2
                      have Q2 := Lib.hid (Q1.out.grown (zs := rs.take k) (show k = (rs.take k).length by rw [List.length_take]; omega) ho2 hg2 hn2)
                      refine ⟨((Below.refl wd.heap.size _).grown hg2 Q1.out.bel.size (fun j e => (Q1.out.row.lt j e).1)).mono (by omega), _, Nat.le_refl _, ?_⟩
                      clear ho2 hg2 hn2
                      refine stg_one _ 4 7 (by kernel_rfl) (by rfl) (by kernel_rfl) (by rfl) ?_
                      go_wp2_with fail
                      have Z3 := Lib.hid (show Below u2.heap.size u2 (u2.alloc (.cells #[.int .i64 ra, .int .i64 rb, .int .i64 rc] 38)) from (Below.refl _ _).alloc (Nat.le_refl _) _)
                      refine ⟨Z3.out.mono (by have := Q2.out.bel.size; omega), _, Nat.le_refl _, ?_⟩
                      have X3 := Lib.hid (Box.new u2 38 #[.int .i64 ra, .int .i64 rb, .int .i64 rc])
                      have Q3 := Lib.hid (Q2.out.call Z3.out)
                      generalize u2.alloc (.cells #[.int .i64 ra, .int .i64 rb, .int .i64 rc] 38) = u3 at *
                      refine stg_one _ 3 8 (by kernel_rfl) (by rfl) (by kernel_rfl) (by rfl) ?_
                      refine wp_append_own _ _ _ 28 rfl wd.heap.size 38 i0 _ 3 24 Try.underlying28 hi iz0 iz1 iz2 rfl (by decide) _ _ _ rfl Q3.out.row ⟨u2.heap.size, 0, none⟩ 1 1 [.int .i64 ra, .int .i64 rb, .int .i64 rc] rfl rfl (new3b X3.out) (one3 _ _ _) (by unfold maxLen; first | omega | (simp; omega)) (by first | omega | (simp; omega)) Q3.out.bel.size ?_
                      intro v4 u4 ho4 hg4 hn4
                      have Q4 := Lib.hid (Q3.out.grown (zs := [⟨ra, rb, rc⟩]) rfl ho4 hg4 hn4)
                      refine ⟨((Below.refl wd.heap.size _).grown hg4 Q3.out.bel.size (fun j e => (Q3.out.row.lt j e).1)).mono (by omega), _, Nat.le_refl _, ?_⟩
                      clear ho4 hg4 hn4
                      refine stg_one _ 2 13 (by kernel_rfl) (by rfl) (by kernel_rfl) (by rfl) ?_
                      refine wp_append_own _ _ _ 28 rfl wd.heap.size 38 i0 _ 3 24 Try.underlying28 hi iz0 iz1 iz2 rfl (by decide) _ _ _ rfl Q4.out.row ⟨ga, oa + k * 3, none⟩ (rs.length - k) (c - k) (flat (rs.drop k)) rfl (by rw [flat_len, List.length_drop]) ((HSD.out.drop k).below Q4.out.bel).flat (flat_one _) (by unfold maxLen; first | omega | (simp; omega)) (by first | omega | (simp; omega)) Q4.out.bel.size ?_
                      intro v5 u5 ho5 hg5 hn5
                      have Q5 := Lib.hid (Q4.out.grown (zs := rs.drop k) (show (rs.length - k) = (rs.drop k).length by rw [List.length_drop]) ho5 hg5 hn5)
                      refine ⟨((Below.refl wd.heap.size _).grown hg5 Q4.out.bel.size (fun j e => (Q4.out.row.lt j e).1)).mono (by omega), _, Nat.le_refl _, ?_⟩
                      clear ho5 hg5 hn5
                      have QF := Lib.hid (Q5.out)
                      rw [List.nil_append] at QF
                      have HOUT := Lib.hid (show (rs.take k ++ [(⟨ra, rb, rc⟩ : Lk)]) ++ rs.drop k = insR ⟨ra, rb, rc⟩ rs by rw [HINS.out, List.append_assoc]; first | done | rfl)
                      rw [HOUT.out] at QF
                      obtain ⟨gr, cn, e1, hgr, -, ar, hcn⟩ := own_routes QF.out.row QF.out.nn
                      have MF := Lib.hid (MD.out.call QF.out.bel)
                      subst e1
                      have RM := Lib.hid (own_room QF.out.row)
                      have AR := Lib.hid ar
                      have hzr := ar.lt
                      clear ar
                      obtain ⟨yl, l0, l1, m0, m1⟩ := MF.out.kL.two
                      obtain ⟨yx, x0, x1, n0, n1⟩ := MF.out.kX.two
                      have hgx : gr ≠ X := by
                        rintro rfl
                        obtain ⟨cs, hh, _⟩ := AR.out
                        have := hh.symm.trans MF.out.kX
                        simp at this
                      refine stg_one _ 1 14 (by kernel_rfl) (by rfl) (by kernel_rfl) (by rfl) ?_
                      go_wp2_with fail
                      refine ⟨Below.refl _ _, _, Nat.le_refl _, ?_⟩
                      refine stg_one _ 0 15 (by kernel_rfl) (by rfl) (by kernel_rfl) (by rfl) ?_
                      go_wp2_with fail
                      refine ⟨(Below.refl _ _).setCell (p := ⟨X, 0, none⟩) (show w.heap.size + 3 ≤ X from hXs) _, _, Nat.le_refl _, ?_⟩
                      refine stg_end (by kernel_rfl) ?_
                      have hgnx : gn ≠ X := by
                        rintro rfl
                        obtain ⟨cs, hh, _⟩ := MF.out.an
                        have := hh.symm.trans MF.out.kX
                        simp at this
                      go_wp2_with fail
                      have L9 := Lib.hid (MF.out.kL.setFar (p := ⟨X, 0, none⟩) (by dsimp only; omega) (.slice (some ⟨gr, 0, none⟩) (insR ⟨ra, rb, rc⟩ rs).length cn))
                      obtain ⟨b2, r0, r1⟩ := ret_two L9.out (.slice (some ⟨gr, 0, none⟩) (insR ⟨ra, rb, rc⟩ rs).length cn) (.slice (some ⟨gn, 0, none⟩) hs.length dn)
                      refine bodyPost_ret (v := .tuple #[tbV (some ⟨gr, 0, none⟩) (insR ⟨ra, rb, rc⟩ rs).length cn (some ⟨gn, 0, none⟩) hs.length dn, .bool true]) (by simp [results, Try.results17, go_sem, r0, r1]) rfl ?_
                      unfold AddRes
                      rw [HF.out.1, HF.out.2.1, HF.out.2.2]
                      have hwd := MD.out.bel.size
                      refine ⟨_, rfl, some ⟨gr, 0, none⟩, cn, gr, some ⟨gn, 0, none⟩, dn, gn, rfl, by omega, by omega, fun _ => ⟨rfl, ?_⟩, fun _ => ⟨rfl, ?_⟩, ?_, hcn, hdn, fun _ => ?_⟩
                      · exact ((AR.out.far (p := ⟨X, 0, none⟩) hgx _).far (p := ⟨w.heap.size + 2, 0, none⟩) (by dsimp only; omega) _).far (p := ⟨w.heap.size + 2, 1, none⟩) (by dsimp only; omega) _
                      · exact ((MF.out.an.setFar (p := ⟨X, 0, none⟩) hgnx _).setFar (p := ⟨w.heap.size + 2, 0, none⟩) (by dsimp only; omega) _).setFar (p := ⟨w.heap.size + 2, 1, none⟩) (by dsimp only; omega) _
                      · exact ((MF.out.bel.setCell (p := ⟨X, 0, none⟩) (by dsimp only; omega) _).setCell (p := ⟨w.heap.size + 2, 0, none⟩) (by dsimp only; omega) _).setCell (p := ⟨w.heap.size + 2, 1, none⟩) (by dsimp only; omega) _
                      · exact ((RM.out.far (p := ⟨X, 0, none⟩) hgx _).far (p := ⟨w.heap.size + 2, 0, none⟩) (by dsimp only; omega) _).far (p := ⟨w.heap.size + 2, 1, none⟩) (by dsimp only; omega) _
                    · go_wp2_with fail
                      have Z2 := Lib.hid (show Below u1.heap.size u1 (u1.alloc (.cells #[.int .i64 ra, .int .i64 rb, .int .i64 rc] 38)) from (Below.refl _ _).alloc (Nat.le_refl _) _)
                      refine ⟨Z2.out.mono (by have := Q1.out.bel.size; omega), _, Nat.le_refl _, ?_⟩
                      have X2 := Lib.hid (Box.new u1 38 #[.int .i64 ra, .int .i64 rb, .int .i64 rc])
                      have Q2 := Lib.hid (Q1.out.call Z2.out)
                      have HNE2 := Lib.hid (show (Value.slice (some ⟨wd.heap.size, 0, none⟩) 0 0).ownBlock ≠ some u1.heap.size from by have := Y1.out; simp [Value.ownBlock]; omega)
                      generalize u1.alloc (.cells #[.int .i64 ra, .int .i64 rb, .int .i64 rc] 38) = u2 at *
                      refine stg_one _ 4 5 (by kernel_rfl) (by rfl) (by kernel_rfl) (by rfl) ?_
                      refine wp_append_own _ _ _ 28 rfl wd.heap.size 38 i0 _ 3 24 Try.underlying28 hi iz0 iz1 iz2 rfl (by decide) _ 0 (flat []) rfl Q2.out.row ⟨ga, oa, none⟩ k c (flat (rs.take k)) rfl (by rw [flat_len, List.length_take]; congr 1; omega) ((HSD.out.take k).below Q2.out.bel).flat (flat_one _) (by unfold maxLen; first | omega | (simp; omega)) (by first | omega | (simp; omega)) Q2.out.bel.size ?_
                      intro v3 u3 ho3 hg3 hn3
                      have Q3 := Lib.hid (Q2.out.grown (zs := rs.take k) (show k = (rs.take k).length by rw [List.length_take]; omega) ho3 hg3 hn3)
                      have X3 := Lib.hid (show Box u3 (u1.heap.size) 38 #[.int .i64 ra, .int .i64 rb, .int .i64 rc] from (hg3.block _ X2.out.lt (fun e => HNE2.out e.symm)).trans X2.out)
                      refine ⟨((Below.refl wd.heap.size _).grown hg3 Q2.out.bel.size (fun j e => (Q2.out.row.lt j e).1)).mono (by omega), _, Nat.le_refl _, ?_⟩
                      clear ho3 hg3 hn3
                      refine stg_one _ 3 8 (by kernel_rfl) (by rfl) (by kernel_rfl) (by rfl) ?_
                      refine wp_append_own _ _ _ 28 rfl wd.heap.size 38 i0 _ 3 24 Try.underlying28 hi iz0 iz1 iz2 rfl (by decide) _ _ _ rfl Q3.out.row ⟨u1.heap.size, 0, none⟩ 1 1 [.int .i64 ra, .int .i64 rb, .int .i64 rc] rfl rfl (new3b X3.out) (one3 _ _ _) (by unfold maxLen; first | omega | (simp; omega)) (by first | omega | (simp; omega)) Q3.out.bel.size ?_
                      intro v4 u4 ho4 hg4 hn4
                      have Q4 := Lib.hid (Q3.out.grown (zs := [⟨ra, rb, rc⟩]) rfl ho4 hg4 hn4)
                      refine ⟨((Below.refl wd.heap.size _).grown hg4 Q3.out.bel.size (fun j e => (Q3.out.row.lt j e).1)).mono (by omega), _, Nat.le_refl _, ?_⟩
                      clear ho4 hg4 hn4
                      refine stg_one _ 2 13 (by kernel_rfl) (by rfl) (by kernel_rfl) (by rfl) ?_
                      refine wp_append_own _ _ _ 28 rfl wd.heap.size 38 i0 _ 3 24 Try.underlying28 hi iz0 iz1 iz2 rfl (by decide) _ _ _ rfl Q4.out.row ⟨ga, oa + k * 3, none⟩ (rs.length - k) (c - k) (flat (rs.drop k)) rfl (by rw [flat_len, List.length_drop]) ((HSD.out.drop k).below Q4.out.bel).flat (flat_one _) (by unfold maxLen; first | omega | (simp; omega)) (by first | omega | (simp; omega)) Q4.out.bel.size ?_
                      intro v5 u5 ho5 hg5 hn5
                      have Q5 := Lib.hid (Q4.out.grown (zs := rs.drop k) (show (rs.length - k) = (rs.drop k).length by rw [List.length_drop]) ho5 hg5 hn5)
                      refine ⟨((Below.refl wd.heap.size _).grown hg5 Q4.out.bel.size (fun j e => (Q4.out.row.lt j e).1)).mono (by omega), _, Nat.le_refl _, ?_⟩
                      clear ho5 hg5 hn5
                      have QF := Lib.hid (Q5.out)
                      rw [List.nil_append] at QF
                      have HOUT := Lib.hid (show (rs.take k ++ [(⟨ra, rb, rc⟩ : Lk)]) ++ rs.drop k = insR ⟨ra, rb, rc⟩ rs by rw [HINS.out, List.append_assoc]; first | done | rfl)
                      rw [HOUT.out] at QF
                      obtain ⟨gr, cn, e1, hgr, -, ar, hcn⟩ := own_routes QF.out.row QF.out.nn
                      have MF := Lib.hid (MD.out.call QF.out.bel)
                      subst e1
                      have RM := Lib.hid (own_room QF.out.row)
                      have AR := Lib.hid ar
                      have hzr := ar.lt
                      clear ar
                      obtain ⟨yl, l0, l1, m0, m1⟩ := MF.out.kL.two
                      obtain ⟨yx, x0, x1, n0, n1⟩ := MF.out.kX.two
                      have hgx : gr ≠ X := by
                        rintro rfl
                        obtain ⟨cs, hh, _⟩ := AR.out
                        have := hh.symm.trans MF.out.kX
                        simp at this
                      refine stg_one _ 1 14 (by kernel_rfl) (by rfl) (by kernel_rfl) (by rfl) ?_
                      go_wp2_with fail
                      refine ⟨Below.refl _ _, _, Nat.le_refl _, ?_⟩
                      refine stg_one _ 0 15 (by kernel_rfl) (by rfl) (by kernel_rfl) (by rfl) ?_
                      go_wp2_with fail
                      refine ⟨(Below.refl _ _).setCell (p := ⟨X, 0, none⟩) (show w.heap.size + 3 ≤ X from hXs) _, _, Nat.le_refl _, ?_⟩
                      refine stg_end (by kernel_rfl) ?_
                      have hgnx : gn ≠ X := by
                        rintro rfl
                        obtain ⟨cs, hh, _⟩ := MF.out.an
                        have := hh.symm.trans MF.out.kX
                        simp at this
                      go_wp2_with fail
                      have L9 := Lib.hid (MF.out.kL.setFar (p := ⟨X, 0, none⟩) (by dsimp only; omega) (.slice (some ⟨gr, 0, none⟩) (insR ⟨ra, rb, rc⟩ rs).length cn))
                      obtain ⟨b2, r0, r1⟩ := ret_two L9.out (.slice (some ⟨gr, 0, none⟩) (insR ⟨ra, rb, rc⟩ rs).length cn) (.slice (some ⟨gn, 0, none⟩) hs.length dn)
                      refine bodyPost_ret (v := .tuple #[tbV (some ⟨gr, 0, none⟩) (insR ⟨ra, rb, rc⟩ rs).length cn (some ⟨gn, 0, none⟩) hs.length dn, .bool true]) (by simp [results, Try.results17, go_sem, r0, r1]) rfl ?_
                      unfold AddRes
                      rw [HF.out.1, HF.out.2.1, HF.out.2.2]
                      have hwd := MD.out.bel.size
                      refine ⟨_, rfl, some ⟨gr, 0, none⟩, cn, gr, some ⟨gn, 0, none⟩, dn, gn, rfl, by omega, by omega, fun _ => ⟨rfl, ?_⟩, fun _ => ⟨rfl, ?_⟩, ?_, hcn, hdn, fun _ => ?_⟩
                      · exact ((AR.out.far (p := ⟨X, 0, none⟩) hgx _).far (p := ⟨w.heap.size + 2, 0, none⟩) (by dsimp only; omega) _).far (p := ⟨w.heap.size + 2, 1, none⟩) (by dsimp only; omega) _
                      · exact ((MF.out.an.setFar (p := ⟨X, 0, none⟩) hgnx _).setFar (p := ⟨w.heap.size + 2, 0, none⟩) (by dsimp only; omega) _).setFar (p := ⟨w.heap.size + 2, 1, none⟩) (by dsimp only; omega) _
                      · exact ((MF.out.bel.setCell (p := ⟨X, 0, none⟩) (by dsimp only; omega) _).setCell (p := ⟨w.heap.size + 2, 0, none⟩) (by dsimp only; omega) _).setCell (p := ⟨w.heap.size + 2, 1, none⟩) (by dsimp only; omega) _
                      · exact ((RM.out.far (p := ⟨X, 0, none⟩) hgx _).far (p := ⟨w.heap.size + 2, 0, none⟩) (by dsimp only; omega) _).far (p := ⟨w.heap.size + 2, 1, none⟩) (by dsimp only; omega) _
                  · go_wp2_with fail
                    have Z1 := Lib.hid (show Below wd.heap.size wd (wd.alloc (.cells #[.int .i64 ra, .int .i64 rb, .int .i64 rc] 38)) from (Below.refl _ _).alloc (Nat.le_refl _) _)
                    refine ⟨Z1.out.mono (by omega), _, Nat.le_refl _, ?_⟩
                    have X1 := Lib.hid (Box.new wd 38 #[.int .i64 ra, .int .i64 rb, .int .i64 rc])
                    have Y1 := Lib.hid (show wd.heap.size < (wd.alloc (.cells #[.int .i64 ra, .int .i64 rb, .int .i64 rc] 38)).heap.size by simp)
                    have Y1b := Lib.hid (show Below wd.heap.size wd (wd.alloc (.cells #[.int .i64 ra, .int .i64 rb, .int .i64 rc] 38)) from (Below.refl _ _).alloc (Nat.le_refl _) _)
                    generalize wd.alloc (.cells #[.int .i64 ra, .int .i64 rb, .int .i64 rc] 38) = u1 at *
                    refine stg_one _ 5 0 (by kernel_rfl) (by rfl) (by kernel_rfl) (by rfl) ?_
                    go_wp2_with fail
                    have Z2 := Lib.hid (show Below u1.heap.size u1 (u1.alloc (.cells #[] 38)) from (Below.refl _ _).alloc (Nat.le_refl _) _)
                    refine ⟨Z2.out.mono (by have := Y1.out; omega), _, Nat.le_refl _, ?_⟩
                    have Q2 := Lib.hid (QT.made (w := wd) (W := u1) Y1b.out)
                    have X2 := Lib.hid (X1.out.alloc (.cells #[] 38))
                    have HNE2 := Lib.hid (show (Value.slice (some ⟨u1.heap.size, 0, none⟩) 0 0).ownBlock ≠ some wd.heap.size from by have := Y1.out; simp [Value.ownBlock]; omega)
                    generalize u1.alloc (.cells #[] 38) = u2 at *
                    refine stg_one _ 4 5 (by kernel_rfl) (by rfl) (by kernel_rfl) (by rfl) ?_
                    refine wp_append_own _ _ _ 28 rfl wd.heap.size 38 i0 _ 3 24 Try.underlying28 hi iz0 iz1 iz2 rfl (by decide) _ 0 (flat []) rfl Q2.out.row ⟨ga, oa, none⟩ k c (flat (rs.take k)) rfl (by rw [flat_len, List.length_take]; congr 1; omega) ((HSD.out.take k).below Q2.out.bel).flat (flat_one _) (by unfold maxLen; first | omega | (simp; omega)) (by first | omega | (simp; omega)) Q2.out.bel.size ?_
                    intro v3 u3 ho3 hg3 hn3
                    have Q3 := Lib.hid (Q2.out.grown (zs := rs.take k) (show k = (rs.take k).length by rw [List.length_take]; omega) ho3 hg3 hn3)
                    have X3 := Lib.hid (show Box u3 (wd.heap.size) 38 #[.int .i64 ra, .int .i64 rb, .int .i64 rc] from (hg3.block _ X2.out.lt (fun e => HNE2.out e.symm)).trans X2.out)
                    refine ⟨((Below.refl wd.heap.size _).grown hg3 Q2.out.bel.size (fun j e => (Q2.out.row.lt j e).1)).mono (by omega), _, Nat.le_refl _, ?_⟩
                    clear ho3 hg3 hn3
                    refine stg_one _ 3 8 (by kernel_rfl) (by rfl) (by kernel_rfl) (by rfl) ?_
                    refine wp_append_own _ _ _ 28 rfl wd.heap.size 38 i0 _ 3 24 Try.underlying28 hi iz0 iz1 iz2 rfl (by decide) _ _ _ rfl Q3.out.row ⟨wd.heap.size, 0, none⟩ 1 1 [.int .i64 ra, .int .i64 rb, .int .i64 rc] rfl rfl (new3b X3.out) (one3 _ _ _) (by unfold maxLen; first | omega | (simp; omega)) (by first | omega | (simp; omega)) Q3.out.bel.size ?_
                    intro v4 u4 ho4 hg4 hn4
                    have Q4 := Lib.hid (Q3.out.grown (zs := [⟨ra, rb, rc⟩]) rfl ho4 hg4 hn4)
                    refine ⟨((Below.refl wd.heap.size _).grown hg4 Q3.out.bel.size (fun j e => (Q3.out.row.lt j e).1)).mono (by omega), _, Nat.le_refl _, ?_⟩
                    clear ho4 hg4 hn4
                    refine stg_one _ 2 13 (by kernel_rfl) (by rfl) (by kernel_rfl) (by rfl) ?_
                    refine wp_append_own _ _ _ 28 rfl wd.heap.size 38 i0 _ 3 24 Try.underlying28 hi iz0 iz1 iz2 rfl (by decide) _ _ _ rfl Q4.out.row ⟨ga, oa + k * 3, none⟩ (rs.length - k) (c - k) (flat (rs.drop k)) rfl (by rw [flat_len, List.length_drop]) ((HSD.out.drop k).below Q4.out.bel).flat (flat_one _) (by unfold maxLen; first | omega | (simp; omega)) (by first | omega | (simp; omega)) Q4.out.bel.size ?_
                    intro v5 u5 ho5 hg5 hn5
                    have Q5 := Lib.hid (Q4.out.grown (zs := rs.drop k) (show (rs.length - k) = (rs.drop k).length by rw [List.length_drop]) ho5 hg5 hn5)
                    refine ⟨((Below.refl wd.heap.size _).grown hg5 Q4.out.bel.size (fun j e => (Q4.out.row.lt j e).1)).mono (by omega), _, Nat.le_refl _, ?_⟩
                    clear ho5 hg5 hn5
                    have QF := Lib.hid (Q5.out)
                    rw [List.nil_append] at QF
                    have HOUT := Lib.hid (show (rs.take k ++ [(⟨ra, rb, rc⟩ : Lk)]) ++ rs.drop k = insR ⟨ra, rb, rc⟩ rs by rw [HINS.out, List.append_assoc]; first | done | rfl)
                    rw [HOUT.out] at QF
                    obtain ⟨gr, cn, e1, hgr, -, ar, hcn⟩ := own_routes QF.out.row QF.out.nn
                    have MF := Lib.hid (MD.out.call QF.out.bel)
                    subst e1
                    have RM := Lib.hid (own_room QF.out.row)
                    have AR := Lib.hid ar
                    have hzr := ar.lt
                    clear ar
                    obtain ⟨yl, l0, l1, m0, m1⟩ := MF.out.kL.two
                    obtain ⟨yx, x0, x1, n0, n1⟩ := MF.out.kX.two
                    have hgx : gr ≠ X := by
                      rintro rfl
                      obtain ⟨cs, hh, _⟩ := AR.out
                      have := hh.symm.trans MF.out.kX
                      simp at this
                    refine stg_one _ 1 14 (by kernel_rfl) (by rfl) (by kernel_rfl) (by rfl) ?_
                    go_wp2_with fail
                    refine ⟨Below.refl _ _, _, Nat.le_refl _, ?_⟩
                    refine stg_one _ 0 15 (by kernel_rfl) (by rfl) (by kernel_rfl) (by rfl) ?_
                    go_wp2_with fail
                    refine ⟨(Below.refl _ _).setCell (p := ⟨X, 0, none⟩) (show w.heap.size + 3 ≤ X from hXs) _, _, Nat.le_refl _, ?_⟩
                    refine stg_end (by kernel_rfl) ?_
                    have hgnx : gn ≠ X := by
                      rintro rfl
                      obtain ⟨cs, hh, _⟩ := MF.out.an
                      have := hh.symm.trans MF.out.kX
                      simp at this
                    go_wp2_with fail
                    have L9 := Lib.hid (MF.out.kL.setFar (p := ⟨X, 0, none⟩) (by dsimp only; omega) (.slice (some ⟨gr, 0, none⟩) (insR ⟨ra, rb, rc⟩ rs).length cn))
                    obtain ⟨b2, r0, r1⟩ := ret_two L9.out (.slice (some ⟨gr, 0, none⟩) (insR ⟨ra, rb, rc⟩ rs).length cn) (.slice (some ⟨gn, 0, none⟩) hs.length dn)
                    refine bodyPost_ret (v := .tuple #[tbV (some ⟨gr, 0, none⟩) (insR ⟨ra, rb, rc⟩ rs).length cn (some ⟨gn, 0, none⟩) hs.length dn, .bool true]) (by simp [results, Try.results17, go_sem, r0, r1]) rfl ?_
                    unfold AddRes
                    rw [HF.out.1, HF.out.2.1, HF.out.2.2]
                    have hwd := MD.out.bel.size
                    refine ⟨_, rfl, some ⟨gr, 0, none⟩, cn, gr, some ⟨gn, 0, none⟩, dn, gn, rfl, by omega, by omega, fun _ => ⟨rfl, ?_⟩, fun _ => ⟨rfl, ?_⟩, ?_, hcn, hdn, fun _ => ?_⟩
                    · exact ((AR.out.far (p := ⟨X, 0, none⟩) hgx _).far (p := ⟨w.heap.size + 2, 0, none⟩) (by dsimp only; omega) _).far (p := ⟨w.heap.size + 2, 1, none⟩) (by dsimp only; omega) _
                    · exact ((MF.out.an.setFar (p := ⟨X, 0, none⟩) hgnx _).setFar (p := ⟨w.heap.size + 2, 0, none⟩) (by dsimp only; omega) _).setFar (p := ⟨w.heap.size + 2, 1, none⟩) (by dsimp only; omega) _
                    · exact ((MF.out.bel.setCell (p := ⟨X, 0, none⟩) (by dsimp only; omega) _).setCell (p := ⟨w.heap.size + 2, 0, none⟩) (by dsimp only; omega) _).setCell (p := ⟨w.heap.size + 2, 1, none⟩) (by dsimp only; omega) _
                    · exact ((RM.out.far (p := ⟨X, 0, none⟩) hgx _).far (p := ⟨w.heap.size + 2, 0, none⟩) (by dsimp only; omega) _).far (p := ⟨w.heap.size + 2, 1, none⟩) (by dsimp only; omega) _
        · obtain rfl : k = rs.length := by omega
          have HNO := Lib.hid (has_no HASC.out HJ.out (.inl rfl))
          have HINS := Lib.hid (ins_behind HJ.out (Nat.le_refl _) (.inl rfl))
          have hge : ¬ ((rs.length : Int) < (rs.length : Int)) := by omega
          go_wp2_with fail
          go_quiet (fail)
          have M7 := Lib.hid (M.out.call (W' := wr.drewN nq) ⟨rfl, rfl, rfl, Nat.le_refl _, fun _ _ => rfl⟩)
          generalize wr.drewN nq = w7 at *
          clear M e50 e51 z5 p60 p61 p62 z6 hwb
          obtain ⟨z5, e50, e51, -, -⟩ := M7.out.kT.two
          obtain ⟨z6, p60, p61, p62, -, -, -⟩ := M7.out.kR.trip
          go_wp2_with fail
          go_quiet (fail)
          have M9 := Lib.hid (M7.out.call (W' := w7.drewN nq) ⟨rfl, rfl, rfl, Nat.le_refl _, fun _ _ => rfl⟩)
          generalize w7.drewN nq = w9 at *
          clear M7 e50 e51 z5 p60 p61 p62 z6
          by_cases h10 : 10 ≤ rs.length
          · obtain ⟨zt, t0, t1, -, -⟩ := M9.out.kT.two
            have hgX : g ≠ X := by
              rintro rfl
              obtain ⟨cs, hh, _⟩ := M9.out.ar
              have := hh.symm.trans M9.out.kX
              simp at this
            have hXg : X ≠ g := fun e => hgX e.symm
            have hLg : w.heap.size + 2 ≠ g := by omega
            have hLX : w.heap.size + 2 ≠ X := by omega
            obtain ⟨zl, l0, l1, m0, m1⟩ := M9.out.kL.two
            obtain ⟨zx, x0, x1, n0, n1⟩ := M9.out.kX.two
            obtain ⟨zq, q0, q1, q2, -, -, -⟩ := M9.out.kR.trip
            have hzg := M9.out.ar.lt
            have hzn := M9.out.an.lt
            have HF := Lib.hid (add_full HOK.out HNO.out h10)
            have h10i : (rs.length : Int) ≥ 10 := by omega
            go_wp2_with fail
            obtain ⟨b2, r0, r1⟩ := ret_two M9.out.kL (.slice (some ⟨g, 0, none⟩) rs.length cr) (.slice (some ⟨gn, 0, none⟩) hs.length dn)
            refine bodyPost_ret (v := .tuple #[tbV (some ⟨g, 0, none⟩) rs.length cr (some ⟨gn, 0, none⟩) hs.length dn, .bool false]) (by simp [results, Try.results17, go_sem, r0, r1]) rfl ?_
            unfold AddRes
            rw [HF.out.1, HF.out.2.1, HF.out.2.2]
            refine ⟨_, rfl, some ⟨g, 0, none⟩, cr, g, some ⟨gn, 0, none⟩, dn, gn, rfl, by omega, by omega, fun _ => ⟨rfl, ?_⟩, fun _ => ⟨rfl, ?_⟩, ?_, hcr, hdn, fun _ => ?_⟩
            · exact (M9.out.ar.far (p := ⟨w.heap.size + 2, 0, none⟩) (by dsimp only; omega) _).far (p := ⟨w.heap.size + 2, 1, none⟩) (by dsimp only; omega) _
            · exact (M9.out.an.setFar (p := ⟨w.heap.size + 2, 0, none⟩) (by dsimp only; omega) _).setFar (p := ⟨w.heap.size + 2, 1, none⟩) (by dsimp only; omega) _
            · exact (M9.out.bel.setCell (p := ⟨w.heap.size + 2, 0, none⟩) (by dsimp only; omega) _).setCell (p := ⟨w.heap.size + 2, 1, none⟩) (by dsimp only; omega) _
            · exact (M9.out.rm.far (p := ⟨w.heap.size + 2, 0, none⟩) (by dsimp only; omega) _).far (p := ⟨w.heap.size + 2, 1, none⟩) (by dsimp only; omega) _
          · obtain ⟨zt, t0, t1, -, -⟩ := M9.out.kT.two
            obtain ⟨zq, q0, q1, q2, -, -, -⟩ := M9.out.kR.trip
            have HF := Lib.hid (add_go HOK.out (.inr (show rs.length < 10 by omega)))
            have h10i : ¬ (rs.length : Int) ≥ 10 := by omega
            have hkc : rs.length ≤ c := by omega
            have hki : (rs.length : Int) ≤ (rs.length : Int) := by omega
            have HSD := Lib.hid (show Sl w9.drew w.heap.size (some ⟨ga, oa, none⟩) rs from HS.out.below M9.out.bel.drew)
            have HSD := Lib.hid (HSD.out.more (show w.heap.size ≤ w9.drew.heap.size from M9.out.bel.size))
            have MD := Lib.hid (M9.out.call (Below.refl w9.heap.size w9).drew)
            have zt3 : w.heap.size < w.heap.size + 3 := by omega
            have zq3 : w.heap.size + 1 < w.heap.size + 3 := by omega
            have hwd3 : w.heap.size + 3 ≤ w9.drew.heap.size := by have := M9.out.kX.lt; show _ ≤ w9.heap.size; omega
            go_wp2_with fail
            by_cases hcap : c = rs.length
            · have hcs : rs.length = c := hcap.symm
              subst hcs
              have hX0 := fun (y : ExtB (w.heap.size + 3) w9.drew) => (y.cell w.heap.size 0 zt3).trans (show w9.drew.cell? ⟨w.heap.size, 0, none⟩ = _ from t0)
              have hX1 := fun (y : ExtB (w.heap.size + 3) w9.drew) => (y.cell (w.heap.size + 1) 0 zq3).trans (show w9.drew.cell? ⟨w.heap.size + 1, 0, none⟩ = _ from q0)
              have hX2 := fun (y : ExtB (w.heap.size + 3) w9.drew) => (y.cell (w.heap.size + 1) 1 zq3).trans (show w9.drew.cell? ⟨w.heap.size + 1, 1, none⟩ = _ from q1)
              have hX3 := fun (y : ExtB (w.heap.size + 3) w9.drew) => (y.cell (w.heap.size + 1) 2 zq3).trans (show w9.drew.cell? ⟨w.heap.size + 1, 2, none⟩ = _ from q2)
              refine wp_region_stg 16 (w.heap.size + 3) (by kernel_rfl) (by kernel_rfl) ?_
              refine stg_seg _ 7 [1, 2, 3, 4, 6, 9, 10, 11, 12] (by kernel_rfl) (by kernel_rfl) (by kernel_rfl) (by kernel_rfl) ?_
              (simp only [List.map_cons, List.map_nil, List.getElem?_cons_zero, List.getElem?_cons_succ, Option.getD_some]); (repeat (go_big_quiet_step (fail))); (refine wpQuiet_nil ?_)
              clear hX0 hX1 hX2 hX3 t0 zt zq q0 q1 q2
              generalize w9.drew = wd at *
              refine stg_two _ 6 0 7 (by rfl) (by rfl) (by rfl) (by kernel_rfl) (by rfl) (by rfl) ?_ ?_
              · go_wp2_with fail
                have Z1 := Lib.hid (show Below wd.heap.size wd (wd.alloc (.cells #[] 38)) from (Below.refl _ _).alloc (Nat.le_refl _) _)
                refine ⟨Z1.out.mono (by omega), _, Nat.le_refl _, ?_⟩
                have Q1 := Lib.hid (QT.made (w := wd) (W := wd) (Below.refl wd.heap.size wd))
                have Y1 := Lib.hid (show wd.heap.size < (wd.alloc (.cells #[] 38)).heap.size by simp)
                generalize wd.alloc (.cells #[] 38) = u1 at *
                refine stg_two _ 5 5 7 (by rfl) (by rfl) (by rfl) (by kernel_rfl) (by rfl) (by rfl) ?_ ?_
                · refine wp_append_own _ _ _ 28 rfl wd.heap.size 38 i0 _ 3 24 Try.underlying28 hi iz0 iz1 iz2 rfl (by decide) _ 0 (flat []) rfl Q1.out.row ⟨ga, oa, none⟩ rs.length rs.length (flat (rs.take rs.length)) rfl (by rw [flat_len, List.length_take]; congr 1; omega) ((HSD.out.take rs.length).below Q1.out.bel).flat (flat_one _) (by unfold maxLen; first | omega | (simp; omega)) (by first | omega | (simp; omega)) Q1.out.bel.size ?_
                  intro v2 u2 ho2 hg2 hn2
                  have Q2 := Lib.hid (Q1.out.grown (zs := rs.take rs.length) (show rs.length = (rs.take rs.length).length by rw [List.length_take]; omega) ho2 hg2 hn2)
                  refine ⟨((Below.refl wd.heap.size _).grown hg2 Q1.out.bel.size (fun j e => (Q1.out.row.lt j e).1)).mono (by omega), _, Nat.le_refl _, ?_⟩
                  clear ho2 hg2 hn2
                  refine stg_one _ 4 7 (by kernel_rfl) (by rfl) (by kernel_rfl) (by rfl) ?_
                  go_wp2_with fail
                  have Z3 := Lib.hid (show Below u2.heap.size u2 (u2.alloc (.cells #[.int .i64 ra, .int .i64 rb, .int .i64 rc] 38)) from (Below.refl _ _).alloc (Nat.le_refl _) _)
                  refine ⟨Z3.out.mono (by have := Q2.out.bel.size; omega), _, Nat.le_refl _, ?_⟩
                  have X3 := Lib.hid (Box.new u2 38 #[.int .i64 ra, .int .i64 rb, .int .i64 rc])
                  have Q3 := Lib.hid (Q2.out.call Z3.out)
                  generalize u2.alloc (.cells #[.int .i64 ra, .int .i64 rb, .int .i64 rc] 38) = u3 at *
                  refine stg_one _ 3 8 (by kernel_rfl) (by rfl) (by kernel_rfl) (by rfl) ?_
                  refine wp_append_own _ _ _ 28 rfl wd.heap.size 38 i0 _ 3 24 Try.underlying28 hi iz0 iz1 iz2 rfl (by decide) _ _ _ rfl Q3.out.row ⟨u2.heap.size, 0, none⟩ 1 1 [.int .i64 ra, .int .i64 rb, .int .i64 rc] rfl rfl (new3b X3.out) (one3 _ _ _) (by unfold maxLen; first | omega | (simp; omega)) (by first | omega | (simp; omega)) Q3.out.bel.size ?_
                  intro v4 u4 ho4 hg4 hn4
                  have Q4 := Lib.hid (Q3.out.grown (zs := [⟨ra, rb, rc⟩]) rfl ho4 hg4 hn4)
                  refine ⟨((Below.refl wd.heap.size _).grown hg4 Q3.out.bel.size (fun j e => (Q3.out.row.lt j e).1)).mono (by omega), _, Nat.le_refl _, ?_⟩
                  clear ho4 hg4 hn4
                  refine stg_one _ 2 13 (by kernel_rfl) (by rfl) (by kernel_rfl) (by rfl) ?_
                  refine wp_append_own _ _ _ 28 rfl wd.heap.size 38 i0 _ 3 24 Try.underlying28 hi iz0 iz1 iz2 rfl (by decide) _ _ _ rfl Q4.out.row ⟨ga, oa, none⟩ 0 0 (flat (rs.drop rs.length)) rfl (by rw [List.drop_eq_nil_of_le (by omega)]; rfl) (by rw [List.drop_eq_nil_of_le (by omega)]; intro j u h; simp [flat] at h) (flat_one _) (by unfold maxLen; first | omega | (simp; omega)) (by first | omega | (simp; omega)) Q4.out.bel.size ?_
                  intro v5 u5 ho5 hg5 hn5
                  have Q5 := Lib.hid (Q4.out.grown (zs := rs.drop rs.length) (show 0 = (rs.drop rs.length).length by rw [List.length_drop]; omega) ho5 hg5 hn5)
                  refine ⟨((Below.refl wd.heap.size _).grown hg5 Q4.out.bel.size (fun j e => (Q4.out.row.lt j e).1)).mono (by omega), _, Nat.le_refl _, ?_⟩
                  clear ho5 hg5 hn5
                  have QF := Lib.hid (Q5.out)
                  rw [List.nil_append] at QF
                  have HOUT := Lib.hid (show (rs.take rs.length ++ [(⟨ra, rb, rc⟩ : Lk)]) ++ rs.drop rs.length = insR ⟨ra, rb, rc⟩ rs by rw [HINS.out, List.append_assoc]; first | done | rfl)
                  rw [HOUT.out] at QF
                  obtain ⟨gr, cn, e1, hgr, -, ar, hcn⟩ := own_routes QF.out.row QF.out.nn
                  have MF := Lib.hid (MD.out.call QF.out.bel)
                  subst e1
                  have RM := Lib.hid (own_room QF.out.row)
                  have AR := Lib.hid ar
                  have hzr := ar.lt
                  clear ar
                  obtain ⟨yl, l0, l1, m0, m1⟩ := MF.out.kL.two
                  obtain ⟨yx, x0, x1, n0, n1⟩ := MF.out.kX.two
                  have hgx : gr ≠ X := by
                    rintro rfl
                    obtain ⟨cs, hh, _⟩ := AR.out
                    have := hh.symm.trans MF.out.kX
                    simp at this
                  refine stg_one _ 1 14 (by kernel_rfl) (by rfl) (by kernel_rfl) (by rfl) ?_
                  go_wp2_with fail
                  refine ⟨Below.refl _ _, _, Nat.le_refl _, ?_⟩
                  refine stg_one _ 0 15 (by kernel_rfl) (by rfl) (by kernel_rfl) (by rfl) ?_
                  go_wp2_with fail
                  refine ⟨(Below.refl _ _).setCell (p := ⟨X, 0, none⟩) (show w.heap.size + 3 ≤ X from hXs) _, _, Nat.le_refl _, ?_⟩
                  refine stg_end (by kernel_rfl) ?_
                  have hgnx : gn ≠ X := by
                    rintro rfl
                    obtain ⟨cs, hh, _⟩ := MF.out.an
                    have := hh.symm.trans MF.out.kX
                    simp at this
                  go_wp2_with fail
                  have L9 := Lib.hid (MF.out.kL.setFar (p := ⟨X, 0, none⟩) (by dsimp only; omega) (.slice (some ⟨gr, 0, none⟩) (insR ⟨ra, rb, rc⟩ rs).length cn))
                  obtain ⟨b2, r0, r1⟩ := ret_two L9.out (.slice (some ⟨gr, 0, none⟩) (insR ⟨ra, rb, rc⟩ rs).length cn) (.slice (some ⟨gn, 0, none⟩) hs.length dn)
                  refine bodyPost_ret (v := .tuple #[tbV (some ⟨gr, 0, none⟩) (insR ⟨ra, rb, rc⟩ rs).length cn (some ⟨gn, 0, none⟩) hs.length dn, .bool true]) (by simp [results, Try.results17, go_sem, r0, r1]) rfl ?_
                  unfold AddRes
                  rw [HF.out.1, HF.out.2.1, HF.out.2.2]
                  have hwd := MD.out.bel.size
                  refine ⟨_, rfl, some ⟨gr, 0, none⟩, cn, gr, some ⟨gn, 0, none⟩, dn, gn, rfl, by omega, by omega, fun _ => ⟨rfl, ?_⟩, fun _ => ⟨rfl, ?_⟩, ?_, hcn, hdn, fun _ => ?_⟩
                  · exact ((AR.out.far (p := ⟨X, 0, none⟩) hgx _).far (p := ⟨w.heap.size + 2, 0, none⟩) (by dsimp only; omega) _).far (p := ⟨w.heap.size + 2, 1, none⟩) (by dsimp only; omega) _
                  · exact ((MF.out.an.setFar (p := ⟨X, 0, none⟩) hgnx _).setFar (p := ⟨w.heap.size + 2, 0, none⟩) (by dsimp only; omega) _).setFar (p := ⟨w.heap.size + 2, 1, none⟩) (by dsimp only; omega) _
                  · exact ((MF.out.bel.setCell (p := ⟨X, 0, none⟩) (by dsimp only; omega) _).setCell (p := ⟨w.heap.size + 2, 0, none⟩) (by dsimp only; omega) _).setCell (p := ⟨w.heap.size + 2, 1, none⟩) (by dsimp only; omega) _
                  · exact ((RM.out.far (p := ⟨X, 0, none⟩) hgx _).far (p := ⟨w.heap.size + 2, 0, none⟩) (by dsimp only; omega) _).far (p := ⟨w.heap.size + 2, 1, none⟩) (by dsimp only; omega) _
                · go_wp2_with fail
                  have Z2 := Lib.hid (show Below u1.heap.size u1 (u1.alloc (.cells #[.int .i64 ra, .int .i64 rb, .int .i64 rc] 38)) from (Below.refl _ _).alloc (Nat.le_refl _) _)
                  refine ⟨Z2.out.mono (by have := Q1.out.bel.size; omega), _, Nat.le_refl _, ?_⟩
                  have X2 := Lib.hid (Box.new u1 38 #[.int .i64 ra, .int .i64 rb, .int .i64 rc])
                  have Q2 := Lib.hid (Q1.out.call Z2.out)
                  have HNE2 := Lib.hid (show (Value.slice (some ⟨wd.heap.size, 0, none⟩) 0 0).ownBlock ≠ some u1.heap.size from by have := Y1.out; simp [Value.ownBlock]; omega)
                  generalize u1.alloc (.cells #[.int .i64 ra, .int .i64 rb, .int .i64 rc] 38) = u2 at *
                  refine stg_one _ 4 5 (by kernel_rfl) (by rfl) (by kernel_rfl) (by rfl) ?_
                  refine wp_append_own _ _ _ 28 rfl wd.heap.size 38 i0 _ 3 24 Try.underlying28 hi iz0 iz1 iz2 rfl (by decide) _ 0 (flat []) rfl Q2.out.row ⟨ga, oa, none⟩ rs.length rs.length (flat (rs.take rs.length)) rfl (by rw [flat_len, List.length_take]; congr 1; omega) ((HSD.out.take rs.length).below Q2.out.bel).flat (flat_one _) (by unfold maxLen; first | omega | (simp; omega)) (by first | omega | (simp; omega)) Q2.out.bel.size ?_
                  intro v3 u3 ho3 hg3 hn3
                  have Q3 := Lib.hid (Q2.out.grown (zs := rs.take rs.length) (show rs.length = (rs.take rs.length).length by rw [List.length_take]; omega) ho3 hg3 hn3)
                  have X3 := Lib.hid (show Box u3 (u1.heap.size) 38 #[.int .i64 ra, .int .i64 rb, .int .i64 rc] from (hg3.block _ X2.out.lt (fun e => HNE2.out e.symm)).trans X2.out)
                  refine ⟨((Below.refl wd.heap.size _).grown hg3 Q2.out.bel.size (fun j e => (Q2.out.row.lt j e).1)).mono (by omega), _, Nat.le_refl _, ?_⟩
                  clear ho3 hg3 hn3
                  refine stg_one _ 3 8 (by kernel_rfl) (by rfl) (by kernel_rfl) (by rfl) ?_
                  refine wp_append_own _ _ _ 28 rfl wd.heap.size 38 i0 _ 3 24 Try.underlying28 hi iz0 iz1 iz2 rfl (by decide) _ _ _ rfl Q3.out.row ⟨u1.heap.size, 0, none⟩ 1 1 [.int .i64 ra, .int .i64 rb, .int .i64 rc] rfl rfl (new3b X3.out) (one3 _ _ _) (by unfold maxLen; first | omega | (simp; omega)) (by first | omega | (simp; omega)) Q3.out.bel.size ?_
                  intro v4 u4 ho4 hg4 hn4
                  have Q4 := Lib.hid (Q3.out.grown (zs := [⟨ra, rb, rc⟩]) rfl ho4 hg4 hn4)
                  refine ⟨((Below.refl wd.heap.size _).grown hg4 Q3.out.bel.size (fun j e => (Q3.out.row.lt j e).1)).mono (by omega), _, Nat.le_refl _, ?_⟩
                  clear ho4 hg4 hn4
                  refine stg_one _ 2 13 (by kernel_rfl) (by rfl) (by kernel_rfl) (by rfl) ?_
                  refine wp_append_own _ _ _ 28 rfl wd.heap.size 38 i0 _ 3 24 Try.underlying28 hi iz0 iz1 iz2 rfl (by decide) _ _ _ rfl Q4.out.row ⟨ga, oa, none⟩ 0 0 (flat (rs.drop rs.length)) rfl (by rw [List.drop_eq_nil_of_le (by omega)]; rfl) (by rw [List.drop_eq_nil_of_le (by omega)]; intro j u h; simp [flat] at h) (flat_one _) (by unfold maxLen; first | omega | (simp; omega)) (by first | omega | (simp; omega)) Q4.out.bel.size ?_
                  intro v5 u5 ho5 hg5 hn5
                  have Q5 := Lib.hid (Q4.out.grown (zs := rs.drop rs.length) (show 0 = (rs.drop rs.length).length by rw [List.length_drop]; omega) ho5 hg5 hn5)
                  refine ⟨((Below.refl wd.heap.size _).grown hg5 Q4.out.bel.size (fun j e => (Q4.out.row.lt j e).1)).mono (by omega), _, Nat.le_refl _, ?_⟩
                  clear ho5 hg5 hn5
                  have QF := Lib.hid (Q5.out)
                  rw [List.nil_append] at QF
                  have HOUT := Lib.hid (show (rs.take rs.length ++ [(⟨ra, rb, rc⟩ : Lk)]) ++ rs.drop rs.length = insR ⟨ra, rb, rc⟩ rs by rw [HINS.out, List.append_assoc]; first | done | rfl)
                  rw [HOUT.out] at QF
                  obtain ⟨gr, cn, e1, hgr, -, ar, hcn⟩ := own_routes QF.out.row QF.out.nn
                  have MF := Lib.hid (MD.out.call QF.out.bel)
                  subst e1
                  have RM := Lib.hid (own_room QF.out.row)
                  have AR := Lib.hid ar
                  have hzr := ar.lt
                  clear ar
                  obtain ⟨yl, l0, l1, m0, m1⟩ := MF.out.kL.two
                  obtain ⟨yx, x0, x1, n0, n1⟩ := MF.out.kX.two
                  have hgx : gr ≠ X := by
                    rintro rfl
                    obtain ⟨cs, hh, _⟩ := AR.out
                    have := hh.symm.trans MF.out.kX
                    simp at this
                  refine stg_one _ 1 14 (by kernel_rfl) (by rfl) (by kernel_rfl) (by rfl) ?_
                  go_wp2_with fail
                  refine ⟨Below.refl _ _, _, Nat.le_refl _, ?_⟩
                  refine stg_one _ 0 15 (by kernel_rfl) (by rfl) (by kernel_rfl) (by rfl) ?_
                  go_wp2_with fail
                  refine ⟨(Below.refl _ _).setCell (p := ⟨X, 0, none⟩) (show w.heap.size + 3 ≤ X from hXs) _, _, Nat.le_refl _, ?_⟩
                  refine stg_end (by kernel_rfl) ?_
                  have hgnx : gn ≠ X := by
                    rintro rfl
                    obtain ⟨cs, hh, _⟩ := MF.out.an
                    have := hh.symm.trans MF.out.kX
                    simp at this
                  go_wp2_with fail
                  have L9 := Lib.hid (MF.out.kL.setFar (p := ⟨X, 0, none⟩) (by dsimp only; omega) (.slice (some ⟨gr, 0, none⟩) (insR ⟨ra, rb, rc⟩ rs).length cn))
                  obtain ⟨b2, r0, r1⟩ := ret_two L9.out (.slice (some ⟨gr, 0, none⟩) (insR ⟨ra, rb, rc⟩ rs).length cn) (.slice (some ⟨gn, 0, none⟩) hs.length dn)
                  refine bodyPost_ret (v := .tuple #[tbV (some ⟨gr, 0, none⟩) (insR ⟨ra, rb, rc⟩ rs).length cn (some ⟨gn, 0, none⟩) hs.length dn, .bool true]) (by simp [results, Try.results17, go_sem, r0, r1]) rfl ?_
                  unfold AddRes
                  rw [HF.out.1, HF.out.2.1, HF.out.2.2]
                  have hwd := MD.out.bel.size
                  refine ⟨_, rfl, some ⟨gr, 0, none⟩, cn, gr, some ⟨gn, 0, none⟩, dn, gn, rfl, by omega, by omega, fun _ => ⟨rfl, ?_⟩, fun _ => ⟨rfl, ?_⟩, ?_, hcn, hdn, fun _ => ?_⟩
                  · exact ((AR.out.far (p := ⟨X, 0, none⟩) hgx _).far (p := ⟨w.heap.size + 2, 0, none⟩) (by dsimp only; omega) _).far (p := ⟨w.heap.size + 2, 1, none⟩) (by dsimp only; omega) _
                  · exact ((MF.out.an.setFar (p := ⟨X, 0, none⟩) hgnx _).setFar (p := ⟨w.heap.size + 2, 0, none⟩) (by dsimp only; omega) _).setFar (p := ⟨w.heap.size + 2, 1, none⟩) (by dsimp only; omega) _
                  · exact ((MF.out.bel.setCell (p := ⟨X, 0, none⟩) (by dsimp only; omega) _).setCell (p := ⟨w.heap.size + 2, 0, none⟩) (by dsimp only; omega) _).setCell (p := ⟨w.heap.size + 2, 1, none⟩) (by dsimp only; omega) _
                  · exact ((RM.out.far (p := ⟨X, 0, none⟩) hgx _).far (p := ⟨w.heap.size + 2, 0, none⟩) (by dsimp only; omega) _).far (p := ⟨w.heap.size + 2, 1, none⟩) (by dsimp only; omega) _
              · go_wp2_with fail
                have Z1 := Lib.hid (show Below wd.heap.size wd (wd.alloc (.cells #[.int .i64 ra, .int .i64 rb, .int .i64 rc] 38)) from (Below.refl _ _).alloc (Nat.le_refl _) _)
                refine ⟨Z1.out.mono (by omega), _, Nat.le_refl _, ?_⟩
                have X1 := Lib.hid (Box.new wd 38 #[.int .i64 ra, .int .i64 rb, .int .i64 rc])
                have Y1 := Lib.hid (show wd.heap.size < (wd.alloc (.cells #[.int .i64 ra, .int .i64 rb, .int .i64 rc] 38)).heap.size by simp)
                have Y1b := Lib.hid (show Below wd.heap.size wd (wd.alloc (.cells #[.int .i64 ra, .int .i64 rb, .int .i64 rc] 38)) from (Below.refl _ _).alloc (Nat.le_refl _) _)
                generalize wd.alloc (.cells #[.int .i64 ra, .int .i64 rb, .int .i64 rc] 38) = u1 at *
                refine stg_one _ 5 0 (by kernel_rfl) (by rfl) (by kernel_rfl) (by rfl) ?_
                go_wp2_with fail
                have Z2 := Lib.hid (show Below u1.heap.size u1 (u1.alloc (.cells #[] 38)) from (Below.refl _ _).alloc (Nat.le_refl _) _)
                refine ⟨Z2.out.mono (by have := Y1.out; omega), _, Nat.le_refl _, ?_⟩
                have Q2 := Lib.hid (QT.made (w := wd) (W := u1) Y1b.out)
                have X2 := Lib.hid (X1.out.alloc (.cells #[] 38))
                have HNE2 := Lib.hid (show (Value.slice (some ⟨u1.heap.size, 0, none⟩) 0 0).ownBlock ≠ some wd.heap.size from by have := Y1.out; simp [Value.ownBlock]; omega)
                generalize u1.alloc (.cells #[] 38) = u2 at *
                refine stg_one _ 4 5 (by kernel_rfl) (by rfl) (by kernel_rfl) (by rfl) ?_
                refine wp_append_own _ _ _ 28 rfl wd.heap.size 38 i0 _ 3 24 Try.underlying28 hi iz0 iz1 iz2 rfl (by decide) _ 0 (flat []) rfl Q2.out.row ⟨ga, oa, none⟩ rs.length rs.length (flat (rs.take rs.length)) rfl (by rw [flat_len, List.length_take]; congr 1; omega) ((HSD.out.take rs.length).below Q2.out.bel).flat (flat_one _) (by unfold maxLen; first | omega | (simp; omega)) (by first | omega | (simp; omega)) Q2.out.bel.size ?_
                intro v3 u3 ho3 hg3 hn3
                have Q3 := Lib.hid (Q2.out.grown (zs := rs.take rs.length) (show rs.length = (rs.take rs.length).length by rw [List.length_take]; omega) ho3 hg3 hn3)
                have X3 := Lib.hid (show Box u3 (wd.heap.size) 38 #[.int .i64 ra, .int .i64 rb, .int .i64 rc] from (hg3.block _ X2.out.lt (fun e => HNE2.out e.symm)).trans X2.out)
                refine ⟨((Below.refl wd.heap.size _).grown hg3 Q2.out.bel.size (fun j e => (Q2.out.row.lt j e).1)).mono (by omega), _, Nat.le_refl _, ?_⟩
                clear ho3 hg3 hn3
                refine stg_one _ 3 8 (by kernel_rfl) (by rfl) (by kernel_rfl) (by rfl) ?_
                refine wp_append_own _ _ _ 28 rfl wd.heap.size 38 i0 _ 3 24 Try.underlying28 hi iz0 iz1 iz2 rfl (by decide) _ _ _ rfl Q3.out.row ⟨wd.heap.size, 0, none⟩ 1 1 [.int .i64 ra, .int .i64 rb, .int .i64 rc] rfl rfl (new3b X3.out) (one3 _ _ _) (by unfold maxLen; first | omega | (simp; omega)) (by first | omega | (simp; omega)) Q3.out.bel.size ?_
                intro v4 u4 ho4 hg4 hn4
                have Q4 := Lib.hid (Q3.out.grown (zs := [⟨ra, rb, rc⟩]) rfl ho4 hg4 hn4)
                refine ⟨((Below.refl wd.heap.size _).grown hg4 Q3.out.bel.size (fun j e => (Q3.out.row.lt j e).1)).mono (by omega), _, Nat.le_refl _, ?_⟩
                clear ho4 hg4 hn4
                refine stg_one _ 2 13 (by kernel_rfl) (by rfl) (by kernel_rfl) (by rfl) ?_
                refine wp_append_own _ _ _ 28 rfl wd.heap.size 38 i0 _ 3 24 Try.underlying28 hi iz0 iz1 iz2 rfl (by decide) _ _ _ rfl Q4.out.row ⟨ga, oa, none⟩ 0 0 (flat (rs.drop rs.length)) rfl (by rw [List.drop_eq_nil_of_le (by omega)]; rfl) (by rw [List.drop_eq_nil_of_le (by omega)]; intro j u h; simp [flat] at h) (flat_one _) (by unfold maxLen; first | omega | (simp; omega)) (by first | omega | (simp; omega)) Q4.out.bel.size ?_
                intro v5 u5 ho5 hg5 hn5
                have Q5 := Lib.hid (Q4.out.grown (zs := rs.drop rs.length) (show 0 = (rs.drop rs.length).length by rw [List.length_drop]; omega) ho5 hg5 hn5)
                refine ⟨((Below.refl wd.heap.size _).grown hg5 Q4.out.bel.size (fun j e => (Q4.out.row.lt j e).1)).mono (by omega), _, Nat.le_refl _, ?_⟩
                clear ho5 hg5 hn5
                have QF := Lib.hid (Q5.out)
                rw [List.nil_append] at QF
                have HOUT := Lib.hid (show (rs.take rs.length ++ [(⟨ra, rb, rc⟩ : Lk)]) ++ rs.drop rs.length = insR ⟨ra, rb, rc⟩ rs by rw [HINS.out, List.append_assoc]; first | done | rfl)
                rw [HOUT.out] at QF
                obtain ⟨gr, cn, e1, hgr, -, ar, hcn⟩ := own_routes QF.out.row QF.out.nn
                have MF := Lib.hid (MD.out.call QF.out.bel)
                subst e1
                have RM := Lib.hid (own_room QF.out.row)
                have AR := Lib.hid ar
                have hzr := ar.lt
                clear ar
                obtain ⟨yl, l0, l1, m0, m1⟩ := MF.out.kL.two
                obtain ⟨yx, x0, x1, n0, n1⟩ := MF.out.kX.two
                have hgx : gr ≠ X := by
                  rintro rfl
                  obtain ⟨cs, hh, _⟩ := AR.out
                  have := hh.symm.trans MF.out.kX
                  simp at this
                refine stg_one _ 1 14 (by kernel_rfl) (by rfl) (by kernel_rfl) (by rfl) ?_
                go_wp2_with fail
                refine ⟨Below.refl _ _, _, Nat.le_refl _, ?_⟩
                refine stg_one _ 0 15 (by kernel_rfl) (by rfl) (by kernel_rfl) (by rfl) ?_
                go_wp2_with fail
                refine ⟨(Below.refl _ _).setCell (p := ⟨X, 0, none⟩) (show w.heap.size + 3 ≤ X from hXs) _, _, Nat.le_refl _, ?_⟩
                refine stg_end (by kernel_rfl) ?_
                have hgnx : gn ≠ X := by
                  rintro rfl
                  obtain ⟨cs, hh, _⟩ := MF.out.an
                  have := hh.symm.trans MF.out.kX
                  simp at this
                go_wp2_with fail
                have L9 := Lib.hid (MF.out.kL.setFar (p := ⟨X, 0, none⟩) (by dsimp only; omega) (.slice (some ⟨gr, 0, none⟩) (insR ⟨ra, rb, rc⟩ rs).length cn))
                obtain ⟨b2, r0, r1⟩ := ret_two L9.out (.slice (some ⟨gr, 0, none⟩) (insR ⟨ra, rb, rc⟩ rs).length cn) (.slice (some ⟨gn, 0, none⟩) hs.length dn)
                refine bodyPost_ret (v := .tuple #[tbV (some ⟨gr, 0, none⟩) (insR ⟨ra, rb, rc⟩ rs).length cn (some ⟨gn, 0, none⟩) hs.length dn, .bool true]) (by simp [results, Try.results17, go_sem, r0, r1]) rfl ?_
                unfold AddRes
                rw [HF.out.1, HF.out.2.1, HF.out.2.2]
                have hwd := MD.out.bel.size
                refine ⟨_, rfl, some ⟨gr, 0, none⟩, cn, gr, some ⟨gn, 0, none⟩, dn, gn, rfl, by omega, by omega, fun _ => ⟨rfl, ?_⟩, fun _ => ⟨rfl, ?_⟩, ?_, hcn, hdn, fun _ => ?_⟩
                · exact ((AR.out.far (p := ⟨X, 0, none⟩) hgx _).far (p := ⟨w.heap.size + 2, 0, none⟩) (by dsimp only; omega) _).far (p := ⟨w.heap.size + 2, 1, none⟩) (by dsimp only; omega) _
                · exact ((MF.out.an.setFar (p := ⟨X, 0, none⟩) hgnx _).setFar (p := ⟨w.heap.size + 2, 0, none⟩) (by dsimp only; omega) _).setFar (p := ⟨w.heap.size + 2, 1, none⟩) (by dsimp only; omega) _
                · exact ((MF.out.bel.setCell (p := ⟨X, 0, none⟩) (by dsimp only; omega) _).setCell (p := ⟨w.heap.size + 2, 0, none⟩) (by dsimp only; omega) _).setCell (p := ⟨w.heap.size + 2, 1, none⟩) (by dsimp only; omega) _
                · exact ((RM.out.far (p := ⟨X, 0, none⟩) hgx _).far (p := ⟨w.heap.size + 2, 0, none⟩) (by dsimp only; omega) _).far (p := ⟨w.heap.size + 2, 1, none⟩) (by dsimp only; omega) _
            · have hcap' : ¬ c = rs.length := hcap
              have hkc2 : rs.length < c := by omega
              have hX0 := fun (y : ExtB (w.heap.size + 3) w9.drew) => (y.cell w.heap.size 0 zt3).trans (show w9.drew.cell? ⟨w.heap.size, 0, none⟩ = _ from t0)
              have hX1 := fun (y : ExtB (w.heap.size + 3) w9.drew) => (y.cell (w.heap.size + 1) 0 zq3).trans (show w9.drew.cell? ⟨w.heap.size + 1, 0, none⟩ = _ from q0)
              have hX2 := fun (y : ExtB (w.heap.size + 3) w9.drew) => (y.cell (w.heap.size + 1) 1 zq3).trans (show w9.drew.cell? ⟨w.heap.size + 1, 1, none⟩ = _ from q1)
              have hX3 := fun (y : ExtB (w.heap.size + 3) w9.drew) => (y.cell (w.heap.size + 1) 2 zq3).trans (show w9.drew.cell? ⟨w.heap.size + 1, 2, none⟩ = _ from q2)
              refine wp_region_stg 16 (w.heap.size + 3) (by kernel_rfl) (by kernel_rfl) ?_
              refine stg_seg _ 7 [1, 2, 3, 4, 6, 9, 10, 11, 12] (by kernel_rfl) (by kernel_rfl) (by kernel_rfl) (by kernel_rfl) ?_
              (simp only [List.map_cons, List.map_nil, List.getElem?_cons_zero, List.getElem?_cons_succ, Option.getD_some]); (repeat (go_big_quiet_step (fail))); (refine wpQuiet_nil ?_)
              clear hX0 hX1 hX2 hX3 t0 zt zq q0 q1 q2
              generalize w9.drew = wd at *
              refine stg_two _ 6 0 7 (by rfl) (by rfl) (by rfl) (by kernel_rfl) (by rfl) (by rfl) ?_ ?_
              · go_wp2_with fail
                have Z1 := Lib.hid (show Below wd.heap.size wd (wd.alloc (.cells #[] 38)) from (Below.refl _ _).alloc (Nat.le_refl _) _)
                refine ⟨Z1.out.mono (by omega), _, Nat.le_refl _, ?_⟩
                have Q1 := Lib.hid (QT.made (w := wd) (W := wd) (Below.refl wd.heap.size wd))
                have Y1 := Lib.hid (show wd.heap.size < (wd.alloc (.cells #[] 38)).heap.size by simp)
                generalize wd.alloc (.cells #[] 38) = u1 at *
                refine stg_two _ 5 5 7 (by rfl) (by rfl) (by rfl) (by kernel_rfl) (by rfl) (by rfl) ?_ ?_
                · refine wp_append_own _ _ _ 28 rfl wd.heap.size 38 i0 _ 3 24 Try.underlying28 hi iz0 iz1 iz2 rfl (by decide) _ 0 (flat []) rfl Q1.out.row ⟨ga, oa, none⟩ rs.length c (flat (rs.take rs.length)) rfl (by rw [flat_len, List.length_take]; congr 1; omega) ((HSD.out.take rs.length).below Q1.out.bel).flat (flat_one _) (by unfold maxLen; first | omega | (simp; omega)) (by first | omega | (simp; omega)) Q1.out.bel.size ?_
                  intro v2 u2 ho2 hg2 hn2
                  have Q2 := Lib.hid (Q1.out.grown (zs := rs.take rs.length) (show rs.length = (rs.take rs.length).length by rw [List.length_take]; omega) ho2 hg2 hn2)
                  refine ⟨((Below.refl wd.heap.size _).grown hg2 Q1.out.bel.size (fun j e => (Q1.out.row.lt j e).1)).mono (by omega), _, Nat.le_refl _, ?_⟩
                  clear ho2 hg2 hn2
                  refine stg_one _ 4 7 (by kernel_rfl) (by rfl) (by kernel_rfl) (by rfl) ?_
                  go_wp2_with fail
                  have Z3 := Lib.hid (show Below u2.heap.size u2 (u2.alloc (.cells #[.int .i64 ra, .int .i64 rb, .int .i64 rc] 38)) from (Below.refl _ _).alloc (Nat.le_refl _) _)
                  refine ⟨Z3.out.mono (by have := Q2.out.bel.size; omega), _, Nat.le_refl _, ?_⟩
                  have X3 := Lib.hid (Box.new u2 38 #[.int .i64 ra, .int .i64 rb, .int .i64 rc])
                  have Q3 := Lib.hid (Q2.out.call Z3.out)
                  generalize u2.alloc (.cells #[.int .i64 ra, .int .i64 rb, .int .i64 rc] 38) = u3 at *
                  refine stg_one _ 3 8 (by kernel_rfl) (by rfl) (by kernel_rfl) (by rfl) ?_
                  refine wp_append_own _ _ _ 28 rfl wd.heap.size 38 i0 _ 3 24 Try.underlying28 hi iz0 iz1 iz2 rfl (by decide) _ _ _ rfl Q3.out.row ⟨u2.heap.size, 0, none⟩ 1 1 [.int .i64 ra, .int .i64 rb, .int .i64 rc] rfl rfl (new3b X3.out) (one3 _ _ _) (by unfold maxLen; first | omega | (simp; omega)) (by first | omega | (simp; omega)) Q3.out.bel.size ?_
                  intro v4 u4 ho4 hg4 hn4
                  have Q4 := Lib.hid (Q3.out.grown (zs := [⟨ra, rb, rc⟩]) rfl ho4 hg4 hn4)
                  refine ⟨((Below.refl wd.heap.size _).grown hg4 Q3.out.bel.size (fun j e => (Q3.out.row.lt j e).1)).mono (by omega), _, Nat.le_refl _, ?_⟩
                  clear ho4 hg4 hn4
                  refine stg_one _ 2 13 (by kernel_rfl) (by rfl) (by kernel_rfl) (by rfl) ?_
                  refine wp_append_own _ _ _ 28 rfl wd.heap.size 38 i0 _ 3 24 Try.underlying28 hi iz0 iz1 iz2 rfl (by decide) _ _ _ rfl Q4.out.row ⟨ga, oa + rs.length * 3, none⟩ 0 (c - rs.length) (flat (rs.drop rs.length)) rfl (by rw [flat_len, List.length_drop]; omega) ((HSD.out.drop rs.length).below Q4.out.bel).flat (flat_one _) (by unfold maxLen; first | omega | (simp; omega)) (by first | omega | (simp; omega)) Q4.out.bel.size ?_
                  intro v5 u5 ho5 hg5 hn5
                  have Q5 := Lib.hid (Q4.out.grown (zs := rs.drop rs.length) (show 0 = (rs.drop rs.length).length by rw [List.length_drop]; omega) ho5 hg5 hn5)
                  refine ⟨((Below.refl wd.heap.size _).grown hg5 Q4.out.bel.size (fun j e => (Q4.out.row.lt j e).1)).mono (by omega), _, Nat.le_refl _, ?_⟩
                  clear ho5 hg5 hn5
                  have QF := Lib.hid (Q5.out)
                  rw [List.nil_append] at QF
                  have HOUT := Lib.hid (show (rs.take rs.length ++ [(⟨ra, rb, rc⟩ : Lk)]) ++ rs.drop rs.length = insR ⟨ra, rb, rc⟩ rs by rw [HINS.out, List.append_assoc]; first | done | rfl)
                  rw [HOUT.out] at QF
                  obtain ⟨gr, cn, e1, hgr, -, ar, hcn⟩ := own_routes QF.out.row QF.out.nn
                  have MF := Lib.hid (MD.out.call QF.out.bel)
                  subst e1
                  have RM := Lib.hid (own_room QF.out.row)
                  have AR := Lib.hid ar
                  have hzr := ar.lt
                  clear ar
                  obtain ⟨yl, l0, l1, m0, m1⟩ := MF.out.kL.two
                  obtain ⟨yx, x0, x1, n0, n1⟩ := MF.out.kX.two
                  have hgx : gr ≠ X := by
                    rintro rfl
                    obtain ⟨cs, hh, _⟩ := AR.out
                    have := hh.symm.trans MF.out.kX
                    simp at this
                  refine stg_one _ 1 14 (by kernel_rfl) (by rfl) (by kernel_rfl) (by rfl) ?_
                  go_wp2_with fail
                  refine ⟨Below.refl _ _, _, Nat.le_refl _, ?_⟩
                  refine stg_one _ 0 15 (by kernel_rfl) (by rfl) (by kernel_rfl) (by rfl) ?_
                  go_wp2_with fail
                  refine ⟨(Below.refl _ _).setCell (p := ⟨X, 0, none⟩) (show w.heap.size + 3 ≤ X from hXs) _, _, Nat.le_refl _, ?_⟩
                  refine stg_end (by kernel_rfl) ?_
                  have hgnx : gn ≠ X := by
                    rintro rfl
                    obtain ⟨cs, hh, _⟩ := MF.out.an
                    have := hh.symm.trans MF.out.kX
                    simp at this
                  go_wp2_with fail
                  have L9 := Lib.hid (MF.out.kL.setFar (p := ⟨X, 0, none⟩) (by dsimp only; omega) (.slice (some ⟨gr, 0, none⟩) (insR ⟨ra, rb, rc⟩ rs).length cn))
                  obtain ⟨b2, r0, r1⟩ := ret_two L9.out (.slice (some ⟨gr, 0, none⟩) (insR ⟨ra, rb, rc⟩ rs).length cn) (.slice (some ⟨gn, 0, none⟩) hs.length dn)
                  refine bodyPost_ret (v := .tuple #[tbV (some ⟨gr, 0, none⟩) (insR ⟨ra, rb, rc⟩ rs).length cn (some ⟨gn, 0, none⟩) hs.length dn, .bool true]) (by simp [results, Try.results17, go_sem, r0, r1]) rfl ?_
                  unfold AddRes
                  rw [HF.out.1, HF.out.2.1, HF.out.2.2]
                  have hwd := MD.out.bel.size
                  refine ⟨_, rfl, some ⟨gr, 0, none⟩, cn, gr, some ⟨gn, 0, none⟩, dn, gn, rfl, by omega, by omega, fun _ => ⟨rfl, ?_⟩, fun _ => ⟨rfl, ?_⟩, ?_, hcn, hdn, fun _ => ?_⟩
                  · exact ((AR.out.far (p := ⟨X, 0, none⟩) hgx _).far (p := ⟨w.heap.size + 2, 0, none⟩) (by dsimp only; omega) _).far (p := ⟨w.heap.size + 2, 1, none⟩) (by dsimp only; omega) _
                  · exact ((MF.out.an.setFar (p := ⟨X, 0, none⟩) hgnx _).setFar (p := ⟨w.heap.size + 2, 0, none⟩) (by dsimp only; omega) _).setFar (p := ⟨w.heap.size + 2, 1, none⟩) (by dsimp only; omega) _
                  · exact ((MF.out.bel.setCell (p := ⟨X, 0, none⟩) (by dsimp only; omega) _).setCell (p := ⟨w.heap.size + 2, 0, none⟩) (by dsimp only; omega) _).setCell (p := ⟨w.heap.size + 2, 1, none⟩) (by dsimp only; omega) _
                  · exact ((RM.out.far (p := ⟨X, 0, none⟩) hgx _).far (p := ⟨w.heap.size + 2, 0, none⟩) (by dsimp only; omega) _).far (p := ⟨w.heap.size + 2, 1, none⟩) (by dsimp only; omega) _
                · go_wp2_with fail
                  have Z2 := Lib.hid (show Below u1.heap.size u1 (u1.alloc (.cells #[.int .i64 ra, .int .i64 rb, .int .i64 rc] 38)) from (Below.refl _ _).alloc (Nat.le_refl _) _)
                  refine ⟨Z2.out.mono (by have := Q1.out.bel.size; omega), _, Nat.le_refl _, ?_⟩
                  have X2 := Lib.hid (Box.new u1 38 #[.int .i64 ra, .int .i64 rb, .int .i64 rc])
                  have Q2 := Lib.hid (Q1.out.call Z2.out)
                  have HNE2 := Lib.hid (show (Value.slice (some ⟨wd.heap.size, 0, none⟩) 0 0).ownBlock ≠ some u1.heap.size from by have := Y1.out; simp [Value.ownBlock]; omega)
                  generalize u1.alloc (.cells #[.int .i64 ra, .int .i64 rb, .int .i64 rc] 38) = u2 at *
                  refine stg_one _ 4 5 (by kernel_rfl) (by rfl) (by kernel_rfl) (by rfl) ?_
                  refine wp_append_own _ _ _ 28 rfl wd.heap.size 38 i0 _ 3 24 Try.underlying28 hi iz0 iz1 iz2 rfl (by decide) _ 0 (flat []) rfl Q2.out.row ⟨ga, oa, none⟩ rs.length c (flat (rs.take rs.length)) rfl (by rw [flat_len, List.length_take]; congr 1; omega) ((HSD.out.take rs.length).below Q2.out.bel).flat (flat_one _) (by unfold maxLen; first | omega | (simp; omega)) (by first | omega | (simp; omega)) Q2.out.bel.size ?_
                  intro v3 u3 ho3 hg3 hn3
                  have Q3 := Lib.hid (Q2.out.grown (zs := rs.take rs.length) (show rs.length = (rs.take rs.length).length by rw [List.length_take]; omega) ho3 hg3 hn3)
                  have X3 := Lib.hid (show Box u3 (u1.heap.size) 38 #[.int .i64 ra, .int .i64 rb, .int .i64 rc] from (hg3.block _ X2.out.lt (fun e => HNE2.out e.symm)).trans X2.out)
                  refine ⟨((Below.refl wd.heap.size _).grown hg3 Q2.out.bel.size (fun j e => (Q2.out.row.lt j e).1)).mono (by omega), _, Nat.le_refl _, ?_⟩
                  clear ho3 hg3 hn3
                  refine stg_one _ 3 8 (by kernel_rfl) (by rfl) (by kernel_rfl) (by rfl) ?_
                  refine wp_append_own _ _ _ 28 rfl wd.heap.size 38 i0 _ 3 24 Try.underlying28 hi iz0 iz1 iz2 rfl (by decide) _ _ _ rfl Q3.out.row ⟨u1.heap.size, 0, none⟩ 1 1 [.int .i64 ra, .int .i64 rb, .int .i64 rc] rfl rfl (new3b X3.out) (one3 _ _ _) (by unfold maxLen; first | omega | (simp; omega)) (by first | omega | (simp; omega)) Q3.out.bel.size ?_
                  intro v4 u4 ho4 hg4 hn4
                  have Q4 := Lib.hid (Q3.out.grown (zs := [⟨ra, rb, rc⟩]) rfl ho4 hg4 hn4)
                  refine ⟨((Below.refl wd.heap.size _).grown hg4 Q3.out.bel.size (fun j e => (Q3.out.row.lt j e).1)).mono (by omega), _, Nat.le_refl _, ?_⟩
                  clear ho4 hg4 hn4
                  refine stg_one _ 2 13 (by kernel_rfl) (by rfl) (by kernel_rfl) (by rfl) ?_
                  refine wp_append_own _ _ _ 28 rfl wd.heap.size 38 i0 _ 3 24 Try.underlying28 hi iz0 iz1 iz2 rfl (by decide) _ _ _ rfl Q4.out.row ⟨ga, oa + rs.length * 3, none⟩ 0 (c - rs.length) (flat (rs.drop rs.length)) rfl (by rw [flat_len, List.length_drop]; omega) ((HSD.out.drop rs.length).below Q4.out.bel).flat (flat_one _) (by unfold maxLen; first | omega | (simp; omega)) (by first | omega | (simp; omega)) Q4.out.bel.size ?_
                  intro v5 u5 ho5 hg5 hn5
                  have Q5 := Lib.hid (Q4.out.grown (zs := rs.drop rs.length) (show 0 = (rs.drop rs.length).length by rw [List.length_drop]; omega) ho5 hg5 hn5)
                  refine ⟨((Below.refl wd.heap.size _).grown hg5 Q4.out.bel.size (fun j e => (Q4.out.row.lt j e).1)).mono (by omega), _, Nat.le_refl _, ?_⟩
                  clear ho5 hg5 hn5
                  have QF := Lib.hid (Q5.out)
                  rw [List.nil_append] at QF
                  have HOUT := Lib.hid (show (rs.take rs.length ++ [(⟨ra, rb, rc⟩ : Lk)]) ++ rs.drop rs.length = insR ⟨ra, rb, rc⟩ rs by rw [HINS.out, List.append_assoc]; first | done | rfl)
                  rw [HOUT.out] at QF
                  obtain ⟨gr, cn, e1, hgr, -, ar, hcn⟩ := own_routes QF.out.row QF.out.nn
                  have MF := Lib.hid (MD.out.call QF.out.bel)
                  subst e1
                  have RM := Lib.hid (own_room QF.out.row)
                  have AR := Lib.hid ar
                  have hzr := ar.lt
                  clear ar
                  obtain ⟨yl, l0, l1, m0, m1⟩ := MF.out.kL.two
                  obtain ⟨yx, x0, x1, n0, n1⟩ := MF.out.kX.two
                  have hgx : gr ≠ X := by
                    rintro rfl
                    obtain ⟨cs, hh, _⟩ := AR.out
                    have := hh.symm.trans MF.out.kX
                    simp at this
                  refine stg_one _ 1 14 (by kernel_rfl) (by rfl) (by kernel_rfl) (by rfl) ?_
                  go_wp2_with fail
                  refine ⟨Below.refl _ _, _, Nat.le_refl _, ?_⟩
                  refine stg_one _ 0 15 (by kernel_rfl) (by rfl) (by kernel_rfl) (by rfl) ?_
                  go_wp2_with fail
                  refine ⟨(Below.refl _ _).setCell (p := ⟨X, 0, none⟩) (show w.heap.size + 3 ≤ X from hXs) _, _, Nat.le_refl _, ?_⟩
                  refine stg_end (by kernel_rfl) ?_
                  have hgnx : gn ≠ X := by
                    rintro rfl
                    obtain ⟨cs, hh, _⟩ := MF.out.an
                    have := hh.symm.trans MF.out.kX
                    simp at this
                  go_wp2_with fail
                  have L9 := Lib.hid (MF.out.kL.setFar (p := ⟨X, 0, none⟩) (by dsimp only; omega) (.slice (some ⟨gr, 0, none⟩) (insR ⟨ra, rb, rc⟩ rs).length cn))
                  obtain ⟨b2, r0, r1⟩ := ret_two L9.out (.slice (some ⟨gr, 0, none⟩) (insR ⟨ra, rb, rc⟩ rs).length cn) (.slice (some ⟨gn, 0, none⟩) hs.length dn)
                  refine bodyPost_ret (v := .tuple #[tbV (some ⟨gr, 0, none⟩) (insR ⟨ra, rb, rc⟩ rs).length cn (some ⟨gn, 0, none⟩) hs.length dn, .bool true]) (by simp [results, Try.results17, go_sem, r0, r1]) rfl ?_
                  unfold AddRes
                  rw [HF.out.1, HF.out.2.1, HF.out.2.2]
                  have hwd := MD.out.bel.size
                  refine ⟨_, rfl, some ⟨gr, 0, none⟩, cn, gr, some ⟨gn, 0, none⟩, dn, gn, rfl, by omega, by omega, fun _ => ⟨rfl, ?_⟩, fun _ => ⟨rfl, ?_⟩, ?_, hcn, hdn, fun _ => ?_⟩
                  · exact ((AR.out.far (p := ⟨X, 0, none⟩) hgx _).far (p := ⟨w.heap.size + 2, 0, none⟩) (by dsimp only; omega) _).far (p := ⟨w.heap.size + 2, 1, none⟩) (by dsimp only; omega) _
                  · exact ((MF.out.an.setFar (p := ⟨X, 0, none⟩) hgnx _).setFar (p := ⟨w.heap.size + 2, 0, none⟩) (by dsimp only; omega) _).setFar (p := ⟨w.heap.size + 2, 1, none⟩) (by dsimp only; omega) _
                  · exact ((MF.out.bel.setCell (p := ⟨X, 0, none⟩) (by dsimp only; omega) _).setCell (p := ⟨w.heap.size + 2, 0, none⟩) (by dsimp only; omega) _).setCell (p := ⟨w.heap.size + 2, 1, none⟩) (by dsimp only; omega) _
                  · exact ((RM.out.far (p := ⟨X, 0, none⟩) hgx _).far (p := ⟨w.heap.size + 2, 0, none⟩) (by dsimp only; omega) _).far (p := ⟨w.heap.size + 2, 1, none⟩) (by dsimp only; omega) _
              · go_wp2_with fail
                have Z1 := Lib.hid (show Below wd.heap.size wd (wd.alloc (.cells #[.int .i64 ra, .int .i64 rb, .int .i64 rc] 38)) from (Below.refl _ _).alloc (Nat.le_refl _) _)
                refine ⟨Z1.out.mono (by omega), _, Nat.le_refl _, ?_⟩
                have X1 := Lib.hid (Box.new wd 38 #[.int .i64 ra, .int .i64 rb, .int .i64 rc])
                have Y1 := Lib.hid (show wd.heap.size < (wd.alloc (.cells #[.int .i64 ra, .int .i64 rb, .int .i64 rc] 38)).heap.size by simp)
                have Y1b := Lib.hid (show Below wd.heap.size wd (wd.alloc (.cells #[.int .i64 ra, .int .i64 rb, .int .i64 rc] 38)) from (Below.refl _ _).alloc (Nat.le_refl _) _)
                generalize wd.alloc (.cells #[.int .i64 ra, .int .i64 rb, .int .i64 rc] 38) = u1 at *
                refine stg_one _ 5 0 (by kernel_rfl) (by rfl) (by kernel_rfl) (by rfl) ?_
                go_wp2_with fail
                have Z2 := Lib.hid (show Below u1.heap.size u1 (u1.alloc (.cells #[] 38)) from (Below.refl _ _).alloc (Nat.le_refl _) _)
                refine ⟨Z2.out.mono (by have := Y1.out; omega), _, Nat.le_refl _, ?_⟩
                have Q2 := Lib.hid (QT.made (w := wd) (W := u1) Y1b.out)
                have X2 := Lib.hid (X1.out.alloc (.cells #[] 38))
                have HNE2 := Lib.hid (show (Value.slice (some ⟨u1.heap.size, 0, none⟩) 0 0).ownBlock ≠ some wd.heap.size from by have := Y1.out; simp [Value.ownBlock]; omega)
                generalize u1.alloc (.cells #[] 38) = u2 at *
                refine stg_one _ 4 5 (by kernel_rfl) (by rfl) (by kernel_rfl) (by rfl) ?_
                refine wp_append_own _ _ _ 28 rfl wd.heap.size 38 i0 _ 3 24 Try.underlying28 hi iz0 iz1 iz2 rfl (by decide) _ 0 (flat []) rfl Q2.out.row ⟨ga, oa, none⟩ rs.length c (flat (rs.take rs.length)) rfl (by rw [flat_len, List.length_take]; congr 1; omega) ((HSD.out.take rs.length).below Q2.out.bel).flat (flat_one _) (by unfold maxLen; first | omega | (simp; omega)) (by first | omega | (simp; omega)) Q2.out.bel.size ?_
                intro v3 u3 ho3 hg3 hn3
                have Q3 := Lib.hid (Q2.out.grown (zs := rs.take rs.length) (show rs.length = (rs.take rs.length).length by rw [List.length_take]; omega) ho3 hg3 hn3)
                have X3 := Lib.hid (show Box u3 (wd.heap.size) 38 #[.int .i64 ra, .int .i64 rb, .int .i64 rc] from (hg3.block _ X2.out.lt (fun e => HNE2.out e.symm)).trans X2.out)
                refine ⟨((Below.refl wd.heap.size _).grown hg3 Q2.out.bel.size (fun j e => (Q2.out.row.lt j e).1)).mono (by omega), _, Nat.le_refl _, ?_⟩
                clear ho3 hg3 hn3
                refine stg_one _ 3 8 (by kernel_rfl) (by rfl) (by kernel_rfl) (by rfl) ?_
                refine wp_append_own _ _ _ 28 rfl wd.heap.size 38 i0 _ 3 24 Try.underlying28 hi iz0 iz1 iz2 rfl (by decide) _ _ _ rfl Q3.out.row ⟨wd.heap.size, 0, none⟩ 1 1 [.int .i64 ra, .int .i64 rb, .int .i64 rc] rfl rfl (new3b X3.out) (one3 _ _ _) (by unfold maxLen; first | omega | (simp; omega)) (by first | omega | (simp; omega)) Q3.out.bel.size ?_
                intro v4 u4 ho4 hg4 hn4
                have Q4 := Lib.hid (Q3.out.grown (zs := [⟨ra, rb, rc⟩]) rfl ho4 hg4 hn4)
                refine ⟨((Below.refl wd.heap.size _).grown hg4 Q3.out.bel.size (fun j e => (Q3.out.row.lt j e).1)).mono (by omega), _, Nat.le_refl _, ?_⟩
                clear ho4 hg4 hn4
                refine stg_one _ 2 13 (by kernel_rfl) (by rfl) (by kernel_rfl) (by rfl) ?_
                refine wp_append_own _ _ _ 28 rfl wd.heap.size 38 i0 _ 3 24 Try.underlying28 hi iz0 iz1 iz2 rfl (by decide) _ _ _ rfl Q4.out.row ⟨ga, oa + rs.length * 3, none⟩ 0 (c - rs.length) (flat (rs.drop rs.length)) rfl (by rw [flat_len, List.length_drop]; omega) ((HSD.out.drop rs.length).below Q4.out.bel).flat (flat_one _) (by unfold maxLen; first | omega | (simp; omega)) (by first | omega | (simp; omega)) Q4.out.bel.size ?_
                intro v5 u5 ho5 hg5 hn5
                have Q5 := Lib.hid (Q4.out.grown (zs := rs.drop rs.length) (show 0 = (rs.drop rs.length).length by rw [List.length_drop]; omega) ho5 hg5 hn5)
                refine ⟨((Below.refl wd.heap.size _).grown hg5 Q4.out.bel.size (fun j e => (Q4.out.row.lt j e).1)).mono (by omega), _, Nat.le_refl _, ?_⟩
                clear ho5 hg5 hn5
                have QF := Lib.hid (Q5.out)
                rw [List.nil_append] at QF
                have HOUT := Lib.hid (show (rs.take rs.length ++ [(⟨ra, rb, rc⟩ : Lk)]) ++ rs.drop rs.length = insR ⟨ra, rb, rc⟩ rs by rw [HINS.out, List.append_assoc]; first | done | rfl)
                rw [HOUT.out] at QF
                obtain ⟨gr, cn, e1, hgr, -, ar, hcn⟩ := own_routes QF.out.row QF.out.nn
                have MF := Lib.hid (MD.out.call QF.out.bel)
                subst e1
                have RM := Lib.hid (own_room QF.out.row)
                have AR := Lib.hid ar
                have hzr := ar.lt
                clear ar
                obtain ⟨yl, l0, l1, m0, m1⟩ := MF.out.kL.two
                obtain ⟨yx, x0, x1, n0, n1⟩ := MF.out.kX.two
                have hgx : gr ≠ X := by
                  rintro rfl
                  obtain ⟨cs, hh, _⟩ := AR.out
                  have := hh.symm.trans MF.out.kX
                  simp at this
                refine stg_one _ 1 14 (by kernel_rfl) (by rfl) (by kernel_rfl) (by rfl) ?_
                go_wp2_with fail
                refine ⟨Below.refl _ _, _, Nat.le_refl _, ?_⟩
                refine stg_one _ 0 15 (by kernel_rfl) (by rfl) (by kernel_rfl) (by rfl) ?_
                go_wp2_with fail
                refine ⟨(Below.refl _ _).setCell (p := ⟨X, 0, none⟩) (show w.heap.size + 3 ≤ X from hXs) _, _, Nat.le_refl _, ?_⟩
                refine stg_end (by kernel_rfl) ?_
                have hgnx : gn ≠ X := by
                  rintro rfl
                  obtain ⟨cs, hh, _⟩ := MF.out.an
                  have := hh.symm.trans MF.out.kX
                  simp at this
                go_wp2_with fail
                have L9 := Lib.hid (MF.out.kL.setFar (p := ⟨X, 0, none⟩) (by dsimp only; omega) (.slice (some ⟨gr, 0, none⟩) (insR ⟨ra, rb, rc⟩ rs).length cn))
                obtain ⟨b2, r0, r1⟩ := ret_two L9.out (.slice (some ⟨gr, 0, none⟩) (insR ⟨ra, rb, rc⟩ rs).length cn) (.slice (some ⟨gn, 0, none⟩) hs.length dn)
                refine bodyPost_ret (v := .tuple #[tbV (some ⟨gr, 0, none⟩) (insR ⟨ra, rb, rc⟩ rs).length cn (some ⟨gn, 0, none⟩) hs.length dn, .bool true]) (by simp [results, Try.results17, go_sem, r0, r1]) rfl ?_
                unfold AddRes
                rw [HF.out.1, HF.out.2.1, HF.out.2.2]
                have hwd := MD.out.bel.size
                refine ⟨_, rfl, some ⟨gr, 0, none⟩, cn, gr, some ⟨gn, 0, none⟩, dn, gn, rfl, by omega, by omega, fun _ => ⟨rfl, ?_⟩, fun _ => ⟨rfl, ?_⟩, ?_, hcn, hdn, fun _ => ?_⟩
                · exact ((AR.out.far (p := ⟨X, 0, none⟩) hgx _).far (p := ⟨w.heap.size + 2, 0, none⟩) (by dsimp only; omega) _).far (p := ⟨w.heap.size + 2, 1, none⟩) (by dsimp only; omega) _
                · exact ((MF.out.an.setFar (p := ⟨X, 0, none⟩) hgnx _).setFar (p := ⟨w.heap.size + 2, 0, none⟩) (by dsimp only; omega) _).setFar (p := ⟨w.heap.size + 2, 1, none⟩) (by dsimp only; omega) _
                · exact ((MF.out.bel.setCell (p := ⟨X, 0, none⟩) (by dsimp only; omega) _).setCell (p := ⟨w.heap.size + 2, 0, none⟩) (by dsimp only; omega) _).setCell (p := ⟨w.heap.size + 2, 1, none⟩) (by dsimp only; omega) _
                · exact ((RM.out.far (p := ⟨X, 0, none⟩) hgx _).far (p := ⟨w.heap.size + 2, 0, none⟩) (by dsimp only; omega) _).far (p := ⟨w.heap.size + 2, 1, none⟩) (by dsimp only; omega) _
end Go.Proofs.Ytohflcbpjjnccab
