/-
  A contract over this seat: the draw of two lists of announcements.
-/
import Derived.Test.YtimebipgiicmiabZs
namespace Go.Proofs.Ytimebipgiicmiab
open Go.RowKit Go.Maps

abbrev Lz.setQ (z : Lz) (q : Int) : Lz := ⟨z.o, q, z.es, z.A, z.c, z.g⟩
theorem flatZ_set (q : Int) : ∀ (zs : List Lz) (k : Nat) (z : Lz), zs[k]? = some z → flatZ (zs.set k (z.setQ q)) = (flatZ zs).set (k * 3 + 1) (.int .i64 q)
  | [], k, z, h => by simp at h
  | x :: zs, 0, z, h => by
    simp at h
    subst h
    rfl
  | x :: zs, k + 1, z, h => by
    have := flatZ_set q zs k z (by simpa using h)
    rw [show (k + 1) * 3 + 1 = k * 3 + 1 + 1 + 1 + 1 by omega]
    simp only [List.set_cons_succ, flatZ, this]
theorem set_gs {zs : List Lz} {k : Nat} {z : Lz} {q : Int} (hk : zs[k]? = some z) (i : Nat) (x : Lz) (h : (zs.set k (z.setQ q))[i]? = some x) : ∃ y, zs[i]? = some y ∧ y.g = x.g ∧ y.es = x.es ∧ y.A = x.A ∧ y.c = x.c := by
  rw [List.getElem?_set] at h
  split at h
  · rename_i e
    subst e
    split at h
    · cases h
      exact ⟨z, hk, rfl, rfl, rfl, rfl⟩
    · cases h
  · exact ⟨x, h, rfl, rfl, rfl, rfl⟩
/-- Another sequence number in a row of a call's own. -/
theorem ZI.setQ {B g c : Nat} {zs : List Lz} {W : World} (h : ZI B (.slice (some ⟨g, 0, none⟩) zs.length c) zs W) {k : Nat} {z : Lz} (hk : zs[k]? = some z) (q : Int) : ZI B (.slice (some ⟨g, 0, none⟩) zs.length c) (zs.set k (z.setQ q)) (W.setCell ⟨g, k * 3 + 1, none⟩ (.int .i64 q)) := by
  obtain ⟨hrow, hinn, hdis⟩ := h
  obtain ⟨hl, hr⟩ := hrow
  rcases hr with ⟨he, _⟩ | ⟨g', cap, cur, he, hbg, hh, hn, h9, hs, ht⟩
  · cases he
  · cases he
    refine ⟨?_, fun x hx => ?_, ?_⟩
    · rw [List.length_set]
      refine ⟨by rw [flatZ_len, List.length_set], .inr ⟨g, c, cur.setIfInBounds (k * 3 + 1) (.int .i64 q), rfl, hbg, heap_set hh _ _, hn, h9, by simpa using hs, ?_⟩⟩
      rw [flatZ_set q zs k z hk, Array.toList_setIfInBounds, List.take_set, ht]
    · obtain ⟨i, hi⟩ := List.getElem?_of_mem hx
      obtain ⟨y, hy, e1, e2, e3, e4⟩ := set_gs hk i x hi
      obtain ⟨h1, h2, h3⟩ := hinn y (List.mem_of_getElem? hy)
      rw [e1] at h1 h2
      rw [e2] at h1 h3
      rw [e3] at h1
      rw [e4] at h3
      refine ⟨fun hp => ?_, h2, h3⟩
      obtain ⟨e, cs, hh', hc⟩ := h1 hp
      have hne : x.g ≠ g := by
        intro e
        rw [e, hh] at hh'
        injection hh' with hh'
        injection hh' with _ h2
        exact absurd h2 (by decide)
      exact ⟨e, cs, (Below.heap_setCell W ⟨g, k * 3 + 1, none⟩ _ x.g hne).trans hh', hc⟩
    · rw [List.pairwise_iff_getElem]
      intro i j hi hj hij h1 h2
      obtain ⟨y, hy, e1, e2, _⟩ := set_gs hk i _ (List.getElem?_eq_getElem hi)
      obtain ⟨u, hu, f1, f2, _⟩ := set_gs hk j _ (List.getElem?_eq_getElem hj)
      rw [← e1, ← f1]
      rw [← e2] at h1
      rw [← f2] at h2
      obtain ⟨hi', rfl⟩ := List.getElem?_eq_some_iff.1 hy
      obtain ⟨hj', rfl⟩ := List.getElem?_eq_some_iff.1 hu
      exact List.pairwise_iff_getElem.1 hdis i j hi' hj' hij h1 h2
theorem ZL.setQ {w W : World} {R : Nat} {A : Option Addr} {len c : Nat} {f : Nat → Int} {P g n : Nat} {zs : List Lz} (h : ZL w R A len c f P (.slice (some ⟨g, 0, none⟩) zs.length n) zs W) (hRw : R < w.heap.size) (hg : w.heap.size ≤ g) {k : Nat} {z : Lz} (hk : zs[k]? = some z) (q : Int) :
    ZL w R A len c f P (.slice (some ⟨g, 0, none⟩) zs.length n) (zs.set k (z.setQ q)) (W.setCell ⟨g, k * 3 + 1, none⟩ (.int .i64 q)) :=
  ⟨h.rd.set (q := ⟨g, k * 3 + 1, none⟩) (by show R < g; omega) _, h.row.setQ hk q, grown_setFar h.gr (p := ⟨g, k * 3 + 1, none⟩) hg _⟩
theorem ZI.at {B g n c : Nat} {zs : List Lz} {W : World} (h : ZI B (.slice (some ⟨g, 0, none⟩) n c) zs W) {k : Nat} {z : Lz} (hk : zs[k]? = some z) : g < W.heap.size ∧ W.cell? ⟨g, k * 3 + 1, none⟩ = some (.int .i64 z.q) ∧ W.frozen? ⟨g, k * 3 + 1, none⟩ = false ∧ B ≤ g := by
  rcases h.row.2 with ⟨e, _⟩ | ⟨g', cap, cs, e, hbg, hh, hn, _, hs, ht⟩
  · cases e
  cases e
  have hkl := (List.getElem?_eq_some_iff.1 hk).1
  refine ⟨heap_lt hh, ?_, heap_frozen hh _, hbg⟩
  obtain ⟨h1, h2, h3⟩ := flatZ_at zs k z hk
  rw [← ht] at h2
  rw [List.getElem?_take_of_lt (by omega), Array.getElem?_toList] at h2
  rw [cell_of_row W g _ cs _ _ hh]
  exact h2
theorem ZL.drew {w w1 : World} {R : Nat} {A : Option Addr} {len c : Nat} {f : Nat → Int} {P : Nat} {v : Value} {zs : List Lz} (h : ZL w R A len c f P v zs w1) : ZL w R A len c f P v zs w1.drew := by
  obtain ⟨⟨p, hp, hx, hB⟩, h2, h5⟩ := h
  exact ⟨⟨p, hp, hx, hB⟩, h2.drew, ⟨h5.os, h5.tape, h5.output, h5.size, h5.block⟩⟩
/-- Two drawn lists. -/
def MrgX (w : World) (e : Ending) (w' : World) : Prop := ∃ (zs : List Lz) (A : Option Addr) (c : Nat) (os : List Lz) (B : Option Addr) (cb b0 : Nat), e = .returned (.tuple #[.slice A zs.length c, .slice B os.length cb]) ∧ zs.length ≤ 9 ∧ os.length ≤ 9 ∧ (∀ x ∈ zs, x.es.length ≤ 8) ∧ (∀ x ∈ os, x.es.length ≤ 8) ∧
  ZI w.heap.size (.slice A zs.length c) zs w' ∧ w.heap.size ≤ b0 ∧ ZI b0 (.slice B os.length cb) os w' ∧ (∀ x ∈ zs, 0 < x.es.length → x.g < b0) ∧ (∀ j, (Value.slice A zs.length c).ownBlock = some j → j < b0) ∧ Below w.heap.size w w'

set_option maxRecDepth 100000 in
set_option maxHeartbeats 4000000 in
theorem drawDbMerge_any (A : Option Addr) (len c : Nat) (f : Nat → Int) (w : World) (hlc : len ≤ c) (hc : c ≤ maxLen) (hB : Byt w w.heap.size A len f) :
   Calls Try.prog 23 #[.slice A len c] w (MrgX w) := by
  have HB := Lib.hid hB
  clear hB
  go_enter Try.func23, Try.ntmps23
  go_wp2_with fail
  refine (open_any A len c f _ hlc hc HB.out).mono ?_
  rintro e w1 ⟨l1, hl1, rfl, hr1, hb1, hs1⟩
  have H1 := Lib.hid hr1
  have B1 := Lib.hid hb1
  have hRw : w.heap.size < w1.heap.size := by omega
  clear hr1 hb1 HB hs1
  go_wp2_with fail
  refine (l91db_any _ A l1 c 0 f w1 hl1 (by omega) H1.out).mono ?_
  rintro e w2 ⟨zs, A3, c3, rfl, hl9, hok, hzi, hr2, hb2⟩
  have S2 := Lib.hid (show ZL w1 w.heap.size A l1 c f (0 + 300) (.slice A3 zs.length c3) zs w2 from ⟨hr2, hzi, hb2⟩)
  have hes : ∀ z ∈ zs, z.es.length ≤ 8 := fun z hz => (hok z hz).2.2.2.2.1
  have HES := Lib.hid hes
  clear hok hzi hr2 hb2 H1 hes
  go_wp2_with fail
  refine (pick_rd _ A l1 c _ 4 f _ hl1 (by omega) (by omega) (by omega) S2.out.rd).mono ?_
  rintro e w3 ⟨k3, rfl, hk3, hr3, hg3, hs3, -⟩
  have S3 := Lib.hid (S2.out.picked hr3 hg3 hRw)
  have hz3 := S3.out.gr.size
  clear hr3 hg3 hs3 S2
  have HLT := Lib.hid (fun x (hx : x ∈ zs) (h1 : 0 < x.es.length) => S3.out.row.lt hx h1)
  have HRL := Lib.hid (fun j e => (S3.out.row.row.lt j e).2)
  by_cases h3 : k3 = 0
  · subst h3
    have CC := l11copy_any A3 zs c3 w3 (by omega) (fun z hz => by have := HES.out z hz; omega) (S3.out.row.slz S3.out.gr.size)
    go_wp2_with fail
    refine CC.mono ?_
    clear CC
    rintro e w4 ⟨ys, Ay, cy, rfl, hd4, hz4, hb4⟩
    have hly : ys.length = zs.length := by
      have := congrArg List.length hd4
      simpa [datL] using this
    have hey : ∀ y ∈ ys, y.es.length ≤ 8 := by
      have := datL_all (zs := ys) (P := fun d => d.es.length ≤ 8) (by
        rw [hd4]
        intro d hd
        obtain ⟨z, hz, rfl⟩ := List.mem_map.1 hd
        exact HES.out z hz)
      exact this
    have S4 := Lib.hid (show ZL w3 w.heap.size A l1 c f (0 + 300 + 1) (.slice Ay ys.length cy) ys w4 from ⟨S3.out.rd.below (hb4.mono S3.out.rd.lt), hz4, ⟨hb4.os, hb4.tape, hb4.output, hb4.size, fun k hk _ => hb4.block k hk⟩⟩)
    have hly9 : ys.length ≤ 9 := by omega
    have HEY := Lib.hid hey
    clear hd4 hz4 hb4 hly hey
    generalize hm : ys.length = m at *
    have HM := Lib.hid hm
    clear hm
    go_wp2_with fail
    go_loopw [7] (fun i wr => ∃ (k : Nat) (os : List Lz), k ≤ m ∧ i = .int .i64 (k : Int) ∧ Hid (os.length = m) ∧ Hid (∀ y ∈ os, y.es.length ≤ 8) ∧ Hid (ZL w3 w.heap.size A l1 c f (0 + 300 + 1 + 2 * k) (.slice Ay m cy) os wr)) (fun i _ => m - (intOf i).toNat)
    case atStart => exact ⟨0, ys, by omega, rfl, HM, HEY, S4⟩
    case round =>
      obtain ⟨k, os, hk, rfl, HO, HEO, S⟩ := hrel
      clear S4
      have hRw3 : w.heap.size < w3.heap.size := by omega
      by_cases hlt : k < m
      · obtain ⟨x, hx⟩ : ∃ x, os[k]? = some x := ⟨_, List.getElem?_eq_getElem (by have := HO.out; omega)⟩
        go_wp2_with fail
        refine (pick_rd _ A l1 c _ 3 f _ hl1 (by omega) (by omega) (by omega) S.out.rd).mono ?_
        rintro e w5 ⟨k5, rfl, hk5, hr5, hg5, hs5, -⟩
        have S5 := Lib.hid (S.out.picked hr5 hg5 hRw3)
        have HX := Lib.hid hx
        clear hr5 hg5 hs5 S hx
        by_cases h5 : k5 = 0
        · subst h5
          obtain ⟨A', g', c', he, -, -, -, -, hk'⟩ := own_slicez S5.out.row.row S5.out.gr.size
          obtain ⟨e1, -, -, -, -⟩ := hk' k x HX.out
          obtain ⟨ea, -, -⟩ := Value.slice.inj he
          have hay := ea.trans e1
          clear he hk' e1 ea
          subst hay
          obtain ⟨zg, y1, -, hbg⟩ := S5.out.row.at HX.out
          have SD := Lib.hid S5.out.drew
          have HXL := Lib.hid (HEO.out x (List.mem_of_getElem? HX.out))
          obtain ⟨xo, xq, xes, xA, xc, xg⟩ := x
          dsimp only at y1
          clear S5
          go_wp2_with fail
          go_region_law (go_simp; go_at_call 45; refine (pick_rd _ A l1 c _ _ f _ hl1 (by omega) (by omega) (by omega) SD.out.rd).mono ?_; rintro e w6 ⟨k6, rfl, hk6, hr6, hg6, hs6, -⟩; have S6 := Lib.hid (SD.out.picked hr6 hg6 hRw3); have Y6 := S6.out.row.at HX.out; have z6 := Y6.1; have e6 : w6.cell? ⟨g', k * 3 + 1, none⟩ = some (.int .i64 xq) := Y6.2.1; have q6 := Y6.2.2.1; clear SD hr6 hg6 hs6 Y6)
          all_goals
            go_wp2_with fail
            go_roundw
            case rel => exact ⟨k + 1, os.set k ((⟨xo, xq, xes, xA, xc, xg⟩ : Lz).setQ _), by omega, by go_num, Lib.hid (by rw [List.length_set]; exact HO.out), Lib.hid (fun y hy => by
              rcases List.mem_or_eq_of_mem_set hy with hy | rfl
              · exact HEO.out y hy
              · exact HXL.out), Lib.hid (by
                have S7 := S6.out
                rw [← HO.out] at S7 ⊢
                exact (S7.setQ hRw3 hbg HX.out _).mono (by omega))⟩
            case measure => simp [intOf]; omega
        · have h5' : ((k5 : Int) == 0) = false := by simpa using h5
          go_wp2_with fail
          go_roundw
          case rel => exact ⟨k + 1, os, by omega, by go_num, HO, HEO, Lib.hid (S5.out.mono (by omega))⟩
          case measure => simp [intOf]; omega
      · obtain rfl : k = m := by omega
        have SA := S3.out.picked S.out.rd S.out.gr hRw
        have BF := B1.out.grown SA.gr (Nat.le_of_lt hRw) (fun k e => by injection e with e; omega)
        have HF := Lib.hid SA
        have HBF := Lib.hid BF
        clear SA BF
        go_wp2_with fail
        go_returns
        refine ⟨zs, A3, c3, os, Ay, cy, w3.heap.size, by rw [HO.out]; rfl, hl9, by have := HO.out; omega, HES.out, HEO.out, HF.out.row.down (by omega), by omega, by rw [HO.out]; exact S.out.row, HLT.out, HRL.out, HBF.out⟩
  · have h3' : ((k3 : Int) == 0) = false := by simpa using h3
    go_wp2_with fail
    refine (l91db_any _ A l1 c _ f w3 hl1 (by omega) S3.out.rd).mono ?_
    rintro e w4 ⟨os, Ao, co, rfl, hlo, hok, hzo, hr4, hb4⟩
    have SA := S3.out.picked hr4 hb4 hRw
    have BF := B1.out.grown SA.gr (Nat.le_of_lt hRw) (fun k e => by injection e with e; omega)
    have HF := Lib.hid SA
    have HBF := Lib.hid BF
    have HZO := Lib.hid hzo
    have HOK := Lib.hid hok
    clear SA BF hr4 hb4 hzo hok
    go_wp2_with fail
    go_returns
    refine ⟨zs, A3, c3, os, Ao, co, w3.heap.size, rfl, hl9, hlo, HES.out, fun z hz => (HOK.out z hz).2.2.2.2.1, HF.out.row.down (by omega), by omega, HZO.out, HLT.out, HRL.out, HBF.out⟩
end Go.Proofs.Ytimebipgiicmiab
