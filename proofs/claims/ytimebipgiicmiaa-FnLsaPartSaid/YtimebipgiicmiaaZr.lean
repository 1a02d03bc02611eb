/-
  Contracts over this seat: the draws of announcements.
-/
import Derived.Test.YtimebipgiicmiaaZq
namespace Go.Proofs.Ytimebipgiicmiaa
open Go.RowKit Go.Maps

theorem InnZ.far {W : World} {B : Nat} {z : Lz} (h : InnZ W B z) {p : Addr} (hp : z.g ≠ p.block) (u : Value) : InnZ (W.setCell p u) B z := ⟨h.1.set_far hp u, h.2⟩
theorem ZI.set_box {B : Nat} {v : Value} {zs : List Lz} {W : World} (h : ZI B v zs W) {Q : Nat} (hQ : Q < B) (i : Nat) (u : Value) : ZI B v zs (W.setCell ⟨Q, i, none⟩ u) := by
  refine ⟨h.row.kept (grown_set (World.grownBy.refl W (some Q)) i u) (.inr ?_), fun z hz => (h.inn z hz).far (p := ⟨Q, i, none⟩) (by have := (h.inn z hz).2.1; show z.g ≠ Q; omega) u, h.dis⟩
  intro e
  have := (h.row.lt Q e).1
  omega
/-- A drawn announcement. -/
def LsaX (w : World) (e : Ending) (w' : World) : Prop := ∃ z : Lz, e = .returned z.v ∧ LaOk z.d ∧ InnZ w' w.heap.size z ∧ Below w.heap.size w w'
/-- A drawn list and a drawn announcement. -/
def PutX (w : World) (e : Ending) (w' : World) : Prop := ∃ (zs : List Lz) (A : Option Addr) (c : Nat) (z : Lz), e = .returned (.tuple #[.slice A zs.length c, z.v]) ∧ zs.length ≤ 9 ∧ (∀ x ∈ zs, LaOk x.d) ∧ LaOk z.d ∧
  ZI w.heap.size (.slice A zs.length c) zs w' ∧ InnZ w' w.heap.size z ∧ (∀ x ∈ zs, 0 < x.es.length → 0 < z.es.length → x.g ≠ z.g) ∧ Below w.heap.size w w'

set_option maxRecDepth 100000 in
set_option maxHeartbeats 1600000 in
theorem drawLsaValid_any (A : Option Addr) (len c : Nat) (f : Nat → Int) (w : World) (hlc : len ≤ c) (hc : c ≤ maxLen) (hB : Byt w w.heap.size A len f) :
   Calls Try.prog 26 #[.slice A len c] w (LsaX w) := by
  have HB := Lib.hid (hB.alloc (.cells #[.int .i64 0, .int .i64 0, .slice none 0 0] 29))
  have HQ := Lib.hid (Box.new w 29 #[.int .i64 0, .int .i64 0, .slice none 0 0])
  clear hB
  go_enter Try.func26, Try.ntmps26
  go_wp2_with fail
  refine (open_any A len c f _ hlc hc HB.out).mono ?_
  rintro e w1 ⟨l1, hl1, rfl, hr1, hb1, hs1⟩
  rw [World.size_alloc] at hr1 hb1 hs1
  have H1 := Lib.hid hr1
  have B1 := Lib.hid (Below.trans (B := w.heap.size) (a := w) (by (repeat (first | exact Below.refl _ _ | (refine Below.alloc ?_ (by first | exact Nat.le_refl _ | omega | (simp; done) | (simp; omega)) _) | (refine Below.setCell ?_ (by first | exact Nat.le_refl _ | omega | (simp; done) | (simp; omega)) _) | exact Below.drew ‹_›))) (hb1.mono (by omega)))
  have Q1 := Lib.hid (HQ.out.below hb1 (by omega))
  have hz1 : w.heap.size + 1 < w1.heap.size := by omega
  clear hr1 hb1 HQ HB hs1
  go_wp2_with fail
  refine (l91lsa_any _ A l1 c 0 f w1 hl1 (by omega) H1.out).mono ?_
  rintro e w2 ⟨z, rfl, hzo, hzi, hr2, hb2⟩
  have Q2 := Lib.hid (Q1.out.grown hb2 (by omega))
  have B2 := Lib.hid (B1.out.grown hb2 (by omega) (fun k e => by injection e with e; omega))
  have HI := Lib.hid hzi
  have HO := Lib.hid hzo
  clear hzo hzi hr2 hb2 Q1 B1 H1
  obtain ⟨zo, zq, zes, zA, zc, zg⟩ := z
  obtain ⟨zr, r0, r1, r2, u0, u1, u2⟩ := Q2.out.three
  obtain ⟨b7, x0, x1, x2⟩ := ret_three Q2.out (.int .i64 zo) (.int .i64 zq) (.slice zA zes.length zc)
  go_wp2_with fail
  refine bodyPost_ret (v := (⟨zo, zq, zes, zA, zc, zg⟩ : Lz).v) (by simp [results, Try.results26, go_sem, x0, x1, x2]) rfl ?_
  have hg := HI.out.2.1
  dsimp only at hg
  refine ⟨⟨zo, zq, zes, zA, zc, zg⟩, rfl, HO.out, ((((HI.out.weak (B' := w.heap.size) (by omega)).far (p := ⟨w.heap.size, 0, none⟩) ?_ _).far (p := ⟨w.heap.size, 1, none⟩) ?_ _).far (p := ⟨w.heap.size, 2, none⟩) ?_ _), ((B2.out.setCell (p := ⟨w.heap.size, 0, none⟩) (Nat.le_refl _) _).setCell (p := ⟨w.heap.size, 1, none⟩) (Nat.le_refl _) _).setCell (p := ⟨w.heap.size, 2, none⟩) (Nat.le_refl _) _⟩
  · show zg ≠ w.heap.size; omega
  · show zg ≠ w.heap.size; omega
  · show zg ≠ w.heap.size; omega

set_option maxRecDepth 100000 in
set_option maxHeartbeats 1600000 in
theorem drawDbPut_any (A : Option Addr) (len c : Nat) (f : Nat → Int) (w : World) (hlc : len ≤ c) (hc : c ≤ maxLen) (hB : Byt w w.heap.size A len f) :
   Calls Try.prog 27 #[.slice A len c] w (PutX w) := by
  have HB := Lib.hid (hB.alloc (.cells #[.int .i64 0, .int .i64 0, .slice none 0 0] 29))
  have HQ := Lib.hid (Box.new w 29 #[.int .i64 0, .int .i64 0, .slice none 0 0])
  clear hB
  go_enter Try.func27, Try.ntmps27
  go_wp2_with fail
  refine (open_any A len c f _ hlc hc HB.out).mono ?_
  rintro e w1 ⟨l1, hl1, rfl, hr1, hb1, hs1⟩
  rw [World.size_alloc] at hr1 hb1 hs1
  have H1 := Lib.hid hr1
  have B1 := Lib.hid (Below.trans (B := w.heap.size) (a := w) (by (repeat (first | exact Below.refl _ _ | (refine Below.alloc ?_ (by first | exact Nat.le_refl _ | omega | (simp; done) | (simp; omega)) _) | (refine Below.setCell ?_ (by first | exact Nat.le_refl _ | omega | (simp; done) | (simp; omega)) _) | exact Below.drew ‹_›))) (hb1.mono (by omega)))
  have Q1 := Lib.hid (HQ.out.below hb1 (by omega))
  have hz1 : w.heap.size + 1 < w1.heap.size := by omega
  clear hr1 hb1 HQ HB hs1
  have hq := World.size_alloc w (.cells #[.int .i64 0, .int .i64 0, .slice none 0 0] 29)
  rw [hq]
  have hRw : w.heap.size + 1 < w1.heap.size := hz1
  clear hq
  go_wp2_with fail
  refine (l91db_any _ A l1 c 0 f w1 hl1 (by omega) H1.out).mono ?_
  rintro e w2 ⟨zs, A3, c3, rfl, hl9, hok, hzi, hr2, hb2⟩
  have S2 := Lib.hid (show ZL w1 (w.heap.size + 1) A l1 c f (0 + 300) (.slice A3 zs.length c3) zs w2 from ⟨hr2, hzi, hb2⟩)
  have HOK := Lib.hid hok
  have hes : ∀ z ∈ zs, z.es.length ≤ 8 := fun z hz => (hok z hz).2.2.2.2.1
  clear hok hzi hr2 hb2 H1
  by_cases h0 : 0 < zs.length
  · have h0' : (0 : Int) < (zs.length : Int) := by omega
    go_wp2_with fail
    refine (pick_rd _ A l1 c _ 6 f _ hl1 (by omega) (by omega) (by omega) S2.out.rd).mono ?_
    rintro e w3 ⟨k3, rfl, hk3, hr3, hg3, hs3, -⟩
    have S3 := Lib.hid (S2.out.picked hr3 hg3 hRw)
    clear hr3 hg3 hs3 S2
    by_cases h3 : k3 = 0
    · subst h3
      go_wp2_with fail
      refine (pick_rd _ A l1 c _ (zs.length : Int) f _ hl1 (by omega) (by omega) (by omega) S3.out.rd).mono ?_
      rintro e w4 ⟨k4, rfl, hk4, hr4, hg4, hs4, -⟩
      have S4 := Lib.hid (S3.out.picked hr4 hg4 hRw)
      have hk4n : k4 < zs.length := by omega
      clear hr4 hg4 hs4 S3
      obtain ⟨x, hx⟩ : ∃ x, zs[k4]? = some x := ⟨_, List.getElem?_eq_getElem hk4n⟩
      obtain ⟨b, off, rfl, hbb, hc1, hc2, hc3, hin⟩ := (S4.out.row.slz S4.out.gr.size) k4 x hx
      have CO := l11one_any x w4 (by have := hes x (List.mem_of_getElem? hx); omega) hin
      have hxo := HOK.out x (List.mem_of_getElem? hx)
      have hz3 := S4.out.gr.size
      obtain ⟨xo, xq, xes, xA, xc, xg⟩ := x
      dsimp only at hc1 hc2 hc3
      have HXO := Lib.hid hxo
      clear hx hin hxo
      go_wp2_with fail
      refine CO.mono ?_
      clear CO
      rintro e w5 ⟨z, rfl, hzd, hzi, hb5⟩
      have S5 := S4.out.call hb5
      have Q5 := Lib.hid (Q1.out.grown S5.gr (by omega))
      have B5 := Lib.hid (B1.out.grown S5.gr (by omega) (fun k e => by injection e with e; omega))
      have Z5 := Lib.hid S5.row
      have HI := Lib.hid hzi
      have HO := Lib.hid (show LaOk z.d by rw [hzd]; exact HXO.out)
      have HDJ := Lib.hid (show ∀ x ∈ zs, 0 < x.es.length → 0 < z.es.length → x.g ≠ z.g from fun x hx h1 _ => by have := S4.out.row.lt hx h1; have := hzi.2.1; omega)
      clear hzd hzi hb5 S5 S4 hc1 hc2 hc3 hbb
      obtain ⟨zo, zq, zes, zA, zc, zg⟩ := z
      obtain ⟨zr, r0, r1, r2, u0, u1, u2⟩ := Q5.out.three
      obtain ⟨b7, x0, x1, x2⟩ := ret_three Q5.out (.int .i64 zo) (.int .i64 zq) (.slice zA zes.length zc)
      go_wp2_with fail
      refine bodyPost_ret (v := .tuple #[.slice (some ⟨b, off, none⟩) zs.length c3, (⟨zo, zq, zes, zA, zc, zg⟩ : Lz).v]) (by simp [results, Try.results27, go_sem, x0, x1, x2]) rfl ?_
      have hg := HI.out.2.1
      dsimp only at hg
      refine ⟨zs, (some ⟨b, off, none⟩), c3, ⟨zo, zq, zes, zA, zc, zg⟩, rfl, hl9, HOK.out, HO.out, (((Z5.out.set_box ?_ 0 _).set_box ?_ 1 _).set_box ?_ 2 _).down (B' := w.heap.size) (by omega), ((((HI.out.weak (B' := w.heap.size) (by omega)).far (p := ⟨w.heap.size, 0, none⟩) ?_ _).far (p := ⟨w.heap.size, 1, none⟩) ?_ _).far (p := ⟨w.heap.size, 2, none⟩) ?_ _), HDJ.out, ((B5.out.setCell (p := ⟨w.heap.size, 0, none⟩) (Nat.le_refl _) _).setCell (p := ⟨w.heap.size, 1, none⟩) (Nat.le_refl _) _).setCell (p := ⟨w.heap.size, 2, none⟩) (Nat.le_refl _) _⟩
      · omega
      · omega
      · omega
      · show zg ≠ w.heap.size; omega
      · show zg ≠ w.heap.size; omega
      · show zg ≠ w.heap.size; omega
    · have h3' : ((k3 : Int) == 0) = false := by simpa using h3
      go_wp2_with fail
      refine (l91lsa_any _ A l1 c _ f _ hl1 (by omega) S3.out.rd).mono ?_
      rintro e w4 ⟨z, rfl, hzo, hzi, hr4, hb4⟩
      have S4 := S3.out.picked hr4 hb4 hRw
      have Q5 := Lib.hid (Q1.out.grown S4.gr (by omega))
      have B5 := Lib.hid (B1.out.grown S4.gr (by omega) (fun k e => by injection e with e; omega))
      have Z5 := Lib.hid S4.row
      have HI := Lib.hid hzi
      have HO := Lib.hid hzo
      have HDJ := Lib.hid (show ∀ x ∈ zs, 0 < x.es.length → 0 < z.es.length → x.g ≠ z.g from fun x hx h1 _ => by have := S3.out.row.lt hx h1; have := hzi.2.1; omega)
      have hz3 := S3.out.gr.size
      clear hzo hzi hr4 hb4 S4 S3
      obtain ⟨zo, zq, zes, zA, zc, zg⟩ := z
      obtain ⟨zr, r0, r1, r2, u0, u1, u2⟩ := Q5.out.three
      obtain ⟨b7, x0, x1, x2⟩ := ret_three Q5.out (.int .i64 zo) (.int .i64 zq) (.slice zA zes.length zc)
      go_wp2_with fail
      refine bodyPost_ret (v := .tuple #[.slice A3 zs.length c3, (⟨zo, zq, zes, zA, zc, zg⟩ : Lz).v]) (by simp [results, Try.results27, go_sem, x0, x1, x2]) rfl ?_
      have hg := HI.out.2.1
      dsimp only at hg
      refine ⟨zs, A3, c3, ⟨zo, zq, zes, zA, zc, zg⟩, rfl, hl9, HOK.out, HO.out, (((Z5.out.set_box ?_ 0 _).set_box ?_ 1 _).set_box ?_ 2 _).down (B' := w.heap.size) (by omega), ((((HI.out.weak (B' := w.heap.size) (by omega)).far (p := ⟨w.heap.size, 0, none⟩) ?_ _).far (p := ⟨w.heap.size, 1, none⟩) ?_ _).far (p := ⟨w.heap.size, 2, none⟩) ?_ _), HDJ.out, ((B5.out.setCell (p := ⟨w.heap.size, 0, none⟩) (Nat.le_refl _) _).setCell (p := ⟨w.heap.size, 1, none⟩) (Nat.le_refl _) _).setCell (p := ⟨w.heap.size, 2, none⟩) (Nat.le_refl _) _⟩
      · omega
      · omega
      · omega
      · show zg ≠ w.heap.size; omega
      · show zg ≠ w.heap.size; omega
      · show zg ≠ w.heap.size; omega
  · have h0' : ¬ (0 : Int) < (zs.length : Int) := by omega
    have S3 := S2
    clear S2
    go_wp2_with fail
    refine (l91lsa_any _ A l1 c _ f _ hl1 (by omega) S3.out.rd).mono ?_
    rintro e w4 ⟨z, rfl, hzo, hzi, hr4, hb4⟩
    have S4 := S3.out.picked hr4 hb4 hRw
    have Q5 := Lib.hid (Q1.out.grown S4.gr (by omega))
    have B5 := Lib.hid (B1.out.grown S4.gr (by omega) (fun k e => by injection e with e; omega))
    have Z5 := Lib.hid S4.row
    have HI := Lib.hid hzi
    have HO := Lib.hid hzo
    have HDJ := Lib.hid (show ∀ x ∈ zs, 0 < x.es.length → 0 < z.es.length → x.g ≠ z.g from fun x hx h1 _ => by have := S3.out.row.lt hx h1; have := hzi.2.1; omega)
    have hz3 := S3.out.gr.size
    clear hzo hzi hr4 hb4 S4 S3
    obtain ⟨zo, zq, zes, zA, zc, zg⟩ := z
    obtain ⟨zr, r0, r1, r2, u0, u1, u2⟩ := Q5.out.three
    obtain ⟨b7, x0, x1, x2⟩ := ret_three Q5.out (.int .i64 zo) (.int .i64 zq) (.slice zA zes.length zc)
    go_wp2_with fail
    refine bodyPost_ret (v := .tuple #[.slice A3 zs.length c3, (⟨zo, zq, zes, zA, zc, zg⟩ : Lz).v]) (by simp [results, Try.results27, go_sem, x0, x1, x2]) rfl ?_
    have hg := HI.out.2.1
    dsimp only at hg
    refine ⟨zs, A3, c3, ⟨zo, zq, zes, zA, zc, zg⟩, rfl, hl9, HOK.out, HO.out, (((Z5.out.set_box ?_ 0 _).set_box ?_ 1 _).set_box ?_ 2 _).down (B' := w.heap.size) (by omega), ((((HI.out.weak (B' := w.heap.size) (by omega)).far (p := ⟨w.heap.size, 0, none⟩) ?_ _).far (p := ⟨w.heap.size, 1, none⟩) ?_ _).far (p := ⟨w.heap.size, 2, none⟩) ?_ _), HDJ.out, ((B5.out.setCell (p := ⟨w.heap.size, 0, none⟩) (Nat.le_refl _) _).setCell (p := ⟨w.heap.size, 1, none⟩) (Nat.le_refl _) _).setCell (p := ⟨w.heap.size, 2, none⟩) (Nat.le_refl _) _⟩
    · omega
    · omega
    · omega
    · show zg ≠ w.heap.size; omega
    · show zg ≠ w.heap.size; omega
    · show zg ≠ w.heap.size; omega
end Go.Proofs.Ytimebipgiicmiaa
