/-
  Contracts over this seat: marks on announcements, in memory; they are held.
-/
import Derived.Test.YtimebipgiicmiacZy
namespace Go.Proofs.Ytimebipgiicmiac
open Go.RowKit Go.Maps

/-- The marks from k on. -/
def markZ : Int → List Lz → List Lz
  | _, [] => []
  | k, z :: r => ⟨k, k + 1, markLs (k + 2) z.es.length, z.A, z.c, z.g⟩ :: markZ (k + 2 + 2 * z.es.length) r
theorem markZ_len (k : Int) (zs : List Lz) : (markZ k zs).length = zs.length := by
  induction zs generalizing k with
  | nil => rfl
  | cons z r ih => simp [markZ, ih]
theorem markZ_at {k : Int} {zs : List Lz} {j : Nat} {z : Lz} (h : zs[j]? = some z) : (markZ k zs)[j]? = some ⟨k + cntZ (zs.take j), k + cntZ (zs.take j) + 1, markLs (k + cntZ (zs.take j) + 2) z.es.length, z.A, z.c, z.g⟩ := by
  induction zs generalizing k j with
  | nil => simp at h
  | cons x r ih =>
    cases j with
    | zero =>
      simp at h
      subst h
      simp [markZ, cntZ]
    | succ j =>
      have h2 := ih (k := k + 2 + 2 * x.es.length) (by simpa using h)
      unfold markZ
      rw [List.getElem?_cons_succ, h2, List.take_succ_cons, show cntZ (x :: r.take j) = 2 + 2 * x.es.length + cntZ (r.take j) from rfl]
      have e : k + 2 + 2 * (x.es.length : Int) + (cntZ (r.take j) : Int) = k + ((2 + 2 * x.es.length + cntZ (r.take j) : Nat) : Int) := by omega
      rw [e]
theorem mk_step {M zs : List Lz} {j : Nat} {m : Lz} (hl : M.length = zs.length) (hm : M[j]? = some m) : (M.take j ++ zs.drop j).set j m = M.take (j + 1) ++ zs.drop (j + 1) := by
  have hj := (List.getElem?_eq_some_iff.1 hm).1
  rw [List.set_append, if_neg (by rw [List.length_take]; omega), List.length_take, show j - min j M.length = 0 by omega, List.drop_eq_getElem_cons (show j < zs.length by omega), List.set_cons_zero, List.take_add_one, hm]
  simp
theorem mk_at {M zs : List Lz} {j : Nat} {z : Lz} (hl : M.length = zs.length) (hz : zs[j]? = some z) : (M.take j ++ zs.drop j)[j]? = some z := by
  have hj := (List.getElem?_eq_some_iff.1 hz).1
  rw [List.getElem?_append_right (by rw [List.length_take]; omega), List.length_take, List.getElem?_drop]
  rw [show j + (j - min j M.length) = j by omega]
  exact hz
theorem flatZ_setO (o : Int) : ∀ (zs : List Lz) (k : Nat) (z : Lz), zs[k]? = some z → flatZ (zs.set k ⟨o, z.q, z.es, z.A, z.c, z.g⟩) = (flatZ zs).set (k * 3 + 0) (.int .i64 o)
  | [], k, z, h => by simp at h
  | x :: zs, 0, z, h => by
    simp at h
    subst h
    rfl
  | x :: zs, k + 1, z, h => by
    have := flatZ_setO o zs k z (by simpa using h)
    rw [Nat.add_zero] at this
    rw [show (k + 1) * 3 + 0 = k * 3 + 1 + 1 + 1 by omega]
    simp only [List.set_cons_succ, flatZ, this]
theorem flatZ_setQ (q : Int) : ∀ (zs : List Lz) (k : Nat) (z : Lz), zs[k]? = some z → flatZ (zs.set k ⟨z.o, q, z.es, z.A, z.c, z.g⟩) = (flatZ zs).set (k * 3 + 1) (.int .i64 q)
  | [], k, z, h => by simp at h
  | x :: zs, 0, z, h => by
    simp at h
    subst h
    rfl
  | x :: zs, k + 1, z, h => by
    have := flatZ_setQ q zs k z (by simpa using h)
    rw [show (k + 1) * 3 + 1 = k * 3 + 1 + 1 + 1 + 1 by omega]
    simp only [List.set_cons_succ, flatZ, this]
theorem ZI.cells {B g n c : Nat} {zs : List Lz} {W : World} (h : ZI B (.slice (some ⟨g, 0, none⟩) n c) zs W) {k : Nat} {z : Lz} (hk : zs[k]? = some z) : g < W.heap.size ∧ B ≤ g ∧ W.cell? ⟨g, k * 3, none⟩ = some (.int .i64 z.o) ∧ W.cell? ⟨g, k * 3 + 1, none⟩ = some (.int .i64 z.q) ∧ W.cell? ⟨g, k * 3 + 2, none⟩ = some (.slice z.A z.es.length z.c) ∧
    W.frozen? ⟨g, k * 3, none⟩ = false ∧ W.frozen? ⟨g, k * 3 + 1, none⟩ = false := by
  rcases h.row.2 with ⟨e, _⟩ | ⟨g', cap, cs, e, hbg, hh, hn, _, hs, ht⟩
  · cases e
  cases e
  have hkl := (List.getElem?_eq_some_iff.1 hk).1
  have hl := h.row.1
  rw [flatZ_len] at hl
  obtain ⟨h1, h2, h3⟩ := flatZ_at zs k z hk
  rw [← ht] at h1 h2 h3
  rw [List.getElem?_take_of_lt (by omega), Array.getElem?_toList] at h1 h2 h3
  refine ⟨heap_lt hh, hbg, ?_, ?_, ?_, heap_frozen hh _, heap_frozen hh _⟩
  · rw [cell_of_row W g _ cs _ _ hh]; exact h1
  · rw [cell_of_row W g _ cs _ _ hh]; exact h2
  · rw [cell_of_row W g _ cs _ _ hh]; exact h3

set_option maxRecDepth 100000 in
set_option maxHeartbeats 800000 in
theorem markLsaS_marks (B B1 : Nat) (A : Option Addr) (zs : List Lz) (c : Nat) (k : Int) (w : World) (hm : zs.length ≤ 2000000) (hes : ∀ z ∈ zs, z.es.length ≤ 2000000) (hk0 : 0 ≤ k) (hkc : k + cntZ zs ≤ 10000000) (h : ZI B (.slice A zs.length c) zs w) (hu : UpZ B1 (.slice A zs.length c) zs) (hB : B ≤ w.heap.size) :
   Calls Try.prog 28 #[.slice A zs.length c, .int .i64 k] w fun e w' => e = .returned (.int .i64 (k + cntZ zs)) ∧ ZI B (.slice A zs.length c) (markZ k zs) w' ∧ KeepO B B1 w w' := by
  have hml := markZ_len k zs
  have H0 := Lib.hid h
  have HU := Lib.hid hu
  have HES := Lib.hid hes
  have HML := Lib.hid hml
  have HCN : Hid (∀ (j : Nat) (z : Lz), zs[j]? = some z → cntZ (zs.take (j + 1)) = cntZ (zs.take j) + (2 + 2 * z.es.length) ∧ cntZ (zs.take (j + 1)) ≤ cntZ zs) := Lib.hid (fun j z hz => ⟨cntZ_next hz, by
    have : ∀ (ys : List Lz) (i : Nat), cntZ (ys.take i) ≤ cntZ ys := fun ys => by
      induction ys with
      | nil => intro i; simp [cntZ]
      | cons y r ih =>
        intro i
        cases i with
        | zero => simp [cntZ]
        | succ i =>
          have := ih i
          rw [List.take_succ_cons]
          unfold cntZ
          omega
    exact this _ _⟩)
  clear h hu hes hml
  go_enter Try.func28, Try.ntmps28
  go_wp2_with fail
  go_loopw [1, 5] (fun v i wr => ∃ j : Nat, j ≤ zs.length ∧ i = .int .i64 (j : Int) ∧ v = .int .i64 (k + cntZ (zs.take j)) ∧ Hid (ZI B (.slice A zs.length c) ((markZ k zs).take j ++ zs.drop j) wr) ∧ Hid (KeepO B B1 w wr)) (fun _ i _ => zs.length - (intOf i).toNat)
  case atStart => exact ⟨0, Nat.zero_le _, rfl, by simp [cntZ], Lib.hid (by simpa using H0.out), Lib.hid (KeepO.refl _ _ _)⟩
  case round =>
    obtain ⟨j, hj, rfl, rfl, Z1, K1⟩ := hrel
    by_cases hlt : j < zs.length
    · obtain ⟨z, hz⟩ : ∃ x, zs[j]? = some x := ⟨_, List.getElem?_eq_getElem hlt⟩
      have hzl := HES.out z (List.mem_of_getElem? hz)
      obtain ⟨hcn, hcb⟩ := HCN.out j z hz
      have hat := mk_at (M := markZ k zs) HML.out hz
      have hms := mk_step (M := markZ k zs) HML.out (markZ_at hz)
      obtain ⟨xs, hxs⟩ : ∃ xs, (markZ k zs).take j ++ zs.drop j = xs := ⟨_, rfl⟩
      have hxl : xs.length = zs.length := by rw [← hxs, List.length_append, List.length_take, List.length_drop, HML.out]; omega
      have hA : ∃ rg, A = some ⟨rg, 0, none⟩ := by
        obtain ⟨A', g, c', e, -, -, -, hp, -⟩ := own_slicez (zs := xs) (by rw [← hxs]; exact Z1.out.row) (by have := hB; have := K1.out.size; omega)
        injection e with e1 e2 e3
        rw [e1]
        exact ⟨g, (hp (by omega)).1⟩
      obtain ⟨rg, rfl⟩ := hA
      rw [hxs] at hat hms Z1
      have hrg : rg < B1 := HU.out.row rg rfl
      have hgz : 0 < z.es.length → z.g < B1 := HU.out.inn z (List.mem_of_getElem? hz)
      have Z1' : Hid (ZI B (.slice (some ⟨rg, 0, none⟩) xs.length c) xs wr) := Lib.hid (by rw [hxl]; exact Z1.out)
      obtain ⟨hrw, hBrg, hc0, hc1, hc2, hf0, hf1⟩ := Z1'.out.cells hat
      obtain ⟨kk, hkk⟩ : ∃ kk : Int, k + cntZ (zs.take j) = kk := ⟨_, rfl⟩
      have hk2 : 0 ≤ kk := by omega
      have hk3 : kk ≤ 10000000 := by omega
      have HKK := Lib.hid (show k + (cntZ (zs.take (j + 1)) : Int) = kk + 2 + 2 * (z.es.length : Int) by rw [hcn]; push_cast; omega)
      rw [hkk] at hms
      -- the two numbers
      have Z2 := Z1'.out.setV hat (z' := ⟨kk, z.q, z.es, z.A, z.c, z.g⟩) ⟨rfl, rfl, rfl, rfl⟩ (flatZ_setO kk xs j z hat)
      rw [Nat.add_zero] at Z2
      have hjx : j < xs.length := by omega
      have hat2 : (xs.set j ⟨kk, z.q, z.es, z.A, z.c, z.g⟩)[j]? = some ⟨kk, z.q, z.es, z.A, z.c, z.g⟩ := by rw [List.getElem?_set_self hjx]
      have Z3 := (show ZI B (.slice (some ⟨rg, 0, none⟩) (xs.set j ⟨kk, z.q, z.es, z.A, z.c, z.g⟩).length c) _ _ by rw [List.length_set]; exact Z2).setV hat2 (z' := ⟨kk, kk + 1, z.es, z.A, z.c, z.g⟩) ⟨rfl, rfl, rfl, rfl⟩ (flatZ_setQ (kk + 1) _ j _ hat2)
      rw [List.length_set, List.set_set] at Z3
      have Z3 := Lib.hid Z3
      have K3 : Hid (KeepO B B1 w ((wr.setCell ⟨rg, j * 3, none⟩ (.int .i64 kk)).setCell ⟨rg, j * 3 + 1, none⟩ (.int .i64 (kk + 1)))) := Lib.hid (K1.out.trans ((KeepO.setCell (p := ⟨rg, j * 3, none⟩) ⟨hBrg, hrg⟩ _).trans (KeepO.setCell (p := ⟨rg, j * 3 + 1, none⟩) ⟨hBrg, hrg⟩ _)))
      have hs3 : ((wr.setCell ⟨rg, j * 3, none⟩ (.int .i64 kk)).setCell ⟨rg, j * 3 + 1, none⟩ (.int .i64 (kk + 1))).heap.size = wr.heap.size := by simp
      have hat3 : (xs.set j ⟨kk, kk + 1, z.es, z.A, z.c, z.g⟩)[j]? = some ⟨kk, kk + 1, z.es, z.A, z.c, z.g⟩ := by rw [List.getElem?_set_self hjx]
      obtain ⟨hown, hBz, hzc⟩ := Z3.out.inn _ (List.mem_of_getElem? hat3)
      dsimp only at hown hBz hzc
      obtain ⟨g', hog, hgc⟩ := hown.fresh
      have CM := markEndS_marks z.A g' z.es z.c (kk + 1 + 1) _ hzl (by omega) (by omega) hog
      have hms2 : (xs.set j ⟨kk, kk + 1, z.es, z.A, z.c, z.g⟩).set j ⟨kk, kk + 1, markLs (kk + 2) z.es.length, z.A, z.c, z.g⟩ = (markZ k zs).take (j + 1) ++ zs.drop (j + 1) := by rw [List.set_set]; exact hms
      have HZ4 : Hid (∀ {w4 : World}, ((wr.setCell ⟨rg, j * 3, none⟩ (.int .i64 kk)).setCell ⟨rg, j * 3 + 1, none⟩ (.int .i64 (kk + 1))).grownBy w4 (some g') → Owne w4 z.A g' (markLs (kk + 2) z.es.length) → ZI B (.slice (some ⟨rg, 0, none⟩) zs.length c) ((markZ k zs).take (j + 1) ++ zs.drop (j + 1)) w4 ∧ KeepO B B1 w w4) := Lib.hid (fun hg ho => by
        refine ⟨?_, K3.out.trans (KeepO.of_grown hg ?_)⟩
        · have := Z3.out.mark hat3 (es' := markLs (kk + 2) z.es.length) (markLs_len _ _) hg ho hgc
          rw [hms2, hxl] at this
          exact this
        · rcases hgc with ⟨h1, h2⟩ | h2
          · left
            rw [h2]
            exact ⟨hBz, hgz h1⟩
          · exact .inr h2)
      obtain ⟨zo, zq, zes, zA, zc, zg⟩ := z
      dsimp only at *
      have e2 : kk + 1 + 1 = kk + 2 := by omega
      have E2 := Lib.hid e2
      clear hz hat hms hat2 hat3 hms2 hown hog hgc Z1 Z2 hcn e2 hs3
      have hkw1 : IntKind.i64.wrap (kk + 1) = kk + 1 := IntWalk.i64_in _ (by omega)
      have hkw2 : IntKind.i64.wrap (kk + 1 + 1) = kk + 1 + 1 := IntWalk.i64_in _ (by omega)
      have HKC := Lib.hid hkk
      rw [hkk]
      clear hkk hxs hxl hjx
      go_wp2_with fail
      refine CM.mono ?_
      clear CM
      rintro e w4 ⟨rfl, ho4, hg4⟩
      obtain ⟨z4, k4⟩ := HZ4.out hg4 (by rw [E2.out] at ho4; exact ho4)
      have Z4 := Lib.hid z4
      have K4 := Lib.hid k4
      clear ho4 hg4 z4 k4 HZ4 Z3 K3 Z1' K1
      go_wp2_with fail
      go_roundw
      case rel => exact ⟨j + 1, hlt, by go_num, int_eq (by rw [HKK.out]; omega), Z4, K4⟩
      case measure => simp [intOf]; omega
    · obtain rfl : j = zs.length := by omega
      go_wp2_with fail
      go_ret
      refine ⟨?_, ?_, K1.out⟩
      · exact ret_int (by rw [List.take_length])
      · have := Z1.out
        rw [List.take_of_length_le (by rw [HML.out]; exact Nat.le_refl _), List.drop_length, List.append_nil] at this
        exact this


theorem markLsa_any (B B1 : Nat) (z : Lz) (k : Int) (w : World) (hm : z.es.length ≤ 2000000) (hk0 : 0 ≤ k) (hk1 : k ≤ 10000000) (h : InnZ w B z) (hu : 0 < z.es.length → z.g < B1) :
   Calls Try.prog 16 #[z.v, .int .i64 k] w fun e w' => e = .returned (.int .i64 (k + 2 * z.es.length)) ∧ KeepO B B1 w w' := by
  obtain ⟨hown, hBz, -⟩ := h
  have hb0 : Below w.heap.size w (w.alloc (.cells #[.int .i64 z.o, .int .i64 z.q, .slice z.A z.es.length z.c] 28)) := by (repeat (first | exact Below.refl _ _ | (refine Below.alloc ?_ (by first | exact Nat.le_refl _ | omega | (simp; done) | (simp; omega)) _) | (refine Below.setCell ?_ (by first | exact Nat.le_refl _ | omega | (simp; done) | (simp; omega)) _) | exact Below.drew ‹_›))
  obtain ⟨g', hog, hgc⟩ := (hown.below hb0).fresh
  have CM := markEndS_marks z.A g' z.es z.c k _ hm hk0 hk1 hog
  have HK : Hid (∀ {w4 : World}, (w.alloc (.cells #[.int .i64 z.o, .int .i64 z.q, .slice z.A z.es.length z.c] 28)).grownBy w4 (some g') → KeepO B B1 w w4) := Lib.hid (fun hg => (KeepO.of_below hb0).trans (KeepO.of_grown hg (by
    rcases hgc with ⟨h1, h2⟩ | h2
    · left
      rw [h2]
      exact ⟨hBz, hu h1⟩
    · exact .inr h2)))
  obtain ⟨zo, zq, zes, zA, zc, zg⟩ := z
  dsimp only at *
  clear hown hBz hu hog hgc hb0
  go_enter Try.func16, Try.ntmps16
  go_wp2_with fail
  refine CM.mono ?_
  clear CM
  rintro e w4 ⟨rfl, -, hg4⟩
  have K4 := Lib.hid (HK.out hg4)
  clear hg4
  go_wp2_with fail
  go_ret
  exact ⟨rfl, K4.out⟩

end Go.Proofs.Ytimebipgiicmiac
