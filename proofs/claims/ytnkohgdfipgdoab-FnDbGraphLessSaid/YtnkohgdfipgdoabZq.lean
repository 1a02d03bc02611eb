/-
  A contract over this seat: the drawn list of announcements.
-/
import Derived.Test.YtnkohgdfipgdoabZw
namespace Go.Proofs.Ytnkohgdfipgdoab
open Go.RowKit Go.Maps

/-- The state while a list is drawn: the reader, the row. -/
structure ZL (w : World) (R : Nat) (A : Option Addr) (len c : Nat) (f : Nat → Int) (P : Nat) (v : Value) (zs : List Lz) (W : World) : Prop where
  rd : RD R A len c f P W
  row : ZI w.heap.size v zs W
  gr : w.grownBy W (some R)
section
variable {w w1 w2 : World} {R : Nat} {A : Option Addr} {len c : Nat} {f : Nat → Int} {P P' : Nat} {v : Value} {zs : List Lz}
theorem ZL.mono (h : ZL w R A len c f P v zs w1) (hP : P ≤ P') : ZL w R A len c f P' v zs w1 := ⟨h.rd.mono hP, h.row, h.gr⟩
theorem ZL.picked (h : ZL w R A len c f P v zs w1) (hr : RD R A len c f P' w2) (hg : w1.grownBy w2 (some R)) (hRw : R < w.heap.size) : ZL w R A len c f P' v zs w2 := by
  obtain ⟨cs, hx⟩ := h.rd.box
  refine ⟨hr, ⟨owns_picked h.row.row hx (by decide) hg, fun z hz => ?_, h.row.dis⟩, grown_trans h.gr hg⟩
  obtain ⟨h1, h2, h3⟩ := h.row.inn z hz
  exact ⟨h1.grownFar hg (by omega), h2, h3⟩
/-- Another row takes the place of the row. -/
theorem ZL.swap (h : ZL w R A len c f P v zs w1) {v' : Value} {ys : List Lz} (hz : ZI w1.heap.size v' ys w2) (hb : Below w1.heap.size w1 w2) : ZL w R A len c f P v' ys w2 :=
  ⟨h.rd.below (hb.mono h.rd.lt), hz.down h.gr.size, ⟨hb.os.trans h.gr.os, hb.tape.trans h.gr.tape, hb.output.trans h.gr.output, Nat.le_trans h.gr.size hb.size, fun k hk hne => (hb.block k (Nat.lt_of_lt_of_le hk h.gr.size)).trans (h.gr.block k hk hne)⟩⟩
theorem ZL.call (h : ZL w R A len c f P v zs w1) (hb : Below w1.heap.size w1 w2) : ZL w R A len c f P v zs w2 :=
  ⟨h.rd.below (hb.mono h.rd.lt), h.row.call hb, ⟨hb.os.trans h.gr.os, hb.tape.trans h.gr.tape, hb.output.trans h.gr.output, Nat.le_trans h.gr.size hb.size, fun k hk hne => (hb.block k (Nat.lt_of_lt_of_le hk h.gr.size)).trans (h.gr.block k hk hne)⟩⟩
end
theorem laB_ok {d : La} (h : laB d = true) : LaOk d := by
  have hl := laB_len h
  obtain ⟨⟨h1, _⟩, h2, h3⟩ := laB_iff.1 h
  exact ⟨by omega, by omega, by omega, by omega, hl, fun e he => by
    have := h1 e he
    unfold EndOk
    omega⟩
theorem putD_ok {db : List La} {d : La} (h : putN db d = 0) : dbB (putD db d) = true := by
  unfold putN at h
  unfold putD
  by_cases hb : (dbB db && laB d) = true
  · rw [if_pos hb]
    simp only [Bool.and_eq_true] at hb
    obtain ⟨hv, hs⟩ := dbB_inv hb.1
    exact dbB_of (putL_val hs hv hb.2) (putL_srt hs)
  · rw [if_neg hb] at h
    cases h
/-- What 'l91Db' leaves. -/
def DbD (R : Nat) (A : Option Addr) (len c : Nat) (f : Nat → Int) (P : Nat) (w : World) (e : Ending) (w' : World) : Prop :=
  ∃ (zs : List Lz) (Az : Option Addr) (cz : Nat), e = .returned (.slice Az zs.length cz) ∧ zs.length ≤ 9 ∧ (∀ z ∈ zs, LaOk z.d) ∧ ZI w.heap.size (.slice Az zs.length cz) zs w' ∧ RD R A len c f P w' ∧ w.grownBy w' (some R)

set_option maxRecDepth 100000 in
set_option maxHeartbeats 4000000 in
theorem l91db_any (R : Nat) (A : Option Addr) (len c P : Nat) (f : Nat → Int) (w : World) (hlen : len ≤ 2000) (hP : P ≤ 50000) (hR : RD R A len c f P w) :
   Calls Try.prog 37 #[.pointer (some ⟨R, 0, none⟩)] w (DbD R A len c f (P + 300) w) := by
  obtain ⟨i0, hi, hz0, hz10, hz20⟩ := info_parts infoLsa
  have hRw := hR.lt
  have S0 := Lib.hid (show ZL w R A len c f P (.slice (some ⟨w.heap.size, 0, none⟩) 0 0) [] (w.alloc (.cells #[] 54)) from ⟨hR.alloc _, ZI.start _ w (Nat.le_refl _), World.grownBy_alloc w _ _⟩)
  clear hR
  go_enter Try.func37, Try.ntmps37
  go_wp2_with fail
  refine (pick_rd R A len c P 8 f _ hlen (by omega) (by omega) (by omega) S0.out.rd).mono ?_
  rintro e w1 ⟨k1, rfl, hk1, hR1, hg1, hs1, -⟩
  have S1 := Lib.hid (S0.out.picked hR1 hg1 hRw)
  clear hR1 hg1 hs1 S0
  go_wp2_with fail
  go_loopw [3, 5] (fun v i wr => ∃ (k : Nat) (zs : List Lz), k ≤ k1 ∧ i = .int .i64 (k : Int) ∧ Hid (dbB (datL zs) = true) ∧ Hid (ZL w R A len c f (P + 1 + 31 * k) v zs wr)) (fun _ i _ => k1 - (intOf i).toNat)
  case atStart => exact ⟨0, [], by omega, rfl, Lib.hid (by decide), S1⟩
  case round =>
    obtain ⟨k, zs, hk, rfl, HD, S⟩ := hrel
    clear S1
    have hwz := S.out.gr.size
    obtain ⟨A2, g2, c2, rfl, hg2, -, -, -, -⟩ := own_slicez S.out.row.row hwz
    by_cases hlt : k < k1
    · have hlti : (k : Int) < (k1 : Int) := by omega
      go_wp2_with fail
      refine (l91lsa_any R A len c _ f _ hlen (by omega) S.out.rd).mono ?_
      rintro e w3 ⟨z, rfl, hzo, hzi, hR3, hg3⟩
      have S3 := Lib.hid (S.out.picked hR3 hg3 hRw)
      have HI := Lib.hid hzi
      have hz8 : z.es.length ≤ 8 := hzo.2.2.2.2.1
      obtain ⟨hz, hze⟩ := db_short HD.out
      have CP := dbPut_spec A2 zs c2 z w3 (by omega) (fun z hz => by have := hze z hz; omega) (by omega) (S3.out.row.slz S3.out.gr.size) HI.out.1.slb
      have HOK := Lib.hid (@putD_ok (datL zs) z.d)
      generalize putN (datL zs) z.d = n at *
      clear hR3 hg3 S hzi hzo hze
      obtain ⟨zo, zq, zes, zA, zc, zg⟩ := z
      dsimp only at hz8
      go_wp2_with fail
      refine CP.mono ?_
      clear CP
      rintro e w4 ⟨ys, A3, c3, rfl, hd3, hz3, hb3⟩
      have T := Lib.hid (S3.out.swap hz3 hb3)
      have S4 := Lib.hid (S3.out.call hb3)
      have HD3 := Lib.hid hd3
      clear hz3 hb3 hd3 S3
      by_cases hn : n = 0
      · have HK := Lib.hid (HOK.out hn)
        subst hn
        clear HOK
        go_wp2_with fail
        go_roundw
        case rel => exact ⟨k + 1, ys, by omega, by go_num, Lib.hid (by rw [HD3.out]; exact HK.out), Lib.hid (T.out.mono (by omega))⟩
        case measure => simp [intOf]; omega
      · have hn' : (n == 0) = false := by simpa using hn
        clear hn
        go_wp2_with fail
        go_roundw
        case rel => exact ⟨k + 1, zs, by omega, by go_num, HD, Lib.hid (S4.out.mono (by omega))⟩
        case measure => simp [intOf]; omega
    · obtain rfl : k = k1 := by omega
      obtain ⟨hz, hze⟩ := db_short HD.out
      have hok : Hid (∀ z ∈ zs, LaOk z.d) := Lib.hid (fun z hz => laB_ok (datL_all (dbB_inv HD.out).1 z hz))
      clear hze
      go_wp2_with fail
      refine (pick_rd R A len c _ 20 f _ hlen (by omega) (by omega) (by omega) S.out.rd).mono ?_
      rintro e w3 ⟨k3, rfl, hk3, hR3, hg3, hs3, -⟩
      have S3 := Lib.hid (S.out.picked hR3 hg3 hRw)
      clear hR3 hg3 hs3 S
      by_cases h3 : k3 = 0
      · subst h3
        go_wp2_with fail
        refine (l91lsa_any R A len c _ f _ hlen (by omega) S3.out.rd).mono ?_
        rintro e w4 ⟨z, rfl, hzo, hzi, hR4, hg4⟩
        have S4 := Lib.hid (S3.out.picked hR4 hg4 hRw)
        have HI := Lib.hid hzi
        have HO := Lib.hid hzo
        have HLT := Lib.hid (fun x (hx : x ∈ zs) (h1 : 0 < x.es.length) => S3.out.row.lt hx h1)
        have hz34 := hg4.size
        have hw3 := S3.out.gr.size
        clear hR4 hg4 S3 hzi hzo
        obtain ⟨zo, zq, zes, zA, zc, zg⟩ := z
        go_wp2_with (at_builtin; refine wpList_append_own _ rfl _ _ 29 rfl w.heap.size 54 i0 _ 3 40 Try.underlying29 hi hz0 hz10 hz20 rfl (by decide) _ zs.length (flatZ zs) rfl (S4.out.row.row.alloc _) ⟨w4.heap.size, 0, none⟩ 1 1 [.int .i64 zo, .int .i64 zq, .slice zA zes.length zc] rfl rfl (new3z _ _ _ _ _) (one3z _ _ _ rfl rfl rfl) (by unfold maxLen; omega) (by omega) (by simp; omega) ?_; intro v' w5 hown5 hgrow5 _; have Z5 := Lib.hid (S4.out.row.append (z := ⟨zo, zq, zes, zA, zc, zg⟩) ⟨HI.out.1, by have := HI.out.2.1; dsimp only at this ⊢; omega, HI.out.2.2⟩ (fun x hx h1 _ => by have := HLT.out x hx h1; have := HI.out.2.1; dsimp only at this ⊢; omega) hown5 hgrow5); have hl := S4.out.row.row.lt; have G5 := Lib.hid (grown_far (grown_alloc S4.out.gr _) hgrow5 (fun j e => (hl j e).1)); have R5 := Lib.hid (S4.out.rd.below (((Below.refl (R + 1) w4).alloc S4.out.rd.lt _).grown hgrow5 (by have := S4.out.rd.lt; simp; omega) (fun j e => by have := (hl j e).1; omega))); clear hown5 hgrow5 hl)
        obtain ⟨A5, g5, c5, rfl, -, -, -, -, -⟩ := own_slicez (zs := zs ++ [⟨zo, zq, zes, zA, zc, zg⟩]) Z5.out.row (by have := G5.out.size; omega)
        go_wp2_with fail
        go_ret
        refine ⟨zs ++ [⟨zo, zq, zes, zA, zc, zg⟩], A5, c5, rfl, by simp; omega, fun x hx => ?_, Z5.out, R5.out.mono (by omega), G5.out⟩
        rcases List.mem_append.1 hx with hx | hx
        · exact hok.out x hx
        · obtain rfl : x = ⟨zo, zq, zes, zA, zc, zg⟩ := by simpa using hx
          exact HO.out
      · have h3' : ((k3 : Int) == 0) = false := by simpa using h3
        go_wp2_with fail
        go_ret
        exact ⟨zs, A2, c2, rfl, by omega, hok.out, S3.out.row, S3.out.rd.mono (by omega), S3.out.gr⟩
end Go.Proofs.Ytnkohgdfipgdoab
