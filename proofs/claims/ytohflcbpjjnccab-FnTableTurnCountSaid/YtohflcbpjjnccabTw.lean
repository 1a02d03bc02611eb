/-
  Contracts over this seat: what the laws of turned tables draw.
-/
import Derived.Test.YtohflcbpjjnccabTs
namespace Go.Proofs.Ytohflcbpjjnccab
open Go.RowKit Go.Maps

set_option maxRecDepth 100000 in
set_option maxHeartbeats 3200000 in
theorem drawTT_any (A : Option Addr) (len c : Nat) (f : Nat → Int) (w : World) (hlc : len ≤ c) (hc : c ≤ maxLen) (hB : Byt w w.heap.size A len f) :
   Calls Try.prog 31 #[.slice A len c] w fun e w' => ∃ (rs : List Lk) (hs : List Int) (g cr gh d : Nat) (a b : Int), e = .returned (.tuple #[tbV (some ⟨g, 0, none⟩) rs.length cr (some ⟨gh, 0, none⟩) hs.length d, .int .i64 a, .int .i64 b]) ∧ DT w rs hs g cr gh d w' ∧ (0 ≤ a ∧ a ≤ 1100) ∧ (-100 ≤ b ∧ b ≤ 100) := by
  have HB := Lib.hid (hB.alloc (.cells #[.slice none 0 0, .slice none 0 0] 30))
  have HQ := Lib.hid (Box.new w 30 #[.slice none 0 0, .slice none 0 0])
  clear hB
  go_enter Try.func31, Try.ntmps31
  go_wp2_with fail
  refine (open_any A len c f _ hlc hc HB.out).mono ?_
  rintro e w1 ⟨l1, hl1, rfl, hr1, hb1, hs1⟩
  rw [World.size_alloc] at hr1 hb1 hs1
  have H1 := Lib.hid hr1
  have B1 := Lib.hid (Below.trans (B := w.heap.size) (a := w) (by (repeat (first | exact Below.refl _ _ | (refine Below.alloc ?_ (by first | exact Nat.le_refl _ | omega | (simp; done) | (simp; omega)) _) | (refine Below.setCell ?_ (by first | exact Nat.le_refl _ | omega | (simp; done) | (simp; omega)) _) | exact Below.drew ‹_›))) (hb1.mono (by omega)))
  have Q1 := Lib.hid (HQ.out.below hb1 (by omega))
  clear hr1 hb1 HQ HB
  have hq := World.size_alloc w (.cells #[.slice none 0 0, .slice none 0 0] 30)
  rw [hq]
  go_wp2_with fail
  refine (l92table_any _ A l1 c 0 f w1 hl1 (by omega) H1.out).mono ?_
  rintro e w2 ⟨rs, hs, g, cr, gh, d, rfl, hrl, hhl, har, hgg, han, hghg, hcr, hdd, hr2, hg2⟩
  have hz2 := hg2.size
  have S2 := Lib.hid (show DTs w (w.heap.size + 1) A l1 c f (0 + 300) w2.heap.size rs hs g cr gh d (w2.alloc (.cells #[.slice (some ⟨g, 0, none⟩) rs.length cr, .slice (some ⟨gh, 0, none⟩) hs.length d] 30)) from
    ⟨⟨har.below ((Below.refl _ _).alloc (Nat.le_refl _) _) har.lt, han.below ((Below.refl _ _).alloc (Nat.le_refl _) _) han.lt, (B1.out.grown hg2 (by omega) (fun k e => by injection e with e; omega)).alloc (by omega) _, by omega, by omega, hcr, hdd, hrl, hhl⟩,
      hr2.alloc _, by omega, (Q1.out.grown hg2 (by omega)).alloc _, Box.new w2 _ _, by omega⟩)
  clear hr2 hg2 H1 B1 Q1 har han
  go_wp2_with fail
  all_goals
    generalize w2.alloc (.cells #[.slice (some ⟨g, 0, none⟩) rs.length cr, .slice (some ⟨gh, 0, none⟩) hs.length d] 30) = W3 at *
    generalize w2.heap.size = G at *
    have hG := S2.out.old
    obtain ⟨z5, e50, e51, q50, q51⟩ := S2.out.kT.two
    obtain ⟨z6, e60, e61, q60, q61⟩ := S2.out.kL.two
    refine (pick_rd _ A l1 c _ _ f _ hl1 (by omega) (by omega) (by omega) S2.out.rd).mono ?_
    rintro e w4 ⟨k1, rfl, hk1, hr4, hg4, -, -⟩
    have S4 := Lib.hid (S2.out.picked hr4 hg4)
    clear hr4 hg4 S2 z5 e50 e51 q50 q51 z6 e60 e61 q60 q61
    obtain ⟨z5, e50, e51, q50, q51⟩ := S4.out.kT.two
    obtain ⟨z6, e60, e61, q60, q61⟩ := S4.out.kL.two
    go_wp2_with fail
    refine (pick_rd _ A l1 c _ 20 f _ hl1 (by omega) (by omega) (by omega) S4.out.rd).mono ?_
    rintro e w5 ⟨k2, rfl, hk2, hr5, hg5, -, -⟩
    have S5 := Lib.hid (S4.out.picked hr5 hg5)
    clear hr5 hg5 S4 z5 e50 e51 q50 q51 z6 e60 e61 q60 q61
    obtain ⟨z5, e50, e51, q50, q51⟩ := S5.out.kT.two
    obtain ⟨z6, e60, e61, q60, q61⟩ := S5.out.kL.two
    have SD := Lib.hid S5.out.drew
    go_wp2_with fail
    go_region_law (first
      | (go_simp; go_at_call 67; refine (pick_rd _ A l1 c _ 3 f _ hl1 (by omega) (by omega) (by omega) SB.out.rd).mono ?_; rintro e wc ⟨k6, rfl, hk6, hRa, hga, -, -⟩; have SC := Lib.hid (SB.out.picked hRa hga); obtain ⟨y3, c3, d3, s3, t3⟩ := SC.out.kT.two; obtain ⟨z3, e3, f3, u3, v3⟩ := SC.out.kL.two; clear hRa hga; have hm : -2 ≤ (k5 : Int) / 19 * ((k6 : Int) - 1) ∧ (k5 : Int) / 19 * ((k6 : Int) - 1) ≤ 2 := (by rcases (show (k5 : Int) / 19 = 0 ∨ (k5 : Int) / 19 = 1 by omega) with h | h <;> rw [h] <;> omega))
      | (go_simp; go_at_call 67; refine (pick_rd _ A l1 c _ 20 f _ hl1 (by omega) (by omega) (by omega) SA.out.rd).mono ?_; rintro e wb ⟨k5, rfl, hk5, hRa, hga, -, -⟩; have SB := Lib.hid (SA.out.picked hRa hga); obtain ⟨y2, c2, d2, s2, t2⟩ := SB.out.kT.two; obtain ⟨z2, e2, f2, u2, v2⟩ := SB.out.kL.two; clear hRa hga)
      | (go_simp; go_at_call 67; refine (pick_rd _ A l1 c _ 8 f _ hl1 (by omega) (by omega) (by omega) SD.out.rd).mono ?_; rintro e wa ⟨k4, rfl, hk4, hRa, hga, -, -⟩; have SA := Lib.hid (SD.out.picked hRa hga); obtain ⟨y1, c1, d1, s1, t1⟩ := SA.out.kT.two; obtain ⟨z1, e1, f1, u1, v1⟩ := SA.out.kL.two; clear hRa hga))
    all_goals
      go_wp2_with fail
      have w1 := IntWalk.i64_in ((k5 : Int) / 19) (by omega)
      have w2 := IntWalk.i64_in ((k6 : Int) - 1) (by omega)
      have w3 := IntWalk.i64_in ((k5 : Int) / 19 * ((k6 : Int) - 1)) (by omega)
      have w4' := IntWalk.i64_in ((k5 : Int) / 19 * ((k6 : Int) - 1) * 8) (by omega)
      have w5' := IntWalk.i64_in ((k4 : Int) + (k5 : Int) / 19 * ((k6 : Int) - 1) * 8) (by omega)
      have hbb : IntKind.i64.wrap ((k4 : Int) + IntKind.i64.wrap (IntKind.i64.wrap (IntKind.i64.wrap ((k5 : Int) / 19) * IntKind.i64.wrap ((k6 : Int) - 1)) * 8)) = (k4 : Int) + (k5 : Int) / 19 * ((k6 : Int) - 1) * 8 := by rw [w1, w2, w3, w4', w5']
      rw [hbb]
      obtain ⟨b2, r0, r1⟩ := ret_two SC.out.kL (.slice (some ⟨g, 0, none⟩) rs.length cr) (.slice (some ⟨gh, 0, none⟩) hs.length d)
      refine bodyPost_ret (v := .tuple #[tbV (some ⟨g, 0, none⟩) rs.length cr (some ⟨gh, 0, none⟩) hs.length d, .int .i64 ((k1 : Int) + (k2 : Int) / 19 * 5), .int .i64 ((k4 : Int) + (k5 : Int) / 19 * ((k6 : Int) - 1) * 8)]) (by simp [results, Try.results31, go_sem, r0, r1]) rfl ?_
      exact ⟨rs, hs, g, cr, gh, d, _, _, rfl, SC.out.done _ _, ⟨by omega, by omega⟩, by omega, by omega⟩
end Go.Proofs.Ytohflcbpjjnccab
