/-
  Contracts over this seat: a drawn link; what the laws of links and nodes that are used draw.
-/
import Derived.Test.YtkcnbgimdiggoabA5
namespace Go.Proofs.Ytkcnbgimdiggoab
open Go.RowKit

set_option maxRecDepth 100000 in
theorem linkn_any (R : Nat) (A : Option Addr) (len c P : Nat) (f : Nat → Int) (n : Int) (A' : Option Addr) (l' c' : Nat) (w : World) (hlen : len ≤ 2000) (hP : P ≤ 10000) (hl : l' ≤ 16) (hR : RD R A len c f P w) :
   Calls Try.prog 38 #[.pointer (some ⟨R, 0, none⟩), gval n A' l' c'] w fun e w' => ∃ k : Int, e = .returned (.int .i64 k) ∧ -1 ≤ k ∧ k ≤ 16 ∧ RD R A len c f (P + 2) w' ∧ w.grownBy w' (some R) := by
  have HR := Lib.hid (hR.alloc (.cells #[.int .i64 n, .slice A' l' c'] 25))
  have zR := hR.lt
  have HK := Lib.hid (Box.new w 25 #[.int .i64 n, .slice A' l' c'])
  have HG := Lib.hid (World.grownBy_alloc w (.cells #[.int .i64 n, .slice A' l' c'] 25) (some R))
  clear hR
  go_enter Try.func38, Try.ntmps38
  go_wp2_with fail
  refine (pick_rd R A len c P 20 f _ hlen (by omega) (by omega) (by omega) HR.out).mono ?_
  rintro e w1 ⟨k1, rfl, hk1, hR1, hg1, hs1, hb1⟩
  have H1 := Lib.hid hR1
  have G1 := Lib.hid (grown_trans HG.out hg1)
  have K1 := Lib.hid (HK.out.grown hg1 (by omega))
  clear hR1 hg1 hs1 hb1 HR HG HK
  by_cases h0 : k1 = 0
  · subst h0
    go_wp2_with fail
    refine (pick_rd R A len c (P + 1) 16 f _ hlen (by omega) (by omega) (by omega) H1.out).mono ?_
    rintro e w2 ⟨k2, rfl, hk2, hR2, hg2, hs2, hb2⟩
    have H2 := Lib.hid hR2
    have G2 := Lib.hid (grown_trans G1.out hg2)
    clear hR2 hg2 hs2 hb2
    go_wp2_with fail
    go_ret
    exact ⟨(k2 : Int) - 1, ret_int (by omega), by omega, by omega, H2.out, G2.out⟩
  · have h0' : ((k1 : Int) == 0) = false := by simpa using h0
    obtain ⟨zk, c0, c1, q0, q1⟩ := K1.out.two
    by_cases hn1 : 1 ≤ l'
    · go_wp2_with fail
      refine (pick_rd R A len c (P + 1) _ f _ hlen (by omega) (by omega) (by omega) H1.out).mono ?_
      rintro e w2 ⟨k2, rfl, hk2, hR2, hg2, hs2, hb2⟩
      have H2 := Lib.hid hR2
      have G2 := Lib.hid (grown_trans G1.out hg2)
      clear hR2 hg2 hs2 hb2
      go_wp2_with fail
      go_ret
      exact ⟨(k2 : Int), rfl, by omega, by omega, H2.out, G2.out⟩
    · go_wp2_with fail
      refine (pick_rd R A len c (P + 1) _ f _ hlen (by omega) (by omega) (by omega) H1.out).mono ?_
      rintro e w2 ⟨k2, rfl, hk2, hR2, hg2, hs2, hb2⟩
      have H2 := Lib.hid hR2
      have G2 := Lib.hid (grown_trans G1.out hg2)
      clear hR2 hg2 hs2 hb2
      go_wp2_with fail
      go_ret
      exact ⟨(k2 : Int), rfl, by omega, by omega, H2.out, G2.out⟩



end Go.Proofs.Ytkcnbgimdiggoab
