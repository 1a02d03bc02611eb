/-
  Contracts over this seat: what the laws of critical links and of removed links draw; the drawn slice's capacity holds its links.
-/
import Derived.Test.YtenlofomkchlaaaDoorDrawC
namespace Go.Proofs.YtenlofomkchlaaaDoor
open Go.RowKit

set_option maxRecDepth 100000 in
theorem drawCrit_any (A : Option Addr) (len c : Nat) (f : Nat → Int) (w : World) (hlc : len ≤ c) (hc : c ≤ maxLen) (hB : Byt w w.heap.size A len f) :
   Calls Tryd.prog 4 #[.slice A len c] w fun e w' => ∃ (n : Int) (ls : List Lk) (A' : Option Addr) (g' c' : Nat), e = .returned (gval n A' ls.length c') ∧ DG w n ls A' g' w' ∧ ls.length ≤ c' := by
  have HB := Lib.hid (hB.alloc (.cells #[.int .i64 0, .slice none 0 0] 25))
  have HQ := Lib.hid (Box.new w 25 #[.int .i64 0, .slice none 0 0])
  clear hB
  go_enter Tryd.func4, Tryd.ntmps4
  go_wp2_with fail
  refine (open_any A len c f _ hlc hc HB.out).mono ?_
  rintro e w1 ⟨l1, hl1, rfl, hr1, hb1, hs1⟩
  rw [World.size_alloc] at hr1 hb1 hs1
  have H1 := Lib.hid hr1
  have B1 := Lib.hid (Below.trans (B := w.heap.size) (a := w) (by (repeat (first | exact Below.refl _ _ | (refine Below.alloc ?_ (by first | exact Nat.le_refl _ | omega | (simp; done) | (simp; omega)) _) | (refine Below.setCell ?_ (by first | exact Nat.le_refl _ | omega | (simp; done) | (simp; omega)) _) | exact Below.drew ‹_›))) (hb1.mono (by omega)))
  have Q1 := Lib.hid (HQ.out.below hb1 (by omega))
  clear hr1 hb1 HQ HB
  have hq := World.size_alloc w (.cells #[.int .i64 0, .slice none 0 0] 25)
  rw [hq]
  go_wp2_with fail
  refine (spoilt_any _ A l1 c 0 f w1 hl1 (by omega) H1.out).mono ?_
  rintro e w2 ⟨n, ls, A2, g2, c2, rfl, hn0, hn1, hls, hg2, ho2, hr2, hb2, hcap⟩
  have Q2 := Q1.out.grown hb2 (by omega)
  have B2 := Lib.hid (B1.out.grown hb2 (by omega) (fun k e => by injection e with e; omega))
  have O2 := Lib.hid ho2
  clear hb2 hr2 H1 B1 Q1 ho2
  obtain ⟨zq, e0, e1, q0, q1⟩ := Q2.two
  go_wp2_with fail
  obtain ⟨b2, r0, r1⟩ := ret_two Q2 (.int .i64 n) (.slice A2 ls.length c2)
  refine bodyPost_ret (v := gval n A2 ls.length c2) (by simp [results, Tryd.results4, go_sem, r0, r1]) rfl ?_
  exact ⟨n, ls, A2, g2, c2, rfl, ⟨hn0, hn1, hls, by omega, (O2.out.set_box Q2 (by decide) 0 _).set_box (heap_set Q2 0 _) (by decide) 1 _, (B2.out.setCell (p := ⟨w.heap.size, 0, none⟩) (Nat.le_refl _) _).setCell (p := ⟨w.heap.size, 1, none⟩) (Nat.le_refl _) _⟩, hcap⟩



end Go.Proofs.YtenlofomkchlaaaDoor
