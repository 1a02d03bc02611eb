/-
  Contracts over this seat: RepairSafe and RepairNeeded of the specification.
-/
import Derived.Test.YtenlofomkchlaabGreatDoorVb
import Derived.Test.YtenlofomkchlaabGreatDoorC3
namespace Go.Proofs.YtenlofomkchlaabGreatDoor
open Go.RowKit Go.Maps

set_option maxRecDepth 100000 in
set_option maxHeartbeats 1600000 in
theorem l21safe_any (n : Nat) (A : Option Addr) (ls : List Lk) (c : Nat) (s : Int) (tn k : Nat) (l : Lk) (w : World) (hl : ls[k]? = some l) (hv : gvB (n : Int) ls = true) (hs : 0 ≤ s ∧ s < (n : Int)) (ht : tn < n) (hS : Sl w w.heap.size A ls) :
   Calls Tryz.prog 14 #[gval (n : Int) A ls.length c, .int .i64 s, .int .i64 (tn : Int), .int .i64 (k : Int)] w fun e w' => e = .returned (.bool (safeB (n : Int) ls s (k : Int) (tn : Int))) ∧ Below w.heap.size w w' := by
  obtain ⟨hf, hn1, hn8, hl14⟩ := gvB_fit hv
  have hti : 0 ≤ (tn : Int) ∧ (tn : Int) < (n : Int) := by omega
  have C1 : ∀ V : World, Sl V V.heap.size A ls → Calls Tryz.prog 39 #[gval (n : Int) A ls.length c, .int .i64 s] V (NewI (fl n (bf (n : Int) ls s)) V) := fun V hV => l2d_any n A ls c s V (by omega) (by omega) hl14 hf hs hV
  have C2 : ∀ V : World, Sl V V.heap.size A ls → Calls Tryz.prog 27 #[gval (n : Int) A ls.length c, .int .i64 s, .int .i64 (tn : Int), .int .i64 (k : Int)] V fun e w' => e = .returned (.bool (usedB (n : Int) ls s (tn : Int) (k : Int))) ∧ Below V.heap.size V w' := fun V hV => by
    rw [used_at (vwB_of hv hs hti) hl]
    exact l2used_any n A ls c s (tn : Int) k l V hl hv hs hti hV
  have X1 := Lib.hid (fl_at (f := bf (n : Int) ls s) ht)
  have b1 := bf_bound hf hs hn8 (tn : Int)
  have hxl := fl_len n (bf (n : Int) ls s)
  unfold safeB
  have HS := Lib.hid hS
  have HK := Lib.hid (Box.new w 25 #[.int .i64 (n : Int), .slice A ls.length c])
  have B0 := Lib.hid (show Below w.heap.size w (w.alloc (.cells #[.int .i64 (n : Int), .slice A ls.length c] 25)) by (repeat (first | exact Below.refl _ _ | (refine Below.alloc ?_ (by first | exact Nat.le_refl _ | omega | (simp; done) | (simp; omega)) _) | (refine Below.setCell ?_ (by first | exact Nat.le_refl _ | omega | (simp; done) | (simp; omega)) _) | exact Below.drew ‹_›)))
  clear hS hl hv hf hs hti
  generalize bf (n : Int) ls s (tn : Int) = d at *
  generalize fl n (bf (n : Int) ls s) = ds at *
  generalize usedB (n : Int) ls s (tn : Int) (k : Int) = r at *
  have htl : tn < ds.length := by omega
  by_cases hd : 0 ≤ d
  · have e : (decide (0 ≤ d) && !r) = !r := by simp [hd]
    rw [e]
    clear e
    go_enter Tryz.func14, Tryz.ntmps14
    go_wp2_with (first
      | (go_at_call 39; refine (C1 _ ((HS.out.below B0.out).more B0.out.size)).mono ?_; clear C1; rintro e w1 ⟨A1, g1, c1, rfl, hg1, ho1, hb1⟩; have B1 := Lib.hid (B0.out.trans (hb1.mono B0.out.size)); have K1 := Lib.hid (HK.out.below hb1 (by simp)); obtain ⟨z1, e10, e11, -, -⟩ := K1.out.two; obtain ⟨b', off, rfl, hbb, hcx⟩ := ho1.sli tn d X1.out; clear hb1 ho1)
      | (go_at_call 27; refine (C2 _ ((HS.out.below B1.out).more B1.out.size)).mono ?_; clear C2; rintro e w2 ⟨rfl, hb2⟩; have B2 := Lib.hid (B1.out.trans (hb2.mono B1.out.size)); clear hb2))
    go_ret
    exact ⟨rfl, B2.out⟩
  · have e : (decide (0 ≤ d) && !r) = false := by simp [hd]
    rw [e]
    clear e
    go_enter Tryz.func14, Tryz.ntmps14
    go_wp2_with (first
      | (go_at_call 39; refine (C1 _ ((HS.out.below B0.out).more B0.out.size)).mono ?_; clear C1; rintro e w1 ⟨A1, g1, c1, rfl, hg1, ho1, hb1⟩; have B1 := Lib.hid (B0.out.trans (hb1.mono B0.out.size)); have K1 := Lib.hid (HK.out.below hb1 (by simp)); obtain ⟨z1, e10, e11, -, -⟩ := K1.out.two; obtain ⟨b', off, rfl, hbb, hcx⟩ := ho1.sli tn d X1.out; clear hb1 ho1))
    go_ret
    exact ⟨rfl, B1.out⟩
end Go.Proofs.YtenlofomkchlaabGreatDoor
