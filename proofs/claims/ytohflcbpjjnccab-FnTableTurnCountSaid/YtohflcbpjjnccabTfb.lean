/-
  Contracts over this seat: the small functions of the program's tables.
-/
import Derived.Test.YtohflcbpjjnccabTfa
import Derived.Test.YtohflcbpjjnccabTi
import Derived.Test.YtohflcbpjjnccabC1
namespace Go.Proofs.Ytohflcbpjjnccab
open Go.RowKit Go.Maps

theorem nodev_any (n : Int) (w : World) :
   Calls Try.prog 44 #[.int .i64 n] w fun e w' => e = .returned (.bool (inB n 0 7)) ∧ Below w.heap.size w w' := by
  go_enter Try.func44, Try.ntmps44
  go_wp2
  all_goals
    go_ret
    exact ⟨ret_bool (by unfold inB; rw [Bool.eq_iff_iff]; simp; omega), by (repeat (first | exact Below.refl _ _ | (refine Below.alloc ?_ (by first | exact Nat.le_refl _ | omega | (simp; done) | (simp; omega)) _) | (refine Below.setCell ?_ (by first | exact Nat.le_refl _ | omega | (simp; done) | (simp; omega)) _) | exact Below.drew ‹_›))⟩
theorem nodec_any (n : Int) (w : World) :
   Calls Try.prog 43 #[.int .i64 n] w fun e w' => e = .returned (.bool (!inB n 0 7)) ∧ Below w.heap.size w w' := by
  have C := nodev_any n w
  generalize inB n 0 7 = b at *
  go_enter Try.func43, Try.ntmps43
  go_wp2_with (go_at_call 44; refine C.mono ?_; rintro e w1 ⟨rfl, hb⟩)
  go_ret
  exact ⟨ret_bool (by first | rfl | (cases b <;> rfl)), hb⟩
theorem addrv_any (n : Int) (w : World) :
   Calls Try.prog 57 #[.int .i64 n] w fun e w' => e = .returned (.bool (inB n 0 255)) ∧ Below w.heap.size w w' := by
  go_enter Try.func57, Try.ntmps57
  go_wp2
  all_goals
    go_ret
    exact ⟨ret_bool (by unfold inB; rw [Bool.eq_iff_iff]; simp; omega), by (repeat (first | exact Below.refl _ _ | (refine Below.alloc ?_ (by first | exact Nat.le_refl _ | omega | (simp; done) | (simp; omega)) _) | (refine Below.setCell ?_ (by first | exact Nat.le_refl _ | omega | (simp; done) | (simp; omega)) _) | exact Below.drew ‹_›))⟩
theorem fbits_any (a b : Int) (w : World) (ha : 0 ≤ a ∧ a ≤ 255) (hb : 0 ≤ b ∧ b ≤ 8) :
   Calls Try.prog 59 #[.int .i64 a, .int .i64 b] w fun e w' => e = .returned (.int .i64 (fbI a b)) ∧ Below w.heap.size w w' := by
  have HF : Hid (fbI a b = a / lowB b * lowB b) := Lib.hid rfl
  obtain ⟨n, rfl⟩ : ∃ n : Nat, a = (n : Int) := ⟨a.toNat, by omega⟩
  rcases low_at hb with ⟨rfl, h⟩ | ⟨rfl, h⟩ | ⟨rfl, h⟩ | ⟨rfl, h⟩ | ⟨rfl, h⟩ | ⟨rfl, h⟩ | ⟨rfl, h⟩ | ⟨rfl, h⟩ | ⟨rfl, h⟩
  all_goals
    rw [h] at HF
    clear h hb
    go_enter Try.func59, Try.ntmps59
    go_wp2
    go_ret
    exact ⟨ret_int (by first | (rw [HF.out]; done) | (rw [HF.out]; omega)), by (repeat (first | exact Below.refl _ _ | (refine Below.alloc ?_ (by first | exact Nat.le_refl _ | omega | (simp; done) | (simp; omega)) _) | (refine Below.setCell ?_ (by first | exact Nat.le_refl _ | omega | (simp; done) | (simp; omega)) _) | exact Below.drew ‹_›))⟩
theorem rtbef_any (x y : Lk) (w : World) :
   Calls Try.prog 41 #[rtV x, rtV y] w fun e w' => e = .returned (.bool (rtLt x y)) ∧ Below w.heap.size w w' := by
  obtain ⟨xa, xb, xc⟩ := x
  obtain ⟨ya, yb, yc⟩ := y
  have HE : Hid (rtLt ⟨xa, xb, xc⟩ ⟨ya, yb, yc⟩ = (decide (xa < ya) || decide (xa = ya) && decide (xb < yb))) := Lib.hid rfl
  dsimp only [rtV]
  by_cases h1 : xa < ya
  · have HF : Hid (rtLt ⟨xa, xb, xc⟩ ⟨ya, yb, yc⟩ = true) := Lib.hid (by rw [HE.out]; simp [h1])
    clear HE
    go_enter Try.func41, Try.ntmps41
    go_wp2_with fail
    go_ret
    exact ⟨ret_bool HF.out.symm, by (repeat (first | exact Below.refl _ _ | (refine Below.alloc ?_ (by first | exact Nat.le_refl _ | omega | (simp; done) | (simp; omega)) _) | (refine Below.setCell ?_ (by first | exact Nat.le_refl _ | omega | (simp; done) | (simp; omega)) _) | exact Below.drew ‹_›))⟩
  · by_cases h2 : xa = ya
    · subst h2
      have HF : Hid (rtLt ⟨xa, xb, xc⟩ ⟨xa, yb, yc⟩ = decide (xb < yb)) := Lib.hid (by rw [HE.out]; simp)
      clear HE
      go_enter Try.func41, Try.ntmps41
      go_wp2_with fail
      go_ret
      exact ⟨ret_bool HF.out.symm, by (repeat (first | exact Below.refl _ _ | (refine Below.alloc ?_ (by first | exact Nat.le_refl _ | omega | (simp; done) | (simp; omega)) _) | (refine Below.setCell ?_ (by first | exact Nat.le_refl _ | omega | (simp; done) | (simp; omega)) _) | exact Below.drew ‹_›))⟩
    · have h2' : (xa == ya) = false := by simpa using h2
      have HF : Hid (rtLt ⟨xa, xb, xc⟩ ⟨ya, yb, yc⟩ = false) := Lib.hid (by rw [HE.out]; simp [h1, h2])
      clear HE h2
      go_enter Try.func41, Try.ntmps41
      go_wp2_with fail
      go_ret
      exact ⟨ret_bool HF.out.symm, by (repeat (first | exact Below.refl _ _ | (refine Below.alloc ?_ (by first | exact Nat.le_refl _ | omega | (simp; done) | (simp; omega)) _) | (refine Below.setCell ?_ (by first | exact Nat.le_refl _ | omega | (simp; done) | (simp; omega)) _) | exact Below.drew ‹_›))⟩
theorem hasHop_any (A : Option Addr) (n c : Nat) (B : Option Addr) (m d : Nat) (h : Int) (w : World) :
   Calls Try.prog 60 #[tbV A n c B m d, .int .i64 h] w fun e w' => e = .returned (.bool (inB h 0 ((m : Int) - 1))) ∧ Below w.heap.size w w' := by
  by_cases h0 : 0 ≤ h
  · have HF : Hid (inB h 0 ((m : Int) - 1) = decide (h < (m : Int))) := Lib.hid (by unfold inB; rw [Bool.eq_iff_iff]; simp; omega)
    go_enter Try.func60, Try.ntmps60
    go_wp2_with fail
    go_ret
    exact ⟨ret_bool HF.out.symm, by (repeat (first | exact Below.refl _ _ | (refine Below.alloc ?_ (by first | exact Nat.le_refl _ | omega | (simp; done) | (simp; omega)) _) | (refine Below.setCell ?_ (by first | exact Nat.le_refl _ | omega | (simp; done) | (simp; omega)) _) | exact Below.drew ‹_›))⟩
  · have HF : Hid (inB h 0 ((m : Int) - 1) = false) := Lib.hid (by unfold inB; rw [Bool.eq_iff_iff]; simp; omega)
    go_enter Try.func60, Try.ntmps60
    go_wp2_with fail
    go_ret
    exact ⟨ret_bool HF.out.symm, by (repeat (first | exact Below.refl _ _ | (refine Below.alloc ?_ (by first | exact Nat.le_refl _ | omega | (simp; done) | (simp; omega)) _) | (refine Below.setCell ?_ (by first | exact Nat.le_refl _ | omega | (simp; done) | (simp; omega)) _) | exact Below.drew ‹_›))⟩


set_option maxRecDepth 100000 in
set_option maxHeartbeats 1600000 in
theorem rtal_any (A : Option Addr) (n c : Nat) (B : Option Addr) (m d : Nat) (x : Lk) (w : World) :
   Calls Try.prog 40 #[tbV A n c B m d, rtV x] w fun e w' => e = .returned (.bool (rtB m x)) ∧ Below w.heap.size w w' := by
  have HE : Hid (rtB m x = (inB x.b 0 8 && inB x.a 0 255 && decide (x.a % lowB x.b = 0) && inB x.c 0 ((m : Int) - 1))) := Lib.hid rfl
  have CA := fun W => addrv_any x.a W
  have CF := Lib.hid (fun (hb : inB x.b 0 8 = true) (ha : inB x.a 0 255 = true) W => fbits_any x.a x.b W (by unfold inB at ha; simpa using ha) (by unfold inB at hb; simpa using hb))
  have CH := fun W => hasHop_any A n c B m d x.c W
  have HM : Hid (inB x.b 0 8 = true → inB x.a 0 255 = true → ((fbI x.a x.b == x.a) = decide (x.a % lowB x.b = 0))) := Lib.hid (fun hb ha => by
    have hb' : 0 ≤ x.b ∧ x.b ≤ 8 := by unfold inB at hb; simpa using hb
    have ha' : 0 ≤ x.a ∧ x.a ≤ 255 := by unfold inB at ha; simpa using ha
    rw [Bool.eq_iff_iff, beq_iff_eq, decide_eq_true_eq]
    unfold fbI
    rcases low_at hb' with ⟨_, h⟩ | ⟨_, h⟩ | ⟨_, h⟩ | ⟨_, h⟩ | ⟨_, h⟩ | ⟨_, h⟩ | ⟨_, h⟩ | ⟨_, h⟩ | ⟨_, h⟩ <;> rw [h] <;> omega)
  obtain ⟨xa, xb, xc⟩ := x
  dsimp only [rtV, tbV] at *
  have HK := Lib.hid ((Box.new w 30 #[.slice A n c, .slice B m d]).alloc (.cells #[.int .i64 xa, .int .i64 xb, .int .i64 xc] 38))
  have x1 := Box.new (w.alloc (.cells #[.slice A n c, .slice B m d] 30)) 38 #[.int .i64 xa, .int .i64 xb, .int .i64 xc]
  rw [World.size_alloc] at x1
  have HX := Lib.hid x1
  have B0 := Lib.hid (show Below w.heap.size w ((w.alloc (.cells #[.slice A n c, .slice B m d] 30)).alloc (.cells #[.int .i64 xa, .int .i64 xb, .int .i64 xc] 38)) by (repeat (first | exact Below.refl _ _ | (refine Below.alloc ?_ (by first | exact Nat.le_refl _ | omega | (simp; done) | (simp; omega)) _) | (refine Below.setCell ?_ (by first | exact Nat.le_refl _ | omega | (simp; done) | (simp; omega)) _) | exact Below.drew ‹_›)))
  clear x1
  cases pb : inB xb 0 8 with
  | false =>
    have HF : Hid (rtB m ⟨xa, xb, xc⟩ = false) := Lib.hid (by rw [HE.out, pb]; rfl)
    have hcs : xb < 0 ∨ (0 ≤ xb ∧ ¬ xb ≤ 8) := by unfold inB at pb; simp at pb; omega
    clear HE HM CF pb
    rcases hcs with h0 | ⟨h0, h1⟩
    · have g0 : decide (0 ≤ xb) = false := decide_eq_false (by omega)
      clear h0
      go_enter Try.func40, Try.ntmps40
      go_wp2_with fail
      generalize (w.alloc (.cells #[.slice A n c, .slice B m d] 30)).alloc (.cells #[.int .i64 xa, .int .i64 xb, .int .i64 xc] 38) = V at *
      have hX := fun (y : Ext V) (bb o : Nat) (h : bb < V.heap.size) => y.cell bb o h
      obtain ⟨z1, e10, e11, -, -⟩ := HK.out.two
      obtain ⟨z2, x10, x11, x12, -, -, -⟩ := HX.out.trip
      refine wp_region_ext (by kernel_rfl) (by kernel_rfl) ?_
      repeat (go_big_quiet_step (fail))
      (refine wpQuiet_nil ?_); (rintro _ ⟨X, rfl⟩); (have hw1 := X.below); (generalize X.w = w1 at *); (clear X)
      clear hX
      go_wp2_with fail
      go_ret
      exact ⟨ret_bool HF.out.symm, B0.out.trans (hw1.mono B0.out.size)⟩
    · have g0 : decide (0 ≤ xb) = true := decide_eq_true h0
      have g1 : decide (xb ≤ 8) = false := decide_eq_false h1
      clear h0 h1
      go_enter Try.func40, Try.ntmps40
      go_wp2_with fail
      generalize (w.alloc (.cells #[.slice A n c, .slice B m d] 30)).alloc (.cells #[.int .i64 xa, .int .i64 xb, .int .i64 xc] 38) = V at *
      have hX := fun (y : Ext V) (bb o : Nat) (h : bb < V.heap.size) => y.cell bb o h
      obtain ⟨z1, e10, e11, -, -⟩ := HK.out.two
      obtain ⟨z2, x10, x11, x12, -, -, -⟩ := HX.out.trip
      refine wp_region_ext (by kernel_rfl) (by kernel_rfl) ?_
      repeat (go_big_quiet_step (fail))
      (refine wpQuiet_nil ?_); (rintro _ ⟨X, rfl⟩); (have hw1 := X.below); (generalize X.w = w1 at *); (clear X)
      clear hX
      go_wp2_with fail
      go_ret
      exact ⟨ret_bool HF.out.symm, B0.out.trans (hw1.mono B0.out.size)⟩
  | true =>
    have g0 : decide (0 ≤ xb) = true := decide_eq_true (by unfold inB at pb; simp at pb; omega)
    have g1 : decide (xb ≤ 8) = true := decide_eq_true (by unfold inB at pb; simp at pb; omega)
    cases pa : inB xa 0 255 with
    | false =>
      rw [pa] at CA
      have HF : Hid (rtB m ⟨xa, xb, xc⟩ = false) := Lib.hid (by rw [HE.out, pb, pa]; rfl)
      clear HE HM CF pb pa
      go_enter Try.func40, Try.ntmps40
      go_wp2_with fail
      generalize (w.alloc (.cells #[.slice A n c, .slice B m d] 30)).alloc (.cells #[.int .i64 xa, .int .i64 xb, .int .i64 xc] 38) = V at *
      have hX := fun (y : Ext V) (bb o : Nat) (h : bb < V.heap.size) => y.cell bb o h
      obtain ⟨z1, e10, e11, -, -⟩ := HK.out.two
      obtain ⟨z2, x10, x11, x12, -, -, -⟩ := HX.out.trip
      refine wp_region_ext (by kernel_rfl) (by kernel_rfl) ?_
      repeat (go_big_quiet_step (first | (go_at_call 57; exact Calls.ext_of (CA _)) | fail))
      (refine wpQuiet_nil ?_); (rintro _ ⟨X, rfl⟩); (have hw1 := X.below); (generalize X.w = w1 at *); (clear X)
      clear hX
      go_wp2_with fail
      go_ret
      exact ⟨ret_bool HF.out.symm, B0.out.trans (hw1.mono B0.out.size)⟩
    | true =>
      rw [pa] at CA
      have CF := CF.out pb pa
      have hmm := HM.out pb pa
      have HF : Hid (rtB m ⟨xa, xb, xc⟩ = ((fbI xa xb == xa) && inB xc 0 ((m : Int) - 1))) := Lib.hid (by rw [HE.out, pb, pa, hmm]; rfl)
      clear HE HM pb pa hmm
      generalize fbI xa xb = fb at *
      generalize inB xc 0 ((m : Int) - 1) = ph at *
      by_cases hfe : fb = xa
      · subst hfe
        have HG : Hid (rtB m ⟨fb, xb, xc⟩ = ph) := Lib.hid (by rw [HF.out]; simp)
        clear HF
        go_enter Try.func40, Try.ntmps40
        go_wp2_with fail
        generalize (w.alloc (.cells #[.slice A n c, .slice B m d] 30)).alloc (.cells #[.int .i64 fb, .int .i64 xb, .int .i64 xc] 38) = V at *
        have hX := fun (y : Ext V) (bb o : Nat) (h : bb < V.heap.size) => y.cell bb o h
        obtain ⟨z1, e10, e11, -, -⟩ := HK.out.two
        obtain ⟨z2, x10, x11, x12, -, -, -⟩ := HX.out.trip
        refine wp_region_ext (by kernel_rfl) (by kernel_rfl) ?_
        repeat (go_big_quiet_step (first | (go_at_call 57; exact Calls.ext_of (CA _)) | (go_at_call 59; exact Calls.ext_of (CF _)) | (go_at_call 60; exact Calls.ext_of (CH _))))
        (refine wpQuiet_nil ?_); (rintro _ ⟨X, rfl⟩); (have hw1 := X.below); (generalize X.w = w1 at *); (clear X)
        clear hX
        go_wp2_with fail
        go_ret
        exact ⟨ret_bool HG.out.symm, B0.out.trans (hw1.mono B0.out.size)⟩
      · have hfe' : (fb == xa) = false := by simpa using hfe
        have HG : Hid (rtB m ⟨xa, xb, xc⟩ = false) := Lib.hid (by rw [HF.out, hfe']; rfl)
        clear HF hfe
        go_enter Try.func40, Try.ntmps40
        go_wp2_with fail
        generalize (w.alloc (.cells #[.slice A n c, .slice B m d] 30)).alloc (.cells #[.int .i64 xa, .int .i64 xb, .int .i64 xc] 38) = V at *
        have hX := fun (y : Ext V) (bb o : Nat) (h : bb < V.heap.size) => y.cell bb o h
        obtain ⟨z1, e10, e11, -, -⟩ := HK.out.two
        obtain ⟨z2, x10, x11, x12, -, -, -⟩ := HX.out.trip
        refine wp_region_ext (by kernel_rfl) (by kernel_rfl) ?_
        repeat (go_big_quiet_step (first | (go_at_call 57; exact Calls.ext_of (CA _)) | (go_at_call 59; exact Calls.ext_of (CF _)) | (go_at_call 60; exact Calls.ext_of (CH _))))
        (refine wpQuiet_nil ?_); (rintro _ ⟨X, rfl⟩); (have hw1 := X.below); (generalize X.w = w1 at *); (clear X)
        clear hX
        go_wp2_with fail
        go_ret
        exact ⟨ret_bool HG.out.symm, B0.out.trans (hw1.mono B0.out.size)⟩
end Go.Proofs.Ytohflcbpjjnccab
