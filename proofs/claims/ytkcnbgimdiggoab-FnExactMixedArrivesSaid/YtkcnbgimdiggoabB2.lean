/-
  Contracts over this seat: heap.down, heap.Push and heap.Pop at the heap of waiting nodes.
-/
import Derived.Test.YtkcnbgimdiggoabB1
namespace Go.Proofs.Ytkcnbgimdiggoab
open Go.RowKit

theorem hLess_as {B g cap : Nat} {cs : Array Value} {a : List Vs} (w : World) (h : HpW w B g cap cs a) {i j : Nat} {x y : Vs} (hi : a[i]? = some x) (hj : a[j]? = some y) {p q : Int} (hp : (i : Int) = p) (hq : (j : Int) = q) {t : Bool} (ht : decide (x.ct < y.ct) = t) :
   Calls Try.prog 130 #[.slice (some ⟨g, 0, none⟩) a.length cap, .int .i64 p, .int .i64 q] w fun e w' => e = .returned (.bool t) ∧ Below w.heap.size w w' := by
  subst hp; subst hq; subst ht
  exact hLess_any w h hi hj
theorem hSwap_as {B g cap : Nat} {cs : Array Value} {a : List Vs} (w : World) (h : HpW w B g cap cs a) {i j : Nat} {x y : Vs} (hi : a[i]? = some x) (hj : a[j]? = some y) {p q : Int} (hp : (i : Int) = p) (hq : (j : Int) = q) :
   Calls Try.prog 131 #[.slice (some ⟨g, 0, none⟩) a.length cap, .int .i64 p, .int .i64 q] w fun e w' => e = .returned (.tuple #[]) ∧ HpW w' B g cap (swcs cs i j x y) (swp a i j) ∧ Kx (fun k => k = g) w w' := by
  subst hp; subst hq
  exact hSwap_any w h hi hj

set_option maxRecDepth 100000 in
set_option maxHeartbeats 1600000 in
theorem down_any {B g cap : Nat} {cs : Array Value} {a : List Vs} (w : World) (h : HpW w B g cap cs a) (hm : a.length ≤ 2000000) (n : Nat) (hn : n ≤ a.length) (hu : DnF n (ctf a) 0) :
   Calls Try.prog 99 #[hv B, .int .i64 0, .int .i64 n] w fun e w' => (∃ t, e = .returned (.bool t)) ∧ ∃ cs' b, HpW w' B g cap cs' b ∧ ReB a n b ∧ HeapF n (ctf b) ∧ Kx (fun k => k = g) w w' := by
  have HH := Lib.hid h
  have HU := Lib.hid hu
  clear h hu
  go_enter Try.func99, Try.ntmps99
  go_wp2
  go_loopw [7] (fun v wr => ∃ (i : Nat) (cs : Array Value) (b : List Vs), v = .int .i64 i ∧ (i = 0 ∨ i < n) ∧ HpW wr B g cap cs b ∧ ReB a n b ∧ DnF n (ctf b) i ∧ Kx (fun k => k = g) w wr) (fun v _ => n + 1 - (intOf v).toNat)
  case atStart => exact ⟨0, cs, a, rfl, .inl rfl, HH.out, ReB.refl _ _, HU.out, Kx.refl _ _⟩
  case round =>
    obtain ⟨i, cs, b, rfl, hi, hp, hr, hu, hk⟩ := hrel
    have hnm : n ≤ 2000000 := by omega
    have him : i ≤ 2000000 := by omega
    have hmb : b.length ≤ 2000000 := by have := hr.1; omega
    have hnb : n ≤ b.length := by have := hr.1; omega
    have hB : wr.cell? ⟨B, 0, none⟩ = some (.slice (some ⟨g, 0, none⟩) b.length cap) := hp.box.cell 0
    have m1 := mLess hB
    have HP := Lib.hid hp
    have HR := Lib.hid hr
    have HU := Lib.hid hu
    have HK := Lib.hid hk
    clear hp hr hu hk
    by_cases h1 : n ≤ 2 * i + 1
    · have HG := Lib.hid h1
      have h1' : (n : Int) ≤ 2 * (i : Int) + 1 := by omega
      clear h1
      go_wp2
      all_goals
        go_ret
        exact ⟨⟨_, rfl⟩, cs, b, HP.out, HR.out, HU.out.done (fun k hk hkn hp => by have := HG.out; omega), HK.out⟩
    · have h1' : 2 * (i : Int) + 1 < (n : Int) := by omega
      obtain ⟨x, hx⟩ : ∃ x, b[i]? = some x := ⟨_, List.getElem?_eq_getElem (by omega)⟩
      obtain ⟨y, hy⟩ : ∃ y, b[2 * i + 1]? = some y := ⟨_, List.getElem?_eq_getElem (by omega)⟩
      have HX := Lib.hid hx
      have HY := Lib.hid hy
      have HG := Lib.hid h1
      have h2i : i < n := by omega
      clear hx hy h1
      by_cases h2 : 2 * i + 2 < n
      · have h2' : 2 * (i : Int) + 1 + 1 < (n : Int) := by omega
        obtain ⟨z, hz⟩ : ∃ z, b[2 * i + 2]? = some z := ⟨_, List.getElem?_eq_getElem (by omega)⟩
        have HZ := Lib.hid hz
        have H2 := Lib.hid h2
        clear hz h2
        by_cases hzy : z.ct < y.ct
        · have HZY := Lib.hid hzy
          clear hzy
          by_cases hlt : z.ct < x.ct
          · have hltn := hlt
            have HLT := Lib.hid hlt
            clear hlt hltn
            have C1 := hLess_as wr HP.out HZ.out HY.out (p := 2 * (i : Int) + 1 + 1) (q := 2 * (i : Int) + 1) (by omega) (by omega) (t := true) (by simpa using HZY.out)
            go_wp2_with (first
              | (go_at_call 130; refine C1.mono ?_; clear C1 m1 hB; rintro e w1 ⟨rfl, hb1⟩; have HP1 := Lib.hid (HP.out.below hb1); have HK1 := Lib.hid (HK.out.trans (Kx.of_below hb1)); clear hb1 HP HK; have hB1 : w1.cell? ⟨B, 0, none⟩ = some (.slice (some ⟨g, 0, none⟩) b.length cap) := HP1.out.box.cell 0; have m11 := mLess hB1; have C2 := hLess_as w1 HP1.out HZ.out HX.out (p := 2 * (i : Int) + 1 + 1) (q := (i : Int)) (by omega) rfl (t := true) (by simpa using HLT.out))
              | (go_at_call 130; refine C2.mono ?_; clear C2 m11 hB1; rintro e w2 ⟨rfl, hb2⟩; have HP2 := Lib.hid (HP1.out.below hb2); have HK2 := Lib.hid (HK1.out.trans (Kx.of_below hb2)); clear hb2 HP1 HK1; have hB2 : w2.cell? ⟨B, 0, none⟩ = some (.slice (some ⟨g, 0, none⟩) b.length cap) := HP2.out.box.cell 0; have m2 := mSwap hB2; have C3 := hSwap_as w2 HP2.out HX.out HZ.out (p := (i : Int)) (q := 2 * (i : Int) + 1 + 1) rfl (by omega))
              | (go_at_call 131; refine C3.mono ?_; clear C3 m2 hB2; rintro e w3 ⟨rfl, hp3, hk3⟩; have HP3 := Lib.hid hp3; have HK3 := Lib.hid (HK2.out.trans hk3); clear hp3 hk3 HP2 HK2))
            go_roundw
            case rel =>
              have hl := HU.out.step (j := 2 * i + 2) (by omega) (by omega) (by omega) (by rw [ctf_at HZ.out, ctf_at HX.out]; exact HLT.out) (fun k hk hkn hpk => by
                have hk2 : k = 2 * i + 1 ∨ k = 2 * i + 2 := by omega
                rcases hk2 with rfl | rfl
                · rw [ctf_at HZ.out, ctf_at HY.out]; have := HZY.out; omega
                · exact Int.le_refl _
              )
              refine ⟨2 * i + 2, _, swp b i (2 * i + 2), by first | rfl | go_num, .inr (by omega), HP3.out, HR.out.swp h2i (by omega) hn, ?_, HK3.out⟩
              rw [swp_ctf (by omega) (by omega)]
              exact hl
            case measure => simp [intOf]; omega
          · have hltn := hlt
            have HLT := Lib.hid hlt
            clear hlt hltn
            have C1 := hLess_as wr HP.out HZ.out HY.out (p := 2 * (i : Int) + 1 + 1) (q := 2 * (i : Int) + 1) (by omega) (by omega) (t := true) (by simpa using HZY.out)
            go_wp2_with (first
              | (go_at_call 130; refine C1.mono ?_; clear C1 m1 hB; rintro e w1 ⟨rfl, hb1⟩; have HP1 := Lib.hid (HP.out.below hb1); have HK1 := Lib.hid (HK.out.trans (Kx.of_below hb1)); clear hb1 HP HK; have hB1 : w1.cell? ⟨B, 0, none⟩ = some (.slice (some ⟨g, 0, none⟩) b.length cap) := HP1.out.box.cell 0; have m11 := mLess hB1; have C2 := hLess_as w1 HP1.out HZ.out HX.out (p := 2 * (i : Int) + 1 + 1) (q := (i : Int)) (by omega) rfl (t := false) (by simpa using HLT.out))
              | (go_at_call 130; refine C2.mono ?_; clear C2 m11 hB1; rintro e w2 ⟨rfl, hb2⟩; have HP2 := Lib.hid (HP1.out.below hb2); have HK2 := Lib.hid (HK1.out.trans (Kx.of_below hb2)); clear hb2 HP1 HK1; have hB2 : w2.cell? ⟨B, 0, none⟩ = some (.slice (some ⟨g, 0, none⟩) b.length cap) := HP2.out.box.cell 0; have m2 := mSwap hB2; have C3 := hSwap_as w2 HP2.out HX.out HZ.out (p := (i : Int)) (q := 2 * (i : Int) + 1 + 1) rfl (by omega)))
            all_goals go_ret
            all_goals
              refine ⟨⟨_, rfl⟩, cs, b, HP2.out, HR.out, HU.out.done (fun k hk hkn hpk => ?_), HK2.out⟩
              have hk2 : k = 2 * i + 1 ∨ k = 2 * i + 2 := by omega
              have hxv := HLT.out
              rcases hk2 with rfl | rfl
              · rw [ctf_at HX.out, ctf_at HY.out]; have := HZY.out; omega
              · rw [ctf_at HX.out, ctf_at HZ.out]; have := HZY.out; omega
        · have HZY := Lib.hid hzy
          clear hzy
          by_cases hlt : y.ct < x.ct
          · have hltn := hlt
            have HLT := Lib.hid hlt
            clear hlt hltn
            have C1 := hLess_as wr HP.out HZ.out HY.out (p := 2 * (i : Int) + 1 + 1) (q := 2 * (i : Int) + 1) (by omega) (by omega) (t := false) (by simpa using HZY.out)
            go_wp2_with (first
              | (go_at_call 130; refine C1.mono ?_; clear C1 m1 hB; rintro e w1 ⟨rfl, hb1⟩; have HP1 := Lib.hid (HP.out.below hb1); have HK1 := Lib.hid (HK.out.trans (Kx.of_below hb1)); clear hb1 HP HK; have hB1 : w1.cell? ⟨B, 0, none⟩ = some (.slice (some ⟨g, 0, none⟩) b.length cap) := HP1.out.box.cell 0; have m11 := mLess hB1; have C2 := hLess_as w1 HP1.out HY.out HX.out (p := 2 * (i : Int) + 1) (q := (i : Int)) (by omega) rfl (t := true) (by simpa using HLT.out))
              | (go_at_call 130; refine C2.mono ?_; clear C2 m11 hB1; rintro e w2 ⟨rfl, hb2⟩; have HP2 := Lib.hid (HP1.out.below hb2); have HK2 := Lib.hid (HK1.out.trans (Kx.of_below hb2)); clear hb2 HP1 HK1; have hB2 : w2.cell? ⟨B, 0, none⟩ = some (.slice (some ⟨g, 0, none⟩) b.length cap) := HP2.out.box.cell 0; have m2 := mSwap hB2; have C3 := hSwap_as w2 HP2.out HX.out HY.out (p := (i : Int)) (q := 2 * (i : Int) + 1) rfl (by omega))
              | (go_at_call 131; refine C3.mono ?_; clear C3 m2 hB2; rintro e w3 ⟨rfl, hp3, hk3⟩; have HP3 := Lib.hid hp3; have HK3 := Lib.hid (HK2.out.trans hk3); clear hp3 hk3 HP2 HK2))
            go_roundw
            case rel =>
              have hl := HU.out.step (j := 2 * i + 1) (by omega) (by omega) (by omega) (by rw [ctf_at HY.out, ctf_at HX.out]; exact HLT.out) (fun k hk hkn hpk => by
                have hk2 : k = 2 * i + 1 ∨ k = 2 * i + 2 := by omega
                rcases hk2 with rfl | rfl
                · exact Int.le_refl _
                · rw [ctf_at HY.out, ctf_at HZ.out]; have := HZY.out; omega
              )
              refine ⟨2 * i + 1, _, swp b i (2 * i + 1), by first | rfl | go_num, .inr (by omega), HP3.out, HR.out.swp h2i (by omega) hn, ?_, HK3.out⟩
              rw [swp_ctf (by omega) (by omega)]
              exact hl
            case measure => simp [intOf]; omega
          · have hltn := hlt
            have HLT := Lib.hid hlt
            clear hlt hltn
            have C1 := hLess_as wr HP.out HZ.out HY.out (p := 2 * (i : Int) + 1 + 1) (q := 2 * (i : Int) + 1) (by omega) (by omega) (t := false) (by simpa using HZY.out)
            go_wp2_with (first
              | (go_at_call 130; refine C1.mono ?_; clear C1 m1 hB; rintro e w1 ⟨rfl, hb1⟩; have HP1 := Lib.hid (HP.out.below hb1); have HK1 := Lib.hid (HK.out.trans (Kx.of_below hb1)); clear hb1 HP HK; have hB1 : w1.cell? ⟨B, 0, none⟩ = some (.slice (some ⟨g, 0, none⟩) b.length cap) := HP1.out.box.cell 0; have m11 := mLess hB1; have C2 := hLess_as w1 HP1.out HY.out HX.out (p := 2 * (i : Int) + 1) (q := (i : Int)) (by omega) rfl (t := false) (by simpa using HLT.out))
              | (go_at_call 130; refine C2.mono ?_; clear C2 m11 hB1; rintro e w2 ⟨rfl, hb2⟩; have HP2 := Lib.hid (HP1.out.below hb2); have HK2 := Lib.hid (HK1.out.trans (Kx.of_below hb2)); clear hb2 HP1 HK1; have hB2 : w2.cell? ⟨B, 0, none⟩ = some (.slice (some ⟨g, 0, none⟩) b.length cap) := HP2.out.box.cell 0; have m2 := mSwap hB2; have C3 := hSwap_as w2 HP2.out HX.out HY.out (p := (i : Int)) (q := 2 * (i : Int) + 1) rfl (by omega)))
            all_goals go_ret
            all_goals
              refine ⟨⟨_, rfl⟩, cs, b, HP2.out, HR.out, HU.out.done (fun k hk hkn hpk => ?_), HK2.out⟩
              have hk2 : k = 2 * i + 1 ∨ k = 2 * i + 2 := by omega
              have hxv := HLT.out
              rcases hk2 with rfl | rfl
              · rw [ctf_at HX.out, ctf_at HY.out]; have := HZY.out; omega
              · rw [ctf_at HX.out, ctf_at HZ.out]; have := HZY.out; omega
      · have h2' : (n : Int) ≤ 2 * (i : Int) + 1 + 1 := by omega
        have H2 := Lib.hid h2
        clear h2
        by_cases hlt : y.ct < x.ct
        · have hltn := hlt
          have HLT := Lib.hid hlt
          clear hlt hltn
          have C2 := hLess_as wr HP.out HY.out HX.out (p := 2 * (i : Int) + 1) (q := (i : Int)) (by omega) rfl (t := true) (by simpa using HLT.out)
          go_wp2_with (first
            | (go_at_call 130; refine C2.mono ?_; clear C2 m1 hB; rintro e w2 ⟨rfl, hb2⟩; have HP2 := Lib.hid (HP.out.below hb2); have HK2 := Lib.hid (HK.out.trans (Kx.of_below hb2)); clear hb2 HP HK; have hB2 : w2.cell? ⟨B, 0, none⟩ = some (.slice (some ⟨g, 0, none⟩) b.length cap) := HP2.out.box.cell 0; have m2 := mSwap hB2; have C3 := hSwap_as w2 HP2.out HX.out HY.out (p := (i : Int)) (q := 2 * (i : Int) + 1) rfl (by omega))
            | (go_at_call 131; refine C3.mono ?_; clear C3 m2 hB2; rintro e w3 ⟨rfl, hp3, hk3⟩; have HP3 := Lib.hid hp3; have HK3 := Lib.hid (HK2.out.trans hk3); clear hp3 hk3 HP2 HK2))
          go_roundw
          case rel =>
            have hl := HU.out.step (j := 2 * i + 1) (by omega) (by omega) (by omega) (by rw [ctf_at HY.out, ctf_at HX.out]; exact HLT.out) (fun k hk hkn hpk => by
              have hk2 : k = 2 * i + 1 ∨ k = 2 * i + 2 := by omega
              rcases hk2 with rfl | rfl
              · exact Int.le_refl _
              · have := H2.out; omega
            )
            refine ⟨2 * i + 1, _, swp b i (2 * i + 1), by first | rfl | go_num, .inr (by omega), HP3.out, HR.out.swp h2i (by omega) hn, ?_, HK3.out⟩
            rw [swp_ctf (by omega) (by omega)]
            exact hl
          case measure => simp [intOf]; omega
        · have hltn := hlt
          have HLT := Lib.hid hlt
          clear hlt hltn
          have C2 := hLess_as wr HP.out HY.out HX.out (p := 2 * (i : Int) + 1) (q := (i : Int)) (by omega) rfl (t := false) (by simpa using HLT.out)
          go_wp2_with (first
            | (go_at_call 130; refine C2.mono ?_; clear C2 m1 hB; rintro e w2 ⟨rfl, hb2⟩; have HP2 := Lib.hid (HP.out.below hb2); have HK2 := Lib.hid (HK.out.trans (Kx.of_below hb2)); clear hb2 HP HK; have hB2 : w2.cell? ⟨B, 0, none⟩ = some (.slice (some ⟨g, 0, none⟩) b.length cap) := HP2.out.box.cell 0; have m2 := mSwap hB2; have C3 := hSwap_as w2 HP2.out HX.out HY.out (p := (i : Int)) (q := 2 * (i : Int) + 1) rfl (by omega)))
          all_goals go_ret
          all_goals
            refine ⟨⟨_, rfl⟩, cs, b, HP2.out, HR.out, HU.out.done (fun k hk hkn hpk => ?_), HK2.out⟩
            have hk2 : k = 2 * i + 1 ∨ k = 2 * i + 2 := by omega
            have hxv := HLT.out
            rcases hk2 with rfl | rfl
            · rw [ctf_at HX.out, ctf_at HY.out]; omega
            · have := H2.out; omega
end Go.Proofs.Ytkcnbgimdiggoab

/-
  Contracts over this seat: heap.Push and heap.Pop at the heap of waiting nodes.
-/
namespace Go.Proofs.Ytkcnbgimdiggoab
open Go.RowKit

set_option maxRecDepth 100000 in
set_option maxHeartbeats 800000 in
theorem push_any {B g cap : Nat} {cs : Array Value} {a : List Vs} (w : World) (h : HpW w B g cap cs a) (hh : Hp a) (x : Vs) (hm : a.length ≤ 1000000) :
   Calls Try.prog 75 #[hv B, .iface 85 x.v] w fun e w' => e = .returned (.tuple #[]) ∧ ∃ g' cap' cs' b, HpW w' B g' cap' cs' b ∧ PushR a x b ∧ Kx (fun k => k = B ∨ k = g) w w' ∧ (g' = g ∨ w.heap.size ≤ g') := by
  have C1 := hPush_any w h x (by omega)
  have m1 : Meth w (.pointer (some ⟨B, 0, none⟩)) "Push" 133 _ := mPush
  have HH := Lib.hid hh
  clear h hh
  go_enter Try.func75, Try.ntmps75
  go_wp2_with (first
    | (go_at_call 133; refine C1.mono ?_; clear C1 m1; rintro e w1 ⟨rfl, g1, cap1, cs1, hp1, hk1, hg1⟩; have HP1 := Lib.hid hp1; have HK1 := Lib.hid hk1; have HG1 := Lib.hid hg1; have hB1 : w1.cell? ⟨B, 0, none⟩ = some (.slice (some ⟨g1, 0, none⟩) (a ++ [x]).length cap1) := hp1.box.cell 0; clear hp1 hk1 hg1; have m2 := mLen hB1; have hlen : (a ++ [x]).length = a.length + 1 := (by simp); have C2 := up_any w1 HP1.out (by omega) a.length (by omega) (push_start HH.out x))
    | (go_at_call 129; refine (hLen_any _ _ _ w1).mono ?_; rintro e w2 ⟨rfl, rfl⟩)
    | (go_at_call 103; refine C2.mono ?_; clear C2 m2 hB1; rintro e w2 ⟨rfl, cs2, b, hp2, hr2, hh2, hk2⟩; have HP2 := Lib.hid hp2; have HR2 := Lib.hid hr2; have HH2 := Lib.hid hh2; have HK2 := Lib.hid (HK1.out.then hk2 (fun i hi e => by subst e; rcases HG1.out with e | e <;> omega)); clear hp2 hr2 hh2 hk2))
  go_end0
  exact ⟨rfl, g1, cap1, cs2, b, HP2.out, push_end HR2.out HH2.out, HK2.out, HG1.out⟩

set_option maxRecDepth 100000 in
set_option maxHeartbeats 800000 in
theorem pop_any {B g cap : Nat} {cs : Array Value} {a : List Vs} (w : World) (h : HpW w B g cap cs a) (hh : Hp a) (h0 : 0 < a.length) (hm : a.length ≤ 1000000) :
   Calls Try.prog 73 #[hv B] w fun e w' => ∃ v, e = .returned (.iface 85 (Vs.v v)) ∧ ∃ cs' b, HpW w' B g cap cs' b ∧ PopR a v b ∧ Kx (fun k => k = B ∨ k = g) w w' := by
  obtain ⟨n, hn⟩ : ∃ n, a.length = n + 1 := ⟨a.length - 1, by omega⟩
  obtain ⟨x, hx⟩ : ∃ x, a[0]? = some x := ⟨_, List.getElem?_eq_getElem h0⟩
  obtain ⟨y, hy⟩ : ∃ y, a[n]? = some y := ⟨_, List.getElem?_eq_getElem (by omega)⟩
  have hB : w.cell? ⟨B, 0, none⟩ = some (.slice (some ⟨g, 0, none⟩) a.length cap) := h.box.cell 0
  have m1 := mLen hB
  have m2 := mSwap hB
  have C2 := hSwap_as w h hx hy (p := 0) (q := (n : Int)) rfl rfl
  have hs := pop_start hh h0
  have hnb : n ≤ 1000000 := by omega
  rw [show a.length - 1 = n by omega] at hs
  have hsub : ((a.length : Int) - 1) = (n : Int) := by omega
  have HS := Lib.hid hs
  have HH := Lib.hid hh
  have HN := Lib.hid hn
  have HX := Lib.hid hx
  clear h hh hs hn hx hy h0
  go_enter Try.func73, Try.ntmps73
  go_wp2_with (first
    | (go_at_call 129; refine (hLen_any _ _ _ w).mono ?_; rintro e w1 ⟨rfl, rfl⟩)
    | (go_at_call 131; refine C2.mono ?_; clear C2 m1 m2 hB; rintro e w2 ⟨rfl, hp2, hk2⟩; have HP2 := Lib.hid hp2; have HK2 := Lib.hid hk2; clear hp2 hk2; have C3 := down_any w2 HP2.out (by rw [swp_len]; omega) n (by rw [swp_len, HN.out]; omega) HS.out)
    | (go_at_call 99; refine C3.mono ?_; clear C3; rintro e w3 ⟨⟨t3, rfl⟩, cs3, b, hp3, hr3, hh3, hk3⟩; have HP3 := Lib.hid hp3; have HR3 := Lib.hid hr3; have HE3 := Lib.hid hh3; have HK3 := Lib.hid (HK2.out.trans hk3); clear hp3 hr3 hh3 hk3 HP2 HK2; have hlb : b.length = n + 1 := (by rw [HR3.out.1, swp_len, HN.out]); have PE := pop_end (b := b) HH.out (by rw [HN.out]; omega) HX.out (by rw [HN.out]; exact HR3.out) (by rw [HN.out]; exact HE3.out); rw [HN.out] at PE; have HLB := Lib.hid hlb; have C4 := hPop_any w3 HP3.out (x := x) (by omega) (by rw [HLB.out]; exact PE.1) (by omega); have PP := Lib.hid PE.2; clear PE hlb; have m4 : Meth w3 (.pointer (some ⟨B, 0, none⟩)) "Pop" 132 _ := mPop)
    | (go_at_call 132; refine C4.mono ?_; clear C4 m4; rintro e w4 ⟨rfl, hp4, hk4⟩; have HP4 := Lib.hid hp4; have HK4 := Lib.hid ((HK3.out.mono (Y := fun k => k = B ∨ k = g) (fun _ _ e => .inr e)).then hk4 (fun i _ e => .inl e)); clear hp4 hk4 HP3 HK3))
  go_ret
  have e : b.length - 1 = n := by rw [HLB.out]; omega
  have hp := HP4.out
  rw [e] at hp
  exact ⟨x, rfl, _, _, hp, PP.out, HK4.out⟩
end Go.Proofs.Ytkcnbgimdiggoab
