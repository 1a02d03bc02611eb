/-
  Contracts over this seat: heap.Push and heap.Pop at the heap of waiting nodes.
-/
import Derived.Test.YtigamnnboojiiaaHr
namespace Go.Proofs.Ytigamnnboojiiaa
open Go.RowKit

set_option maxRecDepth 100000 in
set_option maxHeartbeats 800000 in
theorem push_any {B g cap : Nat} {cs : Array Value} {a : List Vs} (w : World) (h : HpW w B g cap cs a) (hh : Hp a) (x : Vs) (hm : a.length ≤ 1000000) :
   Calls Try.prog 47 #[hv B, .iface 58 x.v] w fun e w' => e = .returned (.tuple #[]) ∧ ∃ g' cap' cs' b, HpW w' B g' cap' cs' b ∧ PushR a x b ∧ Kx (fun k => k = B ∨ k = g) w w' ∧ (g' = g ∨ w.heap.size ≤ g') := by
  have C1 := hPush_any w h x (by omega)
  have m1 : Meth w (.pointer (some ⟨B, 0, none⟩)) "Push" 96 _ := mPush
  have HH := Lib.hid hh
  clear h hh
  go_enter Try.func47, Try.ntmps47
  go_wp2_with (first
    | (go_at_call 96; refine C1.mono ?_; clear C1 m1; rintro e w1 ⟨rfl, g1, cap1, cs1, hp1, hk1, hg1⟩; have HP1 := Lib.hid hp1; have HK1 := Lib.hid hk1; have HG1 := Lib.hid hg1; have hB1 : w1.cell? ⟨B, 0, none⟩ = some (.slice (some ⟨g1, 0, none⟩) (a ++ [x]).length cap1) := hp1.box.cell 0; clear hp1 hk1 hg1; have m2 := mLen hB1; have hlen : (a ++ [x]).length = a.length + 1 := (by simp); have C2 := up_any w1 HP1.out (by omega) a.length (by omega) (push_start HH.out x))
    | (go_at_call 92; refine (hLen_any _ _ _ w1).mono ?_; rintro e w2 ⟨rfl, rfl⟩)
    | (go_at_call 63; refine C2.mono ?_; clear C2 m2 hB1; rintro e w2 ⟨rfl, cs2, b, hp2, hr2, hh2, hk2⟩; have HP2 := Lib.hid hp2; have HR2 := Lib.hid hr2; have HH2 := Lib.hid hh2; have HK2 := Lib.hid (HK1.out.then hk2 (fun i hi e => by subst e; rcases HG1.out with e | e <;> omega)); clear hp2 hr2 hh2 hk2))
  go_end0
  exact ⟨rfl, g1, cap1, cs2, b, HP2.out, push_end HR2.out HH2.out, HK2.out, HG1.out⟩

set_option maxRecDepth 100000 in
set_option maxHeartbeats 800000 in
theorem pop_any {B g cap : Nat} {cs : Array Value} {a : List Vs} (w : World) (h : HpW w B g cap cs a) (hh : Hp a) (h0 : 0 < a.length) (hm : a.length ≤ 1000000) :
   Calls Try.prog 45 #[hv B] w fun e w' => ∃ v, e = .returned (.iface 58 (Vs.v v)) ∧ ∃ cs' b, HpW w' B g cap cs' b ∧ PopR a v b ∧ Kx (fun k => k = B ∨ k = g) w w' := by
  obtain ⟨n, hn⟩ : ∃ n, a.length = n + 1 := ⟨a.length - 1, by omega⟩
  obtain ⟨x, hx⟩ : ∃ x, a[0]? = some x := ⟨_, List.getElem?_eq_getElem h0⟩
  obtain ⟨y, hy⟩ : ∃ y, a[n]? = some y := ⟨_, List.getElem?_eq_getElem (by omega)⟩
  have hB : w.cell? ⟨B, 0, none⟩ = some (.slice (some ⟨g, 0, none⟩) a.length cap) := h.box.cell 0
  have m1 := mLen hB
  have m2 := mSwap hB
  have C2 := hSwap_as w h hx hy (p := 0) (q := (n : Int)) rfl rfl
  have hs := pop_start hh h0
  have hnb : n ≤ 1000000 := by omega
  rw [show a.length - 1 = n by omega] at hs
  have hsub : ((a.length : Int) - 1) = (n : Int) := by omega
  have HS := Lib.hid hs
  have HH := Lib.hid hh
  have HN := Lib.hid hn
  have HX := Lib.hid hx
  clear h hh hs hn hx hy h0
  go_enter Try.func45, Try.ntmps45
  go_wp2_with (first
    | (go_at_call 92; refine (hLen_any _ _ _ w).mono ?_; rintro e w1 ⟨rfl, rfl⟩)
    | (go_at_call 94; refine C2.mono ?_; clear C2 m1 m2 hB; rintro e w2 ⟨rfl, hp2, hk2⟩; have HP2 := Lib.hid hp2; have HK2 := Lib.hid hk2; clear hp2 hk2; have C3 := down_any w2 HP2.out (by rw [swp_len]; omega) n (by rw [swp_len, HN.out]; omega) HS.out)
    | (go_at_call 60; refine C3.mono ?_; clear C3; rintro e w3 ⟨⟨t3, rfl⟩, cs3, b, hp3, hr3, hh3, hk3⟩; have HP3 := Lib.hid hp3; have HR3 := Lib.hid hr3; have HE3 := Lib.hid hh3; have HK3 := Lib.hid (HK2.out.trans hk3); clear hp3 hr3 hh3 hk3 HP2 HK2; have hlb : b.length = n + 1 := (by rw [HR3.out.1, swp_len, HN.out]); have PE := pop_end (b := b) HH.out (by rw [HN.out]; omega) HX.out (by rw [HN.out]; exact HR3.out) (by rw [HN.out]; exact HE3.out); rw [HN.out] at PE; have HLB := Lib.hid hlb; have C4 := hPop_any w3 HP3.out (x := x) (by omega) (by rw [HLB.out]; exact PE.1) (by omega); have PP := Lib.hid PE.2; clear PE hlb; have m4 : Meth w3 (.pointer (some ⟨B, 0, none⟩)) "Pop" 95 _ := mPop)
    | (go_at_call 95; refine C4.mono ?_; clear C4 m4; rintro e w4 ⟨rfl, hp4, hk4⟩; have HP4 := Lib.hid hp4; have HK4 := Lib.hid ((HK3.out.mono (Y := fun k => k = B ∨ k = g) (fun _ _ e => .inr e)).then hk4 (fun i _ e => .inl e)); clear hp4 hk4 HP3 HK3))
  go_ret
  have e : b.length - 1 = n := by rw [HLB.out]; omega
  have hp := HP4.out
  rw [e] at hp
  exact ⟨x, rfl, _, _, hp, PP.out, HK4.out⟩
end Go.Proofs.Ytigamnnboojiiaa
