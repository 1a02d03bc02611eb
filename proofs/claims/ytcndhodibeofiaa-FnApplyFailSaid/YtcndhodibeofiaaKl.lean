/-
  Contracts over this seat: who wins an office.
-/
import Derived.Test.YtcndhodibeofiaaKk
namespace Go.Proofs.Ytcndhodibeofiaa
open Go.RowKit Go.Maps

def runs (el : Int) (x : Lk) : Bool := decide (0 < x.b) && decide (x.a ≠ el)
/-- Who wins office o among xs, where el has been elected. -/
def Wins (o el : Int) (xs : List Lk) (r : Int) : Prop := (r = -1 ∧ ∀ d ∈ xs, 0 < d.b → d.a = el) ∨ ∃ x ∈ xs, 0 < x.b ∧ x.a ≠ el ∧ r = x.a ∧ ∀ d ∈ xs, 0 < d.b → d.a ≠ el → LexO o d x
theorem runs_iff {el : Int} {x : Lk} : runs el x = true ↔ 0 < x.b ∧ x.a ≠ el := by unfold runs; simp
theorem wins_none {o el : Int} {xs : List Lk} (h : xs.filter (runs el) = []) : Wins o el xs (-1) := by
  refine .inl ⟨rfl, fun d hd hb => ?_⟩
  rw [List.filter_eq_nil_iff] at h
  by_cases he : d.a = el
  · exact he
  · exact absurd (runs_iff.2 ⟨hb, he⟩) (h d hd)
theorem wins_some {o el : Int} {xs : List Lk} {m : Lk} (h : m ∈ xs.filter (runs el)) (h' : ∀ d ∈ xs.filter (runs el), LexO o d m) : Wins o el xs m.a := by
  obtain ⟨h1, h2⟩ := List.mem_filter.1 h
  obtain ⟨h3, h4⟩ := runs_iff.1 h2
  exact .inr ⟨m, h1, h3, h4, rfl, fun d hd hb he => h' d (List.mem_filter.2 ⟨hd, runs_iff.2 ⟨hb, he⟩⟩)⟩
theorem wins_sp {xs : List Lk} {r : Int} (hok : CdOk xs) (h : Wins 2 (-1) xs r) : IsSp xs r := by
  have hc : ∀ d ∈ xs, min d.c 2 = d.c := fun d hd => by have := (hok.1 d hd).2.2; omega
  have hn : ∀ d ∈ xs, d.a ≠ -1 := fun d hd => by have := (hok.1 d hd).1; omega
  rcases h with ⟨rfl, h⟩ | ⟨x, hx, hb, he, rfl, h⟩
  · refine .inl ⟨rfl, fun d hd => ?_⟩
    by_cases hb : 0 < d.b
    · exact absurd (h d hd hb) (hn d hd)
    · omega
  · refine .inr ⟨x, hx, hb, rfl, fun d hd hdb => ?_⟩
    have := h d hd hdb (hn d hd)
    unfold LexO at this
    rwa [hc d hd, hc x hx] at this
theorem wins_bk {xs : List Lk} {s r : Int} (h : Wins 1 s xs r) : IsBk xs s r := h
theorem run_next {xs : List Lk} {k : Nat} {x : Lk} (h : xs[k]? = some x) (el : Int) : (xs.take (k + 1)).filter (runs el) = (xs.take k).filter (runs el) ++ (if runs el x then [x] else []) := by
  rw [List.take_add_one, h, List.filter_append]
  cases hr : runs el x <;> simp [hr]

set_option maxRecDepth 100000 in
set_option maxHeartbeats 4000000 in
theorem winner_any (o el : Int) (A : Option Addr) (xs : List Lk) (c : Nat) (w : World) (hm : xs.length ≤ 1048576) (hS : Sl w w.heap.size A xs) :
   Calls Try.prog 33 #[.int .i64 o, .slice A xs.length c, .int .i64 el] w fun e w' => (∃ r, e = .returned (.int .i64 r) ∧ Wins o el xs r) ∧ Below w.heap.size w w' := by
  obtain ⟨i0, hi, hz0, hz10, hz20⟩ := info_parts infoCand
  have HS := Lib.hid hS
  have Q0 := Lib.hid (QK.start w)
  have CM := fun (A' : Option Addr) (out : List Lk) (c' : Nat) (W : World) (h1 : out.length ≤ 1048576) (h2 : 0 < out.length) (h3 : Sl W W.heap.size A' out) => maxf_any o A' out c' W h1 h2 h3
  clear hS
  go_enter Try.func33, Try.ntmps33
  go_wp2_with fail
  go_loopw [13, 7] (fun i v wr => ∃ (k : Nat) (out : List Lk), k ≤ xs.length ∧ i = .int .i64 (k : Int) ∧ Hid (out = (xs.take k).filter (runs el)) ∧ out.length ≤ k ∧ Hid (QK w v out wr)) (fun i _ _ => xs.length - (intOf i).toNat)
  case atStart => exact ⟨0, [], Nat.zero_le _, rfl, Lib.hid rfl, Nat.le_refl _, Q0⟩
  case round =>
    obtain ⟨k, out, hk, rfl, HDk, hok, Q⟩ := hrel
    clear Q0
    have hbs := Q.out.bel.size
    by_cases hlt : k < xs.length
    · obtain ⟨A9, g9, c9, rfl, -, -, -, -⟩ := own_slicek Q.out.row hbs
      obtain ⟨x, hx⟩ : ∃ x, xs[k]? = some x := ⟨_, List.getElem?_eq_getElem hlt⟩
      obtain ⟨b, off, rfl, hbb, hc0, hc1, hc2⟩ := (HS.out.below Q.out.bel) k x hx
      have hbb1 : b < wr.heap.size := by omega
      have HX := Lib.hid (run_next hx el)
      have HR := Lib.hid (show runs el x = (decide (0 < x.b) && decide (x.a ≠ el)) from rfl)
      clear hx
      obtain ⟨xa, xb, xc⟩ := x
      dsimp only at hc0 hc1 hc2
      have Q2 := Q.out.call ((Below.refl _ _).alloc (Nat.le_refl _) (.cells #[.int .i64 xa, .int .i64 xb, .int .i64 xc] 36))
      have hN := new3 (wr.alloc (.cells #[.int .i64 xa, .int .i64 xb, .int .i64 xc] 36)) (.int .i64 xa) (.int .i64 xb) (.int .i64 xc) 36
      simp only [World.size_alloc] at hN
      by_cases h1 : 0 < xb
      · by_cases h2 : xa = el
        · have h2' : (xa != el) = false := by simp [h2]
          have HRN : Hid (runs el ⟨xa, xb, xc⟩ = false) := Lib.hid (by rw [HR.out]; simp [h2])
          clear h2 hN
          have HQ := Lib.hid Q2
          clear Q2
          go_wp2_with fail
          go_roundw
          case rel => exact ⟨k + 1, out, hlt, by go_num, Lib.hid (by rw [HX.out, HRN.out, HDk.out]; simp), by omega, HQ⟩
          case measure => simp [intOf]; omega
        · have h2' : (xa != el) = true := by simpa using h2
          have HRN : Hid (runs el ⟨xa, xb, xc⟩ = true) := Lib.hid (by rw [HR.out]; simp [h2]; exact h1)
          clear h2
          go_wp2_with (at_builtin; refine wpList_append_own _ rfl _ _ 25 rfl w.heap.size 36 i0 _ 3 24 Try.underlying25 hi hz0 hz10 hz20 rfl (by decide) _ out.length (flat out) rfl (Q2.row.alloc _) ⟨wr.heap.size + 1, 0, none⟩ 1 1 [.int .i64 xa, .int .i64 xb, .int .i64 xc] rfl rfl hN (one3 _ _ _) (by unfold maxLen; omega) (by omega) (by simp; omega) ?_; intro v' w9 hown hgrow _; have Q9 := Lib.hid (Q2.append (x := ⟨xa, xb, xc⟩) hown hgrow); clear hown hgrow)
          go_roundw
          case rel => exact ⟨k + 1, out ++ [⟨xa, xb, xc⟩], hlt, by go_num, Lib.hid (by rw [HX.out, HRN.out, HDk.out]; simp), by simp; omega, Q9⟩
          case measure => simp [intOf]; omega
      · have HRN : Hid (runs el ⟨xa, xb, xc⟩ = false) := Lib.hid (by rw [HR.out]; simp; omega)
        clear hN
        have HQ := Lib.hid Q2
        clear Q2
        go_wp2_with fail
        go_roundw
        case rel => exact ⟨k + 1, out, hlt, by go_num, Lib.hid (by rw [HX.out, HRN.out, HDk.out]; simp), by omega, HQ⟩
        case measure => simp [intOf]; omega
    · obtain rfl : k = xs.length := by omega
      have hge : ¬ ((xs.length : Int) < (xs.length : Int)) := by omega
      have HDW : Hid (out = xs.filter (runs el)) := Lib.hid (by rw [HDk.out, List.take_length])
      clear HDk
      obtain ⟨A9, g9, c9, rfl, hg9, -, ho9, hl9⟩ := own_slicek Q.out.row hbs
      by_cases h0 : 0 < out.length
      · have C9 := CM A9 out c9 wr (by omega) h0 ho9.sl
        have hne : ((out.length : Int) == 0) = false := by simp; intro h; subst h; simp at h0
        clear CM ho9
        go_wp2_with fail
        refine C9.mono ?_
        clear C9
        rintro e w9 ⟨⟨m, rfl, hm1, hm2⟩, hb9⟩
        have FW := Lib.hid (wins_some (o := o) (el := el) (xs := xs) (m := m) (by rw [← HDW.out]; exact hm1) (by rw [← HDW.out]; exact hm2))
        have HF := Lib.hid (Q.out.bel.trans (hb9.mono Q.out.bel.size))
        clear hb9 hm1 hm2
        obtain ⟨ma, mb, mc⟩ := m
        have FB : ∀ (u v z : Int) (W : World), Sem.run Try.prog (Instr.field 36 (.agg #[.int .i64 u, .int .i64 v, .int .i64 z]) 0) W = .ok (.int .i64 u) W := fun u v z W => by unfold Instr.field; simp [go_sem, asAgg, Result.andThen]
        go_wp2_with fail
        go_ret
        exact ⟨⟨_, rfl, FW.out⟩, HF.out⟩
      · have h00 : out = [] := List.eq_nil_of_length_eq_zero (by omega)
        have HW0 := Lib.hid (wins_none (o := o) (el := el) (xs := xs) (by rw [← HDW.out]; exact h00))
        subst h00
        clear ho9 hl9 CM h0
        go_wp2_with fail
        go_ret
        exact ⟨⟨_, rfl, HW0.out⟩, Q.out.bel⟩

end Go.Proofs.Ytcndhodibeofiaa
