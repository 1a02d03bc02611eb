/-
  The state of a law of paths; what the laws of paths ask for.
-/
import Derived.Test.YtenlofomkchlaacC8
import Derived.Test.YtenlofomkchlaacD1
import Derived.Test.YtenlofomkchlaacC5
namespace Go.Proofs.Ytenlofomkchlaac
open Go.RowKit Go.Maps

/-- The state of a law over a drawn graph and a drawn path. -/
def LP (w : World) (G : Nat) (n : Int) (ls : List Lk) (A' : Option Addr) (g' c' gx : Nat) (xs : List Int) (wx : World) : Prop := LB w G n ls A' g' c' wx ∧ Own1i wx (some ⟨gx, 0, none⟩) gx xs
section
variable {w w1 w2 : World} {G : Nat} {n : Int} {ls : List Lk} {A' : Option Addr} {g' c' gx : Nat} {xs : List Int}
theorem LP.call (h : LP w G n ls A' g' c' gx xs w1) (hb : Below w1.heap.size w1 w2) : LP w G n ls A' g' c' gx xs w2 := ⟨h.1.call hb, h.2.below hb⟩
theorem LP.alloc (h : LP w G n ls A' g' c' gx xs w1) (o : Obj) : LP w G n ls A' g' c' gx xs (w1.alloc o) := ⟨h.1.alloc o, h.2.alloc o⟩
theorem LP.drew (h : LP w G n ls A' g' c' gx xs w1) : LP w G n ls A' g' c' gx xs w1.drew := ⟨h.1.drew, h.2⟩
theorem LP.sl (h : LP w G n ls A' g' c' gx xs w1) : Sl w1 w1.heap.size A' ls := h.1.2.1.sl
theorem LP.sli (h : LP w G n ls A' g' c' gx xs w1) : Sli w1 w1.heap.size (some ⟨gx, 0, none⟩) xs := h.2.sli
theorem LP.node (h : LP w G n ls A' g' c' gx xs w1) {k : Nat} {x : Int} (hk : xs[k]? = some x) : gx < w1.heap.size ∧ w1.cell? ⟨gx, k, none⟩ = some (.int .i64 x) := (h.2.at hk).2
end

set_option maxRecDepth 100000 in
set_option maxHeartbeats 400000 in
theorem sameLabels_same (A1 A2 : Option Addr) (xs : List Lb) (c1 c2 : Nat) (w : World) (hm : xs.length ≤ 2000000) (h1 : Slb w w.heap.size A1 xs) (h2 : Slb w w.heap.size A2 xs) :
   Calls Try.prog 24 #[.slice A1 xs.length c1, .slice A2 xs.length c2] w fun e w' => e = .returned (.bool true) ∧ Below w.heap.size w w' := by
  have R1 := Lib.hid h1
  have R2 := Lib.hid h2
  clear h1 h2
  go_enter Try.func24, Try.ntmps24
  go_wp2
  go_loopw [5] (fun i wr => ∃ k : Nat, k ≤ xs.length ∧ i = .int .i64 k ∧ Below w.heap.size w wr) (fun i _ => xs.length - (intOf i).toNat)
  case atStart => exact ⟨0, Nat.zero_le _, rfl, Below.refl _ _⟩
  case round =>
    obtain ⟨k, hk, rfl, hb⟩ := hrel
    by_cases hlt : k < xs.length
    · obtain ⟨x, hx⟩ : ∃ x, xs[k]? = some x := ⟨_, List.getElem?_eq_getElem hlt⟩
      obtain ⟨b, off, rfl, hbb, hc1, hc2⟩ := (R1.out.below hb) k x hx
      obtain ⟨b', off', rfl, hbb', hd1, hd2⟩ := (R2.out.below hb) k x hx
      clear hx
      go_wp2
      try go_quiet (fail)
      try go_wp2
      go_roundw
      case rel => exact ⟨k + 1, hlt, by go_num, by first | exact hb | exact hb.drew | exact ⟨hb.os, hb.tape, hb.output, hb.size, hb.block⟩⟩
      case measure => simp [intOf]; omega
    · have hge : xs.length ≤ k := by omega
      go_wp2
      go_ret
      exact ⟨rfl, hb⟩

/-! ### Plain facts -/
section
variable {n : Nat} {ls : List Lk} {xs : List Int}
theorem PV.two (h : PV n ls xs) : ∃ (a b : Int), xs[0]? = some a ∧ xs[xs.length - 1]? = some b ∧ (0 ≤ a ∧ a < (n : Int)) ∧ (0 ≤ b ∧ b < (n : Int)) := by
  have hp := h.pos
  exact ⟨_, _, List.getElem?_eq_getElem hp, List.getElem?_eq_getElem (by omega), h.rng _ (List.getElem_mem _), h.rng _ (List.getElem_mem _)⟩
/-- No path is shorter than the distance. -/
theorem PV.bound (h : PV n ls xs) {a b : Int} (ha : xs[0]? = some a) (hb : xs[xs.length - 1]? = some b) : 0 ≤ bf (n : Int) ls a b ∧ bf (n : Int) ls a b ≤ along (n : Int) ls xs := by
  have hr := h.rng a (List.mem_of_getElem? ha)
  obtain ⟨r, rfl⟩ : ∃ r, xs = a :: r := by
    cases xs with
    | nil => cases ha
    | cons x r => simp at ha; subst ha; exact ⟨r, rfl⟩
  obtain ⟨k, hk⟩ := way_wk h.gv h.way (show (a :: r).getLast? = some b by rw [List.getLast?_eq_getElem?]; exact hb)
  exact bf_le (gvB_fit h.gv).1 hr hk
theorem IsP.pv {a b : Int} {p : List Int} (hv : gvB (n : Int) ls = true) (hb : 0 ≤ b ∧ b < (n : Int)) (h : IsP n ls b a p) (h9 : p.length ≤ 9) : PV n ls p :=
  ⟨hv, h.head.2, h9, fun x hx => by
    obtain ⟨k, hk⟩ := List.getElem?_of_mem hx
    exact (h.rest hk).node hb, h.way hv hb⟩
/-- The shortest path, where there is one. -/
theorem shortest_pv (hv : gvB (n : Int) ls = true) {a b : Int} (ha : 0 ≤ a ∧ a < (n : Int)) (hb : 0 ≤ b ∧ b < (n : Int)) (h0 : 0 ≤ bf (n : Int) ls a b) : PV n ls (pathI (n : Int) ls a b) ∧ along (n : Int) ls (pathI (n : Int) ls a b) = bf (n : Int) ls a b := by
  have hf := (gvB_fit hv).1
  have hs := bf_symm hf ha hb
  have hp : IsP n ls b a (pathI (n : Int) ls a b) := by
    unfold pathI
    rw [Int.toNat_natCast]
    exact path_isP (vwB_of hv ha hb) (by rw [← hs]; exact h0)
  have h8 := pathI_len (n : Int) ls a b
  exact ⟨hp.pv hv hb (by omega), by rw [isP_along hv hb hp, hs]⟩
theorem costP_back (h : PV n ls xs) : costP (n : Int) ls xs.reverse = costP (n : Int) ls xs := by
  rw [costP_PV h, costP_PV h.back, along_rev h.gv h.way]
theorem costP_sign (h : PV n ls xs) : 0 ≤ costP (n : Int) ls xs := by
  rw [costP_PV h]
  exact (along_bound h.gv h.way).1
theorem rev_next {p : Nat} {x : Int} (h : xs[p]? = some x) : (xs.drop p).reverse = (xs.drop (p + 1)).reverse ++ [x] := by
  have hl := (List.getElem?_eq_some_iff.1 h).1
  rw [List.drop_eq_getElem_cons hl, List.reverse_cons]
  congr 1
  rw [List.getElem?_eq_getElem hl] at h
  rw [Option.some.inj h]
end

end Go.Proofs.Ytenlofomkchlaac
