/-
  Contracts over this seat: the specification's DbPut, DbMerge, DbMissing.
-/
import Derived.Test.YtnkohgdfipgdoabZp
namespace Go.Proofs.Ytnkohgdfipgdoab
open Go.RowKit Go.Maps

theorem asc_len : ∀ {xs : List Int} {lo hi : Int}, xs.Pairwise (· < ·) → (∀ x ∈ xs, lo ≤ x ∧ x ≤ hi) → lo ≤ hi + 1 → (xs.length : Int) ≤ hi - lo + 1
  | [], lo, hi, _, _, h => by simp; omega
  | x :: xs, lo, hi, hp, hr, _ => by
    rw [List.pairwise_cons] at hp
    have hx := hr x (List.mem_cons_self ..)
    have := asc_len (xs := xs) (lo := x + 1) (hi := hi) hp.2 (fun y hy => by
      have h1 := hp.1 y hy
      have h2 := hr y (List.mem_cons_of_mem _ hy)
      omega) (by omega)
    simp only [List.length_cons]
    omega
theorem laB_len {l : La} (h : laB l = true) : l.es.length ≤ 8 := by
  obtain ⟨⟨h1, h2⟩, _⟩ := laB_iff.1 h
  have := asc_len (xs := l.es.map Lb.k) (lo := 0) (hi := 7) (by rw [List.pairwise_map]; exact h2) (fun x hx => by
    obtain ⟨e, he, rfl⟩ := List.mem_map.1 hx
    exact (h1 e he).1) (by omega)
  rw [List.length_map] at this
  omega
theorem db_len {db : List La} (hs : Srt db) (hv : ∀ x ∈ db, laB x = true) : db.length ≤ 8 := by
  have := asc_len (xs := db.map La.o) (lo := 0) (hi := 7) (srt_map hs) (fun x hx => by
    obtain ⟨l, hl, rfl⟩ := List.mem_map.1 hx
    exact (laB_rng (hv l hl)).1) (by omega)
  rw [List.length_map] at this
  omega
theorem datL_all {zs : List Lz} {P : La → Prop} (h : ∀ d ∈ datL zs, P d) : ∀ z ∈ zs, P z.d := fun z hz => h z.d (List.mem_map.2 ⟨z, hz, rfl⟩)
/-- A valid list is short, and so are its announcements. -/
theorem db_short {zs : List Lz} (h : dbB (datL zs) = true) : zs.length ≤ 8 ∧ ∀ z ∈ zs, z.es.length ≤ 8 := by
  obtain ⟨hv, hs⟩ := dbB_inv h
  have := db_len hs hv
  exact ⟨by simpa [datL] using this, fun z hz => laB_len (datL_all hv z hz)⟩

def putD (db : List La) (l : La) : List La := if dbB db && laB l then putL db l else []
def putN (db : List La) (l : La) : Int := if dbB db && laB l then putC db l else 3

set_option maxRecDepth 100000 in
set_option maxHeartbeats 1600000 in
theorem dbPut_spec (A : Option Addr) (zs : List Lz) (c : Nat) (l : Lz) (w : World) (hm : zs.length ≤ 1000000) (hes : ∀ z ∈ zs, z.es.length ≤ 2000000) (hle : l.es.length ≤ 2000000) (hS : Slz w w.heap.size A zs) (hL : Slb w w.heap.size l.A l.es) :
   Calls Try.prog 66 #[.slice A zs.length c, l.v] w (PutZ (putD (datL zs) l.d) (putN (datL zs) l.d) w) := by
  have S0 := Lib.hid (show ST w l.o l.q l.A l.es.length l.c (w.alloc (.cells #[.int .i64 l.o, .int .i64 l.q, .slice l.A l.es.length l.c] 54)) from ⟨by (repeat (first | exact Below.refl _ _ | (refine Below.alloc ?_ (by first | exact Nat.le_refl _ | omega | (simp; done) | (simp; omega)) _) | (refine Below.setCell ?_ (by first | exact Nat.le_refl _ | omega | (simp; done) | (simp; omega)) _) | exact Below.drew ‹_›)), Box.new w _ _⟩)
  have HS := Lib.hid hS
  have HL := Lib.hid hL
  have CV := fun W (h : Slz W W.heap.size A zs) => dbValid_spec A zs c W (by omega) hes h
  have CL := fun W (h : Slb W W.heap.size l.A l.es) => lsaValid_spec l W hle h
  have CP := fun W (h : Slz W W.heap.size A zs) (h2 : Slb W W.heap.size l.A l.es) => l11put_any A zs c l W hm hes hle h h2
  clear hS hL hes
  cases h1 : dbB (datL zs) with
  | false =>
    rw [h1] at CV
    have HP : Hid (putD (datL zs) l.d = [] ∧ putN (datL zs) l.d = 3) := Lib.hid (by unfold putD putN; rw [h1]; exact ⟨rfl, rfl⟩)
    clear h1
    obtain ⟨lo, lq, les, lA, lc, lg⟩ := l
    dsimp only at *
    go_enter Try.func66, Try.ntmps66
    go_wp2_with fail
    refine (CV _ ((HS.out.below S0.out.bel).more S0.out.bel.size)).mono ?_
    rintro e w1 ⟨rfl, hb1⟩
    have S1 := Lib.hid (S0.out.call hb1)
    clear hb1
    have Z1 := Lib.hid (ZI.start w.heap.size w1 S1.out.bel.size)
    go_wp2_with fail
    go_returns
    exact ⟨[], _, 0, by rw [HP.out.2]; rfl, by rw [HP.out.1]; rfl, Z1.out, S1.out.bel.alloc S1.out.bel.size _⟩
  | true =>
    rw [h1] at CV
    cases h2 : laB l.d with
    | false =>
      rw [h2] at CL
      have HP : Hid (putD (datL zs) l.d = [] ∧ putN (datL zs) l.d = 3) := Lib.hid (by unfold putD putN; rw [h1, h2]; exact ⟨rfl, rfl⟩)
      clear h1 h2
      obtain ⟨lo, lq, les, lA, lc, lg⟩ := l
      dsimp only at *
      go_enter Try.func66, Try.ntmps66
      go_wp2_with fail
      refine (CV _ ((HS.out.below S0.out.bel).more S0.out.bel.size)).mono ?_
      rintro e w1 ⟨rfl, hb1⟩
      have S1 := Lib.hid (S0.out.call hb1)
      clear hb1
      obtain ⟨zl, l0, l1, l2, -, -, -⟩ := S1.out.box.three
      go_wp2_with fail
      refine (CL _ ((HL.out.below S1.out.bel).more S1.out.bel.size)).mono ?_
      rintro e w2 ⟨rfl, hb2⟩
      have S2 := Lib.hid (S1.out.call hb2)
      clear hb2
      have Z2 := Lib.hid (ZI.start w.heap.size w2 S2.out.bel.size)
      go_wp2_with fail
      go_returns
      exact ⟨[], _, 0, by rw [HP.out.2]; rfl, by rw [HP.out.1]; rfl, Z2.out, S2.out.bel.alloc S2.out.bel.size _⟩
    | true =>
      rw [h2] at CL
      have HP : Hid (putD (datL zs) l.d = putL (datL zs) l.d ∧ putN (datL zs) l.d = putC (datL zs) l.d) := Lib.hid (by unfold putD putN; rw [h1, h2]; exact ⟨rfl, rfl⟩)
      clear h1 h2
      obtain ⟨lo, lq, les, lA, lc, lg⟩ := l
      dsimp only at *
      go_enter Try.func66, Try.ntmps66
      go_wp2_with fail
      refine (CV _ ((HS.out.below S0.out.bel).more S0.out.bel.size)).mono ?_
      rintro e w1 ⟨rfl, hb1⟩
      have S1 := Lib.hid (S0.out.call hb1)
      clear hb1
      obtain ⟨zl, l0, l1, l2, -, -, -⟩ := S1.out.box.three
      go_wp2_with fail
      refine (CL _ ((HL.out.below S1.out.bel).more S1.out.bel.size)).mono ?_
      rintro e w2 ⟨rfl, hb2⟩
      have S2 := Lib.hid (S1.out.call hb2)
      clear hb2 zl l0 l1 l2
      obtain ⟨zl, l0, l1, l2, -, -, -⟩ := S2.out.box.three
      go_wp2_with fail
      refine (CP _ ((HS.out.below S2.out.bel).more S2.out.bel.size) ((HL.out.below S2.out.bel).more S2.out.bel.size)).mono ?_
      rintro e w3 ⟨ys, A3, c3, rfl, hd3, hz3, hb3⟩
      have S3 := Lib.hid (S2.out.call hb3)
      have Z3 := Lib.hid hz3
      have D3 := Lib.hid hd3
      clear hb3 hz3 hd3
      go_wp2_with fail
      go_returns
      exact ⟨ys, A3, c3, by rw [HP.out.2]; rfl, by rw [HP.out.1]; exact D3.out, Z3.out.down S2.out.bel.size, S3.out.bel⟩


def mergeD (db other : List La) : List La := if dbB db && dbB other then mergeL db other else []
/-- What DbMerge leaves. -/
def MrgZ (ds : List La) (ok : Bool) (w : World) (e : Ending) (w' : World) : Prop :=
  ∃ (zs : List Lz) (A : Option Addr) (c : Nat), e = .returned (.tuple #[.slice A zs.length c, .bool ok]) ∧ datL zs = ds ∧ ZI w.heap.size (.slice A zs.length c) zs w' ∧ Below w.heap.size w w'


end Go.Proofs.Ytnkohgdfipgdoab
