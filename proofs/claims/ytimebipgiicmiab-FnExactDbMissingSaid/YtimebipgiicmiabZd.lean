/-
  Contracts over this seat: the specification's DbPut, DbMerge, DbMissing.
-/
import Derived.Test.YtimebipgiicmiabZp
namespace Go.Proofs.Ytimebipgiicmiab
open Go.RowKit Go.Maps

theorem asc_len : ∀ {xs : List Int} {lo hi : Int}, xs.Pairwise (· < ·) → (∀ x ∈ xs, lo ≤ x ∧ x ≤ hi) → lo ≤ hi + 1 → (xs.length : Int) ≤ hi - lo + 1
  | [], lo, hi, _, _, h => by simp; omega
  | x :: xs, lo, hi, hp, hr, _ => by
    rw [List.pairwise_cons] at hp
    have hx := hr x (List.mem_cons_self ..)
    have := asc_len (xs := xs) (lo := x + 1) (hi := hi) hp.2 (fun y hy => by
      have h1 := hp.1 y hy
      have h2 := hr y (List.mem_cons_of_mem _ hy)
      omega) (by omega)
    simp only [List.length_cons]
    omega
theorem laB_len {l : La} (h : laB l = true) : l.es.length ≤ 8 := by
  obtain ⟨⟨h1, h2⟩, _⟩ := laB_iff.1 h
  have := asc_len (xs := l.es.map Lb.k) (lo := 0) (hi := 7) (by rw [List.pairwise_map]; exact h2) (fun x hx => by
    obtain ⟨e, he, rfl⟩ := List.mem_map.1 hx
    exact (h1 e he).1) (by omega)
  rw [List.length_map] at this
  omega
theorem db_len {db : List La} (hs : Srt db) (hv : ∀ x ∈ db, laB x = true) : db.length ≤ 8 := by
  have := asc_len (xs := db.map La.o) (lo := 0) (hi := 7) (srt_map hs) (fun x hx => by
    obtain ⟨l, hl, rfl⟩ := List.mem_map.1 hx
    exact (laB_rng (hv l hl)).1) (by omega)
  rw [List.length_map] at this
  omega
theorem datL_all {zs : List Lz} {P : La → Prop} (h : ∀ d ∈ datL zs, P d) : ∀ z ∈ zs, P z.d := fun z hz => h z.d (List.mem_map.2 ⟨z, hz, rfl⟩)
/-- A valid list is short, and so are its announcements. -/
theorem db_short {zs : List Lz} (h : dbB (datL zs) = true) : zs.length ≤ 8 ∧ ∀ z ∈ zs, z.es.length ≤ 8 := by
  obtain ⟨hv, hs⟩ := dbB_inv h
  have := db_len hs hv
  exact ⟨by simpa [datL] using this, fun z hz => laB_len (datL_all hv z hz)⟩

def putD (db : List La) (l : La) : List La := if dbB db && laB l then putL db l else []
def putN (db : List La) (l : La) : Int := if dbB db && laB l then putC db l else 3

set_option maxRecDepth 100000 in
set_option maxHeartbeats 1600000 in
theorem dbPut_spec (A : Option Addr) (zs : List Lz) (c : Nat) (l : Lz) (w : World) (hm : zs.length ≤ 1000000) (hes : ∀ z ∈ zs, z.es.length ≤ 2000000) (hle : l.es.length ≤ 2000000) (hS : Slz w w.heap.size A zs) (hL : Slb w w.heap.size l.A l.es) :
   Calls Try.prog 57 #[.slice A zs.length c, l.v] w (PutZ (putD (datL zs) l.d) (putN (datL zs) l.d) w) := by
  have S0 := Lib.hid (show ST w l.o l.q l.A l.es.length l.c (w.alloc (.cells #[.int .i64 l.o, .int .i64 l.q, .slice l.A l.es.length l.c] 49)) from ⟨by (repeat (first | exact Below.refl _ _ | (refine Below.alloc ?_ (by first | exact Nat.le_refl _ | omega | (simp; done) | (simp; omega)) _) | (refine Below.setCell ?_ (by first | exact Nat.le_refl _ | omega | (simp; done) | (simp; omega)) _) | exact Below.drew ‹_›)), Box.new w _ _⟩)
  have HS := Lib.hid hS
  have HL := Lib.hid hL
  have CV := fun W (h : Slz W W.heap.size A zs) => dbValid_spec A zs c W (by omega) hes h
  have CL := fun W (h : Slb W W.heap.size l.A l.es) => lsaValid_spec l W hle h
  have CP := fun W (h : Slz W W.heap.size A zs) (h2 : Slb W W.heap.size l.A l.es) => l11put_any A zs c l W hm hes hle h h2
  clear hS hL hes
  cases h1 : dbB (datL zs) with
  | false =>
    rw [h1] at CV
    have HP : Hid (putD (datL zs) l.d = [] ∧ putN (datL zs) l.d = 3) := Lib.hid (by unfold putD putN; rw [h1]; exact ⟨rfl, rfl⟩)
    clear h1
    obtain ⟨lo, lq, les, lA, lc, lg⟩ := l
    dsimp only at *
    go_enter Try.func57, Try.ntmps57
    go_wp2_with fail
    refine (CV _ ((HS.out.below S0.out.bel).more S0.out.bel.size)).mono ?_
    rintro e w1 ⟨rfl, hb1⟩
    have S1 := Lib.hid (S0.out.call hb1)
    clear hb1
    have Z1 := Lib.hid (ZI.start w.heap.size w1 S1.out.bel.size)
    go_wp2_with fail
    go_returns
    exact ⟨[], _, 0, by rw [HP.out.2]; rfl, by rw [HP.out.1]; rfl, Z1.out, S1.out.bel.alloc S1.out.bel.size _⟩
  | true =>
    rw [h1] at CV
    cases h2 : laB l.d with
    | false =>
      rw [h2] at CL
      have HP : Hid (putD (datL zs) l.d = [] ∧ putN (datL zs) l.d = 3) := Lib.hid (by unfold putD putN; rw [h1, h2]; exact ⟨rfl, rfl⟩)
      clear h1 h2
      obtain ⟨lo, lq, les, lA, lc, lg⟩ := l
      dsimp only at *
      go_enter Try.func57, Try.ntmps57
      go_wp2_with fail
      refine (CV _ ((HS.out.below S0.out.bel).more S0.out.bel.size)).mono ?_
      rintro e w1 ⟨rfl, hb1⟩
      have S1 := Lib.hid (S0.out.call hb1)
      clear hb1
      obtain ⟨zl, l0, l1, l2, -, -, -⟩ := S1.out.box.three
      go_wp2_with fail
      refine (CL _ ((HL.out.below S1.out.bel).more S1.out.bel.size)).mono ?_
      rintro e w2 ⟨rfl, hb2⟩
      have S2 := Lib.hid (S1.out.call hb2)
      clear hb2
      have Z2 := Lib.hid (ZI.start w.heap.size w2 S2.out.bel.size)
      go_wp2_with fail
      go_returns
      exact ⟨[], _, 0, by rw [HP.out.2]; rfl, by rw [HP.out.1]; rfl, Z2.out, S2.out.bel.alloc S2.out.bel.size _⟩
    | true =>
      rw [h2] at CL
      have HP : Hid (putD (datL zs) l.d = putL (datL zs) l.d ∧ putN (datL zs) l.d = putC (datL zs) l.d) := Lib.hid (by unfold putD putN; rw [h1, h2]; exact ⟨rfl, rfl⟩)
      clear h1 h2
      obtain ⟨lo, lq, les, lA, lc, lg⟩ := l
      dsimp only at *
      go_enter Try.func57, Try.ntmps57
      go_wp2_with fail
      refine (CV _ ((HS.out.below S0.out.bel).more S0.out.bel.size)).mono ?_
      rintro e w1 ⟨rfl, hb1⟩
      have S1 := Lib.hid (S0.out.call hb1)
      clear hb1
      obtain ⟨zl, l0, l1, l2, -, -, -⟩ := S1.out.box.three
      go_wp2_with fail
      refine (CL _ ((HL.out.below S1.out.bel).more S1.out.bel.size)).mono ?_
      rintro e w2 ⟨rfl, hb2⟩
      have S2 := Lib.hid (S1.out.call hb2)
      clear hb2 zl l0 l1 l2
      obtain ⟨zl, l0, l1, l2, -, -, -⟩ := S2.out.box.three
      go_wp2_with fail
      refine (CP _ ((HS.out.below S2.out.bel).more S2.out.bel.size) ((HL.out.below S2.out.bel).more S2.out.bel.size)).mono ?_
      rintro e w3 ⟨ys, A3, c3, rfl, hd3, hz3, hb3⟩
      have S3 := Lib.hid (S2.out.call hb3)
      have Z3 := Lib.hid hz3
      have D3 := Lib.hid hd3
      clear hb3 hz3 hd3
      go_wp2_with fail
      go_returns
      exact ⟨ys, A3, c3, by rw [HP.out.2]; rfl, by rw [HP.out.1]; exact D3.out, Z3.out.down S2.out.bel.size, S3.out.bel⟩

set_option maxRecDepth 100000 in
set_option maxHeartbeats 1600000 in
theorem l11merge_any (A : Option Addr) (zs : List Lz) (c : Nat) (B : Option Addr) (os : List Lz) (cb : Nat) (w : World) (hv : dbB (datL zs) = true) (ho : dbB (datL os) = true) (hS : Slz w w.heap.size A zs) (hO : Slz w w.heap.size B os) :
   Calls Try.prog 33 #[.slice A zs.length c, .slice B os.length cb] w (NewZ (mergeL (datL zs) (datL os)) w) := by
  obtain ⟨hz8, hze⟩ := db_short hv
  obtain ⟨ho8, hoe⟩ := db_short ho
  have HO := Lib.hid hO
  have HV := Lib.hid (dbB_inv hv)
  have HW := Lib.hid (dbB_inv ho)
  have HOE := Lib.hid hoe
  have CC := l11copy_any A zs c w (by omega) (fun z hz => by have := hze z hz; omega) hS
  clear hS hO hv ho hze hoe
  go_enter Try.func33, Try.ntmps33
  go_wp2_with fail
  refine CC.mono ?_
  clear CC
  rintro e w1 ⟨ys, A1, c1, rfl, hd1, hz1, hb1⟩
  have Z1 := Lib.hid hz1
  have D1 := Lib.hid hd1
  have B1 := Lib.hid hb1
  clear hz1 hd1 hb1
  go_wp2_with fail
  go_loopw [5, 6] (fun v i wr => ∃ (k : Nat) (A : Option Addr) (c : Nat) (ys : List Lz), v = .slice A ys.length c ∧ k ≤ os.length ∧ i = .int .i64 (k : Int) ∧ Hid (datL ys = mergeL (datL zs) ((datL os).take k)) ∧ ZI w.heap.size v ys wr ∧ Below w.heap.size w wr) (fun _ i _ => os.length - (intOf i).toNat)
  case atStart => exact ⟨0, A1, c1, ys, rfl, Nat.zero_le _, rfl, Lib.hid D1.out, Z1.out, B1.out⟩
  case round =>
    obtain ⟨k, A2, c2, ys, rfl, hk, rfl, HD, hzi, hb⟩ := hrel
    have Z2 := Lib.hid hzi
    have B2 := Lib.hid hb
    have HS2 := Lib.hid (hzi.slz hb.size)
    clear hzi Z1 B1 D1
    by_cases hlt : k < os.length
    · obtain ⟨x, hx⟩ : ∃ x, os[k]? = some x := ⟨_, List.getElem?_eq_getElem hlt⟩
      obtain ⟨b, off, rfl, hbb, hc1, hc2, hc3, hin⟩ := (HO.out.below hb) k x hx
      have hxl := HOE.out x (List.mem_of_getElem? hx)
      have hz := hb.size
      have z1 : b < wr.heap.size := by omega
      have HIN := Lib.hid hin
      have HDN := Lib.hid (datL_next hx)
      have hval : dbB (datL ys) = true := by
        rw [HD.out]
        refine dbB_of (mergeL_val HV.out.2 HV.out.1 (fun x hx => HW.out.1 x (List.mem_of_mem_take hx))) (mergeL_srt HV.out.2)
      obtain ⟨hy8, hye⟩ := db_short hval
      have CP := l11put_any A2 ys c2 x wr (by omega) (fun z hz => by have := hye z hz; omega) (by omega) HS2.out (Slb.more HIN.out hz)
      obtain ⟨zo, zq, zes, zA, zc, zg⟩ := x
      dsimp only at hc1 hc2 hc3 hxl
      clear hx hin hb hval hye
      go_wp2_with fail
      refine CP.mono ?_
      clear CP
      rintro e w3 ⟨ya, A3, c3, rfl, hd3, hz3, hb3⟩
      have B3 := Lib.hid (B2.out.trans (hb3.mono hz))
      have Z3 := Lib.hid (hz3.down hz)
      have D3 := Lib.hid hd3
      clear hb3 hz3 hd3 hc1 hc2 hc3
      go_wp2_with fail
      go_roundw
      case rel => exact ⟨k + 1, A3, c3, ya, rfl, hlt, by go_num, Lib.hid (by
        rw [D3.out, HDN.out, HD.out]
        unfold mergeL
        rw [List.foldl_append]
        rfl), Z3.out, B3.out⟩
      case measure => simp [intOf]; omega
    · obtain rfl : k = os.length := by omega
      clear hb
      go_wp2_with fail
      go_ret
      exact ⟨ys, A2, c2, rfl, by rw [HD.out, show os.length = (datL os).length by simp [datL], List.take_length], Z2.out, B2.out⟩

def mergeD (db other : List La) : List La := if dbB db && dbB other then mergeL db other else []
/-- What DbMerge leaves. -/
def MrgZ (ds : List La) (ok : Bool) (w : World) (e : Ending) (w' : World) : Prop :=
  ∃ (zs : List Lz) (A : Option Addr) (c : Nat), e = .returned (.tuple #[.slice A zs.length c, .bool ok]) ∧ datL zs = ds ∧ ZI w.heap.size (.slice A zs.length c) zs w' ∧ Below w.heap.size w w'

set_option maxRecDepth 100000 in
set_option maxHeartbeats 1600000 in
theorem dbMerge_spec (A : Option Addr) (zs : List Lz) (c : Nat) (B : Option Addr) (os : List Lz) (cb : Nat) (w : World) (hm : zs.length ≤ 1000000) (hes : ∀ z ∈ zs, z.es.length ≤ 2000000) (hmo : os.length ≤ 1000000) (hoe : ∀ z ∈ os, z.es.length ≤ 2000000) (hS : Slz w w.heap.size A zs) (hO : Slz w w.heap.size B os) :
   Calls Try.prog 12 #[.slice A zs.length c, .slice B os.length cb] w (MrgZ (mergeD (datL zs) (datL os)) (dbB (datL zs) && dbB (datL os)) w) := by
  have HS := Lib.hid hS
  have HO := Lib.hid hO
  have CV := fun W (h : Slz W W.heap.size A zs) => dbValid_spec A zs c W (by omega) hes h
  have CW := fun W (h : Slz W W.heap.size B os) => dbValid_spec B os cb W (by omega) hoe h
  have CM := fun (h1 : dbB (datL zs) = true) (h2 : dbB (datL os) = true) W (h : Slz W W.heap.size A zs) (h' : Slz W W.heap.size B os) => l11merge_any A zs c B os cb W h1 h2 h h'
  clear hS hO hes hoe
  cases h1 : dbB (datL zs) with
  | false =>
    rw [h1] at CV
    have HP : Hid (mergeD (datL zs) (datL os) = []) := Lib.hid (by unfold mergeD; rw [h1]; rfl)
    clear h1 CM
    go_enter Try.func12, Try.ntmps12
    go_wp2_with fail
    refine (CV w HS.out).mono ?_
    rintro e w1 ⟨rfl, hb1⟩
    have B1 := Lib.hid hb1
    clear hb1
    have Z1 := Lib.hid (ZI.start w.heap.size w1 B1.out.size)
    go_wp2_with fail
    go_returns
    exact ⟨[], _, 0, rfl, by rw [HP.out]; rfl, Z1.out, B1.out.alloc B1.out.size _⟩
  | true =>
    rw [h1] at CV
    cases h2 : dbB (datL os) with
    | false =>
      rw [h2] at CW
      have HP : Hid (mergeD (datL zs) (datL os) = []) := Lib.hid (by unfold mergeD; rw [h1, h2]; rfl)
      clear h1 h2 CM
      go_enter Try.func12, Try.ntmps12
      go_wp2_with fail
      refine (CV w HS.out).mono ?_
      rintro e w1 ⟨rfl, hb1⟩
      have B1 := Lib.hid hb1
      clear hb1
      go_wp2_with fail
      refine (CW w1 ((HO.out.below B1.out).more B1.out.size)).mono ?_
      rintro e w2 ⟨rfl, hb2⟩
      have B2 := Lib.hid (B1.out.trans (hb2.mono B1.out.size))
      clear hb2
      have Z2 := Lib.hid (ZI.start w.heap.size w2 B2.out.size)
      go_wp2_with fail
      go_returns
      exact ⟨[], _, 0, rfl, by rw [HP.out]; rfl, Z2.out, B2.out.alloc B2.out.size _⟩
    | true =>
      rw [h2] at CW
      have HP : Hid (mergeD (datL zs) (datL os) = mergeL (datL zs) (datL os)) := Lib.hid (by unfold mergeD; rw [h1, h2]; rfl)
      have CM := CM h1 h2
      clear h1 h2
      go_enter Try.func12, Try.ntmps12
      go_wp2_with fail
      refine (CV w HS.out).mono ?_
      rintro e w1 ⟨rfl, hb1⟩
      have B1 := Lib.hid hb1
      clear hb1
      go_wp2_with fail
      refine (CW w1 ((HO.out.below B1.out).more B1.out.size)).mono ?_
      rintro e w2 ⟨rfl, hb2⟩
      have B2 := Lib.hid (B1.out.trans (hb2.mono B1.out.size))
      clear hb2
      go_wp2_with fail
      refine (CM w2 ((HS.out.below B2.out).more B2.out.size) ((HO.out.below B2.out).more B2.out.size)).mono ?_
      rintro e w3 ⟨ys, A3, c3, rfl, hd3, hz3, hb3⟩
      have B3 := Lib.hid (B2.out.trans (hb3.mono B2.out.size))
      have Z3 := Lib.hid hz3
      have D3 := Lib.hid hd3
      clear hb3 hz3 hd3
      go_wp2_with fail
      go_returns
      exact ⟨ys, A3, c3, rfl, by rw [HP.out]; exact D3.out, Z3.out.down B2.out.size, B3.out⟩

end Go.Proofs.Ytimebipgiicmiab
