/-
  Contracts over this seat: the program's DbPut.
-/
import Derived.Test.YtnkohgdfipgdoabIl
import Derived.Test.YtnkohgdfipgdoabZd
import Derived.Handy
import Derived.Test.YtnkohgdfipgdoabZg
namespace Go.Proofs.Ytnkohgdfipgdoab
open Go.RowKit Go.Maps

theorem findZ_map (zs : List Lz) (o : Int) : (findZ zs o).map Lz.d = getL (datL zs) o := (findZ_get zs o).symm
theorem cmpM_putC {f : Int → Option Lz} {db : List La} (hf : ∀ o, (f o).map Lz.d = getL db o) (z : Lz) : cmpM f z = putC db z.d := by
  have e : getL db z.d.o = (f z.o).map Lz.d := (hf z.o).symm
  unfold cmpM putC
  rw [e]
  cases f z.o with
  | none => rfl
  | some x =>
    dsimp only [Option.map_some]
    repeat' split
    all_goals first | rfl | omega
theorem slM_find {W : World} {B : Nat} {A : Option Addr} {zs : List Lz} (h : Slz W B A zs) (hes : ∀ z ∈ zs, z.es.length ≤ 2000000) : SlM W B (findZ zs) := fun o z hz => by
  obtain ⟨h1, -⟩ := findZ_at hz
  obtain ⟨k, hk⟩ := List.getElem?_of_mem h1
  obtain ⟨b, off, -, -, -, -, -, h2⟩ := h k z hk
  exact ⟨hes z h1, h2⟩
theorem slM_put {W : World} {B : Nat} {f : Int → Option Lz} {z : Lz} (h : SlM W B f) (hz : Slb W B z.A z.es) (hl : z.es.length ≤ 2000000) : SlM W B (putM f z) := fun o x hx => by
  rcases putM_mem hx with rfl | hx
  · exact ⟨hl, hz⟩
  · exact h o x hx


end Go.Proofs.Ytnkohgdfipgdoab

/-
  Contracts over this seat: the program's DbMerge.
-/
namespace Go.Proofs.Ytnkohgdfipgdoab
open Go.RowKit Go.Maps

theorem mergeL_snoc (db : List La) (l : La) (r : List La) : mergeL db (r ++ [l]) = putL (mergeL db r) l := by
  unfold mergeL
  rw [List.foldl_append]
  rfl
/-- The map when k announcements of the other list have been put. -/
structure MrgM (zs os : List Lz) (k : Nat) (f : Int → Option Lz) : Prop where
  org : OrgM f
  slm : ∀ {W : World} {A B : Option Addr}, Slz W W.heap.size A zs → Slz W W.heap.size B os → (∀ z ∈ zs, z.es.length ≤ 2000000) → (∀ z ∈ os, z.es.length ≤ 2000000) → SlM W W.heap.size f
  get : ∀ o, (f o).map Lz.d = getL (mergeL (datL zs) ((datL os).take k)) o
theorem MrgM.start {zs os : List Lz} (hv : dbB (datL zs) = true) : MrgM zs os 0 (findZ zs) := ⟨findZ_org hv, fun h _ hz _ => slM_find h hz, fun o => findZ_map zs o⟩
theorem MrgM.step {zs os : List Lz} {k : Nat} {f : Int → Option Lz} {z : Lz} (h : MrgM zs os k f) (hz : os[k]? = some z) (ho : 0 ≤ z.o ∧ z.o ≤ 7) (hv : dbB (datL zs) = true) : MrgM zs os (k + 1) (putM f z) := by
  refine ⟨putM_org h.org ho, fun h1 h2 h3 h4 => ?_, fun o => ?_⟩
  · obtain ⟨b, off, -, -, -, -, -, hs⟩ := h2 k z hz
    exact slM_put (h.slm h1 h2 h3 h4) hs (h4 z (List.mem_of_getElem? hz))
  · rw [datL_next hz, mergeL_snoc]
    exact putM_get h.get (mergeL_srt (dbB_inv hv).2) z o

set_option maxRecDepth 100000 in
set_option maxHeartbeats 1600000 in
theorem dbMerge_impl (A : Option Addr) (zs : List Lz) (c : Nat) (B : Option Addr) (os : List Lz) (cb : Nat) (w : World) (hm : zs.length ≤ 1000000) (hes : ∀ z ∈ zs, z.es.length ≤ 2000000) (hmo : os.length ≤ 1000000) (hoe : ∀ z ∈ os, z.es.length ≤ 2000000) (hS : Slz w w.heap.size A zs) (hO : Slz w w.heap.size B os) :
   Calls Try.prog 20 #[.slice A zs.length c, .slice B os.length cb] w (MrgZ (mergeD (datL zs) (datL os)) (dbB (datL zs) && dbB (datL os)) w) := by
  have HS := Lib.hid hS
  have HO := Lib.hid hO
  have CV := fun W (h : Slz W W.heap.size A zs) => dbValid_impl A zs c W (by omega) hes h
  have CW := fun W (h : Slz W W.heap.size B os) => dbValid_impl B os cb W (by omega) hoe h
  have HES := Lib.hid hes
  have HOE := Lib.hid hoe
  clear hS hO hes hoe
  cases h1 : dbB (datL zs) with
  | false =>
    rw [h1] at CV
    have HP : Hid (mergeD (datL zs) (datL os) = []) := Lib.hid (by unfold mergeD; rw [h1]; rfl)
    clear h1
    go_enter Try.func20, Try.ntmps20
    go_wp2_with fail
    refine (CV w HS.out).mono ?_
    rintro e w1 ⟨rfl, hb1⟩
    have B1 := Lib.hid hb1
    clear hb1
    have Z1 := Lib.hid (ZI.start w.heap.size w1 B1.out.size)
    go_wp2_with fail
    go_returns
    exact ⟨[], _, 0, rfl, by rw [HP.out]; rfl, Z1.out, B1.out.alloc B1.out.size _⟩
  | true =>
    rw [h1] at CV
    cases h2 : dbB (datL os) with
    | false =>
      rw [h2] at CW
      have HP : Hid (mergeD (datL zs) (datL os) = []) := Lib.hid (by unfold mergeD; rw [h1, h2]; rfl)
      clear h1 h2
      go_enter Try.func20, Try.ntmps20
      go_wp2_with fail
      refine (CV w HS.out).mono ?_
      rintro e w1 ⟨rfl, hb1⟩
      have B1 := Lib.hid hb1
      clear hb1
      go_wp2_with fail
      refine (CW w1 ((HO.out.below B1.out).more B1.out.size)).mono ?_
      rintro e w2 ⟨rfl, hb2⟩
      have B2 := Lib.hid (B1.out.trans (hb2.mono B1.out.size))
      clear hb2
      have Z2 := Lib.hid (ZI.start w.heap.size w2 B2.out.size)
      go_wp2_with fail
      go_returns
      exact ⟨[], _, 0, rfl, by rw [HP.out]; rfl, Z2.out, B2.out.alloc B2.out.size _⟩
    | true =>
      rw [h2] at CW
      have HP : Hid (mergeD (datL zs) (datL os) = mergeL (datL zs) (datL os)) := Lib.hid (by unfold mergeD; rw [h1, h2]; rfl)
      have CO := fun W (h : Slz W W.heap.size A zs) => databaseOf_any A zs c W (by omega) h1 h
      have HV1 := Lib.hid h1
      have HV2 := Lib.hid h2
      have hls := (db_short h1).1
      have hlo := (db_short h2).1
      have HR : Hid (∀ (k : Nat) (z : Lz), os[k]? = some z → 0 ≤ z.o ∧ z.o ≤ 7) := Lib.hid (fun k z hz => (laB_rng ((dbB_inv h2).1 z.d (List.mem_map.2 ⟨z, List.mem_of_getElem? hz, rfl⟩))).1)
      clear h1 h2
      go_enter Try.func20, Try.ntmps20
      go_wp2_with fail
      refine (CV w HS.out).mono ?_
      rintro e w1 ⟨rfl, hb1⟩
      have B1 := Lib.hid hb1
      clear hb1
      go_wp2_with fail
      refine (CW w1 ((HO.out.below B1.out).more B1.out.size)).mono ?_
      rintro e w2 ⟨rfl, hb2⟩
      have B2 := Lib.hid (B1.out.trans (hb2.mono B1.out.size))
      clear hb2
      go_wp2_with fail
      refine (CO w2 ((HS.out.below B2.out).more B2.out.size)).mono ?_
      clear CO CV CW
      rintro e w3 ⟨b, rfl, hbb, hm3, hb3⟩
      have B3 := Lib.hid (B2.out.trans (hb3.mono B2.out.size))
      have HB := Lib.hid (Nat.le_trans B2.out.size hbb)
      have M3 := Lib.hid hm3
      clear hb3 hm3 hbb B1 B2
      go_wp2_with fail
      go_loopw [22] (fun i wr => ∃ k : Nat, k ≤ os.length ∧ i = .int .i64 (k : Int) ∧ Hid (∃ f, MrgM zs os k f ∧ OwnM wr b (zs.length + k) f) ∧ Hid (Below w.heap.size w wr)) (fun i _ => os.length - (intOf i).toNat)
      case atStart => exact ⟨0, Nat.zero_le _, rfl, Lib.hid ⟨_, MrgM.start HV1.out, M3.out⟩, B3⟩
      case round =>
        obtain ⟨k, hk, rfl, HM, B4⟩ := hrel
        clear M3 B3
        by_cases hlt : k < os.length
        · obtain ⟨f, hf, hm⟩ := HM.out
          obtain ⟨z, hz⟩ : ∃ x, os[k]? = some x := ⟨_, List.getElem?_eq_getElem hlt⟩
          obtain ⟨bb, off, rfl, hbb, hc1, hc2, hc3, -⟩ := (HO.out.below B4.out) k z hz
          have hsz := B4.out.size
          have zb : bb < wr.heap.size := by omega
          have ho := HR.out k z hz
          have HF := Lib.hid (hf.step hz ho HV1.out)
          have X0 := Lib.hid (Box.new wr 54 #[.int .i64 z.o, .int .i64 z.q, .slice z.A z.es.length z.c])
          have hb5 : Below wr.heap.size wr (wr.alloc (.cells #[.int .i64 z.o, .int .i64 z.q, .slice z.A z.es.length z.c] 54)) := by (repeat (first | exact Below.refl _ _ | (refine Below.alloc ?_ (by first | exact Nat.le_refl _ | omega | (simp; done) | (simp; omega)) _) | (refine Below.setCell ?_ (by first | exact Nat.le_refl _ | omega | (simp; done) | (simp; omega)) _) | exact Below.drew ‹_›))
          have CP := put_any b (zs.length + k) f z (wr.alloc (.cells #[.int .i64 z.o, .int .i64 z.q, .slice z.A z.es.length z.c] 54)) ho (by omega) (hm.call hb5)
          have B5 := Lib.hid (B4.out.trans (hb5.mono hsz))
          obtain ⟨zo, zq, zes, zA, zc, zg⟩ := z
          dsimp only at *
          clear hz hf hm hb5 HM ho
          go_wp2_with fail
          refine CP.mono ?_
          clear CP
          rintro e w6 ⟨rfl, hm6, hg6⟩
          have B6 := Lib.hid (B5.out.grown hg6 B5.out.size (fun j e => by cases e; exact HB.out))
          have M6 : Hid (∃ f, MrgM zs os (k + 1) f ∧ OwnM w6 b (zs.length + (k + 1)) f) := Lib.hid ⟨_, HF.out, hm6⟩
          clear hm6 hg6 HF
          go_wp2_with fail
          go_roundw
          case rel => exact ⟨k + 1, hlt, by go_num, M6, B6⟩
          case measure => simp [intOf]; omega
        · obtain rfl : k = os.length := by omega
          obtain ⟨f, hf, hm⟩ := HM.out
          obtain ⟨hO, hS5, hg⟩ := hf
          have CX := list_any b (zs.length + os.length) f (mergeL (datL zs) (datL os)) wr (by omega) hO hm (hS5 ((HS.out.below B4.out).more B4.out.size) ((HO.out.below B4.out).more B4.out.size) HES.out HOE.out) (mergeL_srt (dbB_inv HV1.out).2) (by have := hg; rwa [show (datL os).take os.length = datL os by rw [show os.length = (datL os).length by simp [datL], List.take_length]] at this)
          clear hO hS5 hg hm HM
          go_wp2_with fail
          refine CX.mono ?_
          clear CX
          rintro e w5 ⟨ys, A3, c3, rfl, hd3, hz3, hb3⟩
          have B5 := Lib.hid (B4.out.trans (hb3.mono B4.out.size))
          have Z5 := Lib.hid hz3
          have D5 := Lib.hid hd3
          clear hb3 hz3 hd3
          go_wp2_with fail
          go_returns
          exact ⟨ys, A3, c3, rfl, by rw [HP.out]; exact D5.out, Z5.out.down B4.out.size, B5.out⟩

end Go.Proofs.Ytnkohgdfipgdoab

/-
  Contracts over this seat: the program's DbMissing.
-/
namespace Go.Proofs.Ytnkohgdfipgdoab
open Go.RowKit Go.Maps

theorem cmpM_miss (zs : List Lz) (z : Lz) : missB (datL zs) z.d = decide (cmpM (findZ zs) z = 0) := by
  have h := missB_find zs z
  rw [h]
  unfold cmpM
  cases findZ zs z.o with
  | none => rfl
  | some x =>
    rw [Bool.eq_iff_iff, decide_eq_true_eq, decide_eq_true_eq]
    dsimp only
    constructor
    · intro h; rw [if_pos h]
    · intro h
      by_cases hq : x.q < z.q
      · exact hq
      · rw [if_neg hq] at h
        split at h <;> omega

set_option maxRecDepth 100000 in
set_option maxHeartbeats 1600000 in
theorem dbMissing_impl (A : Option Addr) (zs : List Lz) (c : Nat) (B : Option Addr) (os : List Lz) (cb : Nat) (w : World) (hm : zs.length ≤ 1000000) (hes : ∀ z ∈ zs, z.es.length ≤ 2000000) (hmo : os.length ≤ 1000000) (hoe : ∀ z ∈ os, z.es.length ≤ 2000000) (hS : Slz w w.heap.size A zs) (hO : Slz w w.heap.size B os) :
   Calls Try.prog 19 #[.slice A zs.length c, .slice B os.length cb] w (NewI (missD (datL zs) (datL os)) w) := by
  obtain ⟨i0, hi, hz0, hz10, hz20⟩ := info_parts infoInt
  have HS := Lib.hid hS
  have HO := Lib.hid hO
  have CV := fun W (h : Slz W W.heap.size A zs) => dbValid_impl A zs c W (by omega) hes h
  have CW := fun W (h : Slz W W.heap.size B os) => dbValid_impl B os cb W (by omega) hoe h
  have Q0 := Lib.hid (show QI w (.slice (some ⟨w.heap.size, 0, none⟩) 0 0) [] (w.alloc (.cells #[] 3)) from ⟨⟨by simp, .inr ⟨w.heap.size, 0, #[], rfl, Nat.le_refl _, Box.new w 3 #[], Nat.le_refl _, by omega, rfl, by simp⟩⟩, by (repeat (first | exact Below.refl _ _ | (refine Below.alloc ?_ (by first | exact Nat.le_refl _ | omega | (simp; done) | (simp; omega)) _) | (refine Below.setCell ?_ (by first | exact Nat.le_refl _ | omega | (simp; done) | (simp; omega)) _) | exact Below.drew ‹_›))⟩)
  clear hS hO hes hoe
  go_enter Try.func19, Try.ntmps19
  go_wp2_with fail
  cases h1 : dbB (datL zs) with
  | false =>
    rw [h1] at CV
    have HP : Hid (missD (datL zs) (datL os) = []) := Lib.hid (by unfold missD; rw [h1]; rfl)
    clear h1 CW
    refine (CV _ ((HS.out.below Q0.out.bel).more Q0.out.bel.size)).mono ?_
    rintro e w1 ⟨rfl, hb1⟩
    have Q1 := Lib.hid (Q0.out.call hb1)
    clear hb1 CV
    go_wp2_with fail
    have hfin := Q1.out.done
    go_ret
    rw [HP.out]
    exact hfin
  | true =>
    rw [h1] at CV
    refine (CV _ ((HS.out.below Q0.out.bel).more Q0.out.bel.size)).mono ?_
    rintro e w1 ⟨rfl, hb1⟩
    have Q1 := Lib.hid (Q0.out.call hb1)
    clear hb1 CV Q0
    cases h2 : dbB (datL os) with
    | false =>
      rw [h2] at CW
      have HP : Hid (missD (datL zs) (datL os) = []) := Lib.hid (by unfold missD; rw [h1, h2]; rfl)
      clear h1 h2
      go_wp2_with fail
      refine (CW w1 ((HO.out.below Q1.out.bel).more Q1.out.bel.size)).mono ?_
      rintro e w2 ⟨rfl, hb2⟩
      have Q2 := Lib.hid (Q1.out.call hb2)
      clear hb2
      go_wp2_with fail
      have hfin := Q2.out.done
      go_ret
      rw [HP.out]
      exact hfin
    | true =>
      rw [h2] at CW
      have HP : Hid (missD (datL zs) (datL os) = missL (datL zs) (datL os)) := Lib.hid (by unfold missD; rw [h1, h2]; rfl)
      have CO := fun W (h : Slz W W.heap.size A zs) => databaseOf_any A zs c W (by omega) h1 h
      have hls := (db_short h1).1
      have hlo := (db_short h2).1
      have HR : Hid (∀ (k : Nat) (z : Lz), os[k]? = some z → 0 ≤ z.o ∧ z.o ≤ 7) := Lib.hid (fun k z hz => (laB_rng ((dbB_inv h2).1 z.d (List.mem_map.2 ⟨z, List.mem_of_getElem? hz, rfl⟩))).1)
      clear h1 h2
      go_wp2_with fail
      refine (CW w1 ((HO.out.below Q1.out.bel).more Q1.out.bel.size)).mono ?_
      rintro e w2 ⟨rfl, hb2⟩
      have Q2 := Lib.hid (Q1.out.call hb2)
      clear hb2 Q1 CW
      go_wp2_with fail
      refine (CO w2 ((HS.out.below Q2.out.bel).more Q2.out.bel.size)).mono ?_
      clear CO
      rintro e w3 ⟨b, rfl, hbb, hm3, hb3⟩
      have Q3 := Lib.hid (Q2.out.call hb3)
      have M3 := Lib.hid hm3
      clear hb3 hm3 hbb Q2
      go_wp2_with fail
      go_loopw [23, 5] (fun i v wr => ∃ (k : Nat) (out : List Int), k ≤ os.length ∧ i = .int .i64 (k : Int) ∧ Hid (out = (((datL os).take k).filter (missB (datL zs))).map La.o) ∧ out.length ≤ k ∧ Hid (QI w v out wr) ∧ Hid (OwnM wr b zs.length (findZ zs))) (fun i _ _ => os.length - (intOf i).toNat)
      case atStart => exact ⟨0, [], Nat.zero_le _, rfl, Lib.hid rfl, Nat.le_refl _, Q3, M3⟩
      case round =>
        obtain ⟨k, out, hk, rfl, HD, hok, Q4, M4⟩ := hrel
        clear Q3 M3
        obtain ⟨A9, g9, c9, rfl, -, -, -⟩ := own_slicei Q4.out.row Q4.out.bel.size
        by_cases hlt : k < os.length
        · obtain ⟨z, hz⟩ : ∃ x, os[k]? = some x := ⟨_, List.getElem?_eq_getElem hlt⟩
          obtain ⟨bb, off, rfl, hbb, hc1, hc2, hc3, -⟩ := (HO.out.below Q4.out.bel) k z hz
          have hsz := Q4.out.bel.size
          have zb : bb < wr.heap.size := by omega
          have ho := HR.out k z hz
          have HN := Lib.hid (missL_next (zs := zs) hz)
          have HMB := Lib.hid (cmpM_miss zs z)
          have X0 := Lib.hid (Box.new wr 54 #[.int .i64 z.o, .int .i64 z.q, .slice z.A z.es.length z.c])
          have hb5 : Below wr.heap.size wr (wr.alloc (.cells #[.int .i64 z.o, .int .i64 z.q, .slice z.A z.es.length z.c] 54)) := by (repeat (first | exact Below.refl _ _ | (refine Below.alloc ?_ (by first | exact Nat.le_refl _ | omega | (simp; done) | (simp; omega)) _) | (refine Below.setCell ?_ (by first | exact Nat.le_refl _ | omega | (simp; done) | (simp; omega)) _) | exact Below.drew ‹_›))
          have CP := compare_any b zs.length (findZ zs) z (wr.alloc (.cells #[.int .i64 z.o, .int .i64 z.q, .slice z.A z.es.length z.c] 54)) ho (M4.out.call hb5)
          have Q5 := Lib.hid (Q4.out.call hb5)
          have M5 := Lib.hid (M4.out.call hb5)
          obtain ⟨m, hm⟩ : ∃ m, cmpM (findZ zs) z = m := ⟨_, rfl⟩
          rw [hm] at CP HMB
          obtain ⟨zo, zq, zes, zA, zc, zg⟩ := z
          dsimp only at *
          clear hz hb5 ho hm Q4 M4
          go_wp2_with fail
          refine CP.mono ?_
          clear CP
          rintro e w6 ⟨rfl, hb6⟩
          have Q6 := Lib.hid (Q5.out.call hb6)
          have M6 := Lib.hid (M5.out.call hb6)
          have X6 := Lib.hid (X0.out.below hb6 (by simp))
          clear hb6 Q5 M5 X0 hc1 hc2 hc3 zb
          by_cases hm0 : m = 0
          · have HM : Hid (missB (datL zs) ⟨zo, zq, zes⟩ = true) := Lib.hid (by rw [HMB.out, decide_eq_true hm0])
            have hm' : (m == 0) = true := by simp [hm0]
            obtain ⟨zx, x0, x1, x2, -, -, -⟩ := X6.out.three
            have HG : Hid (∀ {v' : Value} {w9 : World} {ob : Obj}, w9.ownsRow w.heap.size 3 1 v' (out.length + 1) (out.map (Value.int .i64) ++ [.int .i64 zo]) → (w6.alloc ob).grownBy w9 (Value.slice A9 out.length c9).ownBlock → OwnM w9 b zs.length (findZ zs)) := Lib.hid (fun hown hg => by
              refine (M6.out.call ((Below.refl _ _).alloc (Nat.le_refl _) _)).block (hg.block _ (by have := M6.out.lt; simp; omega) (fun e => ?_))
              rcases Q6.out.row.2 with ⟨h0, -⟩ | ⟨g, cap, cur, h0, -, hh, -, -, -, -⟩
              · rw [h0] at e; cases e
              · rw [h0] at e
                have : b = g := Option.some.inj e
                subst this
                obtain ⟨D, ⟨es, ck, hb, -⟩, -⟩ := M6.out
                rw [hb] at hh
                cases hh)
            go_wp2_with (at_builtin; refine wpList_append_own_at _ rfl _ _ 39 rfl w.heap.size 3 i0 _ 1 8 Try.underlying39 hi hz0 hz10 hz20 rfl (by decide) _ out.length _ rfl (owns_kept Q6.out.row ((Below.refl _ _).alloc (Nat.le_refl _) _)) ⟨w6.heap.size, 0, none⟩ 1 1 [.int .i64 zo] rfl rfl (cell_one_new _ _ _) (fun u hu => by simp at hu; subst hu; rfl) (by unfold maxLen; omega) (by omega) (by have := Q6.out.bel.size; simp; omega) ?_; intro v' w9 hown' hgrow hnil hat; have Q9 := Lib.hid (Q6.out.append (x := zo) hown' hgrow); have M9 := Lib.hid (HG.out hown' hgrow); clear hown' hgrow hnil hat)
            go_roundw
            case rel => exact ⟨k + 1, out ++ [zo], hlt, by go_num, Lib.hid (by
              have h1 := HN.out
              rw [if_pos HM.out] at h1
              rw [h1, ← HD.out]), by simp; omega, Q9, M9⟩
            case measure => simp [intOf]; omega
          · have HM : Hid (missB (datL zs) ⟨zo, zq, zes⟩ = false) := Lib.hid (by rw [HMB.out, decide_eq_false hm0])
            have hm' : (m == 0) = false := by simp [hm0]
            go_wp2_with fail
            go_roundw
            case rel => exact ⟨k + 1, out, hlt, by go_num, Lib.hid (by
              have h1 := HN.out
              rw [if_neg (by rw [HM.out]; exact Bool.false_ne_true), List.append_nil] at h1
              rw [h1, ← HD.out]), by omega, Q6, M6⟩
            case measure => simp [intOf]; omega
        · obtain rfl : k = os.length := by omega
          have hout : out = missL (datL zs) (datL os) := by
            rw [HD.out, show os.length = (datL os).length by simp [datL], List.take_length]
            rfl
          have hfin := Q4.out.done
          rw [hout] at hfin
          have HFIN := Lib.hid hfin
          have hlen : (missL (datL zs) (datL os)).length = out.length := by rw [← hout]
          clear hfin
          go_wp2_with fail
          go_ret
          rw [HP.out]
          have h := HFIN.out
          rw [hlen] at h
          exact h

end Go.Proofs.Ytnkohgdfipgdoab
