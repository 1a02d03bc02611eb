/-
  Contracts over this seat: the program's DbMerge.
-/
import Derived.Test.YtimebipgiicmiabIp
import Derived.Test.YtimebipgiicmiabZg
namespace Go.Proofs.Ytimebipgiicmiab
open Go.RowKit Go.Maps

theorem mergeL_snoc (db : List La) (l : La) (r : List La) : mergeL db (r ++ [l]) = putL (mergeL db r) l := by
  unfold mergeL
  rw [List.foldl_append]
  rfl
/-- The map when k announcements of the other list have been put. -/
structure MrgM (zs os : List Lz) (k : Nat) (f : Int → Option Lz) : Prop where
  org : OrgM f
  slm : ∀ {W : World} {A B : Option Addr}, Slz W W.heap.size A zs → Slz W W.heap.size B os → (∀ z ∈ zs, z.es.length ≤ 2000000) → (∀ z ∈ os, z.es.length ≤ 2000000) → SlM W W.heap.size f
  get : ∀ o, (f o).map Lz.d = getL (mergeL (datL zs) ((datL os).take k)) o
theorem MrgM.start {zs os : List Lz} (hv : dbB (datL zs) = true) : MrgM zs os 0 (findZ zs) := ⟨findZ_org hv, fun h _ hz _ => slM_find h hz, fun o => findZ_map zs o⟩
theorem MrgM.step {zs os : List Lz} {k : Nat} {f : Int → Option Lz} {z : Lz} (h : MrgM zs os k f) (hz : os[k]? = some z) (ho : 0 ≤ z.o ∧ z.o ≤ 7) (hv : dbB (datL zs) = true) : MrgM zs os (k + 1) (putM f z) := by
  refine ⟨putM_org h.org ho, fun h1 h2 h3 h4 => ?_, fun o => ?_⟩
  · obtain ⟨b, off, -, -, -, -, -, hs⟩ := h2 k z hz
    exact slM_put (h.slm h1 h2 h3 h4) hs (h4 z (List.mem_of_getElem? hz))
  · rw [datL_next hz, mergeL_snoc]
    exact putM_get h.get (mergeL_srt (dbB_inv hv).2) z o

set_option maxRecDepth 100000 in
set_option maxHeartbeats 1600000 in
theorem dbMerge_impl (A : Option Addr) (zs : List Lz) (c : Nat) (B : Option Addr) (os : List Lz) (cb : Nat) (w : World) (hm : zs.length ≤ 1000000) (hes : ∀ z ∈ zs, z.es.length ≤ 2000000) (hmo : os.length ≤ 1000000) (hoe : ∀ z ∈ os, z.es.length ≤ 2000000) (hS : Slz w w.heap.size A zs) (hO : Slz w w.heap.size B os) :
   Calls Try.prog 14 #[.slice A zs.length c, .slice B os.length cb] w (MrgZ (mergeD (datL zs) (datL os)) (dbB (datL zs) && dbB (datL os)) w) := by
  have HS := Lib.hid hS
  have HO := Lib.hid hO
  have CV := fun W (h : Slz W W.heap.size A zs) => dbValid_impl A zs c W (by omega) hes h
  have CW := fun W (h : Slz W W.heap.size B os) => dbValid_impl B os cb W (by omega) hoe h
  have HES := Lib.hid hes
  have HOE := Lib.hid hoe
  clear hS hO hes hoe
  cases h1 : dbB (datL zs) with
  | false =>
    rw [h1] at CV
    have HP : Hid (mergeD (datL zs) (datL os) = []) := Lib.hid (by unfold mergeD; rw [h1]; rfl)
    clear h1
    go_enter Try.func14, Try.ntmps14
    go_wp2_with fail
    refine (CV w HS.out).mono ?_
    rintro e w1 ⟨rfl, hb1⟩
    have B1 := Lib.hid hb1
    clear hb1
    have Z1 := Lib.hid (ZI.start w.heap.size w1 B1.out.size)
    go_wp2_with fail
    go_returns
    exact ⟨[], _, 0, rfl, by rw [HP.out]; rfl, Z1.out, B1.out.alloc B1.out.size _⟩
  | true =>
    rw [h1] at CV
    cases h2 : dbB (datL os) with
    | false =>
      rw [h2] at CW
      have HP : Hid (mergeD (datL zs) (datL os) = []) := Lib.hid (by unfold mergeD; rw [h1, h2]; rfl)
      clear h1 h2
      go_enter Try.func14, Try.ntmps14
      go_wp2_with fail
      refine (CV w HS.out).mono ?_
      rintro e w1 ⟨rfl, hb1⟩
      have B1 := Lib.hid hb1
      clear hb1
      go_wp2_with fail
      refine (CW w1 ((HO.out.below B1.out).more B1.out.size)).mono ?_
      rintro e w2 ⟨rfl, hb2⟩
      have B2 := Lib.hid (B1.out.trans (hb2.mono B1.out.size))
      clear hb2
      have Z2 := Lib.hid (ZI.start w.heap.size w2 B2.out.size)
      go_wp2_with fail
      go_returns
      exact ⟨[], _, 0, rfl, by rw [HP.out]; rfl, Z2.out, B2.out.alloc B2.out.size _⟩
    | true =>
      rw [h2] at CW
      have HP : Hid (mergeD (datL zs) (datL os) = mergeL (datL zs) (datL os)) := Lib.hid (by unfold mergeD; rw [h1, h2]; rfl)
      have CO := fun W (h : Slz W W.heap.size A zs) => databaseOf_any A zs c W (by omega) h1 h
      have HV1 := Lib.hid h1
      have HV2 := Lib.hid h2
      have hls := (db_short h1).1
      have hlo := (db_short h2).1
      have HR : Hid (∀ (k : Nat) (z : Lz), os[k]? = some z → 0 ≤ z.o ∧ z.o ≤ 7) := Lib.hid (fun k z hz => (laB_rng ((dbB_inv h2).1 z.d (List.mem_map.2 ⟨z, List.mem_of_getElem? hz, rfl⟩))).1)
      clear h1 h2
      go_enter Try.func14, Try.ntmps14
      go_wp2_with fail
      refine (CV w HS.out).mono ?_
      rintro e w1 ⟨rfl, hb1⟩
      have B1 := Lib.hid hb1
      clear hb1
      go_wp2_with fail
      refine (CW w1 ((HO.out.below B1.out).more B1.out.size)).mono ?_
      rintro e w2 ⟨rfl, hb2⟩
      have B2 := Lib.hid (B1.out.trans (hb2.mono B1.out.size))
      clear hb2
      go_wp2_with fail
      refine (CO w2 ((HS.out.below B2.out).more B2.out.size)).mono ?_
      clear CO CV CW
      rintro e w3 ⟨b, rfl, hbb, hm3, hb3⟩
      have B3 := Lib.hid (B2.out.trans (hb3.mono B2.out.size))
      have HB := Lib.hid (Nat.le_trans B2.out.size hbb)
      have M3 := Lib.hid hm3
      clear hb3 hm3 hbb B1 B2
      go_wp2_with fail
      go_loopw [22] (fun i wr => ∃ k : Nat, k ≤ os.length ∧ i = .int .i64 (k : Int) ∧ Hid (∃ f, MrgM zs os k f ∧ OwnM wr b (zs.length + k) f) ∧ Hid (Below w.heap.size w wr)) (fun i _ => os.length - (intOf i).toNat)
      case atStart => exact ⟨0, Nat.zero_le _, rfl, Lib.hid ⟨_, MrgM.start HV1.out, M3.out⟩, B3⟩
      case round =>
        obtain ⟨k, hk, rfl, HM, B4⟩ := hrel
        clear M3 B3
        by_cases hlt : k < os.length
        · obtain ⟨f, hf, hm⟩ := HM.out
          obtain ⟨z, hz⟩ : ∃ x, os[k]? = some x := ⟨_, List.getElem?_eq_getElem hlt⟩
          obtain ⟨bb, off, rfl, hbb, hc1, hc2, hc3, -⟩ := (HO.out.below B4.out) k z hz
          have hsz := B4.out.size
          have zb : bb < wr.heap.size := by omega
          have ho := HR.out k z hz
          have HF := Lib.hid (hf.step hz ho HV1.out)
          have X0 := Lib.hid (Box.new wr 49 #[.int .i64 z.o, .int .i64 z.q, .slice z.A z.es.length z.c])
          have hb5 : Below wr.heap.size wr (wr.alloc (.cells #[.int .i64 z.o, .int .i64 z.q, .slice z.A z.es.length z.c] 49)) := by (repeat (first | exact Below.refl _ _ | (refine Below.alloc ?_ (by first | exact Nat.le_refl _ | omega | (simp; done) | (simp; omega)) _) | (refine Below.setCell ?_ (by first | exact Nat.le_refl _ | omega | (simp; done) | (simp; omega)) _) | exact Below.drew ‹_›))
          have CP := put_any b (zs.length + k) f z (wr.alloc (.cells #[.int .i64 z.o, .int .i64 z.q, .slice z.A z.es.length z.c] 49)) ho (by omega) (hm.call hb5)
          have B5 := Lib.hid (B4.out.trans (hb5.mono hsz))
          obtain ⟨zo, zq, zes, zA, zc, zg⟩ := z
          dsimp only at *
          clear hz hf hm hb5 HM ho
          go_wp2_with fail
          refine CP.mono ?_
          clear CP
          rintro e w6 ⟨rfl, hm6, hg6⟩
          have B6 := Lib.hid (B5.out.grown hg6 B5.out.size (fun j e => by cases e; exact HB.out))
          have M6 : Hid (∃ f, MrgM zs os (k + 1) f ∧ OwnM w6 b (zs.length + (k + 1)) f) := Lib.hid ⟨_, HF.out, hm6⟩
          clear hm6 hg6 HF
          go_wp2_with fail
          go_roundw
          case rel => exact ⟨k + 1, hlt, by go_num, M6, B6⟩
          case measure => simp [intOf]; omega
        · obtain rfl : k = os.length := by omega
          obtain ⟨f, hf, hm⟩ := HM.out
          obtain ⟨hO, hS5, hg⟩ := hf
          have CX := list_any b (zs.length + os.length) f (mergeL (datL zs) (datL os)) wr (by omega) hO hm (hS5 ((HS.out.below B4.out).more B4.out.size) ((HO.out.below B4.out).more B4.out.size) HES.out HOE.out) (mergeL_srt (dbB_inv HV1.out).2) (by have := hg; rwa [show (datL os).take os.length = datL os by rw [show os.length = (datL os).length by simp [datL], List.take_length]] at this)
          clear hO hS5 hg hm HM
          go_wp2_with fail
          refine CX.mono ?_
          clear CX
          rintro e w5 ⟨ys, A3, c3, rfl, hd3, hz3, hb3⟩
          have B5 := Lib.hid (B4.out.trans (hb3.mono B4.out.size))
          have Z5 := Lib.hid hz3
          have D5 := Lib.hid hd3
          clear hb3 hz3 hd3
          go_wp2_with fail
          go_returns
          exact ⟨ys, A3, c3, rfl, by rw [HP.out]; exact D5.out, Z5.out.down B4.out.size, B5.out⟩

end Go.Proofs.Ytimebipgiicmiab
