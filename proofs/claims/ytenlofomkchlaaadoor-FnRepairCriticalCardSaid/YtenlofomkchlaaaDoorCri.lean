/-
  Contracts over this seat: Critical, of the program and of the specification.
-/
import Derived.Test.YtenlofomkchlaaaDoorC2
import Derived.Test.YtenlofomkchlaaaDoorWr
import Derived.Test.YtenlofomkchlaaaDoorWoS
import Derived.Test.YtenlofomkchlaaaDoorCr
import Derived.Test.YtenlofomkchlaaaDoorC1
namespace Go.Proofs.YtenlofomkchlaaaDoor
open Go.RowKit Go.Maps

/-- The critical ones of the first k links. -/
def cTo (n : Int) (ls : List Lk) : Nat → List Int
  | 0 => []
  | k + 1 => cTo n ls k ++ (match ls[k]? with
    | some l => if bf n (ls.eraseIdx k) l.a l.b = -1 then [(k : Int)] else []
    | none => [])
def critL (n : Int) (ls : List Lk) : List Int := if gvB n ls = true then cTo n ls ls.length else []
theorem cTo_len (n : Int) (ls : List Lk) (k : Nat) : (cTo n ls k).length ≤ k := by
  induction k with
  | zero => simp [cTo]
  | succ k ih =>
    simp only [cTo, List.length_append]
    split
    · split <;> simp <;> omega
    · simp; omega
theorem cTo_hit {n : Int} {ls : List Lk} {k : Nat} {l : Lk} (h : ls[k]? = some l) (hd : bf n (ls.eraseIdx k) l.a l.b = -1) : cTo n ls (k + 1) = cTo n ls k ++ [(k : Int)] := by simp [cTo, h, hd]
theorem cTo_miss {n : Int} {ls : List Lk} {k : Nat} {l : Lk} (h : ls[k]? = some l) (hd : bf n (ls.eraseIdx k) l.a l.b ≠ -1) : cTo n ls (k + 1) = cTo n ls k := by simp [cTo, h, hd]
theorem critL_len (n : Int) (ls : List Lk) : (critL n ls).length ≤ 14 := by
  unfold critL
  split
  · rename_i h
    have := (gvB_fit h).2.2.2
    exact Nat.le_trans (cTo_len _ _ _) this
  · simp

theorem PL.start {w W : World} {gv : Array Value} {W0 : World} (hE : Box W0 (w.heap.size + 1) 3 #[]) (hG : Box W0 w.heap.size 25 gv) (hb : Below W0.heap.size W0 W) (hb0 : Below w.heap.size w W0) :
    PL w gv (.slice (some ⟨w.heap.size + 1, 0, none⟩) 0 0) [] W := by
  have z0 := hE.lt
  exact ⟨⟨by simp, .inr ⟨w.heap.size + 1, 0, #[], rfl, Nat.le_refl _, hE.below hb z0, Nat.le_refl _, by omega, rfl, by simp⟩⟩, hb0.trans (hb.mono hb0.size), hG.below hb hG.lt⟩
theorem PL.alloc {w : World} {gv : Array Value} {v : Value} {out : List Int} {W : World} (h : PL w gv v out W) (o : Obj) : PL w gv v out (W.alloc o) := h.call ((Below.refl _ _).alloc (Nat.le_refl _) o)

set_option maxRecDepth 100000 in
set_option maxHeartbeats 1600000 in
theorem crit_impl (nn : Int) (A : Option Addr) (ls : List Lk) (c : Nat) (w : World) (hm : ls.length ≤ 2000000) (hA : 0 < ls.length → ∃ g, A = some ⟨g, 0, none⟩) (hS : Sl w w.heap.size A ls) :
   Calls Tryd.prog 5 #[gval nn A ls.length c] w (NewI (critL nn ls) w) := by
  obtain ⟨i0, hi, hz0, hz1, hz2⟩ := info_parts infoInt
  have B0 : Below w.heap.size w ((w.alloc (.cells #[.int .i64 nn, .slice A ls.length c] 25)).alloc (.cells #[] 3)) := by (repeat (first | exact Below.refl _ _ | (refine Below.alloc ?_ (by first | exact Nat.le_refl _ | omega | (simp; done) | (simp; omega)) _) | (refine Below.setCell ?_ (by first | exact Nat.le_refl _ | omega | (simp; done) | (simp; omega)) _) | exact Below.drew ‹_›))
  have HS0 := (hS.below B0).more (show w.heap.size ≤ ((w.alloc (.cells #[.int .i64 nn, .slice A ls.length c] 25)).alloc (.cells #[] 3)).heap.size by simp; omega)
  have HB0 := Lib.hid B0
  have HG0 := Lib.hid ((Box.new w 25 #[.int .i64 nn, .slice A ls.length c]).alloc (.cells #[] 3))
  have E0 := Box.new (w.alloc (.cells #[.int .i64 nn, .slice A ls.length c] 25)) 3 #[]
  rw [World.size_alloc] at E0
  have HE0 := Lib.hid E0
  have C1 := valid_impl nn A ls c _ hm HS0
  have HS := Lib.hid hS
  clear hS B0 E0 HS0
  unfold critL
  cases hv : gvB nn ls with
  | false =>
    rw [hv] at C1
    rw [if_neg (by simp)]
    clear hv
    go_enter Tryd.func5, Tryd.ntmps5
    go_wp2_with (go_at_call 13; refine C1.mono ?_; clear C1; rintro e w1 ⟨rfl, hb1⟩; have B1 := Lib.hid (HB0.out.trans (hb1.mono HB0.out.size)); clear hb1)
    go_ret
    exact ⟨_, w1.heap.size, _, rfl, B1.out.size, fun h => absurd h (by simp), B1.out⟩
  | true =>
    rw [hv] at C1
    rw [if_pos rfl]
    obtain ⟨hf, hn1, hn8, hl14⟩ := gvB_fit hv
    obtain ⟨n, rfl⟩ : ∃ n : Nat, nn = (n : Int) := ⟨nn.toNat, by omega⟩
    have HV := Lib.hid hv
    have HHA := Lib.hid hA
    clear hv hf hA
    go_enter Tryd.func5, Tryd.ntmps5
    go_wp2_with fail
    refine C1.mono ?_
    clear C1
    rintro e w1 ⟨rfl, hb1⟩
    have HP := Lib.hid (PL.start HE0.out HG0.out hb1 HB0.out)
    clear hb1 HE0 HG0 HB0
    have e10 : w1.cell? ⟨w.heap.size, 0, none⟩ = some (.int .i64 (n : Int)) := HP.out.box.cell 0
    have e11 : w1.cell? ⟨w.heap.size, 1, none⟩ = some (.slice A ls.length c) := HP.out.box.cell 1
    have z1 := HP.out.box.lt
    go_wp2_with fail
    clear e10 e11 z1
    go_loopw [3, 16] (fun v3 v16 wr => ∃ k : Nat, k ≤ ls.length ∧ v16 = .int .i64 k ∧ PL w #[.int .i64 (n : Int), .slice A ls.length c] v3 (cTo (n : Int) ls k) wr) (fun _ v16 _ => ls.length - (intOf v16).toNat)
    case atStart => exact ⟨0, Nat.zero_le _, rfl, HP.out⟩
    case round =>
      obtain ⟨k, hk, rfl, hp⟩ := hrel
      have HP := Lib.hid hp
      by_cases hlt : k < ls.length
      · obtain ⟨l, hl⟩ : ∃ l, ls[k]? = some l := ⟨_, List.getElem?_eq_getElem hlt⟩
        obtain ⟨g, rfl⟩ := HHA.out (by omega)
        obtain ⟨b, off, hbo, hbb, hc1, hc2, hc3⟩ := (HS.out.below hp.bel) k l hl
        cases hbo
        have hgl := gvB_at HV.out hl
        have hv' := er_gv' HV.out k
        have hwz := hp.box.lt
        have hgw : g < wr.heap.size := by omega
        have e0 : wr.cell? ⟨w.heap.size, 0, none⟩ = some (.int .i64 (n : Int)) := hp.box.cell 0
        have e1 : wr.cell? ⟨w.heap.size, 1, none⟩ = some (.slice (some ⟨g, 0, none⟩) ls.length c) := hp.box.cell 1
        simp only [Nat.zero_add] at hc1 hc2 hc3
        obtain ⟨ln, hln⟩ : ∃ q : Nat, l.b = (q : Int) := ⟨l.b.toNat, by omega⟩
        have hat := distL_at hv' (s := l.a) ⟨by omega, by omega⟩ (i := ln) (by omega)
        have hel : (ls.eraseIdx k).length ≤ 14 := Nat.le_trans (List.length_eraseIdx_le _ _) hl14
        have hkl := cTo_len (n : Int) ls k
        have HIT : Hid (bf (n : Int) (ls.eraseIdx k) l.a l.b = -1 → cTo (n : Int) ls (k + 1) = cTo (n : Int) ls k ++ [(k : Int)]) := Lib.hid (cTo_hit hl)
        have MISS : Hid (bf (n : Int) (ls.eraseIdx k) l.a l.b ≠ -1 → cTo (n : Int) ls (k + 1) = cTo (n : Int) ls k) := Lib.hid (cTo_miss hl)
        have CW := wo_res (n : Int) g ls c k (wr.alloc (.cells #[.int .i64 l.a, .int .i64 l.b, .int .i64 l.c] 35)) hm HV.out hlt (((HS.out.below hp.bel).below ((Below.refl _ _).alloc (by omega) _)).more (by simp; omega))
        have KL := Lib.hid (Box.new wr 35 #[.int .i64 l.a, .int .i64 l.b, .int .i64 l.c])
        have HP1 := Lib.hid (HP.out.alloc (.cells #[.int .i64 l.a, .int .i64 l.b, .int .i64 l.c] 35))
        rw [hln] at HIT MISS
        generalize hd : bf (n : Int) (ls.eraseIdx k) l.a (ln : Int) = d at *
        have HAT := Lib.hid hat
        clear hat hd hp hgl hv' hl
        obtain ⟨la, lb, lc⟩ := l
        dsimp only at *
        subst hln
        go_wp2_with fail
        refine CW.mono ?_
        clear CW
        rintro e w2 ⟨A2, g2, c2, rfl, hg2, ho2, hb2⟩
        have K2 := Lib.hid (KL.out.below hb2 KL.out.lt)
        have P2 := Lib.hid (HP1.out.call hb2)
        have K3 := Lib.hid (K2.out.alloc (.cells #[.int .i64 (n : Int), .slice A2 (ls.eraseIdx k).length c2] 25))
        have P3 := Lib.hid (P2.out.alloc (.cells #[.int .i64 (n : Int), .slice A2 (ls.eraseIdx k).length c2] 25))
        have O3 := Lib.hid (ho2.alloc (.cells #[.int .i64 (n : Int), .slice A2 (ls.eraseIdx k).length c2] 25))
        have X3 := Lib.hid (Box.new w2 25 #[.int .i64 (n : Int), .slice A2 (ls.eraseIdx k).length c2])
        clear ho2 hb2 hg2 KL HP1 HP K2 P2 e0 e1 hc1 hc2 hc3
        go_upto_region 8 with fail
        generalize w2.alloc (.cells #[.int .i64 (n : Int), .slice A2 (ls.eraseIdx k).length c2] 25) = W3 at *
        generalize w2.heap.size = b3 at *
        generalize ls.eraseIdx k = rs at *
        have hbl : wr.heap.size < W3.heap.size := K3.out.lt
        have k30 := K3.out.cell 0
        have k31 := K3.out.cell 1
        obtain ⟨zx, x30, x31, -, -⟩ := X3.out.two
        have KD := Lib.hid (show Box W3.drew wr.heap.size 35 #[.int .i64 la, .int .i64 (ln : Int), .int .i64 lc] from K3.out)
        have PD := Lib.hid P3.out.drew
        have CD := dist_impl (n : Int) A2 rs c2 la W3.drew (by omega) (show Own1 W3.drew A2 g2 rs from O3.out).sl
        have hds := distL_len (n : Int) rs la
        generalize distL (n : Int) rs la = ds at *
        have hln := (List.getElem?_eq_some_iff.1 HAT.out).1
        clear K3 P3 O3 X3 hel
        by_cases hd : d = -1
        · have HN := Lib.hid (HIT.out hd)
          have hd' : (d == -1) = true := by simp [hd]
          clear HIT MISS hd
          go_region_law (go_simp; go_at_call 15; refine CD.mono ?_; rintro e w5 ⟨A5, g5, c5, rfl, hg5, ho5, hb5⟩; have P5 := Lib.hid (PD.out.call hb5); have K5 := Lib.hid (KD.out.below hb5 KD.out.lt); have k51 := K5.out.cell 1; have hbl5 := K5.out.lt; obtain ⟨rfl, zg5, hc5⟩ := ho5.at HAT.out; clear ho5 hb5)
          all_goals
            clear CD KD PD k30 k31 x30 x31 k51 hc5 zg5 zx hbl hbl5 K5
            have hwz5 := P5.out.box.lt
            go_wp2_with (at_builtin; refine wpList_append_own_at _ rfl _ _ 27 rfl (w.heap.size + 1) 3 i0 _ 1 8 Tryd.underlying27 hi hz0 hz1 hz2 rfl (by decide) _ (cTo (n : Int) ls k).length _ rfl (P5.out.row.alloc _) ⟨w5.heap.size, 0, none⟩ 1 1 [.int .i64 k] rfl rfl (fun j u h => by obtain rfl : j = 0 := (by have := (List.getElem?_eq_some_iff.1 h).1; simpa using this); cases h; exact (Box.new w5 3 #[.int .i64 (k : Int)]).cell 0) (fun u hu => by simp at hu; subst hu; rfl) (by unfold maxLen; omega) (by omega) (by simp; omega) ?_; intro v' w7 hown' hgrow _ hat; have P7 := Lib.hid (P5.out.append hown' hgrow); clear hown' hgrow hat)
            go_roundw
            case rel =>
              refine ⟨k + 1, hlt, by go_num, ?_⟩
              rw [HN.out]
              exact P7.out
            case measure => simp [intOf]; omega
        · have HN := Lib.hid (MISS.out hd)
          have hd' : (d == -1) = false := by simpa using hd
          clear HIT MISS hd
          go_region_law (go_simp; go_at_call 15; refine CD.mono ?_; rintro e w5 ⟨A5, g5, c5, rfl, hg5, ho5, hb5⟩; have P5 := Lib.hid (PD.out.call hb5); have K5 := Lib.hid (KD.out.below hb5 KD.out.lt); have k51 := K5.out.cell 1; have hbl5 := K5.out.lt; obtain ⟨rfl, zg5, hc5⟩ := ho5.at HAT.out; clear ho5 hb5)
          all_goals
            go_wp2_with fail
            go_roundw
            case rel =>
              refine ⟨k + 1, hlt, by go_num, ?_⟩
              rw [HN.out]
              exact P5.out
            case measure => simp [intOf]; omega
      · obtain rfl : k = ls.length := by omega
        clear hp
        go_wp2
        go_ret
        exact HP.out.done

theorem take_drop_erase (ls : List Lk) (k : Nat) : ls.take k ++ ls.drop (k + 1) = ls.eraseIdx k := (List.eraseIdx_eq_take_drop_succ ls k).symm

set_option maxRecDepth 100000 in
set_option maxHeartbeats 1600000 in
theorem crit_spec (nn : Int) (A : Option Addr) (ls : List Lk) (c : Nat) (w : World) (hm : ls.length ≤ 2000000) (hA : 0 < ls.length → ∃ g, A = some ⟨g, 0, none⟩) (hlc : ls.length ≤ c) (hnu : nn ≤ 9223372036854775807) (hS : Sl w w.heap.size A ls) :
   Calls Tryd.prog 6 #[gval nn A ls.length c] w (NewI (critL nn ls) w) := by
  obtain ⟨i0, hi, hz0, hz1, hz2⟩ := info_parts infoInt
  have B0 : Below w.heap.size w ((w.alloc (.cells #[.int .i64 nn, .slice A ls.length c] 25)).alloc (.cells #[] 3)) := by (repeat (first | exact Below.refl _ _ | (refine Below.alloc ?_ (by first | exact Nat.le_refl _ | omega | (simp; done) | (simp; omega)) _) | (refine Below.setCell ?_ (by first | exact Nat.le_refl _ | omega | (simp; done) | (simp; omega)) _) | exact Below.drew ‹_›))
  have HB0 := Lib.hid B0
  have HG0 := Lib.hid ((Box.new w 25 #[.int .i64 nn, .slice A ls.length c]).alloc (.cells #[] 3))
  have E0 := Box.new (w.alloc (.cells #[.int .i64 nn, .slice A ls.length c] 25)) 3 #[]
  rw [World.size_alloc] at E0
  have HP0 := Lib.hid (PL.start E0 HG0.out (Below.refl _ _) B0)
  have HS := Lib.hid hS
  have CV := fun W (h : Sl W W.heap.size A ls) => valid_spec_any nn A ls c W hm hnu h
  clear hS B0 E0 HB0 HG0
  unfold critL
  cases hv : gvB nn ls with
  | false =>
    rw [hv] at CV
    rw [if_neg (by simp)]
    clear hv
    by_cases hl0 : ls.length = 0
    · obtain rfl : ls = [] := List.eq_nil_of_length_eq_zero hl0
      clear CV hl0
      go_enter Tryd.func6, Tryd.ntmps6
      go_wp2_with fail
      go_loopw [3, 4] (fun v3 v4 wr => v4 = .int .i64 0 ∧ PL w #[.int .i64 nn, .slice A 0 c] v3 [] wr) (fun _ _ _ => 0)
      case atStart => exact ⟨rfl, HP0.out⟩
      case round =>
        obtain ⟨rfl, hp⟩ := hrel
        have e1 : wr.cell? ⟨w.heap.size, 1, none⟩ = some (.slice A 0 c) := hp.box.cell 1
        have hwz := hp.box.lt
        have HP := Lib.hid hp
        clear hp HP0
        go_wp2_with fail
        go_ret
        exact HP.out.done
    · go_enter Tryd.func6, Tryd.ntmps6
      go_wp2_with fail
      go_loopw [3, 4] (fun v3 v4 wr => v4 = .int .i64 0 ∧ PL w #[.int .i64 nn, .slice A ls.length c] v3 [] wr) (fun _ _ _ => 0)
      case atStart => exact ⟨rfl, HP0.out⟩
      case round =>
        obtain ⟨rfl, hp⟩ := hrel
        have e0 : wr.cell? ⟨w.heap.size, 0, none⟩ = some (.int .i64 nn) := hp.box.cell 0
        have e1 : wr.cell? ⟨w.heap.size, 1, none⟩ = some (.slice A ls.length c) := hp.box.cell 1
        have hwz := hp.box.lt
        have HP := Lib.hid hp
        have C1 := CV wr ((HS.out.below hp.bel).more hp.bel.size)
        have hl1 : 0 < ls.length := by omega
        clear hp HP0 CV hl0
        go_wp2_with fail
        refine C1.mono ?_
        rintro e w1 ⟨rfl, hb1⟩
        have HP1 := Lib.hid (HP.out.call hb1)
        go_wp2_with fail
        go_ret
        exact HP1.out.done
  | true =>
    rw [hv] at CV
    rw [if_pos rfl]
    obtain ⟨hf, hn1, hn8, hl14⟩ := gvB_fit hv
    obtain ⟨n, rfl⟩ : ∃ n : Nat, nn = (n : Int) := ⟨nn.toNat, by omega⟩
    have HV := Lib.hid hv
    have HHA := Lib.hid hA
    clear hv hf hA
    go_enter Tryd.func6, Tryd.ntmps6
    go_wp2_with fail
    go_loopw [3, 4] (fun v3 v4 wr => ∃ k : Nat, k ≤ ls.length ∧ v4 = .int .i64 k ∧ PL w #[.int .i64 (n : Int), .slice A ls.length c] v3 (cTo (n : Int) ls k) wr) (fun _ v4 _ => ls.length - (intOf v4).toNat)
    case atStart => exact ⟨0, Nat.zero_le _, rfl, HP0.out⟩
    case round =>
      obtain ⟨k, hk, rfl, hp⟩ := hrel
      have HP := Lib.hid hp
      have e0 : wr.cell? ⟨w.heap.size, 0, none⟩ = some (.int .i64 (n : Int)) := hp.box.cell 0
      have e1 : wr.cell? ⟨w.heap.size, 1, none⟩ = some (.slice A ls.length c) := hp.box.cell 1
      have hwz := hp.box.lt
      by_cases hlt : k < ls.length
      · obtain ⟨l, hl⟩ : ∃ l, ls[k]? = some l := ⟨_, List.getElem?_eq_getElem hlt⟩
        obtain ⟨g, rfl⟩ := HHA.out (by omega)
        have C1 := CV wr ((HS.out.below hp.bel).more hp.bel.size)
        clear hp HP0 CV
        go_wp2_with fail
        refine C1.mono ?_
        clear C1
        rintro e w1 ⟨rfl, hb1⟩
        have HP1 := Lib.hid (HP.out.call hb1)
        clear hb1 HP e0 e1 hwz
        have hgl := gvB_at HV.out hl
        have hv' := er_gv' HV.out k
        obtain ⟨hf', -, -, hel⟩ := gvB_fit hv'
        obtain ⟨ln, hln⟩ : ∃ q : Nat, l.b = (q : Int) := ⟨l.b.toNat, by omega⟩
        have hkl := cTo_len (n : Int) ls k
        have HIT : Hid (bf (n : Int) (ls.eraseIdx k) l.a l.b = -1 → cTo (n : Int) ls (k + 1) = cTo (n : Int) ls k ++ [(k : Int)]) := Lib.hid (cTo_hit hl)
        have MISS : Hid (bf (n : Int) (ls.eraseIdx k) l.a l.b ≠ -1 → cTo (n : Int) ls (k + 1) = cTo (n : Int) ls k) := Lib.hid (cTo_miss hl)
        have hsg := bf_sg hf' (s := l.a) ⟨by omega, by omega⟩ l.b
        have CW := fun W (h : Sl W W.heap.size (some ⟨g, 0, none⟩) ls) => l1Without_any (n : Int) g ls c k W hm hlc hlt h
        rw [take_drop_erase] at CW
        have CD := fun (A' : Option Addr) (c' : Nat) W (h : Sl W W.heap.size A' (ls.eraseIdx k)) => l2d_any n A' (ls.eraseIdx k) c' l.a W (by omega) (by omega) hel hf' ⟨by omega, by omega⟩ h
        have hat := fl_at (f := bf (n : Int) (ls.eraseIdx k) l.a) (show ln < n by omega)
        have hdl := fl_len n (bf (n : Int) (ls.eraseIdx k) l.a)
        rw [hln] at HIT MISS hsg
        generalize bf (n : Int) (ls.eraseIdx k) l.a (ln : Int) = d at *
        generalize fl n (bf (n : Int) (ls.eraseIdx k) l.a) = ds at *
        generalize ls.eraseIdx k = rs at *
        have HAT := Lib.hid hat
        have hlnd := (List.getElem?_eq_some_iff.1 hat).1
        have HCL : Hid (∀ W, Below w.heap.size w W → w.heap.size ≤ W.heap.size → g < W.heap.size ∧ W.cell? ⟨g, k * 3, none⟩ = some (.int .i64 l.a) ∧ W.cell? ⟨g, k * 3 + 1, none⟩ = some (.int .i64 l.b) ∧ W.cell? ⟨g, k * 3 + 2, none⟩ = some (.int .i64 l.c)) := Lib.hid (fun W hb hz => by
          obtain ⟨b, off, hbo, hbb, h1, h2, h3⟩ := (HS.out.below hb) k l hl
          cases hbo
          simp only [Nat.zero_add] at h1 h2 h3
          exact ⟨by omega, h1, h2, h3⟩)
        have PD := Lib.hid HP1.out.drew
        clear hat hgl hv' hf' hl HP1 hdl
        obtain ⟨la, lb, lc⟩ := l
        dsimp only at *
        subst hln
        have e0 : w1.cell? ⟨w.heap.size, 0, none⟩ = some (.int .i64 (n : Int)) := PD.out.box.cell 0
        have e1 : w1.cell? ⟨w.heap.size, 1, none⟩ = some (.slice (some ⟨g, 0, none⟩) ls.length c) := PD.out.box.cell 1
        have hwz : w.heap.size < w1.heap.size := PD.out.box.lt
        obtain ⟨hg1, c1, c2, c3⟩ := HCL.out w1.drew PD.out.bel PD.out.bel.size
        replace hg1 : g < w1.heap.size := hg1
        replace c1 : w1.cell? ⟨g, k * 3, none⟩ = _ := c1
        replace c2 : w1.cell? ⟨g, k * 3 + 1, none⟩ = _ := c2
        clear c3
        have CW1 := CW w1.drew ((HS.out.below PD.out.bel).more PD.out.bel.size)
        clear CW
        by_cases hd : d = -1
        · have HN := Lib.hid (HIT.out hd)
          have hd' : decide (d < 0) = true := by simp [hd]
          clear HIT MISS hsg hd
          go_wp2_with fail
          have hX1 := fun (x : Ext w1.drew) (bb o : Nat) (h : bb < w1.heap.size) => (show x.w.cell? ⟨bb, o, none⟩ = w1.cell? ⟨bb, o, none⟩ from x.cell bb o h)
          refine wp_region_staged 19 (by kernel_rfl) (by kernel_rfl) ?_
          refine stage_seg _ 5 [0, 1, 3, 4, 5, 6, 7, 8, 10, 11, 12, 13, 14, 15] (by kernel_rfl) (by kernel_rfl) (by kernel_rfl) (by kernel_rfl) ?_
          (simp only [List.map_cons, List.map_nil, List.getElem?_cons_zero, List.getElem?_cons_succ, Option.getD_some]); (repeat (go_big_quiet_step (fail))); (refine wpQuiet_nil ?_)
          clear hX1 e0 e1 c1 c2 hwz hg1
          refine stage_call _ 4 2 (by kernel_rfl) (by rfl) (by kernel_rfl) (by rfl) ?_
          go_wp2_with fail
          refine CW1.mono ?_
          clear CW1
          rintro e w5 ⟨A5, g5, c5, rfl, hg5, ho5, hb5⟩
          refine ⟨hb5, ?_⟩
          have P5 := Lib.hid (PD.out.call hb5)
          have CD1 := CD A5 c5 w5 ho5.sl
          clear ho5 hb5 CD
          refine stage_call _ 3 9 (by kernel_rfl) (by rfl) (by kernel_rfl) (by rfl) ?_
          go_wp2_with fail
          refine CD1.mono ?_
          clear CD1
          rintro e w6 ⟨A6, g6, c6, rfl, hg6, ho6, hb6⟩
          refine ⟨hb6, ?_⟩
          have P6 := Lib.hid (P5.out.call hb6)
          obtain ⟨rfl, zg6, hc6⟩ := ho6.at HAT.out
          clear ho6 hb6 P5 PD
          have hX6 := fun (x : Ext w6) (bb o : Nat) (h : bb < w6.heap.size) => x.cell bb o h
          refine stage_seg _ 0 [16, 17, 18] (by kernel_rfl) (by kernel_rfl) (by kernel_rfl) (by kernel_rfl) ?_
          (simp only [List.map_cons, List.map_nil, List.getElem?_cons_zero, List.getElem?_cons_succ, Option.getD_some]); (repeat (go_big_quiet_step (fail))); (refine wpQuiet_nil ?_)
          clear hX6 hc6 zg6
          refine stage_end (by kernel_rfl) ?_
          have hwz6 := P6.out.box.lt
          go_wp2_with (at_builtin; refine wpList_append_own_at _ rfl _ _ 27 rfl (w.heap.size + 1) 3 i0 _ 1 8 Tryd.underlying27 hi hz0 hz1 hz2 rfl (by decide) _ (cTo (n : Int) ls k).length _ rfl (P6.out.row.alloc _) ⟨w6.heap.size, 0, none⟩ 1 1 [.int .i64 k] rfl rfl (fun j u h => by obtain rfl : j = 0 := (by have := (List.getElem?_eq_some_iff.1 h).1; simpa using this); cases h; exact (Box.new w6 3 #[.int .i64 (k : Int)]).cell 0) (fun u hu => by simp at hu; subst hu; rfl) (by unfold maxLen; omega) (by omega) (by simp; omega) ?_; intro v' w7 hown' hgrow _ hat; have P7 := Lib.hid (P6.out.append hown' hgrow); clear hown' hgrow hat)
          go_roundw
          case rel =>
            refine ⟨k + 1, hlt, by go_num, ?_⟩
            rw [HN.out]
            exact P7.out
          case measure => simp [intOf]; omega
        · have HN := Lib.hid (MISS.out hd)
          have hd' : decide (d < 0) = false := by simp; omega
          clear HIT MISS hsg hd
          go_wp2_with fail
          have hX1 := fun (x : Ext w1.drew) (bb o : Nat) (h : bb < w1.heap.size) => (show x.w.cell? ⟨bb, o, none⟩ = w1.cell? ⟨bb, o, none⟩ from x.cell bb o h)
          refine wp_region_staged 19 (by kernel_rfl) (by kernel_rfl) ?_
          refine stage_seg _ 5 [0, 1, 3, 4, 5, 6, 7, 8, 10, 11, 12, 13, 14, 15] (by kernel_rfl) (by kernel_rfl) (by kernel_rfl) (by kernel_rfl) ?_
          (simp only [List.map_cons, List.map_nil, List.getElem?_cons_zero, List.getElem?_cons_succ, Option.getD_some]); (repeat (go_big_quiet_step (fail))); (refine wpQuiet_nil ?_)
          clear hX1 e0 e1 c1 c2 hwz hg1
          refine stage_call _ 4 2 (by kernel_rfl) (by rfl) (by kernel_rfl) (by rfl) ?_
          go_wp2_with fail
          refine CW1.mono ?_
          clear CW1
          rintro e w5 ⟨A5, g5, c5, rfl, hg5, ho5, hb5⟩
          refine ⟨hb5, ?_⟩
          have P5 := Lib.hid (PD.out.call hb5)
          have CD1 := CD A5 c5 w5 ho5.sl
          clear ho5 hb5 CD
          refine stage_call _ 3 9 (by kernel_rfl) (by rfl) (by kernel_rfl) (by rfl) ?_
          go_wp2_with fail
          refine CD1.mono ?_
          clear CD1
          rintro e w6 ⟨A6, g6, c6, rfl, hg6, ho6, hb6⟩
          refine ⟨hb6, ?_⟩
          have P6 := Lib.hid (P5.out.call hb6)
          obtain ⟨rfl, zg6, hc6⟩ := ho6.at HAT.out
          clear ho6 hb6 P5 PD
          have hX6 := fun (x : Ext w6) (bb o : Nat) (h : bb < w6.heap.size) => x.cell bb o h
          refine stage_seg _ 0 [16, 17, 18] (by kernel_rfl) (by kernel_rfl) (by kernel_rfl) (by kernel_rfl) ?_
          (simp only [List.map_cons, List.map_nil, List.getElem?_cons_zero, List.getElem?_cons_succ, Option.getD_some]); (repeat (go_big_quiet_step (fail))); (refine wpQuiet_nil ?_)
          clear hX6 hc6 zg6
          refine stage_end (by kernel_rfl) ?_
          go_wp2_with fail
          go_roundw
          case rel =>
            refine ⟨k + 1, hlt, by go_num, ?_⟩
            rw [HN.out]
            exact P6.out
          case measure => simp [intOf]; omega
      · obtain rfl : k = ls.length := by omega
        clear hp
        go_wp2
        go_ret
        exact HP.out.done

end Go.Proofs.YtenlofomkchlaaaDoor
