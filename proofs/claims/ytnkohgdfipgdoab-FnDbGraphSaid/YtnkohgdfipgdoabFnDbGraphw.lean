/-
  The walk of FnDbGraph over this seat.
-/
import Derived.Test.YtnkohgdfipgdoabGx
import Derived.Test.YtnkohgdfipgdoabIg
import Derived.Test.YtnkohgdfipgdoabAc
import Derived.Test.YtnkohgdfipgdoabA7
import Derived.Test.YtnkohgdfipgdoabA8
namespace Go.Proofs.Ytnkohgdfipgdoab
open Go.RowKit Go.Maps

/-- A graph in its box beside a list of announcements. -/
structure GY (w : World) (A : Option Addr) (zs : List Lz) (G : Nat) (n : Int) (Ag : Option Addr) (gg cg : Nat) (ls : List Lk) (W : World) : Prop where
  box : Box W G 48 #[.int .i64 n, .slice Ag ls.length cg]
  own : Own1 W Ag gg ls
  sl : Slz W W.heap.size A zs
  bel : Below w.heap.size w W
section
variable {w w1 w2 : World} {A : Option Addr} {zs : List Lz} {G : Nat} {n : Int} {Ag : Option Addr} {gg cg : Nat} {ls : List Lk}
theorem GY.call (h : GY w A zs G n Ag gg cg ls w1) (hb : Below w1.heap.size w1 w2) : GY w A zs G n Ag gg cg ls w2 :=
  ⟨h.box.below hb h.box.lt, h.own.below hb, h.sl.grow hb, h.bel.trans (hb.mono h.bel.size)⟩
theorem GY.start (ho : Own1 w1 Ag gg ls) (hs : Slz w1 w1.heap.size A zs) (hb : Below w.heap.size w w1) : GY w A zs w1.heap.size n Ag gg cg ls (w1.alloc (.cells #[.int .i64 n, .slice Ag ls.length cg] 48)) := by
  have h1 : Below w1.heap.size w1 (w1.alloc (.cells #[.int .i64 n, .slice Ag ls.length cg] 48)) := by (repeat (first | exact Below.refl _ _ | (refine Below.alloc ?_ (by first | exact Nat.le_refl _ | omega | (simp; done) | (simp; omega)) _) | (refine Below.setCell ?_ (by first | exact Nat.le_refl _ | omega | (simp; done) | (simp; omega)) _) | exact Below.drew ‹_›))
  exact ⟨Box.new w1 _ _, ho.alloc _, hs.grow h1, hb.trans (h1.mono hb.size)⟩
end
theorem grB_parts {n : Int} {db : List La} (h : grB n db = true) : ∃ m : Nat, n = (m : Int) ∧ 1 ≤ m ∧ m ≤ 8 ∧ Srt db ∧ (∀ x ∈ db, laB x = true) ∧ gvB (m : Int) (graphL db m) = true ∧ (graphL db m).length ≤ 14 := by
  unfold grB at h
  simp only [Bool.and_eq_true, decide_eq_true_eq] at h
  obtain ⟨⟨h1, h2⟩, h3⟩ := h
  unfold inB at h1
  simp only [Bool.and_eq_true, decide_eq_true_eq] at h1
  obtain ⟨m, rfl⟩ : ∃ m : Nat, n = (m : Int) := ⟨n.toNat, by omega⟩
  obtain ⟨hv, hs⟩ := dbB_inv h2
  rw [Int.toNat_natCast] at h3
  exact ⟨m, rfl, by omega, by omega, hs, hv, by rw [graphL_gv hv ⟨by omega, by omega⟩]; exact decide_eq_true h3, h3⟩

set_option maxRecDepth 100000 in
set_option maxHeartbeats 8000000 in
theorem fnDbGraph_walk (A : Option Addr) (len c : Nat) (f : Nat → Int) (w : World) (hlc : len ≤ c) (hc : c ≤ maxLen) (hB : Byt w w.heap.size A len f) :
   Calls Try.prog 7 #[.slice A len c] w fun e w' => e = .returned (.bool true) ∧ Below w.heap.size w w' := by
  have HB := Lib.hid hB
  clear hB
  by_cases hl : len ≤ 1048576
  · go_enter Try.func7, Try.ntmps7
    go_wp2_with fail
    refine (drawDbGraph_any A len c f w hlc hc HB.out).mono ?_
    rintro e w1 ⟨n, zs, Az, cz, rfl, hn0, hn10, hzl, hze10, hsz, hb1, -⟩
    have hze : ∀ z ∈ zs, z.es.length ≤ 2000000 := fun z hz => by have := hze10 z hz; omega
    have CI := fun W (h : Slz W W.heap.size Az zs) => dbGraph_impl n Az zs cz W (by omega) hze h
    have CS := fun W (h : Slz W W.heap.size Az zs) => dbGraph_spec n Az zs cz W (by omega) hze h
    have HE10 := Lib.hid hze10
    have HS1 := Lib.hid hsz
    have HB1 := Lib.hid hb1
    clear hsz hb1 HB hze10 hze
    cases hg : grB n (datL zs) with
    | false =>
      simp only [hg, Bool.false_eq_true, ↓reduceIte] at CI CS
      clear hg
      obtain ⟨gl, hgl⟩ : ∃ gl : List Lk, gl = [] := ⟨_, rfl⟩
      rw [← hgl] at CI CS
      have hgll : gl.length ≤ 14 := by rw [hgl]; simp
      clear hgl
      go_wp2_with fail
      refine (CI _ HS1.out).mono ?_
      clear CI
      rintro e w2 ⟨A2, g2, c2, rfl, hg2, ho2, hb2⟩
      have L2 := Lib.hid (GY.start (w := w) (n := 0) (cg := c2) ho2 (HS1.out.grow hb2) (HB1.out.trans (hb2.mono HB1.out.size)))
      clear hb2 ho2 HS1 HB1
      go_wp2_with fail
      generalize w2.heap.size = X at *
      generalize w2.alloc (.cells #[.int .i64 0, .slice A2 gl.length c2] 48) = V2 at *
      refine (CS _ L2.out.sl).mono ?_
      clear CS
      rintro e w3 ⟨A3, g3, c3, rfl, hg3, ho3, hb3⟩
      have hb4 := hb3.alloc hb3.size (.cells #[.int .i64 0, .slice A3 gl.length c3] 48)
      have L3 := Lib.hid (L2.out.call hb4)
      have W3 := Lib.hid (Box.new w3 48 #[.int .i64 0, .slice A3 gl.length c3])
      have O3 := Lib.hid (ho3.alloc (.cells #[.int .i64 0, .slice A3 gl.length c3] 48))
      clear hb3 hb4 ho3 L2
      obtain ⟨zx, x0, x1, -, -⟩ := L3.out.box.two
      obtain ⟨zy, y0, y1, -, -⟩ := W3.out.two
      have CM := fun W (h1 : Sl W W.heap.size A2 gl) (h2 : Sl W W.heap.size A3 gl) => sameGraph_same 0 A2 A3 gl c2 c3 W (by omega) h1 h2
      go_wp2_with fail
      refine (CM _ L3.out.own.sl O3.out.sl).mono ?_
      rintro e w4 ⟨rfl, hb4⟩
      have L4 := Lib.hid (L3.out.call hb4)
      have W4 := Lib.hid (W3.out.below hb4 W3.out.lt)
      have O4 := Lib.hid (O3.out.below hb4)
      clear hb4 L3 W3 O3 zx x0 x1 zy y0 y1
      obtain ⟨zx, x0, x1, -, -⟩ := L4.out.box.two
      obtain ⟨zy, y0, y1, -, -⟩ := W4.out.two
      go_wp2_with fail
      refine (CM _ L4.out.own.sl O4.out.sl).mono ?_
      rintro e w5 ⟨rfl, hb5⟩
      have L5 := Lib.hid (L4.out.call hb5)
      clear hb5
      go_wp2_with fail
      go_ret
      exact ⟨rfl, L5.out.bel⟩
    | true =>
      simp only [hg, ↓reduceIte] at CI CS
      obtain ⟨m, rfl, hm1, hm8, hsr, hvl, hgv, hgl⟩ := grB_parts hg
      rw [Int.toNat_natCast] at CI CS
      have HLK := Lib.hid (fun (a b : Nat) (h1 : a < b) (h2 : b < m) => graphL_link (db := datL zs) hgv h1 h2)
      have HSC := Lib.hid (fun (a b : Int) => scD_all (a := a) (b := b) hsr hvl)
      have HLN : (datL zs).length = zs.length := by simp [datL]
      obtain ⟨gl, hgl2⟩ : ∃ gl, graphL (datL zs) m = gl := ⟨_, rfl⟩
      rw [hgl2] at CI CS hgv hgl HLK
      have CL := fun (Ag : Option Addr) (cg : Nat) (a b : Int) W (h : Sl W W.heap.size Ag gl) => link_impl (m : Int) Ag gl cg a b W (by omega) h
      have CV := fun (Ag : Option Addr) (cg : Nat) W (h : Sl W W.heap.size Ag gl) => valid_impl (m : Int) Ag gl cg W (by omega) h
      have CM := fun (Ag Ah : Option Addr) (cg ch : Nat) W (h1 : Sl W W.heap.size Ag gl) (h2 : Sl W W.heap.size Ah gl) => sameGraph_same (m : Int) Ag Ah gl cg ch W (by omega) h1 h2
      rw [hgv] at CV
      clear hg hsr hvl hgv hgl2
      go_wp2_with fail
      refine (CI _ HS1.out).mono ?_
      clear CI
      rintro e w2 ⟨A2, g2, c2, rfl, hg2, ho2, hb2⟩
      have L2 := Lib.hid (GY.start (w := w) (n := (m : Int)) (cg := c2) ho2 (HS1.out.grow hb2) (HB1.out.trans (hb2.mono HB1.out.size)))
      clear hb2 ho2 HS1 HB1
      go_wp2_with fail
      generalize w2.heap.size = X at *
      generalize w2.alloc (.cells #[.int .i64 (m : Int), .slice A2 gl.length c2] 48) = V2 at *
      refine (CS _ L2.out.sl).mono ?_
      clear CS
      rintro e w3 ⟨A3, g3, c3, rfl, hg3, ho3, hb3⟩
      have hb4 := hb3.alloc hb3.size (.cells #[.int .i64 (m : Int), .slice A3 gl.length c3] 48)
      have L3 := Lib.hid (L2.out.call hb4)
      have W3 := Lib.hid (Box.new w3 48 #[.int .i64 (m : Int), .slice A3 gl.length c3])
      have O3 := Lib.hid (ho3.alloc (.cells #[.int .i64 (m : Int), .slice A3 gl.length c3] 48))
      clear hb3 hb4 ho3 L2
      obtain ⟨zx, x0, x1, -, -⟩ := L3.out.box.two
      obtain ⟨zy, y0, y1, -, -⟩ := W3.out.two
      go_wp2_with fail
      generalize w3.heap.size = Y at *
      generalize w3.alloc (.cells #[.int .i64 (m : Int), .slice A3 gl.length c3] 48) = V3 at *
      refine (CM _ _ _ _ _ L3.out.own.sl O3.out.sl).mono ?_
      clear CM
      rintro e w4 ⟨rfl, hb4⟩
      have L4 := Lib.hid (L3.out.call hb4)
      clear hb4 L3 W3 O3 zx x0 x1 zy y0 y1
      go_wp2_with fail
      go_loopw [9] (fun i wr => ∃ a : Nat, a ≤ m ∧ i = .int .i64 (a : Int) ∧ Hid (GY w Az zs X (m : Int) A2 g2 c2 gl wr)) (fun i _ => m - (intOf i).toNat)
      case atStart => exact ⟨0, Nat.zero_le _, rfl, L4⟩
      case round =>
        obtain ⟨a, ha, rfl, S⟩ := hrel
        clear L4
        by_cases hlt : a < m
        · have hlti : (a : Int) < (m : Int) := by omega
          have ha1 : IntKind.i64.wrap ((a : Int) + 1) = ((a + 1 : Nat) : Int) := by rw [IntWalk.i64_in _ (by omega)]; omega
          go_wp2_with fail
          go_loopw [10] (fun i wr => ∃ b : Nat, a < b ∧ b ≤ m ∧ i = .int .i64 (b : Int) ∧ Hid (GY w Az zs X (m : Int) A2 g2 c2 gl wr)) (fun i _ => m - (intOf i).toNat)
          case atStart => exact ⟨a + 1, by omega, by omega, rfl, S⟩
          case round =>
            obtain ⟨b, hab, hb, rfl, S1⟩ := hrel
            clear S
            by_cases hlb : b < m
            · have hlbi : (b : Int) < (m : Int) := by omega
              have HK := Lib.hid (HLK.out a b hab hlb)
              have SX := Lib.hid (HSC.out (a : Int) (b : Int))
              have SY := Lib.hid (HSC.out (b : Int) (a : Int))
              have hab1 : ¬ (a : Int) = (b : Int) := by omega
              have HAB := Lib.hid hab1
              clear hab1
              go_wp2_with fail
              go_loopw [13, 11, 12] (fun i x y wr => ∃ (k : Nat) (px py : Int), k ≤ zs.length ∧ i = .int .i64 (k : Int) ∧ x = .int .i64 px ∧ y = .int .i64 py ∧ Hid (px = scD (a : Int) (b : Int) ((datL zs).take k) 0) ∧ Hid (py = scD (b : Int) (a : Int) ((datL zs).take k) 0) ∧ Hid (GY w Az zs X (m : Int) A2 g2 c2 gl wr)) (fun i _ _ _ => zs.length - (intOf i).toNat)
              case atStart => exact ⟨0, 0, 0, Nat.zero_le _, rfl, rfl, rfl, Lib.hid rfl, Lib.hid rfl, S1⟩
              case round =>
                obtain ⟨k, px, py, hk, rfl, rfl, rfl, HX, HY, S2⟩ := hrel
                clear S1
                by_cases hlk : k < zs.length
                · have hlki : (k : Int) < (zs.length : Int) := by omega
                  obtain ⟨z, hz⟩ : ∃ z, zs[k]? = some z := ⟨_, List.getElem?_eq_getElem hlk⟩
                  have HZ := Lib.hid hz
                  have HZD : Hid ((datL zs)[k]? = some z.d) := Lib.hid (by rw [List.getElem?_map, hz]; rfl)
                  have he10 := HE10.out z (List.mem_of_getElem? hz)
                  clear hz
                  obtain ⟨zo, zq, zes, zA, zc, zg⟩ := z
                  dsimp only at he10
                  go_wp2_with fail
                  go_loopw [14, 11, 12] (fun i x y wr => ∃ (j : Nat) (qx qy : Int), j ≤ zes.length ∧ i = .int .i64 (j : Int) ∧ x = .int .i64 qx ∧ y = .int .i64 qy ∧ Hid (qx = scE zo (a : Int) (b : Int) (zes.take j) px) ∧ Hid (qy = scE zo (b : Int) (a : Int) (zes.take j) py) ∧ Hid (GY w Az zs X (m : Int) A2 g2 c2 gl wr)) (fun i _ _ _ => zes.length - (intOf i).toNat)
                  case atStart => exact ⟨0, px, py, Nat.zero_le _, rfl, rfl, rfl, Lib.hid rfl, Lib.hid rfl, S2⟩
                  case round =>
                    obtain ⟨j, qx, qy, hj, rfl, rfl, rfl, QX, QY, S3⟩ := hrel
                    clear S2
                    obtain ⟨bb, off, rfl, hbb, hc0, -, hc2, hsb⟩ := S3.out.sl k _ HZ.out
                    dsimp only at hc0 hc2 hsb
                    by_cases hlj : j < zes.length
                    · have hlji : (j : Int) < (zes.length : Int) := by omega
                      obtain ⟨e, he⟩ : ∃ e, zes[j]? = some e := ⟨_, List.getElem?_eq_getElem hlj⟩
                      obtain ⟨bc, of2, rfl, hbc, hd0, hd1⟩ := hsb j e he
                      have EX := Lib.hid (scE_step (o := zo) (a := (a : Int)) (b := (b : Int)) he px)
                      have EY := Lib.hid (scE_step (o := zo) (a := (b : Int)) (b := (a : Int)) he py)
                      obtain ⟨ek, ea⟩ := e
                      dsimp only at hd0 hd1
                      clear he
                      by_cases h1 : zo = (a : Int)
                      · have h1' : (zo == (a : Int)) = true := by simp [h1]
                        have h2' : (zo == (b : Int)) = false := beq_eq_false_iff_ne.2 (fun h => HAB.out (h1.symm.trans h))
                        have H1 := Lib.hid h1
                        clear h1
                        by_cases h3 : ek = (b : Int)
                        · have h3' : (ek == (b : Int)) = true := by simp [h3]
                          have H3 := Lib.hid h3
                          clear h3
                          go_wp2_with fail
                          go_roundw
                          case rel => exact ⟨j + 1, ea, qy, hlj, by go_num, rfl, rfl, Lib.hid (by rw [EX.out, if_pos ⟨H1.out, H3.out⟩]), Lib.hid (by rw [EY.out, if_neg (fun h => HAB.out (H1.out.symm.trans h.1)), QY.out]), S3⟩
                          case measure => simp [intOf]; omega
                        · have h3' : (ek == (b : Int)) = false := beq_eq_false_iff_ne.2 h3
                          have H3 := Lib.hid h3
                          clear h3
                          go_wp2_with fail
                          go_roundw
                          case rel => exact ⟨j + 1, qx, qy, hlj, by go_num, rfl, rfl, Lib.hid (by rw [EX.out, if_neg (fun h => H3.out h.2), QX.out]), Lib.hid (by rw [EY.out, if_neg (fun h => HAB.out (H1.out.symm.trans h.1)), QY.out]), S3⟩
                          case measure => simp [intOf]; omega
                      · have h1' : (zo == (a : Int)) = false := beq_eq_false_iff_ne.2 h1
                        have H1 := Lib.hid h1
                        clear h1
                        by_cases h2 : zo = (b : Int)
                        · have h2' : (zo == (b : Int)) = true := by simp [h2]
                          have H2 := Lib.hid h2
                          clear h2
                          by_cases h3 : ek = (a : Int)
                          · have h3' : (ek == (a : Int)) = true := by simp [h3]
                            have H3 := Lib.hid h3
                            clear h3
                            go_wp2_with fail
                            go_roundw
                            case rel => exact ⟨j + 1, qx, ea, hlj, by go_num, rfl, rfl, Lib.hid (by rw [EX.out, if_neg (fun h => H1.out h.1), QX.out]), Lib.hid (by rw [EY.out, if_pos ⟨H2.out, H3.out⟩]), S3⟩
                            case measure => simp [intOf]; omega
                          · have h3' : (ek == (a : Int)) = false := beq_eq_false_iff_ne.2 h3
                            have H3 := Lib.hid h3
                            clear h3
                            go_wp2_with fail
                            go_roundw
                            case rel => exact ⟨j + 1, qx, qy, hlj, by go_num, rfl, rfl, Lib.hid (by rw [EX.out, if_neg (fun h => H1.out h.1), QX.out]), Lib.hid (by rw [EY.out, if_neg (fun h => H3.out h.2), QY.out]), S3⟩
                            case measure => simp [intOf]; omega
                        · have h2' : (zo == (b : Int)) = false := beq_eq_false_iff_ne.2 h2
                          have H2 := Lib.hid h2
                          clear h2
                          go_wp2_with fail
                          go_roundw
                          case rel => exact ⟨j + 1, qx, qy, hlj, by go_num, rfl, rfl, Lib.hid (by rw [EX.out, if_neg (fun h => H1.out h.1), QX.out]), Lib.hid (by rw [EY.out, if_neg (fun h => H2.out h.1), QY.out]), S3⟩
                          case measure => simp [intOf]; omega
                    · have hlji : ¬ (j : Int) < (zes.length : Int) := by omega
                      obtain rfl : j = zes.length := by omega
                      go_wp2_with fail
                      go_roundw
                      case rel => exact ⟨k + 1, qx, qy, hlk, by go_num, rfl, rfl, Lib.hid (by rw [scD_step HZD.out, ← HX.out, QX.out, List.take_length]), Lib.hid (by rw [scD_step HZD.out, ← HY.out, QY.out, List.take_length]), S3⟩
                      case measure => simp [intOf]; omega
                · have hlki : ¬ (k : Int) < (zs.length : Int) := by omega
                  obtain rfl : k = zs.length := by omega
                  have hpx : px = costL (datL zs) (a : Int) (b : Int) := by rw [HX.out, ← HLN, List.take_length]; exact SX.out
                  have hpy : py = costL (datL zs) (b : Int) (a : Int) := by rw [HY.out, ← HLN, List.take_length]; exact SY.out
                  have hk1 := HK.out
                  rw [← hpx, ← hpy] at hk1
                  obtain ⟨hi1, hi2⟩ := hk1
                  have CL2 := CL A2 c2 (a : Int) (b : Int)
                  have HI1 := Lib.hid hi1
                  have HI2 := Lib.hid hi2
                  obtain ⟨zx, x0, x1, -, -⟩ := S2.out.box.two
                  clear HX HY hpx hpy hi1 hi2
                  go_wp2_with fail
                  refine (CL2 _ S2.out.own.sl).mono ?_
                  clear CL2
                  rintro e w5 ⟨rfl, hb5⟩
                  have S5 := Lib.hid (S2.out.call hb5)
                  clear hb5 S2 zx x0 x1
                  obtain ⟨zx, x0, x1, -, -⟩ := S5.out.box.two
                  by_cases h0 : 0 ≤ linkI (m : Int) gl (a : Int) (b : Int)
                  · obtain ⟨hx0, hy0⟩ := HI1.out.1 h0
                    obtain ⟨j, l, hj, hjl, -, -⟩ := linkI_at h0
                    have hlc := HI2.out j l hj hjl
                    have hjlt := (List.getElem?_eq_some_iff.1 hjl).1
                    obtain ⟨bl, ol, hAl, hbl, -, -, hl2⟩ := S5.out.own.sl j l hjl
                    subst hAl
                    rw [hj]
                    have HX0 := Lib.hid hx0
                    clear h0 hj hjl HI1 HI2 HK
                    by_cases hxy : px < py
                    · have hmx : max px py = py := by omega
                      rw [hmx] at hlc
                      rw [hlc] at hl2
                      have hne : (py != py) = false := by simp
                      clear hlc
                      go_wp2_with fail
                      go_roundw
                      case rel => exact ⟨b + 1, by omega, hlb, by go_num, S5⟩
                      case measure => simp [intOf]; omega
                    · have hmx : max px py = px := by omega
                      rw [hmx] at hlc
                      rw [hlc] at hl2
                      have hne : (px != px) = false := by simp
                      clear hlc
                      go_wp2_with fail
                      go_roundw
                      case rel => exact ⟨b + 1, by omega, hlb, by go_num, S5⟩
                      case measure => simp [intOf]; omega
                  · have hno : ¬ (0 < px ∧ 0 < py) := fun h => h0 (HI1.out.2 h)
                    clear HI1 HI2 HK
                    generalize linkI (m : Int) gl (a : Int) (b : Int) = li at *
                    by_cases hx0 : 0 < px
                    · have hy0 : ¬ 0 < py := fun h => hno ⟨hx0, h⟩
                      clear hno
                      go_wp2_with fail
                      go_roundw
                      case rel => exact ⟨b + 1, by omega, hlb, by go_num, S5⟩
                      case measure => simp [intOf]; omega
                    · clear hno
                      go_wp2_with fail
                      go_roundw
                      case rel => exact ⟨b + 1, by omega, hlb, by go_num, S5⟩
                      case measure => simp [intOf]; omega
            · have hlbi : ¬ (b : Int) < (m : Int) := by omega
              go_wp2_with fail
              go_roundw
              case rel => exact ⟨a + 1, hlt, by go_num, S1⟩
              case measure => simp [intOf]; omega
        · have hlti : ¬ (a : Int) < (m : Int) := by omega
          obtain ⟨zx, x0, x1, -, -⟩ := S.out.box.two
          go_wp2_with fail
          refine (CV A2 c2 _ S.out.own.sl).mono ?_
          rintro e w5 ⟨rfl, hb5⟩
          have S5 := Lib.hid (S.out.call hb5)
          go_wp2_with fail
          go_ret
          exact ⟨rfl, S5.out.bel⟩
  · go_enter Try.func7, Try.ntmps7
    go_wp2
    go_ret
    exact ⟨rfl, by (repeat (first | exact Below.refl _ _ | (refine Below.alloc ?_ (by first | exact Nat.le_refl _ | omega | (simp; done) | (simp; omega)) _) | (refine Below.setCell ?_ (by first | exact Nat.le_refl _ | omega | (simp; done) | (simp; omega)) _) | exact Below.drew ‹_›))⟩

end Go.Proofs.Ytnkohgdfipgdoab
