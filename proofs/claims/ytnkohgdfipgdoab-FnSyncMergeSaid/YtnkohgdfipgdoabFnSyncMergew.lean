/-
  The walk of FnSyncMerge over this seat.
-/
import Derived.Test.YtnkohgdfipgdoabJu
namespace Go.Proofs.Ytnkohgdfipgdoab
open Go.RowKit Go.Maps

set_option maxRecDepth 100000 in
set_option maxHeartbeats 4000000 in
theorem fnSyncMerge_walk (A : Option Addr) (len c : Nat) (f : Nat → Int) (w : World) (hlc : len ≤ c) (hc : c ≤ maxLen) (hB : Byt w w.heap.size A len f) :
   Calls Try.prog 5 #[.slice A len c] w fun e w' => e = .returned (.bool true) ∧ Below w.heap.size w w' := by
  have HB := Lib.hid hB
  clear hB
  by_cases hl : len ≤ 1048576
  · go_enter Try.func5, Try.ntmps5
    go_wp2_with fail
    refine (drawAdjSync_any A len c f w hlc hc HB.out).mono ?_
    rintro e w1 ⟨s, g, zs, A1, c1, os, B1, cb, rfl, hs0, hs1, hg0, hg1, hl9, ho9, hze8, hoe8, hsz, hso, hb1⟩
    have hze : ∀ x ∈ zs, x.es.length ≤ 2000000 := fun x hx => by have := hze8 x hx; omega
    have hoe : ∀ x ∈ os, x.es.length ≤ 2000000 := fun x hx => by have := hoe8 x hx; omega
    have L1 := Lib.hid (SL.start hsz hso hb1 s g)
    clear hsz hso hb1 hze8 hoe8 HB
    have CI := fun W (h1 : Slz W W.heap.size A1 zs) (h2 : Slz W W.heap.size B1 os) => sync_impl s g A1 zs c1 B1 os cb W (by omega) hze (by omega) hoe h1 h2
    have CS := fun W (h1 : Slz W W.heap.size A1 zs) (h2 : Slz W W.heap.size B1 os) => sync_spec s g A1 zs c1 B1 os cb W (by omega) hze (by omega) hoe h1 h2
    have CV := fun W => adjValid_spec s g W
    have CZ := fun W (h : Slz W W.heap.size A1 zs) => dbValid_spec A1 zs c1 W (by omega) hze h
    have CW := fun W (h : Slz W W.heap.size B1 os) => dbValid_spec B1 os cb W (by omega) hoe h
    generalize hr : syncA s g (datL zs) (datL os) = r at *
    obtain ⟨u, v⟩ := r
    cases h1 : adjB s g with
    | false =>
      rw [h1] at CV
      clear hr h1 CZ CW
      go_wp2_with fail
      generalize w1.heap.size = G at *
      generalize w1.alloc (.cells #[.int .i64 s, .int .i64 g] 26) = V1 at *
      refine (CI _ L1.out.sl L1.out.so).mono ?_
      clear CI
      rintro e w2 ⟨rfl, hb2⟩
      have L2 := Lib.hid (L1.out.call (hb2.alloc hb2.size (.cells #[.int .i64 u, .int .i64 v] 26)))
      have O2 := Lib.hid (Box.new w2 26 #[.int .i64 u, .int .i64 v])
      clear hb2 L1
      obtain ⟨za, a0, a1, -, -⟩ := L2.out.box.two
      go_wp2_with fail
      generalize w2.heap.size = X at *
      generalize w2.alloc (.cells #[.int .i64 u, .int .i64 v] 26) = V2 at *
      refine (CS _ L2.out.sl L2.out.so).mono ?_
      clear CS
      rintro e w3 ⟨rfl, hb3⟩
      have hb4 := hb3.alloc hb3.size (.cells #[.int .i64 u, .int .i64 v] 26)
      have L3 := Lib.hid (L2.out.call hb4)
      have O3 := Lib.hid (O2.out.below hb4 O2.out.lt)
      have W3 := Lib.hid (Box.new w3 26 #[.int .i64 u, .int .i64 v])
      clear hb3 hb4 L2 O2 za a0 a1
      obtain ⟨za, a0, a1, -, -⟩ := L3.out.box.two
      obtain ⟨zo, o0, o1, -, -⟩ := O3.out.two
      go_wp2_with fail
      generalize w3.heap.size = Y at *
      generalize w3.alloc (.cells #[.int .i64 u, .int .i64 v] 26) = V3 at *
      refine (CV _).mono ?_
      clear CV
      rintro e w4 ⟨rfl, hb4⟩
      have L4 := Lib.hid (L3.out.call hb4)
      have O4 := Lib.hid (O3.out.below hb4 O3.out.lt)
      have W4 := Lib.hid (W3.out.below hb4 W3.out.lt)
      clear hb4 L3 O3 W3 za a0 a1 zo o0 o1
      obtain ⟨za, a0, a1, -, -⟩ := L4.out.box.two
      obtain ⟨zo, o0, o1, -, -⟩ := O4.out.two
      obtain ⟨zw, p0, p1, -, -⟩ := W4.out.two
      go_wp2_with fail
      go_ret
      exact ⟨rfl, L4.out.bel⟩

    | true =>
      rw [h1] at CV
      cases h2 : dbB (datL zs) with
      | false =>
        rw [h2] at CZ
        clear hr h1 h2 CW
        go_wp2_with fail
        generalize w1.heap.size = G at *
        generalize w1.alloc (.cells #[.int .i64 s, .int .i64 g] 26) = V1 at *
        refine (CI _ L1.out.sl L1.out.so).mono ?_
        clear CI
        rintro e w2 ⟨rfl, hb2⟩
        have L2 := Lib.hid (L1.out.call (hb2.alloc hb2.size (.cells #[.int .i64 u, .int .i64 v] 26)))
        have O2 := Lib.hid (Box.new w2 26 #[.int .i64 u, .int .i64 v])
        clear hb2 L1
        obtain ⟨za, a0, a1, -, -⟩ := L2.out.box.two
        go_wp2_with fail
        generalize w2.heap.size = X at *
        generalize w2.alloc (.cells #[.int .i64 u, .int .i64 v] 26) = V2 at *
        refine (CS _ L2.out.sl L2.out.so).mono ?_
        clear CS
        rintro e w3 ⟨rfl, hb3⟩
        have hb4 := hb3.alloc hb3.size (.cells #[.int .i64 u, .int .i64 v] 26)
        have L3 := Lib.hid (L2.out.call hb4)
        have O3 := Lib.hid (O2.out.below hb4 O2.out.lt)
        have W3 := Lib.hid (Box.new w3 26 #[.int .i64 u, .int .i64 v])
        clear hb3 hb4 L2 O2 za a0 a1
        obtain ⟨za, a0, a1, -, -⟩ := L3.out.box.two
        obtain ⟨zo, o0, o1, -, -⟩ := O3.out.two
        go_wp2_with fail
        generalize w3.heap.size = Y at *
        generalize w3.alloc (.cells #[.int .i64 u, .int .i64 v] 26) = V3 at *
        refine (CV _).mono ?_
        clear CV
        rintro e w4 ⟨rfl, hb4⟩
        have L4 := Lib.hid (L3.out.call hb4)
        have O4 := Lib.hid (O3.out.below hb4 O3.out.lt)
        have W4 := Lib.hid (W3.out.below hb4 W3.out.lt)
        clear hb4 L3 O3 W3 za a0 a1 zo o0 o1
        go_wp2_with fail
        refine (CZ _ L4.out.sl).mono ?_
        clear CZ
        rintro e w5 ⟨rfl, hb5⟩
        have L5 := Lib.hid (L4.out.call hb5)
        have O5 := Lib.hid (O4.out.below hb5 O4.out.lt)
        have W5 := Lib.hid (W4.out.below hb5 W4.out.lt)
        clear hb5 L4 O4 W4
        obtain ⟨za, a0, a1, -, -⟩ := L5.out.box.two
        obtain ⟨zo, o0, o1, -, -⟩ := O5.out.two
        obtain ⟨zw, p0, p1, -, -⟩ := W5.out.two
        go_wp2_with fail
        go_ret
        exact ⟨rfl, L5.out.bel⟩

      | true =>
        rw [h2] at CZ
        cases h3 : dbB (datL os) with
        | false =>
          rw [h3] at CW
          clear hr h1 h2 h3
          go_wp2_with fail
          generalize w1.heap.size = G at *
          generalize w1.alloc (.cells #[.int .i64 s, .int .i64 g] 26) = V1 at *
          refine (CI _ L1.out.sl L1.out.so).mono ?_
          clear CI
          rintro e w2 ⟨rfl, hb2⟩
          have L2 := Lib.hid (L1.out.call (hb2.alloc hb2.size (.cells #[.int .i64 u, .int .i64 v] 26)))
          have O2 := Lib.hid (Box.new w2 26 #[.int .i64 u, .int .i64 v])
          clear hb2 L1
          obtain ⟨za, a0, a1, -, -⟩ := L2.out.box.two
          go_wp2_with fail
          generalize w2.heap.size = X at *
          generalize w2.alloc (.cells #[.int .i64 u, .int .i64 v] 26) = V2 at *
          refine (CS _ L2.out.sl L2.out.so).mono ?_
          clear CS
          rintro e w3 ⟨rfl, hb3⟩
          have hb4 := hb3.alloc hb3.size (.cells #[.int .i64 u, .int .i64 v] 26)
          have L3 := Lib.hid (L2.out.call hb4)
          have O3 := Lib.hid (O2.out.below hb4 O2.out.lt)
          have W3 := Lib.hid (Box.new w3 26 #[.int .i64 u, .int .i64 v])
          clear hb3 hb4 L2 O2 za a0 a1
          obtain ⟨za, a0, a1, -, -⟩ := L3.out.box.two
          obtain ⟨zo, o0, o1, -, -⟩ := O3.out.two
          go_wp2_with fail
          generalize w3.heap.size = Y at *
          generalize w3.alloc (.cells #[.int .i64 u, .int .i64 v] 26) = V3 at *
          refine (CV _).mono ?_
          clear CV
          rintro e w4 ⟨rfl, hb4⟩
          have L4 := Lib.hid (L3.out.call hb4)
          have O4 := Lib.hid (O3.out.below hb4 O3.out.lt)
          have W4 := Lib.hid (W3.out.below hb4 W3.out.lt)
          clear hb4 L3 O3 W3 za a0 a1 zo o0 o1
          go_wp2_with fail
          refine (CZ _ L4.out.sl).mono ?_
          clear CZ
          rintro e w5 ⟨rfl, hb5⟩
          have L5 := Lib.hid (L4.out.call hb5)
          have O5 := Lib.hid (O4.out.below hb5 O4.out.lt)
          have W5 := Lib.hid (W4.out.below hb5 W4.out.lt)
          clear hb5 L4 O4 W4
          go_wp2_with fail
          refine (CW _ L5.out.so).mono ?_
          clear CW
          rintro e w6 ⟨rfl, hb6⟩
          have L6 := Lib.hid (L5.out.call hb6)
          have O6 := Lib.hid (O5.out.below hb6 O5.out.lt)
          have W6 := Lib.hid (W5.out.below hb6 W5.out.lt)
          clear hb6 L5 O5 W5
          obtain ⟨za, a0, a1, -, -⟩ := L6.out.box.two
          obtain ⟨zo, o0, o1, -, -⟩ := O6.out.two
          obtain ⟨zw, p0, p1, -, -⟩ := W6.out.two
          go_wp2_with fail
          go_ret
          exact ⟨rfl, L6.out.bel⟩

        | true =>
          rw [h3] at CW
          have hb : syncB s g (datL zs) (datL os) = true := by unfold syncB; rw [h1, h2, h3]; rfl
          obtain ⟨hvg, hu2, hu3, hsame, hless, htwice⟩ := sync_facts hb hr
          have CM := fun W (h1 : Slz W W.heap.size A1 zs) (h2 : Slz W W.heap.size B1 os) => dbMerge_impl A1 zs c1 B1 os cb W (by omega) hze (by omega) hoe h1 h2
          have CN := fun W (h1 : Slz W W.heap.size B1 os) (h2 : Slz W W.heap.size A1 zs) => dbMerge_impl B1 os cb A1 zs c1 W (by omega) hoe (by omega) hze h1 h2
          rw [h2, h3] at CM CN
          have HX1 := Lib.hid (fun (ys : List Lz) (h : datL ys = mergeD (datL zs) (datL os)) => merge_short h)
          have HX2 := Lib.hid (fun (ys : List Lz) (h : datL ys = mergeD (datL os) (datL zs)) => merge_short h)
          have HSM := Lib.hid (fun (h : 2 ≤ s) => (show (syncA s g (mergeD (datL zs) (datL os)) (mergeD (datL os) (datL zs))).1 = 3 by rw [mergeD_valid h2 h3, mergeD_valid h3 h2]; exact sync_merged hb h))
          clear hr h1 h2 h3 hb hvg hu2 hu3 hsame hless htwice
          go_wp2_with fail
          generalize w1.heap.size = G at *
          generalize w1.alloc (.cells #[.int .i64 s, .int .i64 g] 26) = V1 at *
          refine (CI _ L1.out.sl L1.out.so).mono ?_
          clear CI
          rintro e w2 ⟨rfl, hb2⟩
          have L2 := Lib.hid (L1.out.call (hb2.alloc hb2.size (.cells #[.int .i64 u, .int .i64 v] 26)))
          have O2 := Lib.hid (Box.new w2 26 #[.int .i64 u, .int .i64 v])
          clear hb2 L1
          obtain ⟨za, a0, a1, -, -⟩ := L2.out.box.two
          go_wp2_with fail
          generalize w2.heap.size = X at *
          generalize w2.alloc (.cells #[.int .i64 u, .int .i64 v] 26) = V2 at *
          refine (CS _ L2.out.sl L2.out.so).mono ?_
          clear CS
          rintro e w3 ⟨rfl, hb3⟩
          have hb4 := hb3.alloc hb3.size (.cells #[.int .i64 u, .int .i64 v] 26)
          have L3 := Lib.hid (L2.out.call hb4)
          have O3 := Lib.hid (O2.out.below hb4 O2.out.lt)
          have W3 := Lib.hid (Box.new w3 26 #[.int .i64 u, .int .i64 v])
          clear hb3 hb4 L2 O2 za a0 a1
          obtain ⟨za, a0, a1, -, -⟩ := L3.out.box.two
          obtain ⟨zo, o0, o1, -, -⟩ := O3.out.two
          go_wp2_with fail
          generalize w3.heap.size = Y at *
          generalize w3.alloc (.cells #[.int .i64 u, .int .i64 v] 26) = V3 at *
          refine (CV _).mono ?_
          clear CV
          rintro e w4 ⟨rfl, hb4⟩
          have L4 := Lib.hid (L3.out.call hb4)
          have O4 := Lib.hid (O3.out.below hb4 O3.out.lt)
          have W4 := Lib.hid (W3.out.below hb4 W3.out.lt)
          clear hb4 L3 O3 W3 za a0 a1 zo o0 o1
          go_wp2_with fail
          refine (CZ _ L4.out.sl).mono ?_
          clear CZ
          rintro e w5 ⟨rfl, hb5⟩
          have L5 := Lib.hid (L4.out.call hb5)
          have O5 := Lib.hid (O4.out.below hb5 O4.out.lt)
          have W5 := Lib.hid (W4.out.below hb5 W4.out.lt)
          clear hb5 L4 O4 W4
          go_wp2_with fail
          refine (CW _ L5.out.so).mono ?_
          clear CW
          rintro e w6 ⟨rfl, hb6⟩
          have L6 := Lib.hid (L5.out.call hb6)
          have O6 := Lib.hid (O5.out.below hb6 O5.out.lt)
          have W6 := Lib.hid (W5.out.below hb6 W5.out.lt)
          clear hb6 L5 O5 W5
          obtain ⟨za, a0, a1, -, -⟩ := L6.out.box.two
          obtain ⟨zo, o0, o1, -, -⟩ := O6.out.two
          by_cases hs : s < 2
          · clear HX1 HX2 HSM CM CN
            obtain ⟨zw, p0, p1, -, -⟩ := W6.out.two
            go_wp2_with fail
            go_ret
            exact ⟨rfl, L6.out.bel⟩
          · have hs2 : (2 : Int) ≤ s := by omega
            clear W6
            go_wp2_with fail
            refine (CM _ L6.out.sl L6.out.so).mono ?_
            clear CM
            rintro e w7 ⟨xs, X7, cx, rfl, hdx, hzx, hb7⟩
            have L7 := Lib.hid (L6.out.call hb7)
            have X7 := Lib.hid (hzx.slz hb7.size)
            have HDX := Lib.hid hdx
            obtain ⟨hxl, hxe, -⟩ := HX1.out xs hdx
            clear hb7 L6 O6 za a0 a1 zo o0 o1 hzx hdx
            go_wp2_with fail
            refine (CN _ L7.out.so L7.out.sl).mono ?_
            clear CN
            rintro e w8 ⟨ys, Y8, cy, rfl, hdy, hzy, hb8⟩
            have L8 := Lib.hid (L7.out.call hb8)
            have X8 := Lib.hid (X7.out.grow hb8)
            have Y8' := Lib.hid (hzy.slz hb8.size)
            obtain ⟨hyl, hye, -⟩ := HX2.out ys hdy
            have C2 := fun Xa cx Ya cy W (h1 : Slz W W.heap.size Xa xs) (h2 : Slz W W.heap.size Ya ys) => sync_impl s g Xa xs cx Ya ys cy W (by omega) (fun x hx => by have := hxe x hx; omega) (by omega) (fun x hx => by have := hye x hx; omega) h1 h2
            rw [HDX.out, hdy] at C2
            have hsm := HSM.out hs2
            clear hb8 L7 X7 hzy hdy HDX HX1 HX2 HSM
            generalize syncA s g (mergeD (datL zs) (datL os)) (mergeD (datL os) (datL zs)) = r2 at *
            obtain ⟨u2, v2⟩ := r2
            dsimp only at hsm
            subst hsm
            simp only [adjV] at C2
            have hf : ∀ W : World, Sem.run Try.prog (Instr.field 26 (.agg #[.int .i64 3, .int .i64 v2]) 0) W = .ok (.int .i64 3) W := fun W => by unfold Instr.field; simp [go_sem, asAgg, Result.andThen]
            obtain ⟨za, a0, a1, -, -⟩ := L8.out.box.two
            go_wp2_with fail
            refine (C2 _ _ _ _ _ X8.out Y8'.out).mono ?_
            rintro e w9 ⟨rfl, hb9⟩
            have L9 := Lib.hid (L8.out.call hb9)
            clear hb9
            go_wp2_with fail
            go_ret
            exact ⟨rfl, L9.out.bel⟩
  · go_enter Try.func5, Try.ntmps5
    go_wp2
    go_ret
    exact ⟨rfl, by (repeat (first | exact Below.refl _ _ | (refine Below.alloc ?_ (by first | exact Nat.le_refl _ | omega | (simp; done) | (simp; omega)) _) | (refine Below.setCell ?_ (by first | exact Nat.le_refl _ | omega | (simp; done) | (simp; omega)) _) | exact Below.drew ‹_›))⟩

end Go.Proofs.Ytnkohgdfipgdoab
