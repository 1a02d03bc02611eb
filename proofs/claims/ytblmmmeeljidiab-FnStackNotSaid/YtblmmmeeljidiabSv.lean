/-
  A contract over this seat: what the law of links that are not crossed draws.
-/
import Derived.Test.YtblmmmeeljidiabSu
import Derived.Test.YtblmmmeeljidiabLn
import Derived.Test.YtblmmmeeljidiabQx
namespace Go.Proofs.Ytblmmmeeljidiab
open Go.RowKit Go.Maps

theorem grown_below {w w' : World} (r : Option Nat) (h : Below w.heap.size w w') : w.grownBy w' r := ⟨h.os, h.tape, h.output, h.size, fun k hk _ => h.block k hk⟩
/-- What 'spec.DrawStackCrosses' answers. -/
def DStkX (w : World) (e : Ending) (w' : World) : Prop :=
  ∃ (n : Int) (ls : List Lk) (A' : Option Addr) (g' c' : Nat) (x : Int) (st : List Lb) (gx cx : Nat) (t : Int), e = .returned (.tuple #[gval n A' ls.length c', .int .i64 x, .slice (some ⟨gx, 0, none⟩) st.length cx, .int .i64 t]) ∧ DG w n ls A' g' w' ∧ -1 ≤ x ∧ x ≤ 10 ∧
    st.length ≤ 9 ∧ (∀ l ∈ st, LbOk l) ∧ Ownb w' (some ⟨gx, 0, none⟩) gx st ∧ w.heap.size ≤ gx ∧ st.length ≤ cx ∧ gx < w'.heap.size ∧ -1 ≤ t ∧ t ≤ 16
/-- The state while labels and a link are drawn. -/
def DK (w : World) (R Q G : Nat) (A : Option Addr) (len c : Nat) (f : Nat → Int) (P : Nat) (n : Int) (ls : List Lk) (A' : Option Addr) (g' c' : Nat) (st : List Lb) (gx : Nat) (wx : World) : Prop :=
  DI w R Q G A len c f P n ls A' g' c' wx ∧ Ownb wx (some ⟨gx, 0, none⟩) gx st ∧ (∀ l ∈ st, LbOk l) ∧ G < gx ∧ gx < wx.heap.size ∧ R < G ∧ Q < G
section
variable {w w1 w2 : World} {R Q G : Nat} {A : Option Addr} {len c : Nat} {f : Nat → Int} {P P' : Nat} {n : Int} {ls : List Lk} {A' : Option Addr} {g' c' gx : Nat} {st : List Lb}
theorem DK.link (h : DK w R Q G A len c f P n ls A' g' c' st gx w1) (hr : RD R A len c f P' w2) (hg : w1.grownBy w2 (some R)) : DK w R Q G A len c f P' n ls A' g' c' st gx w2 := by
  obtain ⟨h1, h2, h3, h4, h5, h6, h7⟩ := h
  exact ⟨h1.node hr hg, h2.grownFar hg (by omega), h3, h4, Nat.lt_of_lt_of_le h5 hg.size, h6, h7⟩
theorem DK.call (h : DK w R Q G A len c f P n ls A' g' c' st gx w1) (hb : Below w1.heap.size w1 w2) : DK w R Q G A len c f P n ls A' g' c' st gx w2 :=
  h.link (h.1.1.below (hb.mono h.1.1.lt)) (grown_below _ hb)
theorem DK.more (h : DK w R Q G A len c f P n ls A' g' c' st gx w1) (hP : P ≤ P') : DK w R Q G A len c f P' n ls A' g' c' st gx w1 := by
  obtain ⟨⟨h1, h2⟩, h3⟩ := h
  exact ⟨⟨h1.mono hP, h2⟩, h3⟩
theorem DK.done {x t : Int} {cx : Nat} (h : DK w R Q G A len c f P n ls A' g' c' st gx w1) (hn0 : 0 ≤ n) (hn1 : n ≤ 10) (hls : ls.length ≤ 16) (hx0 : -1 ≤ x) (hx1 : x ≤ 10) (ht0 : -1 ≤ t) (ht1 : t ≤ 16) (hs9 : st.length ≤ 9) (hcx : st.length ≤ cx) {u0 u1 : Value} :
    DStkX w (.returned (.tuple #[gval n A' ls.length c', .int .i64 x, .slice (some ⟨gx, 0, none⟩) st.length cx, .int .i64 t])) ((w1.setCell ⟨Q, 0, none⟩ u0).setCell ⟨Q, 1, none⟩ u1) := by
  obtain ⟨h1, h2, h3, h4, h5, h6, h7⟩ := h
  exact ⟨n, ls, A', g', c', x, st, gx, cx, t, rfl, h1.dg hn0 hn1 hls _ _, hx0, hx1, hs9, h3, (h2.set_far (by show gx ≠ Q; omega) _).set_far (by show gx ≠ Q; omega) _, by have := h1.2.2.2.2.2.1; omega, hcx, by simpa using h5, ht0, ht1⟩
end

set_option maxRecDepth 100000 in
set_option maxHeartbeats 1600000 in
theorem drawStackCrosses_any (A : Option Addr) (len c : Nat) (f : Nat → Int) (w : World) (hlc : len ≤ c) (hc : c ≤ maxLen) (hB : Byt w w.heap.size A len f) :
   Calls Try.prog 25 #[.slice A len c] w (DStkX w) := by
  have HB := Lib.hid (hB.alloc (.cells #[.int .i64 0, .slice none 0 0] 25))
  have HQ := Lib.hid (Box.new w 25 #[.int .i64 0, .slice none 0 0])
  clear hB
  go_enter Try.func25, Try.ntmps25
  go_wp2_with fail
  refine (open_any A len c f _ hlc hc HB.out).mono ?_
  rintro e w1 ⟨l1, hl1, rfl, hr1, hb1, hs1⟩
  rw [World.size_alloc] at hr1 hb1 hs1
  have H1 := Lib.hid hr1
  have B1 := Lib.hid (Below.trans (B := w.heap.size) (a := w) (by (repeat (first | exact Below.refl _ _ | (refine Below.alloc ?_ (by first | exact Nat.le_refl _ | omega | (simp; done) | (simp; omega)) _) | (refine Below.setCell ?_ (by first | exact Nat.le_refl _ | omega | (simp; done) | (simp; omega)) _) | exact Below.drew ‹_›))) (hb1.mono (by omega)))
  have Q1 := Lib.hid (HQ.out.below hb1 (by omega))
  clear hr1 hb1 HQ HB
  have hq := World.size_alloc w (.cells #[.int .i64 0, .slice none 0 0] 25)
  rw [hq]
  go_wp2_with fail
  refine (spoilt_any _ A l1 c 0 f w1 hl1 (by omega) H1.out).mono ?_
  rintro e w2 ⟨n, ls, A2, g2, c2, rfl, hn0, hn1, hls, hg2, ho2, hr2, hb2, -⟩
  have D2 := Lib.hid (show DI w (w.heap.size + 1) w.heap.size w2.heap.size A l1 c f (0 + 1010) n ls A2 g2 c2 (w2.alloc (.cells #[.int .i64 n, .slice A2 ls.length c2] 25)) from
    ⟨hr2.alloc _, (Q1.out.grown hb2 (by omega)).alloc _, Box.new w2 _ _, ho2.alloc _, (B1.out.grown hb2 (by omega) (fun k e => by injection e with e; omega)).alloc (by have := hb2.size; omega) _,
      by omega, by omega, by omega, by omega, by have := hb2.size; omega, by omega, by have := hb2.size; omega⟩)
  have hgR : g2 ≠ w.heap.size + 1 := by omega
  have hG0 : w.heap.size + 1 < w2.heap.size := by have := hb2.size; omega
  clear hr2 hb2 ho2 H1 B1 Q1 hg2
  generalize hG : w2.heap.size = G at *
  go_wp2_with fail
  refine (node_any _ A l1 c _ f n A2 ls.length c2 _ hl1 (by omega) hn0 hn1 D2.out.1).mono ?_
  rintro e w3 ⟨x, rfl, hx0, hx1, hr3, hb3⟩
  have D3 := Lib.hid (D2.out.node hr3 hb3)
  clear hr3 hb3 D2 hG
  obtain ⟨zg, d0, d1, p0, p1⟩ := D3.out.2.2.1.two
  have zq := D3.out.2.1.lt
  have hGR : w.heap.size + 1 < G := by omega
  have hGQ : w.heap.size < G := by omega
  go_wp2_with fail
  refine (stackd_any _ A l1 c _ f n ls A2 g2 c2 x _ hl1 (by omega) hn0 hn1 hls ⟨hx0, by omega⟩ D3.out.1 D3.out.2.2.2.1 hgR).mono ?_
  rintro e w5 ⟨st, Ax, cx, rfl, hs9, hok, hrow, hr5, hg5, hsz, hne⟩
  obtain ⟨g9, rfl, hg9, hg9l, ho9, hc9⟩ := own_some hrow hne
  have D5 := Lib.hid (show DK _ _ _ _ _ _ _ _ _ _ _ _ _ _ _ _ _ from ⟨D3.out.node hr5 hg5, ho9, hok, by omega, hg9l, hGR, hGQ⟩)
  clear hr5 hg5 hrow ho9 hok D3 hsz hne d0 d1 p0 p1 zg
  obtain ⟨zg, d0, d1, p0, p1⟩ := D5.out.1.2.2.1.two
  go_wp2_with fail
  refine (linkn_any _ A l1 c _ f n A2 ls.length c2 _ hl1 (by omega) hls D5.out.1.1).mono ?_
  rintro e w6 ⟨t0, rfl, ht0, ht1, hr6, hg6⟩
  have D6 := Lib.hid (D5.out.link hr6 hg6)
  clear hr6 hg6 D5 d0 d1 p0 p1 zg
  go_wp2_with fail
  go_loopw [9, 10, 11] (fun v q i wr => ∃ (k : Nat) (t : Int) (st : List Lb) (gx cx : Nat), k ≤ 6 ∧ i = .int .i64 k ∧ q = .int .i64 t ∧ -1 ≤ t ∧ t ≤ 16 ∧ v = .slice (some ⟨gx, 0, none⟩) st.length cx ∧ st.length ≤ 9 ∧ st.length ≤ cx ∧ DK w (w.heap.size + 1) w.heap.size G A l1 c f (2000 + 62 * k) n ls A2 g2 c2 st gx wr) (fun _ _ i _ => (6 - intOf i).toNat)
  case atStart => exact ⟨0, t0, st, g9, cx, by omega, rfl, rfl, ht0, ht1, rfl, hs9, hc9, D6.out.more (by omega)⟩
  case round =>
    clear D6 hg9 hg9l hs9 hc9 ht0 ht1
    obtain ⟨k, t, st, gx, cx, hk, rfl, rfl, ht0, ht1, rfl, hs9, hcx, hdk⟩ := hrel
    have S := Lib.hid hdk
    obtain ⟨zg, d0, d1, p0, p1⟩ := hdk.1.2.2.1.two
    clear hdk
    by_cases hlt : k < 6
    · go_wp2_with fail
      refine (stackCrosses_spec n A2 ls c2 x (some ⟨gx, 0, none⟩) st cx t wr (by omega) (by omega) (by omega) S.out.1.2.2.2.1.sl S.out.2.1.slb).mono ?_
      rintro e w7 ⟨rfl, hb7⟩
      have S7 := Lib.hid (S.out.call hb7)
      clear hb7 S d0 d1 p0 p1 zg
      obtain ⟨zg, d0, d1, p0, p1⟩ := S7.out.1.2.2.1.two
      cases hcr : crossS n ls x st t with
      | true =>
        clear hcr
        obtain ⟨zq5, e0, e1, q0, q1⟩ := S7.out.1.2.1.two
        go_wp2_with fail
        obtain ⟨b2, r0, r1⟩ := ret_two S7.out.1.2.1 (.int .i64 n) (.slice A2 ls.length c2)
        refine bodyPost_ret (v := .tuple #[gval n A2 ls.length c2, .int .i64 x, .slice (some ⟨gx, 0, none⟩) st.length cx, .int .i64 t]) (by simp [results, Try.results25, go_sem, r0, r1]) rfl ?_
        exact S7.out.done hn0 hn1 hls hx0 hx1 ht0 ht1 hs9 hcx
      | false =>
        clear hcr
        go_wp2_with fail
        refine (stackd_any _ A l1 c _ f n ls A2 g2 c2 x _ hl1 (by omega) hn0 hn1 hls ⟨hx0, by omega⟩ S7.out.1.1 S7.out.1.2.2.2.1 hgR).mono ?_
        clear hs9 hcx
        have hGw := S7.out.2.2.2.2.1
        have hGx := S7.out.2.2.2.1
        rintro e w8 ⟨st8, Ax, cx8, rfl, hs9, hok, hrow, hr5, hg5, hsz, hne⟩
        obtain ⟨g8, rfl, hg9, hg9l, ho9, hc9⟩ := own_some hrow hne
        have S8 := Lib.hid (show DK _ _ _ _ _ _ _ _ _ _ _ _ _ _ _ _ _ from ⟨S7.out.1.node hr5 hg5, ho9, hok, by omega, hg9l, hGR, hGQ⟩)
        clear hr5 hg5 hrow ho9 hok S7 hsz hne d0 d1 p0 p1 zg hGw hGx
        obtain ⟨zg, d0, d1, p0, p1⟩ := S8.out.1.2.2.1.two
        go_wp2_with fail
        refine (linkn_any _ A l1 c _ f n A2 ls.length c2 _ hl1 (by omega) hls S8.out.1.1).mono ?_
        rintro e w9 ⟨t9, rfl, ht0, ht1, hr6, hg6⟩
        have S9 := Lib.hid (S8.out.link hr6 hg6)
        clear hr6 hg6 S8 d0 d1 p0 p1 zg
        go_wp2_with fail
        go_roundw
        case rel => exact ⟨k + 1, t9, st8, g8, cx8, by omega, by go_num, rfl, ht0, ht1, rfl, hs9, hc9, S9.out.more (by omega)⟩
        case measure => simp [intOf]; omega
    · obtain ⟨zq5, e0, e1, q0, q1⟩ := S.out.1.2.1.two
      go_wp2_with fail
      obtain ⟨b2, r0, r1⟩ := ret_two S.out.1.2.1 (.int .i64 n) (.slice A2 ls.length c2)
      refine bodyPost_ret (v := .tuple #[gval n A2 ls.length c2, .int .i64 x, .slice (some ⟨gx, 0, none⟩) st.length cx, .int .i64 t]) (by simp [results, Try.results25, go_sem, r0, r1]) rfl ?_
      exact S.out.done hn0 hn1 hls hx0 hx1 ht0 ht1 hs9 hcx
end Go.Proofs.Ytblmmmeeljidiab
