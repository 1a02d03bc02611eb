/-
  A map of announcements by their origins, as the program keeps it.
-/
import Derived.Maps.OwnSet
import Derived.Maps.Range
import Derived.Maps.Ext
import Derived.Lib.SlKeysI
import Derived.Test.YtnkohgdfipgdoabZc
namespace Go.Proofs.Ytnkohgdfipgdoab
open Go.RowKit Go.Maps Go.ChangeMaps

/-- How an element reads: as itself. -/
abbrev lzR (v : Value) : Option (DataW Value × List MemPlace) := some (.held v, [])
abbrev kI (o : Int) : Lit := .int .i64 o
abbrev z0v : Value := .agg #[.int .i64 0, .int .i64 0, .slice none 0 0]
theorem lawInt : Keyed Try.prog 3 := int_keyed Try.underlying3
theorem zeroLsa (w : World) : (zeroValue 54).run Try.prog w = .ok z0v w := by kernel_rfl
/-- The datum D has just what f says. -/
structure RelM (D : DataW Value) (f : Int → Option Lz) : Prop where
  has : ∀ o, Maps.has D (kI o) = (f o).isSome
  val : ∀ o z, f o = some z → ∀ zd, D.atKey (kI o) zd = .held z.v
/-- Block b is a map of at most n announcements: under o the one that f has. -/
def OwnM (w : World) (b n : Nat) (f : Int → Option Lz) : Prop := ∃ D, w.ownsMap Try.prog 3 lzR b n D ∧ RelM D f
def setM (f : Int → Option Lz) (z : Lz) : Int → Option Lz := fun o => if o = z.o then some z else f o
theorem OwnM.lt {w : World} {b n : Nat} {f : Int → Option Lz} (h : OwnM w b n f) : b < w.heap.size := let ⟨_, h, _⟩ := h; h.lt
theorem OwnM.mono {w : World} {b n n' : Nat} {f : Int → Option Lz} (h : OwnM w b n f) (hn : n ≤ n') : OwnM w b n' f := let ⟨D, h, r⟩ := h; ⟨D, h.mono hn, r⟩
theorem OwnM.block {w w' : World} {b n : Nat} {f : Int → Option Lz} (h : OwnM w b n f) (e : w'.heap[b]? = w.heap[b]?) : OwnM w' b n f := by
  obtain ⟨D, ⟨es, clock, hb, F, hs, hD⟩, r⟩ := h
  exact ⟨D, ⟨es, clock, e.trans hb, F, hs, hD⟩, r⟩
theorem OwnM.below {w w' : World} {b n B : Nat} {f : Int → Option Lz} (h : OwnM w b n f) (hb : Below B w w') (hl : b < B) : OwnM w' b n f := h.block (hb.block b hl)
theorem OwnM.call {w w' : World} {b n : Nat} {f : Int → Option Lz} (h : OwnM w b n f) (hb : Below w.heap.size w w') : OwnM w' b n f := h.below hb h.lt
theorem OwnM.made (w : World) : OwnM (w.alloc (.map #[] 0)) w.heap.size 0 (fun _ => none) :=
  ⟨.map [], World.ownsMap_made w _ _ _, ⟨fun o => rfl, fun o z h => by cases h⟩⟩
theorem keyI {o : Int} (h : -9223372036854775808 ≤ o ∧ o ≤ 9223372036854775807) : keyOf Try.prog 3 (.int .i64 o) = some (kI o) := keyOf_int_mk Try.underlying3 (WalkArith.wf_i64 h)
theorem OwnM.look {w : World} {b n : Nat} {f : Int → Option Lz} (h : OwnM w b n f) {o : Int} (ho : -9223372036854775808 ≤ o ∧ o ≤ 9223372036854775807) :
    (∀ z, f o = some z → (Instr.lookup 80 (.map (some b)) (.int .i64 o) true).run Try.prog w = .ok (.tuple #[z.v, .bool true]) w ∧ (Instr.lookup 80 (.map (some b)) (.int .i64 o) false).run Try.prog w = .ok z.v w) ∧
    (f o = none → (Instr.lookup 80 (.map (some b)) (.int .i64 o) true).run Try.prog w = .ok (.tuple #[z0v, .bool false]) w ∧ (Instr.lookup 80 (.map (some b)) (.int .i64 o) false).run Try.prog w = .ok z0v w) := by
  obtain ⟨D, hm, r⟩ := h
  obtain ⟨v, ps, h1, h2⟩ := hm.look_ok lawInt Try.underlying80 (zeroLsa w) (zd := .held z0v) (zp := []) rfl (keyI ho)
  obtain ⟨v', ps', h3, h4⟩ := hm.lookup lawInt Try.underlying80 (zeroLsa w) (zd := .held z0v) (zp := []) rfl (keyI ho)
  rw [r.has] at h1
  constructor
  · intro z hz
    rw [r.val o z hz] at h2 h4
    rw [hz] at h1
    simp only [lzR, Option.some.injEq, Prod.mk.injEq, DataW.held.injEq] at h2 h4
    rw [h2.1] at h1
    rw [h4.1] at h3
    exact ⟨h1, h3⟩
  · intro hz
    have hn : Maps.has D (kI o) = false := by rw [r.has, hz]; rfl
    rw [atKey_of_not_has hn] at h2 h4
    rw [hz] at h1
    simp only [lzR, Option.some.injEq, Prod.mk.injEq, DataW.held.injEq] at h2 h4
    rw [h2.1] at h1
    rw [h4.1] at h3
    exact ⟨h1, h3⟩
theorem key_ne {a b : Int} (h : a ≠ b) : kI a ≠ kI b := fun e => h (by simpa [kI] using e)
theorem RelM.set {D : DataW Value} {f : Int → Option Lz} (r : RelM D f) (hD : IsMap D) (z : Lz) : RelM (D.put (kI z.o) (.held z.v)) (setM f z) := by
  have hk : WideAt.IsKeyLit (kI z.o) := trivial
  constructor
  · intro o
    unfold setM
    by_cases ho : o = z.o
    · rw [if_pos ho, ho, has_put_same hD hk]; rfl
    · rw [if_neg ho, has_put_other (key_ne ho), r.has]
  · intro o x hx zd
    unfold setM at hx
    by_cases ho : o = z.o
    · rw [if_pos ho] at hx
      cases hx
      rw [ho, atKey_put_same hD hk]
    · rw [if_neg ho] at hx
      rw [atKey_put_other (key_ne ho), r.val o x hx]
theorem OwnM.store {w : World} {b n : Nat} {f : Int → Option Lz} (h : OwnM w b n f) (z : Lz) (ho : -9223372036854775808 ≤ z.o ∧ z.o ≤ 9223372036854775807) (hn : n < maxLen) :
    ∃ w', (Instr.mapUpdate 80 (.map (some b)) (.int .i64 z.o) z.v).run Try.prog w = .ok () w' ∧ OwnM w' b (n + 1) (setM f z) ∧ w.grownBy w' (some b) ∧ w.heap.size = w'.heap.size := by
  obtain ⟨D, hm, r⟩ := h
  obtain ⟨w', h1, h2, h3⟩ := hm.store lawInt Try.underlying80 hn (keyI ho) (show lzR z.v = some (.held z.v, []) from rfl)
  refine ⟨w', h1, ⟨_, h2, r.set hm.isMap z⟩, h3.grown, ?_⟩
  obtain ⟨_, _, _, _, _, rfl⟩ := h3
  simp [setBlock]
/-- The keys of such a map, in order. -/
theorem relM_keys {w : World} {b n : Nat} {D : DataW Value} {f : Int → Option Lz} (hm : w.ownsMap Try.prog 3 lzR b n D) (r : RelM D f) {ss : List Int} (hp : ss.Perm (intKeys D)) :
    (∀ x, x ∈ ss ↔ (f x).isSome = true) ∧ ss.Nodup := by
  obtain ⟨es, hD, hpw, _⟩ := hm.entries lawInt
  obtain ⟨es', hD', hko⟩ := hm.keysOf
  obtain rfl : es = es' := by rw [hD] at hD'; simpa using hD'
  subst hD
  have hk : ∀ p ∈ es, ∃ x, p.1 = .int .i64 x := fun p hp => by obtain ⟨v, hv⟩ := hko p hp; obtain ⟨x, _, hx, _⟩ := Maps.keyOf_i64 Try.underlying3 hv; exact ⟨x, hx⟩
  have hnd : (intKeys (.map es : DataW Value)).Nodup := by
    refine List.pairwise_map.2 (hpw.imp_of_mem fun {p q} hp' hq' hne e => hne ?_)
    obtain ⟨a, ha⟩ := hk p hp'
    obtain ⟨b, hb⟩ := hk q hq'
    rw [ha, hb] at e ⊢
    exact congrArg _ e
  refine ⟨fun x => ?_, (hp.nodup_iff).2 hnd⟩
  rw [hp.mem_iff, ← r.has x, has_eq, List.any_eq_true]
  show x ∈ es.map (fun p => Go.intOf p.1) ↔ _
  rw [List.mem_map]
  constructor
  · rintro ⟨p, hp', rfl⟩
    obtain ⟨a, ha⟩ := hk p hp'
    exact ⟨p, hp', by rw [ha]; simp [Lit.sameKey, Go.intOf]⟩
  · rintro ⟨p, hp', hs⟩
    obtain ⟨a, ha⟩ := hk p hp'
    rw [ha] at hs
    exact ⟨p, hp', by rw [ha]; simpa [kI, Lit.sameKey, Go.intOf] using hs⟩

end Go.Proofs.Ytnkohgdfipgdoab
