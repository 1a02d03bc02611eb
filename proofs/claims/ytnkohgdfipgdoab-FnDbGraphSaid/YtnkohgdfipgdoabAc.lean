/-
  Plain facts: the costs between two nodes, as a law finds them in a list of announcements one after another.
-/
import Derived.Test.YtnkohgdfipgdoabAr
namespace Go.Proofs.Ytnkohgdfipgdoab

/-- What stands behind the neighbours es of o, where t stood ahead of them. -/
def scE (o a b : Int) (es : List Lb) (t : Int) : Int := es.foldl (fun t e => if o = a ∧ e.k = b then e.a else t) t
def scD (a b : Int) (db : List La) (t : Int) : Int := db.foldl (fun t l => scE l.o a b l.es t) t
theorem scE_step {o a b : Int} {es : List Lb} {k : Nat} {e : Lb} (h : es[k]? = some e) (t : Int) : scE o a b (es.take (k + 1)) t = if o = a ∧ e.k = b then e.a else scE o a b (es.take k) t := by
  unfold scE
  rw [List.take_add_one, h, List.foldl_append]
  rfl
theorem scD_step {a b : Int} {db : List La} {k : Nat} {l : La} (h : db[k]? = some l) (t : Int) : scD a b (db.take (k + 1)) t = scE l.o a b l.es (scD a b (db.take k) t) := by
  unfold scD
  rw [List.take_add_one, h, List.foldl_append]
  rfl
theorem scE_miss {o a b : Int} {es : List Lb} (h : o ≠ a) (t : Int) : scE o a b es t = t := by
  unfold scE
  induction es generalizing t with
  | nil => rfl
  | cons e r ih => rw [List.foldl_cons, if_neg (fun x => h x.1)]; exact ih t
theorem scE_none {o a b : Int} {es : List Lb} (h : ∀ e ∈ es, e.k ≠ b) (t : Int) : scE o a b es t = t := by
  unfold scE
  induction es generalizing t with
  | nil => rfl
  | cons e r ih =>
    rw [List.foldl_cons, if_neg (fun x => h e (List.mem_cons_self ..) x.2)]
    exact ih (fun x hx => h x (List.mem_cons_of_mem _ hx)) t
theorem scE_hit {o a b : Int} (ho : o = a) {es : List Lb} (hp : es.Pairwise (fun a b => a.k < b.k)) (t : Int) : scE o a b es t = if ∃ e ∈ es, e.k = b then endC es b else t := by
  induction es generalizing t with
  | nil => simp [scE]
  | cons e r ih =>
    rw [List.pairwise_cons] at hp
    show scE o a b r (if o = a ∧ e.k = b then e.a else t) = _
    by_cases he : e.k = b
    · rw [if_pos ⟨ho, he⟩, scE_none (fun x hx => by have := hp.1 x hx; omega), if_pos ⟨e, List.mem_cons_self .., he⟩]
      unfold endC
      rw [List.find?_cons_of_pos (by simpa using he)]
    · rw [if_neg (fun x => he x.2), ih hp.2]
      have h1 : (∃ x ∈ e :: r, x.k = b) ↔ ∃ x ∈ r, x.k = b := by
        constructor
        · rintro ⟨x, hx, hk⟩
          rcases List.mem_cons.1 hx with rfl | hx
          · exact absurd hk he
          · exact ⟨x, hx, hk⟩
        · rintro ⟨x, hx, hk⟩
          exact ⟨x, List.mem_cons_of_mem _ hx, hk⟩
      have h2 : endC (e :: r) b = endC r b := by
        unfold endC
        rw [List.find?_cons_of_neg (by simpa using he)]
      rw [h2]
      simp only [h1]
theorem scD_miss {a b : Int} {db : List La} (h : ∀ l ∈ db, l.o ≠ a) (t : Int) : scD a b db t = t := by
  unfold scD
  induction db generalizing t with
  | nil => rfl
  | cons l r ih =>
    rw [List.foldl_cons, scE_miss (h l (List.mem_cons_self ..))]
    exact ih (fun x hx => h x (List.mem_cons_of_mem _ hx)) t
/-- In a valid list that is the announced cost. -/
theorem scD_all {a b : Int} {db : List La} (hs : Srt db) (hv : ∀ x ∈ db, laB x = true) : scD a b db 0 = costL db a b := by
  induction db with
  | nil => rfl
  | cons l r ih =>
    have hs' := hs
    unfold Srt at hs'
    rw [List.pairwise_cons] at hs'
    show scD a b r (scE l.o a b l.es 0) = _
    by_cases ho : l.o = a
    · rw [scD_miss (fun x hx => by have := hs'.1 x hx; omega), scE_hit ho (laB_iff.1 (hv l (List.mem_cons_self ..))).1.2]
      have hg : costL (l :: r) a b = endC l.es b := by
        unfold costL getL
        rw [List.find?_cons_of_pos (by simpa using ho)]
      rw [hg]
      split
      · rfl
      · rename_i hn
        exact (endC_none fun e he hk => hn ⟨e, he, hk⟩).symm
    · rw [scE_miss ho, ih hs'.2 (fun x hx => hv x (List.mem_cons_of_mem _ hx))]
      unfold costL getL
      rw [List.find?_cons_of_neg (by simpa using ho)]
end Go.Proofs.Ytnkohgdfipgdoab
