/-
  Contracts over this seat: the program's TableTurn.
-/
import Derived.Test.YtohflcbpjjnccaaTfd
import Derived.Test.YtohflcbpjjnccaaTi
import Derived.Test.YtohflcbpjjnccaaC1
namespace Go.Proofs.Ytohflcbpjjnccaa
open Go.RowKit Go.Maps

theorem cnt_filter {rs : List Lk} {h : Int} : (rs.filter (fun x => decide (x.c = h))).length = cntR rs h := rfl
theorem filter_all {rs : List Lk} : rs.filter (fun _ => true) = rs := by
  rw [List.filter_eq_self]
  intro _ _
  rfl


end Go.Proofs.Ytohflcbpjjnccaa
