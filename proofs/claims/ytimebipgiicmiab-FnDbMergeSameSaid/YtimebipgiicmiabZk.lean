/-
  Contracts over this seat: the specification's LsaOf.
-/
import Derived.Test.YtimebipgiicmiabZj
namespace Go.Proofs.Ytimebipgiicmiab
open Go.RowKit Go.Maps





theorem l1I_link2 {m : Int} {ls : List Lk} (hv : gvB m ls = true) (a b : Int) : l1I (min a b) (max a b) ls = linkI m ls a b := by
  rw [← linkI_eq, if_pos hv]


end Go.Proofs.Ytimebipgiicmiab
