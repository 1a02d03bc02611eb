/-
  Common ground of the laws of changed costs.
-/
import Derived.Test.YtkdcialdjnedeaaAb
import Derived.Test.YtkdcialdjnedeaaDrawC
import Derived.Test.YtkdcialdjnedeaaWr
namespace Go.Proofs.Ytkdcialdjnedeaa
open Go.RowKit
theorem Own1.isA {w : World} {A : Option Addr} {g : Nat} {ls : List Lk} (h : Own1 w A g ls) : 0 < ls.length → ∃ g, A = some ⟨g, 0, none⟩ := fun hp => ⟨g, (h hp).1⟩
end Go.Proofs.Ytkdcialdjnedeaa
