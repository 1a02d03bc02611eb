/-
  Contracts over this seat: the program's TableValid, TableFind and TableHop, gathered for the walks.
-/
import Derived.Test.YtohflcbpjjnccabTf
import Derived.Test.YtohflcbpjjnccabTfg
