/-
  Proved here: package factor's step.
  Proved here: package factor's walkOf.
-/
import Derived.Test.YtphbbkckigdgoaaFacE
namespace Go.Proofs.Ytphbbkckigdgoaa
set_option linter.unusedVariables false
open Go.RowKit Go.Shelf Go.Lib Go.Sort
attribute [local go_sem] Oper.semAt_some
end Go.Proofs.Ytphbbkckigdgoaa

namespace Go.Proofs.Ytphbbkckigdgoaa
set_option linter.unusedVariables false
open Go.RowKit Go.Shelf Go.Lib Go.Sort
attribute [local go_sem] Oper.semAt_some
end Go.Proofs.Ytphbbkckigdgoaa
