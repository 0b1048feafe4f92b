/-
  Proved here: package factor's joined at one type.
  Proved here: package factor's Times at one type.
  Proved here: package factor's without at int.
-/
import Derived.Test.YtphbbkckigdgoaaFacAI
import Derived.Test.YtphbbkckigdgoaaFacCAll
import Derived.Test.YtphbbkckigdgoaaFacH
import Derived.Test.YtphbbkckigdgoaaFacNone
import Derived.Test.YtphbbkckigdgoaaFacO1
namespace Go.Proofs.Ytphbbkckigdgoaa
set_option linter.unusedVariables false
open Go.RowKit Go.Shelf Go.Lib Go.Sort
end Go.Proofs.Ytphbbkckigdgoaa

namespace Go.Proofs.Ytphbbkckigdgoaa
set_option linter.unusedVariables false
open Go.RowKit Go.Shelf Go.Lib Go.Sort
end Go.Proofs.Ytphbbkckigdgoaa

namespace Go.Proofs.Ytphbbkckigdgoaa
set_option linter.unusedVariables false
open Go.RowKit Go.Shelf Go.Lib Go.Sort
end Go.Proofs.Ytphbbkckigdgoaa
