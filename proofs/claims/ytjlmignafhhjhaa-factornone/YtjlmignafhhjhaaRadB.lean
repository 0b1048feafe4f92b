/-
  Proved here: package radix's At at the three types.
-/
import Derived.Test.YtjlmignafhhjhaaRadA
namespace Go.Proofs.Ytjlmignafhhjhaa
open Go.RowKit

end Go.Proofs.Ytjlmignafhhjhaa
