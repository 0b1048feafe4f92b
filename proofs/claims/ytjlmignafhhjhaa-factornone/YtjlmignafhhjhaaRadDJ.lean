/-
  Proved here: package radix's Digits at one type.
-/
import Derived.Test.YtjlmignafhhjhaaRadD
namespace Go.Proofs.Ytjlmignafhhjhaa
open Go.RowKit Go.Shelf
attribute [local go_sem] Oper.semAt_some

end Go.Proofs.Ytjlmignafhhjhaa
