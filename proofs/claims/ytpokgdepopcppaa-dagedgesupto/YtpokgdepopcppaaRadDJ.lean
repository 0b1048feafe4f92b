/-
  Proved here: package radix's Digits at one type.
-/
import Derived.Test.YtpokgdepopcppaaRadD
namespace Go.Proofs.Ytpokgdepopcppaa
open Go.RowKit Go.Shelf
attribute [local go_sem] Oper.semAt_some

end Go.Proofs.Ytpokgdepopcppaa
