/-
  Proved here: package radix's Digits at the three types.
-/
import Derived.Test.YtjlmignafhhjhaaRadC
import Derived.Laws.MakeOwn
import Derived.Laws.OwnMore
namespace Go.Proofs.Ytjlmignafhhjhaa
open Go.RowKit Go.Shelf
attribute [local go_sem] Oper.semAt_some

section
variable {K : IntKind} {e t : Nat} {w : World} {v : Value} {ss : List Int} {a : Int} {s : Nat} {lo : Loop} {k : Nat} {W : World}
end
end Go.Proofs.Ytjlmignafhhjhaa
