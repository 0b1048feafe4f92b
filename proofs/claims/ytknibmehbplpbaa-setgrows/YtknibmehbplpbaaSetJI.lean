/-
  Proved here: package set at int: Join.
-/
import Derived.Test.YtknibmehbplpbaaSetGI
import Derived.Test.YtknibmehbplpbaaSetFI
namespace Go.Proofs.Ytknibmehbplpbaa
open Go.Shelf Go.RowKit Go.Lib Go.Sort
/-- what two rising lists make -/
def joinI (L M : List Int) : List Int := jn (ltOf cfI) fndI L M
theorem joinI_len (L M : List Int) : (joinI L M).length ≤ L.length + M.length := jn_len L M
theorem rs_dropI {L : List Int} (h : Rs (ltOf cfI) L) (k : Nat) : Rs (ltOf cfI) (L.drop k) := List.Pairwise.sublist (List.drop_sublist k L) h
end Go.Proofs.Ytknibmehbplpbaa
