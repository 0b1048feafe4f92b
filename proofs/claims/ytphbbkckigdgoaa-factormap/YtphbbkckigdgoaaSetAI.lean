/-
  Proved here: package cmp's words at int; set's same; slices.Clone and slices.SortStableFunc over rows.
-/
import Derived.Test.YtphbbkckigdgoaaRows
import Derived.Test.YtphbbkckigdgoaaSortDIAll
import Derived.OwnWalk
import Derived.OwnWalkIn
import Derived.ArgAppend
import Derived.Laws.AppendOwnNone
import Derived.Laws.MakeOwn
import Derived.Laws.OwnMore
import Derived.WalkKit
import Derived.WalkSpells
import Derived.WalkLawsBesides
import Derived.Below
import Derived.BigQuiet
namespace Go.Proofs.Ytphbbkckigdgoaa
open Go.Shelf Go.RowKit Go.Lib Go.Sort
end Go.Proofs.Ytphbbkckigdgoaa
