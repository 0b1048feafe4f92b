/-
  No cell of these rows narrows 'for every input' (looked for: loops, veiled, ifaces, maps, wideKeys, modest, calm, conditions, laid).
  DERIVED. THE GIVEN ROWS OF THIS SEAT. 3 by the template 'for every input the law returns true; each argument reads behind the call as it read before'; 0 by the template 'total and deterministic' (their statements: YtknibmehbplpbaaTotals.lean).
  GIVEN WITH THE SEED: the statements are not yours to turn. If you find one false, say at which input.
  Laid BY PROGRAM, IN A SANDBOX (cutbox-rows.mjs): the forced cells as the released guide's own fill.sh prints them over the translation 2aee3e4b7b0e3beb… (all of the seat's roots in one cut). By AI agents, Wed Nov 11 2026. No macro, syntax, notation, axiom, sorry.
-/
import Derived.Test.YtknibmehbplpbaaChecked
import GoSem.Claim
import GoSem.ClaimJoined
import GoSem.ClaimMapViews
import Derived.JoinedTies
import Derived.KernelRfl
namespace Go.Proofs.Ytknibmehbplpbaa
/- THE CELL 'sum', in the pinned program and in every row, IS THE sha256 OF THE DUMP (.gsa) THAT YtknibmehbplpbaaProg.lean LOADS. Nothing in Lean hashes anything: it is a label: what it is worth is what the hold of that sum in a sandbox is worth. -/
noncomputable def Try.pinned : Pinned := { name := "ytknibmehbplpbaa", sum := "2aee3e4b7b0e3beb1155490771330fe0ffeb4a9c1190e902eb9a1773c7d7605e", checked := Try.checked }
namespace Rows
def none {H : Type} : Left H := { results := [], args := [] }

/-- 'credencelaw11.SetGrows': WHATEVER THE INPUT: true; the input reads as it did. -/
def setGrowsSpec : ChangeSpec := { name := "setGrows", fn := fun _ => fun
  | [d1, d2, d3] => { results := [.lit (.bool true)], args := [d1, d2, d3] }
  | _ => none }
def setGrowsRow : OpenClaim := { program := "ytknibmehbplpbaa", sum := "2aee3e4b7b0e3beb1155490771330fe0ffeb4a9c1190e902eb9a1773c7d7605e", func := "credence/credencelaw11.SetGrows", spec := "setGrows", unfollowed := true, recurses := true, apart := false }
def SetGrowsSaid : Prop := setGrowsRow.holds Try.pinned (OpenSpec.ofChange setGrowsSpec)

/-- ITS FALSE NEIGHBOUR: 'it returns false'. Refute it at one input. -/
def setGrowsWrong : ChangeSpec := { name := "setGrows", fn := fun _ => fun
  | [d1, d2, d3] => { results := [.lit (.bool false)], args := [d1, d2, d3] }
  | _ => none }
def SetGrowsWrongFalsely : Prop := setGrowsRow.holds Try.pinned (OpenSpec.ofChange setGrowsWrong)

/-- 'credencelaw11.SetTexts': WHATEVER THE INPUT: true; the input reads as it did. -/
def setTextsSpec : ChangeSpec := { name := "setTexts", fn := fun _ => fun
  | [d1, d2] => { results := [.lit (.bool true)], args := [d1, d2] }
  | _ => none }
def setTextsRow : OpenClaim := { program := "ytknibmehbplpbaa", sum := "2aee3e4b7b0e3beb1155490771330fe0ffeb4a9c1190e902eb9a1773c7d7605e", func := "credence/credencelaw11.SetTexts", spec := "setTexts", unfollowed := true, recurses := true, apart := false }
def SetTextsSaid : Prop := setTextsRow.holds Try.pinned (OpenSpec.ofChange setTextsSpec)

/-- ITS FALSE NEIGHBOUR: 'it returns false'. Refute it at one input. -/
def setTextsWrong : ChangeSpec := { name := "setTexts", fn := fun _ => fun
  | [d1, d2] => { results := [.lit (.bool false)], args := [d1, d2] }
  | _ => none }
def SetTextsWrongFalsely : Prop := setTextsRow.holds Try.pinned (OpenSpec.ofChange setTextsWrong)

/-- 'credencelaw11.SetFloats': WHATEVER THE INPUT: true; the input reads as it did. -/
def setFloatsSpec : ChangeSpec := { name := "setFloats", fn := fun _ => fun
  | [d1, d2, d3] => { results := [.lit (.bool true)], args := [d1, d2, d3] }
  | _ => none }
def setFloatsRow : OpenClaim := { program := "ytknibmehbplpbaa", sum := "2aee3e4b7b0e3beb1155490771330fe0ffeb4a9c1190e902eb9a1773c7d7605e", func := "credence/credencelaw11.SetFloats", spec := "setFloats", inPlace := ["math.Float64bits"], unfollowed := true, recurses := true, apart := false }
def SetFloatsSaid : Prop := setFloatsRow.holds Try.pinned (OpenSpec.ofChange setFloatsSpec)

/-- ITS FALSE NEIGHBOUR: 'it returns false'. Refute it at one input. -/
def setFloatsWrong : ChangeSpec := { name := "setFloats", fn := fun _ => fun
  | [d1, d2, d3] => { results := [.lit (.bool false)], args := [d1, d2, d3] }
  | _ => none }
def SetFloatsWrongFalsely : Prop := setFloatsRow.holds Try.pinned (OpenSpec.ofChange setFloatsWrong)

/- THE SECOND FORM. 'bulk': how many values and letters a reading holds, each counted each time it is reached (what is shared counts as often as it is met; a slice's spare places count too). A statement '..UptoSaid' is the law's where the arguments, and the package variables that the reading takes, are together of bulk at most 1048576: NARROWER than '..Said'. Prove '..Said' where nothing that the law and all that it calls make is longer than what came in: it says more and counts as full. Else prove '..UptoSaid'. A law counts once. -/
mutual
def uptoBulk {H : Type} : DataW H → Nat
  | .lit (.string bytes) => bytes.length + 1
  | .lit _ => 1
  | .nil => 1
  | .ptr d => uptoBulk d + 1
  | .slice elems spare => uptoBulkAll elems + uptoBulkAll spare + 1
  | .agg parts => uptoBulkAll parts + 1
  | .iface _ d => uptoBulk d + 1
  | .map entries => uptoBulkEntries entries + 1
  | .held _ => 1
def uptoBulkAll {H : Type} : List (DataW H) → Nat
  | [] => 0
  | d :: r => uptoBulk d + uptoBulkAll r
def uptoBulkEntries {H : Type} : List (Lit × DataW H) → Nat
  | [] => 0
  | x :: r => uptoBulkEntry x + uptoBulkEntries r
def uptoBulkEntry {H : Type} : Lit × DataW H → Nat
  | (.string bytes, d) => bytes.length + uptoBulk d + 1
  | (_, d) => uptoBulk d + 1
 end
def uptoSmall : (H : Type) → List (DataW H) → Bool := fun _ ds => decide (uptoBulkAll ds ≤ 1048576)
def OpenSpec.upto (s : _root_.Go.ChangeSpec) : _root_.Go.OpenSpec := { _root_.Go.OpenSpec.ofChange s with cond := some uptoSmall }

/-- 'credencelaw11.SetGrows', WHERE WHAT IT READS IS OF BULK AT MOST 1048576: true; the input reads as it did. -/
def setGrowsUptoRow : OpenClaim := { program := "ytknibmehbplpbaa", sum := "2aee3e4b7b0e3beb1155490771330fe0ffeb4a9c1190e902eb9a1773c7d7605e", func := "credence/credencelaw11.SetGrows", spec := "setGrows", unfollowed := true, recurses := true, apart := false, narrowed := true }
def SetGrowsUptoSaid : Prop := setGrowsUptoRow.holds Try.pinned (OpenSpec.upto setGrowsSpec)

/-- 'credencelaw11.SetTexts', WHERE WHAT IT READS IS OF BULK AT MOST 1048576: true; the input reads as it did. -/
def setTextsUptoRow : OpenClaim := { program := "ytknibmehbplpbaa", sum := "2aee3e4b7b0e3beb1155490771330fe0ffeb4a9c1190e902eb9a1773c7d7605e", func := "credence/credencelaw11.SetTexts", spec := "setTexts", unfollowed := true, recurses := true, apart := false, narrowed := true }
def SetTextsUptoSaid : Prop := setTextsUptoRow.holds Try.pinned (OpenSpec.upto setTextsSpec)

/-- 'credencelaw11.SetFloats', WHERE WHAT IT READS IS OF BULK AT MOST 1048576: true; the input reads as it did. -/
def setFloatsUptoRow : OpenClaim := { program := "ytknibmehbplpbaa", sum := "2aee3e4b7b0e3beb1155490771330fe0ffeb4a9c1190e902eb9a1773c7d7605e", func := "credence/credencelaw11.SetFloats", spec := "setFloats", inPlace := ["math.Float64bits"], unfollowed := true, recurses := true, apart := false, narrowed := true }
def SetFloatsUptoSaid : Prop := setFloatsUptoRow.holds Try.pinned (OpenSpec.upto setFloatsSpec)

end Rows
end Go.Proofs.Ytknibmehbplpbaa
