/-
  No cell of these rows narrows 'for every input' (looked for: loops, veiled, ifaces, maps, wideKeys, modest, calm, conditions, laid).
  DERIVED. THE GIVEN ROWS OF THIS SEAT. 6 by the template 'for every input the law returns true; each argument reads behind the call as it read before'; 0 by the template 'total and deterministic' (their statements: YtaafijifiiiblaaGreatTotals.lean).
  GIVEN WITH THE SEED: the statements are not yours to turn. If you find one false, say at which input.
  Laid BY PROGRAM, IN A SANDBOX (cutbox-rows.mjs): the forced cells as the released guide's own fill.sh prints them over the translation 5de58c4d4a06795a… (all of the seat's roots in one cut). By AI agents, Wed Nov 11 2026. No macro, syntax, notation, axiom, sorry.
-/
import Derived.Test.YtaafijifiiiblaaGreatChecked
import GoSem.Claim
import GoSem.ClaimJoined
import GoSem.ClaimMapViews
import Derived.JoinedTies
import Derived.KernelRfl
namespace Go.Proofs.YtaafijifiiiblaaGreat
/- THE CELL 'sum', in the pinned program and in every row, IS THE sha256 OF THE DUMP (.gsa) THAT YtaafijifiiiblaaGreatProg.lean LOADS. Nothing in Lean hashes anything: it is a label: what it is worth is what the hold of that sum in a sandbox is worth. -/
noncomputable def Tryz.pinned : Pinned := { name := "ytaafijifiiiblaagreat", sum := "5de58c4d4a06795a706e8edf8f0a482610dff95c9abc1e68944c2a427e9e1290", checked := Tryz.checked }
namespace Rows
def none {H : Type} : Left H := { results := [], args := [] }

/-- 'credencelaw12.RingRats': WHATEVER THE INPUT: true; the input reads as it did. -/
def ringRatsSpec : ChangeSpec := { name := "ringRats", fn := fun _ => fun
  | [d1, d2] => { results := [.lit (.bool true)], args := [d1, d2] }
  | _ => none }
def ringRatsRow : OpenClaim := { program := "ytaafijifiiiblaagreat", sum := "5de58c4d4a06795a706e8edf8f0a482610dff95c9abc1e68944c2a427e9e1290", func := "credence/credencelaw12.RingRats", spec := "ringRats", unfollowed := true, recurses := true, apart := false }
def RingRatsSaid : Prop := ringRatsRow.holds Tryz.pinned (OpenSpec.ofChange ringRatsSpec)

/-- ITS FALSE NEIGHBOUR: 'it returns false'. Refute it at one input. -/
def ringRatsWrong : ChangeSpec := { name := "ringRats", fn := fun _ => fun
  | [d1, d2] => { results := [.lit (.bool false)], args := [d1, d2] }
  | _ => none }
def RingRatsWrongFalsely : Prop := ringRatsRow.holds Tryz.pinned (OpenSpec.ofChange ringRatsWrong)

/-- 'credencelaw12.RingSlopes': WHATEVER THE INPUT: true; the input reads as it did. -/
def ringSlopesSpec : ChangeSpec := { name := "ringSlopes", fn := fun _ => fun
  | [d1, d2] => { results := [.lit (.bool true)], args := [d1, d2] }
  | _ => none }
def ringSlopesRow : OpenClaim := { program := "ytaafijifiiiblaagreat", sum := "5de58c4d4a06795a706e8edf8f0a482610dff95c9abc1e68944c2a427e9e1290", func := "credence/credencelaw12.RingSlopes", spec := "ringSlopes", unfollowed := true, recurses := true, apart := false }
def RingSlopesSaid : Prop := ringSlopesRow.holds Tryz.pinned (OpenSpec.ofChange ringSlopesSpec)

/-- ITS FALSE NEIGHBOUR: 'it returns false'. Refute it at one input. -/
def ringSlopesWrong : ChangeSpec := { name := "ringSlopes", fn := fun _ => fun
  | [d1, d2] => { results := [.lit (.bool false)], args := [d1, d2] }
  | _ => none }
def RingSlopesWrongFalsely : Prop := ringSlopesRow.holds Tryz.pinned (OpenSpec.ofChange ringSlopesWrong)

/-- 'credencelaw12.RingPlain': WHATEVER THE INPUT: true; the input reads as it did. -/
def ringPlainSpec : ChangeSpec := { name := "ringPlain", fn := fun _ => fun
  | [d1, d2, d3, d4, d5, d6] => { results := [.lit (.bool true)], args := [d1, d2, d3, d4, d5, d6] }
  | _ => none }
def ringPlainRow : OpenClaim := { program := "ytaafijifiiiblaagreat", sum := "5de58c4d4a06795a706e8edf8f0a482610dff95c9abc1e68944c2a427e9e1290", func := "credence/credencelaw12.RingPlain", spec := "ringPlain", unfollowed := true, recurses := true, apart := false }
def RingPlainSaid : Prop := ringPlainRow.holds Tryz.pinned (OpenSpec.ofChange ringPlainSpec)

/-- ITS FALSE NEIGHBOUR: 'it returns false'. Refute it at one input. -/
def ringPlainWrong : ChangeSpec := { name := "ringPlain", fn := fun _ => fun
  | [d1, d2, d3, d4, d5, d6] => { results := [.lit (.bool false)], args := [d1, d2, d3, d4, d5, d6] }
  | _ => none }
def RingPlainWrongFalsely : Prop := ringPlainRow.holds Tryz.pinned (OpenSpec.ofChange ringPlainWrong)

/-- 'credencelaw12.RingFold': WHATEVER THE INPUT: true; the input reads as it did. -/
def ringFoldSpec : ChangeSpec := { name := "ringFold", fn := fun _ => fun
  | [d1, d2] => { results := [.lit (.bool true)], args := [d1, d2] }
  | _ => none }
def ringFoldRow : OpenClaim := { program := "ytaafijifiiiblaagreat", sum := "5de58c4d4a06795a706e8edf8f0a482610dff95c9abc1e68944c2a427e9e1290", func := "credence/credencelaw12.RingFold", spec := "ringFold", unfollowed := true, recurses := true, apart := false }
def RingFoldSaid : Prop := ringFoldRow.holds Tryz.pinned (OpenSpec.ofChange ringFoldSpec)

/-- ITS FALSE NEIGHBOUR: 'it returns false'. Refute it at one input. -/
def ringFoldWrong : ChangeSpec := { name := "ringFold", fn := fun _ => fun
  | [d1, d2] => { results := [.lit (.bool false)], args := [d1, d2] }
  | _ => none }
def RingFoldWrongFalsely : Prop := ringFoldRow.holds Tryz.pinned (OpenSpec.ofChange ringFoldWrong)

/-- 'credencelaw12.RingLaws': WHATEVER THE INPUT: true; the input reads as it did. -/
def ringLawsSpec : ChangeSpec := { name := "ringLaws", fn := fun _ => fun
  | [d1, d2, d3] => { results := [.lit (.bool true)], args := [d1, d2, d3] }
  | _ => none }
def ringLawsRow : OpenClaim := { program := "ytaafijifiiiblaagreat", sum := "5de58c4d4a06795a706e8edf8f0a482610dff95c9abc1e68944c2a427e9e1290", func := "credence/credencelaw12.RingLaws", spec := "ringLaws", unfollowed := true, recurses := true, apart := false }
def RingLawsSaid : Prop := ringLawsRow.holds Tryz.pinned (OpenSpec.ofChange ringLawsSpec)

/-- ITS FALSE NEIGHBOUR: 'it returns false'. Refute it at one input. -/
def ringLawsWrong : ChangeSpec := { name := "ringLaws", fn := fun _ => fun
  | [d1, d2, d3] => { results := [.lit (.bool false)], args := [d1, d2, d3] }
  | _ => none }
def RingLawsWrongFalsely : Prop := ringLawsRow.holds Tryz.pinned (OpenSpec.ofChange ringLawsWrong)

/-- 'credencelaw12.RingGrows': WHATEVER THE INPUT: true; the input reads as it did. -/
def ringGrowsSpec : ChangeSpec := { name := "ringGrows", fn := fun _ => fun
  | [d1, d2] => { results := [.lit (.bool true)], args := [d1, d2] }
  | _ => none }
def ringGrowsRow : OpenClaim := { program := "ytaafijifiiiblaagreat", sum := "5de58c4d4a06795a706e8edf8f0a482610dff95c9abc1e68944c2a427e9e1290", func := "credence/credencelaw12.RingGrows", spec := "ringGrows", unfollowed := true, recurses := true, apart := false }
def RingGrowsSaid : Prop := ringGrowsRow.holds Tryz.pinned (OpenSpec.ofChange ringGrowsSpec)

/-- ITS FALSE NEIGHBOUR: 'it returns false'. Refute it at one input. -/
def ringGrowsWrong : ChangeSpec := { name := "ringGrows", fn := fun _ => fun
  | [d1, d2] => { results := [.lit (.bool false)], args := [d1, d2] }
  | _ => none }
def RingGrowsWrongFalsely : Prop := ringGrowsRow.holds Tryz.pinned (OpenSpec.ofChange ringGrowsWrong)

/- THE SECOND FORM. 'bulk': how many values and letters a reading holds, each counted each time it is reached (what is shared counts as often as it is met; a slice's spare places count too). A statement '..UptoSaid' is the law's where the arguments, and the package variables that the reading takes, are together of bulk at most 1048576: NARROWER than '..Said'. Prove '..Said' where nothing that the law and all that it calls make is longer than what came in: it says more and counts as full. Else prove '..UptoSaid'. A law counts once. -/
mutual
def uptoBulk {H : Type} : DataW H → Nat
  | .lit (.string bytes) => bytes.length + 1
  | .lit _ => 1
  | .nil => 1
  | .ptr d => uptoBulk d + 1
  | .slice elems spare => uptoBulkAll elems + uptoBulkAll spare + 1
  | .agg parts => uptoBulkAll parts + 1
  | .iface _ d => uptoBulk d + 1
  | .map entries => uptoBulkEntries entries + 1
  | .held _ => 1
def uptoBulkAll {H : Type} : List (DataW H) → Nat
  | [] => 0
  | d :: r => uptoBulk d + uptoBulkAll r
def uptoBulkEntries {H : Type} : List (Lit × DataW H) → Nat
  | [] => 0
  | x :: r => uptoBulkEntry x + uptoBulkEntries r
def uptoBulkEntry {H : Type} : Lit × DataW H → Nat
  | (.string bytes, d) => bytes.length + uptoBulk d + 1
  | (_, d) => uptoBulk d + 1
 end
def uptoSmall : (H : Type) → List (DataW H) → Bool := fun _ ds => decide (uptoBulkAll ds ≤ 1048576)
def OpenSpec.upto (s : _root_.Go.ChangeSpec) : _root_.Go.OpenSpec := { _root_.Go.OpenSpec.ofChange s with cond := some uptoSmall }

/-- 'credencelaw12.RingRats', WHERE WHAT IT READS IS OF BULK AT MOST 1048576: true; the input reads as it did. -/
def ringRatsUptoRow : OpenClaim := { program := "ytaafijifiiiblaagreat", sum := "5de58c4d4a06795a706e8edf8f0a482610dff95c9abc1e68944c2a427e9e1290", func := "credence/credencelaw12.RingRats", spec := "ringRats", unfollowed := true, recurses := true, apart := false, narrowed := true }
def RingRatsUptoSaid : Prop := ringRatsUptoRow.holds Tryz.pinned (OpenSpec.upto ringRatsSpec)

/-- 'credencelaw12.RingSlopes', WHERE WHAT IT READS IS OF BULK AT MOST 1048576: true; the input reads as it did. -/
def ringSlopesUptoRow : OpenClaim := { program := "ytaafijifiiiblaagreat", sum := "5de58c4d4a06795a706e8edf8f0a482610dff95c9abc1e68944c2a427e9e1290", func := "credence/credencelaw12.RingSlopes", spec := "ringSlopes", unfollowed := true, recurses := true, apart := false, narrowed := true }
def RingSlopesUptoSaid : Prop := ringSlopesUptoRow.holds Tryz.pinned (OpenSpec.upto ringSlopesSpec)

/-- 'credencelaw12.RingPlain', WHERE WHAT IT READS IS OF BULK AT MOST 1048576: true; the input reads as it did. -/
def ringPlainUptoRow : OpenClaim := { program := "ytaafijifiiiblaagreat", sum := "5de58c4d4a06795a706e8edf8f0a482610dff95c9abc1e68944c2a427e9e1290", func := "credence/credencelaw12.RingPlain", spec := "ringPlain", unfollowed := true, recurses := true, apart := false, narrowed := true }
def RingPlainUptoSaid : Prop := ringPlainUptoRow.holds Tryz.pinned (OpenSpec.upto ringPlainSpec)

/-- 'credencelaw12.RingFold', WHERE WHAT IT READS IS OF BULK AT MOST 1048576: true; the input reads as it did. -/
def ringFoldUptoRow : OpenClaim := { program := "ytaafijifiiiblaagreat", sum := "5de58c4d4a06795a706e8edf8f0a482610dff95c9abc1e68944c2a427e9e1290", func := "credence/credencelaw12.RingFold", spec := "ringFold", unfollowed := true, recurses := true, apart := false, narrowed := true }
def RingFoldUptoSaid : Prop := ringFoldUptoRow.holds Tryz.pinned (OpenSpec.upto ringFoldSpec)

/-- 'credencelaw12.RingLaws', WHERE WHAT IT READS IS OF BULK AT MOST 1048576: true; the input reads as it did. -/
def ringLawsUptoRow : OpenClaim := { program := "ytaafijifiiiblaagreat", sum := "5de58c4d4a06795a706e8edf8f0a482610dff95c9abc1e68944c2a427e9e1290", func := "credence/credencelaw12.RingLaws", spec := "ringLaws", unfollowed := true, recurses := true, apart := false, narrowed := true }
def RingLawsUptoSaid : Prop := ringLawsUptoRow.holds Tryz.pinned (OpenSpec.upto ringLawsSpec)

/-- 'credencelaw12.RingGrows', WHERE WHAT IT READS IS OF BULK AT MOST 1048576: true; the input reads as it did. -/
def ringGrowsUptoRow : OpenClaim := { program := "ytaafijifiiiblaagreat", sum := "5de58c4d4a06795a706e8edf8f0a482610dff95c9abc1e68944c2a427e9e1290", func := "credence/credencelaw12.RingGrows", spec := "ringGrows", unfollowed := true, recurses := true, apart := false, narrowed := true }
def RingGrowsUptoSaid : Prop := ringGrowsUptoRow.holds Tryz.pinned (OpenSpec.upto ringGrowsSpec)

end Rows
end Go.Proofs.YtaafijifiiiblaaGreat
