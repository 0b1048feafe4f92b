/-
  No cell of these rows narrows 'for every input' (looked for: loops, veiled, ifaces, maps, wideKeys, modest, calm, conditions, laid).
  DERIVED. THE GIVEN ROWS OF THIS SEAT. 3 by the template 'for every input the law returns true; each argument reads behind the call as it read before'; 0 by the template 'total and deterministic' (their statements: YtcadljpdokhpmabGreatTotals.lean).
  GIVEN WITH THE SEED: the statements are not yours to turn. If you find one false, say at which input.
  Laid BY PROGRAM, IN A SANDBOX (cutbox-rows.mjs): the forced cells as the released guide's own fill.sh prints them over the translation 412cac0d14314142… (all of the seat's roots in one cut). By AI agents, Wed Nov 11 2026. No macro, syntax, notation, axiom, sorry.
-/
import Derived.Test.YtcadljpdokhpmabGreatChecked
import GoSem.Claim
import GoSem.ClaimJoined
import GoSem.ClaimMapViews
import Derived.JoinedTies
import Derived.KernelRfl
namespace Go.Proofs.YtcadljpdokhpmabGreat
/- THE CELL 'sum', in the pinned program and in every row, IS THE sha256 OF THE DUMP (.gsa) THAT YtcadljpdokhpmabGreatProg.lean LOADS. Nothing in Lean hashes anything: it is a label: what it is worth is what the hold of that sum in a sandbox is worth. -/
noncomputable def Tryz.pinned : Pinned := { name := "ytcadljpdokhpmabgreat", sum := "412cac0d14314142dccac1c243ff5011f35cf8c3fd411304b5d1a740118b5258", checked := Tryz.checked }
namespace Rows
def none {H : Type} : Left H := { results := [], args := [] }

/-- 'credencelaw16.SepEven': WHATEVER THE INPUT: true; the input reads as it did. -/
def sepEvenSpec : ChangeSpec := { name := "sepEven", fn := fun _ => fun
  | [d1, d2, d3, d4] => { results := [.lit (.bool true)], args := [d1, d2, d3, d4] }
  | _ => none }
def sepEvenRow : OpenClaim := { program := "ytcadljpdokhpmabgreat", sum := "412cac0d14314142dccac1c243ff5011f35cf8c3fd411304b5d1a740118b5258", func := "credence/credencelaw16.SepEven", spec := "sepEven", unfollowed := true, recurses := true, plainKeys := false, apart := false }
def SepEvenSaid : Prop := sepEvenRow.holds Tryz.pinned (OpenSpec.ofChange sepEvenSpec)

/-- ITS FALSE NEIGHBOUR: 'it returns false'. Refute it at one input. -/
def sepEvenWrong : ChangeSpec := { name := "sepEven", fn := fun _ => fun
  | [d1, d2, d3, d4] => { results := [.lit (.bool false)], args := [d1, d2, d3, d4] }
  | _ => none }
def SepEvenWrongFalsely : Prop := sepEvenRow.holds Tryz.pinned (OpenSpec.ofChange sepEvenWrong)

/-- 'credencelaw16.SepWall': WHATEVER THE INPUT: true; the input reads as it did. -/
def sepWallSpec : ChangeSpec := { name := "sepWall", fn := fun _ => fun
  | [d1, d2] => { results := [.lit (.bool true)], args := [d1, d2] }
  | _ => none }
def sepWallRow : OpenClaim := { program := "ytcadljpdokhpmabgreat", sum := "412cac0d14314142dccac1c243ff5011f35cf8c3fd411304b5d1a740118b5258", func := "credence/credencelaw16.SepWall", spec := "sepWall", unfollowed := true, recurses := true, plainKeys := false, apart := false }
def SepWallSaid : Prop := sepWallRow.holds Tryz.pinned (OpenSpec.ofChange sepWallSpec)

/-- ITS FALSE NEIGHBOUR: 'it returns false'. Refute it at one input. -/
def sepWallWrong : ChangeSpec := { name := "sepWall", fn := fun _ => fun
  | [d1, d2] => { results := [.lit (.bool false)], args := [d1, d2] }
  | _ => none }
def SepWallWrongFalsely : Prop := sepWallRow.holds Tryz.pinned (OpenSpec.ofChange sepWallWrong)

/-- 'credencelaw16.SepOpen': WHATEVER THE INPUT: true; the input reads as it did. -/
def sepOpenSpec : ChangeSpec := { name := "sepOpen", fn := fun _ => fun
  | [d1, d2, d3, d4] => { results := [.lit (.bool true)], args := [d1, d2, d3, d4] }
  | _ => none }
def sepOpenRow : OpenClaim := { program := "ytcadljpdokhpmabgreat", sum := "412cac0d14314142dccac1c243ff5011f35cf8c3fd411304b5d1a740118b5258", func := "credence/credencelaw16.SepOpen", spec := "sepOpen", unfollowed := true, recurses := true, plainKeys := false, apart := false }
def SepOpenSaid : Prop := sepOpenRow.holds Tryz.pinned (OpenSpec.ofChange sepOpenSpec)

/-- ITS FALSE NEIGHBOUR: 'it returns false'. Refute it at one input. -/
def sepOpenWrong : ChangeSpec := { name := "sepOpen", fn := fun _ => fun
  | [d1, d2, d3, d4] => { results := [.lit (.bool false)], args := [d1, d2, d3, d4] }
  | _ => none }
def SepOpenWrongFalsely : Prop := sepOpenRow.holds Tryz.pinned (OpenSpec.ofChange sepOpenWrong)

/- THE SECOND FORM. 'bulk': how many values and letters a reading holds, each counted each time it is reached (what is shared counts as often as it is met; a slice's spare places count too). A statement '..UptoSaid' is the law's where the arguments, and the package variables that the reading takes, are together of bulk at most 1048576: NARROWER than '..Said'. Prove '..Said' where nothing that the law and all that it calls make is longer than what came in: it says more and counts as full. Else prove '..UptoSaid'. A law counts once. -/
mutual
def uptoBulk {H : Type} : DataW H → Nat
  | .lit (.string bytes) => bytes.length + 1
  | .lit _ => 1
  | .nil => 1
  | .ptr d => uptoBulk d + 1
  | .slice elems spare => uptoBulkAll elems + uptoBulkAll spare + 1
  | .agg parts => uptoBulkAll parts + 1
  | .iface _ d => uptoBulk d + 1
  | .map entries => uptoBulkEntries entries + 1
  | .held _ => 1
def uptoBulkAll {H : Type} : List (DataW H) → Nat
  | [] => 0
  | d :: r => uptoBulk d + uptoBulkAll r
def uptoBulkEntries {H : Type} : List (Lit × DataW H) → Nat
  | [] => 0
  | x :: r => uptoBulkEntry x + uptoBulkEntries r
def uptoBulkEntry {H : Type} : Lit × DataW H → Nat
  | (.string bytes, d) => bytes.length + uptoBulk d + 1
  | (_, d) => uptoBulk d + 1
 end
def uptoSmall : (H : Type) → List (DataW H) → Bool := fun _ ds => decide (uptoBulkAll ds ≤ 1048576)
def OpenSpec.upto (s : _root_.Go.ChangeSpec) : _root_.Go.OpenSpec := { _root_.Go.OpenSpec.ofChange s with cond := some uptoSmall }

/-- 'credencelaw16.SepEven', WHERE WHAT IT READS IS OF BULK AT MOST 1048576: true; the input reads as it did. -/
def sepEvenUptoRow : OpenClaim := { program := "ytcadljpdokhpmabgreat", sum := "412cac0d14314142dccac1c243ff5011f35cf8c3fd411304b5d1a740118b5258", func := "credence/credencelaw16.SepEven", spec := "sepEven", unfollowed := true, recurses := true, plainKeys := false, apart := false, narrowed := true }
def SepEvenUptoSaid : Prop := sepEvenUptoRow.holds Tryz.pinned (OpenSpec.upto sepEvenSpec)

/-- 'credencelaw16.SepWall', WHERE WHAT IT READS IS OF BULK AT MOST 1048576: true; the input reads as it did. -/
def sepWallUptoRow : OpenClaim := { program := "ytcadljpdokhpmabgreat", sum := "412cac0d14314142dccac1c243ff5011f35cf8c3fd411304b5d1a740118b5258", func := "credence/credencelaw16.SepWall", spec := "sepWall", unfollowed := true, recurses := true, plainKeys := false, apart := false, narrowed := true }
def SepWallUptoSaid : Prop := sepWallUptoRow.holds Tryz.pinned (OpenSpec.upto sepWallSpec)

/-- 'credencelaw16.SepOpen', WHERE WHAT IT READS IS OF BULK AT MOST 1048576: true; the input reads as it did. -/
def sepOpenUptoRow : OpenClaim := { program := "ytcadljpdokhpmabgreat", sum := "412cac0d14314142dccac1c243ff5011f35cf8c3fd411304b5d1a740118b5258", func := "credence/credencelaw16.SepOpen", spec := "sepOpen", unfollowed := true, recurses := true, plainKeys := false, apart := false, narrowed := true }
def SepOpenUptoSaid : Prop := sepOpenUptoRow.holds Tryz.pinned (OpenSpec.upto sepOpenSpec)

end Rows
end Go.Proofs.YtcadljpdokhpmabGreat
