/-
  Proved here: FactorNone's walk.
-/
import Derived.Test.YtjlmignafhhjhaaFacNone
import Derived.Test.YtjlmignafhhjhaaFacIn
namespace Go.Proofs.Ytjlmignafhhjhaa
open Go.RowKit
theorem factorNone_top (s0 z0 c0 : Value) (xs0 zs0 cs0 : List Int) (s1 z1 c1 : Value) (xs1 zs1 cs1 : List Int) (v : Int) (w : World) (_ : RK .i64 w s0 xs0) (_ : RK .i64 w z0 zs0) (_ : RK .i64 w c0 cs0) (_ : RK .i64 w s1 xs1) (_ : RK .i64 w z1 zs1) (_ : RK .i64 w c1 cs1) (_ : Lit.wf (.int .i64 v)) :
    Calls Try.prog 6 #[.agg #[s0, z0, c0], .agg #[s1, z1, c1], .int .i64 v] w fun e w' => e = .returned (.bool true) ∧ Below w.heap.size w w' := factorNone_any s0 z0 c0 s1 z1 c1 v w
end Go.Proofs.Ytjlmignafhhjhaa
