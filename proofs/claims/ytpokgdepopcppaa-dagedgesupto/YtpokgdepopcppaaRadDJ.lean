/-
  Proved here: package radix's Digits at one type.
-/
import Derived.Test.YtpokgdepopcppaaRadD
namespace Go.Proofs.Ytpokgdepopcppaa
open Go.RowKit Go.Shelf
attribute [local go_sem] Oper.semAt_some

theorem Try.infoJ : (Try.prog.info? 21).map (fun i => (i.zero, i.size, i.bytes)) = some (some (.int .i32 0), 1, 4) := by kernel_rfl
end Go.Proofs.Ytpokgdepopcppaa
