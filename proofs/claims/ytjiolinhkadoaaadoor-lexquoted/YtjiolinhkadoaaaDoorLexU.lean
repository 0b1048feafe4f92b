/-
  Proved here: what Each of package lex answers.
-/
import Derived.Test.YtjiolinhkadoaaaDoorLexT
namespace Go.Proofs.YtjiolinhkadoaaaDoor
open Go.RowKit Go.Shelf

set_option maxRecDepth 100000 in
set_option maxHeartbeats 1600000 in
theorem each_any (s : ByteArray) (w : World) :
    Calls Tryd.prog 15 #[.string s] w fun e w' => e = .returned (.func (.func 24) #[] #[.pointer (some ⟨w.heap.size, 0, none⟩)]) ∧ w' = w.alloc (.cells #[.string s] 9) := by
  go_enter Tryd.func15, Tryd.ntmps15
  go_wp2
  go_ret
  exact ⟨rfl, rfl⟩

/-- What is told, as Scan collects it: the words, where no fault is met. -/
def scanF (s : ByteArray) : Nat → Nat → List Out × Option Out
  | 0, _ => ([], none)
  | n + 1, i => match nextOut s i with
    | .flt c li co wd => ([], some (.flt c li co wd))
    | .tok k ms li co j => if k = 0 then ([.tok k ms li co j], none) else (.tok k ms li co j :: (scanF s n j).1, (scanF s n j).2)
/-- A word's four cells. -/
def tokCells : Out → List Value
  | .tok k ms li co _ => [.int .i8 k, .string ms, .int .i64 (li : Int), .int .i64 (co : Int)]
  | .flt _ _ _ _ => []
end Go.Proofs.YtjiolinhkadoaaaDoor
