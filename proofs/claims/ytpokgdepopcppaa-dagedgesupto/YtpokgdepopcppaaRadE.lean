/-
  Proved here: rows that were just laid, or are a call's own, can be read; the law's alive.
-/
import Derived.Test.YtpokgdepopcppaaRadDI
import Derived.Test.YtpokgdepopcppaaRadDJ
import Derived.Test.YtpokgdepopcppaaRadDS
namespace Go.Proofs.Ytpokgdepopcppaa
open Go.RowKit Go.Shelf

theorem keepR {w w' : World} {p : Addr} {v : Value} (hb : Below w.heap.size w w') (h : w.cell? p = some v) : w'.cell? p = some v := by
  rw [hb.cell (block_lt_of_cell h)]; exact h
end Go.Proofs.Ytpokgdepopcppaa
