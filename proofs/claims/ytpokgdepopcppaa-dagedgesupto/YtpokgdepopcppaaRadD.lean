/-
  Proved here: package radix's Digits at the three types.
-/
import Derived.Test.YtpokgdepopcppaaRadC
import Derived.Laws.MakeOwn
import Derived.Laws.OwnMore
namespace Go.Proofs.Ytpokgdepopcppaa
open Go.RowKit Go.Shelf
attribute [local go_sem] Oper.semAt_some

theorem made_row (z : Value) (m : Nat) : madeCells #[z] m = Array.replicate m z := by
  apply Array.ext'
  apply List.ext_getElem
  · simp [madeCells]
  · intro i h1 h2
    simp [madeCells, Nat.mod_one]
/-- The row when k digits are told. -/
def rowK (ss : List Int) (a : Int) (k : Nat) : List Int := (List.range ss.length).map fun i => if ss.length - k ≤ i then digAt ss a i else 0
/-- How memory stands when k digits are told. -/
structure DgC (K : IntKind) (e t : Nat) (w : World) (v : Value) (ss : List Int) (a : Int) (s : Nat) (lo : Loop) (k : Nat) (W : World) : Prop where
  at_ : W.heap[s]? = some (.cells #[.int .i64 (a / pr (ss.drop (ss.length - k)))] 3 (0, 0))
  row : W.heap[s + 1]? = some (.cells ((rowK ss a k).map (Value.int K)).toArray e (0, 0))
  box : W.heap[s + 2]? = some (.cells #[.slice (some ⟨s + 1, 0, none⟩) ss.length ss.length] t (0, 0))
  src : W.heap[s + 3]? = some (.cells #[v] t (0, 0))
  dfr : W.heap[s + 4]? = some (.deferred (some []))
  rcd : W.heap[s + 5]? = some (.loop lo)
  bel : Below s w W
section
variable {K : IntKind} {e t : Nat} {w : World} {v : Value} {ss : List Int} {a : Int} {s : Nat} {lo : Loop} {k : Nat} {W : World}
theorem DgC.drew (h : DgC K e t w v ss a s lo k W) : DgC K e t w v ss a s lo k W.drew := ⟨h.at_, h.row, h.box, h.src, h.dfr, h.rcd, h.bel.drew⟩
theorem DgC.put (h : DgC K e t w v ss a s lo k W) (lo' : Loop) : DgC K e t w v ss a s lo' k (W.putObj (s + 5) (.loop lo')) := by
  have hl : s + 5 < W.heap.size := (Array.getElem?_eq_some_iff.1 h.rcd).1
  refine ⟨?_, ?_, ?_, ?_, ?_, World.putObj_heap_same hl, ?_⟩
  · rw [World.putObj_heap_other (by omega)]; exact h.at_
  · rw [World.putObj_heap_other (by omega)]; exact h.row
  · rw [World.putObj_heap_other (by omega)]; exact h.box
  · rw [World.putObj_heap_other (by omega)]; exact h.src
  · rw [World.putObj_heap_other (by omega)]; exact h.dfr
  · exact h.bel.trans ⟨rfl, rfl, rfl, by simp [World.putObj], fun q hq => World.putObj_heap_other (by omega)⟩
end
end Go.Proofs.Ytpokgdepopcppaa
