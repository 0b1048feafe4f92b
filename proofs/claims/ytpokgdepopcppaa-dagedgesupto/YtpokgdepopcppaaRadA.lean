/-
  Proved here: package radix's Count, and what it asks of package slices, at the three types.
-/
import Derived.Test.YtpokgdepopcppaaRows
import Derived.Test.YtpokgdepopcppaaRadMath
import Derived.WalkKit
import Derived.WalkSpells
import Derived.WalkLawsBesides
import Derived.Below
import Derived.BigQuiet
namespace Go.Proofs.Ytpokgdepopcppaa
open Go.RowKit

theorem drewR_add (w : World) (q : Nat) : ∀ r, (w.drewN q).drewN r = w.drewN (q + r)
  | 0 => rfl
  | r + 1 => by
    show ((w.drewN q).drewN r).drew = (w.drewN (q + r)).drew
    rw [drewR_add w q r]
/-- What lies at a place. -/
theorem any_take {p : Int → Bool} {zs : List Int} {k : Nat} (hk : k < zs.length) : (zs.take (k + 1)).any p = ((zs.take k).any p || p (zs.getD k 0)) := by
  rw [List.take_succ_eq_append_getElem hk, List.any_append, List.getD_eq_getElem?_getD, List.getElem?_eq_getElem hk]
  simp
theorem any_at {p : Int → Bool} {zs : List Int} {k : Nat} (hk : k < zs.length) (h : p (zs.getD k 0) = true) : zs.any p = true := by
  rw [List.getD_eq_getElem?_getD, List.getElem?_eq_getElem hk] at h
  exact List.any_eq_true.2 ⟨_, List.getElem_mem hk, h⟩
/-- What a search answers. -/
def Found (r : Int) (b : Bool) : Prop := (b = true → 0 ≤ r ∧ r ≤ 9223372036854775807) ∧ (b = false → r = -1)
theorem Found.dec {r : Int} {b : Bool} (h : Found r b) : decide (0 ≤ r) = b := by
  cases b with
  | true => simpa using (h.1 rfl).1
  | false => rw [h.2 rfl]; rfl

end Go.Proofs.Ytpokgdepopcppaa
