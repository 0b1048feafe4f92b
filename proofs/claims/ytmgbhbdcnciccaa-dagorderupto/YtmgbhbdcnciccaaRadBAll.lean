/-
  Proved here: package radix's Count, and what it asks of package slices, at the three types.
  Proved here: package radix's At at the three types.
-/
import Derived.Test.YtmgbhbdcnciccaaRows
import Derived.Test.YtmgbhbdcnciccaaRadMath
import Derived.WalkKit
import Derived.WalkSpells
import Derived.WalkLawsBesides
import Derived.Below
import Derived.BigQuiet
namespace Go.Proofs.Ytmgbhbdcnciccaa
open Go.RowKit

/-- A row of numbers of a kind that can be read. -/
def RK (k : IntKind) (w : World) (v : Value) (zs : List Int) : Prop :=
  ∃ ao cap, v = .slice ao zs.length cap ∧ zs.length ≤ cap ∧ cap ≤ maxLen ∧ (ao = none → cap = 0) ∧ (∀ i, i < zs.length → k.min ≤ zs.getD i 0 ∧ zs.getD i 0 ≤ k.max) ∧
    ∀ i, i < zs.length → ∃ g o, ao = some ⟨g, o, none⟩ ∧ w.cell? ⟨g, o + i, none⟩ = some (.int k (zs.getD i 0))
theorem RK.nil (k : IntKind) (w : World) : RK k w (.slice none 0 0) [] := ⟨none, 0, rfl, Nat.le_refl _, Nat.zero_le _, fun _ => rfl, fun _ h => absurd h (Nat.not_lt_zero _), fun _ h => absurd h (Nat.not_lt_zero _)⟩
theorem heap_drewR (w : World) (n : Nat) : (w.drewN n).heap = w.heap := by
  induction n generalizing w with
  | zero => rfl
  | succ n ih => exact ih w.drew
theorem RK.below {k : IntKind} {B : Nat} {w w' : World} {v : Value} {zs : List Int} (h : RK k w v zs) (hB : w.heap.size ≤ B) (hb : Below B w w') : RK k w' v zs := by
  obtain ⟨ao, cap, rfl, h1, h2, h3, h4, h5⟩ := h
  refine ⟨ao, cap, rfl, h1, h2, h3, h4, fun j hj => ?_⟩
  obtain ⟨b, off, e, hc⟩ := h5 j hj
  exact ⟨b, off, e, by rw [hb.cell (p := ⟨b, off + j, none⟩) (Nat.lt_of_lt_of_le (block_lt_of_cell hc) hB), hc]⟩
theorem RK.same {k : IntKind} {w w' : World} {v : Value} {zs : List Int} (h : RK k w v zs) (e : w'.heap = w.heap) : RK k w' v zs := by
  obtain ⟨ao, cap, rfl, h1, h2, h3, h4, h5⟩ := h
  refine ⟨ao, cap, rfl, h1, h2, h3, h4, fun j hj => ?_⟩
  obtain ⟨b, off, e', hc⟩ := h5 j hj
  exact ⟨b, off, e', by rw [← hc]; exact World.cell?_of_block (by rw [e])⟩
theorem RK.drewN {k : IntKind} {w : World} {v : Value} {zs : List Int} (h : RK k w v zs) (n : Nat) : RK k (w.drewN n) v zs := h.same (heap_drewR w n)
theorem min_i64 : IntKind.i64.min = -9223372036854775808 := by decide
theorem max_i64 : IntKind.i64.max = 9223372036854775807 := by decide
theorem min_i32 : IntKind.i32.min = -2147483648 := by decide
theorem max_i32 : IntKind.i32.max = 2147483647 := by decide
theorem min_u16 : IntKind.u16.min = 0 := by decide
theorem max_u16 : IntKind.u16.max = 65535 := by decide
theorem drewR_add (w : World) (q : Nat) : ∀ r, (w.drewN q).drewN r = w.drewN (q + r)
  | 0 => rfl
  | r + 1 => by
    show ((w.drewN q).drewN r).drew = (w.drewN (q + r)).drew
    rw [drewR_add w q r]
/-- What lies at a place. -/
theorem any_take {p : Int → Bool} {zs : List Int} {k : Nat} (hk : k < zs.length) : (zs.take (k + 1)).any p = ((zs.take k).any p || p (zs.getD k 0)) := by
  rw [List.take_succ_eq_append_getElem hk, List.any_append, List.getD_eq_getElem?_getD, List.getElem?_eq_getElem hk]
  simp
theorem any_at {p : Int → Bool} {zs : List Int} {k : Nat} (hk : k < zs.length) (h : p (zs.getD k 0) = true) : zs.any p = true := by
  rw [List.getD_eq_getElem?_getD, List.getElem?_eq_getElem hk] at h
  exact List.any_eq_true.2 ⟨_, List.getElem_mem hk, h⟩
/-- What a search answers. -/
def Found (r : Int) (b : Bool) : Prop := (b = true → 0 ≤ r ∧ r ≤ 9223372036854775807) ∧ (b = false → r = -1)
theorem Found.dec {r : Int} {b : Bool} (h : Found r b) : decide (0 ≤ r) = b := by
  cases b with
  | true => simpa using (h.1 rfl).1
  | false => rw [h.2 rfl]; rfl

end Go.Proofs.Ytmgbhbdcnciccaa

namespace Go.Proofs.Ytmgbhbdcnciccaa
open Go.RowKit

theorem at_err {ss ds : List Int} (h : cntE ss ≠ 0) : atE ss ds = cntE ss ∧ atN ss ds = 0 := by simp [atE, atN, h]
theorem at_shape {ss ds : List Int} (h : cntE ss = 0) (h2 : ds.length ≠ ss.length) : atE ss ds = 60 ∧ atN ss ds = 0 := by simp [atE, atN, h, h2]
theorem at_bad {ss ds : List Int} (h : cntE ss = 0) (h2 : ds.length = ss.length) (h3 : bad ss ds = true) : atE ss ds = 3 ∧ atN ss ds = 0 := by simp [atE, atN, h, h2, h3]
theorem at_ok {ss ds : List Int} (h : cntE ss = 0) (h2 : ds.length = ss.length) (h3 : bad ss ds = false) : atE ss ds = 0 ∧ atN ss ds = pl ss ds ss.length := by simp [atE, atN, h, h2, h3]
theorem bad_not {ss ds : List Int} (h : ∀ i, i < ss.length → badAt ss ds i = false) : bad ss ds = false := by
  unfold bad
  rw [List.any_eq_false]
  intro i hi
  rw [h i (List.mem_range.1 hi)]
  exact Bool.false_ne_true
theorem badAt_eq (ss ds : List Int) (i : Nat) : badAt ss ds i = (isNeg (ds.getD i 0) || decide (ss.getD i 0 ≤ ds.getD i 0)) := rfl
theorem fits_place (ss ds : List Int) (h3 : bad ss ds = false) (hp : pr ss ≤ 2147483647) (k : Nat) (hk : k < ss.length) :
    0 ≤ pl ss ds k ∧ 0 ≤ pl ss ds k * ss.getD k 0 ∧ pl ss ds k * ss.getD k 0 + ds.getD k 0 ≤ 2147483647 ∧ pl ss ds k * ss.getD k 0 ≤ 2147483647 ∧ pl ss ds k ≤ 2147483647 := by
  have h := bad_no h3
  have h1 := ss_ones h
  have a := pl_bd ss ds h k (by omega)
  have b := pl_bd ss ds h (k + 1) (by omega)
  have c := pr_take_le ss h1 k
  have d := pr_take_le ss h1 (k + 1)
  have e := h k hk
  rw [pl] at b
  have f : 0 ≤ pl ss ds k * ss.getD k 0 := Int.mul_nonneg a.1 (by omega)
  omega

end Go.Proofs.Ytmgbhbdcnciccaa
