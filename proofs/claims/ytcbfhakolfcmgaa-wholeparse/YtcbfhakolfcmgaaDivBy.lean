/-
  Proved here: what divideBy answers.
-/
import Derived.Test.YtcbfhakolfcmgaaMul
import Derived.Test.YtcbfhakolfcmgaaShiftMath
namespace Go.Proofs.Ytcbfhakolfcmgaa
open Go.RowKit

theorem val_drop_step (zs : List Nat) (j : Nat) : val (zs.drop j) = zs.getD j 0 + 4294967296 * val (zs.drop (j + 1)) := by
  rw [val_tail (zs.drop j), getD_drop, Nat.add_zero, List.tail_drop]
theorem or_low {x y : Nat} (hx : x < 4294967296) (hy : y < 4294967296) : bits BinOp.or IntKind.u64 ((y : Int) * 4294967296) (x : Int) = ((y * 4294967296 + x : Nat) : Int) := by
  have h := bits_or_u64_nat (y * 4294967296) x (by omega) (by omega)
  rw [show ((y : Int) * 4294967296) = ((y * 4294967296 : Nat) : Int) by omega, h]
  congr 1
  have h2 := Nat.shiftLeft_add_eq_or_of_lt (i := 32) (b := x) (by simpa using hx) y
  rw [Nat.shiftLeft_eq, show (2 ^ 32 : Nat) = 4294967296 from rfl] at h2
  rw [← h2]
theorem div_by_step {zs ys : List Nat} {j l b d r : Nat} (hj : j < ys.length) (h : val (ys.drop (j + 1)) * b + l = val (zs.drop (j + 1))) (hd : (l * 4294967296 + zs.getD j 0) = d * b + r) :
    val ((ys.set j d).drop j) * b + r = val (zs.drop j) := by
  have e1 := val_drop_step (ys.set j d) j
  have e2 : (ys.set j d).drop (j + 1) = ys.drop (j + 1) := List.drop_set_of_lt (by omega)
  rw [getD_set_eq _ _ _ hj, e2] at e1
  rw [e1, val_drop_step zs j, ← h, Nat.add_mul, Nat.mul_add, Nat.mul_assoc]
  omega

theorem grownBy_set {w0 w : World} {g : Nat} (h : w0.grownBy w (some g)) (k : Nat) (u : Value) : w0.grownBy (w.setCell ⟨g, k, none⟩ u) (some g) :=
  ⟨h.os, h.tape, h.output, by simp [World.setCell]; exact h.size, fun j hj hne => by
    rw [heap_setCell_other]
    · exact h.block j hj hne
    · intro e; exact hne (by rw [e])⟩

/-- What divideBy leaves. -/
def ByEnd (B : Nat) (w0 : World) (g cap : Nat) (zs : List Nat) (b : Nat) (e : Ending) (w' : World) : Prop :=
  ∃ ys : List Nat, e = .returned (.int .u32 ((val zs % b : Nat) : Int)) ∧ ys.length = zs.length ∧ Own B 30 w' (.slice (some ⟨g, 0, none⟩) zs.length cap) ys ∧ val ys = val zs / b ∧ w0.grownBy w' (some g)

end Go.Proofs.Ytcbfhakolfcmgaa
