/-
  Proved here: what the small makers of numbers answer.
-/
import Derived.Test.YtcbfhakolfcmgaaTrim
import Derived.Laws.Bits64b
namespace Go.Proofs.Ytcbfhakolfcmgaa
open Go.RowKit

theorem Try.infoU : (Try.prog.info? 30).map (fun i => (i.zero, i.size, i.bytes)) = some (some (.int .u32 0), 1, 4) := by kernel_rfl

theorem val_two (u : Nat) : val [u % 4294967296, u / 4294967296] = u := by simp [val]; omega

theorem or_high (x y : Nat) (hx : x < 4294967296) (hy : y < 4294967296) : bits BinOp.or IntKind.u64 (x : Int) ((y : Int) * 4294967296) = ((x + 4294967296 * y : Nat) : Int) := by
  have h := bits_or_u64_nat x (y * 4294967296) (by omega) (by omega)
  rw [show ((y : Int) * 4294967296) = ((y * 4294967296 : Nat) : Int) by omega, h]
  congr 1
  have h2 := Nat.shiftLeft_add_eq_or_of_lt (i := 32) (b := x) (by simpa using hx) y
  rw [Nat.shiftLeft_eq, show (2 ^ 32 : Nat) = 4294967296 from rfl] at h2
  rw [Nat.or_comm, ← h2]; omega

theorem or_halves (V : Nat) (h : V < 18446744073709551616) : bits BinOp.or IntKind.u64 ((V : Int) % 4294967296) ((V : Int) / 4294967296 * 4294967296) = (V : Int) := by
  have hor := or_high (V % 4294967296) (V / 4294967296) (by omega) (by omega)
  rw [Int.natCast_emod, Int.natCast_ediv] at hor
  refine hor.trans ?_
  omega

end Go.Proofs.Ytcbfhakolfcmgaa
