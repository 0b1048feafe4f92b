/-
  Proved here: what Shift answers, and what the plain way's Bit answers.
  Proved here: what the plain way's Norm answers.
  Proved here: what the plain way's limb, Uint, Bits, Cmp and Sub answer.
  Proved here: what the plain way's Bit answers.
  Proved here: what the plain way's Shift answers.
  Proved here: what the plain way's double answers.
  Proved here: what the plain way's Cmp, Sub and Add answer.
  Proved here: what the plain way's Sub (of a smaller number), Add and Mul answer.
  Proved here: plain mathematics for the plain way's division (bit by bit) and common divisor (halves and differences).
  Proved here: what the plain way's DivMod answers.
  Proved here: what the plain way's half and even answer.
  Proved here: what the plain way's Gcd answers.
  Proved here: plain facts on texts with a stroke ahead, and on noughts ahead of digits. No condition.
  Proved here: what Same answers of two numbers that are one.
  Proved here: what the plain way's Parse answers.
  Proved here: what Make, Same and Parse of the plain way over whole numbers answer.
  Proved here: what Int of package whole answers of a number that is an int.
  Proved here: what the plain way's ten answers.
  Proved here: what the plain way's Text answers.
  Proved here: what the plain way's Of answers.
  Proved here: what the plain way's Mul answers.
  Proved here: 'apart' of numbers that are what they must be, each in a row of its own, answers true.
  Proved here: what the law's cut answers.
  Proved here: what cut, roomy and kept answer.
  Proved here: plain facts on a bag of numbers that a call made for itself, and 'apart' of such a bag.
  Proved here: what Uint and Sub answer of any numbers, by either way.
  Proved here: what Norm, Neg, Add, Sub, Sign, Cmp, Of, Int and Text of the plain way over whole numbers answer.
  Proved here: what the document's lowest of layer 3 answers.
  Proved here: credenceref03's Own, of numbers each in a row of its own: it answers true.
  Proved here: credenceref03's limbs and stands: a list that is lent, with marked room behind; what was lent stands as it did.
  Proved here: what strings.Cut answers of a text and a stroke.
-/
import Derived.Test.YtdfmmaehmngkhaaDoorLift
import Derived.Test.YtdfmmaehmngkhaaDoorLimMathAll
import Derived.Test.YtdfmmaehmngkhaaDoorSmallAll
import Derived.Laws.AppendOwnNone
import Derived.Test.YtdfmmaehmngkhaaDoorBlendFnAll
import Derived.Test.YtdfmmaehmngkhaaDoorWholeBAll
import Derived.Deep.RegionHeld3
import Derived.Test.YtdfmmaehmngkhaaDoorMul
import Derived.Test.YtdfmmaehmngkhaaDoorDivByAll
import Derived.Test.YtdfmmaehmngkhaaDoorDivMod
import Derived.Test.YtdfmmaehmngkhaaDoorValAtAll
import Derived.Test.YtdfmmaehmngkhaaDoorWinMathAll
import Derived.Test.YtdfmmaehmngkhaaDoorDivMathAll
import Derived.Laws.Strings
import Derived.Test.YtdfmmaehmngkhaaDoorTrimAll
import Derived.Test.YtdfmmaehmngkhaaDoorTrimLAll
import Derived.Test.YtdfmmaehmngkhaaDoorText
import Derived.WalkSmall
import Derived.Test.YtdfmmaehmngkhaaDoorFracC
import Derived.Laws.Externs
namespace Go.Proofs.YtdfmmaehmngkhaaDoor
open Go.RowKit

end Go.Proofs.YtdfmmaehmngkhaaDoor

namespace Go.Proofs.YtdfmmaehmngkhaaDoor
open Go.RowKit

end Go.Proofs.YtdfmmaehmngkhaaDoor

namespace Go.Proofs.YtdfmmaehmngkhaaDoor
open Go.RowKit

end Go.Proofs.YtdfmmaehmngkhaaDoor

namespace Go.Proofs.YtdfmmaehmngkhaaDoor
open Go.RowKit

end Go.Proofs.YtdfmmaehmngkhaaDoor

namespace Go.Proofs.YtdfmmaehmngkhaaDoor
open Go.RowKit

end Go.Proofs.YtdfmmaehmngkhaaDoor

namespace Go.Proofs.YtdfmmaehmngkhaaDoor
open Go.RowKit

end Go.Proofs.YtdfmmaehmngkhaaDoor

namespace Go.Proofs.YtdfmmaehmngkhaaDoor
open Go.RowKit

end Go.Proofs.YtdfmmaehmngkhaaDoor

namespace Go.Proofs.YtdfmmaehmngkhaaDoor
open Go.RowKit

end Go.Proofs.YtdfmmaehmngkhaaDoor

namespace Go.Proofs.YtdfmmaehmngkhaaDoor

end Go.Proofs.YtdfmmaehmngkhaaDoor

namespace Go.Proofs.YtdfmmaehmngkhaaDoor
open Go.RowKit

end Go.Proofs.YtdfmmaehmngkhaaDoor

namespace Go.Proofs.YtdfmmaehmngkhaaDoor
open Go.RowKit

end Go.Proofs.YtdfmmaehmngkhaaDoor

namespace Go.Proofs.YtdfmmaehmngkhaaDoor
open Go.RowKit

/-- Two numbers of the call's own. -/
structure Two (B : Nat) (w0 w : World) (x y : Value) (X Y : Nat) : Prop where
  ox : Own B 68 w x (lim X)
  oy : Own B 68 w y (lim Y)
  lx : (lim X).length ≤ 4000
  ly : (lim Y).length ≤ 4000
  bel : Below w0.heap.size w0 w

end Go.Proofs.YtdfmmaehmngkhaaDoor

namespace Go.Proofs.YtdfmmaehmngkhaaDoor
open Go.RowKit

theorem s_size (s : ByteArray) : s.size = s.data.toList.length := by rw [Array.length_toList]; rfl
theorem strk_eq (s : ByteArray) : strk s = decide (s.data.toList.take 1 = [45]) := by
  unfold strk
  rw [ByteArray.toList_eq, extract_list, List.drop_zero, s_size]
  cases h : s.data.toList with
  | nil => rfl
  | cons x r =>
    rw [Bool.eq_iff_iff]
    simp
theorem strk_first {s : ByteArray} {x : UInt8} {r : List UInt8} (h : s.data.toList = x :: r) (hx : x ≠ 45) : strk s = false ∧ tail s = s := by
  have h1 : strk s = false := by rw [strk_eq, h]; simpa using hx
  refine ⟨h1, ?_⟩
  unfold tail
  rw [h1]
  rfl
theorem dig_first {s : ByteArray} (h : DigOk s) (h0 : 0 < s.size) : strk s = false ∧ tail s = s := by
  cases hl : s.data.toList with
  | nil => rw [s_size, hl] at h0; exact absurd h0 (by simp)
  | cons x r =>
    refine strk_first hl ?_
    intro hx
    have h1 := h 0 h0
    unfold bt at h1
    rw [hl, hx] at h1
    simp at h1
theorem parse_of {s t : ByteArray} {k : Bool} {z : Int} (hst : strk s = k) (htl : tail s = t) (hd : DigOk t ∧ 0 < t.size) (hz : zv k (bval (dgs t)) = z) (hs : s.size ≤ 1000000) (w : World) :
    Calls Tryd.prog 48 #[.string s] w fun e w' => ∃ v, e = .returned (.tuple #[v, .int .i64 0]) ∧ IOwn w.heap.size w' v z ∧ Below w.heap.size w w' := by
  have h := c_parse s w hs
  rw [htl, hst, hz] at h
  simp only [hd, and_self, if_true] at h
  exact h
end Go.Proofs.YtdfmmaehmngkhaaDoor

namespace Go.Proofs.YtdfmmaehmngkhaaDoor
open Go.RowKit

end Go.Proofs.YtdfmmaehmngkhaaDoor

namespace Go.Proofs.YtdfmmaehmngkhaaDoor
open Go.RowKit

end Go.Proofs.YtdfmmaehmngkhaaDoor

namespace Go.Proofs.YtdfmmaehmngkhaaDoor
open Go.RowKit

end Go.Proofs.YtdfmmaehmngkhaaDoor

namespace Go.Proofs.YtdfmmaehmngkhaaDoor
open Go.RowKit

end Go.Proofs.YtdfmmaehmngkhaaDoor

namespace Go.Proofs.YtdfmmaehmngkhaaDoor
open Go.RowKit

end Go.Proofs.YtdfmmaehmngkhaaDoor

namespace Go.Proofs.YtdfmmaehmngkhaaDoor
open Go.RowKit

end Go.Proofs.YtdfmmaehmngkhaaDoor

namespace Go.Proofs.YtdfmmaehmngkhaaDoor
open Go.RowKit

end Go.Proofs.YtdfmmaehmngkhaaDoor

namespace Go.Proofs.YtdfmmaehmngkhaaDoor
open Go.RowKit

end Go.Proofs.YtdfmmaehmngkhaaDoor

namespace Go.Proofs.YtdfmmaehmngkhaaDoor
open Go.RowKit

end Go.Proofs.YtdfmmaehmngkhaaDoor

namespace Go.Proofs.YtdfmmaehmngkhaaDoor
open Go.RowKit


end Go.Proofs.YtdfmmaehmngkhaaDoor

namespace Go.Proofs.YtdfmmaehmngkhaaDoor
open Go.RowKit

end Go.Proofs.YtdfmmaehmngkhaaDoor

namespace Go.Proofs.YtdfmmaehmngkhaaDoor
open Go.RowKit

theorem belowD (w : World) (q : Nat) : Below w.heap.size w (w.drewN q) := below_drewN (Below.refl _ _) q
end Go.Proofs.YtdfmmaehmngkhaaDoor

namespace Go.Proofs.YtdfmmaehmngkhaaDoor
open Go.RowKit

end Go.Proofs.YtdfmmaehmngkhaaDoor

namespace Go.Proofs.YtdfmmaehmngkhaaDoor
open Go.RowKit

end Go.Proofs.YtdfmmaehmngkhaaDoor

namespace Go.Proofs.YtdfmmaehmngkhaaDoor
open Go.RowKit

end Go.Proofs.YtdfmmaehmngkhaaDoor

namespace Go.Proofs.YtdfmmaehmngkhaaDoor
open Go.RowKit

end Go.Proofs.YtdfmmaehmngkhaaDoor

namespace Go.Proofs.YtdfmmaehmngkhaaDoor
open Go.RowKit

end Go.Proofs.YtdfmmaehmngkhaaDoor

namespace Go.Proofs.YtdfmmaehmngkhaaDoor
open Go.RowKit
theorem ixb (s : ByteArray) (w : World) : (callFunc 99 #[.string s, .int .u8 47]).run Tryd.prog w = .ok (.value (.int .i64 (firstIdx s 47))) w := by
  rw [run_callFunc_extern (e := Extern.BytealgIndexByte.indexByte) Tryd.func99 (by kernel_rfl) (by kernel_rfl) (by kernel_rfl) (by kernel_rfl), run_indexByte_string]
  rfl
theorem b47 : ((({ data := #[47] } : ByteArray)[0]'(by decide)).toNat : Int) = 47 := rfl
set_option maxRecDepth 100000 in
set_option maxHeartbeats 3200000 in
theorem slcut56 (w : World) : Calls Tryd.prog 64 #[.string ⟨#[53, 47, 54]⟩, .string ⟨#[47]⟩] w fun e w' => e = .returned (.tuple #[.string ⟨#[53]⟩, .string ⟨#[54]⟩, .bool true]) ∧ Below w.heap.size w w' := by
  have h1 := ixb ⟨#[53, 47, 54]⟩ w
  rw [show firstIdx ⟨#[53, 47, 54]⟩ 47 = 1 by decide] at h1
  have h2 := b47
  go_enter Tryd.func64, Tryd.ntmps64
  go_wp2
  go_quiet (fail)
  go_wp2
  go_ret3
  exact ⟨rfl, belowDN _ _⟩
set_option maxRecDepth 100000 in
set_option maxHeartbeats 3200000 in
theorem cut56 (w : World) : Calls Tryd.prog 47 #[.string ⟨#[53, 47, 54]⟩, .string ⟨#[47]⟩] w fun e w' => e = .returned (.tuple #[.string ⟨#[53]⟩, .string ⟨#[54]⟩, .bool true]) ∧ Below w.heap.size w w' := by
  go_enter Tryd.func47, Tryd.ntmps47
  go_wp2_with fail
  refine (slcut56 _).mono ?_
  rintro e w2 ⟨rfl, hb⟩
  have HB : Hid (Below w.heap.size w w2) := hb
  clear hb
  go_wp2_with fail
  go_ret3
  exact ⟨rfl, HB.out⟩
end Go.Proofs.YtdfmmaehmngkhaaDoor
