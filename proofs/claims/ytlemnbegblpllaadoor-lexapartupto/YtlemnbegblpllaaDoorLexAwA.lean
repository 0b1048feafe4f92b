/-
  Proved here: what is told of the two texts of the document's examples.
-/
import Derived.Test.YtlemnbegblpllaaDoorLexNamedMAll
namespace Go.Proofs.YtlemnbegblpllaaDoor
open Go.RowKit

/-- The end of a run, by steps that are counted. -/
def runEndF (p : Nat → Bool) (s : ByteArray) : Nat → Nat → Nat
  | 0, i => i
  | n + 1, i => if i < s.size ∧ p (atB s i) = true then runEndF p s n (i + 1) else i
theorem runEnd_fuel (p : Nat → Bool) (s : ByteArray) : ∀ n i, s.size - i ≤ n → runEnd p s i = runEndF p s n i
  | 0, i, h => by rw [runEnd_no (by omega)]; rfl
  | n + 1, i, h => by
    unfold runEndF
    by_cases hc : i < s.size ∧ p (atB s i) = true
    · rw [if_pos hc, runEnd_yes hc.1 hc.2]; exact runEnd_fuel p s n (i + 1) (by omega)
    · rw [if_neg hc, runEnd_no hc]
theorem runEnd_C (p : Nat → Bool) (s : ByteArray) (i : Nat) : runEnd p s i = runEndF p s s.size i := runEnd_fuel p s _ i (by omega)
def ptEndC (s : ByteArray) (i : Nat) : Nat := if atB s i = 46 ∧ i + 1 < runEndF isD s s.size (i + 1) then runEndF isD s s.size (i + 1) else i
def xpoC (s : ByteArray) (i : Nat) : Nat × Nat := if (atB s i = 101 ∨ atB s i = 69) ∧ xFirst s i < runEndF isD s s.size (xFirst s i) then (xFirst s i, runEndF isD s s.size (xFirst s i)) else (i, i)
def numEndC (s : ByteArray) (i : Nat) : Nat × Nat := xpoC s (ptEndC s (runEndF isD s s.size i))
def nameOutC (s : ByteArray) (i : Nat) : Out :=
  if 64 < runEndF isW s s.size i - i then .flt 20 (lineOf s i) (colOf s i) (s.extract i (runEndF isW s s.size i)) else .tok 1 (s.extract i (runEndF isW s s.size i)) (lineOf s i) (colOf s i) (runEndF isW s s.size i)
def numBadC (s : ByteArray) (i : Nat) : Bool := decide ((numEndC s i).2 < runEndF isW s s.size (numEndC s i).2) || isFarF (s.extract (numEndC s i).1 (numEndC s i).2)
def numOutC (s : ByteArray) (i : Nat) : Out :=
  if numBadC s i = true then .flt 22 (lineOf s i) (colOf s i) (s.extract i (runEndF isW s s.size (numEndC s i).2)) else .tok 2 (s.extract i (numEndC s i).2) (lineOf s i) (colOf s i) (numEndC s i).2
def wordOutC (s : ByteArray) (j : Nat) : Out :=
  if j = s.size then .tok 0 ⟨#[]⟩ (lineOf s j) (colOf s j) j
  else if kd (atB s j) = 2 then nameOutC s j
  else if kd (atB s j) = 3 then numOutC s j
  else if kd (atB s j) = 4 then quoteOut s j
  else if kd (atB s j) = 5 then .tok 4 (s.extract j (j + 1)) (lineOf s j) (colOf s j) (j + 1)
  else .flt 20 (lineOf s j) (colOf s j) (s.extract j (j + 1))
def nextOutC (s : ByteArray) (i : Nat) : Out := if (skF s (s.size + 1) i).1 = true then wordOutC s (skF s (s.size + 1) i).2 else .flt 21 (lineOf s (skF s (s.size + 1) i).2) (colOf s (skF s (s.size + 1) i).2) (s.extract (skF s (s.size + 1) i).2 ((skF s (s.size + 1) i).2 + 2))
theorem nextOut_C (s : ByteArray) (i : Nat) : nextOut s i = nextOutC s i := by
  unfold nextOut nextTold nextOutC wordOut wordOutC nameOut nameOutC numOut numOutC numBad numBadC numEnd numEndC xpo xpoC ptEnd ptEndC
  simp only [runEnd_C]
def toldsC (s : ByteArray) : Nat → Nat → List Out
  | 0, _ => []
  | n + 1, i => nextOutC s i :: (if (nextOutC s i).last = true then [] else toldsC s n (nextOutC s i).goes)
theorem tolds_C (s : ByteArray) : ∀ n i, tolds s n i = toldsC s n i
  | 0, _ => rfl
  | n + 1, i => by
    unfold tolds toldsC
    rw [nextOut_C, tolds_C s n]
theorem all_one : allF ⟨#[97, 10, 34, 120, 92, 34, 121, 34, 59, 32, 47, 47, 32, 115, 111]⟩ 0 = [.tok 1 ⟨#[97]⟩ 1 1 1, .tok 3 ⟨#[120, 34, 121]⟩ 2 1 8, .tok 4 ⟨#[59]⟩ 2 7 9, .tok 0 ⟨#[]⟩ 2 14 15] := by
  unfold allF
  rw [tolds_C]
  kernel_rfl
theorem all_two : fltOf (allF ⟨#[49, 46, 53, 101, 45, 51, 44, 50, 101]⟩ 0) = some (22, 1, 8, ⟨#[50, 101]⟩) := by
  unfold allF
  rw [tolds_C]
  kernel_rfl
end Go.Proofs.YtlemnbegblpllaaDoor
