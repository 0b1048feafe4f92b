/-
  Proved here: what digitsEnd, wordEnd, pointEnd, exponent and isFar of package lex answer.
-/
import Derived.Test.YtlemnbegblpllaaDoorLexA
namespace Go.Proofs.YtlemnbegblpllaaDoor
open Go.RowKit

/-- Where the bytes of a kind end that stand at a place. -/
def runEnd (p : Nat → Bool) (s : ByteArray) (i : Nat) : Nat := if h : i < s.size ∧ p (atB s i) = true then runEnd p s (i + 1) else i
termination_by s.size - i
decreasing_by omega
theorem runEnd_yes {p : Nat → Bool} {s : ByteArray} {i : Nat} (h : i < s.size) (hp : p (atB s i) = true) : runEnd p s i = runEnd p s (i + 1) := by
  rw [runEnd, dif_pos ⟨h, hp⟩]
theorem runEnd_no {p : Nat → Bool} {s : ByteArray} {i : Nat} (h : ¬ (i < s.size ∧ p (atB s i) = true)) : runEnd p s i = i := by
  rw [runEnd, dif_neg h]
theorem runEnd_le (p : Nat → Bool) (s : ByteArray) : ∀ n i, s.size - i = n → i ≤ runEnd p s i ∧ (i ≤ s.size → runEnd p s i ≤ s.size)
  | 0, i, hn => by
    rw [runEnd_no (by omega)]
    exact ⟨Nat.le_refl _, fun h => h⟩
  | n + 1, i, hn => by
    by_cases h : i < s.size ∧ p (atB s i) = true
    · rw [runEnd_yes h.1 h.2]
      have := runEnd_le p s n (i + 1) (by omega)
      exact ⟨by omega, fun _ => this.2 (by omega)⟩
    · rw [runEnd_no h]
      exact ⟨Nat.le_refl _, fun h => h⟩
theorem le_runEnd (p : Nat → Bool) (s : ByteArray) (i : Nat) : i ≤ runEnd p s i := (runEnd_le p s _ i rfl).1
theorem runEnd_size (p : Nat → Bool) (s : ByteArray) {i : Nat} (h : i ≤ s.size) : runEnd p s i ≤ s.size := (runEnd_le p s _ i rfl).2 h
def isD (b : Nat) : Bool := kd b == 3
def isW (b : Nat) : Bool := kd b == 2 || kd b == 3
theorem atB_out {s : ByteArray} {i : Nat} (h : ¬ i < s.size) : atB s i = 0 := dif_neg h
theorem isD_zero : isD 0 = false := rfl
theorem isW_zero : isW 0 = false := rfl

set_option maxRecDepth 100000 in
set_option maxHeartbeats 1600000 in
theorem digitsEnd_any (s : ByteArray) (i : Nat) (w : World) (hs : s.size < 4611686018427387904) (hi : i ≤ s.size) :
    Calls Tryd.prog 60 #[.string s, .int .i64 (i : Int)] w fun e w' => e = .returned (.int .i64 (runEnd isD s i : Nat)) ∧ w' = w := by
  obtain ⟨r, hr⟩ : ∃ r, r = runEnd isD s i := ⟨_, rfl⟩
  rw [← hr]
  go_enter Tryd.func60, Tryd.ntmps60
  go_wp2_with fail
  go_loopw [1] (fun t wr => ∃ k : Nat, k ≤ s.size ∧ t = .int .i64 k ∧ runEnd isD s k = r ∧ wr = w) (fun t _ => s.size - (intOf t).toNat)
  case atStart => exact ⟨i, hi, rfl, hr.symm, rfl⟩
  case round =>
    clear hr hi
    obtain ⟨k, hk, rfl, hkr, hw⟩ := hrel
    obtain rfl : w = wr := hw.symm
    go_wp2_with fail
    refine (byteAt_any s k _).mono ?_
    rintro e w1 ⟨rfl, rfl⟩
    go_wp2_with fail
    refine (kindOf_any _ _).mono ?_
    rintro e w2 ⟨rfl, rfl⟩
    by_cases hd : isD (atB s k) = true
    · have hks : k < s.size := by
        rcases Nat.lt_or_ge k s.size with h | h
        · exact h
        · rw [atB_out (Nat.not_lt.2 h)] at hd; exact absurd hd (by decide)
      have HR : Hid (runEnd isD s (k + 1) = r) := by show _ = _; rw [← runEnd_yes hks hd]; exact hkr
      have hd2 : (kd (atB s k) == 3) = true := hd
      generalize kd (atB s k) = kk at *
      clear hd hkr
      go_wp2
      go_roundw
      case rel => exact ⟨k + 1, by omega, by go_num, HR.out, by first | trivial | rfl⟩
      case measure => simp [intOf]; omega
    · have hd2 : (kd (atB s k) == 3) = false := by simpa [isD] using hd
      have HR : Hid (k = r) := by show _ = _; rw [← hkr, runEnd_no (fun h => hd h.2)]
      generalize kd (atB s k) = kk at *
      clear hd hkr
      go_wp2
      go_ret
      exact ⟨by rw [← HR.out]; rfl, by first | trivial | rfl⟩

set_option maxRecDepth 100000 in
set_option maxHeartbeats 1600000 in
theorem wordEnd_any (s : ByteArray) (i : Nat) (w : World) (hs : s.size < 4611686018427387904) (hi : i ≤ s.size) :
    Calls Tryd.prog 29 #[.string s, .int .i64 (i : Int)] w fun e w' => e = .returned (.int .i64 (runEnd isW s i : Nat)) ∧ w' = w := by
  obtain ⟨r, hr⟩ : ∃ r, r = runEnd isW s i := ⟨_, rfl⟩
  rw [← hr]
  go_enter Tryd.func29, Tryd.ntmps29
  go_wp2_with fail
  go_loopw [1] (fun t wr => ∃ k : Nat, k ≤ s.size ∧ t = .int .i64 k ∧ runEnd isW s k = r ∧ wr = w) (fun t _ => s.size - (intOf t).toNat)
  case atStart => exact ⟨i, hi, rfl, hr.symm, rfl⟩
  case round =>
    clear hr hi
    obtain ⟨k, hk, rfl, hkr, hw⟩ := hrel
    obtain rfl : w = wr := hw.symm
    go_wp2_with fail
    refine (byteAt_any s k _).mono ?_
    rintro e w1 ⟨rfl, rfl⟩
    go_wp2_with fail
    refine (kindOf_any _ _).mono ?_
    rintro e w2 ⟨rfl, rfl⟩
    by_cases hd : isW (atB s k) = true
    · have hks : k < s.size := by
        rcases Nat.lt_or_ge k s.size with h | h
        · exact h
        · rw [atB_out (Nat.not_lt.2 h)] at hd; exact absurd hd (by decide)
      have HR : Hid (runEnd isW s (k + 1) = r) := by show _ = _; rw [← runEnd_yes hks hd]; exact hkr
      have hd2 : kd (atB s k) = 2 ∨ kd (atB s k) = 3 := by simpa [isW] using hd
      generalize kd (atB s k) = kk at *
      clear hd hkr
      rcases hd2 with rfl | rfl
      all_goals
        go_wp2
        go_roundw
        case rel => exact ⟨k + 1, by omega, by go_num, HR.out, by first | trivial | rfl⟩
        case measure => simp [intOf]; omega
    · have hd2 : (kd (atB s k) == 2) = false ∧ (kd (atB s k) == 3) = false := by simpa [isW] using hd
      have HR : Hid (k = r) := by show _ = _; rw [← hkr, runEnd_no (fun h => hd h.2)]
      generalize kd (atB s k) = kk at *
      obtain ⟨d2, d3⟩ := hd2
      clear hd hkr
      go_wp2
      go_ret
      exact ⟨by rw [← HR.out]; rfl, by first | trivial | rfl⟩

/-- Where a point and its digits end. -/
def ptEnd (s : ByteArray) (i : Nat) : Nat := if atB s i = 46 ∧ i + 1 < runEnd isD s (i + 1) then runEnd isD s (i + 1) else i
theorem atB_in {s : ByteArray} {i : Nat} (h : atB s i ≠ 0) : i < s.size := by
  rcases Nat.lt_or_ge i s.size with h1 | h1
  · exact h1
  · exact absurd (atB_out (Nat.not_lt.2 h1)) h
set_option maxRecDepth 100000 in
set_option maxHeartbeats 1600000 in
theorem pointEnd_any (s : ByteArray) (i : Nat) (w : World) (hs : s.size < 4611686018427387904) :
    Calls Tryd.prog 61 #[.string s, .int .i64 (i : Int)] w fun e w' => e = .returned (.int .i64 (ptEnd s i : Nat)) ∧ w' = w := by
  by_cases h : atB s i = 46
  · have hin : i < s.size := atB_in (by rw [h]; decide)
    have hq := fun w => digitsEnd_any s (i + 1) w hs hin
    have HB := byteAt_any s i
    rw [h] at HB
    have hw1 : IntKind.i64.wrap ((i : Int) + 1) = ((i + 1 : Nat) : Int) := by rw [IntKind.wrap_i64]; omega
    by_cases h2 : i + 1 < runEnd isD s (i + 1)
    · have HE : Hid (ptEnd s i = runEnd isD s (i + 1)) := if_pos ⟨h, h2⟩
      rw [HE.out]
      generalize runEnd isD s (i + 1) = r at *
      have h3 : ((i + 1 : Nat) : Int) < (r : Int) := by omega
      obtain ⟨j, hj⟩ : ∃ j, j = i + 1 := ⟨_, rfl⟩
      rw [← hj] at hw1 hq h3
      clear HE h2 hj
      go_enter Tryd.func61, Tryd.ntmps61
      go_wp2_with fail
      refine (HB _).mono ?_
      rintro e w1 ⟨rfl, rfl⟩
      go_wp2_with fail
      refine (hq _).mono ?_
      rintro e w2 ⟨rfl, rfl⟩
      go_wp2
      go_ret
      exact ⟨rfl, by first | trivial | rfl⟩
    · have HE : Hid (ptEnd s i = i) := if_neg (fun h => h2 h.2)
      rw [HE.out]
      generalize runEnd isD s (i + 1) = r at *
      have h3 : ¬ ((i + 1 : Nat) : Int) < (r : Int) := by omega
      obtain ⟨j, hj⟩ : ∃ j, j = i + 1 := ⟨_, rfl⟩
      rw [← hj] at hw1 hq h3
      clear HE h2 hj
      go_enter Tryd.func61, Tryd.ntmps61
      go_wp2_with fail
      refine (HB _).mono ?_
      rintro e w1 ⟨rfl, rfl⟩
      go_wp2_with fail
      refine (hq _).mono ?_
      rintro e w2 ⟨rfl, rfl⟩
      go_wp2
      go_ret
      exact ⟨rfl, by first | trivial | rfl⟩
  · have HE : Hid (ptEnd s i = i) := if_neg (fun h2 => h h2.1)
    rw [HE.out]
    have HB := byteAt_any s i
    have hne : (((atB s i : Nat) : Int) != 46) = true := by simp; omega
    generalize atB s i = b at *
    go_enter Tryd.func61, Tryd.ntmps61
    go_wp2_with fail
    refine (HB _).mono ?_
    rintro e w1 ⟨rfl, rfl⟩
    go_wp2
    go_ret
    exact ⟨rfl, by first | trivial | rfl⟩
end Go.Proofs.YtlemnbegblpllaaDoor
