/-
  Proved here: what exponent and isFar of package lex answer.
-/
import Derived.Test.YtlemnbegblpllaaDoorLexB
namespace Go.Proofs.YtlemnbegblpllaaDoor
open Go.RowKit

/-- Where an exponent's digits would begin. -/
def xFirst (s : ByteArray) (i : Nat) : Nat := if atB s (i + 1) = 43 ∨ atB s (i + 1) = 45 then i + 2 else i + 1
/-- Where they begin and end; the place, where there is no exponent. -/
def xpo (s : ByteArray) (i : Nat) : Nat × Nat := if (atB s i = 101 ∨ atB s i = 69) ∧ xFirst s i < runEnd isD s (xFirst s i) then (xFirst s i, runEnd isD s (xFirst s i)) else (i, i)
theorem xFirst_le {s : ByteArray} {i : Nat} (h : atB s i = 101 ∨ atB s i = 69) : xFirst s i ≤ s.size := by
  have h1 : i < s.size := atB_in (by rcases h with h | h <;> rw [h] <;> decide)
  unfold xFirst
  split
  · next h2 =>
    have h3 : i + 1 < s.size := atB_in (by rcases h2 with h2 | h2 <;> rw [h2] <;> decide)
    omega
  · omega
theorem nat_beq {b : Nat} {k : Nat} (h : b ≠ k) : ((b : Int) == (k : Int)) = false := ne_beq (by omega)
set_option maxRecDepth 100000 in
set_option maxHeartbeats 3200000 in
theorem exponent_any (s : ByteArray) (i : Nat) (w : World) (hs : s.size < 4611686018427387904) :
    Calls Tryd.prog 62 #[.string s, .int .i64 (i : Int)] w fun e w' => e = .returned (.tuple #[.int .i64 ((xpo s i).1 : Nat), .int .i64 ((xpo s i).2 : Nat)]) ∧ w' = w := by
  have HB := byteAt_any s i
  by_cases h : atB s i = 101 ∨ atB s i = 69
  · have hle := xFirst_le h
    have hin : i < s.size := atB_in (by rcases h with h | h <;> rw [h] <;> decide)
    have hq := fun w => digitsEnd_any s (xFirst s i) w hs hle
    have HC := byteAt_any s (i + 1)
    have hw1 : IntKind.i64.wrap ((i : Int) + 1) = ((i + 1 : Nat) : Int) := by rw [IntKind.wrap_i64]; omega
    have hxp : xpo s i = if xFirst s i < runEnd isD s (xFirst s i) then (xFirst s i, runEnd isD s (xFirst s i)) else (i, i) := by
      unfold xpo
      by_cases h2 : xFirst s i < runEnd isD s (xFirst s i)
      · rw [if_pos ⟨h, h2⟩, if_pos h2]
      · rw [if_neg (fun h3 => h2 h3.2), if_neg h2]
    by_cases hsg : atB s (i + 1) = 43 ∨ atB s (i + 1) = 45
    · have hxf : xFirst s i = i + 2 := if_pos hsg
      have hin2 : i + 1 < s.size := atB_in (by rcases hsg with h | h <;> rw [h] <;> decide)
      have hw2 : IntKind.i64.wrap (((i + 1 : Nat) : Int) + 1) = ((i + 2 : Nat) : Int) := by rw [IntKind.wrap_i64]; omega
      rw [hxf] at hxp hq
      rw [hxp]
      generalize runEnd isD s (i + 2) = r at *
      obtain ⟨j, hj⟩ : ∃ j, j = i + 1 := ⟨_, rfl⟩
      obtain ⟨k, hk⟩ : ∃ k, k = i + 2 := ⟨_, rfl⟩
      rw [← hj] at hw1 hw2 HC hsg
      rw [← hk] at hw2 hq ⊢
      generalize atB s i = b at *
      generalize atB s j = c at *
      clear hj hk hxf hle hin hin2 hxp
      by_cases h2 : k < r
      · have h3 : (k : Int) < (r : Int) := by omega
        rw [if_pos h2]
        clear h2
        rcases h with rfl | rfl <;> rcases hsg with rfl | rfl
        all_goals
          go_enter Tryd.func62, Tryd.ntmps62
          go_wp2_with fail
          refine (HB _).mono ?_
          rintro e w1 ⟨rfl, rfl⟩
          go_wp2_with fail
          refine (HC _).mono ?_
          rintro e w2 ⟨rfl, rfl⟩
          go_wp2_with fail
          refine (hq _).mono ?_
          rintro e w3 ⟨rfl, rfl⟩
          go_wp2
          go_ret2
          exact ⟨rfl, by first | trivial | rfl⟩
      · have h3 : ¬ (k : Int) < (r : Int) := by omega
        rw [if_neg h2]
        clear h2
        rcases h with rfl | rfl <;> rcases hsg with rfl | rfl
        all_goals
          go_enter Tryd.func62, Tryd.ntmps62
          go_wp2_with fail
          refine (HB _).mono ?_
          rintro e w1 ⟨rfl, rfl⟩
          go_wp2_with fail
          refine (HC _).mono ?_
          rintro e w2 ⟨rfl, rfl⟩
          go_wp2_with fail
          refine (hq _).mono ?_
          rintro e w3 ⟨rfl, rfl⟩
          go_wp2
          go_ret2
          exact ⟨rfl, by first | trivial | rfl⟩
    · have hxf : xFirst s i = i + 1 := if_neg hsg
      have d1 : (((atB s (i + 1) : Nat) : Int) == 43) = false := nat_beq (fun h => hsg (Or.inl h))
      have d2 : (((atB s (i + 1) : Nat) : Int) == 45) = false := nat_beq (fun h => hsg (Or.inr h))
      rw [hxf] at hxp hq
      rw [hxp]
      generalize runEnd isD s (i + 1) = r at *
      obtain ⟨k, hk⟩ : ∃ j, j = i + 1 := ⟨_, rfl⟩
      rw [← hk] at hw1 HC d1 d2 hq ⊢
      generalize atB s i = b at *
      generalize atB s k = c at *
      clear hxf hle hin hxp hsg hk
      by_cases h2 : k < r
      · have h3 : (k : Int) < (r : Int) := by omega
        rw [if_pos h2]
        clear h2
        rcases h with rfl | rfl
        all_goals
          go_enter Tryd.func62, Tryd.ntmps62
          go_wp2_with fail
          refine (HB _).mono ?_
          rintro e w1 ⟨rfl, rfl⟩
          go_wp2_with fail
          refine (HC _).mono ?_
          rintro e w2 ⟨rfl, rfl⟩
          go_wp2_with fail
          refine (hq _).mono ?_
          rintro e w3 ⟨rfl, rfl⟩
          go_wp2
          go_ret2
          exact ⟨rfl, by first | trivial | rfl⟩
      · have h3 : ¬ (k : Int) < (r : Int) := by omega
        rw [if_neg h2]
        clear h2
        rcases h with rfl | rfl
        all_goals
          go_enter Tryd.func62, Tryd.ntmps62
          go_wp2_with fail
          refine (HB _).mono ?_
          rintro e w1 ⟨rfl, rfl⟩
          go_wp2_with fail
          refine (HC _).mono ?_
          rintro e w2 ⟨rfl, rfl⟩
          go_wp2_with fail
          refine (hq _).mono ?_
          rintro e w3 ⟨rfl, rfl⟩
          go_wp2
          go_ret2
          exact ⟨rfl, by first | trivial | rfl⟩
  · have hx : xpo s i = (i, i) := if_neg (fun h2 => h h2.1)
    rw [hx]
    have d1 : (((atB s i : Nat) : Int) == 101) = false := nat_beq (fun h2 => h (Or.inl h2))
    have d2 : (((atB s i : Nat) : Int) == 69) = false := nat_beq (fun h2 => h (Or.inr h2))
    generalize atB s i = b at *
    clear h hx
    go_enter Tryd.func62, Tryd.ntmps62
    go_wp2_with fail
    refine (HB _).mono ?_
    rintro e w1 ⟨rfl, rfl⟩
    go_wp2
    go_ret2
    exact ⟨rfl, by first | trivial | rfl⟩

/-- A number's size by its digits, no greater than a mark. -/
def farTo (s : ByteArray) : Nat → Nat
  | 0 => 0
  | k + 1 => min (10 * farTo s k + (atB s k - 48)) 1001
theorem farTo_le (s : ByteArray) (k : Nat) : farTo s k ≤ 1001 := by
  cases k with
  | zero => exact Nat.zero_le _
  | succ k => exact Nat.min_le_right _ _
def isFarF (s : ByteArray) : Bool := decide (1000 < farTo s s.size)
set_option maxRecDepth 100000 in
set_option maxHeartbeats 3200000 in
theorem isFar_any (s : ByteArray) (w : World) (hs : s.size < 4611686018427387904) (hd : ∀ k, k < s.size → isD (atB s k) = true) :
    Calls Tryd.prog 63 #[.string s] w fun e w' => e = .returned (.bool (isFarF s)) ∧ w' = w := by
  go_enter Tryd.func63, Tryd.ntmps63
  go_wp2_with fail
  go_loopw [3, 7] (fun z t wr => ∃ k : Nat, k ≤ s.size ∧ t = .int .i64 k ∧ z = .int .i64 (farTo s k : Nat) ∧ wr = w) (fun _ t _ => s.size - (intOf t).toNat)
  case atStart => exact ⟨0, Nat.zero_le _, rfl, rfl, rfl⟩
  case round =>
    obtain ⟨k, hk, rfl, rfl, hw⟩ := hrel
    obtain rfl : w = wr := hw.symm
    by_cases hks : k < s.size
    · have h1 : (k : Int) < (s.size : Int) := by omega
      have hbd : 48 ≤ atB s k ∧ atB s k ≤ 57 := by
        have h2 := hd k hks
        unfold isD kd at h2
        revert h2
        (repeat' split) <;> intro h2 <;> first | omega | (exact absurd h2 (by decide))
      have hb : (s.get k hks).toNat = atB s k := by unfold atB; rw [dif_pos hks]
      have hf : farTo s (k + 1) = min (10 * farTo s k + (atB s k - 48)) 1001 := rfl
      have hfl := farTo_le s k
      obtain ⟨f1, hf1⟩ : ∃ f, f = farTo s (k + 1) := ⟨_, rfl⟩
      rw [← hf1] at hf
      have HF : Hid (f1 = farTo s (k + 1)) := hf1
      clear hf1
      have hgx : s[k].toNat = atB s k := hb
      generalize farTo s k = z at *
      generalize atB s k = b at *
      have hv : (if (1001 : Int) < 10 * (z : Int) + ((b : Int) - 48) then (1001 : Int) else 10 * (z : Int) + ((b : Int) - 48)) = (f1 : Int) := by rw [hf]; split <;> omega
      have HV : Hid (_) := hv
      clear hv hf hb
      go_wp2
      go_roundw
      case rel => exact ⟨k + 1, by omega, by go_num, by rw [HV.out, HF.out], by first | trivial | rfl⟩
      case measure => simp [intOf]; omega
    · have h1 : ¬ (k : Int) < (s.size : Int) := by omega
      have hke : k = s.size := by omega
      by_cases h3 : 1000 < farTo s k
      · have HE : Hid (isFarF s = true) := by show _ = _; unfold isFarF; rw [← hke]; exact decide_eq_true h3
        have h4 : (1000 : Int) < (farTo s k : Nat) := by omega
        generalize farTo s k = z at *
        clear h3 hke hd
        go_wp2
        go_ret
        exact ⟨by rw [HE.out]; rfl, by first | trivial | rfl⟩
      · have HE : Hid (isFarF s = false) := by show _ = _; unfold isFarF; rw [← hke]; exact decide_eq_false h3
        have h4 : ¬ (1000 : Int) < (farTo s k : Nat) := by omega
        generalize farTo s k = z at *
        clear h3 hke hd
        go_wp2
        go_ret
        exact ⟨by rw [HE.out]; rfl, by first | trivial | rfl⟩
end Go.Proofs.YtlemnbegblpllaaDoor
