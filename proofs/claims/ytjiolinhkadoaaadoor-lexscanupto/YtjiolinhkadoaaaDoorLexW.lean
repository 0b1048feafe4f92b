/-
  Proved here: what the document's own at, blank and digits of layer 6 answer.
-/
import Derived.Test.YtjiolinhkadoaaaDoorLexO
namespace Go.Proofs.YtjiolinhkadoaaaDoor
open Go.RowKit

set_option maxRecDepth 100000 in
set_option maxHeartbeats 1600000 in
theorem atR_any (s : ByteArray) (i : Nat) (w : World) :
    Calls Tryd.prog 47 #[.string s, .int .i64 (i : Int)] w fun e w' => e = .returned (.int .u8 (atB s i : Nat)) ∧ w' = w := by
  have g0 : ¬ (i : Int) < 0 := by omega
  by_cases h : i < s.size
  · have g1 : ¬ (s.size : Int) ≤ (i : Int) := by omega
    have g2 : (i : Int) < (s.size : Int) := by omega
    have HE : Hid (s[i].toNat = atB s i) := by show _ = _; unfold atB; rw [dif_pos h]; rfl
    go_enter Tryd.func47, Tryd.ntmps47
    go_wp2
    go_ret
    exact ⟨by rw [← HE.out]; rfl, rfl⟩
  · have g1 : (s.size : Int) ≤ (i : Int) := by omega
    rw [atB_out h]
    clear h
    go_enter Tryd.func47, Tryd.ntmps47
    go_wp2
    go_ret
    exact ⟨rfl, rfl⟩
set_option maxRecDepth 100000 in
set_option maxHeartbeats 1600000 in
theorem blankR_any (b : Nat) (w : World) :
    Calls Tryd.prog 64 #[.int .u8 (b : Int)] w fun e w' => e = .returned (.bool (kd b == 1)) ∧ w' = w := by
  by_cases h : b = 32 ∨ b = 9 ∨ b = 10 ∨ b = 13
  · have HE : Hid ((kd b == 1) = true) := by show _ = _; unfold kd; rw [if_pos h]; rfl
    rw [HE.out]
    clear HE
    rcases h with rfl | rfl | rfl | rfl
    all_goals
      go_enter Tryd.func64, Tryd.ntmps64
      go_wp2
      go_ret
      exact ⟨rfl, rfl⟩
  · have HE : Hid ((kd b == 1) = false) := by
      show _ = _
      unfold kd
      rw [if_neg h]
      repeat' split
      all_goals rfl
    have x1 : ((b : Int) == 32) = false := ne_beq (by omega)
    have x2 : ((b : Int) == 9) = false := ne_beq (by omega)
    have x3 : ((b : Int) == 10) = false := ne_beq (by omega)
    have x4 : ((b : Int) == 13) = false := ne_beq (by omega)
    rw [HE.out]
    clear h
    go_enter Tryd.func64, Tryd.ntmps64
    go_wp2
    go_ret
    exact ⟨rfl, rfl⟩
set_option maxRecDepth 100000 in
set_option maxHeartbeats 1600000 in
theorem digitsR_any (s : ByteArray) (i : Nat) (w : World) (hs : s.size < 4611686018427387904) (hi : i ≤ s.size) :
    Calls Tryd.prog 65 #[.string s, .int .i64 (i : Int)] w fun e w' => e = .returned (.int .i64 (runEnd isD s i - i : Nat)) ∧ w' = w := by
  obtain ⟨r, hr⟩ : ∃ r, r = runEnd isD s i := ⟨_, rfl⟩
  rw [← hr]
  go_enter Tryd.func65, Tryd.ntmps65
  go_wp2_with fail
  go_loopw [5] (fun t wr => ∃ k : Nat, i + k ≤ s.size ∧ t = .int .i64 k ∧ runEnd isD s (i + k) = r ∧ wr = w) (fun t _ => s.size - (intOf t).toNat)
  case atStart => exact ⟨0, hi, rfl, hr.symm, rfl⟩
  case round =>
    clear hr hi
    obtain ⟨k, hk, rfl, hkr, hw⟩ := hrel
    obtain rfl : w = wr := hw.symm
    by_cases hlt : i + k < s.size
    · have hge : (i : Int) + (k : Int) < (s.size : Int) := by omega
      have hb : s[i + k].toNat = atB s (i + k) := by unfold atB; rw [dif_pos hlt]; rfl
      have hdi := fun w => digit_any (s[i + k].toNat) w
      have hyes : isD (atB s (i + k)) = true → runEnd isD s (i + k + 1) = r := fun h => by rw [← runEnd_yes hlt h]; exact hkr
      have hno : isD (atB s (i + k)) = false → i + k = r := fun h => by rw [← hkr, runEnd_no (by rw [h]; simp)]
      rw [← hb] at hyes hno
      clear hb hkr
      generalize isD s[i + k].toNat = di at *
      go_wp2_with fail
      refine (hdi _).mono ?_
      rintro e w2 ⟨rfl, rfl⟩
      clear hdi
      cases di with
      | true =>
        have HR : Hid (runEnd isD s (i + k + 1) = r) := hyes rfl
        clear hyes hno
        go_wp2
        go_roundw
        case rel => exact ⟨k + 1, by omega, by go_num, HR.out, by first | trivial | rfl⟩
        case measure => simp [intOf]; omega
      | false =>
        have HR : Hid (i + k = r) := hno rfl
        clear hyes hno
        go_wp2
        go_ret
        exact ⟨by rw [← HR.out, Nat.add_sub_cancel_left]; rfl, by first | trivial | rfl⟩
    · have hge : ¬ (i : Int) + (k : Int) < (s.size : Int) := by omega
      have HR : Hid (i + k = r) := by
        show _ = _
        rw [← hkr, runEnd_no (by omega)]
      clear hkr hlt
      go_wp2
      go_ret
      exact ⟨by rw [← HR.out, Nat.add_sub_cancel_left]; rfl, by first | trivial | rfl⟩
end Go.Proofs.YtjiolinhkadoaaaDoor
