/-
  Proved here: what the document's own large of layer 6 answers.
-/
import Derived.Test.YtlemnbegblpllaaDoorLexIAll
namespace Go.Proofs.YtlemnbegblpllaaDoor
open Go.RowKit

/-- What is far stays far. -/
theorem far_stays (s : ByteArray) (k : Nat) (h : farTo s k = 1001) : ∀ n, farTo s (k + n) = 1001
  | 0 => h
  | n + 1 => by
    show min (10 * farTo s (k + n) + (atB s (k + n) - 48)) 1001 = 1001
    rw [far_stays s k h n]
    omega
set_option maxRecDepth 100000 in
set_option maxHeartbeats 3200000 in
theorem largeR_any (s : ByteArray) (w : World) (hs : s.size < 4611686018427387904) (hd : ∀ k, k < s.size → isD (atB s k) = true) :
    Calls Tryd.prog 66 #[.string s] w fun e w' => e = .returned (.bool (isFarF s)) ∧ w' = w := by
  go_enter Tryd.func66, Tryd.ntmps66
  go_wp2_with fail
  go_loopw [3, 4] (fun z t wr => ∃ k : Nat, k ≤ s.size ∧ t = .int .i64 k ∧ z = .int .i64 (farTo s k : Nat) ∧ farTo s k ≤ 1000 ∧ wr = w) (fun _ t _ => s.size - (intOf t).toNat)
  case atStart => exact ⟨0, Nat.zero_le _, rfl, rfl, Nat.zero_le _, rfl⟩
  case round =>
    obtain ⟨k, hk, rfl, rfl, hle, hw⟩ := hrel
    obtain rfl : w = wr := hw.symm
    by_cases hks : k < s.size
    · have h1 : (k : Int) < (s.size : Int) := by omega
      have hbd : 48 ≤ atB s k ∧ atB s k ≤ 57 := by
        have h2 := hd k hks
        unfold isD kd at h2
        revert h2
        (repeat' split) <;> intro h2 <;> first | omega | (exact absurd h2 (by decide))
      have hgx : s[k].toNat = atB s k := by unfold atB; rw [dif_pos hks]; rfl
      have hf : farTo s (k + 1) = min (10 * farTo s k + (atB s k - 48)) 1001 := rfl
      by_cases hbig : 1000 < 10 * farTo s k + (atB s k - 48)
      · have HE : Hid (isFarF s = true) := by
          show _ = _
          unfold isFarF
          obtain ⟨n, hn⟩ := Nat.exists_eq_add_of_le (show k + 1 ≤ s.size from hks)
          have h2 := far_stays s (k + 1) (by omega) n
          rw [← hn] at h2
          rw [h2]
          rfl
        generalize farTo s k = z at *
        generalize atB s k = b at *
        have h4 : (1000 : Int) < 10 * (z : Int) + ((b : Int) - 48) := by omega
        clear hf hbig hd
        go_wp2
        go_ret
        exact ⟨by rw [HE.out]; rfl, by first | trivial | rfl⟩
      · obtain ⟨f1, hf1⟩ : ∃ f, f = farTo s (k + 1) := ⟨_, rfl⟩
        rw [← hf1] at hf
        have HF : Hid (f1 = farTo s (k + 1)) := hf1
        clear hf1
        generalize farTo s k = z at *
        generalize atB s k = b at *
        have h4 : ¬ (1000 : Int) < 10 * (z : Int) + ((b : Int) - 48) := by omega
        have HV : Hid (10 * (z : Int) + ((b : Int) - 48) = (f1 : Int)) := by show _ = _; omega
        have HL : Hid (f1 ≤ 1000) := by show _ ≤ _; omega
        clear hf hbig
        go_wp2
        go_roundw
        case rel => exact ⟨k + 1, by omega, by go_num, by rw [HV.out, HF.out], by rw [← HF.out]; exact HL.out, by first | trivial | rfl⟩
        case measure => simp [intOf]; omega
    · have h1 : ¬ (k : Int) < (s.size : Int) := by omega
      have hke : k = s.size := by omega
      have HE : Hid (isFarF s = false) := by show _ = _; unfold isFarF; rw [← hke]; exact decide_eq_false (by omega)
      generalize farTo s k = z at *
      clear hke hd
      go_wp2
      go_ret
      exact ⟨by rw [HE.out]; rfl, by first | trivial | rfl⟩
end Go.Proofs.YtlemnbegblpllaaDoor
