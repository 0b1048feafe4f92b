/-
  Proved here: what Uint answers.
-/
import Derived.Test.YtnlajeinegampaaSmall
namespace Go.Proofs.Ytnlajeinegampaa
open Go.RowKit

set_option maxHeartbeats 400000 in
theorem uint_yes (v : Value) (xs : List Nat) (w : World) (h : Num w v xs) (hsm : val xs < 18446744073709551616) :
    Calls Try.prog 40 #[v] w fun e w' => e = .returned (.tuple #[.int .u64 (val xs : Nat), .bool true]) ∧ w' = w := by
  obtain ⟨ao, cap, hv⟩ : ∃ ao cap, v = .slice ao xs.length cap := by obtain ⟨_, ao, cap, hv, _⟩ := h; exact ⟨ao, cap, hv⟩
  subst hv
  have hl2 : (lim (val xs)).length ≤ 2 := lim_len_le hsm
  have hg := getD_lim_two (val xs) hsm
  go_enter Try.func40, Try.ntmps40
  go_wp2_with fail
  refine (trim_any _ _ _ h).mono ?_
  rintro e w' ⟨⟨k, hk, hk2, rfl⟩, rfl⟩
  have h2 := h.cut hk
  rw [hk2] at h2
  simp only [cutTo] at h2 ⊢
  have hkl : k ≤ 2 := by rw [← hk2, List.length_take, Nat.min_eq_left hk] at hl2; exact hl2
  have hkk : ¬ (2 : Int) < (k : Int) := by omega
  generalize hV : val xs = V at *
  have HV : Hid (val xs = V) := hV
  have Hg1 : Hid ((lim V).getD 0 0 = V % 4294967296) := hg.1
  have Hg2 : Hid ((lim V).getD 1 0 = V / 4294967296) := hg.2
  clear hV h hk2 hl2 hg
  go_wp2_with fail
  refine (limb_any _ _ _ _ h2 (by decide)).mono ?_
  rintro e w' ⟨rfl, rfl⟩
  rw [show (Int.toNat 0) = 0 from rfl, Hg1.out]
  go_wp2_with fail
  refine (limb_any _ _ _ _ h2 (by decide)).mono ?_
  rintro e w' ⟨rfl, rfl⟩
  rw [show (Int.toNat 1) = 1 from rfl, Hg2.out]
  have HO : Hid (bits BinOp.or IntKind.u64 ((V : Int) % 4294967296) ((V : Int) / 4294967296 * 4294967296) = (V : Int)) := or_halves V hsm
  go_wp2
  go_ret2
  refine ⟨?_, rfl⟩
  rw [HO.out, HV.out]; rfl
theorem uint_no (v : Value) (xs : List Nat) (w : World) (h : Num w v xs) (hbig : 18446744073709551616 ≤ val xs) :
    Calls Try.prog 40 #[v] w fun e w' => e = .returned (.tuple #[.int .u64 0, .bool false]) ∧ w' = w := by
  obtain ⟨ao, cap, hv⟩ : ∃ ao cap, v = .slice ao xs.length cap := by obtain ⟨_, ao, cap, hv, _⟩ := h; exact ⟨ao, cap, hv⟩
  subst hv
  have hl2 : 2 < (lim (val xs)).length := by
    rcases Nat.lt_or_ge 2 (lim (val xs)).length with h | h
    · exact h
    · have := lim_lt_of_len h
      omega
  go_enter Try.func40, Try.ntmps40
  go_wp2_with fail
  refine (trim_any _ _ _ h).mono ?_
  rintro e w' ⟨⟨k, hk, hk2, rfl⟩, rfl⟩
  simp only [cutTo]
  have hkl : 2 < k := by rw [← hk2, List.length_take, Nat.min_eq_left hk] at hl2; exact hl2
  have hkk : (2 : Int) < (k : Int) := by omega
  clear hk2 hl2 hbig h
  go_wp2
  go_ret2
  exact ⟨rfl, rfl⟩
end Go.Proofs.Ytnlajeinegampaa
