/-
  Proved here: what the small makers of numbers answer.
-/
import Derived.Test.YtboohobkjhianacDoorTrim
import Derived.Laws.Bits64b
namespace Go.Proofs.YtboohobkjhianacDoor
open Go.RowKit

theorem Tryd.infoU : (Tryd.prog.info? 28).map (fun i => (i.zero, i.size, i.bytes)) = some (some (.int .u32 0), 1, 4) := by kernel_rfl

theorem val_two (u : Nat) : val [u % 4294967296, u / 4294967296] = u := by simp [val]; omega

set_option maxHeartbeats 400000 in
theorem of_any (u : Nat) (w : World) (hu : u < 18446744073709551616) :
    Calls Tryd.prog 46 #[.int .u64 (u : Int)] w fun e w' => ∃ v, e = .returned v ∧ Own w.heap.size 28 w' v (lim u) ∧ Below w.heap.size w w' := by
  have hb : limbs [u % 4294967296, u / 4294967296] := by
    intro x hx
    simp at hx
    omega
  have how := Own.lit (B := w.heap.size) 28 w #[.int .u32 ((u : Int) % 4294967296), .int .u32 ((u : Int) / 4294967296)] [u % 4294967296, u / 4294967296] hb (Nat.le_refl _) (by simp [maxLen]) (by simp [U])
  have hbel : Below w.heap.size w (w.alloc (.cells #[.int .u32 ((u : Int) % 4294967296), .int .u32 ((u : Int) / 4294967296)] 28)) := (Below.refl _ _).alloc (Nat.le_refl _) _
  go_enter Tryd.func46, Tryd.ntmps46
  go_wp2_with fail
  refine (trim_any _ _ _ how.num).mono ?_
  rintro e w' ⟨⟨k, hk, hk2, rfl⟩, rfl⟩
  have how2 := how.cut hk
  rw [hk2, val_two] at how2
  clear how hk2 hb
  go_wp2
  go_ret
  exact ⟨_, rfl, how2, hbel⟩

theorem or_high (x y : Nat) (hx : x < 4294967296) (hy : y < 4294967296) : bits BinOp.or IntKind.u64 (x : Int) ((y : Int) * 4294967296) = ((x + 4294967296 * y : Nat) : Int) := by
  have h := bits_or_u64_nat x (y * 4294967296) (by omega) (by omega)
  rw [show ((y : Int) * 4294967296) = ((y * 4294967296 : Nat) : Int) by omega, h]
  congr 1
  have h2 := Nat.shiftLeft_add_eq_or_of_lt (i := 32) (b := x) (by simpa using hx) y
  rw [Nat.shiftLeft_eq, show (2 ^ 32 : Nat) = 4294967296 from rfl] at h2
  rw [Nat.or_comm, ← h2]; omega

theorem or_halves (V : Nat) (h : V < 18446744073709551616) : bits BinOp.or IntKind.u64 ((V : Int) % 4294967296) ((V : Int) / 4294967296 * 4294967296) = (V : Int) := by
  have hor := or_high (V % 4294967296) (V / 4294967296) (by omega) (by omega)
  rw [Int.natCast_emod, Int.natCast_ediv] at hor
  refine hor.trans ?_
  omega

set_option maxHeartbeats 400000 in
theorem uint_yes (v : Value) (xs : List Nat) (w : World) (h : Num w v xs) (hsm : val xs < 18446744073709551616) :
    Calls Tryd.prog 52 #[v] w fun e w' => e = .returned (.tuple #[.int .u64 (val xs : Nat), .bool true]) ∧ w' = w := by
  obtain ⟨ao, cap, hv⟩ : ∃ ao cap, v = .slice ao xs.length cap := by obtain ⟨_, ao, cap, hv, _⟩ := h; exact ⟨ao, cap, hv⟩
  subst hv
  have hl2 : (lim (val xs)).length ≤ 2 := lim_len_le hsm
  have hg := getD_lim_two (val xs) hsm
  go_enter Tryd.func52, Tryd.ntmps52
  go_wp2_with fail
  refine (trim_any _ _ _ h).mono ?_
  rintro e w' ⟨⟨k, hk, hk2, rfl⟩, rfl⟩
  have h2 := h.cut hk
  rw [hk2] at h2
  simp only [cutTo] at h2 ⊢
  have hkl : k ≤ 2 := by rw [← hk2, List.length_take, Nat.min_eq_left hk] at hl2; exact hl2
  have hkk : ¬ (2 : Int) < (k : Int) := by omega
  generalize hV : val xs = V at *
  have HV : Hid (val xs = V) := hV
  have Hg1 : Hid ((lim V).getD 0 0 = V % 4294967296) := hg.1
  have Hg2 : Hid ((lim V).getD 1 0 = V / 4294967296) := hg.2
  clear hV h hk2 hl2 hg
  go_wp2_with fail
  refine (limb_any _ _ _ _ h2 (by decide)).mono ?_
  rintro e w' ⟨rfl, rfl⟩
  rw [show (Int.toNat 0) = 0 from rfl, Hg1.out]
  go_wp2_with fail
  refine (limb_any _ _ _ _ h2 (by decide)).mono ?_
  rintro e w' ⟨rfl, rfl⟩
  rw [show (Int.toNat 1) = 1 from rfl, Hg2.out]
  have HO : Hid (bits BinOp.or IntKind.u64 ((V : Int) % 4294967296) ((V : Int) / 4294967296 * 4294967296) = (V : Int)) := or_halves V hsm
  go_wp2
  go_ret2
  refine ⟨?_, rfl⟩
  rw [HO.out, HV.out]; rfl
theorem uint_no (v : Value) (xs : List Nat) (w : World) (h : Num w v xs) (hbig : 18446744073709551616 ≤ val xs) :
    Calls Tryd.prog 52 #[v] w fun e w' => e = .returned (.tuple #[.int .u64 0, .bool false]) ∧ w' = w := by
  obtain ⟨ao, cap, hv⟩ : ∃ ao cap, v = .slice ao xs.length cap := by obtain ⟨_, ao, cap, hv, _⟩ := h; exact ⟨ao, cap, hv⟩
  subst hv
  have hl2 : 2 < (lim (val xs)).length := by
    rcases Nat.lt_or_ge 2 (lim (val xs)).length with h | h
    · exact h
    · have := lim_lt_of_len h
      omega
  go_enter Tryd.func52, Tryd.ntmps52
  go_wp2_with fail
  refine (trim_any _ _ _ h).mono ?_
  rintro e w' ⟨⟨k, hk, hk2, rfl⟩, rfl⟩
  simp only [cutTo]
  have hkl : 2 < k := by rw [← hk2, List.length_take, Nat.min_eq_left hk] at hl2; exact hl2
  have hkk : (2 : Int) < (k : Int) := by omega
  clear hk2 hl2 hbig h
  go_wp2
  go_ret2
  exact ⟨rfl, rfl⟩
end Go.Proofs.YtboohobkjhianacDoor
