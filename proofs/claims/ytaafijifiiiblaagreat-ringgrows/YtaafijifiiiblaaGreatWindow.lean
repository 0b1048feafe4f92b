/-
  Proved here: what window answers.
-/
import Derived.Test.YtaafijifiiiblaaGreatWinMathAll
import Derived.Test.YtaafijifiiiblaaGreatLate
namespace Go.Proofs.YtaafijifiiiblaaGreat
open Go.RowKit

theorem shr_eq {x off X : Nat} (h : off ≤ 63) (hX : X = x / 2 ^ off) : Op.shift .shr .u64 (x : Int) .i64 (off : Int) = pure (.int .u64 (X : Int)) := by
  unfold Op.shift
  rw [if_neg (by omega)]
  have h1 : min (Int.toNat (off : Int)) IntKind.u64.bits = off := by rw [Int.toNat_natCast]; exact Nat.min_eq_left (by show off ≤ 64; omega)
  simp only [h1]
  congr 2
  rw [Int.fdiv_eq_ediv_of_nonneg _ (by exact Int.le_of_lt (Int.pow_pos (by decide))), hX]
  simp
theorem shl_eq {y r Y : Nat} (h : r ≤ 64) (hY : Y = y * 2 ^ r % 18446744073709551616) : Op.shift .shl .u64 (y : Int) .i64 (r : Int) = pure (.int .u64 (Y : Int)) := by
  unfold Op.shift
  rw [if_neg (by omega)]
  have h1 : min (Int.toNat (r : Int)) IntKind.u64.bits = r := by rw [Int.toNat_natCast]; exact Nat.min_eq_left h
  simp only [h1]
  congr 2
  rw [IntKind.wrap_u64, hY]
  simp
theorem or_add {a b i : Nat} (h : a < 2 ^ i) (hs : a + b * 2 ^ i < 18446744073709551616) : bits BinOp.or IntKind.u64 (a : Int) ((b * 2 ^ i : Nat) : Int) = ((a + b * 2 ^ i : Nat) : Int) := by
  rw [bits_or_u64_nat a (b * 2 ^ i) (by omega) (by omega)]
  congr 1
  have h2 := Nat.shiftLeft_add_eq_or_of_lt h b
  rw [Nat.shiftLeft_eq] at h2
  rw [Nat.or_comm, ← h2, Nat.add_comm]

set_option maxRecDepth 100000 in
set_option maxHeartbeats 3200000 in
theorem window_any (u : Value) (xs : List Nat) (n : Nat) (w : World) (h : Num w u xs) (hn : n ≤ 1000000000) :
    Calls Tryz.prog 147 #[u, .int .i64 (n : Int)] w fun e w' => e = .returned (.int .u64 ((val xs / 2 ^ n % 18446744073709551616 : Nat) : Int)) ∧ ∃ q, w' = w.drewN q := by
  obtain ⟨ao, cap, rfl, _, _⟩ : ∃ ao cap, u = .slice ao xs.length cap ∧ xs.length ≤ cap ∧ cap ≤ 9223372036854775807 := by
    obtain ⟨_, ao, cap, e, h1, h2, _⟩ := h
    exact ⟨ao, cap, e, h1, h2⟩
  obtain ⟨s, hs⟩ : ∃ s, s = n / 32 := ⟨_, rfl⟩
  obtain ⟨off, ho⟩ : ∃ off, off = n % 32 := ⟨_, rfl⟩
  have e1 : (n : Int) / 32 = (s : Int) := by omega
  have e2 : (n : Int) % 32 = (off : Int) := by omega
  have ho1 : off ≤ 31 := by omega
  have hx0 := limb_lt h.1 s
  have hy0 := limb_lt h.1 (s + 1)
  have hz0 := limb_lt h.1 (s + 2)
  obtain ⟨t, ht⟩ := three_limbs h.1 s
  have hBP : 4294967296 = 2 ^ off * 2 ^ (32 - off) := B_split (by omega)
  have HM : Hid (val xs / 2 ^ n % 18446744073709551616 = xs.getD s 0 / 2 ^ off + 2 ^ (32 - off) * xs.getD (s + 1) 0 + 2 ^ (32 - off) * 4294967296 * (xs.getD (s + 2) 0 % 2 ^ off)) := by
    show _ = _
    have h1 := window_math (V := val xs / 4294967296 ^ s) hBP (Nat.two_pow_pos off) hx0 hy0 ht
    rw [Nat.div_div_eq_div_mul, show 4294967296 ^ s * 2 ^ off = 2 ^ n by rw [show n = 32 * s + off by omega, Nat.pow_add, Nat.pow_mul]] at h1
    exact h1
  have HL0 : Hid (∀ W, W.heap = w.heap → Calls Tryz.prog 139 #[.slice ao xs.length cap, .int .i64 (s : Int)] W fun e w' => e = .returned (.int .u64 ((xs.getD s 0 : Nat) : Int)) ∧ w' = W) := fun W hW => limb_any _ _ (s : Int) W (h.same hW) (by omega)
  obtain ⟨s1, hs1⟩ : ∃ s1, s1 = s + 1 := ⟨_, rfl⟩
  obtain ⟨s2, hs2⟩ : ∃ s2, s2 = s + 2 := ⟨_, rfl⟩
  have ea : (s : Int) + 1 = (s1 : Int) := by omega
  have eb : (s : Int) + 2 = (s2 : Int) := by omega
  have HL1 : Hid (∀ W, W.heap = w.heap → Calls Tryz.prog 139 #[.slice ao xs.length cap, .int .i64 (s1 : Int)] W fun e w' => e = .returned (.int .u64 ((xs.getD (s + 1) 0 : Nat) : Int)) ∧ w' = W) := fun W hW => by have := limb_any _ _ (s1 : Int) W (h.same hW) (by omega); rw [Int.toNat_natCast, hs1] at this; rw [hs1]; exact this
  have HL2 : Hid (∀ W, W.heap = w.heap → Calls Tryz.prog 139 #[.slice ao xs.length cap, .int .i64 (s2 : Int)] W fun e w' => e = .returned (.int .u64 ((xs.getD (s + 2) 0 : Nat) : Int)) ∧ w' = W) := fun W hW => by have := limb_any _ _ (s2 : Int) W (h.same hW) (by omega); rw [Int.toNat_natCast, hs2] at this; rw [hs2]; exact this
  generalize xs.getD s 0 = x at *
  generalize xs.getD (s + 1) 0 = y at *
  generalize xs.getD (s + 2) 0 = z at *
  obtain ⟨Q, hQ⟩ : ∃ Q, Q = 2 ^ (32 - off) := ⟨_, rfl⟩
  obtain ⟨P, hP⟩ : ∃ P, P = 2 ^ off := ⟨_, rfl⟩
  have hPpos : 0 < P := by rw [hP]; exact Nat.two_pow_pos _
  obtain ⟨X, hX⟩ : ∃ X, X = x / 2 ^ off := ⟨_, rfl⟩
  obtain ⟨Y, hY⟩ : ∃ Y, Y = y * 2 ^ (32 - off) := ⟨_, rfl⟩
  obtain ⟨Z, hZ⟩ : ∃ Z, Z = z % 2 ^ off * 2 ^ (64 - off) := ⟨_, rfl⟩
  have hXQ : X < 2 ^ (32 - off) := by rw [hX]; exact Nat.div_lt_of_lt_mul (by rw [← hBP]; exact hx0)
  have h64 : 2 ^ (64 - off) = 2 ^ (32 - off) * 4294967296 := by rw [show 64 - off = (32 - off) + 32 by omega, Nat.pow_add]
  have hXY : X + Y < 2 ^ (64 - off) := by
    rw [h64, hY]
    have h1 : 2 ^ (32 - off) * (y + 1) ≤ 2 ^ (32 - off) * 4294967296 := Nat.mul_le_mul_left _ hy0
    rw [Nat.mul_add, Nat.mul_one, Nat.mul_comm _ y] at h1
    omega
  have hT : 2 ^ (64 - off) * 2 ^ off = 18446744073709551616 := by rw [← Nat.pow_add, show 64 - off + off = 64 by omega]
  have hXYZ : X + Y + Z < 18446744073709551616 := by
    have h1 : 2 ^ (64 - off) * (z % 2 ^ off + 1) ≤ 2 ^ (64 - off) * 2 ^ off := Nat.mul_le_mul_left _ (Nat.mod_lt _ (Nat.two_pow_pos off))
    rw [hT, Nat.mul_add, Nat.mul_one, Nat.mul_comm _ (z % 2 ^ off), ← hZ] at h1
    omega
  obtain ⟨r, hr⟩ : ∃ r, r = 32 - off := ⟨_, rfl⟩
  have er : (32 : Int) - (off : Int) = (r : Int) := by omega
  obtain ⟨R, hR⟩ : ∃ R, R = 64 - off := ⟨_, rfl⟩
  have eR : (64 : Int) - (off : Int) = (R : Int) := by omega
  have f_1 : (x : Int) / 2 ^ off = (X : Int) := by rw [hX]; simp
  have e_1 := shr_eq (x := x) (off := off) (X := X) (by omega) hX
  have e_2 := shl_eq (y := y) (r := r) (Y := Y) (by omega) (by rw [hr, ← hY]; exact (Nat.mod_eq_of_lt (by omega)).symm)
  have e_3 := shl_eq (y := z) (r := R) (Y := Z) (by omega) (by
    rw [hR, hZ, ← hT, Nat.mul_comm z, Nat.mul_mod_mul_left, Nat.mul_comm])
  have o1 : bits BinOp.or IntKind.u64 (X : Int) (Y : Int) = ((X + Y : Nat) : Int) := by rw [hY]; exact or_add hXQ (by rw [← hY]; omega)
  have o2 : bits BinOp.or IntKind.u64 ((X + Y : Nat) : Int) (Z : Int) = ((X + Y + Z : Nat) : Int) := by rw [hZ]; exact or_add hXY (by rw [← hZ]; exact hXYZ)
  obtain ⟨XY, hXYe⟩ : ∃ XY, XY = X + Y := ⟨_, rfl⟩
  obtain ⟨XYZ, hXYZe⟩ : ∃ XYZ, XYZ = X + Y + Z := ⟨_, rfl⟩
  rw [← hXYe] at o1 o2
  rw [hXYe, ← hXYZe, ← hXYe] at o2
  have HRES : Hid (val xs / 2 ^ n % 18446744073709551616 = XYZ) := by
    show _ = _
    rw [HM.out, hXYZe, hX, hY, hZ, h64, Nat.mul_comm (2 ^ (32 - off)) y, Nat.mul_comm (z % 2 ^ off)]
  obtain ⟨len, hlen⟩ : ∃ len, len = xs.length := ⟨_, rfl⟩
  rw [← hlen] at HL0 HL1 HL2 ⊢
  clear hlen hs1 hs2 hX hY hZ hXQ h64 hXY hT hXYZ hXYe hXYZe hQ hP hBP ht HM hs ho hr hR h
  go_enter Tryz.func147, Tryz.ntmps147
  go_wp2
  have p1 : (0 : Int) ≤ (off : Int) := by omega
  have q1 : ¬ (off : Int) < 0 := by omega
  have q2 : ¬ (r : Int) < 0 := by omega
  have q3 : ¬ (R : Int) < 0 := by omega
  have wa : IntKind.i64.wrap ((s : Int) + 1) = (s1 : Int) := by rw [IntKind.wrap_i64]; omega
  have wb : IntKind.i64.wrap ((s : Int) + 2) = (s2 : Int) := by rw [IntKind.wrap_i64]; omega
  have wr : IntKind.i64.wrap (32 - (off : Int)) = (r : Int) := by rw [IntKind.wrap_i64]; omega
  have wR : IntKind.i64.wrap (64 - (off : Int)) = (R : Int) := by rw [IntKind.wrap_i64]; omega
  clear ea eb er eR
  refine region_late [] (by kernel_rfl) ?_
  have hHeld : AllL w.drew [] := trivial
  refine late_free 0 (v := .slice ao len cap) rfl (by kernel_rfl) (by kernel_rfl) (by kernel_rfl) (by kernel_rfl) (by kernel_rfl) (by kernel_rfl) (fun _ _ _ h => h) (Or.inl ⟨by rfl, ?_⟩) hHeld ?_
  · (intro u _; go_simp)
  (try simp only [Act.put, List.setIfInBounds_toArray, List.set_cons_zero, List.set_cons_succ])
  refine late_free 1 (v := .int .i64 (s : Int)) rfl (by kernel_rfl) (by kernel_rfl) (by kernel_rfl) (by kernel_rfl) (by kernel_rfl) (by kernel_rfl) (fun _ _ _ h => h) (Or.inl ⟨by rfl, ?_⟩) hHeld ?_
  · (intro u _; go_simp)
  (try simp only [Act.put, List.setIfInBounds_toArray, List.set_cons_zero, List.set_cons_succ])
  refine late_free 3 (v := .int .i64 (off : Int)) rfl (by kernel_rfl) (by kernel_rfl) (by kernel_rfl) (by kernel_rfl) (by kernel_rfl) (by kernel_rfl) (fun _ _ _ h => h) (Or.inl ⟨by rfl, ?_⟩) hHeld ?_
  · (intro u _; go_simp)
  (try simp only [Act.put, List.setIfInBounds_toArray, List.set_cons_zero, List.set_cons_succ])
  refine late_free 5 (v := .slice ao len cap) rfl (by kernel_rfl) (by kernel_rfl) (by kernel_rfl) (by kernel_rfl) (by kernel_rfl) (by kernel_rfl) (fun _ _ _ h => h) (Or.inl ⟨by rfl, ?_⟩) hHeld ?_
  · (intro u _; go_simp)
  (try simp only [Act.put, List.setIfInBounds_toArray, List.set_cons_zero, List.set_cons_succ])
  refine late_free 6 (v := .int .i64 (s : Int)) rfl (by kernel_rfl) (by kernel_rfl) (by kernel_rfl) (by kernel_rfl) (by kernel_rfl) (by kernel_rfl) (fun _ _ _ h => h) (Or.inl ⟨by rfl, ?_⟩) hHeld ?_
  · (intro u _; go_simp)
  (try simp only [Act.put, List.setIfInBounds_toArray, List.set_cons_zero, List.set_cons_succ])
  refine late_free 7 (v := .int .i64 (s1 : Int)) rfl (by kernel_rfl) (by kernel_rfl) (by kernel_rfl) (by kernel_rfl) (by kernel_rfl) (by kernel_rfl) (fun _ _ _ h => h) (Or.inl ⟨by rfl, ?_⟩) hHeld ?_
  · (intro u _; go_simp)
  (try simp only [Act.put, List.setIfInBounds_toArray, List.set_cons_zero, List.set_cons_succ])
  refine late_free 9 (v := .int .i64 (off : Int)) rfl (by kernel_rfl) (by kernel_rfl) (by kernel_rfl) (by kernel_rfl) (by kernel_rfl) (by kernel_rfl) (fun _ _ _ h => h) (Or.inl ⟨by rfl, ?_⟩) hHeld ?_
  · (intro u _; go_simp)
  (try simp only [Act.put, List.setIfInBounds_toArray, List.set_cons_zero, List.set_cons_succ])
  refine late_free 10 (v := .int .i64 (r : Int)) rfl (by kernel_rfl) (by kernel_rfl) (by kernel_rfl) (by kernel_rfl) (by kernel_rfl) (by kernel_rfl) (fun _ _ _ h => h) (Or.inl ⟨by rfl, ?_⟩) hHeld ?_
  · (intro u _; go_simp)
  (try simp only [Act.put, List.setIfInBounds_toArray, List.set_cons_zero, List.set_cons_succ])
  refine late_free 13 (v := .slice ao len cap) rfl (by kernel_rfl) (by kernel_rfl) (by kernel_rfl) (by kernel_rfl) (by kernel_rfl) (by kernel_rfl) (fun _ _ _ h => h) (Or.inl ⟨by rfl, ?_⟩) hHeld ?_
  · (intro u _; go_simp)
  (try simp only [Act.put, List.setIfInBounds_toArray, List.set_cons_zero, List.set_cons_succ])
  refine late_free 14 (v := .int .i64 (s : Int)) rfl (by kernel_rfl) (by kernel_rfl) (by kernel_rfl) (by kernel_rfl) (by kernel_rfl) (by kernel_rfl) (fun _ _ _ h => h) (Or.inl ⟨by rfl, ?_⟩) hHeld ?_
  · (intro u _; go_simp)
  (try simp only [Act.put, List.setIfInBounds_toArray, List.set_cons_zero, List.set_cons_succ])
  refine late_free 15 (v := .int .i64 (s2 : Int)) rfl (by kernel_rfl) (by kernel_rfl) (by kernel_rfl) (by kernel_rfl) (by kernel_rfl) (by kernel_rfl) (fun _ _ _ h => h) (Or.inl ⟨by rfl, ?_⟩) hHeld ?_
  · (intro u _; go_simp)
  (try simp only [Act.put, List.setIfInBounds_toArray, List.set_cons_zero, List.set_cons_succ])
  refine late_free 17 (v := .int .i64 (off : Int)) rfl (by kernel_rfl) (by kernel_rfl) (by kernel_rfl) (by kernel_rfl) (by kernel_rfl) (by kernel_rfl) (fun _ _ _ h => h) (Or.inl ⟨by rfl, ?_⟩) hHeld ?_
  · (intro u _; go_simp)
  (try simp only [Act.put, List.setIfInBounds_toArray, List.set_cons_zero, List.set_cons_succ])
  refine late_free 18 (v := .int .i64 (R : Int)) rfl (by kernel_rfl) (by kernel_rfl) (by kernel_rfl) (by kernel_rfl) (by kernel_rfl) (by kernel_rfl) (fun _ _ _ h => h) (Or.inl ⟨by rfl, ?_⟩) hHeld ?_
  · (intro u _; go_simp)
  (try simp only [Act.put, List.setIfInBounds_toArray, List.set_cons_zero, List.set_cons_succ])
  refine late_step 2 (by kernel_rfl) rfl (fun K hK => ?_)
  go_simp
  refine (HL0.out w.drew rfl).mono ?_
  rintro e w' ⟨rfl, rfl⟩
  go_wp2_with fail
  refine hK.out _ _ (AllL.kept hHeld) ?_
  clear hK K
  (try simp only [Act.put, List.setIfInBounds_toArray, List.set_cons_zero, List.set_cons_succ])
  refine late_free 4 (v := .int .u64 (X : Int)) rfl (by kernel_rfl) (by kernel_rfl) (by kernel_rfl) (by kernel_rfl) (by kernel_rfl) (by kernel_rfl) (fun _ _ _ h => h) (Or.inl ⟨by rfl, ?_⟩) hHeld ?_
  · (intro u _; go_simp)
  (try simp only [Act.put, List.setIfInBounds_toArray, List.set_cons_zero, List.set_cons_succ])
  refine late_step 8 (by kernel_rfl) rfl (fun K hK => ?_)
  go_simp
  refine (HL1.out w.drew rfl).mono ?_
  rintro e w' ⟨rfl, rfl⟩
  go_wp2_with fail
  refine hK.out _ _ (AllL.kept hHeld) ?_
  clear hK K
  (try simp only [Act.put, List.setIfInBounds_toArray, List.set_cons_zero, List.set_cons_succ])
  refine late_free 11 (v := .int .u64 (Y : Int)) rfl (by kernel_rfl) (by kernel_rfl) (by kernel_rfl) (by kernel_rfl) (by kernel_rfl) (by kernel_rfl) (fun _ _ _ h => h) (Or.inl ⟨by rfl, ?_⟩) hHeld ?_
  · (intro u _; go_simp)
  (try simp only [Act.put, List.setIfInBounds_toArray, List.set_cons_zero, List.set_cons_succ])
  refine late_free 12 (v := .int .u64 (XY : Int)) rfl (by kernel_rfl) (by kernel_rfl) (by kernel_rfl) (by kernel_rfl) (by kernel_rfl) (by kernel_rfl) (fun _ _ _ h => h) (Or.inl ⟨by rfl, ?_⟩) hHeld ?_
  · (intro u _; go_simp)
  (try simp only [Act.put, List.setIfInBounds_toArray, List.set_cons_zero, List.set_cons_succ])
  refine late_step 16 (by kernel_rfl) rfl (fun K hK => ?_)
  go_simp
  refine (HL2.out w.drew rfl).mono ?_
  rintro e w' ⟨rfl, rfl⟩
  go_wp2_with fail
  refine hK.out _ _ (AllL.kept hHeld) ?_
  clear hK K
  (try simp only [Act.put, List.setIfInBounds_toArray, List.set_cons_zero, List.set_cons_succ])
  refine late_free 19 (v := .int .u64 (Z : Int)) rfl (by kernel_rfl) (by kernel_rfl) (by kernel_rfl) (by kernel_rfl) (by kernel_rfl) (by kernel_rfl) (fun _ _ _ h => h) (Or.inl ⟨by rfl, ?_⟩) hHeld ?_
  · (intro u _; go_simp)
  (try simp only [Act.put, List.setIfInBounds_toArray, List.set_cons_zero, List.set_cons_succ])
  refine late_free 20 (v := .int .u64 (XYZ : Int)) rfl (by kernel_rfl) (by kernel_rfl) (by kernel_rfl) (by kernel_rfl) (by kernel_rfl) (by kernel_rfl) (fun _ _ _ h => h) (Or.inl ⟨by rfl, ?_⟩) hHeld ?_
  · (intro u _; go_simp)
  (try simp only [Act.put, List.setIfInBounds_toArray, List.set_cons_zero, List.set_cons_succ])
  refine late_step 21 (by kernel_rfl) rfl (fun K hK => ?_)
  go_simp
  refine hK.out _ _ trivial ?_
  clear hK K
  (try simp only [Act.put, List.setIfInBounds_toArray, List.set_cons_zero, List.set_cons_succ])
  refine late_done (by kernel_rfl) ?_ _
  go_wp2
  go_ret
  exact ⟨by rw [HRES.out]; rfl, 1, rfl⟩
end Go.Proofs.YtaafijifiiiblaaGreat
