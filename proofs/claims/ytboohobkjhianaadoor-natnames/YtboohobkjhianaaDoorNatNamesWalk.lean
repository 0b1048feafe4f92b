/-
  Proved here: NatNames returns true, and writes nothing that was there.
-/
import Derived.Test.YtboohobkjhianaaDoorAlive
import Derived.Test.YtboohobkjhianaaDoorShift
import Derived.Test.YtboohobkjhianaaDoorRefPow0
namespace Go.Proofs.YtboohobkjhianaaDoor
open Go.RowKit

theorem litN (w : World) (cs : Array Value) (xs : List Nat) (n : Nat) (hb : limbs xs) (hm : xs.length ≤ maxLen) (hc : cs.toList = xs.map U) (hn : xs.length = n) : Num (w.alloc (.cells cs 22)) (.slice (some ⟨w.heap.size, 0, none⟩) n n) xs := by
  subst hn
  exact (Own.lit (B := 0) 22 w cs xs hb (Nat.zero_le _) hm hc).num
theorem bl_two (m : Nat) : bl (2 ^ m) = m + 1 := bl_unique (Nat.le_refl _) (Nat.pow_lt_pow_right (by decide) (by omega))
theorem long_pow' {X m n : Nat} (hX : X = 2 ^ m) : bl (X ^ n) = m * n + 1 := by rw [hX, ← Nat.pow_mul]; exact bl_two _
theorem long_pow {X m n b : Nat} (hX : X = 2 ^ m) (hb : b = m * n + 1) : bl (X ^ n) = b := by rw [hb]; exact long_pow' hX
theorem long_le {X m n b M : Nat} (hX : X = 2 ^ m) (hb : b = m * n + 1) (hM : b ≤ M) : bl (X ^ n) ≤ M := by rw [long_pow hX hb]; exact hM
theorem long_gt {X m n b M : Nat} (hX : X = 2 ^ m) (hb : b = m * n + 1) (hM : M < b) : M < bl (X ^ n) := by rw [long_pow hX hb]; exact hM
theorem three_pow {n : Nat} : 2 ^ (7 * n) ≤ 3 ^ (5 * n) := by
  rw [Nat.pow_mul, Nat.pow_mul]; exact Nat.pow_le_pow_left (by decide) n
theorem near_big {X n k r M : Nat} (hX : 3 * 2 ^ 255 ≤ X) (hk : n = 5 * k + r) (hM : M ≤ 7 * k + 255 * (5 * k) + 256 * r) : M < bl (X ^ n) := by
  rw [bl_gt_iff, hk, Nat.pow_add]
  have h1 : (3 * 2 ^ 255) ^ (5 * k) ≤ X ^ (5 * k) := Nat.pow_le_pow_left hX _
  rw [Nat.mul_pow, ← Nat.pow_mul] at h1
  have h2 : 2 ^ (7 * k) * 2 ^ (255 * (5 * k)) ≤ 3 ^ (5 * k) * 2 ^ (255 * (5 * k)) := Nat.mul_le_mul_right _ three_pow
  rw [← Nat.pow_add] at h2
  have hX2 : 2 ^ 256 ≤ X := Nat.le_trans (by decide) hX
  have h3 : (2 ^ 256) ^ r ≤ X ^ r := Nat.pow_le_pow_left hX2 _
  rw [← Nat.pow_mul] at h3
  have h4 := Nat.mul_le_mul (Nat.le_trans h2 h1) h3
  rw [← Nat.pow_add] at h4
  exact Nat.le_trans (Nat.pow_le_pow_right (by decide) hM) h4
theorem pow_yes (v : Value) (xs : List Nat) (n : Nat) (w : World) (h : Num w v xs) (hlen : xs.length ≤ 1000000) (hn : n ≤ 1024) (hb : bl (val xs ^ n) ≤ 262144) :
    Calls Tryd.prog 4 #[v, .int .i64 (n : Int)] w fun e w' => ∃ p, e = .returned (.tuple #[p, .int .i64 0]) ∧ Num w' p (lim (val xs ^ n)) ∧ Below w.heap.size w w' := by
  refine (pow_any v xs n w h hlen hn).mono ?_
  rintro e w' ⟨h1, _, h3⟩
  obtain ⟨p, rfl, hp⟩ := h1 hb
  exact ⟨p, rfl, hp.num, h3⟩
theorem pow_no (v : Value) (xs : List Nat) (n : Nat) (w : World) (h : Num w v xs) (hlen : xs.length ≤ 1000000) (hn : n ≤ 1024) (hb : 262144 < bl (val xs ^ n)) :
    Calls Tryd.prog 4 #[v, .int .i64 (n : Int)] w fun e w' => e = .returned (.tuple #[.slice none 0 0, .int .i64 12]) ∧ Below w.heap.size w w' := by
  refine (pow_any v xs n w h hlen hn).mono ?_
  rintro e w' ⟨_, h2, h3⟩
  exact ⟨h2 hb, h3⟩
theorem one_pow_bl (n : Nat) : 1 ^ n = 1 := Nat.one_pow n
theorem dig_no : ¬ (DigOk ⟨#[49, 95, 48]⟩ ∧ 0 < (⟨#[49, 95, 48]⟩ : ByteArray).size) := by decide
theorem dig_00 : DigOk ⟨#[48, 48]⟩ ∧ 0 < (⟨#[48, 48]⟩ : ByteArray).size := by decide

set_option maxRecDepth 100000 in
set_option maxHeartbeats 8000000 in
theorem natNames_top (w1 : World) : Calls Tryd.prog 3 #[] w1 fun e w' => e = .returned (.bool true) ∧ Below w1.heap.size w1 w' := by
  have b1 : Below w1.heap.size w1 w1 := Below.refl _ _
  have nl := litN w1 #[.int .u32 0, .int .u32 0, .int .u32 0, .int .u32 0, .int .u32 0, .int .u32 0, .int .u32 0, .int .u32 0, .int .u32 1] [0, 0, 0, 0, 0, 0, 0, 0, 1] 9 (by intro x hx; simp at hx; omega) (by simp [maxLen]) rfl rfl
  have hXl : val [0, 0, 0, 0, 0, 0, 0, 0, 1] = 2 ^ 256 := by decide
  obtain ⟨XL, hXL⟩ : ∃ XL, XL = [0, 0, 0, 0, 0, 0, 0, 0, 1] := ⟨_, rfl⟩
  rw [← hXL] at nl hXl
  have lXL : XL.length ≤ 1000000 := by rw [hXL]; decide
  clear hXL
  have HXL : Hid (val XL = 2 ^ 256) := hXl
  clear hXl
  replace b1 := bstep b1 (belowA w1 (.cells #[.int .u32 0, .int .u32 0, .int .u32 0, .int .u32 0, .int .u32 0, .int .u32 0, .int .u32 0, .int .u32 0, .int .u32 1] 22))
  go_enter Tryd.func3, Tryd.ntmps3
  go_wp2_with fail
  generalize w1.alloc (.cells #[.int .u32 0, .int .u32 0, .int .u32 0, .int .u32 0, .int .u32 0, .int .u32 0, .int .u32 0, .int .u32 0, .int .u32 1] 22) = v1 at *
  obtain ⟨E, hE⟩ : ∃ E : Nat, E = 1023 := ⟨_, rfl⟩
  have hp := pow_yes _ _ E v1 nl lXL (by omega) (long_le (b := 261889) HXL.out (by omega) (by decide))
  rw [show ((E : Nat) : Int) = 1023 by omega] at hp
  refine hp.mono ?_
  rintro e w2 ⟨p, rfl, np, hb⟩
  have HBP : Hid (bl (val XL ^ E) = 261889) := long_pow HXL.out (by omega)
  have HLP : Hid ((lim (val XL ^ E)).length ≤ 8192) := len_of_bl (by rw [HBP.out]; decide)
  obtain ⟨P, hP⟩ : ∃ P, P = val XL ^ E := ⟨_, rfl⟩
  rw [← hP] at np HBP HLP
  clear hP hp hE
  replace nl := nl.below (Nat.le_refl _) hb
  replace b1 := bstep b1 hb
  clear hb
  obtain ⟨E2, hE2⟩ : ∃ E : Nat, E = 1024 := ⟨_, rfl⟩
  have hp2 := pow_no _ _ E2 _ nl lXL (by omega) (long_gt (b := 262145) HXL.out (by omega) (by decide))
  rw [show ((E2 : Nat) : Int) = 1024 by omega] at hp2
  go_wp2_with fail
  refine (hp2).mono ?_
  rintro e w3 ⟨rfl, hb⟩
  replace np := np.below (Nat.le_refl _) hb
  replace b1 := bstep b1 hb
  clear hb nl
  clear hp2 hE2
  clear HXL lXL
  go_wp2_with fail
  refine (pow_bad _ 1025 _ (by decide)).mono ?_
  rintro e w4 ⟨rfl, hw⟩
  have hb := (belowA w3 (.cells #[.int .u32 1] 22))
  rw [← hw] at hb
  clear hw
  replace np := np.below (Nat.le_refl _) hb
  replace b1 := bstep b1 hb
  clear hb
  have l1 := lit1 w4 1 (by decide)
  obtain ⟨E3, hE3⟩ : ∃ E : Nat, E = 1024 := ⟨_, rfl⟩
  have hp3 := pow_yes _ _ E3 _ l1 (by decide) (by omega) (by rw [show val [1] = 1 from rfl, Nat.one_pow]; decide)
  rw [show ((E3 : Nat) : Int) = 1024 by omega] at hp3
  go_wp2_with fail
  refine (hp3).mono ?_
  rintro e w5 ⟨one, rfl, none_, hb⟩
  rw [show val [1] = 1 from rfl, Nat.one_pow, show lim 1 = [1] from rfl] at none_
  clear l1 hp3 hE3
  replace hb := bstep (belowA w4 (.cells #[.int .u32 1] 22)) hb
  replace np := np.below (Nat.le_refl _) hb
  replace b1 := bstep b1 hb
  clear hb
  go_wp2_with fail
  refine (shift_bad _ 262145 _ (by decide)).mono ?_
  rintro e w6 ⟨rfl, hw⟩
  have hb := (belowA w5 (.cells #[.int .u32 1] 22))
  rw [← hw] at hb
  clear hw
  replace np := np.below (Nat.le_refl _) hb
  replace none_ := none_.below (Nat.le_refl _) hb
  replace b1 := bstep b1 hb
  clear hb
  have l1 := lit1 w6 1 (by decide)
  have hS := shift_ok _ _ 262144 _ l1 (by decide) (by decide) (by decide)
  go_wp2_with fail
  refine (hS).mono ?_
  rintro e w7 ⟨most, rfl, nmost, hb⟩
  replace nmost := nmost.num
  clear hS l1
  replace hb := bstep (belowA w6 (.cells #[.int .u32 1] 22)) hb
  replace np := np.below (Nat.le_refl _) hb
  replace none_ := none_.below (Nat.le_refl _) hb
  replace b1 := bstep b1 hb
  clear hb
  have HBM : Hid (bl (shl (val [1]) 262144) = 262145) := by
    show _ = _
    unfold shl
    rw [if_pos (by decide), show val [1] = 1 from rfl, Nat.one_mul, bl_two]; rfl
  have HLM : Hid ((lim (shl (val [1]) 262144)).length ≤ 8193) := len_of_bl (by rw [HBM.out]; decide)
  obtain ⟨MM, hMM⟩ : ∃ MM, MM = shl (val [1]) 262144 := ⟨_, rfl⟩
  rw [← hMM] at nmost HBM HLM
  clear hMM
  have nn := litN w7 #[.int .u32 4294967295, .int .u32 4294967295, .int .u32 4294967295, .int .u32 4294967295, .int .u32 4294967295, .int .u32 4294967295, .int .u32 4294967295, .int .u32 4294967295, .int .u32 1] [4294967295, 4294967295, 4294967295, 4294967295, 4294967295, 4294967295, 4294967295, 4294967295, 1] 9 (by intro x hx; simp at hx; omega) (by simp [maxLen]) rfl rfl
  have hXn : 3 * 2 ^ 255 ≤ val [4294967295, 4294967295, 4294967295, 4294967295, 4294967295, 4294967295, 4294967295, 4294967295, 1] := by decide
  obtain ⟨XN, hXN⟩ : ∃ XN, XN = [4294967295, 4294967295, 4294967295, 4294967295, 4294967295, 4294967295, 4294967295, 4294967295, 1] := ⟨_, rfl⟩
  rw [← hXN] at nn hXn
  have lXN : XN.length ≤ 1000000 := by rw [hXN]; decide
  clear hXN
  have HXN : Hid (3 * 2 ^ 255 ≤ val XN) := hXn
  clear hXn
  obtain ⟨E4, hE4⟩ : ∃ E : Nat, E = 1023 := ⟨_, rfl⟩
  have hp4 := pow_no _ _ E4 _ nn lXN (by omega) (near_big (k := 204) (r := 3) HXN.out (by omega) (by decide))
  rw [show ((E4 : Nat) : Int) = 1023 by omega] at hp4
  go_wp2_with fail
  refine (hp4).mono ?_
  rintro e w8 ⟨rfl, hb⟩
  clear nn HXN lXN hp4 hE4
  replace hb := bstep (belowA w7 (.cells #[.int .u32 4294967295, .int .u32 4294967295, .int .u32 4294967295, .int .u32 4294967295, .int .u32 4294967295, .int .u32 4294967295, .int .u32 4294967295, .int .u32 4294967295, .int .u32 1] 22)) hb
  replace np := np.below (Nat.le_refl _) hb
  replace none_ := none_.below (Nat.le_refl _) hb
  replace nmost := nmost.below (Nat.le_refl _) hb
  replace b1 := bstep b1 hb
  clear hb
  go_wp2_with fail
  refine (parse_any _ _ (by decide)).mono ?_
  rintro e w9 ⟨sg, rfl, _, hb⟩
  rw [if_neg dig_no]
  replace np := np.below (Nat.le_refl _) hb
  replace none_ := none_.below (Nat.le_refl _) hb
  replace nmost := nmost.below (Nat.le_refl _) hb
  replace b1 := bstep b1 hb
  clear hb
  go_wp2_with fail
  refine (parse_any _ _ (by decide)).mono ?_
  rintro e w10 ⟨zr, rfl, nz, hb⟩
  rw [if_pos dig_00]
  rw [if_pos dig_00, show bval (dgs ⟨#[48, 48]⟩) = 0 from rfl, lim_zero] at nz
  replace nz := nz.num
  replace np := np.below (Nat.le_refl _) hb
  replace none_ := none_.below (Nat.le_refl _) hb
  replace nmost := nmost.below (Nat.le_refl _) hb
  replace b1 := bstep b1 hb
  clear hb
  obtain ⟨zo, zc, rfl, _, _⟩ := nz.ao
  go_wp2_with fail
  refine (alive_yes _).mono ?_
  rintro e w11 ⟨rfl, hb⟩
  replace np := np.below (Nat.le_refl _) hb
  replace none_ := none_.below (Nat.le_refl _) hb
  replace nmost := nmost.below (Nat.le_refl _) hb
  replace b1 := bstep b1 hb
  clear hb nz
  go_wp2_with fail
  refine (bits_any _ _ _ np (by have := HLP.out; omega)).mono ?_
  rintro e w12 ⟨rfl, rfl⟩
  rw [val_lim, HBP.out]
  have l1 := lit1 w12 1 (by decide)
  go_wp2_with fail
  refine (lsame_any _ _ _ _ _ (none_.alloc _) l1).mono ?_
  rintro e w13 ⟨rfl, kk, hk⟩
  rw [show decide ([1] = [1]) = true from rfl]
  clear l1
  have hb := belowK hk
  replace hb := bstep (belowA w12 (.cells #[.int .u32 1] 22)) hb
  replace np := np.below (Nat.le_refl _) hb
  replace nmost := nmost.below (Nat.le_refl _) hb
  replace b1 := bstep b1 hb
  clear hb hk none_
  go_wp2_with fail
  refine (bits_any _ _ _ nmost (by have := HLM.out; omega)).mono ?_
  rintro e w14 ⟨rfl, rfl⟩
  rw [val_lim, HBM.out]
  have HE : Hid (Below w1.heap.size w1 w14) := b1
  clear np nmost b1
  go_wp2_with fail
  go_ret
  exact ⟨rfl, HE.out⟩
end Go.Proofs.YtboohobkjhianaaDoor
