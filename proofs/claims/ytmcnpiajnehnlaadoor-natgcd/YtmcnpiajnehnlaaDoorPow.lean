/-
  Proved here: what Pow answers.
-/
import Derived.Test.YtmcnpiajnehnlaaDoorPowMath
import Derived.Test.YtmcnpiajnehnlaaDoorMul
namespace Go.Proofs.YtmcnpiajnehnlaaDoor
open Go.RowKit

set_option maxHeartbeats 4000000 in
set_option maxRecDepth 100000 in
theorem len64_small (x : Int) (w : World) (h0 : 0 ≤ x) (h1 : x ≤ 65535) :
    Calls Tryd.prog 91 #[.int .u64 x] w fun e w' => e = .returned (.int .i64 (bl x.toNat : Nat)) ∧ w' = w := by
  rw [← bl_bitLen x.toNat (by omega)]
  have c3 : x < 4294967296 := by omega
  have c2 : x < 65536 := by omega
  by_cases c1 : x < 256
  · have i0 : 0 ≤ x := by omega
    have i1 : x ≤ 255 := by omega
    have hl := Lib.len8_of x i0 i1
    have hb := Lib.bitLen_le8' x i0 i1
    go_enter Tryd.func91, Tryd.ntmps91
    go_wp2
    go_ret
    refine ⟨congrArg Ending.returned (congrArg (Value.int IntKind.i64) ?_), rfl⟩
    rfl
  · have i0 : 0 ≤ x / 256 := by omega
    have i1 : x / 256 ≤ 255 := by omega
    have hl := Lib.len8_of (x / 256) i0 i1
    have hb := Lib.bitLen_le8' (x / 256) i0 i1
    have HE : Hid ((Lib.bitLen x.toNat : Int) = 8 + (Lib.bitLen (x / 256).toNat : Int)) := by
      show _ = _
      rw [Lib.bitLen_shift8 x.toNat (by omega) (by omega), show (x / 256).toNat = x.toNat / 256 by omega]
      omega
    obtain ⟨r, hr⟩ : ∃ r, r = Lib.bitLen (x / 256).toNat := ⟨_, rfl⟩
    rw [← hr] at hl hb
    have HR : Hid (r = Lib.bitLen (x / 256).toNat) := hr
    clear hr
    go_enter Tryd.func91, Tryd.ntmps91
    go_wp2
    go_ret
    refine ⟨congrArg Ending.returned (congrArg (Value.int IntKind.i64) ?_), rfl⟩
    rw [HE.out, ← HR.out]
theorem len_small (x : Int) (w : World) (h0 : 0 ≤ x) (h1 : x ≤ 65535) :
    Calls Tryd.prog 64 #[.int .u64 x] w fun e w' => e = .returned (.int .i64 (bl x.toNat : Nat)) ∧ w' = w := by
  go_enter Tryd.func64, Tryd.ntmps64
  go_wp2_with fail
  refine (len64_small _ _ h0 h1).mono ?_
  rintro e w1 ⟨rfl, rfl⟩
  go_wp2
  go_ret
  exact ⟨rfl, rfl⟩

/-- What Pow leaves. -/
def PowEnd (B : Nat) (w : World) (p : Nat) (en : Ending) (w' : World) : Prop :=
  (bl p ≤ 262144 → ∃ v, en = .returned (.tuple #[v, .int .i64 0]) ∧ Own B 32 w' v (lim p)) ∧ (262144 < bl p → en = .returned (.tuple #[.slice none 0 0, .int .i64 12])) ∧ Below B w w'

set_option maxRecDepth 100000 in
set_option maxHeartbeats 3200000 in
theorem pow_any (v : Value) (xs : List Nat) (n : Nat) (w : World) (h : Num w v xs) (hlen : xs.length ≤ 1000000) (hn : n ≤ 1024) :
    Calls Tryd.prog 32 #[v, .int .i64 (n : Int)] w fun e w' => PowEnd w.heap.size w (val xs ^ n) e w' := by
  have h1 : ¬ (n : Int) < 0 := by omega
  have h2 : ¬ 1024 < (n : Int) := by omega
  have hbl : bl (val xs) ≤ 32000000 := by have := bl_len h.1; omega
  go_enter Tryd.func32, Tryd.ntmps32
  go_wp2_with fail
  refine (bits_any _ _ _ h (by omega)).mono ?_
  rintro e w1 ⟨rfl, rfl⟩
  obtain ⟨b, hb⟩ : ∃ b, b = bl (val xs) := ⟨_, rfl⟩
  rw [← hb] at hbl ⊢
  have hprod : ∃ q : Int, ((b : Int) - 1) * (n : Int) = q ∧ -1024 ≤ q ∧ q ≤ 33000000000 := by
    refine ⟨_, rfl, ?_, ?_⟩
    · by_cases h0 : b = 0
      · subst h0; omega
      · have : 0 ≤ ((b : Int) - 1) * (n : Int) := Int.mul_nonneg (by omega) (by omega)
        omega
    · have h3 : ((b : Int) - 1) * (n : Int) ≤ 32000000 * (n : Int) := Int.mul_le_mul_of_nonneg_right (by omega) (by omega)
      omega
  obtain ⟨q, eq, hq1, hq2⟩ := hprod
  by_cases hbig : 262144 ≤ q
  · have HR : Hid (PowEnd w1.heap.size w1 (val xs ^ n) (.returned (.tuple #[.slice none 0 0, .int .i64 12])) w1) := by
      have hb0 : b ≠ 0 := by rintro rfl; omega
      have hv0 : val xs ≠ 0 := by intro h0; rw [h0, bl_zero] at hb; exact hb0 hb
      have h5 : 262144 < bl (val xs ^ n) := by
        refine pow_big_of ?_ hv0
        rw [← hb]
        have : (((b - 1) * n : Nat) : Int) = q := by rw [← eq, Int.natCast_mul, Int.natCast_sub (by omega)]; rfl
        omega
      exact ⟨fun h => by omega, fun _ => rfl, Below.refl _ _⟩
    clear h hb
    go_wp2
    go_ret2
    exact HR.out
  · have hbig' : ¬ 262144 ≤ q := hbig
    have hsm : (bl (val xs) - 1) * n < 262144 := by
      rw [← hb]
      by_cases h0 : b = 0
      · subst h0; simp
      · have : (((b - 1) * n : Nat) : Int) = q := by rw [← eq, Int.natCast_mul, Int.natCast_sub (by omega)]; rfl
        omega
    have HLN : Hid (∀ e, e ≤ n → (lim (val xs ^ e)).length ≤ 9000) := fun e he => pow_len hsm hn he (by omega)
    clear hb hsm
    go_wp2_with fail
    refine (of_any 1 _ (by decide)).mono ?_
    rintro e w2 ⟨p0, rfl, ho0, hb0⟩
    clear eq hbig
    go_wp2_with fail
    refine (len_small _ _ (by omega) (by omega)).mono ?_
    rintro e w3 ⟨rfl, rfl⟩
    rw [Int.toNat_natCast]
    have hln := bl_lt' n
    have hlb : bl n ≤ 11 := bl_le_iff.2 (Nat.lt_of_le_of_lt hn (by decide))
    obtain ⟨L, hL⟩ : ∃ L, L = bl n := ⟨_, rfl⟩
    rw [← hL] at hln hlb ⊢
    have HL0 : Hid (n / 2 ^ L = 0) := Nat.div_eq_of_lt hln
    clear hL hln
    go_wp2
    go_loopw [6, 7] (fun p t wr => ∃ (i : Nat), i ≤ L ∧ t = .int .i64 ((i : Int) - 1) ∧ Own w1.heap.size 32 wr p (lim (val xs ^ (n / 2 ^ i))) ∧ Below w1.heap.size w1 wr ∧ w1.heap.size ≤ wr.heap.size) (fun _ t _ => (intOf t + 1).toNat)
    case atStart => exact ⟨L, Nat.le_refl _, rfl, by rw [HL0.out, Nat.pow_zero]; exact ho0, hb0, hb0.size⟩
    case round =>
      clear ho0 hb0
      obtain ⟨i, hi, rfl, how, hbel, hsz⟩ := hrel
      by_cases hi0 : 0 < i
      · have hge : (0 : Int) ≤ (i : Int) - 1 := by omega
        obtain ⟨j, rfl⟩ : ∃ j, i = j + 1 := ⟨i - 1, by omega⟩
        have ej : ((j + 1 : Nat) : Int) - 1 = (j : Int) := by omega
        rw [ej] at hge ⊢
        have hle1 : n / 2 ^ (j + 1) ≤ n := Nat.div_le_self _ _
        have hl1 := HLN.out _ hle1
        go_wp2_with fail
        refine (mul_any _ _ _ _ _ how.num how.num (by omega) (by omega)).mono ?_
        rintro e w4 ⟨v4, rfl, ho4, hb4⟩
        rw [val_lim] at ho4
        have ho4' := ho4.mono hsz
        obtain ⟨hbel4, hsz4⟩ : Below w1.heap.size w1 w4 ∧ w1.heap.size ≤ w4.heap.size := ⟨hbel.trans (hb4.mono hsz), Nat.le_trans hsz hb4.size⟩
        clear ho4 hb4 how hbel hsz
        obtain ⟨D, hD⟩ : ∃ D, D = n / 2 ^ j := ⟨_, rfl⟩
        have eD : (n : Int) / 2 ^ j = (D : Int) := by rw [hD]; simp
        have hD1 : D ≤ 1024 := by rw [hD]; exact Nat.le_trans (Nat.div_le_self _ _) hn
        have eA := and1_i64 D (by omega)
        have HD : Hid (D = n / 2 ^ j) := hD
        have hph := pow_half (v := val xs) (n := n) (i := j) rfl
        rw [← hD] at hph
        have HPH : Hid (val xs ^ D = val xs ^ (n / 2 ^ (j + 1)) * val xs ^ (n / 2 ^ (j + 1)) * val xs ^ (D % 2)) := hph
        obtain ⟨r, hr⟩ : ∃ r, r = D % 2 := ⟨_, rfl⟩
        rw [← hr] at eA
        have HR : Hid (r = D % 2) := hr
        clear hD hph hr
        by_cases hodd : r = 1
        · have ht : ((r : Int) == 1) = true := by simp [hodd]
          have HO : Hid (r = 1) := hodd
          have hlX := h.below (Nat.le_refl _) hbel4
          have hlS : (lim (val xs ^ (n / 2 ^ (j + 1)) * val xs ^ (n / 2 ^ (j + 1)))).length ≤ 9000 + 9000 := prod_len hl1 hl1
          clear hodd
          go_wp2_with fail
          refine (mul_any _ _ _ _ _ ho4'.num hlX (by omega) (by omega)).mono ?_
          rintro e w5 ⟨v5, rfl, ho5, hb5⟩
          rw [val_lim] at ho5
          have HF : Hid (Own w1.heap.size 32 w5 v5 (lim (val xs ^ (n / 2 ^ j)))) := by
            rw [← HD.out, HPH.out, ← HR.out, HO.out, Nat.pow_one]
            exact ho5.mono hsz4
          have hb6 := hbel4.trans (hb5.mono hsz4)
          have hs6 := Nat.le_trans hsz4 hb5.size
          clear ho5 hb5 ho4' hbel4 hlX hlS
          go_wp2
          go_roundw
          case rel => exact ⟨j, by omega, by go_num, HF.out, hb6, hs6⟩
          case measure => simp [intOf]
        · have ht : ((r : Int) == 1) = false := by simp; omega
          have hr0 : r = 0 := by have := HR.out; omega
          have HF : Hid (Own w1.heap.size 32 w4 v4 (lim (val xs ^ (n / 2 ^ j)))) := by
            rw [← HD.out, HPH.out, ← HR.out, hr0, Nat.pow_zero, Nat.mul_one]
            exact ho4'
          clear hodd hr0 ho4'
          go_wp2
          go_roundw
          case rel => exact ⟨j, by omega, by go_num, HF.out, hbel4, hsz4⟩
          case measure => simp [intOf]
      · have hi1 : i = 0 := by omega
        subst hi1
        rw [Nat.pow_zero, Nat.div_one] at how
        have hl1 := HLN.out n (Nat.le_refl _)
        go_wp2_with fail
        refine (bits_any _ _ _ how.num (by omega)).mono ?_
        rintro e w5 ⟨rfl, rfl⟩
        rw [val_lim]
        obtain ⟨P, hP⟩ : ∃ P, P = bl (val xs ^ n) := ⟨_, rfl⟩
        rw [← hP]
        have hP1 : P ≤ 300000 := by have := bl_lim_len (p := val xs ^ n); omega
        by_cases hbg : 262144 < P
        · have hbg' : (262144 : Int) < (P : Int) := by omega
          have HF : Hid (PowEnd w1.heap.size w1 (val xs ^ n) (.returned (.tuple #[.slice none 0 0, .int .i64 12])) w5) := ⟨fun hh => by omega, fun _ => rfl, hbel⟩
          clear how hP hbg
          go_wp2
          go_ret2
          exact HF.out
        · have hbg' : ¬ (262144 : Int) < (P : Int) := by omega
          have HF : Hid (PowEnd w1.heap.size w1 (val xs ^ n) (.returned (.tuple #[u6, .int .i64 0])) w5) := ⟨fun _ => ⟨_, rfl, how⟩, fun hh => by omega, hbel⟩
          clear how hP hbg
          go_wp2
          go_ret2
          exact HF.out
end Go.Proofs.YtmcnpiajnehnlaaDoor
