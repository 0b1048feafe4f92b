/-
  Proved here: what Single of package near and the document's Nearest and Single answer: one and the same.
-/
import Derived.Test.YtjfihcnjhjgdpaaLimMathAll
import Derived.Test.YtjfihcnjhjgdpaaNearP
import Derived.Test.YtjfihcnjhjgdpaaNearOS
import Derived.Test.YtjfihcnjhjgdpaaR2B
namespace Go.Proofs.Ytjfihcnjhjgdpaa
open Go.RowKit

def sidedS (s : Bool) (b : Nat) : Nat := if s = true ∧ b ≠ 0 then 2 ^ 31 + b else b
theorem xor_top2 {b k : Nat} (h : b < 2 ^ k) : b ^^^ 2 ^ k = 2 ^ k + b := by
  apply Nat.eq_of_testBit_eq
  intro i
  rw [Nat.testBit_xor, Nat.testBit_two_pow]
  rcases Nat.lt_trichotomy i k with hi | hi | hi
  · rw [Nat.testBit_two_pow_add_gt hi, decide_eq_false (by omega), Bool.xor_false]
  · subst hi
    rw [Nat.testBit_two_pow_add_eq]
    simp
  · have h1 : b < 2 ^ i := Nat.lt_of_lt_of_le h (Nat.pow_le_pow_right (by decide) (by omega))
    have h2 : 2 ^ k + b < 2 ^ i := by
      have h3 : (2 : Nat) ^ (k + 1) ≤ 2 ^ i := Nat.pow_le_pow_right (by decide) (by omega)
      rw [Nat.pow_succ] at h3
      omega
    rw [Nat.testBit_lt_two_pow h1, Nat.testBit_lt_two_pow h2, decide_eq_false (by omega)]
    rfl
theorem dzero {b : Nat} (hb : b ≤ 9218868437227405312) : (FloatKind.f64.format.order b 0 != some .eq) = decide (b ≠ 0) := by
  have h1 : (FloatKind.f64.format.order b 0 == some .eq) = (Ieee.double.read b).isZero := order_nought _ _
  have h2 : (Ieee.double.read b).isZero = decide (b = 0) := by
    by_cases h0 : b = 0
    · subst h0; decide
    · rw [decide_eq_false h0]
      unfold Ieee.Format.read
      rw [dsw, dbin, dinf]
      have e1 : b % 2 ^ 63 = b := by omega
      dsimp only
      rw [e1]
      split
      · unfold Ieee.Datum.isZero
        split
        · rename_i h; injection h with _ h3 _; exact absurd h3 h0
        · rfl
      · split
        · unfold Ieee.Datum.isZero
          split
          · rename_i h; injection h with _ h3 _; omega
          · rfl
        · split <;> rfl
  show (!(FloatKind.f64.format.order b 0 == some .eq)) = _
  rw [h1, h2]
  by_cases h0 : b = 0 <;> simp [h0]
theorem szero {b : Nat} (hb : b ≤ 2139095040) : (FloatKind.f32.format.order b 0 != some .eq) = decide (b ≠ 0) := by
  have h1 : (FloatKind.f32.format.order b 0 == some .eq) = (Ieee.single.read b).isZero := order_nought _ _
  have h2 : (Ieee.single.read b).isZero = decide (b = 0) := by
    by_cases h0 : b = 0
    · subst h0; decide
    · rw [decide_eq_false h0]
      unfold Ieee.Format.read
      rw [ssw, sbin, sinf]
      have e1 : b % 2 ^ 31 = b := by omega
      dsimp only
      rw [e1]
      split
      · unfold Ieee.Datum.isZero
        split
        · rename_i h; injection h with _ h3 _; exact absurd h3 h0
        · rfl
      · split
        · unfold Ieee.Datum.isZero
          split
          · rename_i h; injection h with _ h3 _; omega
          · rfl
        · split <;> rfl
  show (!(FloatKind.f32.format.order b 0 == some .eq)) = _
  rw [h1, h2]
  by_cases h0 : b = 0 <;> simp [h0]

@[local go_sem] theorem run_f64from2 (b : Nat) (w : World) : (callFunc 40 #[.int .u64 (b : Int)]).run Try.prog w = .ok (.value (.float .f64 b)) w := by
  rw [run_callFunc_extern Try.func40 (by kernel_rfl) (by kernel_rfl) (by kernel_rfl) (e := Extern.MathFloatBits.float64frombits) (by kernel_rfl)]
  rfl
@[local go_sem] theorem run_f32from2 (b : Nat) (w : World) : (callFunc 44 #[.int .u32 (b : Int)]).run Try.prog w = .ok (.value (.float .f32 b)) w := by
  rw [run_callFunc_extern Try.func44 (by kernel_rfl) (by kernel_rfl) (by kernel_rfl) (e := Extern.MathFloatBits.float32frombits) (by kernel_rfl)]
  rfl

set_option maxRecDepth 100000 in
set_option maxHeartbeats 1600000 in
theorem below_ref (na : Bool) (po : Option Addr) (pl pc : Nat) (q : Value) (xs : List Nat) (w : World) (hu : Num w (.slice po pl pc) xs) (lx : xs.length ≤ 1000) :
    Calls Try.prog 49 #[.agg #[.bool na, .slice po pl pc, q]] w fun e w' => e = .returned (.bool (decide (cmpZ (zv na (val xs)) 0 < 0))) ∧ Below w.heap.size w w' := by
  obtain ⟨W1, hW1⟩ : ∃ W1, W1 = w.alloc (.cells #[.bool na, .slice po pl pc, q] 29) := ⟨_, rfl⟩
  have hb1 : Below w.heap.size w W1 := by rw [hW1]; exact belowA w _
  have hi : INum W1 (.agg #[.bool na, .slice po pl pc]) (zv na (val xs)) := ⟨na, po, pl, pc, xs, rfl, hu.below (Nat.le_refl _) hb1, by omega, rfl⟩
  have HW1 : Hid (W1 = w.alloc (.cells #[.bool na, .slice po pl pc, q] 29)) := hW1
  have hk : TCell W1 w.heap.size (.bool na) (.slice po pl pc) q := by rw [hW1]; exact tcell_new _ rfl
  have r0 : (w.alloc (.cells #[.bool na, .slice po pl pc, q] 29)).cell? ⟨w.heap.size, 0, none⟩ = some (.bool na) := by rw [← hW1]; exact hk.cells.1
  have r1 : (w.alloc (.cells #[.bool na, .slice po pl pc, q] 29)).cell? ⟨w.heap.size, 1, none⟩ = some (.slice po pl pc) := by rw [← hW1]; exact hk.cells.2.1
  clear hW1 hu hk
  have hq := r_sign hi
  obtain ⟨sg, hsg⟩ : ∃ s, s = cmpZ (zv na (val xs)) 0 := ⟨_, rfl⟩
  rw [← hsg] at hq ⊢
  clear hsg hi
  go_enter Try.func49, Try.ntmps49
  go_wp2_with fail
  rw [← HW1.out]
  refine hq.mono ?_
  rintro e w2 ⟨rfl, b⟩
  have HE : Hid (Below w.heap.size w w2) := bstep hb1 b
  clear hq b hb1 r0 r1 HW1
  go_wp2
  go_ret
  exact ⟨rfl, HE.out⟩

theorem near_isD {z : Int} (hz : z = (-1074)) {N D b : Nat} (hD : 0 < D) (h : FloorOk 52 9218868437227405312 (N * 2 ^ (-z).toNat) D b) : roundR 52 9218868437227405312 (N * 2 ^ (-z).toNat) D b = nearestF (findF 53 (-1074) 1024 N D) := by
  have hi : infF 53 z 1024 = 9218868437227405312 := by rw [hz]; decide
  have hf : findF 53 z 1024 N D = findF 53 (-1074) 1024 N D := by rw [hz]
  have ho := find_ok (N := N) (D := D) (d := 53) (l := z) (t := 1024) (by omega) (by decide) (by omega) (by omega) (by decide)
  rw [hi, hf] at ho
  exact round_one hD (by decide) ho h
theorem round_leD {n D b : Nat} (h : FloorOk 52 9218868437227405312 n D b) : roundR 52 9218868437227405312 n D b ≤ 9218868437227405312 := by
  have := h.lt
  unfold roundR
  split
  · omega
  · split <;> omega

set_option maxRecDepth 100000 in
set_option maxHeartbeats 3200000 in
theorem refNearest (na : Bool) (po qo : Option Addr) (pl pc ql qc : Nat) (xs ys : List Nat) (w : World) (hu : Num w (.slice po pl pc) xs) (hv : Num w (.slice qo ql qc) ys) (lx : xs.length ≤ 1000) (ly : ys.length ≤ 1000) :
    Calls Try.prog 18 #[.agg #[.bool na, .slice po pl pc, .slice qo ql qc]] w fun e w' => e = .returned (.float .f64 (sidedF (decide (cmpZ (zv na (val xs)) 0 < 0)) (nearestF (findF 53 (-1074) 1024 (val xs) (undN (val ys)))))) ∧ Below w.heap.size w w' := by
  obtain ⟨z, hz⟩ : ∃ z : Int, z = (-1074) := ⟨_, rfl⟩
  have hro := fun w h1 h2 => roundRD z hz na po qo pl pc ql qc xs ys w h1 h2 lx ly
  have hbe := fun w h1 => below_ref na po pl pc (.slice qo ql qc) xs w h1 lx
  have hni := fun {b : Nat} (h : FloorOk 52 9218868437227405312 (val xs * 2 ^ (-z).toNat) (undN (val ys)) b) => near_isD hz (undN_pos _) h
  obtain ⟨nr, hn⟩ : ∃ n, n = nearestF (findF 53 (-1074) 1024 (val xs) (undN (val ys))) := ⟨_, rfl⟩
  rw [← hn] at hni ⊢
  have hro2 : ∀ w, Num w (.slice po pl pc) xs → Num w (.slice qo ql qc) ys → Calls Try.prog 50 #[.agg #[.int .i64 52, .int .u64 9218868437227405312, .int .i64 (-1074)], .agg #[.bool na, .slice po pl pc, .slice qo ql qc]] w fun e w' => e = .returned (.int .u64 (nr : Int)) ∧ Below w.heap.size w w' := fun w h1 h2 => (hro w h1 h2).mono fun e w' ⟨b, hf, he, hb⟩ => ⟨by rw [he, hni hf], hb⟩
  have hnl : nr ≤ 9218868437227405312 := by
    have hi : infF 53 (-1074) 1024 = 9218868437227405312 := by decide
    have ho := find_ok (N := val xs) (D := undN (val ys)) (d := 53) (l := z) (t := 1024) (by have := undN_pos (val ys); omega) (by decide) (by omega) (by omega) (by decide)
    have hf : findF 53 z 1024 (val xs) (undN (val ys)) = findF 53 (-1074) 1024 (val xs) (undN (val ys)) := by rw [hz]
    have hi2 : infF 53 z 1024 = 9218868437227405312 := by rw [hz]; exact hi
    rw [hi2, hf] at ho
    have h1 := ho.lt
    rw [hn]
    unfold nearestF
    split <;> omega
  obtain ⟨sg, hsg⟩ : ∃ s, s = decide (cmpZ (zv na (val xs)) 0 < 0) := ⟨_, rfl⟩
  rw [← hsg] at hbe ⊢
  have hzr := dzero hnl
  have hneg : ∀ w, (Op.unary .neg (.float .f64 nr)).run Try.prog w = .ok (.float .f64 (2 ^ 63 + nr)) w := fun w => by
    rw [← xor_top2 (b := nr) (k := 63) (by omega)]
    rfl
  clear hn hni hro hz hsg
  obtain ⟨W1, hW1⟩ : ∃ W1, W1 = w.alloc (.cells #[.bool na, .slice po pl pc, .slice qo ql qc] 29) := ⟨_, rfl⟩
  have hk : TCell W1 w.heap.size (.bool na) (.slice po pl pc) (.slice qo ql qc) := by rw [hW1]; exact tcell_new _ rfl
  have hb1 : Below w.heap.size w W1 := by rw [hW1]; exact belowA w _
  have HW1 : Hid (W1 = w.alloc (.cells #[.bool na, .slice po pl pc, .slice qo ql qc] 29)) := hW1
  replace hu := hu.below (Nat.le_refl _) hb1
  replace hv := hv.below (Nat.le_refl _) hb1
  clear hW1
  go_enter Try.func18, Try.ntmps18
  go_wp2_with fail
  rw [← HW1.out]
  obtain ⟨g, hg⟩ : ∃ g, g = w.heap.size := ⟨_, rfl⟩
  rw [← hg] at hk ⊢
  refine (kindRD _).mono ?_
  rintro e w2 ⟨rfl, b2⟩
  replace hk := hk.below b2
  replace hu := hu.below (Nat.le_refl _) b2
  replace hv := hv.below (Nat.le_refl _) b2
  replace hb1 := bstep hb1 b2
  clear b2 hg HW1
  obtain ⟨W2, hW2⟩ : ∃ W, W = w2.alloc (.cells #[.int .i64 52, .int .u64 9218868437227405312, .int .i64 (-1074)] 53) := ⟨_, rfl⟩
  have b3 : Below w2.heap.size w2 W2 := by rw [hW2]; exact belowA _ _
  replace hk := hk.below b3
  replace hu := hu.below (Nat.le_refl _) b3
  replace hv := hv.below (Nat.le_refl _) b3
  replace hb1 := bstep hb1 b3
  obtain ⟨c0, c1, c2⟩ := hk.cells
  rw [hW2] at c0 c1 c2
  have HW2 : Hid (w2.alloc (.cells #[.int .i64 52, .int .u64 9218868437227405312, .int .i64 (-1074)] 53) = W2) := hW2.symm
  clear b3 hW2
  go_wp2_with fail
  rw [HW2.out]
  refine (hro2 _ hu hv).mono ?_
  rintro e w3 ⟨rfl, b3⟩
  replace hk := hk.below b3
  replace hu := hu.below (Nat.le_refl _) b3
  replace hb1 := bstep hb1 b3
  clear b3 HW2 c0 c1 c2 hro2 hv
  obtain ⟨c0, c1, c2⟩ := hk.cells
  go_wp2_with fail
  refine (hbe _ hu).mono ?_
  rintro e w4 ⟨rfl, b4⟩
  have HE : Hid (Below w.heap.size w w4) := bstep hb1 b4
  clear b4 hb1 hk hu hbe c0 c1 c2
  cases sg
  · have HF : Hid (sidedF false nr = nr) := if_neg (by simp)
    clear hzr hneg
    go_wp2
    go_ret
    exact ⟨by rw [HF.out]; rfl, HE.out⟩
  · by_cases h0 : nr = 0
    · subst h0
      have HF : Hid (sidedF true 0 = 0) := if_neg (by simp)
      have hz2 : (FloatKind.f64.format.order 0 0 != some .eq) = false := hzr
      clear hzr hneg
      go_wp2
      go_ret
      exact ⟨by rw [HF.out]; rfl, HE.out⟩
    · have HF : Hid (sidedF true nr = 2 ^ 63 + nr) := if_pos ⟨rfl, h0⟩
      rw [decide_eq_true h0] at hzr
      go_wp2
      go_ret
      exact ⟨by rw [HF.out]; rfl, HE.out⟩

theorem near_isS {z : Int} (hz : z = (-149)) {N D b : Nat} (hD : 0 < D) (h : FloorOk 23 2139095040 (N * 2 ^ (-z).toNat) D b) : roundR 23 2139095040 (N * 2 ^ (-z).toNat) D b = nearestF (findF 24 (-149) 128 N D) := by
  have hi : infF 24 z 128 = 2139095040 := by rw [hz]; decide
  have hf : findF 24 z 128 N D = findF 24 (-149) 128 N D := by rw [hz]
  have ho := find_ok (N := N) (D := D) (d := 24) (l := z) (t := 128) (by omega) (by decide) (by omega) (by omega) (by decide)
  rw [hi, hf] at ho
  exact round_one hD (by decide) ho h
theorem round_leS {n D b : Nat} (h : FloorOk 23 2139095040 n D b) : roundR 23 2139095040 n D b ≤ 2139095040 := by
  have := h.lt
  unfold roundR
  split
  · omega
  · split <;> omega

set_option maxRecDepth 100000 in
set_option maxHeartbeats 3200000 in
theorem refSingle (na : Bool) (po qo : Option Addr) (pl pc ql qc : Nat) (xs ys : List Nat) (w : World) (hu : Num w (.slice po pl pc) xs) (hv : Num w (.slice qo ql qc) ys) (lx : xs.length ≤ 1000) (ly : ys.length ≤ 1000) :
    Calls Try.prog 20 #[.agg #[.bool na, .slice po pl pc, .slice qo ql qc]] w fun e w' => e = .returned (.float .f32 (sidedS (decide (cmpZ (zv na (val xs)) 0 < 0)) (nearestF (findF 24 (-149) 128 (val xs) (undN (val ys)))))) ∧ Below w.heap.size w w' := by
  obtain ⟨z, hz⟩ : ∃ z : Int, z = (-149) := ⟨_, rfl⟩
  have hro := fun w h1 h2 => roundRS z hz na po qo pl pc ql qc xs ys w h1 h2 lx ly
  have hbe := fun w h1 => below_ref na po pl pc (.slice qo ql qc) xs w h1 lx
  have hni := fun {b : Nat} (h : FloorOk 23 2139095040 (val xs * 2 ^ (-z).toNat) (undN (val ys)) b) => near_isS hz (undN_pos _) h
  obtain ⟨nr, hn⟩ : ∃ n, n = nearestF (findF 24 (-149) 128 (val xs) (undN (val ys))) := ⟨_, rfl⟩
  rw [← hn] at hni ⊢
  have hro2 : ∀ w, Num w (.slice po pl pc) xs → Num w (.slice qo ql qc) ys → Calls Try.prog 50 #[.agg #[.int .i64 23, .int .u64 2139095040, .int .i64 (-149)], .agg #[.bool na, .slice po pl pc, .slice qo ql qc]] w fun e w' => e = .returned (.int .u64 (nr : Int)) ∧ Below w.heap.size w w' := fun w h1 h2 => (hro w h1 h2).mono fun e w' ⟨b, hf, he, hb⟩ => ⟨by rw [he, hni hf], hb⟩
  have hnl : nr ≤ 2139095040 := by
    have hi : infF 24 (-149) 128 = 2139095040 := by decide
    have ho := find_ok (N := val xs) (D := undN (val ys)) (d := 24) (l := z) (t := 128) (by have := undN_pos (val ys); omega) (by decide) (by omega) (by omega) (by decide)
    have hf : findF 24 z 128 (val xs) (undN (val ys)) = findF 24 (-149) 128 (val xs) (undN (val ys)) := by rw [hz]
    have hi2 : infF 24 z 128 = 2139095040 := by rw [hz]; exact hi
    rw [hi2, hf] at ho
    have h1 := ho.lt
    rw [hn]
    unfold nearestF
    split <;> omega
  obtain ⟨sg, hsg⟩ : ∃ s, s = decide (cmpZ (zv na (val xs)) 0 < 0) := ⟨_, rfl⟩
  rw [← hsg] at hbe ⊢
  have hzr := szero hnl
  have hneg : ∀ w, (Op.unary .neg (.float .f32 nr)).run Try.prog w = .ok (.float .f32 (2 ^ 31 + nr)) w := fun w => by
    rw [← xor_top2 (b := nr) (k := 31) (by omega)]
    rfl
  have hcv : IntKind.u32.wrap (nr : Int) = (nr : Int) := by rw [IntKind.wrap_u32]; omega
  clear hn hni hro hz hsg
  obtain ⟨W1, hW1⟩ : ∃ W1, W1 = w.alloc (.cells #[.bool na, .slice po pl pc, .slice qo ql qc] 29) := ⟨_, rfl⟩
  have hk : TCell W1 w.heap.size (.bool na) (.slice po pl pc) (.slice qo ql qc) := by rw [hW1]; exact tcell_new _ rfl
  have hb1 : Below w.heap.size w W1 := by rw [hW1]; exact belowA w _
  have HW1 : Hid (W1 = w.alloc (.cells #[.bool na, .slice po pl pc, .slice qo ql qc] 29)) := hW1
  replace hu := hu.below (Nat.le_refl _) hb1
  replace hv := hv.below (Nat.le_refl _) hb1
  clear hW1
  go_enter Try.func20, Try.ntmps20
  go_wp2_with fail
  rw [← HW1.out]
  obtain ⟨g, hg⟩ : ∃ g, g = w.heap.size := ⟨_, rfl⟩
  rw [← hg] at hk ⊢
  refine (kindRS _).mono ?_
  rintro e w2 ⟨rfl, b2⟩
  replace hk := hk.below b2
  replace hu := hu.below (Nat.le_refl _) b2
  replace hv := hv.below (Nat.le_refl _) b2
  replace hb1 := bstep hb1 b2
  clear b2 hg HW1
  obtain ⟨W2, hW2⟩ : ∃ W, W = w2.alloc (.cells #[.int .i64 23, .int .u64 2139095040, .int .i64 (-149)] 53) := ⟨_, rfl⟩
  have b3 : Below w2.heap.size w2 W2 := by rw [hW2]; exact belowA _ _
  replace hk := hk.below b3
  replace hu := hu.below (Nat.le_refl _) b3
  replace hv := hv.below (Nat.le_refl _) b3
  replace hb1 := bstep hb1 b3
  obtain ⟨c0, c1, c2⟩ := hk.cells
  rw [hW2] at c0 c1 c2
  have HW2 : Hid (w2.alloc (.cells #[.int .i64 23, .int .u64 2139095040, .int .i64 (-149)] 53) = W2) := hW2.symm
  clear b3 hW2
  go_wp2_with fail
  rw [HW2.out]
  refine (hro2 _ hu hv).mono ?_
  rintro e w3 ⟨rfl, b3⟩
  replace hk := hk.below b3
  replace hu := hu.below (Nat.le_refl _) b3
  replace hb1 := bstep hb1 b3
  clear b3 HW2 c0 c1 c2 hro2 hv
  obtain ⟨c0, c1, c2⟩ := hk.cells
  go_wp2_with fail
  refine (hbe _ hu).mono ?_
  rintro e w4 ⟨rfl, b4⟩
  have HE : Hid (Below w.heap.size w w4) := bstep hb1 b4
  clear b4 hb1 hk hu hbe c0 c1 c2
  cases sg
  · have HF : Hid (sidedS false nr = nr) := if_neg (by simp)
    clear hzr hneg
    go_wp2
    go_ret
    exact ⟨by rw [HF.out]; rfl, HE.out⟩
  · by_cases h0 : nr = 0
    · subst h0
      have HF : Hid (sidedS true 0 = 0) := if_neg (by simp)
      have hz2 : (FloatKind.f32.format.order 0 0 != some .eq) = false := hzr
      clear hzr hneg
      go_wp2
      go_ret
      exact ⟨by rw [HF.out]; rfl, HE.out⟩
    · have HF : Hid (sidedS true nr = 2 ^ 31 + nr) := if_pos ⟨rfl, h0⟩
      rw [decide_eq_true h0] at hzr
      go_wp2
      go_ret
      exact ⟨by rw [HF.out]; rfl, HE.out⟩
end Go.Proofs.Ytjfihcnjhjgdpaa
