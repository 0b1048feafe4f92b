/-
  Proved here: what Order of package near and the plain way's Order answer, of floats of every kind.
-/
import Derived.Test.YtnlajeinegampaaNearA
import Derived.Laws.FloatArith
import Derived.Deep.QuietTactic
namespace Go.Proofs.Ytnlajeinegampaa
open Go.RowKit

theorem sgnb_neg {b : Nat} (hb : b < 18446744073709551616) : sgnb b = (Ieee.double.read b).neg := by
  have h : (Ieee.double.read b).neg = (b / Ieee.double.signWeight % 2 == 1) := by
    unfold Ieee.Format.read
    dsimp only
    split
    · rfl
    · split
      · rfl
      · split <;> rfl
  rw [h, dsw]
  unfold sgnb
  by_cases hc : 2 ^ 63 ≤ b
  · have : b / 2 ^ 63 % 2 = 1 := by omega
    rw [this, decide_eq_true hc]; rfl
  · have : b / 2 ^ 63 % 2 = 0 := by omega
    rw [this, decide_eq_false hc]; rfl

/-- What a float of 32 bits that is no NaN is in 64 bits. -/
def cnv (b : Nat) : Nat := Ieee.double.write (Ieee.single.read b)
theorem cnv_bits {b : Nat} (hn : (Ieee.single.read b).isNaN = false) : floatToFloatBits .f32 b .f64 = some (cnv b) := by
  have hs := conv_same hn
  unfold floatToFloatBits cnv
  rw [if_neg (by decide)]
  show (match Ieee.single.read b with
    | .nan _ _ => none
    | .infinity s => some (Ieee.double.write (.infinity s))
    | .number s m e => if (Ieee.double.read (Ieee.double.write (.number s m e))).isInfinity then none else some (Ieee.double.write (.number s m e))) = _
  cases h : Ieee.single.read b with
  | nan s t => rw [h] at hn; simp [Ieee.Datum.isNaN] at hn
  | infinity s => rfl
  | number s m e =>
    rw [h] at hs
    have : (Ieee.double.read (Ieee.double.write (.number s m e))).isInfinity = false := by
      cases hd : Ieee.double.read (Ieee.double.write (.number s m e)) with
      | number => rfl
      | infinity => rw [hd] at hs; exact hs.elim
      | nan => rfl
    show (if _ then none else some _) = some _
    rw [this]; rfl
theorem cnv_lt (b : Nat) : cnv b < 18446744073709551616 := Ieee.Format.write_lt Ieee.double _
theorem cnv_neg {b : Nat} (hn : (Ieee.single.read b).isNaN = false) : sgnb (cnv b) = (Ieee.single.read b).neg := by
  rw [sgnb_neg (cnv_lt b)]
  refine (conv_same hn).neg ?_
  rw [(conv_same hn).nan]; exact hn
theorem nan_of_zero {d : Ieee.Datum} (h : d.isZero = true) : d.isNaN = false := by cases d <;> simp_all [Ieee.Datum.isZero, Ieee.Datum.isNaN]
theorem cmp_ups (p q : Bool) : (if (if p then (0 : Int) else 1) < (if q then (0 : Int) else 1) then (-1 : Int) else if (if q then (0 : Int) else 1) < (if p then (0 : Int) else 1) then 1 else 0) = if p = q then 0 else if p then -1 else 1 := by
  cases p <;> cases q <;> decide

set_option maxRecDepth 100000 in
set_option maxHeartbeats 1600000 in
theorem upperD (b : Nat) (w : World) (hb : b < 18446744073709551616) :
    Calls Try.prog 57 #[.float .f64 b] w fun e w' => e = .returned (.int .i64 (if (Ieee.double.read b).neg then 0 else 1)) ∧ w' = w := by
  have hsb := fun w => signbit_any b w hb
  simp only [sgnb_neg hb] at hsb
  generalize (Ieee.double.read b).neg = s at *
  cases s
  all_goals
    go_enter Try.func57, Try.ntmps57
    go_wp2_with fail
    refine (hsb _).mono ?_
    rintro e w1 ⟨rfl, rfl⟩
    clear hsb
    go_wp2
    go_ret
    exact ⟨rfl, rfl⟩

set_option maxRecDepth 100000 in
set_option maxHeartbeats 1600000 in
theorem ordfD (a b : Nat) (w : World) (ha : a < 18446744073709551616) (hb : b < 18446744073709551616) :
    Calls Try.prog 20 #[.float .f64 a, .float .f64 b] w fun e w' => e = .returned (.int .i64 (ordD (Ieee.double.read a) (Ieee.double.read b))) ∧ w' = w := by
  have e1 : (FloatKind.f64.format.order a 0 == some .eq) = (Ieee.double.read a).isZero := order_nought _ _
  have e2 : (FloatKind.f64.format.order b 0 == some .eq) = (Ieee.double.read b).isZero := order_nought _ _
  by_cases hz : (Ieee.double.read a).isZero = true ∧ (Ieee.double.read b).isZero = true
  · obtain ⟨za, zb⟩ := hz
    rw [za] at e1
    rw [zb] at e2
    have ua := fun w => upperD a w ha
    have ub := fun w => upperD b w hb
    rw [ordD_zero za zb, ← cmp_ups]
    generalize (if (Ieee.double.read a).neg then (0 : Int) else 1) = p at *
    generalize (if (Ieee.double.read b).neg then (0 : Int) else 1) = q at *
    obtain ⟨r, hr⟩ : ∃ r : Int, r = if p < q then -1 else if q < p then 1 else 0 := ⟨_, rfl⟩
    have hc := fun w => cmpInt_any p q w
    rw [← hr] at hc ⊢
    clear za zb hr
    go_enter Try.func20, Try.ntmps20
    go_wp2_with fail
    refine (ua _).mono ?_
    rintro e w1 ⟨rfl, rfl⟩
    go_wp2_with fail
    refine (ub _).mono ?_
    rintro e w1 ⟨rfl, rfl⟩
    go_wp2_with fail
    refine (hc _).mono ?_
    rintro e w1 ⟨rfl, rfl⟩
    clear ua ub hc
    go_wp2
    go_ret
    exact ⟨rfl, rfl⟩
  · have hc := fun w => cmpfD a b w
    have HQ : HidF (cmpD (FloatKind.f64.format.read a) (FloatKind.f64.format.read b) = ordD (Ieee.double.read a) (Ieee.double.read b)) := ⟨ordD_eq hz⟩
    rw [← HQ.out]
    generalize cmpD (FloatKind.f64.format.read a) (FloatKind.f64.format.read b) = r at *
    clear HQ
    cases za : (Ieee.double.read a).isZero
    · rw [za] at e1
      clear hz e2 za
      go_enter Try.func20, Try.ntmps20
      go_wp2_with fail
      refine (hc _).mono ?_
      rintro e w1 ⟨rfl, rfl⟩
      clear hc
      go_wp2
      go_ret
      exact ⟨rfl, rfl⟩
    · have zb : (Ieee.double.read b).isZero = false := by
        cases h : (Ieee.double.read b).isZero
        · rfl
        · exact absurd ⟨za, h⟩ hz
      rw [za] at e1
      rw [zb] at e2
      clear hz za zb
      go_enter Try.func20, Try.ntmps20
      go_wp2_with fail
      refine (hc _).mono ?_
      rintro e w1 ⟨rfl, rfl⟩
      clear hc
      go_wp2
      go_ret
      exact ⟨rfl, rfl⟩

set_option maxRecDepth 100000 in
set_option maxHeartbeats 1600000 in
theorem upperM (b : Nat) (w : World) (hb : b < 18446744073709551616) :
    Calls Try.prog 60 #[.float .f64 b] w fun e w' => e = .returned (.int .i64 (if (Ieee.double.read b).neg then 0 else 1)) ∧ w' = w := by
  have hsb := fun w => signbit_any b w hb
  simp only [sgnb_neg hb] at hsb
  generalize (Ieee.double.read b).neg = s at *
  cases s
  all_goals
    go_enter Try.func60, Try.ntmps60
    go_wp2_with fail
    refine (hsb _).mono ?_
    rintro e w1 ⟨rfl, rfl⟩
    clear hsb
    go_wp2
    go_ret
    exact ⟨rfl, rfl⟩

set_option maxRecDepth 100000 in
set_option maxHeartbeats 1600000 in
theorem ordfM (a b : Nat) (w : World) (ha : a < 18446744073709551616) (hb : b < 18446744073709551616) :
    Calls Try.prog 22 #[.float .f64 a, .float .f64 b] w fun e w' => e = .returned (.int .i64 (ordD (Ieee.double.read a) (Ieee.double.read b))) ∧ w' = w := by
  have e1 : (FloatKind.f64.format.order a 0 == some .eq) = (Ieee.double.read a).isZero := order_nought _ _
  have e2 : (FloatKind.f64.format.order b 0 == some .eq) = (Ieee.double.read b).isZero := order_nought _ _
  by_cases hz : (Ieee.double.read a).isZero = true ∧ (Ieee.double.read b).isZero = true
  · obtain ⟨za, zb⟩ := hz
    rw [za] at e1
    rw [zb] at e2
    have ua := fun w => upperM a w ha
    have ub := fun w => upperM b w hb
    rw [ordD_zero za zb, ← cmp_ups]
    generalize (if (Ieee.double.read a).neg then (0 : Int) else 1) = p at *
    generalize (if (Ieee.double.read b).neg then (0 : Int) else 1) = q at *
    obtain ⟨r, hr⟩ : ∃ r : Int, r = if p < q then -1 else if q < p then 1 else 0 := ⟨_, rfl⟩
    have hc := fun w => cmpInt_any p q w
    rw [← hr] at hc ⊢
    clear za zb hr
    go_enter Try.func22, Try.ntmps22
    go_wp2_with fail
    refine (ua _).mono ?_
    rintro e w1 ⟨rfl, rfl⟩
    go_wp2_with fail
    refine (ub _).mono ?_
    rintro e w1 ⟨rfl, rfl⟩
    go_wp2_with fail
    refine (hc _).mono ?_
    rintro e w1 ⟨rfl, rfl⟩
    clear ua ub hc
    go_wp2
    go_ret
    exact ⟨rfl, rfl⟩
  · have hc := fun w => cmpfM a b w
    have HQ : HidF (cmpD (FloatKind.f64.format.read a) (FloatKind.f64.format.read b) = ordD (Ieee.double.read a) (Ieee.double.read b)) := ⟨ordD_eq hz⟩
    rw [← HQ.out]
    generalize cmpD (FloatKind.f64.format.read a) (FloatKind.f64.format.read b) = r at *
    clear HQ
    cases za : (Ieee.double.read a).isZero
    · rw [za] at e1
      clear hz e2 za
      go_enter Try.func22, Try.ntmps22
      go_wp2_with fail
      refine (hc _).mono ?_
      rintro e w1 ⟨rfl, rfl⟩
      clear hc
      go_wp2
      go_ret
      exact ⟨rfl, rfl⟩
    · have zb : (Ieee.double.read b).isZero = false := by
        cases h : (Ieee.double.read b).isZero
        · rfl
        · exact absurd ⟨za, h⟩ hz
      rw [za] at e1
      rw [zb] at e2
      clear hz za zb
      go_enter Try.func22, Try.ntmps22
      go_wp2_with fail
      refine (hc _).mono ?_
      rintro e w1 ⟨rfl, rfl⟩
      clear hc
      go_wp2
      go_ret
      exact ⟨rfl, rfl⟩

set_option maxRecDepth 100000 in
set_option maxHeartbeats 1600000 in
theorem upperS (b : Nat) (w : World) (hb : (Ieee.single.read b).isNaN = false) :
    Calls Try.prog 62 #[.float .f32 b] w fun e w' => e = .returned (.int .i64 (if (Ieee.single.read b).neg then 0 else 1)) ∧ w' = w := by
  have hcv : ∀ w, (convert 44 38 (.float .f32 b)).run Try.prog w = .ok (.float .f64 (cnv b)) w := fun w => run_convert_float_float _ _ _ _ _ _ _ (by kernel_rfl) Try.underlying38 (cnv_bits hb)
  have hsb := fun w => signbit_any (cnv b) w (cnv_lt b)
  simp only [cnv_neg hb] at hsb
  generalize (Ieee.single.read b).neg = s at *
  cases s
  all_goals
    go_enter Try.func62, Try.ntmps62
    go_wp2_with fail
    refine (hsb _).mono ?_
    rintro e w1 ⟨rfl, rfl⟩
    clear hsb
    go_wp2
    go_ret
    exact ⟨rfl, rfl⟩

set_option maxRecDepth 100000 in
set_option maxHeartbeats 1600000 in
theorem ordfS (a b : Nat) (w : World)  :
    Calls Try.prog 23 #[.float .f32 a, .float .f32 b] w fun e w' => e = .returned (.int .i64 (ordD (Ieee.single.read a) (Ieee.single.read b))) ∧ w' = w := by
  have e1 : (FloatKind.f32.format.order a 0 == some .eq) = (Ieee.single.read a).isZero := order_nought _ _
  have e2 : (FloatKind.f32.format.order b 0 == some .eq) = (Ieee.single.read b).isZero := order_nought _ _
  by_cases hz : (Ieee.single.read a).isZero = true ∧ (Ieee.single.read b).isZero = true
  · obtain ⟨za, zb⟩ := hz
    rw [za] at e1
    rw [zb] at e2
    have ua := fun w => upperS a w (nan_of_zero za)
    have ub := fun w => upperS b w (nan_of_zero zb)
    rw [ordD_zero za zb, ← cmp_ups]
    generalize (if (Ieee.single.read a).neg then (0 : Int) else 1) = p at *
    generalize (if (Ieee.single.read b).neg then (0 : Int) else 1) = q at *
    obtain ⟨r, hr⟩ : ∃ r : Int, r = if p < q then -1 else if q < p then 1 else 0 := ⟨_, rfl⟩
    have hc := fun w => cmpInt_any p q w
    rw [← hr] at hc ⊢
    clear za zb hr
    go_enter Try.func23, Try.ntmps23
    go_wp2_with fail
    refine (ua _).mono ?_
    rintro e w1 ⟨rfl, rfl⟩
    go_wp2_with fail
    refine (ub _).mono ?_
    rintro e w1 ⟨rfl, rfl⟩
    go_wp2_with fail
    refine (hc _).mono ?_
    rintro e w1 ⟨rfl, rfl⟩
    clear ua ub hc
    go_wp2
    go_ret
    exact ⟨rfl, rfl⟩
  · have hc := fun w => cmpfS a b w
    have HQ : HidF (cmpD (FloatKind.f32.format.read a) (FloatKind.f32.format.read b) = ordD (Ieee.single.read a) (Ieee.single.read b)) := ⟨ordD_eq hz⟩
    rw [← HQ.out]
    generalize cmpD (FloatKind.f32.format.read a) (FloatKind.f32.format.read b) = r at *
    clear HQ
    cases za : (Ieee.single.read a).isZero
    · rw [za] at e1
      clear hz e2 za
      go_enter Try.func23, Try.ntmps23
      go_wp2_with fail
      refine (hc _).mono ?_
      rintro e w1 ⟨rfl, rfl⟩
      clear hc
      go_wp2
      go_ret
      exact ⟨rfl, rfl⟩
    · have zb : (Ieee.single.read b).isZero = false := by
        cases h : (Ieee.single.read b).isZero
        · rfl
        · exact absurd ⟨za, h⟩ hz
      rw [za] at e1
      rw [zb] at e2
      clear hz za zb
      go_enter Try.func23, Try.ntmps23
      go_wp2_with fail
      refine (hc _).mono ?_
      rintro e w1 ⟨rfl, rfl⟩
      clear hc
      go_wp2
      go_ret
      exact ⟨rfl, rfl⟩

set_option maxRecDepth 100000 in
set_option maxHeartbeats 1600000 in
theorem upperH (b : Nat) (w : World) (hb : (Ieee.single.read b).isNaN = false) :
    Calls Try.prog 64 #[.float .f32 b] w fun e w' => e = .returned (.int .i64 (if (Ieee.single.read b).neg then 0 else 1)) ∧ w' = w := by
  have hcv : ∀ w, (convert 50 38 (.float .f32 b)).run Try.prog w = .ok (.float .f64 (cnv b)) w := fun w => run_convert_float_float _ _ _ _ _ _ _ (by kernel_rfl) Try.underlying38 (cnv_bits hb)
  have hsb := fun w => signbit_any (cnv b) w (cnv_lt b)
  simp only [cnv_neg hb] at hsb
  generalize (Ieee.single.read b).neg = s at *
  cases s
  all_goals
    go_enter Try.func64, Try.ntmps64
    go_wp2_with fail
    refine (hsb _).mono ?_
    rintro e w1 ⟨rfl, rfl⟩
    clear hsb
    go_wp2
    go_ret
    exact ⟨rfl, rfl⟩

set_option maxRecDepth 100000 in
set_option maxHeartbeats 1600000 in
theorem ordfH (a b : Nat) (w : World)  :
    Calls Try.prog 24 #[.float .f32 a, .float .f32 b] w fun e w' => e = .returned (.int .i64 (ordD (Ieee.single.read a) (Ieee.single.read b))) ∧ w' = w := by
  have e1 : (FloatKind.f32.format.order a 0 == some .eq) = (Ieee.single.read a).isZero := order_nought _ _
  have e2 : (FloatKind.f32.format.order b 0 == some .eq) = (Ieee.single.read b).isZero := order_nought _ _
  by_cases hz : (Ieee.single.read a).isZero = true ∧ (Ieee.single.read b).isZero = true
  · obtain ⟨za, zb⟩ := hz
    rw [za] at e1
    rw [zb] at e2
    have ua := fun w => upperH a w (nan_of_zero za)
    have ub := fun w => upperH b w (nan_of_zero zb)
    rw [ordD_zero za zb, ← cmp_ups]
    generalize (if (Ieee.single.read a).neg then (0 : Int) else 1) = p at *
    generalize (if (Ieee.single.read b).neg then (0 : Int) else 1) = q at *
    obtain ⟨r, hr⟩ : ∃ r : Int, r = if p < q then -1 else if q < p then 1 else 0 := ⟨_, rfl⟩
    have hc := fun w => cmpInt_any p q w
    rw [← hr] at hc ⊢
    clear za zb hr
    go_enter Try.func24, Try.ntmps24
    go_wp2_with fail
    refine (ua _).mono ?_
    rintro e w1 ⟨rfl, rfl⟩
    go_wp2_with fail
    refine (ub _).mono ?_
    rintro e w1 ⟨rfl, rfl⟩
    go_wp2_with fail
    refine (hc _).mono ?_
    rintro e w1 ⟨rfl, rfl⟩
    clear ua ub hc
    go_wp2
    go_ret
    exact ⟨rfl, rfl⟩
  · have hc := fun w => cmpfH a b w
    have HQ : HidF (cmpD (FloatKind.f32.format.read a) (FloatKind.f32.format.read b) = ordD (Ieee.single.read a) (Ieee.single.read b)) := ⟨ordD_eq hz⟩
    rw [← HQ.out]
    generalize cmpD (FloatKind.f32.format.read a) (FloatKind.f32.format.read b) = r at *
    clear HQ
    cases za : (Ieee.single.read a).isZero
    · rw [za] at e1
      clear hz e2 za
      go_enter Try.func24, Try.ntmps24
      go_wp2_with fail
      refine (hc _).mono ?_
      rintro e w1 ⟨rfl, rfl⟩
      clear hc
      go_wp2
      go_ret
      exact ⟨rfl, rfl⟩
    · have zb : (Ieee.single.read b).isZero = false := by
        cases h : (Ieee.single.read b).isZero
        · rfl
        · exact absurd ⟨za, h⟩ hz
      rw [za] at e1
      rw [zb] at e2
      clear hz za zb
      go_enter Try.func24, Try.ntmps24
      go_wp2_with fail
      refine (hc _).mono ?_
      rintro e w1 ⟨rfl, rfl⟩
      clear hc
      go_wp2
      go_ret
      exact ⟨rfl, rfl⟩
end Go.Proofs.Ytnlajeinegampaa
