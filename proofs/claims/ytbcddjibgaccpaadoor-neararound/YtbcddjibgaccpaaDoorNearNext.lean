/-
  Proved here: what math's Nextafter answers of two neighbours; what IsInf answers of the infinities, by their side.
-/
import Derived.Test.YtbcddjibgaccpaaDoorNearAroundMAll
import Derived.Test.YtbcddjibgaccpaaDoorNearFAll
import Derived.WalkLawsBesides
namespace Go.Proofs.YtbcddjibgaccpaaDoor
open Go.RowKit
attribute [local go_sem] run_f64bits3 run_f64from5

set_option maxRecDepth 100000 in
set_option maxHeartbeats 1600000 in
theorem next_up (X Y Z : Nat) (w : World) (nx : ∀ w, Calls Tryd.prog 22 #[.float .f64 X] w fun e w' => e = .returned (.bool false) ∧ w' = w) (ny : ∀ w, Calls Tryd.prog 22 #[.float .f64 Y] w fun e w' => e = .returned (.bool false) ∧ w' = w)
    (h1 : (FloatKind.f64.format.order X Y == some .eq) = false) (h2 : (FloatKind.f64.format.order X 0 == some .eq) = false) (h3 : (FloatKind.f64.format.order Y X == some .gt) = true) (h4 : (FloatKind.f64.format.order X 0 == some .gt) = true) (hw : IntKind.u64.wrap ((X : Int) + 1) = (Z : Int)) :
    Calls Tryd.prog 8 #[.float .f64 X, .float .f64 Y] w fun e w' => e = .returned (.float .f64 Z) ∧ w' = w := by
  go_enter Tryd.func8, Tryd.ntmps8
  go_wp2_with fail
  refine (nx _).mono ?_
  rintro e w2 ⟨rfl, rfl⟩
  go_wp2_with fail
  refine (ny _).mono ?_
  rintro e w3 ⟨rfl, rfl⟩
  go_wp2
  go_ret
  exact ⟨rfl, rfl⟩
set_option maxRecDepth 100000 in
set_option maxHeartbeats 1600000 in
theorem next_dn (X Y Z : Nat) (w : World) (nx : ∀ w, Calls Tryd.prog 22 #[.float .f64 X] w fun e w' => e = .returned (.bool false) ∧ w' = w) (ny : ∀ w, Calls Tryd.prog 22 #[.float .f64 Y] w fun e w' => e = .returned (.bool false) ∧ w' = w)
    (h1 : (FloatKind.f64.format.order X Y == some .eq) = false) (h2 : (FloatKind.f64.format.order X 0 == some .eq) = false) (h3 : (FloatKind.f64.format.order Y X == some .gt) = true) (h4 : (FloatKind.f64.format.order X 0 == some .gt) = false) (hw : IntKind.u64.wrap ((X : Int) - 1) = (Z : Int)) :
    Calls Tryd.prog 8 #[.float .f64 X, .float .f64 Y] w fun e w' => e = .returned (.float .f64 Z) ∧ w' = w := by
  go_enter Tryd.func8, Tryd.ntmps8
  go_wp2_with fail
  refine (nx _).mono ?_
  rintro e w2 ⟨rfl, rfl⟩
  go_wp2_with fail
  refine (ny _).mono ?_
  rintro e w3 ⟨rfl, rfl⟩
  go_wp2
  go_ret
  exact ⟨rfl, rfl⟩
set_option maxRecDepth 100000 in
set_option maxHeartbeats 1600000 in
theorem sign_one (w : World) : Calls Tryd.prog 24 #[.float .f64 1, .float .f64 1] w fun e w' => e = .returned (.float .f64 1) ∧ w' = w := by
  have e1 : bits .andNot .u64 1 9223372036854775808 = 1 := by decide
  have e2 : bits .and .u64 1 9223372036854775808 = 0 := by decide
  have e3 : bits .or .u64 1 0 = 1 := by decide
  have hfb : ∀ w, (callFunc 19 #[.int .u64 1]).run Tryd.prog w = .ok (.value (.float .f64 1)) w := fun w => run_f64from5 1 w
  go_enter Tryd.func24, Tryd.ntmps24
  go_wp2
  go_ret
  exact ⟨rfl, rfl⟩
set_option maxRecDepth 100000 in
set_option maxHeartbeats 1600000 in
theorem next_one (w : World) : Calls Tryd.prog 8 #[.float .f64 0, .float .f64 1] w fun e w' => e = .returned (.float .f64 1) ∧ w' = w := by
  have nx : ∀ w, Calls Tryd.prog 22 #[.float .f64 0] w fun e w' => e = .returned (.bool false) ∧ w' = w := fun w => isNaN64 0 w
  have ny : ∀ w, Calls Tryd.prog 22 #[.float .f64 1] w fun e w' => e = .returned (.bool false) ∧ w' = w := fun w => isNaN64 1 w
  have h1 : (FloatKind.f64.format.order 0 1 == some .eq) = false := by decide
  have h2 : (FloatKind.f64.format.order 0 0 == some .eq) = true := by decide
  have hfb : ∀ w, (callFunc 19 #[.int .u64 1]).run Tryd.prog w = .ok (.value (.float .f64 1)) w := fun w => run_f64from5 1 w
  go_enter Tryd.func8, Tryd.ntmps8
  go_wp2_with fail
  refine (nx _).mono ?_
  rintro e w2 ⟨rfl, rfl⟩
  go_wp2_with fail
  refine (ny _).mono ?_
  rintro e w3 ⟨rfl, rfl⟩
  go_wp2_with fail
  refine (sign_one _).mono ?_
  rintro e w4 ⟨rfl, rfl⟩
  go_wp2
  go_ret
  exact ⟨rfl, rfl⟩
set_option maxRecDepth 100000 in
set_option maxHeartbeats 1600000 in
theorem isInf_up (w : World) : Calls Tryd.prog 11 #[.float .f64 9218868437227405312, .int .i64 1] w fun e w' => e = .returned (.bool true) ∧ w' = w := by
  have h1 : (FloatKind.f64.format.order 9218868437227405312 9218868437227405311 == some .gt) = true := by decide
  go_enter Tryd.func11, Tryd.ntmps11
  go_wp2
  go_ret
  exact ⟨rfl, rfl⟩
set_option maxRecDepth 100000 in
set_option maxHeartbeats 1600000 in
theorem isInf_dn (w : World) : Calls Tryd.prog 11 #[.float .f64 18442240474082181120, .int .i64 (-1)] w fun e w' => e = .returned (.bool true) ∧ w' = w := by
  have h1 : (FloatKind.f64.format.order 9218868437227405312 9218868437227405311 == some .gt) = true := by decide
  have hng : ∀ w, (Op.unary .neg (.float .f64 18442240474082181120)).run Tryd.prog w = .ok (.float .f64 9218868437227405312) w := fun _ => rfl
  go_enter Tryd.func11, Tryd.ntmps11
  go_wp2
  go_ret
  exact ⟨rfl, rfl⟩

theorem Fv.nan {X : Nat} {x : Int} (h : Fv X x) : ∀ w, Calls Tryd.prog 22 #[.float .f64 X] w fun e w' => e = .returned (.bool false) ∧ w' = w := fun w => by
  have h2 := isNaN64 X w
  rw [nan_word, decide_eq_false (Nat.not_lt_of_le h.2.2)] at h2
  exact h2
theorem Fv.eq {X Y : Nat} {x y : Int} (hX : Fv X x) (hY : Fv Y y) : (FloatKind.f64.format.order X Y == some .eq) = decide (x = y) := by
  have h1 := hX.ne hY
  have h2 : (FloatKind.f64.format.order X Y == some .eq) = !(FloatKind.f64.format.order X Y != some .eq) := (Bool.not_not _).symm
  rw [h2, h1, Bool.not_not]
theorem Fv.gt {X Y : Nat} {x y : Int} (hX : Fv X x) (hY : Fv Y y) : (FloatKind.f64.format.order X Y == some .gt) = decide (y < x) := by
  have h1 : FloatKind.f64.format.order X Y = some (compare (fv X) (fv Y)) := order_fvb hX.2.1 hY.2.1 hX.2.2 hY.2.2
  have e2 : ∀ x y : Int, compare x y = if x < y then .lt else if x = y then .eq else .gt := fun _ _ => rfl
  rw [h1, hX.1, hY.1, e2]
  by_cases h : x < y
  · rw [if_pos h, decide_eq_false (by omega)]; rfl
  · rw [if_neg h]
    by_cases h2 : x = y
    · rw [if_pos h2, decide_eq_false (by omega)]; rfl
    · rw [if_neg h2, decide_eq_true (by omega)]; rfl
theorem fv_nought : Fv 0 0 := ⟨by decide, by decide, by decide⟩

/-- Of two neighbours around a fraction, the one behind the first is the second. -/
theorem next_any (s : Bool) (fa : Nat) (h : fa + 1 ≤ 9218868437227405312) : ∃ Z, (∀ w, Calls Tryd.prog 8 #[.float .f64 (arLo s fa (fa + 1)), .float .f64 (arHi s fa (fa + 1))] w fun e w' => e = .returned (.float .f64 Z) ∧ w' = w) ∧ (FloatKind.f64.format.order Z (arHi s fa (fa + 1)) != some .eq) = false := by
  have fl : Fv (arLo s fa (fa + 1)) _ := fv_lo (by omega) h
  have fh : Fv (arHi s fa (fa + 1)) _ := fv_hi (by omega) h
  have hm := fval_mono 52 (show fa < fa + 1 by omega)
  have p1 : 0 < fval 52 (fa + 1) := by omega
  obtain ⟨x, hx⟩ : ∃ x, x = fval 52 fa := ⟨_, rfl⟩
  obtain ⟨y, hy⟩ : ∃ x, x = fval 52 (fa + 1) := ⟨_, rfl⟩
  rw [← hx, ← hy] at hm fl fh
  rw [← hy] at p1
  cases s
  · have fl : Fv (arLo false fa (fa + 1)) (x : Int) := fl
    have fh : Fv (arHi false fa (fa + 1)) (y : Int) := fh
    refine ⟨fa + 1, fun w => ?_, ?_⟩
    · by_cases h0 : fa = 0
      · subst h0
        exact next_one w
      · have hx0 : 0 < x := by rw [hx]; exact Nat.lt_of_le_of_lt (Nat.zero_le _) (fval_mono 52 (Nat.pos_of_ne_zero h0))
        refine next_up _ _ _ w fl.nan fh.nan ?_ ?_ ?_ ?_ ?_
        · rw [fl.eq fh, decide_eq_false (by omega)]
        · rw [fl.eq fv_nought, decide_eq_false (by omega)]
        · rw [fh.gt fl, decide_eq_true (by omega)]
        · rw [fl.gt fv_nought, decide_eq_true (by omega)]
        · show IntKind.u64.wrap ((fa : Int) + 1) = ((fa + 1 : Nat) : Int)
          rw [IntKind.wrap_u64]; omega
    · show (FloatKind.f64.format.order (arHi false fa (fa + 1)) (arHi false fa (fa + 1)) != some .eq) = false
      rw [fh.ne fh, decide_eq_true rfl]; rfl
  · have fl : Fv (arLo true fa (fa + 1)) (-(y : Int)) := fl
    have fh : Fv (arHi true fa (fa + 1)) (-(x : Int)) := fh
    refine ⟨2 ^ 63 + fa, fun w => ?_, ?_⟩
    · refine next_dn _ _ _ w fl.nan fh.nan ?_ ?_ ?_ ?_ ?_
      · rw [fl.eq fh, decide_eq_false (by omega)]
      · rw [fl.eq fv_nought, decide_eq_false (by omega)]
      · rw [fh.gt fl, decide_eq_true (by omega)]
      · rw [fl.gt fv_nought, decide_eq_false (by omega)]
      · show IntKind.u64.wrap (((2 ^ 63 + (fa + 1) : Nat) : Int) - 1) = ((2 ^ 63 + fa : Nat) : Int)
        rw [IntKind.wrap_u64]; omega
    · have fz : Fv (2 ^ 63 + fa) (-(x : Int)) := by
        have h2 := fv_lo (s := true) (b := fa) (c := fa) (by omega) (by omega)
        rw [← hx] at h2
        exact h2
      rw [fz.ne fh, decide_eq_true rfl]; rfl
end Go.Proofs.YtbcddjibgaccpaaDoor
