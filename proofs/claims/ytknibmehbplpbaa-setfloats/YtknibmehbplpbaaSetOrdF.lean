/-
  Proved here: the order of floats as cmp.Compare has it is an order (what is no number is the least, noughts are the same).
-/
import Derived.Test.YtknibmehbplpbaaNearA
import Derived.Test.YtknibmehbplpbaaSortMath
namespace Go.Proofs.Ytknibmehbplpbaa
open Ieee
def cfF (x y : Nat) : Int := cmpD (FloatKind.f64.format.read x) (FloatKind.f64.format.read y)
/-- one datum is not above another -/
def dle (d e : Datum) : Prop := ¬ cmpD e d < 0
theorem cmpI_lt (x y : Int) : (match some (compare x y) with | some .lt => (-1 : Int) | some .gt => 1 | _ => 0) = if x < y then -1 else if y < x then 1 else 0 := by
  by_cases h : x < y
  · rw [Int.compare_eq_lt.2 h, if_pos h]
  · by_cases h2 : y < x
    · rw [Int.compare_eq_gt.2 h2, if_neg h, if_pos h2]
    · rw [Int.compare_eq_eq.2 (by omega), if_neg h, if_neg h2]
theorem cmpD_num {s t : Bool} {m n : Nat} {i j base : Int} (hi : base ≤ i) (hj : base ≤ j) :
    cmpD (.number s m i) (.number t n j) = if signed s m (i - base).toNat < signed t n (j - base).toNat then -1 else if signed t n (j - base).toNat < signed s m (i - base).toNat then 1 else 0 := by
  have h : (Datum.number s m i).order (.number t n j) = some (compare (signed s m (i - base).toNat) (signed t n (j - base).toNat)) := order_at hi hj
  have e : cmpD (.number s m i) (.number t n j) = (match (Datum.number s m i).order (.number t n j) with | some .lt => (-1 : Int) | some .gt => 1 | _ => 0) := rfl
  rw [e, h]
  exact cmpI_lt _ _
theorem cmpD_opp (d e : Datum) : cmpD d e = - cmpD e d := by
  cases d with
  | number s m i =>
    cases e with
    | number t n j =>
      rw [cmpD_num (base := min i j) (by omega) (by omega), cmpD_num (base := min i j) (by omega) (by omega)]
      generalize signed s m _ = x
      generalize signed t n _ = y
      by_cases h : x < y
      · have : ¬ y < x := by omega
        simp [h, this]
      · by_cases h2 : y < x <;> simp [h, h2]
    | infinity t => cases t <;> rfl
    | nan t u => rfl
  | infinity s =>
    cases e with
    | number t n j => cases s <;> rfl
    | infinity t => cases s <;> cases t <;> rfl
    | nan t u => rfl
  | nan s u =>
    cases e with
    | number t n j => rfl
    | infinity t => rfl
    | nan t u => rfl
theorem dle_total (d e : Datum) : dle d e ∨ dle e d := by
  unfold dle
  have := cmpD_opp d e
  omega
theorem dle_trans (d e f : Datum) (h1 : dle d e) (h2 : dle e f) : dle d f := by
  unfold dle at *
  rw [cmpD_opp] at h1 h2 ⊢
  cases d with
  | number s m i =>
    cases e with
    | number t n j =>
      cases f with
      | number u k l =>
        rw [cmpD_num (base := min i (min j l)) (by omega) (by omega)] at *
        generalize signed s m _ = x at *
        generalize signed t n _ = y at *
        generalize signed u k _ = z at *
        split at h1 <;> split at h2 <;> (try split at h1) <;> (try split at h2) <;> (try split) <;> (try split) <;> omega
      | infinity u => cases u <;> simp_all [cmpD, Datum.isNaN, Datum.order]
      | nan u v => simp_all [cmpD, Datum.isNaN, Datum.order]
    | infinity t => cases t <;> cases f with
      | number u k l => simp_all [cmpD, Datum.isNaN, Datum.order]
      | infinity u => cases u <;> simp_all [cmpD, Datum.isNaN, Datum.order] <;> simp_all (decide := true)
      | nan u v => simp_all [cmpD, Datum.isNaN, Datum.order]
    | nan t u => simp_all [cmpD, Datum.isNaN]
  | infinity s =>
    cases e with
    | number t n j => cases s <;> cases f with
      | number u k l => simp_all [cmpD, Datum.isNaN, Datum.order]
      | infinity u => cases u <;> simp_all [cmpD, Datum.isNaN, Datum.order] <;> simp_all (decide := true)
      | nan u v => simp_all [cmpD, Datum.isNaN, Datum.order]
    | infinity t => cases s <;> cases t <;> cases f with
      | number u k l => simp_all [cmpD, Datum.isNaN, Datum.order] <;> simp_all (decide := true)
      | infinity u => cases u <;> simp_all [cmpD, Datum.isNaN, Datum.order] <;> simp_all (decide := true)
      | nan u v => simp_all [cmpD, Datum.isNaN, Datum.order]
    | nan t u => simp_all [cmpD, Datum.isNaN]
  | nan s u => cases f <;> simp [cmpD, Datum.isNaN]
end Go.Proofs.Ytknibmehbplpbaa
