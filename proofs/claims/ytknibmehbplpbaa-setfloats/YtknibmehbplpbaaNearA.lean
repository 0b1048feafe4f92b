/-
  Proved here: what Order of package near and the plain way's Order answer, of floats of every kind.
-/
import Derived.Test.YtknibmehbplpbaaFloatMath
import Derived.Test.YtknibmehbplpbaaChecked
import Derived.WalkLawsBesides
import Derived.WalkKit
import Derived.Laws.Externs
namespace Go.Proofs.Ytknibmehbplpbaa
open Go.RowKit

/-- A fact that the walk does not see. -/
structure HidF (p : Prop) : Prop where
  out : p

/-- How two data stand to each other, noughts alike. -/
def cmpD (d e : Ieee.Datum) : Int :=
  if d.isNaN then (if e.isNaN then 0 else -1) else if e.isNaN then 1 else
  match d.order e with
  | some .lt => -1
  | some .gt => 1
  | _ => 0

theorem ordD_eq {d e : Ieee.Datum} (h : ¬ (d.isZero = true ∧ e.isZero = true)) : cmpD d e = ordD d e := by
  unfold cmpD ordD
  by_cases h1 : d.isNaN = true
  · simp [h1]
  · by_cases h2 : e.isNaN = true
    · simp [h1, h2]
    · simp only [h1, h2]
      cases ho : d.order e with
      | none => cases d <;> cases e <;> simp_all [Ieee.Datum.order, Ieee.Datum.isNaN]
      | some o => cases o with
        | lt => rfl
        | gt => rfl
        | eq => simp [order_eq_neg ho h]

theorem ordD_zero {d e : Ieee.Datum} (h1 : d.isZero = true) (h2 : e.isZero = true) : ordD d e = if d.neg = e.neg then 0 else if d.neg then -1 else 1 := by
  unfold ordD
  have n1 : d.isNaN = false := by cases d <;> simp_all [Ieee.Datum.isZero, Ieee.Datum.isNaN]
  have n2 : e.isNaN = false := by cases e <;> simp_all [Ieee.Datum.isZero, Ieee.Datum.isNaN]
  rw [n1, n2]
  have ho : d.order e = some .eq := by
    cases d with
    | number s m i =>
      have hm : m = 0 := by unfold Ieee.Datum.isZero at h1; split at h1 <;> simp_all
      cases e with
      | number t n j =>
        have hn : n = 0 := by unfold Ieee.Datum.isZero at h2; split at h2 <;> simp_all
        subst hm; subst hn
        show some (compare (Ieee.signed s 0 _) (Ieee.signed t 0 _)) = some .eq
        rw [signed_val, signed_val]
        cases s <;> cases t <;> simp
      | infinity t => simp [Ieee.Datum.isZero] at h2
      | nan t u => simp [Ieee.Datum.isZero] at h2
    | infinity t => simp [Ieee.Datum.isZero] at h1
    | nan t u => simp [Ieee.Datum.isZero] at h1
  rw [ho]
  rfl

def ordI : Ordering → Int
  | .lt => -1
  | .eq => 0
  | .gt => 1
theorem cmpD_of {d e : Ieee.Datum} {q : Ordering} (h1 : d.isNaN = false) (h2 : e.isNaN = false) (h3 : d.order e = some q) : cmpD d e = ordI q := by
  unfold cmpD
  rw [h1, h2, h3]
  cases q <;> rfl

/-- The sign bit of a word. -/
def sgnb (b : Nat) : Bool := decide (2 ^ 63 ≤ b)

@[local go_sem] theorem run_f64bits (b : Nat) (w : World) : (callFunc 75 #[.float .f64 b]).run Try.prog w = .ok (.value (.int .u64 (b : Int))) w := by
  rw [run_callFunc_extern Try.func75 (by kernel_rfl) (by kernel_rfl) (by kernel_rfl) (e := Extern.MathFloatBits.float64bits) (by kernel_rfl)]
  rfl

set_option maxRecDepth 100000 in
set_option maxHeartbeats 1600000 in
theorem cmpInt_any (x y : Int) (w : World) :
    Calls Try.prog 37 #[.int .i64 x, .int .i64 y] w fun e w' => e = .returned (.int .i64 (if x < y then -1 else if y < x then 1 else 0)) ∧ w' = w := by
  have hn : ∀ (z : Int) (w : World), Calls Try.prog 64 #[.int .i64 z] w fun e w' => e = .returned (.bool false) ∧ w' = w := by
    intro z w
    have hz : (z != z) = false := by simp
    go_enter Try.func64, Try.ntmps64
    go_wp2
    go_ret
    exact ⟨rfl, rfl⟩
  obtain ⟨r, hr⟩ : ∃ r : Int, r = if x < y then -1 else if y < x then 1 else 0 := ⟨_, rfl⟩
  rw [← hr]
  have HR : HidF (r = if x < y then -1 else if y < x then 1 else 0) := ⟨hr⟩
  clear hr
  go_enter Try.func37, Try.ntmps37
  go_wp2_with fail
  refine (hn _ _).mono ?_
  rintro e w1 ⟨rfl, rfl⟩
  go_wp2_with fail
  refine (hn _ _).mono ?_
  rintro e w2 ⟨rfl, rfl⟩
  clear hn
  by_cases h1 : x < y
  · have HE : HidF ((.returned (.int .i64 (-1)) : Ending) = .returned (.int .i64 r)) := ⟨by rw [HR.out, if_pos h1]⟩
    go_wp2
    go_ret
    exact ⟨HE.out, rfl⟩
  · by_cases h2 : y < x
    · have HE : HidF ((.returned (.int .i64 1) : Ending) = .returned (.int .i64 r)) := ⟨by rw [HR.out, if_neg h1, if_pos h2]⟩
      go_wp2
      go_ret
      exact ⟨HE.out, rfl⟩
    · have HE : HidF ((.returned (.int .i64 0) : Ending) = .returned (.int .i64 r)) := ⟨by rw [HR.out, if_neg h1, if_neg h2]⟩
      go_wp2
      go_ret
      exact ⟨HE.out, rfl⟩

theorem isNaND (b : Nat) (w : World) :
    Calls Try.prog 74 #[.float .f64 b] w fun e w' => e = .returned (.bool (FloatKind.f64.format.read b).isNaN) ∧ w' = w := by
  have hz : (FloatKind.f64.format.order b b != some .eq) = (FloatKind.f64.format.read b).isNaN := order_self _
  go_enter Try.func74, Try.ntmps74
  go_wp2
  go_ret
  exact ⟨rfl, rfl⟩

set_option maxRecDepth 100000 in
set_option maxHeartbeats 3200000 in
theorem cmpfD (a b : Nat) (w : World) :
    Calls Try.prog 55 #[.float .f64 a, .float .f64 b] w fun e w' => e = .returned (.int .i64 (cmpD (FloatKind.f64.format.read a) (FloatKind.f64.format.read b))) ∧ w' = w := by
  obtain ⟨r, hr⟩ : ∃ r, r = cmpD (FloatKind.f64.format.read a) (FloatKind.f64.format.read b) := ⟨_, rfl⟩
  rw [← hr]
  have ho : FloatKind.f64.format.order a b = (FloatKind.f64.format.read a).order (FloatKind.f64.format.read b) := rfl
  have hA := isNaND a
  have hB := isNaND b
  generalize FloatKind.f64.format.read a = d at *
  generalize FloatKind.f64.format.read b = f at *
  have HR : HidF (r = cmpD d f) := ⟨hr⟩
  have HO : HidF (FloatKind.f64.format.order a b = d.order f) := ⟨ho⟩
  clear hr ho
  go_enter Try.func55, Try.ntmps55
  go_wp2_with fail
  refine (hA _).mono ?_
  rintro e w1 ⟨rfl, rfl⟩
  go_wp2_with fail
  refine (hB _).mono ?_
  rintro e w2 ⟨rfl, rfl⟩
  clear hA hB
  cases h1 : d.isNaN
  · cases h2 : f.isNaN
    · cases h3 : d.order f with
      | none => cases d <;> cases f <;> simp_all [Ieee.Datum.order, Ieee.Datum.isNaN]
      | some q =>
        have ho := HO.out
        rw [h3] at ho
        have HE : HidF (r = ordI q) := ⟨by rw [HR.out]; exact cmpD_of h1 h2 h3⟩
        clear h1 h2 h3 HO HR
        cases q with
        | lt =>
          have HX : HidF ((.returned (.int .i64 (-1)) : Ending) = .returned (.int .i64 r)) := ⟨by rw [HE.out]; rfl⟩
          clear HE
          go_wp2
          go_ret
          exact ⟨HX.out, rfl⟩
        | eq =>
          have HX : HidF ((.returned (.int .i64 0) : Ending) = .returned (.int .i64 r)) := ⟨by rw [HE.out]; rfl⟩
          clear HE
          go_wp2
          go_ret
          exact ⟨HX.out, rfl⟩
        | gt =>
          have HX : HidF ((.returned (.int .i64 1) : Ending) = .returned (.int .i64 r)) := ⟨by rw [HE.out]; rfl⟩
          clear HE
          go_wp2
          go_ret
          exact ⟨HX.out, rfl⟩
    · have HX : HidF ((.returned (.int .i64 1) : Ending) = .returned (.int .i64 r)) := ⟨by rw [HR.out]; unfold cmpD; rw [h1, h2]; rfl⟩
      clear h1 h2 HO HR
      go_wp2
      go_ret
      exact ⟨HX.out, rfl⟩
  · cases h2 : f.isNaN
    · have HX : HidF ((.returned (.int .i64 (-1)) : Ending) = .returned (.int .i64 r)) := ⟨by rw [HR.out]; unfold cmpD; rw [h1, h2]; rfl⟩
      clear h1 h2 HO HR
      go_wp2
      go_ret
      exact ⟨HX.out, rfl⟩
    · have HX : HidF ((.returned (.int .i64 0) : Ending) = .returned (.int .i64 r)) := ⟨by rw [HR.out]; unfold cmpD; rw [h1, h2]; rfl⟩
      clear h1 h2 HO HR
      go_wp2
      go_ret
      exact ⟨HX.out, rfl⟩

end Go.Proofs.Ytknibmehbplpbaa
