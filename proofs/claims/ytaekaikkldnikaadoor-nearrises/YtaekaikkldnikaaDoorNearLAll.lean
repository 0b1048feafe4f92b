/-
  Proved here: what Order of package near and the plain way's Order answer, of floats of every kind.
  Proved here: what lead, share, under, sided and the nearest of package near answer.
-/
import Derived.Test.YtaekaikkldnikaaDoorFloatMath
import Derived.Test.YtaekaikkldnikaaDoorChecked
import Derived.WalkLawsBesides
import Derived.WalkKit
import Derived.Laws.Externs
import Derived.Test.YtaekaikkldnikaaDoorNearKAll
import Derived.Test.YtaekaikkldnikaaDoorLate
namespace Go.Proofs.YtaekaikkldnikaaDoor
open Go.RowKit

/-- A fact that the walk does not see. -/
structure HidF (p : Prop) : Prop where
  out : p

/-- How two data stand to each other, noughts alike. -/
def cmpD (d e : Ieee.Datum) : Int :=
  if d.isNaN then (if e.isNaN then 0 else -1) else if e.isNaN then 1 else
  match d.order e with
  | some .lt => -1
  | some .gt => 1
  | _ => 0

theorem ordD_eq {d e : Ieee.Datum} (h : ¬ (d.isZero = true ∧ e.isZero = true)) : cmpD d e = ordD d e := by
  unfold cmpD ordD
  by_cases h1 : d.isNaN = true
  · simp [h1]
  · by_cases h2 : e.isNaN = true
    · simp [h1, h2]
    · simp only [h1, h2]
      cases ho : d.order e with
      | none => cases d <;> cases e <;> simp_all [Ieee.Datum.order, Ieee.Datum.isNaN]
      | some o => cases o with
        | lt => rfl
        | gt => rfl
        | eq => simp [order_eq_neg ho h]

theorem ordD_zero {d e : Ieee.Datum} (h1 : d.isZero = true) (h2 : e.isZero = true) : ordD d e = if d.neg = e.neg then 0 else if d.neg then -1 else 1 := by
  unfold ordD
  have n1 : d.isNaN = false := by cases d <;> simp_all [Ieee.Datum.isZero, Ieee.Datum.isNaN]
  have n2 : e.isNaN = false := by cases e <;> simp_all [Ieee.Datum.isZero, Ieee.Datum.isNaN]
  rw [n1, n2]
  have ho : d.order e = some .eq := by
    cases d with
    | number s m i =>
      have hm : m = 0 := by unfold Ieee.Datum.isZero at h1; split at h1 <;> simp_all
      cases e with
      | number t n j =>
        have hn : n = 0 := by unfold Ieee.Datum.isZero at h2; split at h2 <;> simp_all
        subst hm; subst hn
        show some (compare (Ieee.signed s 0 _) (Ieee.signed t 0 _)) = some .eq
        rw [signed_val, signed_val]
        cases s <;> cases t <;> simp
      | infinity t => simp [Ieee.Datum.isZero] at h2
      | nan t u => simp [Ieee.Datum.isZero] at h2
    | infinity t => simp [Ieee.Datum.isZero] at h1
    | nan t u => simp [Ieee.Datum.isZero] at h1
  rw [ho]
  rfl

def ordI : Ordering → Int
  | .lt => -1
  | .eq => 0
  | .gt => 1
theorem cmpD_of {d e : Ieee.Datum} {q : Ordering} (h1 : d.isNaN = false) (h2 : e.isNaN = false) (h3 : d.order e = some q) : cmpD d e = ordI q := by
  unfold cmpD
  rw [h1, h2, h3]
  cases q <;> rfl

/-- The sign bit of a word. -/
def sgnb (b : Nat) : Bool := decide (2 ^ 63 ≤ b)

@[local go_sem] theorem run_f64bits (b : Nat) (w : World) : (callFunc 23 #[.float .f64 b]).run Tryd.prog w = .ok (.value (.int .u64 (b : Int))) w := by
  rw [run_callFunc_extern Tryd.func23 (by kernel_rfl) (by kernel_rfl) (by kernel_rfl) (e := Extern.MathFloatBits.float64bits) (by kernel_rfl)]
  rfl

set_option maxRecDepth 100000 in
set_option maxHeartbeats 1600000 in
theorem signbit_any (b : Nat) (w : World) (hb : b < 18446744073709551616) :
    Calls Tryd.prog 11 #[.float .f64 b] w fun e w' => e = .returned (.bool (sgnb b)) ∧ w' = w := by
  have hx : (b : Int) < 18446744073709551616 := by omega
  go_enter Tryd.func11, Tryd.ntmps11
  go_wp2
  have hs : decide (wrap64 (b : Int) < 0) = sgnb b := by
    unfold sgnb wrap64
    simp only [decide_eq_decide]
    omega
  rw [hs]
  go_ret
  exact ⟨rfl, rfl⟩

set_option maxRecDepth 100000 in
set_option maxHeartbeats 1600000 in
theorem cmpInt_any (x y : Int) (w : World) :
    Calls Tryd.prog 42 #[.int .i64 x, .int .i64 y] w fun e w' => e = .returned (.int .i64 (if x < y then -1 else if y < x then 1 else 0)) ∧ w' = w := by
  have hn : ∀ (z : Int) (w : World), Calls Tryd.prog 62 #[.int .i64 z] w fun e w' => e = .returned (.bool false) ∧ w' = w := by
    intro z w
    have hz : (z != z) = false := by simp
    go_enter Tryd.func62, Tryd.ntmps62
    go_wp2
    go_ret
    exact ⟨rfl, rfl⟩
  obtain ⟨r, hr⟩ : ∃ r : Int, r = if x < y then -1 else if y < x then 1 else 0 := ⟨_, rfl⟩
  rw [← hr]
  have HR : HidF (r = if x < y then -1 else if y < x then 1 else 0) := ⟨hr⟩
  clear hr
  go_enter Tryd.func42, Tryd.ntmps42
  go_wp2_with fail
  refine (hn _ _).mono ?_
  rintro e w1 ⟨rfl, rfl⟩
  go_wp2_with fail
  refine (hn _ _).mono ?_
  rintro e w2 ⟨rfl, rfl⟩
  clear hn
  by_cases h1 : x < y
  · have HE : HidF ((.returned (.int .i64 (-1)) : Ending) = .returned (.int .i64 r)) := ⟨by rw [HR.out, if_pos h1]⟩
    go_wp2
    go_ret
    exact ⟨HE.out, rfl⟩
  · by_cases h2 : y < x
    · have HE : HidF ((.returned (.int .i64 1) : Ending) = .returned (.int .i64 r)) := ⟨by rw [HR.out, if_neg h1, if_pos h2]⟩
      go_wp2
      go_ret
      exact ⟨HE.out, rfl⟩
    · have HE : HidF ((.returned (.int .i64 0) : Ending) = .returned (.int .i64 r)) := ⟨by rw [HR.out, if_neg h1, if_neg h2]⟩
      go_wp2
      go_ret
      exact ⟨HE.out, rfl⟩

theorem isNaND (b : Nat) (w : World) :
    Calls Tryd.prog 63 #[.float .f64 b] w fun e w' => e = .returned (.bool (FloatKind.f64.format.read b).isNaN) ∧ w' = w := by
  have hz : (FloatKind.f64.format.order b b != some .eq) = (FloatKind.f64.format.read b).isNaN := order_self _
  go_enter Tryd.func63, Tryd.ntmps63
  go_wp2
  go_ret
  exact ⟨rfl, rfl⟩

set_option maxRecDepth 100000 in
set_option maxHeartbeats 3200000 in
theorem cmpfD (a b : Nat) (w : World) :
    Calls Tryd.prog 44 #[.float .f64 a, .float .f64 b] w fun e w' => e = .returned (.int .i64 (cmpD (FloatKind.f64.format.read a) (FloatKind.f64.format.read b))) ∧ w' = w := by
  obtain ⟨r, hr⟩ : ∃ r, r = cmpD (FloatKind.f64.format.read a) (FloatKind.f64.format.read b) := ⟨_, rfl⟩
  rw [← hr]
  have ho : FloatKind.f64.format.order a b = (FloatKind.f64.format.read a).order (FloatKind.f64.format.read b) := rfl
  have hA := isNaND a
  have hB := isNaND b
  generalize FloatKind.f64.format.read a = d at *
  generalize FloatKind.f64.format.read b = f at *
  have HR : HidF (r = cmpD d f) := ⟨hr⟩
  have HO : HidF (FloatKind.f64.format.order a b = d.order f) := ⟨ho⟩
  clear hr ho
  go_enter Tryd.func44, Tryd.ntmps44
  go_wp2_with fail
  refine (hA _).mono ?_
  rintro e w1 ⟨rfl, rfl⟩
  go_wp2_with fail
  refine (hB _).mono ?_
  rintro e w2 ⟨rfl, rfl⟩
  clear hA hB
  cases h1 : d.isNaN
  · cases h2 : f.isNaN
    · cases h3 : d.order f with
      | none => cases d <;> cases f <;> simp_all [Ieee.Datum.order, Ieee.Datum.isNaN]
      | some q =>
        have ho := HO.out
        rw [h3] at ho
        have HE : HidF (r = ordI q) := ⟨by rw [HR.out]; exact cmpD_of h1 h2 h3⟩
        clear h1 h2 h3 HO HR
        cases q with
        | lt =>
          have HX : HidF ((.returned (.int .i64 (-1)) : Ending) = .returned (.int .i64 r)) := ⟨by rw [HE.out]; rfl⟩
          clear HE
          go_wp2
          go_ret
          exact ⟨HX.out, rfl⟩
        | eq =>
          have HX : HidF ((.returned (.int .i64 0) : Ending) = .returned (.int .i64 r)) := ⟨by rw [HE.out]; rfl⟩
          clear HE
          go_wp2
          go_ret
          exact ⟨HX.out, rfl⟩
        | gt =>
          have HX : HidF ((.returned (.int .i64 1) : Ending) = .returned (.int .i64 r)) := ⟨by rw [HE.out]; rfl⟩
          clear HE
          go_wp2
          go_ret
          exact ⟨HX.out, rfl⟩
    · have HX : HidF ((.returned (.int .i64 1) : Ending) = .returned (.int .i64 r)) := ⟨by rw [HR.out]; unfold cmpD; rw [h1, h2]; rfl⟩
      clear h1 h2 HO HR
      go_wp2
      go_ret
      exact ⟨HX.out, rfl⟩
  · cases h2 : f.isNaN
    · have HX : HidF ((.returned (.int .i64 (-1)) : Ending) = .returned (.int .i64 r)) := ⟨by rw [HR.out]; unfold cmpD; rw [h1, h2]; rfl⟩
      clear h1 h2 HO HR
      go_wp2
      go_ret
      exact ⟨HX.out, rfl⟩
    · have HX : HidF ((.returned (.int .i64 0) : Ending) = .returned (.int .i64 r)) := ⟨by rw [HR.out]; unfold cmpD; rw [h1, h2]; rfl⟩
      clear h1 h2 HO HR
      go_wp2
      go_ret
      exact ⟨HX.out, rfl⟩

end Go.Proofs.YtaekaikkldnikaaDoor

namespace Go.Proofs.YtaekaikkldnikaaDoor
open Go.RowKit

theorem bl_k {xs : List Nat} {k : Nat} (h : limbs xs) (hk : xs.length ≤ k) : bl (val xs) ≤ 32 * k := by
  by_cases h0 : val xs = 0
  · rw [h0, show bl 0 = 0 by decide]; omega
  · obtain ⟨m, e, h3, h4⟩ := bl_bounds h0
    have h5 := val_lt h
    have h6 : (4294967296 : Nat) ^ xs.length = 2 ^ (32 * xs.length) := by rw [Nat.pow_mul]
    rw [h6] at h5
    have := (Nat.pow_lt_pow_iff_right (by decide : 1 < 2)).1 (Nat.lt_of_le_of_lt h3 h5)
    omega

set_option maxRecDepth 100000 in
set_option maxHeartbeats 1600000 in
theorem lead_any (u v : Value) (xs ys : List Nat) (w : World) (hu : Num w u xs) (hv : Num w v ys) (lx : xs.length ≤ 8000) (ly : ys.length ≤ 8000) :
    Calls Tryd.prog 74 #[u, v] w fun e w' => e = .returned (.int .i64 (leadF (val xs) (val ys))) ∧ Below w.heap.size w w' := by
  have h1 := bl_k hu.1 lx
  have h2 := bl_k hv.1 ly
  have hle : ∀ g : Int, g = (bl (val xs) : Int) - (bl (val ys) : Int) → leadF (val xs) (val ys) = if up (val xs) (-g) < up (val ys) g then g - 1 else g := fun g e => by unfold leadF; rw [e]
  obtain ⟨g, hg⟩ : ∃ g : Int, g = (bl (val xs) : Int) - (bl (val ys) : Int) := ⟨_, rfl⟩
  have HLE : Hid (leadF (val xs) (val ys) = if up (val xs) (-g) < up (val ys) g then g - 1 else g) := hle g hg
  have b1 := fun w h => bits_any u xs w h (by omega)
  have b2 := fun w h => bits_any v ys w h (by omega)
  obtain ⟨p, hp⟩ : ∃ p, p = bl (val xs) := ⟨_, rfl⟩
  obtain ⟨q, hq⟩ : ∃ p, p = bl (val ys) := ⟨_, rfl⟩
  rw [← hp] at b1 hg h1
  rw [← hq] at b2 hg h2
  have hg' : (p : Int) - (q : Int) = g := hg.symm
  have hgb : -262144 ≤ g ∧ g ≤ 262144 := by omega
  clear hle hp hq hg
  go_enter Tryd.func74, Tryd.ntmps74
  go_wp2_with fail
  refine (b1 _ hu).mono ?_
  rintro e w1 ⟨rfl, rfl⟩
  go_wp2_with fail
  refine (b2 _ hv).mono ?_
  rintro e w1 ⟨rfl, rfl⟩
  clear b1 b2
  go_wp2_with fail
  refine (raised_any _ xs (-g) _ hu (by omega) (by omega) (by omega)).mono ?_
  rintro e w2 ⟨ao, al, ac, zs, rfl, na, va, _, b2⟩
  replace hv := hv.below (Nat.le_refl _) b2
  go_wp2_with fail
  refine (raised_any _ ys g _ hv (by omega) (by omega) (by omega)).mono ?_
  rintro e w3 ⟨bo, bl_, bc, ts, rfl, nb, vb, _, b3⟩
  replace na := na.below (Nat.le_refl _) b3
  have hbw := bstep b2 b3
  go_wp2_with fail
  refine (cmp_any _ _ _ _ _ na nb).mono ?_
  rw [va, vb]
  rintro e w4 ⟨rfl, k4, h4⟩
  replace hbw := bstep hbw (belowK h4)
  clear h4 na nb va vb b2 b3 hv hu
  by_cases hc : up (val xs) (-g) < up (val ys) g
  · rw [cmpN_lt hc]
    have HE : Hid (leadF (val xs) (val ys) = g - 1) := by show _ = _; rw [HLE.out, if_pos hc]
    have HB : Hid (Below w1.heap.size w1 w4) := hbw
    clear hc hbw HLE
    go_wp2
    go_ret
    exact ⟨by rw [HE.out]; rfl, HB.out⟩
  · have hcm : ¬ cmpN (up (val xs) (-g)) (up (val ys) g) < 0 := by
      rcases cmpN_cases (up (val xs) (-g)) (up (val ys) g) with ⟨h, e⟩ | ⟨h, e⟩ | ⟨h, e⟩ <;> rw [e] <;> omega
    have HE : Hid (leadF (val xs) (val ys) = g) := by show _ = _; rw [HLE.out, if_neg hc]
    generalize cmpN (up (val xs) (-g)) (up (val ys) g) = cm at *
    have HB : Hid (Below w1.heap.size w1 w4) := hbw
    clear hc hbw HLE
    go_wp2
    go_ret
    exact ⟨by rw [HE.out]; rfl, HB.out⟩

set_option maxRecDepth 100000 in
set_option maxHeartbeats 1600000 in
theorem share_any (u v : Value) (xs ys : List Nat) (w : World) (hu : Num w u xs) (hv : Num w v ys) (lx : xs.length ≤ 100000) :
    Calls Tryd.prog 78 #[u, v] w fun e w' => e = .returned (.int .i64 (shareF (val xs) (val ys))) ∧ Below w.heap.size w w' := by
  have b1 := fun w h => bits_any u xs w h (by omega)
  by_cases h0 : val xs = 0
  · have HE : Hid (shareF (val xs) (val ys) = 0) := if_pos h0
    rw [h0, show bl 0 = 0 from rfl] at b1
    rw [HE.out]
    clear h0 HE
    go_enter Tryd.func78, Tryd.ntmps78
    go_wp2_with fail
    refine (b1 _ hu).mono ?_
    rintro e w1 ⟨rfl, rfl⟩
    clear b1
    go_wp2
    go_ret
    exact ⟨rfl, Below.refl _ _⟩
  · have HE : Hid (shareF (val xs) (val ys) = 2 + cmpN (up (val xs) 1) (val ys)) := if_neg h0
    rw [HE.out]
    obtain ⟨p, hp⟩ : ∃ p, p = bl (val xs) := ⟨_, rfl⟩
    have hp0 : ((p : Int) == 0) = false := by
      obtain ⟨m, e, _, _⟩ := bl_bounds h0
      rw [hp, e]
      simp
      omega
    rw [← hp] at b1
    have hcr : -1 ≤ cmpN (up (val xs) 1) (val ys) ∧ cmpN (up (val xs) 1) (val ys) ≤ 1 := by
      rcases cmpN_cases (up (val xs) 1) (val ys) with ⟨h, e⟩ | ⟨h, e⟩ | ⟨h, e⟩ <;> rw [e] <;> omega
    obtain ⟨cm, hcm⟩ : ∃ c, cmpN (up (val xs) 1) (val ys) = c := ⟨_, rfl⟩
    rw [hcm] at hcr ⊢
    have HCM : Hid (cmpN (up (val xs) 1) (val ys) = cm) := hcm
    clear h0 HE hp hcm
    go_enter Tryd.func78, Tryd.ntmps78
    go_wp2_with fail
    refine (b1 _ hu).mono ?_
    rintro e w1 ⟨rfl, rfl⟩
    clear b1
    go_wp2_with fail
    refine (raised_any _ xs 1 _ hu (by omega) (by omega) (by omega)).mono ?_
    rintro e w2 ⟨ao, al, ac, zs, rfl, na, va, _, b2⟩
    replace hv := hv.below (Nat.le_refl _) b2
    go_wp2_with fail
    refine (cmp_any _ _ _ _ _ na hv).mono ?_
    rw [va, HCM.out]
    rintro e w4 ⟨rfl, k4, h4⟩
    have HB : Hid (Below w1.heap.size w1 w4) := bstep b2 (belowK h4)
    clear h4 na va b2 hv hu
    go_wp2
    go_ret
    exact ⟨rfl, HB.out⟩

set_option maxRecDepth 100000 in
set_option maxHeartbeats 1600000 in
theorem placeNearest_any (p : Nat) (q : Int) (w : World) (hp : p < 18446744073709551615) :
    Calls Tryd.prog 33 #[.agg #[.int .u64 (p : Int), .int .i64 q]] w fun e w' => e = .returned (.int .u64 (nearestF (p, q) : Nat)) ∧ Below w.heap.size w w' := by
  by_cases h3 : q = 3
  · have HE : Hid (nearestF (p, q) = p + 1) := if_pos (Or.inl h3)
    rw [HE.out]
    subst h3
    clear HE
    go_enter Tryd.func33, Tryd.ntmps33
    go_wp2
    go_ret
    exact ⟨rfl, belowA _ _⟩
  · have h3' : (q == 3) = false := by simpa using h3
    by_cases h2 : q = 2
    · by_cases h1 : p % 2 = 1
      · have HE : Hid (nearestF (p, q) = p + 1) := if_pos (Or.inr ⟨h2, h1⟩)
        rw [HE.out]
        have e1 : (p : Int) % 2 = 1 := by omega
        have e2 : (p : Int).tmod 2 = 1 := by rw [Int.tmod_eq_emod_of_nonneg (by omega)]; exact e1
        subst h2
        clear HE h1 h3 h3'
        go_enter Tryd.func33, Tryd.ntmps33
        go_wp2
        go_ret
        exact ⟨rfl, belowA _ _⟩
      · have HE : Hid (nearestF (p, q) = p) := if_neg (by rintro (h | h); exact h3 h; exact h1 h.2)
        rw [HE.out]
        have e1 : (p : Int) % 2 = 0 := by omega
        have e2 : (p : Int).tmod 2 = 0 := by rw [Int.tmod_eq_emod_of_nonneg (by omega)]; exact e1
        subst h2
        clear HE h1 h3 h3'
        go_enter Tryd.func33, Tryd.ntmps33
        go_wp2
        go_ret
        exact ⟨rfl, belowA _ _⟩
    · have h2' : (q == 2) = false := by simpa using h2
      have HE : Hid (nearestF (p, q) = p) := if_neg (by rintro (h | h); exact h3 h; exact h2 h.1)
      rw [HE.out]
      clear HE h3 h2
      go_enter Tryd.func33, Tryd.ntmps33
      go_wp2
      go_ret
      exact ⟨rfl, belowA _ _⟩
end Go.Proofs.YtaekaikkldnikaaDoor
