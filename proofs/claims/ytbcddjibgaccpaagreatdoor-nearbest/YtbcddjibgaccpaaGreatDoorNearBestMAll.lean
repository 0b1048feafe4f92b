/-
  Proved here: what the law's alike and big answer.
  Proved here: what near answers of a fraction, by the law's own names; two fractions in order, a fraction and its opposite.
  Proved here: the two floats around a fraction, and the nearest one, are as they should be; plain mathematics.
  Proved here: no float is nearer to a fraction than its nearest one; plain mathematics.
-/
import Derived.Test.YtbcddjibgaccpaaGreatDoorNearFAll
import Derived.Test.YtbcddjibgaccpaaGreatDoorNearRisesN
namespace Go.Proofs.YtbcddjibgaccpaaGreatDoor
open Go.RowKit

@[local go_sem] theorem run_f64bits2 (b : Nat) (w : World) : (callFunc 10 #[.float .f64 b]).run Tryz.prog w = .ok (.value (.int .u64 (b : Int))) w := by
  rw [run_callFunc_extern Tryz.func10 (by kernel_rfl) (by kernel_rfl) (by kernel_rfl) (e := Extern.MathFloatBits.float64bits) (by kernel_rfl)]
  rfl

set_option maxRecDepth 100000 in
set_option maxHeartbeats 1600000 in
theorem big05_any (na : Bool) (po qo : Option Addr) (pl pc ql qc : Nat) (w : World) :
    Calls Tryz.prog 5 #[.agg #[.bool na, .slice po pl pc, .slice qo ql qc]] w fun e w' => e = .returned (.bool (decide (200 < pl) || decide (200 < ql))) ∧ Below w.heap.size w w' := by
  have hk : TCell (w.alloc (.cells #[.bool na, .slice po pl pc, .slice qo ql qc] 27)) w.heap.size (.bool na) (.slice po pl pc) (.slice qo ql qc) := tcell_new _ rfl
  obtain ⟨c0, c1, c2⟩ := hk.cells
  clear hk
  by_cases h1 : 200 < pl
  · have d1 : decide (200 < pl) = true := decide_eq_true h1
    have h1' : (200 : Int) < (pl : Int) := by omega
    rw [d1, Bool.true_or]
    go_enter Tryz.func5, Tryz.ntmps5
    go_wp2
    go_ret
    exact ⟨rfl, belowA _ _⟩
  · have d1 : decide (200 < pl) = false := decide_eq_false h1
    have h1' : ¬ (200 : Int) < (pl : Int) := by omega
    rw [d1, Bool.false_or]
    by_cases h2 : 200 < ql
    · have d2 : decide (200 < ql) = true := decide_eq_true h2
      have h2' : (200 : Int) < (ql : Int) := by omega
      rw [d2]
      go_enter Tryz.func5, Tryz.ntmps5
      go_wp2
      go_ret
      exact ⟨rfl, belowA _ _⟩
    · have d2 : decide (200 < ql) = false := decide_eq_false h2
      have h2' : ¬ (200 : Int) < (ql : Int) := by omega
      rw [d2]
      go_enter Tryz.func5, Tryz.ntmps5
      go_wp2
      go_ret
      exact ⟨rfl, belowA _ _⟩
end Go.Proofs.YtbcddjibgaccpaaGreatDoor

namespace Go.Proofs.YtbcddjibgaccpaaGreatDoor
open Go.RowKit

theorem qn_near {w : World} {v : Value} {s : Bool} {N D : Nat} (h : QN w v s N D) : Calls Tryz.prog 6 #[v] w fun e w' => e = .returned (.float .f64 (nD s N D)) ∧ Below w.heap.size w w' := q_nearest h
theorem qn_single {w : World} {v : Value} {s : Bool} {N D : Nat} (h : QN w v s N D) : Calls Tryz.prog 7 #[v] w fun e w' => e = .returned (.float .f32 (nS s N D)) ∧ Below w.heap.size w w' := q_single h
theorem qn_around {w : World} {v : Value} {s : Bool} {N D : Nat} (h : QN w v s N D) : Calls Tryz.prog 13 #[v] w fun e w' => e = .returned (.tuple #[.float .f64 (lD s N D), .float .f64 (hD s N D)]) ∧ Below w.heap.size w w' := q_around h
/-- A fraction's side. -/
def sdOf (n : Bool) (N : Nat) : Bool := decide (cmpZ (zv n N) 0 < 0)
theorem sd_zv (n : Bool) (N : Nat) : zv (sdOf n N) N = zv n N := by
  unfold sdOf
  rw [cmpZ_neg]
  cases n
  · rw [decide_eq_false (by show ¬ ((N : Int) < 0); omega)]
  · by_cases h : N = 0
    · subst h; rfl
    · rw [decide_eq_true (by show (-(N : Int) < 0); omega)]
theorem sd_ne {n : Bool} {N : Nat} (h : sdOf n N = true) : N ≠ 0 := by
  rintro rfl
  unfold sdOf at h
  rw [cmpZ_neg] at h
  have h1 := of_decide_eq_true h
  cases n
  · exact absurd h1 (by decide)
  · exact absurd h1 (by decide)
theorem und_undN (q : Nat) : und q = (undN q : Nat) := by unfold und undN; split <;> rfl
theorem undN_ne (q : Nat) : undN q ≠ 0 := by unfold undN; split <;> omega
theorem up_of {na nb : Bool} {N M q r : Nat} (h : cmpQ (rq (zv na N) q) (rq (zv nb M) r) ≤ 0) : Up (sdOf na N) N (undN q) (sdOf nb M) M (undN r) := by
  rw [← cmp_rq, und_undN, und_undN] at h
  refine ⟨?_, undN_ne _, undN_ne _, sd_ne⟩
  rw [sd_zv, sd_zv]
  unfold cmpZ at h
  split at h
  · omega
  · split at h
    · omega
    · omega
theorem opp_of (na : Bool) (N q : Nat) : Opp (sdOf na N) N (undN q) (decide ((-(rq (zv na N) q)).num < 0)) (-(rq (zv na N) q)).num.natAbs (-(rq (zv na N) q)).den := by
  obtain ⟨k, hk, e1, e2⟩ := rq_parts (zv na N) q
  obtain ⟨x, hx⟩ : ∃ x, x = rq (zv na N) q := ⟨_, rfl⟩
  rw [← hx] at e1 e2 ⊢
  rw [Rat.neg_num, Rat.neg_den, Int.natAbs_neg]
  have hN : N = x.num.natAbs * k.natAbs := by
    have := congrArg Int.natAbs e1
    rw [zv_abs, Int.natAbs_mul] at this
    exact this
  have hD : undN q = x.den * k.natAbs := by
    rw [und_undN] at e2
    have := congrArg Int.natAbs e2
    rw [Int.natAbs_natCast, Int.natAbs_mul, Int.natAbs_natCast] at this
    exact this
  refine ⟨?_, undN_ne _, x.den_nz, fun h0 => ?_⟩
  · rw [hD]
    conv => lhs; rw [hN]
    rw [Nat.mul_assoc, Nat.mul_comm k.natAbs]
  · have hz : zv na N ≠ 0 := by
      intro h
      have := congrArg Int.natAbs h
      rw [zv_abs] at this
      exact h0 this
    have hs : sdOf na N = decide (x.num < 0) := by
      unfold sdOf
      rw [cmpZ_neg]
      refine decide_eq_decide.2 ?_
      rw [e1]
      constructor
      · intro h
        by_cases h2 : x.num < 0
        · exact h2
        · have := Int.mul_nonneg (Int.not_lt.1 h2) (Int.le_of_lt hk)
          omega
      · intro h; exact Int.mul_neg_of_neg_of_pos h hk
    have hxn : x.num ≠ 0 := by
      intro h
      rw [h, Int.zero_mul] at e1
      exact hz e1
    rw [hs]
    by_cases h2 : x.num < 0
    · rw [decide_eq_true h2, decide_eq_false (by omega)]; rfl
    · rw [decide_eq_false h2, decide_eq_true (by omega)]; rfl
theorem qn_of {w : World} {n : Bool} {ao bo : Option Addr} {al ac bl bc : Nat} {xs ys : List Nat} (hx : Num w (.slice ao al ac) xs) (hy : Num w (.slice bo bl bc) ys) (lx : xs.length ≤ 200) (ly : ys.length ≤ 200) : QN w (.agg #[.bool n, .slice ao al ac, .slice bo bl bc]) (sdOf n (val xs)) (val xs) (undN (val ys)) :=
  ⟨n, ao, al, ac, bo, bl, bc, xs, ys, rfl, hx, hy, by omega, by omega, rfl, rfl, rfl⟩
theorem run_neg64 (b : Nat) (w : World) : (Op.unary .neg (.float .f64 b)).run Tryz.prog w = .ok (.float .f64 (ngf b)) w := rfl
theorem run_neg32 (b : Nat) (w : World) : (Op.unary .neg (.float .f32 b)).run Tryz.prog w = .ok (.float .f32 (ngs b)) w := rfl
end Go.Proofs.YtbcddjibgaccpaaGreatDoor

namespace Go.Proofs.YtbcddjibgaccpaaGreatDoor
open Ieee

theorem cmp_eq_rule (x y : Int) : (some (compare x y) != some Ordering.eq) = !decide (x = y) := by
  have e2 : compare x y = if x < y then .lt else if x = y then .eq else .gt := rfl
  rw [e2]
  by_cases h : x < y
  · rw [if_pos h, decide_eq_false (by omega)]; rfl
  · rw [if_neg h]
    by_cases h2 : x = y
    · rw [if_pos h2, decide_eq_true h2]; rfl
    · rw [if_neg h2, decide_eq_false h2]; rfl
/-- A float, its value, and that it is no NaN. -/
def Fv (X : Nat) (x : Int) : Prop := fv X = x ∧ X < 18446744073709551616 ∧ X % 2 ^ 63 ≤ 9218868437227405312
theorem Fv.ne {X Y : Nat} {x y : Int} (hX : Fv X x) (hY : Fv Y y) : (FloatKind.f64.format.order X Y != some .eq) = !decide (x = y) := by
  have h1 : FloatKind.f64.format.order X Y = some (compare (fv X) (fv Y)) := order_fvb hX.2.1 hY.2.1 hX.2.2 hY.2.2
  rw [h1, hX.1, hY.1]
  exact cmp_eq_rule x y

/-- Where a fraction lies among the floats. -/
structure Ar (s : Bool) (N D fa ab nn : Nat) : Prop where
  lo : lD s N D = arLo s fa ab
  hi : hD s N D = arHi s fa ab
  nr : nD s N D = sidedF s nn
  lt : fa < 9218868437227405312
  is : nn = fa ∨ nn = ab
  le : fval 52 fa * D ≤ N * 2 ^ eD
  up : ab < 9218868437227405312 → N * 2 ^ eD ≤ fval 52 ab * D
  cs : (ab = fa) ∨ (ab = fa + 1)
  ex : ab = fa → fval 52 fa * D = N * 2 ^ eD

theorem ar_of (s : Bool) {N D : Nat} (hD0 : D ≠ 0) : ∃ fa ab nn, Ar s N D fa ab nn := by
  have hp := find_ok (N := N) (D := D) (d := 53) (l := -1074) (t := 1024) hD0 (by decide) (by decide) (by decide) (by decide)
  have hi : infF 53 (-1074) 1024 = 9218868437227405312 := by decide
  rw [hi, show (-(-1074 : Int)).toNat = eD from rfl] at hp
  obtain ⟨⟨fa, past⟩, hf⟩ : ∃ z, z = findF 53 (-1074) 1024 N D := ⟨_, rfl⟩
  rw [← hf] at hp
  have hp : PlaceOk 52 9218868437227405312 (N * 2 ^ eD) D fa past := hp
  have hfar : past = 0 ∨ fa + 1 < 9218868437227405312 → N * 2 ^ eD < fval 52 9218868437227405312 * D := fun h => by
    rcases Nat.lt_or_ge (N * 2 ^ eD) (fval 52 9218868437227405312 * D) with h1 | h1
    · exact h1
    · exfalso
      have h2 := hp.far h1
      have h3 := hp.lt
      omega
  refine ⟨fa, aboveF (fa, past), nearestF (fa, past), ?_, ?_, ?_, hp.lt, ?_, hp.le, ?_, above_le (fa, past), ?_⟩
  · unfold lD; rw [← hf]
  · unfold Go.Proofs.YtbcddjibgaccpaaGreatDoor.hD; rw [← hf]
  · unfold nD; rw [← hf]
  · unfold nearestF aboveF
    by_cases h0 : past = 0
    · left; exact if_neg (by show ¬ (past = 3 ∨ past = 2 ∧ fa % 2 = 1); omega)
    · rw [if_neg h0]
      by_cases h : past = 3 ∨ past = 2 ∧ fa % 2 = 1
      · right; exact if_pos h
      · left; exact if_neg h
  · intro h
    by_cases h0 : past = 0
    · have e : aboveF (fa, past) = fa := by unfold aboveF; exact if_pos h0
      rw [e, (hp.just (hfar (Or.inl h0))).1 h0]
      exact Nat.le_refl _
    · have e : aboveF (fa, past) = fa + 1 := by unfold aboveF; exact if_neg h0
      rw [e] at h ⊢
      exact Nat.le_of_lt (hp.next (hfar (Or.inr h)))
  · intro h
    have h0 : past = 0 := by
      by_cases h0 : past = 0
      · exact h0
      · have e : aboveF (fa, past) = fa + 1 := by unfold aboveF; exact if_neg h0
        omega
    exact (hp.just (hfar (Or.inl h0))).1 h0

section
variable {s : Bool} {N D fa ab nn : Nat} (h : Ar s N D fa ab nn)
include h
theorem Ar.fab : fa ≤ 9218868437227405312 ∧ ab ≤ 9218868437227405312 ∧ nn ≤ 9218868437227405312 := by
  have h1 := h.lt
  have h2 := h.cs
  have h3 := h.is
  omega
theorem Ar.fl : Fv (lD s N D) (sid s (fval 52 ab) (fval 52 fa)) := by rw [h.lo]; exact fv_lo h.fab.1 h.fab.2.1
theorem Ar.fh : Fv (hD s N D) (sid s (fval 52 fa) (fval 52 ab)) := by rw [h.hi]; exact fv_hi h.fab.1 h.fab.2.1
theorem Ar.fn : Fv (nD s N D) (sid s (fval 52 nn) (fval 52 nn)) := by rw [h.nr]; exact fv_sided h.fab.2.2
theorem Ar.self : (FloatKind.f64.format.order (lD s N D) (lD s N D) != some .eq) = false ∧ (FloatKind.f64.format.order (hD s N D) (hD s N D) != some .eq) = false := by
  refine ⟨?_, ?_⟩
  · rw [h.fl.ne h.fl, decide_eq_true rfl]; rfl
  · rw [h.fh.ne h.fh, decide_eq_true rfl]; rfl
theorem Ar.mono : fval 52 fa ≤ fval 52 ab := fval_le (by have := h.cs; omega)
theorem Ar.gt : (FloatKind.f64.format.order (lD s N D) (hD s N D) == some .gt) = false := by
  refine not_gt h.fl h.fh ?_
  have := h.mono
  unfold sid
  cases s
  · show ((fval 52 fa : Nat) : Int) ≤ (fval 52 ab : Nat); omega
  · show -((fval 52 ab : Nat) : Int) ≤ -((fval 52 fa : Nat) : Int); omega
theorem Ar.one : (FloatKind.f64.format.order (nD s N D) (lD s N D) != some .eq) = false ∨ ((FloatKind.f64.format.order (nD s N D) (lD s N D) != some .eq) = true ∧ (FloatKind.f64.format.order (nD s N D) (hD s N D) != some .eq) = false) := by
  rw [h.fn.ne h.fl, h.fn.ne h.fh]
  by_cases h1 : sid s (fval 52 nn) (fval 52 nn) = sid s (fval 52 ab) (fval 52 fa)
  · rw [decide_eq_true h1]; exact Or.inl rfl
  · rw [decide_eq_false h1]
    refine Or.inr ⟨rfl, ?_⟩
    have h2 : sid s (fval 52 nn) (fval 52 nn) = sid s (fval 52 fa) (fval 52 ab) := by
      rcases h.is with e | e
      · subst e
        cases s
        · exact absurd rfl h1
        · rfl
      · subst e
        cases s
        · rfl
        · exact absurd rfl h1
    rw [decide_eq_true h2]; rfl
theorem Ar.diff : (FloatKind.f64.format.order (lD s N D) (hD s N D) != some .eq) = !decide (ab = fa) := by
  rw [h.fl.ne h.fh]
  congr 1
  refine decide_eq_decide.2 ?_
  constructor
  · intro e
    rcases h.cs with h1 | h1
    · exact h1
    · exfalso
      have h2 := fval_mono 52 (show fa < ab by omega)
      cases s
      · have e : ((fval 52 fa : Nat) : Int) = (fval 52 ab : Nat) := e
        omega
      · have e : -((fval 52 ab : Nat) : Int) = -((fval 52 fa : Nat) : Int) := e
        omega
  · intro e
    rw [e]
theorem Ar.modl : lD s N D % 2 ^ 63 = (if s then ab else fa) := by
  rw [h.lo]
  have := h.fab
  unfold arLo
  cases s
  · show fa % 2 ^ 63 = fa; omega
  · show (2 ^ 63 + ab) % 2 ^ 63 = ab; omega
theorem Ar.modh : hD s N D % 2 ^ 63 = (if s then fa else ab) := by
  rw [h.hi]
  have := h.fab
  unfold arHi
  cases s
  · show ab % 2 ^ 63 = ab; omega
  · show (if fa = 0 then 0 else 2 ^ 63 + fa) % 2 ^ 63 = fa
    split <;> omega
end
theorem cmp_near {X : Nat} {x : Int} {na : Bool} {N q : Nat} (hX : fv X = x) : cmpQ (fR X) (rq (zv na N) q) = cmpZ (x * (undN q : Nat)) (zv (sdOf na N) (N * 2 ^ eD)) := by
  unfold fR
  rw [← cmp_rq, hX, und_undN, und_undN, zv_muln, sd_zv, show undN (2 ^ eD) = 2 ^ eD from if_neg (Nat.ne_of_gt (Nat.two_pow_pos eD))]
theorem cmp_side {s : Bool} {x y D n : Nat} (h1 : x * D ≤ n) (h2 : n ≤ y * D) : cmpZ (sid s y x * (D : Nat)) (zv s n) ≤ 0 ∧ (x = y → cmpZ (sid s y x * (D : Nat)) (zv s n) = 0) ∧ 0 ≤ cmpZ (sid s x y * (D : Nat)) (zv s n) := by
  have ex : (x : Int) * D = ((x * D : Nat) : Int) := (Int.natCast_mul ..).symm
  have ey : (y : Int) * D = ((y * D : Nat) : Int) := (Int.natCast_mul ..).symm
  cases s
  · show cmpZ ((x : Int) * D) n ≤ 0 ∧ (x = y → cmpZ ((x : Int) * D) n = 0) ∧ 0 ≤ cmpZ ((y : Int) * D) n
    rw [ex, ey]
    generalize hu : x * D = u at *
    generalize hv : y * D = v at *
    refine ⟨?_, fun e => ?_, ?_⟩
    · unfold cmpZ; split
      · omega
      · rw [if_pos (by omega)]; omega
    · have : u = v := by rw [← hu, ← hv, e]
      unfold cmpZ; rw [if_neg (by omega), if_pos (by omega)]
    · unfold cmpZ; rw [if_neg (by omega)]; split <;> omega
  · show cmpZ (-(y : Int) * D) (-(n : Int)) ≤ 0 ∧ (x = y → cmpZ (-(y : Int) * D) (-(n : Int)) = 0) ∧ 0 ≤ cmpZ (-(x : Int) * D) (-(n : Int))
    rw [Int.neg_mul, Int.neg_mul, ex, ey]
    generalize hu : x * D = u at *
    generalize hv : y * D = v at *
    refine ⟨?_, fun e => ?_, ?_⟩
    · unfold cmpZ; split
      · omega
      · rw [if_pos (by omega)]; omega
    · have : u = v := by rw [← hu, ← hv, e]
      unfold cmpZ; rw [if_neg (by omega), if_pos (by omega)]
    · unfold cmpZ; rw [if_neg (by omega)]; split <;> omega
theorem Ar.cmpl {na : Bool} {N q fa ab nn : Nat} (h : Ar (sdOf na N) N (undN q) fa ab nn) (hf : ab < 9218868437227405312) : cmpQ (fR (lD (sdOf na N) N (undN q))) (rq (zv na N) q) ≤ 0 ∧ (ab = fa → cmpQ (fR (lD (sdOf na N) N (undN q))) (rq (zv na N) q) = 0) ∧ 0 ≤ cmpQ (fR (hD (sdOf na N) N (undN q))) (rq (zv na N) q) := by
  have h1 := h.le
  have h2 := h.up hf
  rw [cmp_near h.fl.1, cmp_near h.fh.1]
  clear h
  generalize N * 2 ^ eD = n at *
  have h3 := cmp_side (s := sdOf na N) h1 h2
  exact ⟨h3.1, fun e => h3.2.1 (by rw [e]), h3.2.2⟩
/-- Below infinity alone: what is on its own side. -/
theorem Ar.cmpx {na : Bool} {N q fa ab nn : Nat} (h : Ar (sdOf na N) N (undN q) fa ab nn) : (sdOf na N = false → cmpQ (fR (lD (sdOf na N) N (undN q))) (rq (zv na N) q) ≤ 0) ∧ (sdOf na N = true → 0 ≤ cmpQ (fR (hD (sdOf na N) N (undN q))) (rq (zv na N) q)) := by
  have h1 := h.le
  rw [cmp_near h.fl.1, cmp_near h.fh.1]
  clear h
  generalize N * 2 ^ eD = n at *
  generalize sdOf na N = s at *
  generalize fval 52 fa = x at *
  generalize fval 52 ab = y at *
  have hm : ∃ z, x ≤ z ∧ n ≤ z * undN q := ⟨x + n, by omega, by have := Nat.pos_of_ne_zero (undN_ne q); have := Nat.le_mul_of_pos_right (x + n) this; omega⟩
  obtain ⟨z, _, hz⟩ := hm
  have h3 := cmp_side (s := s) h1 hz
  refine ⟨fun e => ?_, fun e => ?_⟩
  · subst e; exact h3.1
  · subst e; exact h3.2.2
end Go.Proofs.YtbcddjibgaccpaaGreatDoor

namespace Go.Proofs.YtbcddjibgaccpaaGreatDoor
open Ieee

/-- A fraction's size. -/
def absQ (x : Rat) : Rat := if x.num < 0 then -x else x
theorem rq_same (a b : Int) (k : Nat) : cmpQ (rq a k) (rq b k) = cmpZ a b := by rw [← cmp_rq, cmpZ_scale (und_pos _)]
theorem rq_sgn (p : Int) (q : Nat) : ((rq p q).num < 0) ↔ p < 0 := by
  obtain ⟨k, hk, e1, _⟩ := rq_parts p q
  constructor
  · intro h; rw [e1]; exact Int.mul_neg_of_neg_of_pos h hk
  · intro h
    by_cases h2 : (rq p q).num < 0
    · exact h2
    · have := Int.mul_nonneg (Int.not_lt.1 h2) (Int.le_of_lt hk)
      omega
theorem absQ_rq (p : Int) (q : Nat) : absQ (rq p q) = rq (p.natAbs : Int) q := by
  unfold absQ
  by_cases h : p < 0
  · rw [if_pos ((rq_sgn p q).2 h), ← rq_neg, show (p.natAbs : Int) = -p by omega]
    rfl
  · rw [if_neg (fun h2 => h ((rq_sgn p q).1 h2)), show (p.natAbs : Int) = p by omega]
theorem und_mul (q k : Nat) : und (undN q * k) = if k = 0 then 1 else und q * (k : Nat) := by
  by_cases h : k = 0
  · rw [if_pos h, h, Nat.mul_zero]; rfl
  · rw [if_neg h, und_undN, und_undN]
    have h1 : undN q * k ≠ 0 := Nat.mul_ne_zero (undN_ne q) h
    rw [show undN (undN q * k) = undN q * k from if_neg h1, Int.natCast_mul]
theorem off_rq (p f : Int) (q : Nat) {E : Nat} (hE : E ≠ 0) : absQ (rq p q - rq f E) = rq ((p * (E : Nat) - f * (undN q : Nat)).natAbs : Int) (undN q * E) := by
  have h1 : und E = (E : Nat) := if_neg hE
  have h2 : rq p q - rq f E = rq (p * (E : Nat) - f * (undN q : Nat)) (undN q * E) := by
    rw [← rq_sub, h1]
    unfold rq
    rw [und_mul, if_neg hE, und_undN]
  rw [h2, absQ_rq]

theorem best_num {n x y z v : Nat} {b nn r : Nat} (h1 : x ≤ n) (h2 : n < y) (hv : (nn = b ∧ v = x ∧ 2 * n ≤ x + y ∧ (2 * n = x + y → b % 2 = 0)) ∨ (nn = b + 1 ∧ v = y ∧ x + y ≤ 2 * n ∧ (2 * n = x + y → b % 2 = 1)))
    (hz : (r < b ∧ z < x) ∨ (r = b ∧ z = x) ∨ (r = b + 1 ∧ z = y) ∨ y < z) :
    ((n : Int) - v).natAbs ≤ ((n : Int) - z).natAbs ∧ (((n : Int) - v).natAbs = ((n : Int) - z).natAbs → v ≠ z → nn % 2 = 0) ∧ ((n : Int) - v).natAbs ≤ n + z ∧ (((n : Int) - v).natAbs = n + z → ¬ (v = 0 ∧ z = 0) → nn % 2 = 0) := by
  omega
theorem best_core {p INF n D b : Nat} {past : Int} (h : PlaceOk p INF n D b past) (hD : 0 < D) (hn : nearestF (b, past) < INF) (s t : Bool) (r : Nat) :
    (zv s n - zv s (fval p (nearestF (b, past))) * (D : Nat)).natAbs ≤ (zv s n - zv t (fval p r) * (D : Nat)).natAbs ∧
    ((zv s n - zv s (fval p (nearestF (b, past))) * (D : Nat)).natAbs = (zv s n - zv t (fval p r) * (D : Nat)).natAbs → zv s (fval p (nearestF (b, past))) ≠ zv t (fval p r) → nearestF (b, past) % 2 = 0) := by
  have hlt : n < fval p INF * D := by
    rcases Nat.lt_or_ge n (fval p INF * D) with h1 | h1
    · exact h1
    · exfalso
      obtain ⟨e1, e2⟩ := h.far h1
      have e3 : nearestF (b, past) = b + 1 := by unfold nearestF; exact if_pos (Or.inl e2)
      omega
  have h1 := h.le
  have h2 := h.next hlt
  have mul : ∀ {i j : Nat}, i < j → fval p i * D < fval p j * D := fun {i j} hij => Nat.mul_lt_mul_of_pos_right (fval_mono p hij) hD
  have hz : (r < b ∧ fval p r * D < fval p b * D) ∨ (r = b ∧ fval p r * D = fval p b * D) ∨ (r = b + 1 ∧ fval p r * D = fval p (b + 1) * D) ∨ fval p (b + 1) * D < fval p r * D := by
    rcases Nat.lt_trichotomy r b with h3 | h3 | h3
    · exact Or.inl ⟨h3, mul h3⟩
    · exact Or.inr (Or.inl ⟨h3, by rw [h3]⟩)
    · rcases Nat.lt_or_ge (b + 1) r with h4 | h4
      · exact Or.inr (Or.inr (Or.inr (mul h4)))
      · have h5 : r = b + 1 := by omega
        exact Or.inr (Or.inr (Or.inl ⟨h5, by rw [h5]⟩))
  obtain ⟨nn, hnn⟩ : ∃ nn, nn = nearestF (b, past) := ⟨_, rfl⟩
  have hv : (nn = b ∧ fval p nn * D = fval p b * D ∧ 2 * n ≤ fval p b * D + fval p (b + 1) * D ∧ (2 * n = fval p b * D + fval p (b + 1) * D → b % 2 = 0)) ∨ (nn = b + 1 ∧ fval p nn * D = fval p (b + 1) * D ∧ fval p b * D + fval p (b + 1) * D ≤ 2 * n ∧ (2 * n = fval p b * D + fval p (b + 1) * D → b % 2 = 1)) := by
    by_cases he : fval p b * D = n
    · have h0 := (h.just hlt).2 he
      have e : nn = b := by rw [hnn]; unfold nearestF; exact if_neg (by show ¬ (past = 3 ∨ past = 2 ∧ b % 2 = 1); omega)
      exact Or.inl ⟨e, by rw [e], by omega, by omega⟩
    · have hp := h.half hlt he
      rw [Nat.add_mul] at hp
      by_cases hc : past = 3 ∨ past = 2 ∧ b % 2 = 1
      · have e : nn = b + 1 := by rw [hnn]; unfold nearestF; exact if_pos hc
        refine Or.inr ⟨e, by rw [e], ?_, ?_⟩
        · unfold cmpN at hp
          split at hp
          · omega
          · omega
        · intro h5
          unfold cmpN at hp
          rw [if_neg (by omega), if_pos (by omega)] at hp
          omega
      · have e : nn = b := by rw [hnn]; unfold nearestF; exact if_neg hc
        refine Or.inl ⟨e, by rw [e], ?_, ?_⟩
        · unfold cmpN at hp
          split at hp
          · omega
          · split at hp
            · omega
            · omega
        · intro h5
          unfold cmpN at hp
          rw [if_neg (by omega), if_pos (by omega)] at hp
          omega
  rw [← hnn]
  clear hnn hn
  have hb := best_num h1 h2 hv hz
  have sg : ∀ (F : Nat), (zv s n - zv s F * (D : Nat)).natAbs = ((n : Int) - ((F * D : Nat) : Int)).natAbs := fun F => by
    rw [Int.natCast_mul]
    cases s
    · rfl
    · show (-(n : Int) - -(F : Int) * D).natAbs = _
      rw [Int.neg_mul, ← Int.natAbs_neg]
      congr 1
      omega
  have so : ∀ (F : Nat), s ≠ t → (zv s n - zv t F * (D : Nat)).natAbs = n + F * D := fun F hst => by
    have e1 : ((F : Int) * D) = ((F * D : Nat) : Int) := (Int.natCast_mul ..).symm
    cases s <;> cases t
    · exact absurd rfl hst
    · show ((n : Int) - -(F : Int) * D).natAbs = _
      rw [Int.neg_mul, e1]; omega
    · show (-(n : Int) - (F : Int) * D).natAbs = _
      rw [e1]; omega
    · exact absurd rfl hst
  have zv0 : ∀ (u : Bool), zv u 0 = 0 := fun u => by cases u <;> rfl
  by_cases hst : s = t
  · subst hst
    rw [sg, sg]
    refine ⟨hb.1, fun e hne => hb.2.1 e fun e2 => hne ?_⟩
    rw [Nat.eq_of_mul_eq_mul_right hD e2]
  · rw [sg, so _ hst]
    refine ⟨hb.2.2.1, fun e hne => hb.2.2.2 e fun e2 => hne ?_⟩
    have a1 : fval p nn = 0 := by
      rcases Nat.mul_eq_zero.1 e2.1 with h5 | h5
      · exact h5
      · omega
    have a2 : fval p r = 0 := by
      rcases Nat.mul_eq_zero.1 e2.2 with h5 | h5
      · exact h5
      · omega
    rw [a1, a2, zv0, zv0]

theorem cmp_le {A B : Nat} (h : A ≤ B) : cmpZ (A : Int) (B : Int) ≤ 0 ∧ (cmpZ (A : Int) (B : Int) = 0 → A = B) := by
  unfold cmpZ
  by_cases h1 : (A : Int) < B
  · rw [if_pos h1]; exact ⟨by omega, fun h => by omega⟩
  · rw [if_neg h1, if_pos (by omega)]; exact ⟨by omega, fun _ => by omega⟩

/-- No float of 64 bits is nearer. -/
theorem best64 {na : Bool} {N q o : Nat} (hX : nD (sdOf na N) N (undN q) % 2 ^ 63 < 9218868437227405312) :
    cmpQ (absQ (rq (zv na N) q - fR (nD (sdOf na N) N (undN q)))) (absQ (rq (zv na N) q - fR o)) ≤ 0 ∧
    (cmpQ (absQ (rq (zv na N) q - fR (nD (sdOf na N) N (undN q)))) (absQ (rq (zv na N) q - fR o)) = 0 → fv (nD (sdOf na N) N (undN q)) ≠ fv o → nD (sdOf na N) N (undN q) % 2 = 0) := by
  have hp := find_ok (N := N) (D := undN q) (d := 53) (l := -1074) (t := 1024) (undN_ne q) (by decide) (by decide) (by decide) (by decide)
  have hi : infF 53 (-1074) 1024 = 9218868437227405312 := by decide
  rw [hi, show (-(-1074 : Int)).toNat = eD from rfl] at hp
  have hfx := (fv_nD (sdOf na N) N (undN q)).1
  have hmod : nD (sdOf na N) N (undN q) % 2 ^ 63 = nearestF (findF 53 (-1074) 1024 N (undN q)) := by
    unfold nD sidedF
    have := (find_le N (undN q)).2.1
    split <;> omega
  have hpar : nD (sdOf na N) N (undN q) % 2 = nearestF (findF 53 (-1074) 1024 N (undN q)) % 2 := by omega
  rw [hmod] at hX
  obtain ⟨⟨b, past⟩, hf⟩ : ∃ z, z = findF 53 (-1074) 1024 N (undN q) := ⟨_, rfl⟩
  rw [← hf] at hp hX hpar hfx
  have hc := best_core hp (Nat.pos_of_ne_zero (undN_ne q)) hX (sdOf na N) (sgnb o) (o % 2 ^ 63)
  rw [hpar]
  clear hpar hmod hf hp hX hi
  unfold fR
  rw [off_rq _ _ _ (Nat.ne_of_gt (Nat.two_pow_pos eD)), off_rq _ _ _ (Nat.ne_of_gt (Nat.two_pow_pos eD)), rq_same, ← sd_zv, ← zv_muln, hfx]
  generalize N * 2 ^ eD = n at *
  have h2 := cmp_le hc.1
  exact ⟨h2.1, fun e hne => hc.2 (h2.2 e) hne⟩

/-- How often the least float of 32 bits is halved down to that of 64. -/
def kD : Nat := 925
theorem fv_cnv {s : Nat} (hs : s < 4294967296) (hf : s % 2 ^ 31 < 2139095040) : fv (cnv s) = fvs s * ((2 ^ kD : Nat) : Int) := by
  obtain ⟨_, h2, h3⟩ := cnv_fin hs hf
  rw [show (925 : Nat) = kD from rfl] at h3
  unfold fv fvs
  rw [h2, h3, ← zv_muln]
theorem cmp_scaled {A B K : Nat} (hK : 0 < K) : cmpZ ((A * K : Nat) : Int) ((B * K : Nat) : Int) = cmpZ (A : Int) (B : Int) := by
  rw [Int.natCast_mul, Int.natCast_mul, cmpZ_scale (by omega)]
theorem off_scaled (p f : Int) (D : Nat) : (p * ((2 ^ eD : Nat) : Int) - f * ((2 ^ kD : Nat) : Int) * (D : Nat)).natAbs = (p * ((2 ^ 149 : Nat) : Int) - f * (D : Nat)).natAbs * 2 ^ kD := by
  have e : ((2 ^ eD : Nat) : Int) = ((2 ^ 149 : Nat) : Int) * ((2 ^ kD : Nat) : Int) := by
    rw [← Int.natCast_mul, ← Nat.pow_add, show eD = 149 + kD from rfl]
  rw [e]
  generalize hK : 2 ^ kD = K
  generalize 2 ^ 149 = M
  have e2 : p * ((M : Int) * (K : Int)) - f * (K : Int) * (D : Int) = (p * (M : Int) - f * (D : Int)) * (K : Int) := by
    rw [Int.sub_mul, Int.mul_assoc, Int.mul_assoc, Int.mul_assoc, Int.mul_comm (K : Int) (D : Int)]
  rw [e2, Int.natAbs_mul, Int.natAbs_natCast]
/-- No float of 32 bits is nearer. -/
theorem best32 {na : Bool} {N q o : Nat} (hX : nS (sdOf na N) N (undN q) % 2 ^ 31 < 2139095040) (ho : o < 4294967296) (hof : o % 2 ^ 31 < 2139095040) :
    cmpQ (absQ (rq (zv na N) q - fR (cnv (nS (sdOf na N) N (undN q))))) (absQ (rq (zv na N) q - fR (cnv o))) ≤ 0 ∧
    (cmpQ (absQ (rq (zv na N) q - fR (cnv (nS (sdOf na N) N (undN q))))) (absQ (rq (zv na N) q - fR (cnv o))) = 0 → fvs (nS (sdOf na N) N (undN q)) ≠ fvs o → nS (sdOf na N) N (undN q) % 2 = 0) := by
  have hp := find_ok (N := N) (D := undN q) (d := 24) (l := -149) (t := 128) (undN_ne q) (by decide) (by decide) (by decide) (by decide)
  have hi : infF 24 (-149) 128 = 2139095040 := by decide
  rw [hi, show (-(-149 : Int)).toNat = 149 from rfl] at hp
  have hfx := (fv_nS (sdOf na N) N (undN q)).1
  have hc1 := fv_cnv (fv_nS (sdOf na N) N (undN q)).2.1 hX
  have hc2 := fv_cnv ho hof
  have hmod : nS (sdOf na N) N (undN q) % 2 ^ 31 = nearestF (findF 24 (-149) 128 N (undN q)) := by
    unfold nS sidedS
    have := find_le32 N (undN q)
    split <;> omega
  have hpar : nS (sdOf na N) N (undN q) % 2 = nearestF (findF 24 (-149) 128 N (undN q)) % 2 := by omega
  rw [hmod] at hX
  obtain ⟨⟨b, past⟩, hf⟩ : ∃ z, z = findF 24 (-149) 128 N (undN q) := ⟨_, rfl⟩
  rw [← hf] at hp hX hpar hfx
  have hc := best_core hp (Nat.pos_of_ne_zero (undN_ne q)) hX (sdOf na N) (decide (2 ^ 31 ≤ o)) (o % 2 ^ 31)
  rw [hpar]
  clear hpar hmod hf hp hX hi
  unfold fR
  rw [off_rq _ _ _ (Nat.ne_of_gt (Nat.two_pow_pos eD)), off_rq _ _ _ (Nat.ne_of_gt (Nat.two_pow_pos eD)), rq_same, hc1, hc2, off_scaled, off_scaled, cmp_scaled (Nat.two_pow_pos kD), ← sd_zv, ← zv_muln, hfx]
  have h2 := cmp_le hc.1
  exact ⟨h2.1, fun e hne => hc.2 (h2.2 e) hne⟩
end Go.Proofs.YtbcddjibgaccpaaGreatDoor
