/-
  Proved here: a float of 32 bits turned into one of 64 bits is the same number; how floats stand to one another; plain mathematics.
  Proved here: floats of package ring; what RingPlain asks of floats.
-/
import Ieee.Arith
import Derived.Test.YtaafijifiiiblaaGreatRingD
import Derived.Laws.Externs
namespace Go.Proofs.YtaafijifiiiblaaGreat
open Ieee

theorem dsw : double.signWeight = 2 ^ 63 := rfl
theorem dbin : double.binade = 2 ^ 52 := rfl
theorem dinf : double.infRung = 2047 * 2 ^ 52 := by decide
theorem signed_val (neg : Bool) (m k : Nat) : signed neg m k = if neg then -((m * 2 ^ k : Nat) : Int) else ((m * 2 ^ k : Nat) : Int) := by
  unfold signed
  cases neg <;> simp [Nat.shiftLeft_eq]

theorem order_self (d : Datum) : (d.order d != some .eq) = d.isNaN := by
  cases d with
  | number s m i => simp [Datum.order, Datum.isNaN]
  | infinity s => simp [Datum.order, Datum.isNaN]
  | nan s t => simp [Datum.order, Datum.isNaN]

theorem order_nought (d : Datum) (p : Int) : (d.order (.number false 0 p) == some .eq) = d.isZero := by
  cases d with
  | number s m i =>
    have h : (Datum.number s m i).order (.number false 0 p) = some (compare (signed s m (i - min i p).toNat) (signed false 0 (p - min i p).toNat)) := rfl
    rw [h, signed_val, signed_val]
    have hp := Nat.two_pow_pos (i - min i p).toNat
    obtain ⟨k, hk⟩ : ∃ k, k = 2 ^ (i - min i p).toNat := ⟨_, rfl⟩
    rw [← hk] at hp ⊢
    have e2 : ∀ x y : Int, compare x y = if x < y then .lt else if x = y then .eq else .gt := fun _ _ => rfl
    rw [e2]
    rcases Nat.eq_zero_or_pos m with rfl | hm
    · cases s <;> simp [Datum.isZero]
    · have h0 : (Datum.number s m i).isZero = false := by unfold Datum.isZero; split <;> simp_all
      have : 0 < m * k := Nat.mul_pos hm hp
      rw [h0]
      have h3 : ((0 * 2 ^ (p - min i p).toNat : Nat) : Int) = 0 := by simp
      rw [h3]
      obtain ⟨q, hq⟩ : ∃ q, q = m * k := ⟨_, rfl⟩
      rw [← hq] at this ⊢
      cases s
      · have a1 : ¬ ((q : Int) < 0) := by omega
        have a3 : ¬ ((q : Int) = 0) := by omega
        show (some (if (q : Int) < 0 then Ordering.lt else if (q : Int) = 0 then Ordering.eq else Ordering.gt) == some Ordering.eq) = false
        rw [if_neg a1, if_neg a3]; rfl
      · simp [this]
  | infinity s => cases s <;> simp [Datum.order, Datum.isZero]
  | nan s t => simp [Datum.order, Datum.isZero]

end Go.Proofs.YtaafijifiiiblaaGreat

namespace Go.Proofs.YtaafijifiiiblaaGreat
open Go.RowKit
/-- the same float, or both no numbers -/
def feq (x y : Nat) : Bool := (FloatKind.f64.format.order x y == some .eq) || ((FloatKind.f64.format.read x).isNaN && (FloatKind.f64.format.read y).isNaN)
theorem oself (x : Nat) : (FloatKind.f64.format.order x x != some .eq) = (FloatKind.f64.format.read x).isNaN := order_self _
theorem oself2 (x : Nat) : (FloatKind.f64.format.order x x == some .eq) = !(FloatKind.f64.format.read x).isNaN := by
  rw [← oself]
  unfold bne
  rw [Bool.not_not]
theorem feq_self (x : Nat) : feq x x = true := by
  unfold feq
  rw [oself2]
  cases (FloatKind.f64.format.read x).isNaN <;> rfl
theorem onan {x y : Nat} (h : (FloatKind.f64.format.read x).isNaN = true) : FloatKind.f64.format.order x y = none := by
  show (FloatKind.f64.format.read x).order (FloatKind.f64.format.read y) = none
  cases hx : FloatKind.f64.format.read x <;> simp_all [Ieee.Datum.isNaN, Ieee.Datum.order]
def nanQ (x y : Nat) (w : World) : Nat := Question.cut (.nanBits .f64 x y) (w.tape w.drawn (.nanBits .f64 x y))
theorem nanQ_nan (x y : Nat) (w : World) : (FloatKind.f64.format.read (nanQ x y w)).isNaN = true := by
  unfold nanQ
  generalize w.tape w.drawn (.nanBits .f64 x y) = q
  show (Ieee.double.read ((q % 2) * 2 ^ 63 + 0x7ff0000000000000 + 1 + (q / 2) % (2 ^ 52 - 1))).isNaN = true
  unfold Ieee.Format.read
  rw [dsw, dbin, dinf]
  have h1 : ((q % 2) * 2 ^ 63 + 0x7ff0000000000000 + 1 + (q / 2) % (2 ^ 52 - 1)) % 2 ^ 63 = 0x7ff0000000000000 + 1 + (q / 2) % (2 ^ 52 - 1) := by omega
  dsimp only
  rw [h1, if_neg (by omega), if_neg (by omega), if_neg (by omega)]
  rfl
/-- what x add y comes to in a world -/
def addV (x y : Nat) (w : World) : Nat := match FloatKind.f64.format.add x y with | some r => r | none => nanQ x y w
def addW (x y : Nat) (w : World) : World := match FloatKind.f64.format.add x y with | some _ => w | none => w.drew
def Padd (x y r : Nat) : Prop := FloatKind.f64.format.add x y = some r ∨ (FloatKind.f64.format.add x y = none ∧ (FloatKind.f64.format.read r).isNaN = true)
theorem addV_p (x y : Nat) (w : World) : Padd x y (addV x y w) := by
  unfold Padd addV
  cases h : FloatKind.f64.format.add x y with
  | some r => exact Or.inl rfl
  | none => exact Or.inr ⟨rfl, nanQ_nan x y w⟩
theorem addW_below (x y : Nat) (w : World) : Below w.heap.size w (addW x y w) := by
  unfold addW
  cases FloatKind.f64.format.add x y with
  | some r => exact Below.refl _ _
  | none => exact (Below.refl _ _).drew
theorem run_addV (t : TypeId) (x y : Nat) (P : Program) (w : World) : (binOp .add t (.float .f64 x) (.float .f64 y)).run P w = .ok (.float .f64 (addV x y w)) (addW x y w) := by
  unfold addV addW
  cases h : FloatKind.f64.format.add x y with
  | some r => simp [binOp, Op.floatArith, h]
  | none => simp [binOp, Op.floatArith, h, Question.forced, nanQ]
theorem Padd.two {x y a b : Nat} (h1 : Padd x y a) (h2 : Padd x y b) : a = b ∨ ((FloatKind.f64.format.read a).isNaN = true ∧ (FloatKind.f64.format.read b).isNaN = true) := by
  rcases h1 with h1 | ⟨h1, n1⟩ <;> rcases h2 with h2 | ⟨h2, n2⟩
  · rw [h1] at h2; exact Or.inl (Option.some.inj h2)
  · rw [h1] at h2; exact absurd h2 (by simp)
  · rw [h1] at h2; exact absurd h2 (by simp)
  · exact Or.inr ⟨n1, n2⟩
/-- what x mul y comes to in a world -/
def mulV (x y : Nat) (w : World) : Nat := match FloatKind.f64.format.mul x y with | some r => r | none => nanQ x y w
def mulW (x y : Nat) (w : World) : World := match FloatKind.f64.format.mul x y with | some _ => w | none => w.drew
def Pmul (x y r : Nat) : Prop := FloatKind.f64.format.mul x y = some r ∨ (FloatKind.f64.format.mul x y = none ∧ (FloatKind.f64.format.read r).isNaN = true)
theorem mulV_p (x y : Nat) (w : World) : Pmul x y (mulV x y w) := by
  unfold Pmul mulV
  cases h : FloatKind.f64.format.mul x y with
  | some r => exact Or.inl rfl
  | none => exact Or.inr ⟨rfl, nanQ_nan x y w⟩
theorem mulW_below (x y : Nat) (w : World) : Below w.heap.size w (mulW x y w) := by
  unfold mulW
  cases FloatKind.f64.format.mul x y with
  | some r => exact Below.refl _ _
  | none => exact (Below.refl _ _).drew
theorem run_mulV (t : TypeId) (x y : Nat) (P : Program) (w : World) : (binOp .mul t (.float .f64 x) (.float .f64 y)).run P w = .ok (.float .f64 (mulV x y w)) (mulW x y w) := by
  unfold mulV mulW
  cases h : FloatKind.f64.format.mul x y with
  | some r => simp [binOp, Op.floatArith, h]
  | none => simp [binOp, Op.floatArith, h, Question.forced, nanQ]
theorem Pmul.two {x y a b : Nat} (h1 : Pmul x y a) (h2 : Pmul x y b) : a = b ∨ ((FloatKind.f64.format.read a).isNaN = true ∧ (FloatKind.f64.format.read b).isNaN = true) := by
  rcases h1 with h1 | ⟨h1, n1⟩ <;> rcases h2 with h2 | ⟨h2, n2⟩
  · rw [h1] at h2; exact Or.inl (Option.some.inj h2)
  · rw [h1] at h2; exact absurd h2 (by simp)
  · rw [h1] at h2; exact absurd h2 (by simp)
  · exact Or.inr ⟨n1, n2⟩
theorem inv_zero {r : Nat} (h : (FloatKind.f64.format.order r 0 == some .eq) = true) : ∃ v, FloatKind.f64.format.div 4607182418800017408 r = some v ∧ (FloatKind.f64.format.order v v == some .eq) = true := by
  have h0 : (FloatKind.f64.format.read r).isZero = true := by
    have h2 : FloatKind.f64.format.read 0 = .number false 0 (-1074) := by decide
    have h3 : ((FloatKind.f64.format.read r).order (.number false 0 (-1074)) == some .eq) = true := by rw [← h2]; exact h
    rw [order_nought] at h3
    exact h3
  have h1 : FloatKind.f64.format.read 4607182418800017408 = .number false 4503599627370496 (-52) := by decide
  show ∃ v, ((FloatKind.f64.format.read 4607182418800017408).quotient (FloatKind.f64.format.fractionBits + 2) (FloatKind.f64.format.read r)).map FloatKind.f64.format.write = some v ∧ _
  rw [h1]
  cases hr : FloatKind.f64.format.read r with
  | number s m i =>
    have hm : m = 0 := by rw [hr] at h0; unfold Ieee.Datum.isZero at h0; split at h0 <;> simp_all
    subst hm
    cases s
    · exact ⟨_, rfl, by decide +kernel⟩
    · exact ⟨_, rfl, by decide +kernel⟩
  | infinity s => rw [hr] at h0; exact absurd h0 (by simp [Ieee.Datum.isZero])
  | nan s u => rw [hr] at h0; exact absurd h0 (by simp [Ieee.Datum.isZero])
theorem run_quo_some (t : TypeId) (x y v : Nat) (P : Program) (w : World) (h : FloatKind.f64.format.div x y = some v) : (binOp .quo t (.float .f64 x) (.float .f64 y)).run P w = .ok (.float .f64 v) w := by
  simp [binOp, Op.floatArith, h]
set_option maxRecDepth 100000 in
set_option maxHeartbeats 6400000 in
theorem floatF12 (x y : Nat) (w : World) : Calls Tryz.prog 51 #[.float .f64 x, .float .f64 y] w fun e w' => e = .returned (.bool (feq x y)) ∧ Below w.heap.size w w' := by
  have HE : Hid (feq x y = ((FloatKind.f64.format.order x y == some .eq) || ((FloatKind.f64.format.read x).isNaN && (FloatKind.f64.format.read y).isNaN))) := rfl
  have HB : Hid (∀ o, Below w.heap.size w (w.alloc o)) := fun o => belowA w o
  have HR : Hid (Below w.heap.size w w) := Below.refl _ _
  have h1 := oself x
  have h2 := oself y
  generalize (FloatKind.f64.format.read x).isNaN = b1 at *
  generalize (FloatKind.f64.format.read y).isNaN = b2 at *
  obtain ⟨r, hr⟩ : ∃ r, r = feq x y := ⟨_, rfl⟩
  rw [← hr] at HE ⊢
  clear hr
  cases h3 : (FloatKind.f64.format.order x y == some .eq) <;> cases b1 <;> cases b2
  all_goals
    go_enter Tryz.func51, Tryz.ntmps51
    go_wp2
    go_ret
    exact ⟨by rw [HE.out, h3]; rfl, HR.out⟩
set_option maxRecDepth 100000 in
set_option maxHeartbeats 6400000 in
theorem mathNaN (x : Nat) (w : World) : Calls Tryz.prog 89 #[.float .f64 x] w fun e w' => e = .returned (.bool (FloatKind.f64.format.read x).isNaN) ∧ w' = w := by
  have h1 := oself x
  go_enter Tryz.func89, Tryz.ntmps89
  go_wp2
  go_ret
  exact ⟨rfl, rfl⟩
set_option maxRecDepth 100000 in
set_option maxHeartbeats 6400000 in
theorem floatsSame (x y : Nat) (w : World) : Calls Tryz.prog 50 #[.agg #[], .float .f64 x, .float .f64 y] w fun e w' => e = .returned (.bool (feq x y)) ∧ Below w.heap.size w w' := by
  have HE : Hid (feq x y = ((FloatKind.f64.format.order x y == some .eq) || ((FloatKind.f64.format.read x).isNaN && (FloatKind.f64.format.read y).isNaN))) := rfl
  have HB : Hid (∀ o, Below w.heap.size w (w.alloc o)) := fun o => belowA w o
  have HR : Hid (Below w.heap.size w w) := Below.refl _ _
  have C1 := mathNaN x
  have C2 := mathNaN y
  generalize (FloatKind.f64.format.read x).isNaN = b1 at *
  generalize (FloatKind.f64.format.read y).isNaN = b2 at *
  obtain ⟨r, hr⟩ : ∃ r, r = feq x y := ⟨_, rfl⟩
  rw [← hr] at HE ⊢
  clear hr
  cases h3 : (FloatKind.f64.format.order x y == some .eq) <;> cases b1 <;> cases b2
  all_goals
    go_enter Tryz.func50, Tryz.ntmps50
    go_wp2_with (go_at_call 89; (first | refine (C1 _).mono ?_ | refine (C2 _).mono ?_); rintro e w' ⟨rfl, rfl⟩)
    go_ret
    exact ⟨by rw [HE.out, h3]; rfl, HB.out _⟩
set_option maxRecDepth 100000 in
set_option maxHeartbeats 6400000 in
theorem floatsZero (w : World) : Calls Tryz.prog 45 #[.agg #[]] w fun e w' => e = .returned (.float .f64 0) ∧ Below w.heap.size w w' := by
  have HB : Hid (∀ o, Below w.heap.size w (w.alloc o)) := fun o => belowA w o
  go_enter Tryz.func45, Tryz.ntmps45
  go_wp2
  go_ret
  exact ⟨rfl, HB.out _⟩
set_option maxRecDepth 100000 in
set_option maxHeartbeats 6400000 in
theorem floatsOne (w : World) : Calls Tryz.prog 46 #[.agg #[]] w fun e w' => e = .returned (.float .f64 4607182418800017408) ∧ Below w.heap.size w w' := by
  have HB : Hid (∀ o, Below w.heap.size w (w.alloc o)) := fun o => belowA w o
  go_enter Tryz.func46, Tryz.ntmps46
  go_wp2
  go_ret
  exact ⟨rfl, HB.out _⟩
set_option maxRecDepth 100000 in
set_option maxHeartbeats 6400000 in
theorem floatsAdd (x y : Nat) (w : World) : Calls Tryz.prog 48 #[.agg #[], .float .f64 x, .float .f64 y] w fun e w' => ∃ r, e = .returned (.float .f64 r) ∧ Padd x y r ∧ Below w.heap.size w w' := by
  have hrun := fun w => run_addV 53 x y Tryz.prog w
  have HB : Hid (∀ o, Below w.heap.size w (addW x y (w.alloc o))) := fun o => bstep (belowA w o) (addW_below _ _ _)
  have HP : Hid (∀ o, Padd x y (addV x y (w.alloc o))) := fun o => addV_p _ _ _
  go_enter Tryz.func48, Tryz.ntmps48
  go_wp2
  go_ret
  exact ⟨_, rfl, HP.out _, HB.out _⟩
set_option maxRecDepth 100000 in
set_option maxHeartbeats 6400000 in
theorem floatsMul (x y : Nat) (w : World) : Calls Tryz.prog 49 #[.agg #[], .float .f64 x, .float .f64 y] w fun e w' => ∃ r, e = .returned (.float .f64 r) ∧ Pmul x y r ∧ Below w.heap.size w w' := by
  have hrun := fun w => run_mulV 53 x y Tryz.prog w
  have HB : Hid (∀ o, Below w.heap.size w (mulW x y (w.alloc o))) := fun o => bstep (belowA w o) (mulW_below _ _ _)
  have HP : Hid (∀ o, Pmul x y (mulV x y (w.alloc o))) := fun o => mulV_p _ _ _
  go_enter Tryz.func49, Tryz.ntmps49
  go_wp2
  go_ret
  exact ⟨_, rfl, HP.out _, HB.out _⟩
set_option maxRecDepth 100000 in
set_option maxHeartbeats 6400000 in
theorem exact12 {a b : Nat} (h : a = b ∨ ((FloatKind.f64.format.read a).isNaN = true ∧ (FloatKind.f64.format.read b).isNaN = true)) (w : World) : Calls Tryz.prog 47 #[.float .f64 a, .float .f64 b] w fun e w' => e = .returned (.bool true) ∧ Below w.heap.size w w' := by
  have hf : feq a b = true := by
    rcases h with rfl | ⟨h1, h2⟩
    · exact feq_self a
    · unfold feq; rw [h1, h2, Bool.and_self, Bool.or_true]
  have CF := floatF12 a b
  rw [hf] at CF
  clear hf
  have HR : Hid (Below w.heap.size w w) := Below.refl _ _
  cases hz : (FloatKind.f64.format.order a 0 == some .eq) with
  | false =>
    have hz2 : (FloatKind.f64.format.order a 0 != some .eq) = true := by unfold bne; rw [hz]; rfl
    clear h hz
    go_enter Tryz.func47, Tryz.ntmps47
    go_wp2_with fail
    refine (CF _).mono ?_
    rintro e w1 ⟨rfl, b1⟩
    have HB : Hid (Below w.heap.size w w1) := b1
    clear CF b1
    go_wp2
    go_ret
    exact ⟨rfl, HB.out⟩
  | true =>
    have hab : a = b := by
      rcases h with rfl | ⟨h1, h2⟩
      · rfl
      · rw [onan h1] at hz; exact absurd hz (by simp)
    subst hab
    obtain ⟨v, hv, hvv⟩ := inv_zero hz
    have hz2 : (FloatKind.f64.format.order a 0 != some .eq) = false := by unfold bne; rw [hz]; rfl
    have hrun := fun w => run_quo_some 53 4607182418800017408 a v Tryz.prog w hv
    clear h hz hv
    go_enter Tryz.func47, Tryz.ntmps47
    go_wp2_with fail
    refine (CF _).mono ?_
    rintro e w1 ⟨rfl, b1⟩
    have HB : Hid (Below w.heap.size w w1) := b1
    clear CF b1
    go_wp2
    go_ret
    exact ⟨rfl, HB.out⟩
end Go.Proofs.YtaafijifiiiblaaGreat
