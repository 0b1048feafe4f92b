/-
  Proved here: NearOrder of any four floats returns true, and writes nothing that was there.
-/
import Derived.Test.YtnlajeinegampaaNearB
namespace Go.Proofs.Ytnlajeinegampaa
open Go.RowKit

theorem ordD_nn {d e : Ieee.Datum} (h1 : d.isNaN = true) (h2 : e.isNaN = true) : ordD d e = 0 := by unfold ordD; rw [h1, h2]; rfl
theorem ordD_ny {d e : Ieee.Datum} (h1 : d.isNaN = true) (h2 : e.isNaN = false) : ordD d e = -1 := by unfold ordD; rw [h1, h2]; rfl
theorem ordD_yn {d e : Ieee.Datum} (h1 : d.isNaN = false) (h2 : e.isNaN = true) : ordD d e = 1 := by unfold ordD; rw [h1, h2]; rfl
def ordQ (p s : Bool) : Ordering → Int
  | .lt => -1
  | .gt => 1
  | .eq => if p = s then 0 else if p then -1 else 1
theorem ordD_of {d e : Ieee.Datum} {q : Ordering} (h1 : d.isNaN = false) (h2 : e.isNaN = false) (h3 : d.order e = some q) : ordD d e = ordQ d.neg e.neg q := by
  unfold ordD; rw [h1, h2, h3]; cases q <;> rfl

set_option maxRecDepth 100000 in
set_option maxHeartbeats 3200000 in
theorem ordRef (a b : Nat) (w : World) (ha : a < 18446744073709551616) (hb : b < 18446744073709551616) :
    Calls Try.prog 21 #[.float .f64 a, .float .f64 b] w fun e w' => e = .returned (.int .i64 (ordD (Ieee.double.read a) (Ieee.double.read b))) ∧ w' = w := by
  have ea : (FloatKind.f64.format.order a a != some .eq) = (Ieee.double.read a).isNaN := order_self _
  have eb : (FloatKind.f64.format.order b b != some .eq) = (Ieee.double.read b).isNaN := order_self _
  have ho : FloatKind.f64.format.order a b = (Ieee.double.read a).order (Ieee.double.read b) := rfl
  have sa := fun w => signbit_any a w ha
  have sb := fun w => signbit_any b w hb
  simp only [sgnb_neg ha] at sa
  simp only [sgnb_neg hb] at sb
  obtain ⟨r, hr⟩ : ∃ r, r = ordD (Ieee.double.read a) (Ieee.double.read b) := ⟨_, rfl⟩
  rw [← hr]
  generalize Ieee.double.read a = d at *
  generalize Ieee.double.read b = f at *
  cases h1 : d.isNaN
  · cases h2 : f.isNaN
    · cases h3 : d.order f with
      | none => cases d <;> cases f <;> simp_all [Ieee.Datum.order, Ieee.Datum.isNaN]
      | some q =>
        rw [ordD_of h1 h2 h3] at hr
        rw [h1] at ea
        rw [h2] at eb
        rw [h3] at ho
        clear h1 h2 h3
        cases q with
        | lt =>
          have HX : HidF ((.returned (.int .i64 (-1)) : Ending) = .returned (.int .i64 r)) := ⟨by rw [hr]; rfl⟩
          clear hr sa sb
          go_enter Try.func21, Try.ntmps21
          go_wp2
          go_ret
          exact ⟨HX.out, rfl⟩
        | gt =>
          have HX : HidF ((.returned (.int .i64 1) : Ending) = .returned (.int .i64 r)) := ⟨by rw [hr]; rfl⟩
          clear hr sa sb
          go_enter Try.func21, Try.ntmps21
          go_wp2
          go_ret
          exact ⟨HX.out, rfl⟩
        | eq =>
          have hr' : r = if d.neg = f.neg then 0 else if d.neg then -1 else 1 := hr
          clear hr
          generalize d.neg = p at *
          generalize f.neg = s at *
          obtain ⟨x, hx⟩ : ∃ x : Int, x = if p = s then 0 else if p then -1 else 1 := ⟨_, rfl⟩
          have HX : HidF ((.returned (.int .i64 x) : Ending) = .returned (.int .i64 r)) := ⟨by rw [hr', hx]⟩
          clear hr'
          cases p <;> cases s <;> simp only [if_true, if_false, Bool.false_eq_true, reduceCtorEq] at hx <;> subst hx
          all_goals
            go_enter Try.func21, Try.ntmps21
            go_wp2_with fail
            refine (sa _).mono ?_
            rintro e w1 ⟨rfl, rfl⟩
            go_wp2_with fail
            refine (sb _).mono ?_
            rintro e w1 ⟨rfl, rfl⟩
            clear sa sb
            go_wp2
            go_ret
            exact ⟨HX.out, rfl⟩
    · rw [ordD_yn h1 h2] at hr
      rw [h1] at ea
      rw [h2] at eb
      have HX : HidF ((.returned (.int .i64 1) : Ending) = .returned (.int .i64 r)) := ⟨by rw [hr]⟩
      clear h1 h2 hr sa sb ho
      go_enter Try.func21, Try.ntmps21
      go_wp2
      go_ret
      exact ⟨HX.out, rfl⟩
  · cases h2 : f.isNaN
    · rw [ordD_ny h1 h2] at hr
      rw [h1] at ea
      rw [h2] at eb
      have HX : HidF ((.returned (.int .i64 (-1)) : Ending) = .returned (.int .i64 r)) := ⟨by rw [hr]⟩
      clear h1 h2 hr sa sb ho
      go_enter Try.func21, Try.ntmps21
      go_wp2
      go_ret
      exact ⟨HX.out, rfl⟩
    · rw [ordD_nn h1 h2] at hr
      rw [h1] at ea
      rw [h2] at eb
      have HX : HidF ((.returned (.int .i64 0) : Ending) = .returned (.int .i64 r)) := ⟨by rw [hr]⟩
      clear h1 h2 hr sa sb ho
      go_enter Try.func21, Try.ntmps21
      go_wp2
      go_ret
      exact ⟨HX.out, rfl⟩

/-- What a conversion of a NaN draws. -/
def nanC (b : Nat) (w : World) : Nat := Question.cut (.nanConv .f64 b) (w.tape w.drawn (.nanConv .f64 b))
theorem nanC_lt (b : Nat) (w : World) : nanC b w < 18446744073709551616 := by
  unfold nanC
  generalize w.tape w.drawn (.nanConv .f64 b) = t
  show (t % 2) * 2 ^ 63 + 0x7ff0000000000000 + 1 + (t / 2) % (2 ^ 52 - 1) < 18446744073709551616
  omega
theorem nanC_nan (b : Nat) (w : World) : (Ieee.double.read (nanC b w)).isNaN = true := by
  unfold nanC
  generalize w.tape w.drawn (.nanConv .f64 b) = t
  show (Ieee.double.read ((t % 2) * 2 ^ 63 + 0x7ff0000000000000 + 1 + (t / 2) % (2 ^ 52 - 1))).isNaN = true
  obtain ⟨r, hr⟩ : ∃ r, r = (t / 2) % (2 ^ 52 - 1) := ⟨_, rfl⟩
  have hr1 : r < 2 ^ 52 - 1 := by rw [hr]; exact Nat.mod_lt _ (by decide)
  rw [← hr]
  unfold Ieee.Format.read
  rw [dsw, dbin, dinf]
  have e : (t % 2 * 2 ^ 63 + 0x7ff0000000000000 + 1 + r) % 2 ^ 63 = 0x7ff0000000000000 + 1 + r := by omega
  dsimp only
  rw [e, if_neg (by omega), if_neg (by omega), if_neg (by omega)]
  rfl
theorem run_conv_nan (src : TypeId) (b : Nat) (w : World) (hs : (Try.prog.underlying src).isSome = true) (hn : (Ieee.single.read b).isNaN = true) : (convert src 38 (.float .f32 b)).run Try.prog w = .ok (.float .f64 (nanC b w)) w.drew := by
  obtain ⟨u, hs'⟩ := Option.isSome_iff_exists.1 hs
  have hd : FloatKind.f32.decode b = Ieee.single.read b := rfl
  cases h : Ieee.single.read b with
  | number => rw [h] at hn; cases hn
  | infinity => rw [h] at hn; cases hn
  | nan s t =>
    rw [h] at hd
    cases u <;> simp [convert, run_underlying hs', run_underlying Try.underlying38, Conv.floatToFloat, hd, Question.forced, nanC]
end Go.Proofs.Ytnlajeinegampaa
