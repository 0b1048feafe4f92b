/-
  Proved here: what Around of package near and the document's Around answer: one and the same.
  Proved here: what math's IsNaN, Abs, IsInf answer of floats by their bits.
-/
import Derived.Test.YtbcddjibgaccpaaGreatDoorNearAR
import Derived.Deep.QuietTactic
namespace Go.Proofs.YtbcddjibgaccpaaGreatDoor
open Go.RowKit

@[local go_sem] theorem run_f64from4 (b : Nat) (w : World) : (callFunc 18 #[.int .u64 (b : Int)]).run Tryz.prog w = .ok (.value (.float .f64 b)) w := run_f64from2 b w

section
variable {P : Program} {ts : Array TypeId} {ty : TypeId} {w : World} {x y : Nat}
theorem min_lt' (h : FloatKind.f64.format.order x y = some .lt) : (Builtin.min_ ts ty #[.float .f64 x, .float .f64 y]).run P w = .ok (.float .f64 x) w := by simp [Builtin.min_, Builtin.min2, h]
theorem min_gt' (h : FloatKind.f64.format.order x y = some .gt) : (Builtin.min_ ts ty #[.float .f64 x, .float .f64 y]).run P w = .ok (.float .f64 y) w := by simp [Builtin.min_, Builtin.min2, h]
theorem min_eq' (h : FloatKind.f64.format.order x x = some .eq) : (Builtin.min_ ts ty #[.float .f64 x, .float .f64 x]).run P w = .ok (.float .f64 x) w := by simp [Builtin.min_, Builtin.min2, h]
theorem max_lt' (h : FloatKind.f64.format.order x y = some .lt) : (Builtin.max_ ts ty #[.float .f64 x, .float .f64 y]).run P w = .ok (.float .f64 y) w := by simp [Builtin.max_, Builtin.max2, h]
theorem max_gt' (h : FloatKind.f64.format.order x y = some .gt) : (Builtin.max_ ts ty #[.float .f64 x, .float .f64 y]).run P w = .ok (.float .f64 x) w := by simp [Builtin.max_, Builtin.max2, h]
theorem max_eq' (h : FloatKind.f64.format.order x x = some .eq) : (Builtin.max_ ts ty #[.float .f64 x, .float .f64 x]).run P w = .ok (.float .f64 x) w := by simp [Builtin.max_, Builtin.max2, h]
end

def arLo (s : Bool) (b c : Nat) : Nat := if s then 2 ^ 63 + c else b
def arHi (s : Bool) (b c : Nat) : Nat := if s then (if b = 0 then 0 else 2 ^ 63 + b) else c

theorem word_true (b : Nat) : Ieee.double.word true b = 2 ^ 63 + b := rfl
theorem word_false (b : Nat) : Ieee.double.word false b = b := rfl

theorem minmax {s : Bool} {b c : Nat} (hbc : c = b ∨ c = b + 1) (hc : c ≤ 9218868437227405312) (hs : s = true → c ≠ 0) (P : Program) (ts : Array TypeId) (ty : TypeId) (w : World) :
    (Builtin.min_ ts ty #[.float .f64 (sidedF s b), .float .f64 (sidedF s c)]).run P w = .ok (.float .f64 (arLo s b c)) w ∧ (Builtin.max_ ts ty #[.float .f64 (sidedF s b), .float .f64 (sidedF s c)]).run P w = .ok (.float .f64 (arHi s b c)) w := by
  cases s with
  | false =>
    have e1 : ∀ z, sidedF false z = z := fun z => if_neg (by simp)
    rw [e1, e1]
    show _ = Result.ok (Value.float .f64 b) w ∧ _ = Result.ok (Value.float .f64 c) w
    rcases hbc with h | h
    · subst h
      have ho : FloatKind.f64.format.order c c = some .eq := order_same false (by omega)
      exact ⟨min_eq' ho, max_eq' ho⟩
    · have ho : FloatKind.f64.format.order b c = some .lt := order_rise false (b := b) (c := c) (by omega) hc
      exact ⟨min_lt' ho, max_lt' ho⟩
  | true =>
    have hc0 := hs rfl
    have e2 : sidedF true c = 2 ^ 63 + c := if_pos ⟨rfl, hc0⟩
    rw [e2]
    by_cases hb : b = 0
    · have e1 : sidedF true b = 0 := by rw [hb]; exact if_neg (by simp)
      have ho : FloatKind.f64.format.order 0 (2 ^ 63 + c) = some .gt := (order_below (c := c) (by omega) hc).2
      rw [e1, show arLo true b c = 2 ^ 63 + c from rfl, show arHi true b c = 0 by unfold arHi; rw [if_pos rfl, if_pos hb]]
      exact ⟨min_gt' ho, max_gt' ho⟩
    · have e1 : sidedF true b = 2 ^ 63 + b := if_pos ⟨rfl, hb⟩
      rw [e1, show arLo true b c = 2 ^ 63 + c from rfl, show arHi true b c = 2 ^ 63 + b by unfold arHi; rw [if_pos rfl, if_neg hb]]
      rcases hbc with h | h
      · subst h
        have ho : FloatKind.f64.format.order (2 ^ 63 + c) (2 ^ 63 + c) = some .eq := order_same true (by omega)
        exact ⟨min_eq' ho, max_eq' ho⟩
      · have ho : FloatKind.f64.format.order (2 ^ 63 + b) (2 ^ 63 + c) = some .gt := order_rise true (b := b) (c := c) (by omega) hc
        exact ⟨min_gt' ho, max_gt' ho⟩

theorem floor_two {p INF n D b q : Nat} {past : Int} (hD : 0 < D) (h : PlaceOk p INF n D q past) (hf : FloorOk p INF n D b) : (fval p INF * D ≤ n → b = INF) ∧ (¬ fval p INF * D ≤ n → b = q) := by
  have h0 := floor_one hD h hf
  exact ⟨fun hc => by rw [if_pos hc] at h0; exact h0, fun hc => by rw [if_neg hc] at h0; exact h0⟩
/-- What is known of a place. -/
theorem place_facts {z : Int} (hz : z = -1074) {N D fa : Nat} {fb : Int} (hD : 0 < D) (hf : (fa, fb) = findF 53 (-1074) 1024 N D) : PlaceOk 52 9218868437227405312 (N * 2 ^ (-z).toNat) D fa fb := by
  have hi : infF 53 z 1024 = 9218868437227405312 := by rw [hz]; decide
  have hf2 : findF 53 z 1024 N D = (fa, fb) := by rw [hz, hf]
  have ho := find_ok (N := N) (D := D) (d := 53) (l := z) (t := 1024) (by omega) (by decide) (by omega) (by omega) (by decide)
  rw [hi, hf2] at ho
  exact ho
theorem above_pos {z : Int} (hz : z = -1074) {N D fa : Nat} {fb : Int} (hD : 0 < D) (hN : N ≠ 0) (hf : (fa, fb) = findF 53 (-1074) 1024 N D) : aboveF (fa, fb) ≠ 0 := by
  have ho := place_facts hz hD hf
  unfold aboveF
  by_cases hb : fb = 0
  · rw [if_pos hb]
    intro h0
    have h0' : fa = 0 := h0
    have hn : 0 < N * 2 ^ (-z).toNat := Nat.mul_pos (by omega) (Nat.two_pow_pos _)
    by_cases hc : fval 52 9218868437227405312 * D ≤ N * 2 ^ (-z).toNat
    · have := (ho.far hc).2; omega
    · have := (ho.just (by omega)).1 hb
      rw [h0', show fval 52 0 = 0 from rfl, Nat.zero_mul] at this
      omega
  · rw [if_neg hb]; omega
theorem above_le (p : Nat × Int) : aboveF p = p.1 ∨ aboveF p = p.1 + 1 := by unfold aboveF; split; exact Or.inl rfl; exact Or.inr rfl

theorem around_near (na : Bool) (po qo : Option Addr) (pl pc ql qc : Nat) (xs ys : List Nat) (w : World) (hu : Num w (.slice po pl pc) xs) (hv : Num w (.slice qo ql qc) ys) (lx : xs.length ≤ 1000) (ly : ys.length ≤ 1000) (s : Bool) (hs : s = decide (cmpZ (zv na (val xs)) 0 < 0)) (fa : Nat) (fb : Int) (hf0 : (fa, fb) = findF 53 (-1074) 1024 (val xs) (undN (val ys))) :
    Calls Tryz.prog 13 #[.agg #[.bool na, .slice po pl pc, .slice qo ql qc]] w fun e w' => e = .returned (.tuple #[.float .f64 (arLo s fa (aboveF (fa, fb))), .float .f64 (arHi s fa (aboveF (fa, fb)))]) ∧ Below w.heap.size w w' := by
  have hfl := find_lt (val xs) (undN (val ys))
  rw [← hf0] at hfl
  have hN : s = true → val xs ≠ 0 := by
    intro h h0
    rw [hs, h0] at h
    have h1 := of_decide_eq_true h
    have h2 : zv na 0 = 0 := by unfold zv; cases na <;> rfl
    rw [h2] at h1
    exact absurd h1 (by decide)
  have hal : aboveF (fa, fb) ≤ 9218868437227405312 := by have := above_le (fa, fb); simp only at this hfl; omega
  have hmm := minmax (s := s) (b := fa) (c := aboveF (fa, fb)) (above_le (fa, fb)) hal (fun h => above_pos rfl (undN_pos _) (hN h) hf0)
  exact around_any _ _ _ _ na po qo pl pc ql qc xs ys w hu hv lx ly fa fb hf0 (by rw [← hs]) (by rw [← hs]) (fun P ts ty w => (hmm P ts ty w).1) (fun P ts ty w => (hmm P ts ty w).2)

end Go.Proofs.YtbcddjibgaccpaaGreatDoor

namespace Go.Proofs.YtbcddjibgaccpaaGreatDoor
open Go.RowKit

@[local go_sem] theorem run_f64from5 (b : Nat) (w : World) : (callFunc 18 #[.int .u64 (b : Int)]).run Tryz.prog w = .ok (.value (.float .f64 b)) w := run_f64from2 b w
@[local go_sem] theorem run_f64bits3 (b : Nat) (w : World) : (callFunc 10 #[.float .f64 b]).run Tryz.prog w = .ok (.value (.int .u64 (b : Int))) w := by
  rw [run_callFunc_extern Tryz.func10 (by kernel_rfl) (by kernel_rfl) (by kernel_rfl) (e := Extern.MathFloatBits.float64bits) (by kernel_rfl)]
  rfl

theorem isNaN64 (b : Nat) (w : World) :
    Calls Tryz.prog 32 #[.float .f64 b] w fun e w' => e = .returned (.bool (Ieee.double.read b).isNaN) ∧ w' = w := by
  have hz : (FloatKind.f64.format.order b b != some .eq) = (Ieee.double.read b).isNaN := order_self _
  go_enter Tryz.func32, Tryz.ntmps32
  go_wp2
  go_ret
  exact ⟨rfl, rfl⟩

theorem andNot_top {b : Nat} (hb : b < 18446744073709551616) : bits .andNot .u64 (b : Int) 9223372036854775808 = ((b % 2 ^ 63 : Nat) : Int) := by
  have h1 : (~~~ (BitVec.ofInt 64 9223372036854775808)).toNat = 2 ^ 63 - 1 := by decide
  have h2 : (BitVec.ofInt 64 (b : Int)).toNat = b := by
    rw [BitVec.toNat_ofInt]
    omega
  show IntKind.u64.wrap ((((BitVec.ofInt 64 (b : Int)) &&& ~~~ (BitVec.ofInt 64 9223372036854775808)).toNat : Nat) : Int) = _
  rw [BitVec.toNat_and, h1, h2, Nat.and_two_pow_sub_one_eq_mod, IntKind.wrap_u64]
  omega

set_option maxRecDepth 100000 in
theorem abs64 (b : Nat) (w : World) (hb : b < 18446744073709551616) :
    Calls Tryz.prog 35 #[.float .f64 b] w fun e w' => e = .returned (.float .f64 (b % 2 ^ 63)) ∧ w' = w := by
  have hbits := andNot_top hb
  obtain ⟨r, hr⟩ : ∃ r, r = b % 2 ^ 63 := ⟨_, rfl⟩
  rw [← hr] at hbits ⊢
  clear hr
  go_enter Tryz.func35, Tryz.ntmps35
  go_wp2
  go_ret
  exact ⟨rfl, rfl⟩

/-- A float's word is its sign and its size. -/
theorem word_split {b : Nat} (hb : b < 18446744073709551616) : b = Ieee.double.word (sgnb b) (b % 2 ^ 63) := by
  unfold Ieee.Format.word sgnb
  rw [dsw]
  by_cases h : 2 ^ 63 ≤ b
  · rw [decide_eq_true h, if_pos rfl]; omega
  · rw [decide_eq_false h, if_neg (by simp)]; omega

theorem nan_word {b : Nat} : (Ieee.double.read b).isNaN = decide (9218868437227405312 < b % 2 ^ 63) := by
  unfold Ieee.Format.read
  rw [dsw, dbin, dinf]
  dsimp only
  obtain ⟨r, hr⟩ : ∃ r, r = b % 2 ^ 63 := ⟨_, rfl⟩
  rw [← hr]
  split
  · rw [decide_eq_false (by omega)]; rfl
  · split
    · rw [decide_eq_false (by omega)]; rfl
    · split
      · rw [decide_eq_false (by omega)]; rfl
      · rw [decide_eq_true (by omega)]; rfl

set_option maxRecDepth 100000 in
set_option maxHeartbeats 1600000 in
theorem isInf64 (b : Nat) (w : World) (hb : b < 18446744073709551616) (hn : b % 2 ^ 63 ≤ 9218868437227405312) :
    Calls Tryz.prog 33 #[.float .f64 b, .int .i64 0] w fun e w' => e = .returned (.bool (decide (b % 2 ^ 63 = 9218868437227405312))) ∧ w' = w := by
  have ha := fun w => abs64 b w hb
  obtain ⟨r, hr⟩ : ∃ r, r = b % 2 ^ 63 := ⟨_, rfl⟩
  rw [← hr] at ha hn ⊢
  have ho : (FloatKind.f64.format.order r 9218868437227405311 == some .gt) = decide (r = 9218868437227405312) := by
    by_cases h : r = 9218868437227405312
    · rw [decide_eq_true h, h]; decide
    · rw [decide_eq_false h]
      rcases Nat.lt_or_ge r 9218868437227405311 with h2 | h2
      · have h3 : FloatKind.f64.format.order r 9218868437227405311 = some .lt := order_rise false (b := r) (c := 9218868437227405311) h2 (by decide)
        rw [h3]; rfl
      · rw [show r = 9218868437227405311 by omega]; decide
  obtain ⟨d, hd⟩ : ∃ d, d = decide (r = 9218868437227405312) := ⟨_, rfl⟩
  rw [← hd] at ho ⊢
  clear hr hn hd
  go_enter Tryz.func33, Tryz.ntmps33
  go_wp2_with fail
  refine (ha _).mono ?_
  rintro e w1 ⟨rfl, rfl⟩
  clear ha
  go_wp2
  go_ret
  exact ⟨rfl, rfl⟩

set_option maxRecDepth 100000 in
set_option maxHeartbeats 1600000 in
theorem partsD (u k : Nat) (w : World) (h1 : u < 2 ^ 53) (h2 : k = 0 ∨ 2 ^ 52 ≤ u) (hk : k ≤ 2046) :
    Calls Tryz.prog 34 #[.agg #[.int .i64 53, .int .i64 (-1074), .int .i64 1024], .int .u64 ((u + k * 2 ^ 52 : Nat) : Int)] w fun e w' => e = .returned (.tuple #[.int .u64 (u : Int), .int .i64 (-1074 + (k : Int))]) ∧ Below w.heap.size w w' := by
  obtain ⟨r, hr⟩ : ∃ r, r = u + k * 2 ^ 52 := ⟨_, rfl⟩
  rw [← hr]
  obtain ⟨q, hq⟩ : ∃ q : Nat, (r : Int) / 4503599627370496 = (q : Int) := ⟨r / 4503599627370496, by omega⟩
  have hq2 : (r : Int) / 2 ^ 52 = (q : Int) := hq
  have hqk : q = k + 1 ∨ (q = 0 ∧ k = 0) := by omega
  obtain ⟨KK, hKK⟩ : ∃ z : Nat, (k : Int) * 4503599627370496 = (z : Int) := ⟨k * 4503599627370496, by omega⟩
  have hKK2 : (k : Int) * 2 ^ 52 = (KK : Int) := hKK
  have hKw : IntKind.u64.wrap (KK : Int) = (KK : Int) := by rw [IntKind.wrap_u64]; omega
  have hsub : (r : Int) - (KK : Int) = (u : Int) := by omega
  have huw : IntKind.u64.wrap (u : Int) = (u : Int) := by rw [IntKind.wrap_u64]; omega
  have hkw : IntKind.u64.wrap (k : Int) = (k : Int) := by rw [IntKind.wrap_u64]; omega
  have hki : IntKind.i64.wrap (k : Int) = (k : Int) := by rw [IntKind.wrap_i64]; omega
  clear hr h1 h2
  have hc : KCell (w.alloc (.cells #[.int .i64 53, .int .i64 (-1074), .int .i64 1024] 55)) w.heap.size (.int .i64 53) (.int .i64 (-1074)) (.int .i64 1024) := kcell_new _ rfl
  obtain ⟨c0, c1, c2⟩ := hc.cells
  clear hc
  rcases hqk with h | ⟨h, h'⟩
  · have hlt : ¬ (q : Int) < 1 := by omega
    have hq1 : (q : Int) - 1 = (k : Int) := by omega
    clear h
    go_enter Tryz.func34, Tryz.ntmps34
    go_wp2
    go_quiet (first | fail)
    go_wp2
    go_ret2
    exact ⟨rfl, below_drewN (belowA _ _) _⟩
  · subst h
    subst h'
    obtain rfl : r = u := by omega
    clear hsub hKK hKK2 hKw
    go_enter Tryz.func34, Tryz.ntmps34
    go_wp2
    go_quiet (first | fail)
    go_wp2
    go_ret2
    exact ⟨rfl, below_drewN (belowA _ _) _⟩
end Go.Proofs.YtbcddjibgaccpaaGreatDoor
