/-
  Proved here: what Around of package near and the document's Around answer: one and the same.
-/
import Derived.Test.YtjfihcnjhjgdpaaNearAR
namespace Go.Proofs.Ytjfihcnjhjgdpaa
open Go.RowKit

@[local go_sem] theorem run_f64from4 (b : Nat) (w : World) : (callFunc 40 #[.int .u64 (b : Int)]).run Try.prog w = .ok (.value (.float .f64 b)) w := run_f64from2 b w

section
variable {P : Program} {ts : Array TypeId} {ty : TypeId} {w : World} {x y : Nat}
theorem min_lt' (h : FloatKind.f64.format.order x y = some .lt) : (Builtin.min_ ts ty #[.float .f64 x, .float .f64 y]).run P w = .ok (.float .f64 x) w := by simp [Builtin.min_, Builtin.min2, h]
theorem min_gt' (h : FloatKind.f64.format.order x y = some .gt) : (Builtin.min_ ts ty #[.float .f64 x, .float .f64 y]).run P w = .ok (.float .f64 y) w := by simp [Builtin.min_, Builtin.min2, h]
theorem min_eq' (h : FloatKind.f64.format.order x x = some .eq) : (Builtin.min_ ts ty #[.float .f64 x, .float .f64 x]).run P w = .ok (.float .f64 x) w := by simp [Builtin.min_, Builtin.min2, h]
theorem max_lt' (h : FloatKind.f64.format.order x y = some .lt) : (Builtin.max_ ts ty #[.float .f64 x, .float .f64 y]).run P w = .ok (.float .f64 y) w := by simp [Builtin.max_, Builtin.max2, h]
theorem max_gt' (h : FloatKind.f64.format.order x y = some .gt) : (Builtin.max_ ts ty #[.float .f64 x, .float .f64 y]).run P w = .ok (.float .f64 x) w := by simp [Builtin.max_, Builtin.max2, h]
theorem max_eq' (h : FloatKind.f64.format.order x x = some .eq) : (Builtin.max_ ts ty #[.float .f64 x, .float .f64 x]).run P w = .ok (.float .f64 x) w := by simp [Builtin.max_, Builtin.max2, h]
end

def arLo (s : Bool) (b c : Nat) : Nat := if s then 2 ^ 63 + c else b
def arHi (s : Bool) (b c : Nat) : Nat := if s then (if b = 0 then 0 else 2 ^ 63 + b) else c

theorem word_true (b : Nat) : Ieee.double.word true b = 2 ^ 63 + b := rfl
theorem word_false (b : Nat) : Ieee.double.word false b = b := rfl

theorem minmax {s : Bool} {b c : Nat} (hbc : c = b ∨ c = b + 1) (hc : c ≤ 9218868437227405312) (hs : s = true → c ≠ 0) (P : Program) (ts : Array TypeId) (ty : TypeId) (w : World) :
    (Builtin.min_ ts ty #[.float .f64 (sidedF s b), .float .f64 (sidedF s c)]).run P w = .ok (.float .f64 (arLo s b c)) w ∧ (Builtin.max_ ts ty #[.float .f64 (sidedF s b), .float .f64 (sidedF s c)]).run P w = .ok (.float .f64 (arHi s b c)) w := by
  cases s with
  | false =>
    have e1 : ∀ z, sidedF false z = z := fun z => if_neg (by simp)
    rw [e1, e1]
    show _ = Result.ok (Value.float .f64 b) w ∧ _ = Result.ok (Value.float .f64 c) w
    rcases hbc with h | h
    · subst h
      have ho : FloatKind.f64.format.order c c = some .eq := order_same false (by omega)
      exact ⟨min_eq' ho, max_eq' ho⟩
    · have ho : FloatKind.f64.format.order b c = some .lt := order_rise false (b := b) (c := c) (by omega) hc
      exact ⟨min_lt' ho, max_lt' ho⟩
  | true =>
    have hc0 := hs rfl
    have e2 : sidedF true c = 2 ^ 63 + c := if_pos ⟨rfl, hc0⟩
    rw [e2]
    by_cases hb : b = 0
    · have e1 : sidedF true b = 0 := by rw [hb]; exact if_neg (by simp)
      have ho : FloatKind.f64.format.order 0 (2 ^ 63 + c) = some .gt := (order_below (c := c) (by omega) hc).2
      rw [e1, show arLo true b c = 2 ^ 63 + c from rfl, show arHi true b c = 0 by unfold arHi; rw [if_pos rfl, if_pos hb]]
      exact ⟨min_gt' ho, max_gt' ho⟩
    · have e1 : sidedF true b = 2 ^ 63 + b := if_pos ⟨rfl, hb⟩
      rw [e1, show arLo true b c = 2 ^ 63 + c from rfl, show arHi true b c = 2 ^ 63 + b by unfold arHi; rw [if_pos rfl, if_neg hb]]
      rcases hbc with h | h
      · subst h
        have ho : FloatKind.f64.format.order (2 ^ 63 + c) (2 ^ 63 + c) = some .eq := order_same true (by omega)
        exact ⟨min_eq' ho, max_eq' ho⟩
      · have ho : FloatKind.f64.format.order (2 ^ 63 + b) (2 ^ 63 + c) = some .gt := order_rise true (b := b) (c := c) (by omega) hc
        exact ⟨min_gt' ho, max_gt' ho⟩

theorem floor_two {p INF n D b q : Nat} {past : Int} (hD : 0 < D) (h : PlaceOk p INF n D q past) (hf : FloorOk p INF n D b) : (fval p INF * D ≤ n → b = INF) ∧ (¬ fval p INF * D ≤ n → b = q) := by
  have h0 := floor_one hD h hf
  exact ⟨fun hc => by rw [if_pos hc] at h0; exact h0, fun hc => by rw [if_neg hc] at h0; exact h0⟩
/-- What is known of a place. -/
theorem place_facts {z : Int} (hz : z = -1074) {N D fa : Nat} {fb : Int} (hD : 0 < D) (hf : (fa, fb) = findF 53 (-1074) 1024 N D) : PlaceOk 52 9218868437227405312 (N * 2 ^ (-z).toNat) D fa fb := by
  have hi : infF 53 z 1024 = 9218868437227405312 := by rw [hz]; decide
  have hf2 : findF 53 z 1024 N D = (fa, fb) := by rw [hz, hf]
  have ho := find_ok (N := N) (D := D) (d := 53) (l := z) (t := 1024) (by omega) (by decide) (by omega) (by omega) (by decide)
  rw [hi, hf2] at ho
  exact ho
theorem above_pos {z : Int} (hz : z = -1074) {N D fa : Nat} {fb : Int} (hD : 0 < D) (hN : N ≠ 0) (hf : (fa, fb) = findF 53 (-1074) 1024 N D) : aboveF (fa, fb) ≠ 0 := by
  have ho := place_facts hz hD hf
  unfold aboveF
  by_cases hb : fb = 0
  · rw [if_pos hb]
    intro h0
    have h0' : fa = 0 := h0
    have hn : 0 < N * 2 ^ (-z).toNat := Nat.mul_pos (by omega) (Nat.two_pow_pos _)
    by_cases hc : fval 52 9218868437227405312 * D ≤ N * 2 ^ (-z).toNat
    · have := (ho.far hc).2; omega
    · have := (ho.just (by omega)).1 hb
      rw [h0', show fval 52 0 = 0 from rfl, Nat.zero_mul] at this
      omega
  · rw [if_neg hb]; omega
theorem above_le (p : Nat × Int) : aboveF p = p.1 ∨ aboveF p = p.1 + 1 := by unfold aboveF; split; exact Or.inl rfl; exact Or.inr rfl

theorem around_near (na : Bool) (po qo : Option Addr) (pl pc ql qc : Nat) (xs ys : List Nat) (w : World) (hu : Num w (.slice po pl pc) xs) (hv : Num w (.slice qo ql qc) ys) (lx : xs.length ≤ 1000) (ly : ys.length ≤ 1000) (s : Bool) (hs : s = decide (cmpZ (zv na (val xs)) 0 < 0)) (fa : Nat) (fb : Int) (hf0 : (fa, fb) = findF 53 (-1074) 1024 (val xs) (undN (val ys))) :
    Calls Try.prog 15 #[.agg #[.bool na, .slice po pl pc, .slice qo ql qc]] w fun e w' => e = .returned (.tuple #[.float .f64 (arLo s fa (aboveF (fa, fb))), .float .f64 (arHi s fa (aboveF (fa, fb)))]) ∧ Below w.heap.size w w' := by
  have hfl := find_lt (val xs) (undN (val ys))
  rw [← hf0] at hfl
  have hN : s = true → val xs ≠ 0 := by
    intro h h0
    rw [hs, h0] at h
    have h1 := of_decide_eq_true h
    have h2 : zv na 0 = 0 := by unfold zv; cases na <;> rfl
    rw [h2] at h1
    exact absurd h1 (by decide)
  have hal : aboveF (fa, fb) ≤ 9218868437227405312 := by have := above_le (fa, fb); simp only at this hfl; omega
  have hmm := minmax (s := s) (b := fa) (c := aboveF (fa, fb)) (above_le (fa, fb)) hal (fun h => above_pos rfl (undN_pos _) (hN h) hf0)
  exact around_any _ _ _ _ na po qo pl pc ql qc xs ys w hu hv lx ly fa fb hf0 (by rw [← hs]) (by rw [← hs]) (fun P ts ty w => (hmm P ts ty w).1) (fun P ts ty w => (hmm P ts ty w).2)

set_option maxRecDepth 100000 in
set_option maxHeartbeats 6400000 in
theorem refAround (na : Bool) (po qo : Option Addr) (pl pc ql qc : Nat) (xs ys : List Nat) (w : World) (hu : Num w (.slice po pl pc) xs) (hv : Num w (.slice qo ql qc) ys) (lx : xs.length ≤ 1000) (ly : ys.length ≤ 1000) (s : Bool) (hs : s = decide (cmpZ (zv na (val xs)) 0 < 0)) (fa : Nat) (fb : Int) (hf0 : (fa, fb) = findF 53 (-1074) 1024 (val xs) (undN (val ys))) :
    Calls Try.prog 16 #[.agg #[.bool na, .slice po pl pc, .slice qo ql qc]] w fun e w' => e = .returned (.tuple #[.float .f64 (arLo s fa (aboveF (fa, fb))), .float .f64 (arHi s fa (aboveF (fa, fb)))]) ∧ Below w.heap.size w w' := by
  obtain ⟨z, hz⟩ : ∃ z : Int, z = -1074 := ⟨_, rfl⟩
  have hfl := fun w h1 h2 => floorRD z hz na po qo pl pc ql qc xs ys w h1 h2 lx ly
  have hju := fun b w h1 h2 hb => justRD z hz na po qo pl pc ql qc xs ys b w h1 h2 lx ly hb
  have hbe := fun w h1 => below_ref na po pl pc (.slice qo ql qc) xs w h1 lx
  rw [← hs] at hbe
  have ho := place_facts hz (undN_pos (val ys)) hf0
  have hDp := undN_pos (val ys)
  obtain ⟨n, hn⟩ : ∃ n, n = val xs * 2 ^ (-z).toNat := ⟨_, rfl⟩
  obtain ⟨D, hD⟩ : ∃ D, D = undN (val ys) := ⟨_, rfl⟩
  rw [← hn] at hfl hju ho
  rw [← hD] at hfl hju ho hDp
  have HO : Hid (PlaceOk 52 9218868437227405312 n D fa fb ∧ 0 < D) := ⟨ho, hDp⟩
  obtain ⟨c, hc⟩ : ∃ c, c = aboveF (fa, fb) := ⟨_, rfl⟩
  rw [← hc]
  have HC : Hid (c = if fb = 0 then fa else fa + 1) := hc
  clear ho hDp hn hD hz hs hf0 hc
  obtain ⟨W1, hW1⟩ : ∃ W1, W1 = w.alloc (.cells #[.bool na, .slice po pl pc, .slice qo ql qc] 29) := ⟨_, rfl⟩
  have hk : TCell W1 w.heap.size (.bool na) (.slice po pl pc) (.slice qo ql qc) := by rw [hW1]; exact tcell_new _ rfl
  have hb1 : Below w.heap.size w W1 := by rw [hW1]; exact belowA w _
  have HW1 : Hid (W1 = w.alloc (.cells #[.bool na, .slice po pl pc, .slice qo ql qc] 29)) := hW1
  replace hu := hu.below (Nat.le_refl _) hb1
  replace hv := hv.below (Nat.le_refl _) hb1
  clear hW1
  go_enter Try.func16, Try.ntmps16
  go_wp2_with fail
  rw [← HW1.out]
  obtain ⟨g, hg⟩ : ∃ g, g = w.heap.size := ⟨_, rfl⟩
  rw [← hg] at hk ⊢
  refine (kindRD _).mono ?_
  rintro e w2 ⟨rfl, b2⟩
  replace hk := hk.below b2
  replace hu := hu.below (Nat.le_refl _) b2
  replace hv := hv.below (Nat.le_refl _) b2
  replace hb1 := bstep hb1 b2
  clear b2 hg HW1
  obtain ⟨W2, hW2⟩ : ∃ W, W = w2.alloc (.cells #[.int .i64 52, .int .u64 9218868437227405312, .int .i64 (-1074)] 53) := ⟨_, rfl⟩
  have hq : LCell W2 w2.heap.size (.int .i64 52) (.int .u64 9218868437227405312) (.int .i64 (-1074)) := by rw [hW2]; exact lcell_new _ rfl
  have b3 : Below w2.heap.size w2 W2 := by rw [hW2]; exact belowA _ _
  replace hk := hk.below b3
  replace hu := hu.below (Nat.le_refl _) b3
  replace hv := hv.below (Nat.le_refl _) b3
  replace hb1 := bstep hb1 b3
  obtain ⟨c0, c1, c2⟩ := hk.cells
  rw [hW2] at c0 c1 c2
  have HW2 : Hid (w2.alloc (.cells #[.int .i64 52, .int .u64 9218868437227405312, .int .i64 (-1074)] 53) = W2) := hW2.symm
  clear b3 hW2
  go_wp2_with fail
  rw [HW2.out]
  obtain ⟨g2, hg2⟩ : ∃ g, g = w2.heap.size := ⟨_, rfl⟩
  rw [← hg2] at hq ⊢
  refine (hfl _ hu hv).mono ?_
  rintro e w3 ⟨b, rfl, hfo, b3⟩
  replace hk := hk.below b3
  replace hq := hq.below b3
  replace hu := hu.below (Nat.le_refl _) b3
  replace hv := hv.below (Nat.le_refl _) b3
  replace hb1 := bstep hb1 b3
  clear b3 HW2 c0 c1 c2 hfl hg2
  have hbl := hfo.lt
  have HF1 : HidF ((fval 52 9218868437227405312 * D ≤ n → b = 9218868437227405312) ∧ (¬ fval 52 9218868437227405312 * D ≤ n → b = fa)) := ⟨floor_two HO.out.2 HO.out.1 hfo⟩
  have hj := hju b w3 hu hv hbl
  obtain ⟨c0, c1, c2⟩ := hk.cells
  obtain ⟨k0, k1, k2⟩ := hq.cells
  clear hju hfo
  go_wp2_with fail
  refine hj.mono ?_
  rintro e w4 ⟨rfl, b4⟩
  replace hk := hk.below b4
  replace hq := hq.below b4
  replace hu := hu.below (Nat.le_refl _) b4
  replace hb1 := bstep hb1 b4
  clear b4 hj hv c0 c1 c2 k0 k1 k2
  obtain ⟨c0, c1, c2⟩ := hk.cells
  obtain ⟨k0, k1, k2⟩ := hq.cells
  have hb := hbe w4 hu
  clear hk hq hu hbe
  have hcase : (b = 9218868437227405312 ∧ b = fa + 1 ∧ c = b) ∨ (b < 9218868437227405312 ∧ b = fa ∧ c = fa ∧ decide (fval 52 b * D = n) = true) ∨ (b < 9218868437227405312 ∧ b = fa ∧ c = fa + 1 ∧ decide (fval 52 b * D = n) = false) := by
    have h1 := HF1.out
    have h2 := HO.out.1.lt
    have h3 := HC.out
    by_cases hfar : fval 52 9218868437227405312 * D ≤ n
    · have h1 := h1.1 hfar
      have h4 := HO.out.1.far hfar
      left
      rw [if_neg (by omega)] at h3
      omega
    · have h1 := h1.2 hfar
      have h4 := HO.out.1.just (by omega)
      right
      by_cases hj : fval 52 b * D = n
      · left
        rw [h1] at hj
        rw [if_pos (h4.2 hj)] at h3
        exact ⟨by omega, h1, h3, by rw [h1]; exact decide_eq_true hj⟩
      · right
        have hj2 : ¬ fval 52 fa * D = n := by rw [← h1]; exact hj
        rw [if_neg (fun h => hj2 (h4.1 h))] at h3
        exact ⟨by omega, h1, h3, decide_eq_false hj⟩
  generalize decide (fval 52 b * D = n) = ex at *
  have hfaL : fa ≤ 9218868437227405312 := by have := HO.out.1.lt; omega
  have hcL : c ≤ 9218868437227405312 := by omega
  have hzf := dzero hfaL
  have hneg1 : ∀ w, (Op.unary .neg (.float .f64 fa)).run Try.prog w = .ok (.float .f64 (2 ^ 63 + fa)) w := fun w => by
    rw [← xor_top2 (b := fa) (k := 63) (by omega)]
    rfl
  have hneg2 : ∀ w, (Op.unary .neg (.float .f64 c)).run Try.prog w = .ok (.float .f64 (2 ^ 63 + c)) w := fun w => by
    rw [← xor_top2 (b := c) (k := 63) (by omega)]
    rfl
  have hw1 : IntKind.u64.wrap (fa : Int) = (fa : Int) := by rw [IntKind.wrap_u64]; omega
  have hw2 : IntKind.u64.wrap (c : Int) = (c : Int) := by rw [IntKind.wrap_u64]; omega
  clear HF1 HO HC
  rcases hcase with ⟨h1, h2, h3⟩ | ⟨h1, h2, h3, h4⟩ | ⟨h1, h2, h3, h4⟩
  · subst h3
    have hbe1 : ((c : Int) == 9218868437227405312) = true := by simp; omega
    have hsub : (c : Int) - 1 = (fa : Int) := by omega
    have hcI : (c : Int) = 9218868437227405312 := by omega
    have HCI : Hid ((c : Int) = 9218868437227405312) := hcI
    clear h1 h2 hcI
    go_wp2_with fail
    refine hb.mono ?_
    rintro e w5 ⟨rfl, b5⟩
    have HB : Hid (Below w.heap.size w w5) := bstep hb1 b5
    clear hb b5 hb1 c0 c1 c2 k0 k1 k2
    cases s
    · have HE : Hid (arLo false fa c = fa ∧ arHi false fa c = c) := ⟨rfl, rfl⟩
      clear hzf hneg1 hneg2
      go_wp2
      go_ret2
      exact ⟨by rw [HE.out.1, HE.out.2]; rfl, HB.out⟩
    · by_cases h0 : fa = 0
      · have HE : Hid (arLo true fa c = 2 ^ 63 + c ∧ arHi true fa c = 0) := ⟨rfl, by unfold arHi; rw [if_pos rfl, if_pos h0]⟩
        have hz3 : (FloatKind.f64.format.order fa 0 == some .eq) = true := by
          have := hzf
          rw [decide_eq_false (by omega)] at this
          simpa [bne] using this
        clear hzf h0
        go_wp2
        go_ret2
        exact ⟨by rw [HE.out.1, HE.out.2]; rfl, HB.out⟩
      · have HE : Hid (arLo true fa c = 2 ^ 63 + c ∧ arHi true fa c = 2 ^ 63 + fa) := ⟨rfl, by unfold arHi; rw [if_pos rfl, if_neg h0]⟩
        have hz3 : (FloatKind.f64.format.order fa 0 == some .eq) = false := by
          have := hzf
          rw [decide_eq_true h0] at this
          simpa [bne] using this
        clear hzf h0
        go_wp2
        go_ret2
        exact ⟨by rw [HE.out.1, HE.out.2]; rfl, HB.out⟩
  · subst h2
    subst h3
    subst h4
    have hbe1 : ((c : Int) == 9218868437227405312) = false := by simp; omega
    clear h1
    go_wp2_with fail
    refine hb.mono ?_
    rintro e w5 ⟨rfl, b5⟩
    have HB : Hid (Below w.heap.size w w5) := bstep hb1 b5
    clear hb b5 hb1 c0 c1 c2 k0 k1 k2
    cases s
    · have HE : Hid (arLo false c c = c ∧ arHi false c c = c) := ⟨rfl, rfl⟩
      clear hzf hneg1 hneg2
      go_wp2
      go_ret2
      exact ⟨by rw [HE.out.1, HE.out.2]; rfl, HB.out⟩
    · by_cases h0 : c = 0
      · have HE : Hid (arLo true c c = 2 ^ 63 + c ∧ arHi true c c = 0) := ⟨rfl, by unfold arHi; rw [if_pos rfl, if_pos h0]⟩
        have hz3 : (FloatKind.f64.format.order c 0 == some .eq) = true := by
          have := hzf
          rw [decide_eq_false (by omega)] at this
          simpa [bne] using this
        clear hzf h0
        go_wp2
        go_ret2
        exact ⟨by rw [HE.out.1, HE.out.2]; rfl, HB.out⟩
      · have HE : Hid (arLo true c c = 2 ^ 63 + c ∧ arHi true c c = 2 ^ 63 + c) := ⟨rfl, by unfold arHi; rw [if_pos rfl, if_neg h0]⟩
        have hz3 : (FloatKind.f64.format.order c 0 == some .eq) = false := by
          have := hzf
          rw [decide_eq_true h0] at this
          simpa [bne] using this
        clear hzf h0
        go_wp2
        go_ret2
        exact ⟨by rw [HE.out.1, HE.out.2]; rfl, HB.out⟩
  · subst h2
    subst h4
    have hbe1 : ((b : Int) == 9218868437227405312) = false := by simp; omega
    have hadd : (b : Int) + 1 = (c : Int) := by omega
    clear h1 h3
    go_wp2_with fail
    refine hb.mono ?_
    rintro e w5 ⟨rfl, b5⟩
    have HB : Hid (Below w.heap.size w w5) := bstep hb1 b5
    clear hb b5 hb1 c0 c1 c2 k0 k1 k2
    cases s
    · have HE : Hid (arLo false b c = b ∧ arHi false b c = c) := ⟨rfl, rfl⟩
      clear hzf hneg1 hneg2
      go_wp2
      go_ret2
      exact ⟨by rw [HE.out.1, HE.out.2]; rfl, HB.out⟩
    · by_cases h0 : b = 0
      · have HE : Hid (arLo true b c = 2 ^ 63 + c ∧ arHi true b c = 0) := ⟨rfl, by unfold arHi; rw [if_pos rfl, if_pos h0]⟩
        have hz3 : (FloatKind.f64.format.order b 0 == some .eq) = true := by
          have := hzf
          rw [decide_eq_false (by omega)] at this
          simpa [bne] using this
        clear hzf h0
        go_wp2
        go_ret2
        exact ⟨by rw [HE.out.1, HE.out.2]; rfl, HB.out⟩
      · have HE : Hid (arLo true b c = 2 ^ 63 + c ∧ arHi true b c = 2 ^ 63 + b) := ⟨rfl, by unfold arHi; rw [if_pos rfl, if_neg h0]⟩
        have hz3 : (FloatKind.f64.format.order b 0 == some .eq) = false := by
          have := hzf
          rw [decide_eq_true h0] at this
          simpa [bne] using this
        clear hzf h0
        go_wp2
        go_ret2
        exact ⟨by rw [HE.out.1, HE.out.2]; rfl, HB.out⟩
end Go.Proofs.Ytjfihcnjhjgdpaa
