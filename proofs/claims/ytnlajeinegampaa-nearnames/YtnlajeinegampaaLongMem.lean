/-
  Proved here: facts on rows beside one another, and what LeadingZeros32 answers.
-/
import Derived.Test.YtnlajeinegampaaGuess
import Derived.Test.YtnlajeinegampaaLift
import Derived.Test.YtnlajeinegampaaLongMath
namespace Go.Proofs.Ytnlajeinegampaa
open Go.RowKit

theorem Cells.grown {g g' : Nat} {w w' : World} {zs : List Nat} (h : Cells w g zs) (hg : w.grownBy w' (some g')) (hne : g ≠ g') : Cells w' g zs :=
  ⟨h.1, by rw [hg.block g (Array.getElem?_eq_some_iff.1 h.2).1 (by simp only [ne_eq, Option.some.injEq]; exact hne)]; exact h.2⟩
theorem grownBy_one (w : World) (g k : Nat) (u : Value) : w.grownBy (w.setCell ⟨g, k, none⟩ u) (some g) := grownBy_set (World.grownBy.refl w _) k u
theorem Cells.seg {g off m cap : Nat} {w : World} {zs : List Nat} (h : Cells w g zs) (ho : off + m ≤ zs.length) (hm : m ≤ cap) (hc : cap ≤ 9223372036854775807) : Num w (.slice (some ⟨g, off, none⟩) m cap) ((zs.drop off).take m) := by
  have hl : ((zs.drop off).take m).length = m := by simp; omega
  refine ⟨limbs_take (limbs_drop h.1 off) m, some ⟨g, off, none⟩, cap, by rw [hl], by rw [hl]; exact hm, hc, fun e => by simp at e, fun j hj => ?_⟩
  rw [hl] at hj
  refine ⟨g, off, rfl, ?_⟩
  have := (h.cell (k := off + j) (by omega)).1
  rw [this]
  have e : ((zs.drop off).take m).getD j 0 = zs.getD (off + j) 0 := by
    rw [List.getD_eq_getElem?_getD, List.getElem?_take_of_lt hj, ← List.getD_eq_getElem?_getD, getD_drop]
  rw [e]; rfl
theorem seg_val {zs : List Nat} {off m : Nat} : val ((zs.drop off).take m) = low (zs.drop off) m := rfl

theorem lz_any (x : Int) (w : World) (h0 : 0 ≤ x) (h1 : x ≤ 4294967295) :
    Calls Try.prog 67 #[.int .u32 x] w fun e w' => e = .returned (.int .i64 ((32 - bl x.toNat : Nat) : Int)) ∧ w' = w := by
  have hb := bl_le32 (x := x.toNat) (by omega)
  go_enter Try.func67, Try.ntmps67
  go_wp2_with fail
  refine (len32_any _ _ h0 h1).mono ?_
  rintro e w1 ⟨rfl, rfl⟩
  obtain ⟨b, hbb⟩ : ∃ b, b = bl x.toNat := ⟨_, rfl⟩
  rw [← hbb] at hb ⊢
  have HB : Hid (b = bl x.toNat) := hbb
  clear hbb
  go_wp2
  go_ret
  exact ⟨ret_int (by rw [← HB.out]; omega), rfl⟩

/-- A divisor that was shifted so that its highest bit is set. -/
theorem norm_top {b : List Nat} {n v : Nat} (hb : limbs b) (hl : b.length = n + 1) (hv : val b = v) (h : 2 ^ (32 * n + 31) ≤ v) : 2147483648 ≤ b.getD n 0 := by
  have e := low_succ b n
  have hlo := low_lt hb n
  rw [low_all (by omega), hv] at e
  rcases Nat.lt_or_ge (b.getD n 0) 2147483648 with h1 | h1
  · have h2 : 4294967296 ^ n * (b.getD n 0 + 1) ≤ 4294967296 ^ n * 2147483648 := Nat.mul_le_mul_left _ h1
    rw [Nat.mul_add, Nat.mul_one] at h2
    have h3 : 2 ^ (32 * n + 31) = 4294967296 ^ n * 2147483648 := by rw [Nat.pow_add, ← pow_limb]
    omega
  · exact h1
theorem norm_big {v : Nat} (hv : v ≠ 0) {n t : Nat} (h : bl v = 32 * n + bl t) (ht : bl t ≤ 32) (ht0 : t ≠ 0) : 2 ^ (32 * n + 31) ≤ v * 2 ^ (32 - bl t) ∧ v * 2 ^ (32 - bl t) < 4294967296 ^ (n + 1) := by
  obtain ⟨m, e, h1, h2⟩ := bl_bounds hv
  obtain ⟨k, e2, _, _⟩ := bl_bounds ht0
  have hm : m + (32 - bl t) = 32 * n + 31 := by omega
  constructor
  · rw [← hm, Nat.pow_add]
    exact Nat.mul_le_mul_right _ h1
  · rw [pow_limb, show 32 * (n + 1) = (m + 1) + (32 - bl t) by omega, Nat.pow_add]
    exact Nat.mul_lt_mul_of_pos_right h2 (Nat.two_pow_pos _)
end Go.Proofs.Ytnlajeinegampaa
