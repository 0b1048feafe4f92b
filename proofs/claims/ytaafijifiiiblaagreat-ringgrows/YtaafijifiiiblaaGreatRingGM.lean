/-
  Proved here: mathematics of a polynomial and its slope, over fractions; how many limbs they have.
-/
import Derived.Test.YtaafijifiiiblaaGreatRingF
namespace Go.Proofs.YtaafijifiiiblaaGreat
open Go.RowKit
/-- A polynomial's value, and its slope, of the first numbers. -/
def VA (c : Nat → Rat) (x : Rat) : Nat → Rat
  | 0 => 0
  | i + 1 => VA c x i + c i * sp1 x i
def SB (c : Nat → Rat) (x : Rat) : Nat → Rat
  | 0 => 0
  | i + 1 => SB c x i + (c i * sp2 x 1 i + 0 * sp1 x i)
theorem sp1_succ (x : Rat) (i : Nat) : sp1 x (i + 1) = sp1 x i * x := rfl
theorem one_div (j : Nat) : 1 + Rat.divInt ((j + 1 : Nat) : Int) 1 = Rat.divInt ((j + 2 : Nat) : Int) 1 := by
  rw [show (1 : Rat) = Rat.divInt 1 1 by decide, Rat.divInt_add_divInt _ _ (by decide) (by decide)]
  congr 1
  omega
theorem sp2_eq (x : Rat) : ∀ j : Nat, sp2 x 1 (j + 1) = Rat.divInt ((j + 1 : Nat) : Int) 1 * sp1 x j
  | 0 => by
    show sp1 x 0 * 1 + 0 * x = _
    rw [Rat.zero_mul, Rat.add_zero, Rat.mul_one, show Rat.divInt ((0 + 1 : Nat) : Int) 1 = 1 by decide, Rat.one_mul]
  | j + 1 => by
    show sp1 x (j + 1) * 1 + sp2 x 1 (j + 1) * x = _
    rw [sp2_eq x j, Rat.mul_one, Rat.mul_assoc, ← sp1_succ, ← one_div, Rat.add_mul, Rat.one_mul]
theorem SB_one (c : Nat → Rat) (x : Rat) : SB c x 1 = SB c x 0 := by
  show SB c x 0 + (c 0 * 0 + 0 * sp1 x 0) = _
  rw [Rat.mul_zero, Rat.zero_mul, Rat.add_zero, Rat.add_zero]
theorem SB_succ (c : Nat → Rat) (x : Rat) (j : Nat) : SB c x (j + 2) = SB c x (j + 1) + (c (j + 1) * Rat.divInt ((j + 1 : Nat) : Int) 1) * sp1 x j := by
  show SB c x (j + 1) + (c (j + 1) * sp2 x 1 (j + 1) + 0 * sp1 x (j + 1)) = _
  rw [sp2_eq, Rat.zero_mul, Rat.add_zero, Rat.mul_assoc]
theorem szAdd {x y : Rat} {L M : Nat} (h : RSz x L) (h' : RSz y M) : RSz (x + y) (L + M + 1) := by
  have h2 := rsz_add (p := x.num) (q := x.den) (p' := y.num) (q' := y.den) h.num (by unfold und; rw [if_neg (Rat.den_nz _)]; exact h.den) h'.num (by unfold und; rw [if_neg (Rat.den_nz _)]; exact h'.den)
  rwa [rq_std, rq_std] at h2
theorem szMul {x y : Rat} {L M : Nat} (h : RSz x L) (h' : RSz y M) : RSz (x * y) (L + M) := by
  have h2 := rsz_mul (p := x.num) (q := x.den) (p' := y.num) (q' := y.den) h.num (by unfold und; rw [if_neg (Rat.den_nz _)]; exact h.den) h'.num (by unfold und; rw [if_neg (Rat.den_nz _)]; exact h'.den)
  rwa [rq_std, rq_std] at h2
theorem sz_sp1 {x : Rat} {L : Nat} (h : RSz x L) : ∀ i, RSz (sp1 x i) (i * L + 1)
  | 0 => by rw [Nat.zero_mul]; exact ⟨Sz.one, Sz.one⟩
  | i + 1 => by rw [sp1_succ]; exact (szMul (sz_sp1 h i) h).mono (by rw [Nat.succ_mul]; omega)
theorem sz_int {j : Nat} (h : j < 1000) : RSz (Rat.divInt (j : Int) 1) 1 := RSz.of (by decide) ⟨by rw [Nat.pow_one]; omega⟩ Sz.one
theorem sz_sp2 {x : Rat} {L : Nat} (h : RSz x L) : ∀ i, i ≤ 100 → RSz (sp2 x 1 i) (i * L + 2)
  | 0, _ => ⟨Sz.zero.mono (by omega), Sz.one.mono (by omega)⟩
  | i + 1, hi => by rw [sp2_eq]; exact (szMul (sz_int (by omega)) (sz_sp1 h i)).mono (by rw [Nat.succ_mul]; omega)
theorem sz_sp {x : Rat} (h : RSz x 2) : ∀ i, i ≤ 8 → RSz (sp1 x i) 20 ∧ RSz (sp2 x 1 i) 20 := fun i hi => ⟨(sz_sp1 h i).mono (by omega), (sz_sp2 h i (by omega)).mono (by omega)⟩
theorem sz_VA {c : Nat → Rat} {x : Rat} (hx : RSz x 2) (hc : ∀ i, RSz (c i) 2) : ∀ i, i ≤ 8 → RSz (VA c x i) (i * 45 + 1) ∧ RSz (SB c x i) (i * 45 + 1)
  | 0, _ => ⟨⟨Sz.zero, Sz.one⟩, ⟨Sz.zero, Sz.one⟩⟩
  | i + 1, hi => by
    obtain ⟨h1, h2⟩ := sz_VA hx hc i (by omega)
    obtain ⟨h3, h4⟩ := sz_sp hx i (by omega)
    refine ⟨(szAdd h1 (szMul (hc i) h3)).mono (by omega), (szAdd h2 (szAdd (szMul (hc i) h4) (szMul (L := 1) ⟨Sz.zero, Sz.one⟩ h3))).mono (by omega)⟩
theorem rnum_fv {f : FV} {w : World} {L : Nat} (h : f.At w) (l1 : f.xs.length ≤ L) (l2 : f.ys.length ≤ L) (h1 : 1 ≤ L) (hL : L ≤ 1000000) : RNum w (.agg #[.bool f.n, .slice f.ao f.al f.ac, .slice f.bo f.bl f.bc]) (rq (zv f.n (val f.xs)) (val f.ys)) L :=
  rnum_of (na := f.n) (ao := f.ao) (aO := f.bo) (al := f.al) (ac := f.ac) (aL := f.bl) (aC := f.bc) ⟨_, _, _, _, _, rfl, h.num, l1, rfl⟩ ⟨_, _, _, _, rfl, h.den, l2, rfl⟩ h1 hL
end Go.Proofs.YtaafijifiiiblaaGreat
