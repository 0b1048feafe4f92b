/-
  Proved here: what the document's Lowest and Of of layer 5 answer.
-/
import Derived.Test.YtaekaikkldnikaaNearOfA
import Derived.Test.YtaekaikkldnikaaNearBackM
import Derived.Test.YtaekaikkldnikaaDivRefMathAll
import Derived.Test.YtaekaikkldnikaaRefGcd
import Derived.Test.YtaekaikkldnikaaRefDivMod
import Derived.Test.YtaekaikkldnikaaBaseAll
import Derived.Test.YtaekaikkldnikaaNearAdd
import Derived.Test.YtaekaikkldnikaaNearRAll
import Derived.Deep.RegionHeld3
import Derived.WalkLawsBesides
namespace Go.Proofs.Ytaekaikkldnikaa
open Go.RowKit
attribute [local go_sem] run_f64bits3 wp_at_zero wp_at_succ

theorem keepSet3 {w : World} {g v i : Nat} {x a b c : Value} (h : w.cell? ⟨v, i, none⟩ = some x) (hne : g ≠ v) : (((w.setCell ⟨g, 0, none⟩ a).setCell ⟨g, 1, none⟩ b).setCell ⟨g, 2, none⟩ c).cell? ⟨v, i, none⟩ = some x := by
  have e : ∀ (w : World) (k : Nat) (y : Value), (w.setCell ⟨g, k, none⟩ y).heap[v]? = w.heap[v]? := fun w k y => by rw [heap_setCell_other]; exact hne.symm
  have e2 : (((w.setCell ⟨g, 0, none⟩ a).setCell ⟨g, 1, none⟩ b).setCell ⟨g, 2, none⟩ c).heap[v]? = w.heap[v]? := by rw [e, e, e]
  rw [← h]
  simp only [World.cell?, e2]
/-- What a maker of a fraction leaves that is only read. -/
def RSEnd (w : World) (r : Rat) (e : Ending) (w' : World) : Prop := ∃ v, e = .returned v ∧ RStd w' v r ∧ Below w.heap.size w w'
theorem low_ref {na : Bool} {A D : Nat} (hD : D ≠ 0) : (Rat.divInt (zv na A) (D : Int)).num = zv na (A / Nat.gcd A D) ∧ (Rat.divInt (zv na A) (D : Int)).den = D / Nat.gcd A D := by
  have hq : (D : Int) ≠ 0 := by omega
  have h1 := low_num (p := zv na A) hq
  have h2 := low_den (p := zv na A) hq
  rw [zv_abs, Int.natAbs_natCast, decide_eq_false (by omega)] at h1 h2
  have e : zv false (Nat.gcd A D) = ((Nat.gcd A D : Nat) : Int) := rfl
  rw [e] at h1 h2
  refine ⟨?_, ?_⟩
  · rw [← h1]
    cases na
    · show (A : Int).tdiv _ = ((A / Nat.gcd A D : Nat) : Int)
      exact (Int.ofNat_tdiv A _).symm
    · show (-(A : Int)).tdiv _ = -((A / Nat.gcd A D : Nat) : Int)
      rw [Int.neg_tdiv, ← Int.ofNat_tdiv]
  · have h3 : ((D / Nat.gcd A D : Nat) : Int) = ((Rat.divInt (zv na A) (D : Int)).den : Int) := by rw [← h2, Int.ofNat_tdiv]
    omega
theorem lim_len_mono {a b k : Nat} (h : a ≤ b) (hk : (lim b).length ≤ k) : (lim a).length ≤ k := lim_len_le (Nat.lt_of_le_of_lt h (lim_lt_of_len hk))

set_option maxRecDepth 100000 in
set_option maxHeartbeats 6400000 in
theorem lowestR (na : Bool) (ao dO : Option Addr) (al ac dl dc : Nat) (xa yd : List Nat) (w : World) (ua : Num w (.slice ao al ac) xa) (ud : Num w (.slice dO dl dc) yd) (la : xa.length ≤ 300) (ld : yd.length ≤ 300) (hd0 : val yd ≠ 0) :
    Calls Try.prog 11 #[.agg #[.bool na, .slice ao al ac], .slice dO dl dc] w fun e w' => REnd w (Rat.divInt (zv na (val xa)) (val yd : Int)) e w' := by
  obtain ⟨A, hA⟩ : ∃ A, A = val xa := ⟨_, rfl⟩
  obtain ⟨Z, hZ⟩ : ∃ D, D = val yd := ⟨_, rfl⟩
  have HA : Hid (val xa = A) := hA.symm
  have HD : Hid (val yd = Z) := hZ.symm
  rw [← hA, ← hZ]
  rw [← hZ] at hd0
  have HD0 : Hid (Z ≠ 0) := hd0
  have HLA : Hid (xa.length ≤ 300) := la
  have HLD : Hid (yd.length ≤ 300) := ld
  obtain ⟨r, hr⟩ : ∃ r, r = Rat.divInt (zv na A) (Z : Int) := ⟨_, rfl⟩
  have HRN : Hid (zv na (A / Nat.gcd A Z) = r.num) := by show _ = _; rw [hr, (low_ref hd0).1]
  have HRD : Hid (Z / Nat.gcd A Z = r.den) := by show _ = _; rw [hr, (low_ref hd0).2]
  rw [← hr]
  clear hr hA hZ hd0 la ld
  obtain ⟨W1, hW1⟩ : ∃ W1, W1 = (w.alloc (.cells #[.bool na, .slice ao al ac] 27)).alloc (.cells #[.bool false, .slice none 0 0, .slice none 0 0] 29) := ⟨_, rfl⟩
  have qa : ICell W1 (w.heap.size) na (.slice ao al ac) := by rw [hW1]; exact (icell_step (icell_new _ (by simp)))
  have qR : QCell W1 (w.heap.size + 1) false (.slice none 0 0) (.slice none 0 0) := by rw [hW1]; exact (qcell_new _ (by simp))
  have hb : Below w.heap.size w W1 := by rw [hW1]; exact bstep (belowA w _) (belowA _ _)
  have hsz : w.heap.size + 1 < W1.heap.size := by rw [hW1]; simp
  replace ua := ua.below (Nat.le_refl _) hb
  replace ud := ud.below (Nat.le_refl _) hb
  have HW1 : Hid (W1 = (w.alloc (.cells #[.bool na, .slice ao al ac] 27)).alloc (.cells #[.bool false, .slice none 0 0, .slice none 0 0] 29)) := hW1
  clear hW1
  go_enter Try.func11, Try.ntmps11
  go_wp2_with fail
  rw [← HW1.out]
  clear HW1
  obtain ⟨g, hg⟩ : ∃ g, g = w.heap.size := ⟨_, rfl⟩
  rw [← hg] at qa qR hsz ⊢
  have HG : Hid (g = w.heap.size) := hg
  clear hg
  obtain ⟨B0, hB0⟩ : ∃ B, B = W1.heap.size := ⟨_, rfl⟩
  have HB0 : Hid (g + 1 < B0) := by show _ < _; rw [hB0]; exact hsz
  replace hB0 := Nat.le_of_eq hB0
  have hq := gcd_ref _ _ _ _ _ ua ud (Nat.le_trans HLA.out (by decide)) (Nat.le_trans HLD.out (by decide))
  rw [HA.out, HD.out] at hq
  refine (hq).mono ?_
  rintro e w2 ⟨v, rfl, ho, b⟩
  clear hq
  obtain ⟨go, gl, gc, rfl⟩ := ho.sl
  have ug := ho.num
  clear ho
  replace ua := ua.below (Nat.le_refl _) b
  replace ud := ud.below (Nat.le_refl _) b
  replace hB0 := Nat.le_trans hB0 b.size
  replace qa := qa.below b
  replace qR := qR.below b
  replace hb := bstep hb b
  replace hsz := Nat.lt_of_lt_of_le hsz b.size
  clear b
  obtain ⟨cqa0, cqa1⟩ := qa.cells
  obtain ⟨cqR0, cqR1, cqR2⟩ := qR.cells
  go_wp2_with fail
  clear cqa0 cqa1 cqR0 cqR1 cqR2
  obtain ⟨G, hG⟩ : ∃ G, G = Nat.gcd A Z := ⟨_, rfl⟩
  rw [← hG] at ug
  have HGc : Hid (G = Nat.gcd A Z) := hG
  have HLG : Hid ((lim G).length ≤ 300) := by show _ ≤ _; exact lim_len_mono (by rw [hG]; exact Nat.gcd_le_right _ (Nat.pos_of_ne_zero HD0.out)) (by rw [← HD.out]; exact Nat.le_trans (lim_len_le (val_lt ud.1)) HLD.out)
  clear hG
  have hq := divMod_ref _ _ _ _ _ ua ug (Nat.le_trans HLA.out (by decide)) (Nat.le_trans HLG.out (by decide))
  rw [HA.out, val_lim] at hq
  refine (hq).mono ?_
  rintro e w3 ⟨p, q, rfl, ho, ho2, b⟩
  clear hq
  obtain ⟨po, pl, pc, rfl⟩ := ho.sl
  obtain ⟨qo, ql, qc, rfl⟩ := ho2.sl
  have up := ho.num
  clear ho ho2
  replace ua := ua.below (Nat.le_refl _) b
  replace ud := ud.below (Nat.le_refl _) b
  replace hB0 := Nat.le_trans hB0 b.size
  replace ug := ug.below (Nat.le_refl _) b
  replace qa := qa.below b
  replace qR := qR.below b
  replace hb := bstep hb b
  replace hsz := Nat.lt_of_lt_of_le hsz b.size
  clear b
  obtain ⟨cqa0, cqa1⟩ := qa.cells
  obtain ⟨cqR0, cqR1, cqR2⟩ := qR.cells
  go_wp2_with fail
  clear cqa0 cqa1 cqR0 cqR1 cqR2
  have hq := divMod_ref _ _ _ _ _ ud ug (Nat.le_trans HLD.out (by decide)) (Nat.le_trans HLG.out (by decide))
  rw [HD.out, val_lim] at hq
  refine (hq).mono ?_
  rintro e w4 ⟨p, q, rfl, hd, ho2, b⟩
  clear hq
  obtain ⟨mO, mL, mC, rfl⟩ := hd.sl
  obtain ⟨so, sl, sc, rfl⟩ := ho2.sl
  replace hd := hd.mono hB0
  clear ho2
  replace ua := ua.below (Nat.le_refl _) b
  replace ud := ud.below (Nat.le_refl _) b
  replace hB0 := Nat.le_trans hB0 b.size
  replace ug := ug.below (Nat.le_refl _) b
  replace up := up.below (Nat.le_refl _) b
  replace qa := qa.below b
  replace qR := qR.below b
  replace hb := bstep hb b
  replace hsz := Nat.lt_of_lt_of_le hsz b.size
  clear b
  obtain ⟨cqa0, cqa1⟩ := qa.cells
  obtain ⟨cqR0, cqR1, cqR2⟩ := qR.cells
  go_wp2_with fail
  clear cqa0 cqa1 cqR0 cqR1 cqR2
  have hq := make_ref na _ _ _ up (by have h1 := lim_len_mono (Nat.div_le_self A G) (k := 300) (by rw [← HA.out]; exact Nat.le_trans (lim_len_le (val_lt ua.1)) HLA.out); omega)
  rw [val_lim] at hq
  rw [HGc.out, HRN.out] at hq
  refine (hq).mono ?_
  rintro e w5 ⟨v, rfl, ⟨m, rfl, hm⟩, b⟩
  clear hq
  obtain ⟨mo, ml, mc, rfl⟩ := hm.sl
  have hap := apart_symm (apart_later hd hm (Nat.le_refl _))
  replace hm := hm.mono hB0
  replace ua := ua.below (Nat.le_refl _) b
  replace ud := ud.below (Nat.le_refl _) b
  replace hB0 := Nat.le_trans hB0 b.size
  replace ug := ug.below (Nat.le_refl _) b
  replace up := up.below (Nat.le_refl _) b
  replace hd := hd.below b
  replace qa := qa.below b
  replace qR := qR.below b
  replace hb := bstep hb b
  replace hsz := Nat.lt_of_lt_of_le hsz b.size
  clear b
  rw [HGc.out, HRD.out] at hd
  have HE : Hid (REnd w r (.returned (.agg #[.bool (decide (r.num < 0)), .slice mo ml mc, .slice mO mL mC])) (((w5.setCell ⟨g + 1, 0, none⟩ (.bool (decide (r.num < 0)))).setCell ⟨g + 1, 1, none⟩ (.slice mo ml mc)).setCell ⟨g + 1, 2, none⟩ (.slice mO mL mC))) := rat_done rfl (by rw [HG.out]; omega) hm hd hap HB0.out hb
  have HW : Hid (QCell (((w5.setCell ⟨g + 1, 0, none⟩ (.bool (decide (r.num < 0)))).setCell ⟨g + 1, 1, none⟩ (.slice mo ml mc)).setCell ⟨g + 1, 2, none⟩ (.slice mO mL mC)) (g + 1) (decide (r.num < 0)) (.slice mo ml mc) (.slice mO mL mC)) := qR.write _ _ _
  obtain ⟨y0, y1, y2⟩ := qR.cells
  have f0 := qR.thaw 0
  have f1 := qR.thaw 1
  have f2 := qR.thaw 2
  obtain ⟨x0, x1⟩ := qa.cells
  generalize decide (r.num < 0) = bb at *
  clear hb hsz hm hap qa qR ua ud hB0 ug up hd
  go_wp2_with fail
  (try simp only [Exit.inBlock, Exit.then])
  exact bodyPost_ret (results_cell_row rfl _ _ (g + 1) 29 _ (0, 0) _ rfl HW.out Try.underlying29 rfl (by kernel_rfl)) rfl HE.out
theorem neg_bits {b : Nat} (hb : b < 18446744073709551616) (hn : (sgnb b && decide (b % 2 ^ 63 ≠ 0)) = true) : b % 2 ^ 63 = b ^^^ 2 ^ 63 := by
  have h1 : sgnb b = true := by revert hn; cases sgnb b <;> simp
  have h2 : 2 ^ 63 ≤ b := of_decide_eq_true h1
  have h3 : b - 2 ^ 63 < 2 ^ 63 := by omega
  have h4 := xor_top2 h3
  have h5 : b = (b - 2 ^ 63) ^^^ 2 ^ 63 := by rw [h4]; omega
  conv => rhs; rw [h5]
  rw [Nat.xor_assoc, Nat.xor_self, Nat.xor_zero]
  omega
theorem add_pos {b : Nat} (hb : b < 18446744073709551616) (hf : b % 2 ^ 63 < 9218868437227405312) (hn : (sgnb b && decide (b % 2 ^ 63 ≠ 0)) = false) : floatBits .add .f64 b 0 = some (b % 2 ^ 63) := by
  by_cases h0 : b % 2 ^ 63 = 0
  · have h4 : b = 0 ∨ b = 2 ^ 63 := by omega
    rcases h4 with rfl | rfl <;> decide
  · rw [decide_eq_true h0, Bool.and_true] at hn
    have h2 : ¬ 2 ^ 63 ≤ b := of_decide_eq_false hn
    have e : b % 2 ^ 63 = b := by omega
    rw [e] at hf ⊢
    exact add_nought hf
theorem fv_side {b : Nat} {s : Bool} (hn : (sgnb b && decide (b % 2 ^ 63 ≠ 0)) = s) : fv b = zv s (fval 52 (b % 2 ^ 63)) := by
  unfold fv
  by_cases h0 : b % 2 ^ 63 = 0
  · rw [h0, show fval 52 0 = 0 by decide]
    cases sgnb b <;> cases s <;> rfl
  · rw [decide_eq_true h0, Bool.and_true] at hn
    rw [hn]
theorem fval_small {r : Nat} (h : r < 9218868437227405312) : fval 52 r < 4294967296 ^ 100 := by
  have hi : fval 52 9218868437227405312 < 4294967296 ^ 100 := by decide +kernel
  exact Nat.lt_trans (fval_mono 52 h) hi
theorem mk_len {s : Bool} {V : Nat} (h : V < 4294967296 ^ 100) : (lim (zv s (val (lim V))).natAbs).length ≤ 300 := by
  rw [zv_abs, val_lim]
  exact Nat.le_trans (lim_len_le h) (by decide)
theorem mk_val {s : Bool} {V : Nat} : zv (decide (zv s (val (lim V)) < 0)) (val (lim (zv s (val (lim V))).natAbs)) = zv s V := by
  rw [val_lim, val_lim, zv_self]
theorem pow_len2 : (lim (2 ^ eD)).length ≤ 300 := Nat.le_trans (lim_len_le (k := 100) (by decide +kernel)) (by decide)
theorem pow_val2 : val (lim (2 ^ eD)) ≠ 0 := by rw [val_lim]; exact Nat.ne_of_gt (Nat.two_pow_pos eD)
set_option maxRecDepth 100000 in
set_option maxHeartbeats 6400000 in
theorem refOf_pos (b : Nat) (w : World) (hb0 : b < 18446744073709551616) (hf : b % 2 ^ 63 < 9218868437227405312) (hn : (sgnb b && decide (b % 2 ^ 63 ≠ 0)) = false) : Calls Try.prog 4 #[.float .f64 b] w fun e w' => RTEnd w (fR b) e w' := by
  have HB : Hid (b < 18446744073709551616) := hb0
  have HF : Hid (b % 2 ^ 63 < 9218868437227405312) := hf
  have hself : (FloatKind.f64.format.order b b != some .eq) = false := by show ((Ieee.double.read b).order (Ieee.double.read b) != some .eq) = false; rw [order_self, nan_word, decide_eq_false (Nat.not_lt_of_le (Nat.le_of_lt hf))]
  have hsb : ∀ w, (binOp .sub 22 (.float .f64 b) (.float .f64 b)).run Try.prog w = .ok (.float .f64 0) w := fun w => run_float_arith w .sub _ .f64 b b 0 (fsub_fin hb0 hf)
  have h00 : (FloatKind.f64.format.order 0 0 != some .eq) = false := by decide
  have hlt := lt_nought hb0 (Nat.le_of_lt hf)
  rw [hn] at hlt
  have hadd : ∀ w, (binOp .add 22 (.float .f64 b) (.float .f64 0)).run Try.prog w = .ok (.float .f64 (b % 2 ^ 63)) w := fun w => run_float_arith w .add _ .f64 _ 0 _ (add_pos hb0 hf hn)
  have hval := fun w => valRD (b % 2 ^ 63) w (by omega)
  have HFV : Hid (Rat.divInt (zv false (fval 52 (b % 2 ^ 63))) ((2 ^ eD : Nat) : Int) = fR b) := by show _ = _; rw [fR_div, fv_side hn]
  have HSV : Hid (fval 52 (b % 2 ^ 63) < 4294967296 ^ 100) := fval_small hf
  obtain ⟨r, hr⟩ : ∃ r, r = b % 2 ^ 63 := ⟨_, rfl⟩
  rw [← hr] at hadd hval HFV HSV
  obtain ⟨V, hV⟩ : ∃ V, V = fval 52 r := ⟨_, rfl⟩
  rw [← hV] at hval HFV HSV
  obtain ⟨Q, hQ⟩ : ∃ Q, Q = fR b := ⟨_, rfl⟩
  rw [← hQ] at HFV ⊢
  clear hr hV hQ hn hf hb0
  have hpw : ∀ w, Calls Try.prog 15 #[.int .i64 1074] w fun e w' => Made' w.heap.size w (lim (2 ^ eD)) e w' := fun w => powerR eD w (by decide)
  obtain ⟨W1, hW1⟩ : ∃ W1, W1 = w.alloc (.cells #[.bool false, .slice none 0 0, .slice none 0 0] 29) := ⟨_, rfl⟩
  have qR : QCell W1 (w.heap.size) false (.slice none 0 0) (.slice none 0 0) := by rw [hW1]; exact (qcell_new _ (by simp))
  have hb : Below w.heap.size w W1 := by rw [hW1]; exact belowA w _
  have hsz : w.heap.size < W1.heap.size := by rw [hW1]; simp
  have HW1 : Hid (W1 = w.alloc (.cells #[.bool false, .slice none 0 0, .slice none 0 0] 29)) := hW1
  clear hW1
  go_enter Try.func4, Try.ntmps4
  go_wp2_with fail
  rw [← HW1.out]
  clear HW1
  obtain ⟨g, hg⟩ : ∃ g, g = w.heap.size := ⟨_, rfl⟩
  rw [← hg] at qR hsz ⊢
  have HG : Hid (g = w.heap.size) := hg
  clear hg
  refine (kindRD _).mono ?_
  rintro e w2 ⟨rfl, b⟩
  replace qR := qR.below b
  replace hb := bstep hb b
  replace hsz := Nat.lt_of_lt_of_le hsz b.size
  clear b
  have hq0 : LCell (w2.alloc (.cells #[.int .i64 0, .int .u64 0, .int .i64 0] 43)) w2.heap.size (.int .i64 0) (.int .u64 0) (.int .i64 0) := lcell_new _ rfl
  obtain ⟨W7, hW7⟩ : ∃ W, W = w2.alloc (.cells #[.int .i64 52, .int .u64 9218868437227405312, .int .i64 (-1074)] 43) := ⟨_, rfl⟩
  have qK : LCell W7 w2.heap.size (.int .i64 52) (.int .u64 9218868437227405312) (.int .i64 (-1074)) := by rw [hW7]; exact lcell_new _ rfl
  have b : Below w2.heap.size w2 W7 := by rw [hW7]; exact belowA _ _
  obtain ⟨z0, z1, z2⟩ := hq0.cells
  have t0 := frozen_of_row _ w2.heap.size 0 _ _ hq0
  have t1 := frozen_of_row _ w2.heap.size 1 _ _ hq0
  have t2 := frozen_of_row _ w2.heap.size 2 _ _ hq0
  clear hq0
  have HW7 : Hid (W7 = w2.alloc (.cells #[.int .i64 52, .int .u64 9218868437227405312, .int .i64 (-1074)] 43)) := hW7
  clear hW7
  go_wp2_with fail
  rw [← HW7.out]
  clear z0 z1 z2 t0 t1 t2 HW7
  replace qR := qR.below b
  replace hb := bstep hb b
  replace hsz := Nat.lt_of_lt_of_le hsz b.size
  clear b
  obtain ⟨v7, hv7⟩ : ∃ v, v = w2.heap.size := ⟨_, rfl⟩
  rw [← hv7] at qK ⊢
  clear hv7
  refine region_late [(1, fun w' => w'.cell? ⟨v7, 0, none⟩ = some (.int .i64 52) ∧ w'.cell? ⟨v7, 1, none⟩ = some (.int .u64 9218868437227405312) ∧ w'.cell? ⟨v7, 2, none⟩ = some (.int .i64 (-1074)))] (by kernel_rfl) ?_
  have hHeld : AllL W7.drew [(1, fun w' => w'.cell? ⟨v7, 0, none⟩ = some (.int .i64 52) ∧ w'.cell? ⟨v7, 1, none⟩ = some (.int .u64 9218868437227405312) ∧ w'.cell? ⟨v7, 2, none⟩ = some (.int .i64 (-1074)))] := ⟨(show LCell W7.drew (v7) (.int .i64 52) (.int .u64 9218868437227405312) (.int .i64 (-1074)) from qK).cells, trivial⟩
  refine late_free 0 (v := .bool false) rfl (by kernel_rfl) (by kernel_rfl) (by kernel_rfl) (by kernel_rfl) (by kernel_rfl) (by kernel_rfl) (fun _ _ _ h => h) (Or.inl ⟨by rfl, ?_⟩) hHeld ?_
  · (intro u _; go_simp)
  (try simp only [Act.put, List.setIfInBounds_toArray, List.set_cons_zero, List.set_cons_succ])
  refine late_take 1 (v := .agg #[.int .i64 52, .int .u64 9218868437227405312, .int .i64 (-1074)]) rfl (by kernel_rfl) (List.Mem.head _) (by kernel_rfl) (by kernel_rfl) (by kernel_rfl) (by kernel_rfl) (fun _ _ _ h => h) (Or.inl ⟨by rfl, ?_⟩) hHeld ?_
  · (intro u hu; (try dsimp only at hu); go_split_ands; go_simp)
  (try simp only [Act.put, List.setIfInBounds_toArray, List.set_cons_zero, List.set_cons_succ])
  refine late_free 2 (v := .float .f64 b) rfl (by kernel_rfl) (by kernel_rfl) (by kernel_rfl) (by kernel_rfl) (by kernel_rfl) (by kernel_rfl) (fun _ _ _ h => h) (Or.inl ⟨by rfl, ?_⟩) hHeld ?_
  · (intro u _; go_simp)
  (try simp only [Act.put, List.setIfInBounds_toArray, List.set_cons_zero, List.set_cons_succ])
  refine late_free 3 (v := .float .f64 r) rfl (by kernel_rfl) (by kernel_rfl) (by kernel_rfl) (by kernel_rfl) (by kernel_rfl) (by kernel_rfl) (fun _ _ _ h => h) (Or.inl ⟨by rfl, ?_⟩) hHeld ?_
  · (intro u _; go_simp)
  (try simp only [Act.put, List.setIfInBounds_toArray, List.set_cons_zero, List.set_cons_succ])
  refine late_step 4 (by kernel_rfl) rfl (fun K hK => ?_)
  go_simp
  refine hK.out _ _ (AllL.kept hHeld) ?_
  clear hK K
  (try simp only [Act.put, List.setIfInBounds_toArray, List.set_cons_zero, List.set_cons_succ])
  refine late_step 5 (by kernel_rfl) rfl (fun K hK => ?_)
  go_simp
  refine (hval _).mono ?_
  rintro e w3 ⟨v, rfl, o1, b3⟩
  obtain ⟨vo, vl, vc, rfl⟩ := o1.sl
  have n1 := o1.num
  clear o1
  have B3 : Below W7.heap.size W7 w3 := bstep (below_drew' _) b3
  clear hHeld
  have hHeld : AllL w3 [(1, fun w' => w'.cell? ⟨v7, 0, none⟩ = some (.int .i64 52) ∧ w'.cell? ⟨v7, 1, none⟩ = some (.int .u64 9218868437227405312) ∧ w'.cell? ⟨v7, 2, none⟩ = some (.int .i64 (-1074)))] := ⟨(qK.below B3).cells, trivial⟩
  go_wp2_with fail
  refine hK.out _ _ (AllL.kept hHeld) ?_
  clear hK K
  (try simp only [Act.put, List.setIfInBounds_toArray, List.set_cons_zero, List.set_cons_succ])
  refine late_step 6 (by kernel_rfl) rfl (fun K hK => ?_)
  go_simp
  refine (make_ref false _ _ _ n1 (Nat.le_trans (lim_len_le HSV.out) (by decide))).mono ?_
  rintro e w4 ⟨v, rfl, ⟨m, rfl, o2⟩, b4⟩
  obtain ⟨ko, kl, kc, rfl⟩ := o2.sl
  have n2 := o2.num
  clear o2
  have B4 : Below W7.heap.size W7 w4 := bstep B3 b4
  clear hHeld
  have hHeld : AllL w4 [(1, fun w' => w'.cell? ⟨v7, 0, none⟩ = some (.int .i64 52) ∧ w'.cell? ⟨v7, 1, none⟩ = some (.int .u64 9218868437227405312) ∧ w'.cell? ⟨v7, 2, none⟩ = some (.int .i64 (-1074)))] := ⟨(qK.below B4).cells, trivial⟩
  go_wp2_with fail
  refine hK.out _ _ (AllL.kept hHeld) ?_
  clear hK K
  (try simp only [Act.put, List.setIfInBounds_toArray, List.set_cons_zero, List.set_cons_succ])
  refine late_step 7 (by kernel_rfl) rfl (fun K hK => ?_)
  go_simp
  refine (hpw _).mono ?_
  rintro e w5 ⟨v, rfl, o3, b5⟩
  obtain ⟨po, pl, pc, rfl⟩ := o3.sl
  have n3 := o3.num
  clear o3
  have B5 : Below W7.heap.size W7 w5 := bstep B4 b5
  clear hHeld
  have hHeld : AllL w5 [(1, fun w' => w'.cell? ⟨v7, 0, none⟩ = some (.int .i64 52) ∧ w'.cell? ⟨v7, 1, none⟩ = some (.int .u64 9218868437227405312) ∧ w'.cell? ⟨v7, 2, none⟩ = some (.int .i64 (-1074)))] := ⟨(qK.below B5).cells, trivial⟩
  go_wp2_with fail
  refine hK.out _ _ (AllL.kept hHeld) ?_
  clear hK K
  (try simp only [Act.put, List.setIfInBounds_toArray, List.set_cons_zero, List.set_cons_succ])
  refine late_step 8 (by kernel_rfl) rfl (fun K hK => ?_)
  go_simp
  have hq := lowestR (decide (zv false (val (lim V)) < 0)) _ _ _ _ _ _ _ _ _ (n2.below (Nat.le_refl _) b5) n3 (mk_len HSV.out) pow_len2 pow_val2
  rw [mk_val, show val (lim (2 ^ eD)) = 2 ^ eD from val_lim _, HFV.out] at hq
  refine hq.mono ?_
  rintro e w6 ⟨v, rfl, hv, b6⟩
  clear hq
  obtain ⟨m, d, rfl, hm, hd, hap⟩ := hv
  obtain ⟨mo, ml, mc, rfl⟩ := hm.sl
  obtain ⟨mO, mL, mC, rfl⟩ := hd.sl
  have B6 : Below W7.heap.size W7 w6 := bstep B5 b6
  clear hHeld
  have hHeld : AllL w6 [(1, fun w' => w'.cell? ⟨v7, 0, none⟩ = some (.int .i64 52) ∧ w'.cell? ⟨v7, 1, none⟩ = some (.int .u64 9218868437227405312) ∧ w'.cell? ⟨v7, 2, none⟩ = some (.int .i64 (-1074)))] := ⟨(qK.below B6).cells, trivial⟩
  go_wp2_with fail
  refine hK.out _ _ (AllL.kept hHeld) ?_
  clear hK K
  (try simp only [Act.put, List.setIfInBounds_toArray, List.set_cons_zero, List.set_cons_succ])
  have qq := qR.below B6
  have HE : Hid (REnd w Q (.returned (.agg #[.bool (decide (Q.num < 0)), .slice mo ml mc, .slice mO mL mC])) (((w6.setCell ⟨g, 0, none⟩ (.bool (decide (Q.num < 0)))).setCell ⟨g, 1, none⟩ (.slice mo ml mc)).setCell ⟨g, 2, none⟩ (.slice mO mL mC))) := rat_done rfl (by rw [HG.out]; omega) hm hd hap (Nat.lt_of_lt_of_le hsz B5.size) (bstep hb B6)
  have HW : Hid (QCell (((w6.setCell ⟨g, 0, none⟩ (.bool (decide (Q.num < 0)))).setCell ⟨g, 1, none⟩ (.slice mo ml mc)).setCell ⟨g, 2, none⟩ (.slice mO mL mC)) (g) (decide (Q.num < 0)) (.slice mo ml mc) (.slice mO mL mC)) := qq.write _ _ _
  obtain ⟨y0, y1, y2⟩ := qq.cells
  have f0 := qq.thaw 0
  have f1 := qq.thaw 1
  have f2 := qq.thaw 2
  generalize decide (Q.num < 0) = bb at *
  clear qq hap
  clear n1 n2 n3
  refine late_step 9 (by kernel_rfl) rfl (fun K hK => ?_)
  go_simp
  refine hK.out _ _ ⟨Or.inl ⟨5, by kernel_rfl, by kernel_rfl⟩, trivial⟩ ?_
  clear hK K
  (try simp only [Act.put, List.setIfInBounds_toArray, List.set_cons_zero, List.set_cons_succ])
  refine late_step 10 (by kernel_rfl) rfl (fun K hK => ?_)
  go_simp
  refine hK.out _ _ ⟨Or.inl ⟨5, by kernel_rfl, by kernel_rfl⟩, trivial⟩ ?_
  clear hK K
  (try simp only [Act.put, List.setIfInBounds_toArray, List.set_cons_zero, List.set_cons_succ])
  refine late_done (by kernel_rfl) ?_ _
  clear hHeld
  clear hb hsz hm hd qR qK b3 b4 b5 b6 B3 B4 B5 B6
  go_wp2_with fail
  (try simp only [Exit.inBlock, Exit.then])
  exact bodyPost_ret (results_ct (p := 2) (u := 3) rfl _ _ (g) 29 _ (0, 0) _ rfl HW.out Try.underlying29 rfl (by kernel_rfl)) rfl HE.out.t
set_option maxRecDepth 100000 in
set_option maxHeartbeats 6400000 in
theorem refOf_neg (b : Nat) (w : World) (hb0 : b < 18446744073709551616) (hf : b % 2 ^ 63 < 9218868437227405312) (hn : (sgnb b && decide (b % 2 ^ 63 ≠ 0)) = true) : Calls Try.prog 4 #[.float .f64 b] w fun e w' => RTEnd w (fR b) e w' := by
  have HB : Hid (b < 18446744073709551616) := hb0
  have HF : Hid (b % 2 ^ 63 < 9218868437227405312) := hf
  have hself : (FloatKind.f64.format.order b b != some .eq) = false := by show ((Ieee.double.read b).order (Ieee.double.read b) != some .eq) = false; rw [order_self, nan_word, decide_eq_false (Nat.not_lt_of_le (Nat.le_of_lt hf))]
  have hsb : ∀ w, (binOp .sub 22 (.float .f64 b) (.float .f64 b)).run Try.prog w = .ok (.float .f64 0) w := fun w => run_float_arith w .sub _ .f64 b b 0 (fsub_fin hb0 hf)
  have h00 : (FloatKind.f64.format.order 0 0 != some .eq) = false := by decide
  have hlt := lt_nought hb0 (Nat.le_of_lt hf)
  rw [hn] at hlt
  have hng : ∀ w, (Op.unary .neg (.float .f64 b)).run Try.prog w = .ok (.float .f64 (b % 2 ^ 63)) w := fun w => by rw [show b % 2 ^ 63 = b ^^^ 2 ^ 63 from neg_bits hb0 hn]; rfl
  have hadd : ∀ w, (binOp .add 22 (.float .f64 (b % 2 ^ 63)) (.float .f64 0)).run Try.prog w = .ok (.float .f64 (b % 2 ^ 63)) w := fun w => run_float_arith w .add _ .f64 _ 0 _ (add_nought hf)
  have hval := fun w => valRD (b % 2 ^ 63) w (by omega)
  have HFV : Hid (Rat.divInt (zv true (fval 52 (b % 2 ^ 63))) ((2 ^ eD : Nat) : Int) = fR b) := by show _ = _; rw [fR_div, fv_side hn]
  have HSV : Hid (fval 52 (b % 2 ^ 63) < 4294967296 ^ 100) := fval_small hf
  obtain ⟨r, hr⟩ : ∃ r, r = b % 2 ^ 63 := ⟨_, rfl⟩
  rw [← hr] at hadd hval HFV HSV hng
  obtain ⟨V, hV⟩ : ∃ V, V = fval 52 r := ⟨_, rfl⟩
  rw [← hV] at hval HFV HSV
  obtain ⟨Q, hQ⟩ : ∃ Q, Q = fR b := ⟨_, rfl⟩
  rw [← hQ] at HFV ⊢
  clear hr hV hQ hn hf hb0
  have hpw : ∀ w, Calls Try.prog 15 #[.int .i64 1074] w fun e w' => Made' w.heap.size w (lim (2 ^ eD)) e w' := fun w => powerR eD w (by decide)
  obtain ⟨W1, hW1⟩ : ∃ W1, W1 = w.alloc (.cells #[.bool false, .slice none 0 0, .slice none 0 0] 29) := ⟨_, rfl⟩
  have qR : QCell W1 (w.heap.size) false (.slice none 0 0) (.slice none 0 0) := by rw [hW1]; exact (qcell_new _ (by simp))
  have hb : Below w.heap.size w W1 := by rw [hW1]; exact belowA w _
  have hsz : w.heap.size < W1.heap.size := by rw [hW1]; simp
  have HW1 : Hid (W1 = w.alloc (.cells #[.bool false, .slice none 0 0, .slice none 0 0] 29)) := hW1
  clear hW1
  go_enter Try.func4, Try.ntmps4
  go_wp2_with fail
  rw [← HW1.out]
  clear HW1
  obtain ⟨g, hg⟩ : ∃ g, g = w.heap.size := ⟨_, rfl⟩
  rw [← hg] at qR hsz ⊢
  have HG : Hid (g = w.heap.size) := hg
  clear hg
  refine (kindRD _).mono ?_
  rintro e w2 ⟨rfl, b⟩
  replace qR := qR.below b
  replace hb := bstep hb b
  replace hsz := Nat.lt_of_lt_of_le hsz b.size
  clear b
  have hq0 : LCell (w2.alloc (.cells #[.int .i64 0, .int .u64 0, .int .i64 0] 43)) w2.heap.size (.int .i64 0) (.int .u64 0) (.int .i64 0) := lcell_new _ rfl
  obtain ⟨W7, hW7⟩ : ∃ W, W = w2.alloc (.cells #[.int .i64 52, .int .u64 9218868437227405312, .int .i64 (-1074)] 43) := ⟨_, rfl⟩
  have qK : LCell W7 w2.heap.size (.int .i64 52) (.int .u64 9218868437227405312) (.int .i64 (-1074)) := by rw [hW7]; exact lcell_new _ rfl
  have b : Below w2.heap.size w2 W7 := by rw [hW7]; exact belowA _ _
  obtain ⟨z0, z1, z2⟩ := hq0.cells
  have t0 := frozen_of_row _ w2.heap.size 0 _ _ hq0
  have t1 := frozen_of_row _ w2.heap.size 1 _ _ hq0
  have t2 := frozen_of_row _ w2.heap.size 2 _ _ hq0
  clear hq0
  have HW7 : Hid (W7 = w2.alloc (.cells #[.int .i64 52, .int .u64 9218868437227405312, .int .i64 (-1074)] 43)) := hW7
  clear hW7
  go_wp2_with fail
  rw [← HW7.out]
  clear z0 z1 z2 t0 t1 t2 HW7
  replace qR := qR.below b
  replace hb := bstep hb b
  replace hsz := Nat.lt_of_lt_of_le hsz b.size
  clear b
  obtain ⟨v7, hv7⟩ : ∃ v, v = w2.heap.size := ⟨_, rfl⟩
  rw [← hv7] at qK ⊢
  clear hv7
  refine region_late [(1, fun w' => w'.cell? ⟨v7, 0, none⟩ = some (.int .i64 52) ∧ w'.cell? ⟨v7, 1, none⟩ = some (.int .u64 9218868437227405312) ∧ w'.cell? ⟨v7, 2, none⟩ = some (.int .i64 (-1074)))] (by kernel_rfl) ?_
  have hHeld : AllL W7.drew [(1, fun w' => w'.cell? ⟨v7, 0, none⟩ = some (.int .i64 52) ∧ w'.cell? ⟨v7, 1, none⟩ = some (.int .u64 9218868437227405312) ∧ w'.cell? ⟨v7, 2, none⟩ = some (.int .i64 (-1074)))] := ⟨(show LCell W7.drew (v7) (.int .i64 52) (.int .u64 9218868437227405312) (.int .i64 (-1074)) from qK).cells, trivial⟩
  refine late_free 0 (v := .bool true) rfl (by kernel_rfl) (by kernel_rfl) (by kernel_rfl) (by kernel_rfl) (by kernel_rfl) (by kernel_rfl) (fun _ _ _ h => h) (Or.inl ⟨by rfl, ?_⟩) hHeld ?_
  · (intro u _; go_simp)
  (try simp only [Act.put, List.setIfInBounds_toArray, List.set_cons_zero, List.set_cons_succ])
  refine late_take 1 (v := .agg #[.int .i64 52, .int .u64 9218868437227405312, .int .i64 (-1074)]) rfl (by kernel_rfl) (List.Mem.head _) (by kernel_rfl) (by kernel_rfl) (by kernel_rfl) (by kernel_rfl) (fun _ _ _ h => h) (Or.inl ⟨by rfl, ?_⟩) hHeld ?_
  · (intro u hu; (try dsimp only at hu); go_split_ands; go_simp)
  (try simp only [Act.put, List.setIfInBounds_toArray, List.set_cons_zero, List.set_cons_succ])
  refine late_free 2 (v := .float .f64 r) rfl (by kernel_rfl) (by kernel_rfl) (by kernel_rfl) (by kernel_rfl) (by kernel_rfl) (by kernel_rfl) (fun _ _ _ h => h) (Or.inl ⟨by rfl, ?_⟩) hHeld ?_
  · (intro u _; go_simp)
  (try simp only [Act.put, List.setIfInBounds_toArray, List.set_cons_zero, List.set_cons_succ])
  refine late_free 3 (v := .float .f64 r) rfl (by kernel_rfl) (by kernel_rfl) (by kernel_rfl) (by kernel_rfl) (by kernel_rfl) (by kernel_rfl) (fun _ _ _ h => h) (Or.inl ⟨by rfl, ?_⟩) hHeld ?_
  · (intro u _; go_simp)
  (try simp only [Act.put, List.setIfInBounds_toArray, List.set_cons_zero, List.set_cons_succ])
  refine late_step 4 (by kernel_rfl) rfl (fun K hK => ?_)
  go_simp
  refine hK.out _ _ (AllL.kept hHeld) ?_
  clear hK K
  (try simp only [Act.put, List.setIfInBounds_toArray, List.set_cons_zero, List.set_cons_succ])
  refine late_step 5 (by kernel_rfl) rfl (fun K hK => ?_)
  go_simp
  refine (hval _).mono ?_
  rintro e w3 ⟨v, rfl, o1, b3⟩
  obtain ⟨vo, vl, vc, rfl⟩ := o1.sl
  have n1 := o1.num
  clear o1
  have B3 : Below W7.heap.size W7 w3 := bstep (below_drew' _) b3
  clear hHeld
  have hHeld : AllL w3 [(1, fun w' => w'.cell? ⟨v7, 0, none⟩ = some (.int .i64 52) ∧ w'.cell? ⟨v7, 1, none⟩ = some (.int .u64 9218868437227405312) ∧ w'.cell? ⟨v7, 2, none⟩ = some (.int .i64 (-1074)))] := ⟨(qK.below B3).cells, trivial⟩
  go_wp2_with fail
  refine hK.out _ _ (AllL.kept hHeld) ?_
  clear hK K
  (try simp only [Act.put, List.setIfInBounds_toArray, List.set_cons_zero, List.set_cons_succ])
  refine late_step 6 (by kernel_rfl) rfl (fun K hK => ?_)
  go_simp
  refine (make_ref true _ _ _ n1 (Nat.le_trans (lim_len_le HSV.out) (by decide))).mono ?_
  rintro e w4 ⟨v, rfl, ⟨m, rfl, o2⟩, b4⟩
  obtain ⟨ko, kl, kc, rfl⟩ := o2.sl
  have n2 := o2.num
  clear o2
  have B4 : Below W7.heap.size W7 w4 := bstep B3 b4
  clear hHeld
  have hHeld : AllL w4 [(1, fun w' => w'.cell? ⟨v7, 0, none⟩ = some (.int .i64 52) ∧ w'.cell? ⟨v7, 1, none⟩ = some (.int .u64 9218868437227405312) ∧ w'.cell? ⟨v7, 2, none⟩ = some (.int .i64 (-1074)))] := ⟨(qK.below B4).cells, trivial⟩
  go_wp2_with fail
  refine hK.out _ _ (AllL.kept hHeld) ?_
  clear hK K
  (try simp only [Act.put, List.setIfInBounds_toArray, List.set_cons_zero, List.set_cons_succ])
  refine late_step 7 (by kernel_rfl) rfl (fun K hK => ?_)
  go_simp
  refine (hpw _).mono ?_
  rintro e w5 ⟨v, rfl, o3, b5⟩
  obtain ⟨po, pl, pc, rfl⟩ := o3.sl
  have n3 := o3.num
  clear o3
  have B5 : Below W7.heap.size W7 w5 := bstep B4 b5
  clear hHeld
  have hHeld : AllL w5 [(1, fun w' => w'.cell? ⟨v7, 0, none⟩ = some (.int .i64 52) ∧ w'.cell? ⟨v7, 1, none⟩ = some (.int .u64 9218868437227405312) ∧ w'.cell? ⟨v7, 2, none⟩ = some (.int .i64 (-1074)))] := ⟨(qK.below B5).cells, trivial⟩
  go_wp2_with fail
  refine hK.out _ _ (AllL.kept hHeld) ?_
  clear hK K
  (try simp only [Act.put, List.setIfInBounds_toArray, List.set_cons_zero, List.set_cons_succ])
  refine late_step 8 (by kernel_rfl) rfl (fun K hK => ?_)
  go_simp
  have hq := lowestR (decide (zv true (val (lim V)) < 0)) _ _ _ _ _ _ _ _ _ (n2.below (Nat.le_refl _) b5) n3 (mk_len HSV.out) pow_len2 pow_val2
  rw [mk_val, show val (lim (2 ^ eD)) = 2 ^ eD from val_lim _, HFV.out] at hq
  refine hq.mono ?_
  rintro e w6 ⟨v, rfl, hv, b6⟩
  clear hq
  obtain ⟨m, d, rfl, hm, hd, hap⟩ := hv
  obtain ⟨mo, ml, mc, rfl⟩ := hm.sl
  obtain ⟨mO, mL, mC, rfl⟩ := hd.sl
  have B6 : Below W7.heap.size W7 w6 := bstep B5 b6
  clear hHeld
  have hHeld : AllL w6 [(1, fun w' => w'.cell? ⟨v7, 0, none⟩ = some (.int .i64 52) ∧ w'.cell? ⟨v7, 1, none⟩ = some (.int .u64 9218868437227405312) ∧ w'.cell? ⟨v7, 2, none⟩ = some (.int .i64 (-1074)))] := ⟨(qK.below B6).cells, trivial⟩
  go_wp2_with fail
  refine hK.out _ _ (AllL.kept hHeld) ?_
  clear hK K
  (try simp only [Act.put, List.setIfInBounds_toArray, List.set_cons_zero, List.set_cons_succ])
  have qq := qR.below B6
  have HE : Hid (REnd w Q (.returned (.agg #[.bool (decide (Q.num < 0)), .slice mo ml mc, .slice mO mL mC])) (((w6.setCell ⟨g, 0, none⟩ (.bool (decide (Q.num < 0)))).setCell ⟨g, 1, none⟩ (.slice mo ml mc)).setCell ⟨g, 2, none⟩ (.slice mO mL mC))) := rat_done rfl (by rw [HG.out]; omega) hm hd hap (Nat.lt_of_lt_of_le hsz B5.size) (bstep hb B6)
  have HW : Hid (QCell (((w6.setCell ⟨g, 0, none⟩ (.bool (decide (Q.num < 0)))).setCell ⟨g, 1, none⟩ (.slice mo ml mc)).setCell ⟨g, 2, none⟩ (.slice mO mL mC)) (g) (decide (Q.num < 0)) (.slice mo ml mc) (.slice mO mL mC)) := qq.write _ _ _
  obtain ⟨y0, y1, y2⟩ := qq.cells
  have f0 := qq.thaw 0
  have f1 := qq.thaw 1
  have f2 := qq.thaw 2
  generalize decide (Q.num < 0) = bb at *
  clear qq hap
  clear n1 n2 n3
  refine late_step 9 (by kernel_rfl) rfl (fun K hK => ?_)
  go_simp
  refine hK.out _ _ ⟨Or.inl ⟨5, by kernel_rfl, by kernel_rfl⟩, trivial⟩ ?_
  clear hK K
  (try simp only [Act.put, List.setIfInBounds_toArray, List.set_cons_zero, List.set_cons_succ])
  refine late_step 10 (by kernel_rfl) rfl (fun K hK => ?_)
  go_simp
  refine hK.out _ _ ⟨Or.inl ⟨5, by kernel_rfl, by kernel_rfl⟩, trivial⟩ ?_
  clear hK K
  (try simp only [Act.put, List.setIfInBounds_toArray, List.set_cons_zero, List.set_cons_succ])
  refine late_done (by kernel_rfl) ?_ _
  clear hHeld
  clear hb hsz hm hd qR qK b3 b4 b5 b6 B3 B4 B5 B6
  go_wp2_with fail
  (try simp only [Exit.inBlock, Exit.then])
  exact bodyPost_ret (results_ct (p := 2) (u := 3) rfl _ _ (g) 29 _ (0, 0) _ rfl HW.out Try.underlying29 rfl (by kernel_rfl)) rfl HE.out.t
theorem refOf_yes (b : Nat) (w : World) (hb0 : b < 18446744073709551616) (hf : b % 2 ^ 63 < 9218868437227405312) : Calls Try.prog 4 #[.float .f64 b] w fun e w' => RTEnd w (fR b) e w' := by
  by_cases hn : (sgnb b && decide (b % 2 ^ 63 ≠ 0)) = true
  · exact refOf_neg b w hb0 hf hn
  · exact refOf_pos b w hb0 hf (by simpa using hn)
end Go.Proofs.Ytaekaikkldnikaa
