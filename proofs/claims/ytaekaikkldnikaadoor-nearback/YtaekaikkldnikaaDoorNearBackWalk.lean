/-
  Proved here: NearBack of any two floats returns true, and writes nothing that was there.
-/
import Derived.Test.YtaekaikkldnikaaDoorNearBackM
import Derived.WalkLawsBesides
namespace Go.Proofs.YtaekaikkldnikaaDoor
open Go.RowKit

theorem nought_eq {a : Nat} (ha : a < 18446744073709551616) (h : a % 2 ^ 63 = 0) : (FloatKind.f64.format.order 0 a != some .eq) = false := by
  have h4 : a = 0 ∨ a = 2 ^ 63 := by omega
  rcases h4 with rfl | rfl <;> decide
theorem of32_no (s : Nat) (w : World) (h : 2139095040 ≤ s % 2 ^ 31) : Calls Tryd.prog 8 #[.float .f32 s] w fun e w' => RFl w e w' := by
  rcases Nat.lt_or_ge 2139095040 (s % 2 ^ 31) with h1 | h1
  · exact of32_nan s w (by rw [snan_word, decide_eq_true h1])
  · have hn : (Ieee.single.read s).isNaN = false := by rw [snan_word, decide_eq_false (by omega)]
    exact of32_inf s w hn (cnv_inf hn (by omega))
set_option maxRecDepth 100000 in
set_option maxHeartbeats 6400000 in
theorem nback1 (a s : Nat) (w : World) (ha : a < 18446744073709551616) (hs : s < 4294967296) (hfa : a % 2 ^ 63 < 9218868437227405312) (hz : a % 2 ^ 63 = 0) (hfs : s % 2 ^ 31 < 2139095040) :
    Calls Tryd.prog 3 #[.float .f64 a, .float .f32 s] w fun e w' => e = .returned (.bool true) ∧ Below w.heap.size w w' := by
  have HA : Hid (_) := ha
  have HFA : Hid (_) := hfa
  have hsb : ∀ w, (binOp .sub 22 (.float .f64 a) (.float .f64 a)).run Tryd.prog w = .ok (.float .f64 0) w := fun w => run_float_arith w .sub _ .f64 a a 0 (fsub_fin ha hfa)
  have hsg0 : ∀ w, Calls Tryd.prog 11 #[.float .f64 0] w fun e w' => e = .returned (.bool false) ∧ w' = w := fun w => signbit_any 0 w (by decide)
  obtain ⟨k3, k1, k2⟩ := back_nought hz
  have hXa : (FloatKind.f64.format.order 0 a != some .eq) = false := nought_eq ha hz
  have hbf1 : Hid (arLo (sgnb a && decide (a % 2 ^ 63 ≠ 0)) (a % 2 ^ 63, (0 : Int)).fst (aboveF (a % 2 ^ 63, 0)) = _) := k1
  have hbf2 : Hid (arHi (sgnb a && decide (a % 2 ^ 63 ≠ 0)) (a % 2 ^ 63, (0 : Int)).fst (aboveF (a % 2 ^ 63, 0)) = _) := k2
  have hbf3 : Hid (sidedF (sgnb a && decide (a % 2 ^ 63 ≠ 0)) (nearestF (a % 2 ^ 63, 0)) = _) := (show nearestF (a % 2 ^ 63, 0) = a % 2 ^ 63 from rfl) ▸ k3
  clear k1 k2 k3
  obtain ⟨c1, c2, c3⟩ := cnv_fin hs hfs
  have HFC : Hid (cnv s % 2 ^ 63 < 9218868437227405312) := c1
  have hsb2 : ∀ w, (binOp .sub 23 (.float .f32 s) (.float .f32 s)).run Tryd.prog w = .ok (.float .f32 0) w := fun w => run_float_arith w .sub _ .f32 s s 0 (sub_fin32 hs hfs)
  have HN : Hid ((Ieee.single.read s).isNaN = false) := by show _ = _; rw [snan_word, decide_eq_false (Nat.not_lt_of_le (Nat.le_of_lt hfs))]
  have HB32 : Hid (_ = _) := back_find32 hs hfs
  have h32 := back_eq32 hs hfs
  rw [← c2] at h32
  obtain ⟨X, hX⟩ : ∃ X, X = sidedS (sgnb (cnv s) && decide (cnv s % 2 ^ 63 ≠ 0)) (s % 2 ^ 31) := ⟨_, rfl⟩
  rw [← hX] at h32
  have HS32 : Hid (sidedS (sgnb (cnv s) && decide (cnv s % 2 ^ 63 ≠ 0)) (nearestF (s % 2 ^ 31, 0)) = X) := hX.symm
  clear c1 c2 c3 hX
  have f00 : (FloatKind.f32.format.order 0 0 == some .eq) = true := by decide
  have e00 : (FloatKind.f64.format.order 0 0 == some .eq) = true := by decide
  clear hfa hfs ha hs hz
  have hb : Below w.heap.size w w := Below.refl _ _
  go_enter Tryd.func3, Tryd.ntmps3
  go_wp2_with fail
  refine (alive5_yes _).mono ?_
  rintro e w2 ⟨rfl, b⟩
  replace hb := bstep hb b
  clear b
  go_wp2_with fail
  refine (of64_yes a _ HA.out HFA.out).mono ?_
  rintro e w3 ⟨v, rfl, hv, b⟩
  obtain ⟨np, po, pl, pc, pO, pL, pC, rfl, rp⟩ := hv.seeS
  clear hv
  replace hb := bstep hb b
  clear b
  have hq0 : QCell (w3.alloc (.cells #[.bool false, .slice none 0 0, .slice none 0 0] 30)) w3.heap.size false (.slice none 0 0) (.slice none 0 0) := qcell_new _ rfl
  obtain ⟨W4, hW4⟩ : ∃ W, W = w3.alloc (.cells #[.bool np, .slice po pl pc, .slice pO pL pC] 30) := ⟨_, rfl⟩
  have qp : QCell W4 (w3.heap.size) np (.slice po pl pc) (.slice pO pL pC) := by rw [hW4]; exact qcell_new _ rfl
  have b : Below w3.heap.size w3 W4 := by rw [hW4]; exact belowA _ _
  obtain ⟨z0, z1, z2⟩ := hq0.cells
  have t0 := hq0.thaw 0
  have t1 := hq0.thaw 1
  have t2 := hq0.thaw 2
  clear hq0
  replace rp := rp.below b
  replace hb := bstep hb b
  clear b
  have rqp0 : (w3.alloc (.cells #[.bool np, .slice po pl pc, .slice pO pL pC] 30)).cell? ⟨w3.heap.size, 0, none⟩ = some (.bool np) := by rw [← hW4]; exact qp.cells.1
  have rqp1 : (w3.alloc (.cells #[.bool np, .slice po pl pc, .slice pO pL pC] 30)).cell? ⟨w3.heap.size, 1, none⟩ = some (.slice po pl pc) := by rw [← hW4]; exact qp.cells.2.1
  have rqp2 : (w3.alloc (.cells #[.bool np, .slice po pl pc, .slice pO pL pC] 30)).cell? ⟨w3.heap.size, 2, none⟩ = some (.slice pO pL pC) := by rw [← hW4]; exact qp.cells.2.2
  obtain ⟨v4, hv4⟩ : ∃ v, v = w3.heap.size := ⟨_, rfl⟩
  rw [← hv4] at qp
  have HW4 : Hid (W4 = w3.alloc (.cells #[.bool np, .slice po pl pc, .slice pO pL pC] 30)) := hW4
  have Hv4 : Hid (v4 = w3.heap.size) := hv4
  clear hW4 hv4
  go_wp2_with fail
  rw [← HW4.out, ← Hv4.out]
  clear HW4 Hv4 z0 z1 z2 t0 t1 t2 rqp0 rqp1 rqp2
  refine (of32_yes s _ HN.out HFC.out).mono ?_
  rintro e w5 ⟨v, rfl, hv, b⟩
  obtain ⟨nq, qo, ql, qc, qO, qL, qC, rfl, rq⟩ := hv.seeS
  clear hv
  replace rp := rp.below b
  replace qp := qp.below b
  replace hb := bstep hb b
  clear b
  have hq0 : QCell (w5.alloc (.cells #[.bool false, .slice none 0 0, .slice none 0 0] 30)) w5.heap.size false (.slice none 0 0) (.slice none 0 0) := qcell_new _ rfl
  obtain ⟨W6, hW6⟩ : ∃ W, W = w5.alloc (.cells #[.bool nq, .slice qo ql qc, .slice qO qL qC] 30) := ⟨_, rfl⟩
  have qq : QCell W6 (w5.heap.size) nq (.slice qo ql qc) (.slice qO qL qC) := by rw [hW6]; exact qcell_new _ rfl
  have b : Below w5.heap.size w5 W6 := by rw [hW6]; exact belowA _ _
  obtain ⟨z0, z1, z2⟩ := hq0.cells
  have t0 := hq0.thaw 0
  have t1 := hq0.thaw 1
  have t2 := hq0.thaw 2
  clear hq0
  replace rp := rp.below b
  replace rq := rq.below b
  replace qp := qp.below b
  replace hb := bstep hb b
  clear b
  have rqp0 : (w5.alloc (.cells #[.bool nq, .slice qo ql qc, .slice qO qL qC] 30)).cell? ⟨v4, 0, none⟩ = some (.bool np) := by rw [← hW6]; exact qp.cells.1
  have rqp1 : (w5.alloc (.cells #[.bool nq, .slice qo ql qc, .slice qO qL qC] 30)).cell? ⟨v4, 1, none⟩ = some (.slice po pl pc) := by rw [← hW6]; exact qp.cells.2.1
  have rqp2 : (w5.alloc (.cells #[.bool nq, .slice qo ql qc, .slice qO qL qC] 30)).cell? ⟨v4, 2, none⟩ = some (.slice pO pL pC) := by rw [← hW6]; exact qp.cells.2.2
  have rqq0 : (w5.alloc (.cells #[.bool nq, .slice qo ql qc, .slice qO qL qC] 30)).cell? ⟨w5.heap.size, 0, none⟩ = some (.bool nq) := by rw [← hW6]; exact qq.cells.1
  have rqq1 : (w5.alloc (.cells #[.bool nq, .slice qo ql qc, .slice qO qL qC] 30)).cell? ⟨w5.heap.size, 1, none⟩ = some (.slice qo ql qc) := by rw [← hW6]; exact qq.cells.2.1
  have rqq2 : (w5.alloc (.cells #[.bool nq, .slice qo ql qc, .slice qO qL qC] 30)).cell? ⟨w5.heap.size, 2, none⟩ = some (.slice qO qL qC) := by rw [← hW6]; exact qq.cells.2.2
  obtain ⟨v6, hv6⟩ : ∃ v, v = w5.heap.size := ⟨_, rfl⟩
  rw [← hv6] at qq
  have HW6 : Hid (W6 = w5.alloc (.cells #[.bool nq, .slice qo ql qc, .slice qO qL qC] 30)) := hW6
  have Hv6 : Hid (v6 = w5.heap.size) := hv6
  clear hW6 hv6
  go_wp2_with fail
  rw [← HW6.out, ← Hv6.out]
  clear HW6 Hv6 z0 z1 z2 t0 t1 t2 rqp0 rqp1 rqp2 rqq0 rqq1 rqq2
  have hq := q_around (rp.qn (fR_sz HFA.out) (by decide))
  rw [back_find HFA.out, fR_neg, hbf1.out, hbf2.out] at hq
  refine (hq).mono ?_
  rintro e w7 ⟨rfl, b⟩
  replace rp := rp.below b
  replace rq := rq.below b
  replace qp := qp.below b
  replace qq := qq.below b
  replace hb := bstep hb b
  clear b
  clear hq
  obtain ⟨cqp0, cqp1, cqp2⟩ := qp.cells
  obtain ⟨cqq0, cqq1, cqq2⟩ := qq.cells
  go_wp2_with fail
  clear cqp0 cqp1 cqp2 cqq0 cqq1 cqq2
  have hq := q_nearest (rp.qn (fR_sz HFA.out) (by decide))
  rw [back_find HFA.out, fR_neg, hbf3.out] at hq
  refine (hq).mono ?_
  rintro e w8 ⟨rfl, b⟩
  replace rp := rp.below b
  replace rq := rq.below b
  replace qp := qp.below b
  replace qq := qq.below b
  replace hb := bstep hb b
  clear b
  clear hq
  obtain ⟨cqp0, cqp1, cqp2⟩ := qp.cells
  obtain ⟨cqq0, cqq1, cqq2⟩ := qq.cells
  go_wp2_with fail
  clear cqp0 cqp1 cqp2 cqq0 cqq1 cqq2
  refine (hsg0 _).mono ?_
  rintro e w9 ⟨rfl, rfl⟩
  obtain ⟨cqp0, cqp1, cqp2⟩ := qp.cells
  obtain ⟨cqq0, cqq1, cqq2⟩ := qq.cells
  go_wp2_with fail
  clear cqp0 cqp1 cqp2 cqq0 cqq1 cqq2
  refine (hsg0 _).mono ?_
  rintro e w10 ⟨rfl, rfl⟩
  obtain ⟨cqp0, cqp1, cqp2⟩ := qp.cells
  obtain ⟨cqq0, cqq1, cqq2⟩ := qq.cells
  go_wp2_with fail
  clear cqp0 cqp1 cqp2 cqq0 cqq1 cqq2
  refine (hsg0 _).mono ?_
  rintro e w11 ⟨rfl, rfl⟩
  obtain ⟨cqp0, cqp1, cqp2⟩ := qp.cells
  obtain ⟨cqq0, cqq1, cqq2⟩ := qq.cells
  go_wp2_with fail
  clear cqp0 cqp1 cqp2 cqq0 cqq1 cqq2
  have hq := q_single (rq.qn (fR_sz HFC.out) (by decide))
  rw [HB32.out, fR_neg, HS32.out] at hq
  refine (hq).mono ?_
  rintro e w12 ⟨rfl, b⟩
  replace rp := rp.below b
  replace rq := rq.below b
  replace qp := qp.below b
  replace qq := qq.below b
  replace hb := bstep hb b
  clear b
  have HE : Hid (Below w.heap.size w w12) := hb
  clear hq hb qp qq rp rq
  go_wp2
  go_ret
  exact ⟨rfl, HE.out⟩
set_option maxRecDepth 100000 in
set_option maxHeartbeats 6400000 in
theorem nback2 (a s : Nat) (w : World) (ha : a < 18446744073709551616) (hs : s < 4294967296) (hfa : a % 2 ^ 63 < 9218868437227405312) (hz : a % 2 ^ 63 ≠ 0) (hfs : s % 2 ^ 31 < 2139095040) :
    Calls Tryd.prog 3 #[.float .f64 a, .float .f32 s] w fun e w' => e = .returned (.bool true) ∧ Below w.heap.size w w' := by
  have HA : Hid (_) := ha
  have HFA : Hid (_) := hfa
  have hsb : ∀ w, (binOp .sub 22 (.float .f64 a) (.float .f64 a)).run Tryd.prog w = .ok (.float .f64 0) w := fun w => run_float_arith w .sub _ .f64 a a 0 (fsub_fin ha hfa)
  obtain ⟨k3, k1, k2⟩ := back_word ha hz
  have hXa : (FloatKind.f64.format.order a a != some .eq) = false := by show ((Ieee.double.read a).order (Ieee.double.read a) != some .eq) = false; rw [order_self, nan_word, decide_eq_false (Nat.not_lt_of_le (Nat.le_of_lt hfa))]
  have hX0 : (FloatKind.f64.format.order a 0 == some .eq) = false := by rw [eq_nought ha hfa, decide_eq_false hz]
  have hbf1 : Hid (arLo (sgnb a && decide (a % 2 ^ 63 ≠ 0)) (a % 2 ^ 63, (0 : Int)).fst (aboveF (a % 2 ^ 63, 0)) = _) := k1
  have hbf2 : Hid (arHi (sgnb a && decide (a % 2 ^ 63 ≠ 0)) (a % 2 ^ 63, (0 : Int)).fst (aboveF (a % 2 ^ 63, 0)) = _) := k2
  have hbf3 : Hid (sidedF (sgnb a && decide (a % 2 ^ 63 ≠ 0)) (nearestF (a % 2 ^ 63, 0)) = _) := (show nearestF (a % 2 ^ 63, 0) = a % 2 ^ 63 from rfl) ▸ k3
  clear k1 k2 k3
  obtain ⟨c1, c2, c3⟩ := cnv_fin hs hfs
  have HFC : Hid (cnv s % 2 ^ 63 < 9218868437227405312) := c1
  have hsb2 : ∀ w, (binOp .sub 23 (.float .f32 s) (.float .f32 s)).run Tryd.prog w = .ok (.float .f32 0) w := fun w => run_float_arith w .sub _ .f32 s s 0 (sub_fin32 hs hfs)
  have HN : Hid ((Ieee.single.read s).isNaN = false) := by show _ = _; rw [snan_word, decide_eq_false (Nat.not_lt_of_le (Nat.le_of_lt hfs))]
  have HB32 : Hid (_ = _) := back_find32 hs hfs
  have h32 := back_eq32 hs hfs
  rw [← c2] at h32
  obtain ⟨X, hX⟩ : ∃ X, X = sidedS (sgnb (cnv s) && decide (cnv s % 2 ^ 63 ≠ 0)) (s % 2 ^ 31) := ⟨_, rfl⟩
  rw [← hX] at h32
  have HS32 : Hid (sidedS (sgnb (cnv s) && decide (cnv s % 2 ^ 63 ≠ 0)) (nearestF (s % 2 ^ 31, 0)) = X) := hX.symm
  clear c1 c2 c3 hX
  have f00 : (FloatKind.f32.format.order 0 0 == some .eq) = true := by decide
  have e00 : (FloatKind.f64.format.order 0 0 == some .eq) = true := by decide
  clear hfa hfs ha hs hz
  have hb : Below w.heap.size w w := Below.refl _ _
  go_enter Tryd.func3, Tryd.ntmps3
  go_wp2_with fail
  refine (alive5_yes _).mono ?_
  rintro e w2 ⟨rfl, b⟩
  replace hb := bstep hb b
  clear b
  go_wp2_with fail
  refine (of64_yes a _ HA.out HFA.out).mono ?_
  rintro e w3 ⟨v, rfl, hv, b⟩
  obtain ⟨np, po, pl, pc, pO, pL, pC, rfl, rp⟩ := hv.seeS
  clear hv
  replace hb := bstep hb b
  clear b
  have hq0 : QCell (w3.alloc (.cells #[.bool false, .slice none 0 0, .slice none 0 0] 30)) w3.heap.size false (.slice none 0 0) (.slice none 0 0) := qcell_new _ rfl
  obtain ⟨W4, hW4⟩ : ∃ W, W = w3.alloc (.cells #[.bool np, .slice po pl pc, .slice pO pL pC] 30) := ⟨_, rfl⟩
  have qp : QCell W4 (w3.heap.size) np (.slice po pl pc) (.slice pO pL pC) := by rw [hW4]; exact qcell_new _ rfl
  have b : Below w3.heap.size w3 W4 := by rw [hW4]; exact belowA _ _
  obtain ⟨z0, z1, z2⟩ := hq0.cells
  have t0 := hq0.thaw 0
  have t1 := hq0.thaw 1
  have t2 := hq0.thaw 2
  clear hq0
  replace rp := rp.below b
  replace hb := bstep hb b
  clear b
  have rqp0 : (w3.alloc (.cells #[.bool np, .slice po pl pc, .slice pO pL pC] 30)).cell? ⟨w3.heap.size, 0, none⟩ = some (.bool np) := by rw [← hW4]; exact qp.cells.1
  have rqp1 : (w3.alloc (.cells #[.bool np, .slice po pl pc, .slice pO pL pC] 30)).cell? ⟨w3.heap.size, 1, none⟩ = some (.slice po pl pc) := by rw [← hW4]; exact qp.cells.2.1
  have rqp2 : (w3.alloc (.cells #[.bool np, .slice po pl pc, .slice pO pL pC] 30)).cell? ⟨w3.heap.size, 2, none⟩ = some (.slice pO pL pC) := by rw [← hW4]; exact qp.cells.2.2
  obtain ⟨v4, hv4⟩ : ∃ v, v = w3.heap.size := ⟨_, rfl⟩
  rw [← hv4] at qp
  have HW4 : Hid (W4 = w3.alloc (.cells #[.bool np, .slice po pl pc, .slice pO pL pC] 30)) := hW4
  have Hv4 : Hid (v4 = w3.heap.size) := hv4
  clear hW4 hv4
  go_wp2_with fail
  rw [← HW4.out, ← Hv4.out]
  clear HW4 Hv4 z0 z1 z2 t0 t1 t2 rqp0 rqp1 rqp2
  refine (of32_yes s _ HN.out HFC.out).mono ?_
  rintro e w5 ⟨v, rfl, hv, b⟩
  obtain ⟨nq, qo, ql, qc, qO, qL, qC, rfl, rq⟩ := hv.seeS
  clear hv
  replace rp := rp.below b
  replace qp := qp.below b
  replace hb := bstep hb b
  clear b
  have hq0 : QCell (w5.alloc (.cells #[.bool false, .slice none 0 0, .slice none 0 0] 30)) w5.heap.size false (.slice none 0 0) (.slice none 0 0) := qcell_new _ rfl
  obtain ⟨W6, hW6⟩ : ∃ W, W = w5.alloc (.cells #[.bool nq, .slice qo ql qc, .slice qO qL qC] 30) := ⟨_, rfl⟩
  have qq : QCell W6 (w5.heap.size) nq (.slice qo ql qc) (.slice qO qL qC) := by rw [hW6]; exact qcell_new _ rfl
  have b : Below w5.heap.size w5 W6 := by rw [hW6]; exact belowA _ _
  obtain ⟨z0, z1, z2⟩ := hq0.cells
  have t0 := hq0.thaw 0
  have t1 := hq0.thaw 1
  have t2 := hq0.thaw 2
  clear hq0
  replace rp := rp.below b
  replace rq := rq.below b
  replace qp := qp.below b
  replace hb := bstep hb b
  clear b
  have rqp0 : (w5.alloc (.cells #[.bool nq, .slice qo ql qc, .slice qO qL qC] 30)).cell? ⟨v4, 0, none⟩ = some (.bool np) := by rw [← hW6]; exact qp.cells.1
  have rqp1 : (w5.alloc (.cells #[.bool nq, .slice qo ql qc, .slice qO qL qC] 30)).cell? ⟨v4, 1, none⟩ = some (.slice po pl pc) := by rw [← hW6]; exact qp.cells.2.1
  have rqp2 : (w5.alloc (.cells #[.bool nq, .slice qo ql qc, .slice qO qL qC] 30)).cell? ⟨v4, 2, none⟩ = some (.slice pO pL pC) := by rw [← hW6]; exact qp.cells.2.2
  have rqq0 : (w5.alloc (.cells #[.bool nq, .slice qo ql qc, .slice qO qL qC] 30)).cell? ⟨w5.heap.size, 0, none⟩ = some (.bool nq) := by rw [← hW6]; exact qq.cells.1
  have rqq1 : (w5.alloc (.cells #[.bool nq, .slice qo ql qc, .slice qO qL qC] 30)).cell? ⟨w5.heap.size, 1, none⟩ = some (.slice qo ql qc) := by rw [← hW6]; exact qq.cells.2.1
  have rqq2 : (w5.alloc (.cells #[.bool nq, .slice qo ql qc, .slice qO qL qC] 30)).cell? ⟨w5.heap.size, 2, none⟩ = some (.slice qO qL qC) := by rw [← hW6]; exact qq.cells.2.2
  obtain ⟨v6, hv6⟩ : ∃ v, v = w5.heap.size := ⟨_, rfl⟩
  rw [← hv6] at qq
  have HW6 : Hid (W6 = w5.alloc (.cells #[.bool nq, .slice qo ql qc, .slice qO qL qC] 30)) := hW6
  have Hv6 : Hid (v6 = w5.heap.size) := hv6
  clear hW6 hv6
  go_wp2_with fail
  rw [← HW6.out, ← Hv6.out]
  clear HW6 Hv6 z0 z1 z2 t0 t1 t2 rqp0 rqp1 rqp2 rqq0 rqq1 rqq2
  have hq := q_around (rp.qn (fR_sz HFA.out) (by decide))
  rw [back_find HFA.out, fR_neg, hbf1.out, hbf2.out] at hq
  refine (hq).mono ?_
  rintro e w7 ⟨rfl, b⟩
  replace rp := rp.below b
  replace rq := rq.below b
  replace qp := qp.below b
  replace qq := qq.below b
  replace hb := bstep hb b
  clear b
  clear hq
  obtain ⟨cqp0, cqp1, cqp2⟩ := qp.cells
  obtain ⟨cqq0, cqq1, cqq2⟩ := qq.cells
  go_wp2_with fail
  clear cqp0 cqp1 cqp2 cqq0 cqq1 cqq2
  have hq := q_nearest (rp.qn (fR_sz HFA.out) (by decide))
  rw [back_find HFA.out, fR_neg, hbf3.out] at hq
  refine (hq).mono ?_
  rintro e w8 ⟨rfl, b⟩
  replace rp := rp.below b
  replace rq := rq.below b
  replace qp := qp.below b
  replace qq := qq.below b
  replace hb := bstep hb b
  clear b
  clear hq
  obtain ⟨cqp0, cqp1, cqp2⟩ := qp.cells
  obtain ⟨cqq0, cqq1, cqq2⟩ := qq.cells
  go_wp2_with fail
  clear cqp0 cqp1 cqp2 cqq0 cqq1 cqq2
  have hq := q_single (rq.qn (fR_sz HFC.out) (by decide))
  rw [HB32.out, fR_neg, HS32.out] at hq
  refine (hq).mono ?_
  rintro e w9 ⟨rfl, b⟩
  replace rp := rp.below b
  replace rq := rq.below b
  replace qp := qp.below b
  replace qq := qq.below b
  replace hb := bstep hb b
  clear b
  have HE : Hid (Below w.heap.size w w9) := hb
  clear hq hb qp qq rp rq
  go_wp2
  go_ret
  exact ⟨rfl, HE.out⟩
set_option maxRecDepth 100000 in
set_option maxHeartbeats 6400000 in
theorem nback3 (a s : Nat) (w : World) (ha : a < 18446744073709551616) (_ : s < 4294967296) (hfa : a % 2 ^ 63 < 9218868437227405312) (hz : a % 2 ^ 63 = 0) (hfs : 2139095040 ≤ s % 2 ^ 31) :
    Calls Tryd.prog 3 #[.float .f64 a, .float .f32 s] w fun e w' => e = .returned (.bool true) ∧ Below w.heap.size w w' := by
  have HA : Hid (_) := ha
  have HFA : Hid (_) := hfa
  have hsb : ∀ w, (binOp .sub 22 (.float .f64 a) (.float .f64 a)).run Tryd.prog w = .ok (.float .f64 0) w := fun w => run_float_arith w .sub _ .f64 a a 0 (fsub_fin ha hfa)
  have hsg0 : ∀ w, Calls Tryd.prog 11 #[.float .f64 0] w fun e w' => e = .returned (.bool false) ∧ w' = w := fun w => signbit_any 0 w (by decide)
  obtain ⟨k3, k1, k2⟩ := back_nought hz
  have hXa : (FloatKind.f64.format.order 0 a != some .eq) = false := nought_eq ha hz
  have hbf1 : Hid (arLo (sgnb a && decide (a % 2 ^ 63 ≠ 0)) (a % 2 ^ 63, (0 : Int)).fst (aboveF (a % 2 ^ 63, 0)) = _) := k1
  have hbf2 : Hid (arHi (sgnb a && decide (a % 2 ^ 63 ≠ 0)) (a % 2 ^ 63, (0 : Int)).fst (aboveF (a % 2 ^ 63, 0)) = _) := k2
  have hbf3 : Hid (sidedF (sgnb a && decide (a % 2 ^ 63 ≠ 0)) (nearestF (a % 2 ^ 63, 0)) = _) := (show nearestF (a % 2 ^ 63, 0) = a % 2 ^ 63 from rfl) ▸ k3
  clear k1 k2 k3
  have hsb2 : ∀ w, (binOp .sub 23 (.float .f32 s) (.float .f32 s)).run Tryd.prog w = .ok (.float .f32 (nanS .f32 s w)) w.drew := fun w => run_sub_none _ _ _ _ w (sub_no32 hfs)
  have hnq2 := nanS32 s
  have hno : ∀ w, Calls Tryd.prog 8 #[.float .f32 s] w fun e w' => RFl w e w' := fun w => of32_no s w hfs
  have e00 : (FloatKind.f64.format.order 0 0 == some .eq) = true := by decide
  clear hfa hfs ha hz
  have hb : Below w.heap.size w w := Below.refl _ _
  go_enter Tryd.func3, Tryd.ntmps3
  go_wp2_with fail
  refine (alive5_yes _).mono ?_
  rintro e w2 ⟨rfl, b⟩
  replace hb := bstep hb b
  clear b
  go_wp2_with fail
  refine (of64_yes a _ HA.out HFA.out).mono ?_
  rintro e w3 ⟨v, rfl, hv, b⟩
  obtain ⟨np, po, pl, pc, pO, pL, pC, rfl, rp⟩ := hv.seeS
  clear hv
  replace hb := bstep hb b
  clear b
  have hq0 : QCell (w3.alloc (.cells #[.bool false, .slice none 0 0, .slice none 0 0] 30)) w3.heap.size false (.slice none 0 0) (.slice none 0 0) := qcell_new _ rfl
  obtain ⟨W4, hW4⟩ : ∃ W, W = w3.alloc (.cells #[.bool np, .slice po pl pc, .slice pO pL pC] 30) := ⟨_, rfl⟩
  have qp : QCell W4 (w3.heap.size) np (.slice po pl pc) (.slice pO pL pC) := by rw [hW4]; exact qcell_new _ rfl
  have b : Below w3.heap.size w3 W4 := by rw [hW4]; exact belowA _ _
  obtain ⟨z0, z1, z2⟩ := hq0.cells
  have t0 := hq0.thaw 0
  have t1 := hq0.thaw 1
  have t2 := hq0.thaw 2
  clear hq0
  replace rp := rp.below b
  replace hb := bstep hb b
  clear b
  have rqp0 : (w3.alloc (.cells #[.bool np, .slice po pl pc, .slice pO pL pC] 30)).cell? ⟨w3.heap.size, 0, none⟩ = some (.bool np) := by rw [← hW4]; exact qp.cells.1
  have rqp1 : (w3.alloc (.cells #[.bool np, .slice po pl pc, .slice pO pL pC] 30)).cell? ⟨w3.heap.size, 1, none⟩ = some (.slice po pl pc) := by rw [← hW4]; exact qp.cells.2.1
  have rqp2 : (w3.alloc (.cells #[.bool np, .slice po pl pc, .slice pO pL pC] 30)).cell? ⟨w3.heap.size, 2, none⟩ = some (.slice pO pL pC) := by rw [← hW4]; exact qp.cells.2.2
  obtain ⟨v4, hv4⟩ : ∃ v, v = w3.heap.size := ⟨_, rfl⟩
  rw [← hv4] at qp
  have HW4 : Hid (W4 = w3.alloc (.cells #[.bool np, .slice po pl pc, .slice pO pL pC] 30)) := hW4
  have Hv4 : Hid (v4 = w3.heap.size) := hv4
  clear hW4 hv4
  go_wp2_with fail
  rw [← HW4.out, ← Hv4.out]
  clear HW4 Hv4 z0 z1 z2 t0 t1 t2 rqp0 rqp1 rqp2
  refine (hno _).mono ?_
  rintro e w5 ⟨rfl, b⟩
  replace rp := rp.below b
  replace qp := qp.below b
  replace hb := bstep hb b
  clear b
  obtain ⟨W6, hW6⟩ : ∃ W, W = w5.alloc (.cells #[.bool false, .slice none 0 0, .slice none 0 0] 30) := ⟨_, rfl⟩
  have hq0 : QCell (w5.alloc (.cells #[.bool false, .slice none 0 0, .slice none 0 0] 30)) w5.heap.size false (.slice none 0 0) (.slice none 0 0) := qcell_new _ rfl
  have b : Below w5.heap.size w5 W6 := by rw [hW6]; exact belowA _ _
  obtain ⟨z0, z1, z2⟩ := hq0.cells
  have t0 := hq0.thaw 0
  have t1 := hq0.thaw 1
  have t2 := hq0.thaw 2
  clear hq0
  replace rp := rp.below b
  replace qp := qp.below b
  replace hb := bstep hb b
  clear b
  have rqp0 : (w5.alloc (.cells #[.bool false, .slice none 0 0, .slice none 0 0] 30)).cell? ⟨v4, 0, none⟩ = some (.bool np) := by rw [← hW6]; exact qp.cells.1
  have rqp1 : (w5.alloc (.cells #[.bool false, .slice none 0 0, .slice none 0 0] 30)).cell? ⟨v4, 1, none⟩ = some (.slice po pl pc) := by rw [← hW6]; exact qp.cells.2.1
  have rqp2 : (w5.alloc (.cells #[.bool false, .slice none 0 0, .slice none 0 0] 30)).cell? ⟨v4, 2, none⟩ = some (.slice pO pL pC) := by rw [← hW6]; exact qp.cells.2.2
  have HW6 : Hid (W6 = w5.alloc (.cells #[.bool false, .slice none 0 0, .slice none 0 0] 30)) := hW6
  clear hW6
  go_wp2_with fail
  rw [← HW6.out]
  clear HW6 z0 z1 z2 t0 t1 t2 rqp0 rqp1 rqp2
  have b : Below W6.heap.size W6 W6.drew := (Below.refl _ _).drew
  replace rp := rp.below b
  replace qp := qp.below b
  replace hb := bstep hb b
  clear b
  generalize W6.drew = w7 at *
  have hq := q_around (rp.qn (fR_sz HFA.out) (by decide))
  rw [back_find HFA.out, fR_neg, hbf1.out, hbf2.out] at hq
  refine (hq).mono ?_
  rintro e w8 ⟨rfl, b⟩
  replace rp := rp.below b
  replace qp := qp.below b
  replace hb := bstep hb b
  clear b
  clear hq
  obtain ⟨cqp0, cqp1, cqp2⟩ := qp.cells
  go_wp2_with fail
  clear cqp0 cqp1 cqp2
  have hq := q_nearest (rp.qn (fR_sz HFA.out) (by decide))
  rw [back_find HFA.out, fR_neg, hbf3.out] at hq
  refine (hq).mono ?_
  rintro e w9 ⟨rfl, b⟩
  replace rp := rp.below b
  replace qp := qp.below b
  replace hb := bstep hb b
  clear b
  clear hq
  obtain ⟨cqp0, cqp1, cqp2⟩ := qp.cells
  go_wp2_with fail
  clear cqp0 cqp1 cqp2
  refine (hsg0 _).mono ?_
  rintro e w10 ⟨rfl, rfl⟩
  obtain ⟨cqp0, cqp1, cqp2⟩ := qp.cells
  go_wp2_with fail
  clear cqp0 cqp1 cqp2
  refine (hsg0 _).mono ?_
  rintro e w11 ⟨rfl, rfl⟩
  obtain ⟨cqp0, cqp1, cqp2⟩ := qp.cells
  go_wp2_with fail
  clear cqp0 cqp1 cqp2
  refine (hsg0 _).mono ?_
  rintro e w12 ⟨rfl, rfl⟩
  have HE : Hid (Below w.heap.size w w12) := hb
  clear hb qp rp
  go_wp2
  go_ret
  exact ⟨rfl, HE.out⟩
set_option maxRecDepth 100000 in
set_option maxHeartbeats 6400000 in
theorem nback4 (a s : Nat) (w : World) (ha : a < 18446744073709551616) (_ : s < 4294967296) (hfa : a % 2 ^ 63 < 9218868437227405312) (hz : a % 2 ^ 63 ≠ 0) (hfs : 2139095040 ≤ s % 2 ^ 31) :
    Calls Tryd.prog 3 #[.float .f64 a, .float .f32 s] w fun e w' => e = .returned (.bool true) ∧ Below w.heap.size w w' := by
  have HA : Hid (_) := ha
  have HFA : Hid (_) := hfa
  have hsb : ∀ w, (binOp .sub 22 (.float .f64 a) (.float .f64 a)).run Tryd.prog w = .ok (.float .f64 0) w := fun w => run_float_arith w .sub _ .f64 a a 0 (fsub_fin ha hfa)
  obtain ⟨k3, k1, k2⟩ := back_word ha hz
  have hXa : (FloatKind.f64.format.order a a != some .eq) = false := by show ((Ieee.double.read a).order (Ieee.double.read a) != some .eq) = false; rw [order_self, nan_word, decide_eq_false (Nat.not_lt_of_le (Nat.le_of_lt hfa))]
  have hX0 : (FloatKind.f64.format.order a 0 == some .eq) = false := by rw [eq_nought ha hfa, decide_eq_false hz]
  have hbf1 : Hid (arLo (sgnb a && decide (a % 2 ^ 63 ≠ 0)) (a % 2 ^ 63, (0 : Int)).fst (aboveF (a % 2 ^ 63, 0)) = _) := k1
  have hbf2 : Hid (arHi (sgnb a && decide (a % 2 ^ 63 ≠ 0)) (a % 2 ^ 63, (0 : Int)).fst (aboveF (a % 2 ^ 63, 0)) = _) := k2
  have hbf3 : Hid (sidedF (sgnb a && decide (a % 2 ^ 63 ≠ 0)) (nearestF (a % 2 ^ 63, 0)) = _) := (show nearestF (a % 2 ^ 63, 0) = a % 2 ^ 63 from rfl) ▸ k3
  clear k1 k2 k3
  have hsb2 : ∀ w, (binOp .sub 23 (.float .f32 s) (.float .f32 s)).run Tryd.prog w = .ok (.float .f32 (nanS .f32 s w)) w.drew := fun w => run_sub_none _ _ _ _ w (sub_no32 hfs)
  have hnq2 := nanS32 s
  have hno : ∀ w, Calls Tryd.prog 8 #[.float .f32 s] w fun e w' => RFl w e w' := fun w => of32_no s w hfs
  have e00 : (FloatKind.f64.format.order 0 0 == some .eq) = true := by decide
  clear hfa hfs ha hz
  have hb : Below w.heap.size w w := Below.refl _ _
  go_enter Tryd.func3, Tryd.ntmps3
  go_wp2_with fail
  refine (alive5_yes _).mono ?_
  rintro e w2 ⟨rfl, b⟩
  replace hb := bstep hb b
  clear b
  go_wp2_with fail
  refine (of64_yes a _ HA.out HFA.out).mono ?_
  rintro e w3 ⟨v, rfl, hv, b⟩
  obtain ⟨np, po, pl, pc, pO, pL, pC, rfl, rp⟩ := hv.seeS
  clear hv
  replace hb := bstep hb b
  clear b
  have hq0 : QCell (w3.alloc (.cells #[.bool false, .slice none 0 0, .slice none 0 0] 30)) w3.heap.size false (.slice none 0 0) (.slice none 0 0) := qcell_new _ rfl
  obtain ⟨W4, hW4⟩ : ∃ W, W = w3.alloc (.cells #[.bool np, .slice po pl pc, .slice pO pL pC] 30) := ⟨_, rfl⟩
  have qp : QCell W4 (w3.heap.size) np (.slice po pl pc) (.slice pO pL pC) := by rw [hW4]; exact qcell_new _ rfl
  have b : Below w3.heap.size w3 W4 := by rw [hW4]; exact belowA _ _
  obtain ⟨z0, z1, z2⟩ := hq0.cells
  have t0 := hq0.thaw 0
  have t1 := hq0.thaw 1
  have t2 := hq0.thaw 2
  clear hq0
  replace rp := rp.below b
  replace hb := bstep hb b
  clear b
  have rqp0 : (w3.alloc (.cells #[.bool np, .slice po pl pc, .slice pO pL pC] 30)).cell? ⟨w3.heap.size, 0, none⟩ = some (.bool np) := by rw [← hW4]; exact qp.cells.1
  have rqp1 : (w3.alloc (.cells #[.bool np, .slice po pl pc, .slice pO pL pC] 30)).cell? ⟨w3.heap.size, 1, none⟩ = some (.slice po pl pc) := by rw [← hW4]; exact qp.cells.2.1
  have rqp2 : (w3.alloc (.cells #[.bool np, .slice po pl pc, .slice pO pL pC] 30)).cell? ⟨w3.heap.size, 2, none⟩ = some (.slice pO pL pC) := by rw [← hW4]; exact qp.cells.2.2
  obtain ⟨v4, hv4⟩ : ∃ v, v = w3.heap.size := ⟨_, rfl⟩
  rw [← hv4] at qp
  have HW4 : Hid (W4 = w3.alloc (.cells #[.bool np, .slice po pl pc, .slice pO pL pC] 30)) := hW4
  have Hv4 : Hid (v4 = w3.heap.size) := hv4
  clear hW4 hv4
  go_wp2_with fail
  rw [← HW4.out, ← Hv4.out]
  clear HW4 Hv4 z0 z1 z2 t0 t1 t2 rqp0 rqp1 rqp2
  refine (hno _).mono ?_
  rintro e w5 ⟨rfl, b⟩
  replace rp := rp.below b
  replace qp := qp.below b
  replace hb := bstep hb b
  clear b
  obtain ⟨W6, hW6⟩ : ∃ W, W = w5.alloc (.cells #[.bool false, .slice none 0 0, .slice none 0 0] 30) := ⟨_, rfl⟩
  have hq0 : QCell (w5.alloc (.cells #[.bool false, .slice none 0 0, .slice none 0 0] 30)) w5.heap.size false (.slice none 0 0) (.slice none 0 0) := qcell_new _ rfl
  have b : Below w5.heap.size w5 W6 := by rw [hW6]; exact belowA _ _
  obtain ⟨z0, z1, z2⟩ := hq0.cells
  have t0 := hq0.thaw 0
  have t1 := hq0.thaw 1
  have t2 := hq0.thaw 2
  clear hq0
  replace rp := rp.below b
  replace qp := qp.below b
  replace hb := bstep hb b
  clear b
  have rqp0 : (w5.alloc (.cells #[.bool false, .slice none 0 0, .slice none 0 0] 30)).cell? ⟨v4, 0, none⟩ = some (.bool np) := by rw [← hW6]; exact qp.cells.1
  have rqp1 : (w5.alloc (.cells #[.bool false, .slice none 0 0, .slice none 0 0] 30)).cell? ⟨v4, 1, none⟩ = some (.slice po pl pc) := by rw [← hW6]; exact qp.cells.2.1
  have rqp2 : (w5.alloc (.cells #[.bool false, .slice none 0 0, .slice none 0 0] 30)).cell? ⟨v4, 2, none⟩ = some (.slice pO pL pC) := by rw [← hW6]; exact qp.cells.2.2
  have HW6 : Hid (W6 = w5.alloc (.cells #[.bool false, .slice none 0 0, .slice none 0 0] 30)) := hW6
  clear hW6
  go_wp2_with fail
  rw [← HW6.out]
  clear HW6 z0 z1 z2 t0 t1 t2 rqp0 rqp1 rqp2
  have b : Below W6.heap.size W6 W6.drew := (Below.refl _ _).drew
  replace rp := rp.below b
  replace qp := qp.below b
  replace hb := bstep hb b
  clear b
  generalize W6.drew = w7 at *
  have hq := q_around (rp.qn (fR_sz HFA.out) (by decide))
  rw [back_find HFA.out, fR_neg, hbf1.out, hbf2.out] at hq
  refine (hq).mono ?_
  rintro e w8 ⟨rfl, b⟩
  replace rp := rp.below b
  replace qp := qp.below b
  replace hb := bstep hb b
  clear b
  clear hq
  obtain ⟨cqp0, cqp1, cqp2⟩ := qp.cells
  go_wp2_with fail
  clear cqp0 cqp1 cqp2
  have hq := q_nearest (rp.qn (fR_sz HFA.out) (by decide))
  rw [back_find HFA.out, fR_neg, hbf3.out] at hq
  refine (hq).mono ?_
  rintro e w9 ⟨rfl, b⟩
  replace rp := rp.below b
  replace qp := qp.below b
  replace hb := bstep hb b
  clear b
  clear hq
  have HE : Hid (Below w.heap.size w w9) := hb
  clear hb qp rp
  go_wp2
  go_ret
  exact ⟨rfl, HE.out⟩
set_option maxRecDepth 100000 in
set_option maxHeartbeats 6400000 in
theorem nback5 (a s : Nat) (w : World) (ha : a < 18446744073709551616) (hs : s < 4294967296) (hfa : 9218868437227405312 ≤ a % 2 ^ 63) (hfs : s % 2 ^ 31 < 2139095040) :
    Calls Tryd.prog 3 #[.float .f64 a, .float .f32 s] w fun e w' => e = .returned (.bool true) ∧ Below w.heap.size w w' := by
  have HA : Hid (_) := ha
  have HFA : Hid (_) := hfa
  have hsb : ∀ w, (binOp .sub 22 (.float .f64 a) (.float .f64 a)).run Tryd.prog w = .ok (.float .f64 (nanS .f64 a w)) w.drew := fun w => run_sub_none _ _ _ _ w (fsub_no ha hfa)
  have hnq := nanS64 a
  obtain ⟨c1, c2, c3⟩ := cnv_fin hs hfs
  have HFC : Hid (cnv s % 2 ^ 63 < 9218868437227405312) := c1
  have hsb2 : ∀ w, (binOp .sub 23 (.float .f32 s) (.float .f32 s)).run Tryd.prog w = .ok (.float .f32 0) w := fun w => run_float_arith w .sub _ .f32 s s 0 (sub_fin32 hs hfs)
  have HN : Hid ((Ieee.single.read s).isNaN = false) := by show _ = _; rw [snan_word, decide_eq_false (Nat.not_lt_of_le (Nat.le_of_lt hfs))]
  have HB32 : Hid (_ = _) := back_find32 hs hfs
  have h32 := back_eq32 hs hfs
  rw [← c2] at h32
  obtain ⟨X, hX⟩ : ∃ X, X = sidedS (sgnb (cnv s) && decide (cnv s % 2 ^ 63 ≠ 0)) (s % 2 ^ 31) := ⟨_, rfl⟩
  rw [← hX] at h32
  have HS32 : Hid (sidedS (sgnb (cnv s) && decide (cnv s % 2 ^ 63 ≠ 0)) (nearestF (s % 2 ^ 31, 0)) = X) := hX.symm
  clear c1 c2 c3 hX
  have f00 : (FloatKind.f32.format.order 0 0 == some .eq) = true := by decide
  clear hfa hfs ha hs
  have hb : Below w.heap.size w w := Below.refl _ _
  go_enter Tryd.func3, Tryd.ntmps3
  go_wp2_with fail
  refine (alive5_yes _).mono ?_
  rintro e w2 ⟨rfl, b⟩
  replace hb := bstep hb b
  clear b
  go_wp2_with fail
  refine (of64_no a _ HA.out HFA.out).mono ?_
  rintro e w3 ⟨rfl, b⟩
  replace hb := bstep hb b
  clear b
  obtain ⟨W4, hW4⟩ : ∃ W, W = w3.alloc (.cells #[.bool false, .slice none 0 0, .slice none 0 0] 30) := ⟨_, rfl⟩
  have hq0 : QCell (w3.alloc (.cells #[.bool false, .slice none 0 0, .slice none 0 0] 30)) w3.heap.size false (.slice none 0 0) (.slice none 0 0) := qcell_new _ rfl
  have b : Below w3.heap.size w3 W4 := by rw [hW4]; exact belowA _ _
  obtain ⟨z0, z1, z2⟩ := hq0.cells
  have t0 := hq0.thaw 0
  have t1 := hq0.thaw 1
  have t2 := hq0.thaw 2
  clear hq0
  replace hb := bstep hb b
  clear b
  have HW4 : Hid (W4 = w3.alloc (.cells #[.bool false, .slice none 0 0, .slice none 0 0] 30)) := hW4
  clear hW4
  go_wp2_with fail
  rw [← HW4.out]
  clear HW4 z0 z1 z2 t0 t1 t2 
  refine (of32_yes s _ HN.out HFC.out).mono ?_
  rintro e w5 ⟨v, rfl, hv, b⟩
  obtain ⟨nq, qo, ql, qc, qO, qL, qC, rfl, rq⟩ := hv.seeS
  clear hv
  replace hb := bstep hb b
  clear b
  have hq0 : QCell (w5.alloc (.cells #[.bool false, .slice none 0 0, .slice none 0 0] 30)) w5.heap.size false (.slice none 0 0) (.slice none 0 0) := qcell_new _ rfl
  obtain ⟨W6, hW6⟩ : ∃ W, W = w5.alloc (.cells #[.bool nq, .slice qo ql qc, .slice qO qL qC] 30) := ⟨_, rfl⟩
  have qq : QCell W6 (w5.heap.size) nq (.slice qo ql qc) (.slice qO qL qC) := by rw [hW6]; exact qcell_new _ rfl
  have b : Below w5.heap.size w5 W6 := by rw [hW6]; exact belowA _ _
  obtain ⟨z0, z1, z2⟩ := hq0.cells
  have t0 := hq0.thaw 0
  have t1 := hq0.thaw 1
  have t2 := hq0.thaw 2
  clear hq0
  replace rq := rq.below b
  replace hb := bstep hb b
  clear b
  have rqq0 : (w5.alloc (.cells #[.bool nq, .slice qo ql qc, .slice qO qL qC] 30)).cell? ⟨w5.heap.size, 0, none⟩ = some (.bool nq) := by rw [← hW6]; exact qq.cells.1
  have rqq1 : (w5.alloc (.cells #[.bool nq, .slice qo ql qc, .slice qO qL qC] 30)).cell? ⟨w5.heap.size, 1, none⟩ = some (.slice qo ql qc) := by rw [← hW6]; exact qq.cells.2.1
  have rqq2 : (w5.alloc (.cells #[.bool nq, .slice qo ql qc, .slice qO qL qC] 30)).cell? ⟨w5.heap.size, 2, none⟩ = some (.slice qO qL qC) := by rw [← hW6]; exact qq.cells.2.2
  obtain ⟨v6, hv6⟩ : ∃ v, v = w5.heap.size := ⟨_, rfl⟩
  rw [← hv6] at qq
  have HW6 : Hid (W6 = w5.alloc (.cells #[.bool nq, .slice qo ql qc, .slice qO qL qC] 30)) := hW6
  have Hv6 : Hid (v6 = w5.heap.size) := hv6
  clear hW6 hv6
  go_wp2_with fail
  rw [← HW6.out, ← Hv6.out]
  clear HW6 Hv6 z0 z1 z2 t0 t1 t2 rqq0 rqq1 rqq2
  have b : Below W6.heap.size W6 W6.drew := (Below.refl _ _).drew
  replace rq := rq.below b
  replace qq := qq.below b
  replace hb := bstep hb b
  clear b
  generalize W6.drew = w7 at *
  have hq := q_single (rq.qn (fR_sz HFC.out) (by decide))
  rw [HB32.out, fR_neg, HS32.out] at hq
  refine (hq).mono ?_
  rintro e w8 ⟨rfl, b⟩
  replace rq := rq.below b
  replace qq := qq.below b
  replace hb := bstep hb b
  clear b
  have HE : Hid (Below w.heap.size w w8) := hb
  clear hq hb qq rq
  go_wp2
  go_ret
  exact ⟨rfl, HE.out⟩
set_option maxRecDepth 100000 in
set_option maxHeartbeats 6400000 in
theorem nback6 (a s : Nat) (w : World) (ha : a < 18446744073709551616) (_ : s < 4294967296) (hfa : 9218868437227405312 ≤ a % 2 ^ 63) (hfs : 2139095040 ≤ s % 2 ^ 31) :
    Calls Tryd.prog 3 #[.float .f64 a, .float .f32 s] w fun e w' => e = .returned (.bool true) ∧ Below w.heap.size w w' := by
  have HA : Hid (_) := ha
  have HFA : Hid (_) := hfa
  have hsb : ∀ w, (binOp .sub 22 (.float .f64 a) (.float .f64 a)).run Tryd.prog w = .ok (.float .f64 (nanS .f64 a w)) w.drew := fun w => run_sub_none _ _ _ _ w (fsub_no ha hfa)
  have hnq := nanS64 a
  have hsb2 : ∀ w, (binOp .sub 23 (.float .f32 s) (.float .f32 s)).run Tryd.prog w = .ok (.float .f32 (nanS .f32 s w)) w.drew := fun w => run_sub_none _ _ _ _ w (sub_no32 hfs)
  have hnq2 := nanS32 s
  have hno : ∀ w, Calls Tryd.prog 8 #[.float .f32 s] w fun e w' => RFl w e w' := fun w => of32_no s w hfs
  clear hfa hfs ha
  have hb : Below w.heap.size w w := Below.refl _ _
  go_enter Tryd.func3, Tryd.ntmps3
  go_wp2_with fail
  refine (alive5_yes _).mono ?_
  rintro e w2 ⟨rfl, b⟩
  replace hb := bstep hb b
  clear b
  go_wp2_with fail
  refine (of64_no a _ HA.out HFA.out).mono ?_
  rintro e w3 ⟨rfl, b⟩
  replace hb := bstep hb b
  clear b
  obtain ⟨W4, hW4⟩ : ∃ W, W = w3.alloc (.cells #[.bool false, .slice none 0 0, .slice none 0 0] 30) := ⟨_, rfl⟩
  have hq0 : QCell (w3.alloc (.cells #[.bool false, .slice none 0 0, .slice none 0 0] 30)) w3.heap.size false (.slice none 0 0) (.slice none 0 0) := qcell_new _ rfl
  have b : Below w3.heap.size w3 W4 := by rw [hW4]; exact belowA _ _
  obtain ⟨z0, z1, z2⟩ := hq0.cells
  have t0 := hq0.thaw 0
  have t1 := hq0.thaw 1
  have t2 := hq0.thaw 2
  clear hq0
  replace hb := bstep hb b
  clear b
  have HW4 : Hid (W4 = w3.alloc (.cells #[.bool false, .slice none 0 0, .slice none 0 0] 30)) := hW4
  clear hW4
  go_wp2_with fail
  rw [← HW4.out]
  clear HW4 z0 z1 z2 t0 t1 t2 
  refine (hno _).mono ?_
  rintro e w5 ⟨rfl, b⟩
  replace hb := bstep hb b
  clear b
  obtain ⟨W6, hW6⟩ : ∃ W, W = w5.alloc (.cells #[.bool false, .slice none 0 0, .slice none 0 0] 30) := ⟨_, rfl⟩
  have hq0 : QCell (w5.alloc (.cells #[.bool false, .slice none 0 0, .slice none 0 0] 30)) w5.heap.size false (.slice none 0 0) (.slice none 0 0) := qcell_new _ rfl
  have b : Below w5.heap.size w5 W6 := by rw [hW6]; exact belowA _ _
  obtain ⟨z0, z1, z2⟩ := hq0.cells
  have t0 := hq0.thaw 0
  have t1 := hq0.thaw 1
  have t2 := hq0.thaw 2
  clear hq0
  replace hb := bstep hb b
  clear b
  have HW6 : Hid (W6 = w5.alloc (.cells #[.bool false, .slice none 0 0, .slice none 0 0] 30)) := hW6
  clear hW6
  have HE : Hid (Below w.heap.size w (W6.drew.drew)) := bstep hb (Below.refl _ _).drew.drew
  clear hb
  go_wp2
  rw [← HW6.out]
  go_ret
  exact ⟨rfl, HE.out⟩
theorem nearBack_top (a s : Nat) (w : World) (ha0 : (Lit.float .f64 a).wf = true) (hs0 : (Lit.float .f32 s).wf = true) :
    Calls Tryd.prog 3 #[.float .f64 a, .float .f32 s] w fun e w' => e = .returned (.bool true) ∧ Below w.heap.size w w' := by
  have ha : a < 18446744073709551616 := by simpa [Lit.wf] using ha0
  have hs : s < 4294967296 := by simpa [Lit.wf] using hs0
  rcases Nat.lt_or_ge (a % 2 ^ 63) 9218868437227405312 with h1 | h1
  · by_cases hz : a % 2 ^ 63 = 0
    · rcases Nat.lt_or_ge (s % 2 ^ 31) 2139095040 with h2 | h2
      · exact nback1 a s w ha hs h1 hz h2
      · exact nback3 a s w ha hs h1 hz h2
    · rcases Nat.lt_or_ge (s % 2 ^ 31) 2139095040 with h2 | h2
      · exact nback2 a s w ha hs h1 hz h2
      · exact nback4 a s w ha hs h1 hz h2
  · rcases Nat.lt_or_ge (s % 2 ^ 31) 2139095040 with h2 | h2
    · exact nback5 a s w ha hs h1 h2
    · exact nback6 a s w ha hs h1 h2
end Go.Proofs.YtaekaikkldnikaaDoor
