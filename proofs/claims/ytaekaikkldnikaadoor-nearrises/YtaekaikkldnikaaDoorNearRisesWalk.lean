/-
  Proved here: NearRises of any two fractions returns true, and writes nothing that was there.
-/
import Derived.Test.YtaekaikkldnikaaDoorNearRisesQAll
import Derived.WalkLawsBesides
namespace Go.Proofs.YtaekaikkldnikaaDoor
open Go.RowKit

set_option maxRecDepth 100000 in
set_option maxHeartbeats 6400000 in
theorem nrise_biga (na : Bool) (ao aO : Option Addr) (al ac aL aC : Nat) (nb : Bool) (bo bO : Option Addr) (bl bc bL bC : Nat) (w : World) (hA : (decide (200 < al) || decide (200 < aL)) = true) :
    Calls Tryd.prog 4 #[.agg #[.bool na, .slice ao al ac, .slice aO aL aC], .agg #[.bool nb, .slice bo bl bc, .slice bO bL bC]] w fun e w' => e = .returned (.bool true) ∧ Below w.heap.size w w' := by
  have hbA := fun w => big05_any na ao aO al ac aL aC w
  rw [hA] at hbA
  clear hA
  obtain ⟨W1, hW1⟩ : ∃ W1, W1 = (w.alloc (.cells #[.bool na, .slice ao al ac, .slice aO aL aC] 30)).alloc (.cells #[.bool nb, .slice bo bl bc, .slice bO bL bC] 30) := ⟨_, rfl⟩
  have qa : QCell W1 (w.heap.size) na (.slice ao al ac) (.slice aO aL aC) := by rw [hW1]; exact (qcell_step (qcell_new _ (by simp)))
  have qb : QCell W1 (w.heap.size + 1) nb (.slice bo bl bc) (.slice bO bL bC) := by rw [hW1]; exact (qcell_new _ (by simp))
  have hb : Below w.heap.size w W1 := by rw [hW1]; exact bstep (belowA w _) (belowA _ _)
  have hsz : w.heap.size + 1 < W1.heap.size := by rw [hW1]; simp
  have HW1 : Hid (W1 = (w.alloc (.cells #[.bool na, .slice ao al ac, .slice aO aL aC] 30)).alloc (.cells #[.bool nb, .slice bo bl bc, .slice bO bL bC] 30)) := hW1
  clear hW1
  go_enter Tryd.func4, Tryd.ntmps4
  go_wp2_with fail
  rw [← HW1.out]
  clear HW1
  obtain ⟨g, hg⟩ : ∃ g, g = w.heap.size := ⟨_, rfl⟩
  rw [← hg] at qa qb hsz ⊢
  have HG : Hid (g = w.heap.size) := hg
  clear hg
  refine (alive5_yes _).mono ?_
  rintro e w2 ⟨rfl, b⟩
  replace qa := qa.below b
  replace qb := qb.below b
  replace hb := bstep hb b
  replace hsz := Nat.lt_of_lt_of_le hsz b.size
  clear b
  obtain ⟨cqa0, cqa1, cqa2⟩ := qa.cells
  obtain ⟨cqb0, cqb1, cqb2⟩ := qb.cells
  go_wp2_with fail
  clear cqa0 cqa1 cqa2 cqb0 cqb1 cqb2
  refine (hbA _).mono ?_
  rintro e w3 ⟨rfl, b⟩
  replace qa := qa.below b
  replace qb := qb.below b
  replace hb := bstep hb b
  replace hsz := Nat.lt_of_lt_of_le hsz b.size
  clear b
  obtain ⟨cqa0, cqa1, cqa2⟩ := qa.cells
  obtain ⟨cqb0, cqb1, cqb2⟩ := qb.cells
  have HE : Hid (Below w.heap.size w w3) := hb
  clear hb hsz qa qb
  go_wp2
  go_ret
  exact ⟨rfl, HE.out⟩
set_option maxRecDepth 100000 in
set_option maxHeartbeats 6400000 in
theorem nrise_bigb (na : Bool) (ao aO : Option Addr) (al ac aL aC : Nat) (nb : Bool) (bo bO : Option Addr) (bl bc bL bC : Nat) (w : World) (hA : (decide (200 < al) || decide (200 < aL)) = false) (hB : (decide (200 < bl) || decide (200 < bL)) = true) :
    Calls Tryd.prog 4 #[.agg #[.bool na, .slice ao al ac, .slice aO aL aC], .agg #[.bool nb, .slice bo bl bc, .slice bO bL bC]] w fun e w' => e = .returned (.bool true) ∧ Below w.heap.size w w' := by
  have hbA := fun w => big05_any na ao aO al ac aL aC w
  rw [hA] at hbA
  have hbB := fun w => big05_any nb bo bO bl bc bL bC w
  rw [hB] at hbB
  clear hB
  clear hA
  obtain ⟨W1, hW1⟩ : ∃ W1, W1 = (w.alloc (.cells #[.bool na, .slice ao al ac, .slice aO aL aC] 30)).alloc (.cells #[.bool nb, .slice bo bl bc, .slice bO bL bC] 30) := ⟨_, rfl⟩
  have qa : QCell W1 (w.heap.size) na (.slice ao al ac) (.slice aO aL aC) := by rw [hW1]; exact (qcell_step (qcell_new _ (by simp)))
  have qb : QCell W1 (w.heap.size + 1) nb (.slice bo bl bc) (.slice bO bL bC) := by rw [hW1]; exact (qcell_new _ (by simp))
  have hb : Below w.heap.size w W1 := by rw [hW1]; exact bstep (belowA w _) (belowA _ _)
  have hsz : w.heap.size + 1 < W1.heap.size := by rw [hW1]; simp
  have HW1 : Hid (W1 = (w.alloc (.cells #[.bool na, .slice ao al ac, .slice aO aL aC] 30)).alloc (.cells #[.bool nb, .slice bo bl bc, .slice bO bL bC] 30)) := hW1
  clear hW1
  go_enter Tryd.func4, Tryd.ntmps4
  go_wp2_with fail
  rw [← HW1.out]
  clear HW1
  obtain ⟨g, hg⟩ : ∃ g, g = w.heap.size := ⟨_, rfl⟩
  rw [← hg] at qa qb hsz ⊢
  have HG : Hid (g = w.heap.size) := hg
  clear hg
  refine (alive5_yes _).mono ?_
  rintro e w2 ⟨rfl, b⟩
  replace qa := qa.below b
  replace qb := qb.below b
  replace hb := bstep hb b
  replace hsz := Nat.lt_of_lt_of_le hsz b.size
  clear b
  obtain ⟨cqa0, cqa1, cqa2⟩ := qa.cells
  obtain ⟨cqb0, cqb1, cqb2⟩ := qb.cells
  go_wp2_with fail
  clear cqa0 cqa1 cqa2 cqb0 cqb1 cqb2
  refine (hbA _).mono ?_
  rintro e w3 ⟨rfl, b⟩
  replace qa := qa.below b
  replace qb := qb.below b
  replace hb := bstep hb b
  replace hsz := Nat.lt_of_lt_of_le hsz b.size
  clear b
  obtain ⟨cqa0, cqa1, cqa2⟩ := qa.cells
  obtain ⟨cqb0, cqb1, cqb2⟩ := qb.cells
  go_wp2_with fail
  clear cqa0 cqa1 cqa2 cqb0 cqb1 cqb2
  refine (hbB _).mono ?_
  rintro e w4 ⟨rfl, b⟩
  replace qa := qa.below b
  replace qb := qb.below b
  replace hb := bstep hb b
  replace hsz := Nat.lt_of_lt_of_le hsz b.size
  clear b
  obtain ⟨cqa0, cqa1, cqa2⟩ := qa.cells
  obtain ⟨cqb0, cqb1, cqb2⟩ := qb.cells
  have HE : Hid (Below w.heap.size w w4) := hb
  clear hb hsz qa qb
  go_wp2
  go_ret
  exact ⟨rfl, HE.out⟩
set_option maxRecDepth 100000 in
set_option maxHeartbeats 6400000 in
theorem nrise_main0 (na : Bool) (ao aO : Option Addr) (al ac aL aC : Nat) (xa ya : List Nat) (nb : Bool) (bo bO : Option Addr) (bl bc bL bC : Nat) (xb yb : List Nat) (w : World) (hA : (decide (200 < al) || decide (200 < aL)) = false) (hB : (decide (200 < bl) || decide (200 < bL)) = false) (ua : Num w (.slice ao al ac) xa) (da : Num w (.slice aO aL aC) ya) (ub : Num w (.slice bo bl bc) xb) (db : Num w (.slice bO bL bC) yb) (la : xa.length ≤ 200) (la2 : ya.length ≤ 200) (lb : xb.length ≤ 200) (lb2 : yb.length ≤ 200) (hcm : cmpQ (rq (zv na (val xa)) (val ya)) (rq (zv nb (val xb)) (val yb)) ≤ 0) :
    Calls Tryd.prog 4 #[.agg #[.bool na, .slice ao al ac, .slice aO aL aC], .agg #[.bool nb, .slice bo bl bc, .slice bO bL bC]] w fun e w' => e = .returned (.bool true) ∧ Below w.heap.size w w' := by
  have hbA := fun w => big05_any na ao aO al ac aL aC w
  rw [hA] at hbA
  have hbB := fun w => big05_any nb bo bO bl bc bL bC w
  rw [hB] at hbB
  clear hA hB
  have kA0 : Hid (QN w (.agg #[.bool na, .slice ao al ac, .slice aO aL aC]) (sdOf na (val xa)) (val xa) (undN (val ya))) := qn_of ua da la la2
  have mA0 : Hid (RNum w (.agg #[.bool na, .slice ao al ac, .slice aO aL aC]) (rq (zv na (val xa)) (val ya)) 200) := rnum_of ua da la la2 (by decide) (by decide)
  have kB0 : Hid (QN w (.agg #[.bool nb, .slice bo bl bc, .slice bO bL bC]) (sdOf nb (val xb)) (val xb) (undN (val yb))) := qn_of ub db lb lb2
  have mB0 : Hid (RNum w (.agg #[.bool nb, .slice bo bl bc, .slice bO bL bC]) (rq (zv nb (val xb)) (val yb)) 200) := rnum_of ub db lb lb2 (by decide) (by decide)
  have hup : Up (sdOf na (val xa)) (val xa) (undN (val ya)) (sdOf nb (val xb)) (val xb) (undN (val yb)) := up_of (by omega)
  have hop : Opp (sdOf na (val xa)) (val xa) (undN (val ya)) (decide ((-(rq (zv na (val xa)) (val ya))).num < 0)) (-(rq (zv na (val xa)) (val ya))).num.natAbs (-(rq (zv na (val xa)) (val ya))).den := opp_of _ _ _
  have o1 := hup.near
  have o2 := hup.single
  have o3 := hup.lo
  have o4 := hup.hi
  have o5 := hop.near
  have o6 := hop.single
  have o7 := hop.lo
  have o8 := hop.hi
  have HSZ : Hid (RSz (-(rq (zv na (val xa)) (val ya))) 200)   := RNum.neg mA0.out
  obtain ⟨c, hc⟩ : ∃ c, c = cmpQ (rq (zv na (val xa)) (val ya)) (rq (zv nb (val xb)) (val yb)) := ⟨_, rfl⟩
  rw [← hc] at hcm
  have HC : Hid (cmpQ (rq (zv na (val xa)) (val ya)) (rq (zv nb (val xb)) (val yb)) = c) := hc.symm
  clear hc hup hop ua da ub db la la2 lb lb2
  obtain ⟨XP, hXP⟩ : ∃ z, z = nD (sdOf na (val xa)) (val xa) (undN (val ya)) := ⟨_, rfl⟩
  obtain ⟨XQ, hXQ⟩ : ∃ z, z = nD (sdOf nb (val xb)) (val xb) (undN (val yb)) := ⟨_, rfl⟩
  obtain ⟨XN, hXN⟩ : ∃ z, z = nD (decide ((-(rq (zv na (val xa)) (val ya))).num < 0)) (-(rq (zv na (val xa)) (val ya))).num.natAbs (-(rq (zv na (val xa)) (val ya))).den := ⟨_, rfl⟩
  obtain ⟨YP, hYP⟩ : ∃ z, z = nS (sdOf na (val xa)) (val xa) (undN (val ya)) := ⟨_, rfl⟩
  obtain ⟨YQ, hYQ⟩ : ∃ z, z = nS (sdOf nb (val xb)) (val xb) (undN (val yb)) := ⟨_, rfl⟩
  obtain ⟨YN, hYN⟩ : ∃ z, z = nS (decide ((-(rq (zv na (val xa)) (val ya))).num < 0)) (-(rq (zv na (val xa)) (val ya))).num.natAbs (-(rq (zv na (val xa)) (val ya))).den := ⟨_, rfl⟩
  obtain ⟨LP, hLP⟩ : ∃ z, z = lD (sdOf na (val xa)) (val xa) (undN (val ya)) := ⟨_, rfl⟩
  obtain ⟨LQ, hLQ⟩ : ∃ z, z = lD (sdOf nb (val xb)) (val xb) (undN (val yb)) := ⟨_, rfl⟩
  obtain ⟨LN, hLN⟩ : ∃ z, z = lD (decide ((-(rq (zv na (val xa)) (val ya))).num < 0)) (-(rq (zv na (val xa)) (val ya))).num.natAbs (-(rq (zv na (val xa)) (val ya))).den := ⟨_, rfl⟩
  obtain ⟨HP, hHP⟩ : ∃ z, z = hD (sdOf na (val xa)) (val xa) (undN (val ya)) := ⟨_, rfl⟩
  obtain ⟨HQ, hHQ⟩ : ∃ z, z = hD (sdOf nb (val xb)) (val xb) (undN (val yb)) := ⟨_, rfl⟩
  obtain ⟨HN, hHN⟩ : ∃ z, z = hD (decide ((-(rq (zv na (val xa)) (val ya))).num < 0)) (-(rq (zv na (val xa)) (val ya))).num.natAbs (-(rq (zv na (val xa)) (val ya))).den := ⟨_, rfl⟩
  rw [← hXP, ← hXQ] at o1
  rw [← hYP, ← hYQ] at o2
  rw [← hLP, ← hLQ] at o3
  rw [← hHP, ← hHQ] at o4
  rw [← hXN, ← hXP] at o5
  rw [← hYN, ← hYP] at o6
  rw [← hLN, ← hHP] at o7
  rw [← hHN, ← hLP] at o8
  have HXP : Hid (nD (sdOf na (val xa)) (val xa) (undN (val ya)) = XP) := hXP.symm
  have HXQ : Hid (nD (sdOf nb (val xb)) (val xb) (undN (val yb)) = XQ) := hXQ.symm
  have HXN : Hid (nD (decide ((-(rq (zv na (val xa)) (val ya))).num < 0)) (-(rq (zv na (val xa)) (val ya))).num.natAbs (-(rq (zv na (val xa)) (val ya))).den = XN) := hXN.symm
  have HYP : Hid (nS (sdOf na (val xa)) (val xa) (undN (val ya)) = YP) := hYP.symm
  have HYQ : Hid (nS (sdOf nb (val xb)) (val xb) (undN (val yb)) = YQ) := hYQ.symm
  have HYN : Hid (nS (decide ((-(rq (zv na (val xa)) (val ya))).num < 0)) (-(rq (zv na (val xa)) (val ya))).num.natAbs (-(rq (zv na (val xa)) (val ya))).den = YN) := hYN.symm
  have HLP : Hid (lD (sdOf na (val xa)) (val xa) (undN (val ya)) = LP) := hLP.symm
  have HLQ : Hid (lD (sdOf nb (val xb)) (val xb) (undN (val yb)) = LQ) := hLQ.symm
  have HLN : Hid (lD (decide ((-(rq (zv na (val xa)) (val ya))).num < 0)) (-(rq (zv na (val xa)) (val ya))).num.natAbs (-(rq (zv na (val xa)) (val ya))).den = LN) := hLN.symm
  have HHP : Hid (hD (sdOf na (val xa)) (val xa) (undN (val ya)) = HP) := hHP.symm
  have HHQ : Hid (hD (sdOf nb (val xb)) (val xb) (undN (val yb)) = HQ) := hHQ.symm
  have HHN : Hid (hD (decide ((-(rq (zv na (val xa)) (val ya))).num < 0)) (-(rq (zv na (val xa)) (val ya))).num.natAbs (-(rq (zv na (val xa)) (val ya))).den = HN) := hHN.symm
  clear hXP hXQ hXN hYP hYQ hYN hLP hLQ hLN hHP hHQ hHN
  have hcd : decide (0 < c) = false := decide_eq_false (by omega)
  obtain ⟨W1, hW1⟩ : ∃ W1, W1 = (w.alloc (.cells #[.bool na, .slice ao al ac, .slice aO aL aC] 30)).alloc (.cells #[.bool nb, .slice bo bl bc, .slice bO bL bC] 30) := ⟨_, rfl⟩
  have qa : QCell W1 (w.heap.size) na (.slice ao al ac) (.slice aO aL aC) := by rw [hW1]; exact (qcell_step (qcell_new _ (by simp)))
  have qb : QCell W1 (w.heap.size + 1) nb (.slice bo bl bc) (.slice bO bL bC) := by rw [hW1]; exact (qcell_new _ (by simp))
  have hb : Below w.heap.size w W1 := by rw [hW1]; exact bstep (belowA w _) (belowA _ _)
  have hsz : w.heap.size + 1 < W1.heap.size := by rw [hW1]; simp
  have HW1 : Hid (W1 = (w.alloc (.cells #[.bool na, .slice ao al ac, .slice aO aL aC] 30)).alloc (.cells #[.bool nb, .slice bo bl bc, .slice bO bL bC] 30)) := hW1
  clear hW1
  go_enter Tryd.func4, Tryd.ntmps4
  go_wp2_with fail
  rw [← HW1.out]
  clear HW1
  obtain ⟨g, hg⟩ : ∃ g, g = w.heap.size := ⟨_, rfl⟩
  rw [← hg] at qa qb hsz ⊢
  have HG : Hid (g = w.heap.size) := hg
  clear hg
  refine (alive5_yes _).mono ?_
  rintro e w2 ⟨rfl, b⟩
  replace qa := qa.below b
  replace qb := qb.below b
  replace hb := bstep hb b
  replace hsz := Nat.lt_of_lt_of_le hsz b.size
  clear b
  obtain ⟨cqa0, cqa1, cqa2⟩ := qa.cells
  obtain ⟨cqb0, cqb1, cqb2⟩ := qb.cells
  go_wp2_with fail
  clear cqa0 cqa1 cqa2 cqb0 cqb1 cqb2
  refine (hbA _).mono ?_
  rintro e w3 ⟨rfl, b⟩
  replace qa := qa.below b
  replace qb := qb.below b
  replace hb := bstep hb b
  replace hsz := Nat.lt_of_lt_of_le hsz b.size
  clear b
  obtain ⟨cqa0, cqa1, cqa2⟩ := qa.cells
  obtain ⟨cqb0, cqb1, cqb2⟩ := qb.cells
  go_wp2_with fail
  clear cqa0 cqa1 cqa2 cqb0 cqb1 cqb2
  refine (hbB _).mono ?_
  rintro e w4 ⟨rfl, b⟩
  replace qa := qa.below b
  replace qb := qb.below b
  replace hb := bstep hb b
  replace hsz := Nat.lt_of_lt_of_le hsz b.size
  clear b
  obtain ⟨cqa0, cqa1, cqa2⟩ := qa.cells
  obtain ⟨cqb0, cqb1, cqb2⟩ := qb.cells
  go_wp2_with fail
  clear cqa0 cqa1 cqa2 cqb0 cqb1 cqb2
  have hq := c_rcmp (RNum.below mA0.out hb) (RNum.below mB0.out hb) (by decide)
  rw [HC.out] at hq
  refine (hq).mono ?_
  rintro e w5 ⟨rfl, b⟩
  replace qa := qa.below b
  replace qb := qb.below b
  replace hb := bstep hb b
  replace hsz := Nat.lt_of_lt_of_le hsz b.size
  clear b
  clear hq
  obtain ⟨cqa0, cqa1, cqa2⟩ := qa.cells
  obtain ⟨cqb0, cqb1, cqb2⟩ := qb.cells
  go_wp2_with fail
  clear cqa0 cqa1 cqa2 cqb0 cqb1 cqb2
  have kP := QN.below kA0.out hb
  have kQ := QN.below kB0.out hb
  have mP := RNum.below mA0.out hb
  have hq := qn_around kP
  rw [HLP.out, HHP.out] at hq
  refine (hq).mono ?_
  rintro e w6 ⟨rfl, b⟩
  replace kP := kP.below b
  replace kQ := kQ.below b
  replace mP := mP.below b
  replace qa := qa.below b
  replace qb := qb.below b
  replace hb := bstep hb b
  replace hsz := Nat.lt_of_lt_of_le hsz b.size
  clear b
  clear hq
  obtain ⟨cqa0, cqa1, cqa2⟩ := qa.cells
  obtain ⟨cqb0, cqb1, cqb2⟩ := qb.cells
  go_wp2_with fail
  clear cqa0 cqa1 cqa2 cqb0 cqb1 cqb2
  have hq := qn_around kQ
  rw [HLQ.out, HHQ.out] at hq
  refine (hq).mono ?_
  rintro e w7 ⟨rfl, b⟩
  replace kP := kP.below b
  replace kQ := kQ.below b
  replace mP := mP.below b
  replace qa := qa.below b
  replace qb := qb.below b
  replace hb := bstep hb b
  replace hsz := Nat.lt_of_lt_of_le hsz b.size
  clear b
  clear hq
  obtain ⟨cqa0, cqa1, cqa2⟩ := qa.cells
  obtain ⟨cqb0, cqb1, cqb2⟩ := qb.cells
  go_wp2_with fail
  clear cqa0 cqa1 cqa2 cqb0 cqb1 cqb2
  refine region_late [(0, fun w' => w'.cell? ⟨g, 0, none⟩ = some (.bool na) ∧ w'.cell? ⟨g, 1, none⟩ = some (.slice ao al ac) ∧ w'.cell? ⟨g, 2, none⟩ = some (.slice aO aL aC)), (2, fun w' => w'.cell? ⟨g + 1, 0, none⟩ = some (.bool nb) ∧ w'.cell? ⟨g + 1, 1, none⟩ = some (.slice bo bl bc) ∧ w'.cell? ⟨g + 1, 2, none⟩ = some (.slice bO bL bC)), (6, fun w' => w'.cell? ⟨g, 0, none⟩ = some (.bool na) ∧ w'.cell? ⟨g, 1, none⟩ = some (.slice ao al ac) ∧ w'.cell? ⟨g, 2, none⟩ = some (.slice aO aL aC)), (8, fun w' => w'.cell? ⟨g + 1, 0, none⟩ = some (.bool nb) ∧ w'.cell? ⟨g + 1, 1, none⟩ = some (.slice bo bl bc) ∧ w'.cell? ⟨g + 1, 2, none⟩ = some (.slice bO bL bC))] (by kernel_rfl) ?_
  have hHeld : AllL w7.drew [(0, fun w' => w'.cell? ⟨g, 0, none⟩ = some (.bool na) ∧ w'.cell? ⟨g, 1, none⟩ = some (.slice ao al ac) ∧ w'.cell? ⟨g, 2, none⟩ = some (.slice aO aL aC)), (2, fun w' => w'.cell? ⟨g + 1, 0, none⟩ = some (.bool nb) ∧ w'.cell? ⟨g + 1, 1, none⟩ = some (.slice bo bl bc) ∧ w'.cell? ⟨g + 1, 2, none⟩ = some (.slice bO bL bC)), (6, fun w' => w'.cell? ⟨g, 0, none⟩ = some (.bool na) ∧ w'.cell? ⟨g, 1, none⟩ = some (.slice ao al ac) ∧ w'.cell? ⟨g, 2, none⟩ = some (.slice aO aL aC)), (8, fun w' => w'.cell? ⟨g + 1, 0, none⟩ = some (.bool nb) ∧ w'.cell? ⟨g + 1, 1, none⟩ = some (.slice bo bl bc) ∧ w'.cell? ⟨g + 1, 2, none⟩ = some (.slice bO bL bC))] := ⟨(show QCell w7.drew (g) na (.slice ao al ac) (.slice aO aL aC) from qa).cells, (show QCell w7.drew (g + 1) nb (.slice bo bl bc) (.slice bO bL bC) from qb).cells, (show QCell w7.drew (g) na (.slice ao al ac) (.slice aO aL aC) from qa).cells, (show QCell w7.drew (g + 1) nb (.slice bo bl bc) (.slice bO bL bC) from qb).cells, trivial⟩
  refine late_take 0 (v := .agg #[.bool na, .slice ao al ac, .slice aO aL aC]) rfl (by kernel_rfl) (List.Mem.head _) (by kernel_rfl) (by kernel_rfl) (by kernel_rfl) (by kernel_rfl) (fun _ _ _ h => h) (Or.inl ⟨by rfl, ?_⟩) hHeld ?_
  · (intro u hu; (try dsimp only at hu); go_split_ands; go_simp)
  (try simp only [Act.put, List.setIfInBounds_toArray, List.set_cons_zero, List.set_cons_succ])
  refine late_take 2 (v := .agg #[.bool nb, .slice bo bl bc, .slice bO bL bC]) rfl (by kernel_rfl) (List.Mem.tail _ (List.Mem.head _)) (by kernel_rfl) (by kernel_rfl) (by kernel_rfl) (by kernel_rfl) (fun _ _ _ h => h) (Or.inl ⟨by rfl, ?_⟩) hHeld ?_
  · (intro u hu; (try dsimp only at hu); go_split_ands; go_simp)
  (try simp only [Act.put, List.setIfInBounds_toArray, List.set_cons_zero, List.set_cons_succ])
  refine late_step 1 (by kernel_rfl) rfl (fun K hK => ?_)
  go_simp
  have hq := qn_near (kP.below (below_drew' _))
  rw [HXP.out] at hq
  refine hq.mono ?_
  rintro e w8 ⟨rfl, b8⟩
  clear hq
  have B8 : Below w7.heap.size w7 w8 := bstep (below_drew' _) b8
  clear hHeld
  have hHeld : AllL w8 [(0, fun w' => w'.cell? ⟨g, 0, none⟩ = some (.bool na) ∧ w'.cell? ⟨g, 1, none⟩ = some (.slice ao al ac) ∧ w'.cell? ⟨g, 2, none⟩ = some (.slice aO aL aC)), (2, fun w' => w'.cell? ⟨g + 1, 0, none⟩ = some (.bool nb) ∧ w'.cell? ⟨g + 1, 1, none⟩ = some (.slice bo bl bc) ∧ w'.cell? ⟨g + 1, 2, none⟩ = some (.slice bO bL bC)), (6, fun w' => w'.cell? ⟨g, 0, none⟩ = some (.bool na) ∧ w'.cell? ⟨g, 1, none⟩ = some (.slice ao al ac) ∧ w'.cell? ⟨g, 2, none⟩ = some (.slice aO aL aC)), (8, fun w' => w'.cell? ⟨g + 1, 0, none⟩ = some (.bool nb) ∧ w'.cell? ⟨g + 1, 1, none⟩ = some (.slice bo bl bc) ∧ w'.cell? ⟨g + 1, 2, none⟩ = some (.slice bO bL bC))] := ⟨(qa.below B8).cells, (qb.below B8).cells, (qa.below B8).cells, (qb.below B8).cells, trivial⟩
  go_wp2_with fail
  refine hK.out _ _ (AllL.kept hHeld) ?_
  clear hK K
  (try simp only [Act.put, List.setIfInBounds_toArray, List.set_cons_zero, List.set_cons_succ])
  refine late_step 3 (by kernel_rfl) rfl (fun K hK => ?_)
  go_simp
  have hq := qn_near ((kQ.below (below_drew' _)).below b8)
  rw [HXQ.out] at hq
  refine hq.mono ?_
  rintro e w9 ⟨rfl, b9⟩
  clear hq
  have B9 : Below w7.heap.size w7 w9 := bstep B8 b9
  clear hHeld
  have hHeld : AllL w9 [(0, fun w' => w'.cell? ⟨g, 0, none⟩ = some (.bool na) ∧ w'.cell? ⟨g, 1, none⟩ = some (.slice ao al ac) ∧ w'.cell? ⟨g, 2, none⟩ = some (.slice aO aL aC)), (2, fun w' => w'.cell? ⟨g + 1, 0, none⟩ = some (.bool nb) ∧ w'.cell? ⟨g + 1, 1, none⟩ = some (.slice bo bl bc) ∧ w'.cell? ⟨g + 1, 2, none⟩ = some (.slice bO bL bC)), (6, fun w' => w'.cell? ⟨g, 0, none⟩ = some (.bool na) ∧ w'.cell? ⟨g, 1, none⟩ = some (.slice ao al ac) ∧ w'.cell? ⟨g, 2, none⟩ = some (.slice aO aL aC)), (8, fun w' => w'.cell? ⟨g + 1, 0, none⟩ = some (.bool nb) ∧ w'.cell? ⟨g + 1, 1, none⟩ = some (.slice bo bl bc) ∧ w'.cell? ⟨g + 1, 2, none⟩ = some (.slice bO bL bC))] := ⟨(qa.below B9).cells, (qb.below B9).cells, (qa.below B9).cells, (qb.below B9).cells, trivial⟩
  go_wp2_with fail
  refine hK.out _ _ (AllL.kept hHeld) ?_
  clear hK K
  (try simp only [Act.put, List.setIfInBounds_toArray, List.set_cons_zero, List.set_cons_succ])
  refine late_free 4 (v := .bool false) rfl (by kernel_rfl) (by kernel_rfl) (by kernel_rfl) (by kernel_rfl) (by kernel_rfl) (by kernel_rfl) (fun _ _ _ h => h) (Or.inl ⟨by rfl, ?_⟩) hHeld ?_
  · (intro u _; go_simp)
  (try simp only [Act.put, List.setIfInBounds_toArray, List.set_cons_zero, List.set_cons_succ])
  refine late_free 5 (v := .bool false) rfl (by kernel_rfl) (by kernel_rfl) (by kernel_rfl) (by kernel_rfl) (by kernel_rfl) (by kernel_rfl) (fun _ _ _ h => h) (Or.inl ⟨by rfl, ?_⟩) hHeld ?_
  · (intro u _; go_simp)
  (try simp only [Act.put, List.setIfInBounds_toArray, List.set_cons_zero, List.set_cons_succ])
  refine late_take 6 (v := .agg #[.bool na, .slice ao al ac, .slice aO aL aC]) rfl (by kernel_rfl) (List.Mem.tail _ (List.Mem.tail _ (List.Mem.head _))) (by kernel_rfl) (by kernel_rfl) (by kernel_rfl) (by kernel_rfl) (fun _ _ _ h => h) (Or.inl ⟨by rfl, ?_⟩) hHeld ?_
  · (intro u hu; (try dsimp only at hu); go_split_ands; go_simp)
  (try simp only [Act.put, List.setIfInBounds_toArray, List.set_cons_zero, List.set_cons_succ])
  refine late_take 8 (v := .agg #[.bool nb, .slice bo bl bc, .slice bO bL bC]) rfl (by kernel_rfl) (List.Mem.tail _ (List.Mem.tail _ (List.Mem.tail _ (List.Mem.head _)))) (by kernel_rfl) (by kernel_rfl) (by kernel_rfl) (by kernel_rfl) (fun _ _ _ h => h) (Or.inl ⟨by rfl, ?_⟩) hHeld ?_
  · (intro u hu; (try dsimp only at hu); go_split_ands; go_simp)
  (try simp only [Act.put, List.setIfInBounds_toArray, List.set_cons_zero, List.set_cons_succ])
  refine late_step 7 (by kernel_rfl) rfl (fun K hK => ?_)
  go_simp
  have hq := qn_single (((kP.below (below_drew' _)).below b8).below b9)
  rw [HYP.out] at hq
  refine hq.mono ?_
  rintro e w10 ⟨rfl, b10⟩
  clear hq
  have B10 : Below w7.heap.size w7 w10 := bstep B9 b10
  clear hHeld
  have hHeld : AllL w10 [(0, fun w' => w'.cell? ⟨g, 0, none⟩ = some (.bool na) ∧ w'.cell? ⟨g, 1, none⟩ = some (.slice ao al ac) ∧ w'.cell? ⟨g, 2, none⟩ = some (.slice aO aL aC)), (2, fun w' => w'.cell? ⟨g + 1, 0, none⟩ = some (.bool nb) ∧ w'.cell? ⟨g + 1, 1, none⟩ = some (.slice bo bl bc) ∧ w'.cell? ⟨g + 1, 2, none⟩ = some (.slice bO bL bC)), (6, fun w' => w'.cell? ⟨g, 0, none⟩ = some (.bool na) ∧ w'.cell? ⟨g, 1, none⟩ = some (.slice ao al ac) ∧ w'.cell? ⟨g, 2, none⟩ = some (.slice aO aL aC)), (8, fun w' => w'.cell? ⟨g + 1, 0, none⟩ = some (.bool nb) ∧ w'.cell? ⟨g + 1, 1, none⟩ = some (.slice bo bl bc) ∧ w'.cell? ⟨g + 1, 2, none⟩ = some (.slice bO bL bC))] := ⟨(qa.below B10).cells, (qb.below B10).cells, (qa.below B10).cells, (qb.below B10).cells, trivial⟩
  go_wp2_with fail
  refine hK.out _ _ (AllL.kept hHeld) ?_
  clear hK K
  (try simp only [Act.put, List.setIfInBounds_toArray, List.set_cons_zero, List.set_cons_succ])
  refine late_step 9 (by kernel_rfl) rfl (fun K hK => ?_)
  go_simp
  have hq := qn_single ((((kQ.below (below_drew' _)).below b8).below b9).below b10)
  rw [HYQ.out] at hq
  refine hq.mono ?_
  rintro e w11 ⟨rfl, b11⟩
  clear hq
  have B11 : Below w7.heap.size w7 w11 := bstep B10 b11
  clear hHeld
  have hHeld : AllL w11 [(0, fun w' => w'.cell? ⟨g, 0, none⟩ = some (.bool na) ∧ w'.cell? ⟨g, 1, none⟩ = some (.slice ao al ac) ∧ w'.cell? ⟨g, 2, none⟩ = some (.slice aO aL aC)), (2, fun w' => w'.cell? ⟨g + 1, 0, none⟩ = some (.bool nb) ∧ w'.cell? ⟨g + 1, 1, none⟩ = some (.slice bo bl bc) ∧ w'.cell? ⟨g + 1, 2, none⟩ = some (.slice bO bL bC)), (6, fun w' => w'.cell? ⟨g, 0, none⟩ = some (.bool na) ∧ w'.cell? ⟨g, 1, none⟩ = some (.slice ao al ac) ∧ w'.cell? ⟨g, 2, none⟩ = some (.slice aO aL aC)), (8, fun w' => w'.cell? ⟨g + 1, 0, none⟩ = some (.bool nb) ∧ w'.cell? ⟨g + 1, 1, none⟩ = some (.slice bo bl bc) ∧ w'.cell? ⟨g + 1, 2, none⟩ = some (.slice bO bL bC))] := ⟨(qa.below B11).cells, (qb.below B11).cells, (qa.below B11).cells, (qb.below B11).cells, trivial⟩
  go_wp2_with fail
  refine hK.out _ _ (AllL.kept hHeld) ?_
  clear hK K
  (try simp only [Act.put, List.setIfInBounds_toArray, List.set_cons_zero, List.set_cons_succ])
  refine late_free 10 (v := .bool false) rfl (by kernel_rfl) (by kernel_rfl) (by kernel_rfl) (by kernel_rfl) (by kernel_rfl) (by kernel_rfl) (fun _ _ _ h => h) (Or.inl ⟨by rfl, ?_⟩) hHeld ?_
  · (intro u _; go_simp)
  (try simp only [Act.put, List.setIfInBounds_toArray, List.set_cons_zero, List.set_cons_succ])
  refine late_free 11 (v := .bool false) rfl (by kernel_rfl) (by kernel_rfl) (by kernel_rfl) (by kernel_rfl) (by kernel_rfl) (by kernel_rfl) (fun _ _ _ h => h) (Or.inl ⟨by rfl, ?_⟩) hHeld ?_
  · (intro u _; go_simp)
  (try simp only [Act.put, List.setIfInBounds_toArray, List.set_cons_zero, List.set_cons_succ])
  refine late_free 12 (v := .bool false) rfl (by kernel_rfl) (by kernel_rfl) (by kernel_rfl) (by kernel_rfl) (by kernel_rfl) (by kernel_rfl) (fun _ _ _ h => h) (Or.inl ⟨by rfl, ?_⟩) hHeld ?_
  · (intro u _; go_simp)
  (try simp only [Act.put, List.setIfInBounds_toArray, List.set_cons_zero, List.set_cons_succ])
  refine late_free 13 (v := .float .f64 LP) rfl (by kernel_rfl) (by kernel_rfl) (by kernel_rfl) (by kernel_rfl) (by kernel_rfl) (by kernel_rfl) (fun _ _ _ h => h) (Or.inl ⟨by rfl, ?_⟩) hHeld ?_
  · (intro u _; go_simp)
  (try simp only [Act.put, List.setIfInBounds_toArray, List.set_cons_zero, List.set_cons_succ])
  refine late_free 14 (v := .float .f64 LQ) rfl (by kernel_rfl) (by kernel_rfl) (by kernel_rfl) (by kernel_rfl) (by kernel_rfl) (by kernel_rfl) (fun _ _ _ h => h) (Or.inl ⟨by rfl, ?_⟩) hHeld ?_
  · (intro u _; go_simp)
  (try simp only [Act.put, List.setIfInBounds_toArray, List.set_cons_zero, List.set_cons_succ])
  refine late_free 15 (v := .bool false) rfl (by kernel_rfl) (by kernel_rfl) (by kernel_rfl) (by kernel_rfl) (by kernel_rfl) (by kernel_rfl) (fun _ _ _ h => h) (Or.inl ⟨by rfl, ?_⟩) hHeld ?_
  · (intro u _; go_simp)
  (try simp only [Act.put, List.setIfInBounds_toArray, List.set_cons_zero, List.set_cons_succ])
  refine late_free 16 (v := .bool false) rfl (by kernel_rfl) (by kernel_rfl) (by kernel_rfl) (by kernel_rfl) (by kernel_rfl) (by kernel_rfl) (fun _ _ _ h => h) (Or.inl ⟨by rfl, ?_⟩) hHeld ?_
  · (intro u _; go_simp)
  (try simp only [Act.put, List.setIfInBounds_toArray, List.set_cons_zero, List.set_cons_succ])
  refine late_free 17 (v := .bool false) rfl (by kernel_rfl) (by kernel_rfl) (by kernel_rfl) (by kernel_rfl) (by kernel_rfl) (by kernel_rfl) (fun _ _ _ h => h) (Or.inl ⟨by rfl, ?_⟩) hHeld ?_
  · (intro u _; go_simp)
  (try simp only [Act.put, List.setIfInBounds_toArray, List.set_cons_zero, List.set_cons_succ])
  refine late_free 18 (v := .float .f64 HP) rfl (by kernel_rfl) (by kernel_rfl) (by kernel_rfl) (by kernel_rfl) (by kernel_rfl) (by kernel_rfl) (fun _ _ _ h => h) (Or.inl ⟨by rfl, ?_⟩) hHeld ?_
  · (intro u _; go_simp)
  (try simp only [Act.put, List.setIfInBounds_toArray, List.set_cons_zero, List.set_cons_succ])
  refine late_free 19 (v := .float .f64 HQ) rfl (by kernel_rfl) (by kernel_rfl) (by kernel_rfl) (by kernel_rfl) (by kernel_rfl) (by kernel_rfl) (fun _ _ _ h => h) (Or.inl ⟨by rfl, ?_⟩) hHeld ?_
  · (intro u _; go_simp)
  (try simp only [Act.put, List.setIfInBounds_toArray, List.set_cons_zero, List.set_cons_succ])
  refine late_free 20 (v := .bool false) rfl (by kernel_rfl) (by kernel_rfl) (by kernel_rfl) (by kernel_rfl) (by kernel_rfl) (by kernel_rfl) (fun _ _ _ h => h) (Or.inl ⟨by rfl, ?_⟩) hHeld ?_
  · (intro u _; go_simp)
  (try simp only [Act.put, List.setIfInBounds_toArray, List.set_cons_zero, List.set_cons_succ])
  refine late_free 21 (v := .bool false) rfl (by kernel_rfl) (by kernel_rfl) (by kernel_rfl) (by kernel_rfl) (by kernel_rfl) (by kernel_rfl) (fun _ _ _ h => h) (Or.inl ⟨by rfl, ?_⟩) hHeld ?_
  · (intro u _; go_simp)
  (try simp only [Act.put, List.setIfInBounds_toArray, List.set_cons_zero, List.set_cons_succ])
  refine late_done (by kernel_rfl) ?_ _
  clear hHeld
  have b := B11
  clear b8 b9 b10 b11 B8 B9 B10 B11
  replace kP := kP.below b
  replace kQ := kQ.below b
  replace mP := mP.below b
  replace qa := qa.below b
  replace qb := qb.below b
  replace hb := bstep hb b
  replace hsz := Nat.lt_of_lt_of_le hsz b.size
  clear b
  obtain ⟨cqa0, cqa1, cqa2⟩ := qa.cells
  obtain ⟨cqb0, cqb1, cqb2⟩ := qb.cells
  go_wp2_with fail
  clear cqa0 cqa1 cqa2 cqb0 cqb1 cqb2
  refine (c_rneg mP (by decide)).mono ?_
  rintro e w12 ⟨v, rfl, hv, b⟩
  obtain ⟨nc, co, cl, cc, cO, cL, cC, rfl, rc⟩ := hv.seeS
  clear hv
  replace kP := kP.below b
  replace kQ := kQ.below b
  replace mP := mP.below b
  replace qa := qa.below b
  replace qb := qb.below b
  replace hb := bstep hb b
  replace hsz := Nat.lt_of_lt_of_le hsz b.size
  clear b
  obtain ⟨cqa0, cqa1, cqa2⟩ := qa.cells
  obtain ⟨cqb0, cqb1, cqb2⟩ := qb.cells
  go_wp2_with fail
  clear cqa0 cqa1 cqa2 cqb0 cqb1 cqb2
  have hq := qn_around (rc.qn HSZ.out (by decide))
  rw [HLN.out, HHN.out] at hq
  refine (hq).mono ?_
  rintro e w13 ⟨rfl, b⟩
  replace kP := kP.below b
  replace kQ := kQ.below b
  replace mP := mP.below b
  replace rc := rc.below b
  replace qa := qa.below b
  replace qb := qb.below b
  replace hb := bstep hb b
  replace hsz := Nat.lt_of_lt_of_le hsz b.size
  clear b
  clear hq
  obtain ⟨cqa0, cqa1, cqa2⟩ := qa.cells
  obtain ⟨cqb0, cqb1, cqb2⟩ := qb.cells
  go_wp2_with fail
  clear cqa0 cqa1 cqa2 cqb0 cqb1 cqb2
  clear rc
  have u64 := run_neg64
  have u32 := run_neg32
  refine region_late [(2, fun w' => w'.cell? ⟨g, 0, none⟩ = some (.bool na) ∧ w'.cell? ⟨g, 1, none⟩ = some (.slice ao al ac) ∧ w'.cell? ⟨g, 2, none⟩ = some (.slice aO aL aC)), (5, fun w' => w'.cell? ⟨g, 0, none⟩ = some (.bool na) ∧ w'.cell? ⟨g, 1, none⟩ = some (.slice ao al ac) ∧ w'.cell? ⟨g, 2, none⟩ = some (.slice aO aL aC)), (11, fun w' => w'.cell? ⟨g, 0, none⟩ = some (.bool na) ∧ w'.cell? ⟨g, 1, none⟩ = some (.slice ao al ac) ∧ w'.cell? ⟨g, 2, none⟩ = some (.slice aO aL aC)), (14, fun w' => w'.cell? ⟨g, 0, none⟩ = some (.bool na) ∧ w'.cell? ⟨g, 1, none⟩ = some (.slice ao al ac) ∧ w'.cell? ⟨g, 2, none⟩ = some (.slice aO aL aC))] (by kernel_rfl) ?_
  have hHeld : AllL w13.drew [(2, fun w' => w'.cell? ⟨g, 0, none⟩ = some (.bool na) ∧ w'.cell? ⟨g, 1, none⟩ = some (.slice ao al ac) ∧ w'.cell? ⟨g, 2, none⟩ = some (.slice aO aL aC)), (5, fun w' => w'.cell? ⟨g, 0, none⟩ = some (.bool na) ∧ w'.cell? ⟨g, 1, none⟩ = some (.slice ao al ac) ∧ w'.cell? ⟨g, 2, none⟩ = some (.slice aO aL aC)), (11, fun w' => w'.cell? ⟨g, 0, none⟩ = some (.bool na) ∧ w'.cell? ⟨g, 1, none⟩ = some (.slice ao al ac) ∧ w'.cell? ⟨g, 2, none⟩ = some (.slice aO aL aC)), (14, fun w' => w'.cell? ⟨g, 0, none⟩ = some (.bool na) ∧ w'.cell? ⟨g, 1, none⟩ = some (.slice ao al ac) ∧ w'.cell? ⟨g, 2, none⟩ = some (.slice aO aL aC))] := ⟨(show QCell w13.drew (g) na (.slice ao al ac) (.slice aO aL aC) from qa).cells, (show QCell w13.drew (g) na (.slice ao al ac) (.slice aO aL aC) from qa).cells, (show QCell w13.drew (g) na (.slice ao al ac) (.slice aO aL aC) from qa).cells, (show QCell w13.drew (g) na (.slice ao al ac) (.slice aO aL aC) from qa).cells, trivial⟩
  refine late_free 0 (v := .bool true) rfl (by kernel_rfl) (by kernel_rfl) (by kernel_rfl) (by kernel_rfl) (by kernel_rfl) (by kernel_rfl) (fun _ _ _ h => h) (Or.inl ⟨by rfl, ?_⟩) hHeld ?_
  · (intro u _; go_simp)
  (try simp only [Act.put, List.setIfInBounds_toArray, List.set_cons_zero, List.set_cons_succ])
  refine late_free 1 (v := .bool true) rfl (by kernel_rfl) (by kernel_rfl) (by kernel_rfl) (by kernel_rfl) (by kernel_rfl) (by kernel_rfl) (fun _ _ _ h => h) (Or.inl ⟨by rfl, ?_⟩) hHeld ?_
  · (intro u _; go_simp)
  (try simp only [Act.put, List.setIfInBounds_toArray, List.set_cons_zero, List.set_cons_succ])
  refine late_take 2 (v := .agg #[.bool na, .slice ao al ac, .slice aO aL aC]) rfl (by kernel_rfl) (List.Mem.head _) (by kernel_rfl) (by kernel_rfl) (by kernel_rfl) (by kernel_rfl) (fun _ _ _ h => h) (Or.inl ⟨by rfl, ?_⟩) hHeld ?_
  · (intro u hu; (try dsimp only at hu); go_split_ands; go_simp)
  (try simp only [Act.put, List.setIfInBounds_toArray, List.set_cons_zero, List.set_cons_succ])
  refine late_take 5 (v := .agg #[.bool na, .slice ao al ac, .slice aO aL aC]) rfl (by kernel_rfl) (List.Mem.tail _ (List.Mem.head _)) (by kernel_rfl) (by kernel_rfl) (by kernel_rfl) (by kernel_rfl) (fun _ _ _ h => h) (Or.inl ⟨by rfl, ?_⟩) hHeld ?_
  · (intro u hu; (try dsimp only at hu); go_split_ands; go_simp)
  (try simp only [Act.put, List.setIfInBounds_toArray, List.set_cons_zero, List.set_cons_succ])
  refine late_step 3 (by kernel_rfl) rfl (fun K hK => ?_)
  go_simp
  refine (c_rneg (mP.below (below_drew' _)) (by decide)).mono ?_
  rintro e w14 ⟨v, rfl, hv, b14⟩
  obtain ⟨nm67, m67o, m67l, m67c, m67O, m67L, m67C, rfl, r67⟩ := hv.seeS
  clear hv
  have B14 : Below w13.heap.size w13 w14 := bstep (below_drew' _) b14
  clear hHeld
  have hHeld : AllL w14 [(2, fun w' => w'.cell? ⟨g, 0, none⟩ = some (.bool na) ∧ w'.cell? ⟨g, 1, none⟩ = some (.slice ao al ac) ∧ w'.cell? ⟨g, 2, none⟩ = some (.slice aO aL aC)), (5, fun w' => w'.cell? ⟨g, 0, none⟩ = some (.bool na) ∧ w'.cell? ⟨g, 1, none⟩ = some (.slice ao al ac) ∧ w'.cell? ⟨g, 2, none⟩ = some (.slice aO aL aC)), (11, fun w' => w'.cell? ⟨g, 0, none⟩ = some (.bool na) ∧ w'.cell? ⟨g, 1, none⟩ = some (.slice ao al ac) ∧ w'.cell? ⟨g, 2, none⟩ = some (.slice aO aL aC)), (14, fun w' => w'.cell? ⟨g, 0, none⟩ = some (.bool na) ∧ w'.cell? ⟨g, 1, none⟩ = some (.slice ao al ac) ∧ w'.cell? ⟨g, 2, none⟩ = some (.slice aO aL aC))] := ⟨(qa.below B14).cells, (qa.below B14).cells, (qa.below B14).cells, (qa.below B14).cells, trivial⟩
  go_wp2_with fail
  refine hK.out _ _ (AllL.kept hHeld) ?_
  clear hK K
  (try simp only [Act.put, List.setIfInBounds_toArray, List.set_cons_zero, List.set_cons_succ])
  refine late_step 4 (by kernel_rfl) rfl (fun K hK => ?_)
  go_simp
  have hq := qn_near (r67.qn HSZ.out (by decide))
  rw [HXN.out] at hq
  refine hq.mono ?_
  rintro e w15 ⟨rfl, b15⟩
  clear hq
  have B15 : Below w13.heap.size w13 w15 := bstep B14 b15
  clear hHeld
  have hHeld : AllL w15 [(2, fun w' => w'.cell? ⟨g, 0, none⟩ = some (.bool na) ∧ w'.cell? ⟨g, 1, none⟩ = some (.slice ao al ac) ∧ w'.cell? ⟨g, 2, none⟩ = some (.slice aO aL aC)), (5, fun w' => w'.cell? ⟨g, 0, none⟩ = some (.bool na) ∧ w'.cell? ⟨g, 1, none⟩ = some (.slice ao al ac) ∧ w'.cell? ⟨g, 2, none⟩ = some (.slice aO aL aC)), (11, fun w' => w'.cell? ⟨g, 0, none⟩ = some (.bool na) ∧ w'.cell? ⟨g, 1, none⟩ = some (.slice ao al ac) ∧ w'.cell? ⟨g, 2, none⟩ = some (.slice aO aL aC)), (14, fun w' => w'.cell? ⟨g, 0, none⟩ = some (.bool na) ∧ w'.cell? ⟨g, 1, none⟩ = some (.slice ao al ac) ∧ w'.cell? ⟨g, 2, none⟩ = some (.slice aO aL aC))] := ⟨(qa.below B15).cells, (qa.below B15).cells, (qa.below B15).cells, (qa.below B15).cells, trivial⟩
  go_wp2_with fail
  refine hK.out _ _ (AllL.kept hHeld) ?_
  clear hK K
  (try simp only [Act.put, List.setIfInBounds_toArray, List.set_cons_zero, List.set_cons_succ])
  refine late_step 6 (by kernel_rfl) rfl (fun K hK => ?_)
  go_simp
  have hq := qn_near (((kP.below (below_drew' _)).below b14).below b15)
  rw [HXP.out] at hq
  refine hq.mono ?_
  rintro e w16 ⟨rfl, b16⟩
  clear hq
  have B16 : Below w13.heap.size w13 w16 := bstep B15 b16
  clear hHeld
  have hHeld : AllL w16 [(2, fun w' => w'.cell? ⟨g, 0, none⟩ = some (.bool na) ∧ w'.cell? ⟨g, 1, none⟩ = some (.slice ao al ac) ∧ w'.cell? ⟨g, 2, none⟩ = some (.slice aO aL aC)), (5, fun w' => w'.cell? ⟨g, 0, none⟩ = some (.bool na) ∧ w'.cell? ⟨g, 1, none⟩ = some (.slice ao al ac) ∧ w'.cell? ⟨g, 2, none⟩ = some (.slice aO aL aC)), (11, fun w' => w'.cell? ⟨g, 0, none⟩ = some (.bool na) ∧ w'.cell? ⟨g, 1, none⟩ = some (.slice ao al ac) ∧ w'.cell? ⟨g, 2, none⟩ = some (.slice aO aL aC)), (14, fun w' => w'.cell? ⟨g, 0, none⟩ = some (.bool na) ∧ w'.cell? ⟨g, 1, none⟩ = some (.slice ao al ac) ∧ w'.cell? ⟨g, 2, none⟩ = some (.slice aO aL aC))] := ⟨(qa.below B16).cells, (qa.below B16).cells, (qa.below B16).cells, (qa.below B16).cells, trivial⟩
  go_wp2_with fail
  refine hK.out _ _ (AllL.kept hHeld) ?_
  clear hK K
  (try simp only [Act.put, List.setIfInBounds_toArray, List.set_cons_zero, List.set_cons_succ])
  refine late_free 7 (v := .float .f64 (ngf XP)) rfl (by kernel_rfl) (by kernel_rfl) (by kernel_rfl) (by kernel_rfl) (by kernel_rfl) (by kernel_rfl) (fun _ _ _ h => h) (Or.inl ⟨by rfl, ?_⟩) hHeld ?_
  · (intro u _; go_simp)
  (try simp only [Act.put, List.setIfInBounds_toArray, List.set_cons_zero, List.set_cons_succ])
  refine late_free 8 (v := .bool true) rfl (by kernel_rfl) (by kernel_rfl) (by kernel_rfl) (by kernel_rfl) (by kernel_rfl) (by kernel_rfl) (fun _ _ _ h => h) (Or.inl ⟨by rfl, ?_⟩) hHeld ?_
  · (intro u _; go_simp)
  (try simp only [Act.put, List.setIfInBounds_toArray, List.set_cons_zero, List.set_cons_succ])
  refine late_free 9 (v := .bool true) rfl (by kernel_rfl) (by kernel_rfl) (by kernel_rfl) (by kernel_rfl) (by kernel_rfl) (by kernel_rfl) (fun _ _ _ h => h) (Or.inl ⟨by rfl, ?_⟩) hHeld ?_
  · (intro u _; go_simp)
  (try simp only [Act.put, List.setIfInBounds_toArray, List.set_cons_zero, List.set_cons_succ])
  refine late_free 10 (v := .bool true) rfl (by kernel_rfl) (by kernel_rfl) (by kernel_rfl) (by kernel_rfl) (by kernel_rfl) (by kernel_rfl) (fun _ _ _ h => h) (Or.inl ⟨by rfl, ?_⟩) hHeld ?_
  · (intro u _; go_simp)
  (try simp only [Act.put, List.setIfInBounds_toArray, List.set_cons_zero, List.set_cons_succ])
  refine late_take 11 (v := .agg #[.bool na, .slice ao al ac, .slice aO aL aC]) rfl (by kernel_rfl) (List.Mem.tail _ (List.Mem.tail _ (List.Mem.head _))) (by kernel_rfl) (by kernel_rfl) (by kernel_rfl) (by kernel_rfl) (fun _ _ _ h => h) (Or.inl ⟨by rfl, ?_⟩) hHeld ?_
  · (intro u hu; (try dsimp only at hu); go_split_ands; go_simp)
  (try simp only [Act.put, List.setIfInBounds_toArray, List.set_cons_zero, List.set_cons_succ])
  refine late_take 14 (v := .agg #[.bool na, .slice ao al ac, .slice aO aL aC]) rfl (by kernel_rfl) (List.Mem.tail _ (List.Mem.tail _ (List.Mem.tail _ (List.Mem.head _)))) (by kernel_rfl) (by kernel_rfl) (by kernel_rfl) (by kernel_rfl) (fun _ _ _ h => h) (Or.inl ⟨by rfl, ?_⟩) hHeld ?_
  · (intro u hu; (try dsimp only at hu); go_split_ands; go_simp)
  (try simp only [Act.put, List.setIfInBounds_toArray, List.set_cons_zero, List.set_cons_succ])
  refine late_step 12 (by kernel_rfl) rfl (fun K hK => ?_)
  go_simp
  refine (c_rneg ((((mP.below (below_drew' _)).below b14).below b15).below b16) (by decide)).mono ?_
  rintro e w17 ⟨v, rfl, hv, b17⟩
  obtain ⟨nm76, m76o, m76l, m76c, m76O, m76L, m76C, rfl, r76⟩ := hv.seeS
  clear hv
  have B17 : Below w13.heap.size w13 w17 := bstep B16 b17
  clear hHeld
  have hHeld : AllL w17 [(2, fun w' => w'.cell? ⟨g, 0, none⟩ = some (.bool na) ∧ w'.cell? ⟨g, 1, none⟩ = some (.slice ao al ac) ∧ w'.cell? ⟨g, 2, none⟩ = some (.slice aO aL aC)), (5, fun w' => w'.cell? ⟨g, 0, none⟩ = some (.bool na) ∧ w'.cell? ⟨g, 1, none⟩ = some (.slice ao al ac) ∧ w'.cell? ⟨g, 2, none⟩ = some (.slice aO aL aC)), (11, fun w' => w'.cell? ⟨g, 0, none⟩ = some (.bool na) ∧ w'.cell? ⟨g, 1, none⟩ = some (.slice ao al ac) ∧ w'.cell? ⟨g, 2, none⟩ = some (.slice aO aL aC)), (14, fun w' => w'.cell? ⟨g, 0, none⟩ = some (.bool na) ∧ w'.cell? ⟨g, 1, none⟩ = some (.slice ao al ac) ∧ w'.cell? ⟨g, 2, none⟩ = some (.slice aO aL aC))] := ⟨(qa.below B17).cells, (qa.below B17).cells, (qa.below B17).cells, (qa.below B17).cells, trivial⟩
  go_wp2_with fail
  refine hK.out _ _ (AllL.kept hHeld) ?_
  clear hK K
  (try simp only [Act.put, List.setIfInBounds_toArray, List.set_cons_zero, List.set_cons_succ])
  refine late_step 13 (by kernel_rfl) rfl (fun K hK => ?_)
  go_simp
  have hq := qn_single (r76.qn HSZ.out (by decide))
  rw [HYN.out] at hq
  refine hq.mono ?_
  rintro e w18 ⟨rfl, b18⟩
  clear hq
  have B18 : Below w13.heap.size w13 w18 := bstep B17 b18
  clear hHeld
  have hHeld : AllL w18 [(2, fun w' => w'.cell? ⟨g, 0, none⟩ = some (.bool na) ∧ w'.cell? ⟨g, 1, none⟩ = some (.slice ao al ac) ∧ w'.cell? ⟨g, 2, none⟩ = some (.slice aO aL aC)), (5, fun w' => w'.cell? ⟨g, 0, none⟩ = some (.bool na) ∧ w'.cell? ⟨g, 1, none⟩ = some (.slice ao al ac) ∧ w'.cell? ⟨g, 2, none⟩ = some (.slice aO aL aC)), (11, fun w' => w'.cell? ⟨g, 0, none⟩ = some (.bool na) ∧ w'.cell? ⟨g, 1, none⟩ = some (.slice ao al ac) ∧ w'.cell? ⟨g, 2, none⟩ = some (.slice aO aL aC)), (14, fun w' => w'.cell? ⟨g, 0, none⟩ = some (.bool na) ∧ w'.cell? ⟨g, 1, none⟩ = some (.slice ao al ac) ∧ w'.cell? ⟨g, 2, none⟩ = some (.slice aO aL aC))] := ⟨(qa.below B18).cells, (qa.below B18).cells, (qa.below B18).cells, (qa.below B18).cells, trivial⟩
  go_wp2_with fail
  refine hK.out _ _ (AllL.kept hHeld) ?_
  clear hK K
  (try simp only [Act.put, List.setIfInBounds_toArray, List.set_cons_zero, List.set_cons_succ])
  refine late_step 15 (by kernel_rfl) rfl (fun K hK => ?_)
  go_simp
  have hq := qn_single ((((((kP.below (below_drew' _)).below b14).below b15).below b16).below b17).below b18)
  rw [HYP.out] at hq
  refine hq.mono ?_
  rintro e w19 ⟨rfl, b19⟩
  clear hq
  have B19 : Below w13.heap.size w13 w19 := bstep B18 b19
  clear hHeld
  have hHeld : AllL w19 [(2, fun w' => w'.cell? ⟨g, 0, none⟩ = some (.bool na) ∧ w'.cell? ⟨g, 1, none⟩ = some (.slice ao al ac) ∧ w'.cell? ⟨g, 2, none⟩ = some (.slice aO aL aC)), (5, fun w' => w'.cell? ⟨g, 0, none⟩ = some (.bool na) ∧ w'.cell? ⟨g, 1, none⟩ = some (.slice ao al ac) ∧ w'.cell? ⟨g, 2, none⟩ = some (.slice aO aL aC)), (11, fun w' => w'.cell? ⟨g, 0, none⟩ = some (.bool na) ∧ w'.cell? ⟨g, 1, none⟩ = some (.slice ao al ac) ∧ w'.cell? ⟨g, 2, none⟩ = some (.slice aO aL aC)), (14, fun w' => w'.cell? ⟨g, 0, none⟩ = some (.bool na) ∧ w'.cell? ⟨g, 1, none⟩ = some (.slice ao al ac) ∧ w'.cell? ⟨g, 2, none⟩ = some (.slice aO aL aC))] := ⟨(qa.below B19).cells, (qa.below B19).cells, (qa.below B19).cells, (qa.below B19).cells, trivial⟩
  go_wp2_with fail
  refine hK.out _ _ (AllL.kept hHeld) ?_
  clear hK K
  (try simp only [Act.put, List.setIfInBounds_toArray, List.set_cons_zero, List.set_cons_succ])
  refine late_free 16 (v := .float .f32 (ngs YP)) rfl (by kernel_rfl) (by kernel_rfl) (by kernel_rfl) (by kernel_rfl) (by kernel_rfl) (by kernel_rfl) (fun _ _ _ h => h) (Or.inl ⟨by rfl, ?_⟩) hHeld ?_
  · (intro u _; go_simp)
  (try simp only [Act.put, List.setIfInBounds_toArray, List.set_cons_zero, List.set_cons_succ])
  refine late_free 17 (v := .bool true) rfl (by kernel_rfl) (by kernel_rfl) (by kernel_rfl) (by kernel_rfl) (by kernel_rfl) (by kernel_rfl) (fun _ _ _ h => h) (Or.inl ⟨by rfl, ?_⟩) hHeld ?_
  · (intro u _; go_simp)
  (try simp only [Act.put, List.setIfInBounds_toArray, List.set_cons_zero, List.set_cons_succ])
  refine late_free 18 (v := .bool true) rfl (by kernel_rfl) (by kernel_rfl) (by kernel_rfl) (by kernel_rfl) (by kernel_rfl) (by kernel_rfl) (fun _ _ _ h => h) (Or.inl ⟨by rfl, ?_⟩) hHeld ?_
  · (intro u _; go_simp)
  (try simp only [Act.put, List.setIfInBounds_toArray, List.set_cons_zero, List.set_cons_succ])
  refine late_free 19 (v := .bool true) rfl (by kernel_rfl) (by kernel_rfl) (by kernel_rfl) (by kernel_rfl) (by kernel_rfl) (by kernel_rfl) (fun _ _ _ h => h) (Or.inl ⟨by rfl, ?_⟩) hHeld ?_
  · (intro u _; go_simp)
  (try simp only [Act.put, List.setIfInBounds_toArray, List.set_cons_zero, List.set_cons_succ])
  refine late_free 20 (v := .float .f64 LN) rfl (by kernel_rfl) (by kernel_rfl) (by kernel_rfl) (by kernel_rfl) (by kernel_rfl) (by kernel_rfl) (fun _ _ _ h => h) (Or.inl ⟨by rfl, ?_⟩) hHeld ?_
  · (intro u _; go_simp)
  (try simp only [Act.put, List.setIfInBounds_toArray, List.set_cons_zero, List.set_cons_succ])
  refine late_free 21 (v := .float .f64 HP) rfl (by kernel_rfl) (by kernel_rfl) (by kernel_rfl) (by kernel_rfl) (by kernel_rfl) (by kernel_rfl) (fun _ _ _ h => h) (Or.inl ⟨by rfl, ?_⟩) hHeld ?_
  · (intro u _; go_simp)
  (try simp only [Act.put, List.setIfInBounds_toArray, List.set_cons_zero, List.set_cons_succ])
  refine late_free 22 (v := .float .f64 (ngf HP)) rfl (by kernel_rfl) (by kernel_rfl) (by kernel_rfl) (by kernel_rfl) (by kernel_rfl) (by kernel_rfl) (fun _ _ _ h => h) (Or.inl ⟨by rfl, ?_⟩) hHeld ?_
  · (intro u _; go_simp)
  (try simp only [Act.put, List.setIfInBounds_toArray, List.set_cons_zero, List.set_cons_succ])
  refine late_free 23 (v := .bool true) rfl (by kernel_rfl) (by kernel_rfl) (by kernel_rfl) (by kernel_rfl) (by kernel_rfl) (by kernel_rfl) (fun _ _ _ h => h) (Or.inl ⟨by rfl, ?_⟩) hHeld ?_
  · (intro u _; go_simp)
  (try simp only [Act.put, List.setIfInBounds_toArray, List.set_cons_zero, List.set_cons_succ])
  refine late_free 24 (v := .bool true) rfl (by kernel_rfl) (by kernel_rfl) (by kernel_rfl) (by kernel_rfl) (by kernel_rfl) (by kernel_rfl) (fun _ _ _ h => h) (Or.inl ⟨by rfl, ?_⟩) hHeld ?_
  · (intro u _; go_simp)
  (try simp only [Act.put, List.setIfInBounds_toArray, List.set_cons_zero, List.set_cons_succ])
  refine late_free 25 (v := .bool true) rfl (by kernel_rfl) (by kernel_rfl) (by kernel_rfl) (by kernel_rfl) (by kernel_rfl) (by kernel_rfl) (fun _ _ _ h => h) (Or.inl ⟨by rfl, ?_⟩) hHeld ?_
  · (intro u _; go_simp)
  (try simp only [Act.put, List.setIfInBounds_toArray, List.set_cons_zero, List.set_cons_succ])
  refine late_free 26 (v := .float .f64 HN) rfl (by kernel_rfl) (by kernel_rfl) (by kernel_rfl) (by kernel_rfl) (by kernel_rfl) (by kernel_rfl) (fun _ _ _ h => h) (Or.inl ⟨by rfl, ?_⟩) hHeld ?_
  · (intro u _; go_simp)
  (try simp only [Act.put, List.setIfInBounds_toArray, List.set_cons_zero, List.set_cons_succ])
  refine late_free 27 (v := .float .f64 LP) rfl (by kernel_rfl) (by kernel_rfl) (by kernel_rfl) (by kernel_rfl) (by kernel_rfl) (by kernel_rfl) (fun _ _ _ h => h) (Or.inl ⟨by rfl, ?_⟩) hHeld ?_
  · (intro u _; go_simp)
  (try simp only [Act.put, List.setIfInBounds_toArray, List.set_cons_zero, List.set_cons_succ])
  refine late_free 28 (v := .float .f64 (ngf LP)) rfl (by kernel_rfl) (by kernel_rfl) (by kernel_rfl) (by kernel_rfl) (by kernel_rfl) (by kernel_rfl) (fun _ _ _ h => h) (Or.inl ⟨by rfl, ?_⟩) hHeld ?_
  · (intro u _; go_simp)
  (try simp only [Act.put, List.setIfInBounds_toArray, List.set_cons_zero, List.set_cons_succ])
  refine late_free 29 (v := .bool true) rfl (by kernel_rfl) (by kernel_rfl) (by kernel_rfl) (by kernel_rfl) (by kernel_rfl) (by kernel_rfl) (fun _ _ _ h => h) (Or.inl ⟨by rfl, ?_⟩) hHeld ?_
  · (intro u _; go_simp)
  (try simp only [Act.put, List.setIfInBounds_toArray, List.set_cons_zero, List.set_cons_succ])
  refine late_free 30 (v := .bool true) rfl (by kernel_rfl) (by kernel_rfl) (by kernel_rfl) (by kernel_rfl) (by kernel_rfl) (by kernel_rfl) (fun _ _ _ h => h) (Or.inl ⟨by rfl, ?_⟩) hHeld ?_
  · (intro u _; go_simp)
  (try simp only [Act.put, List.setIfInBounds_toArray, List.set_cons_zero, List.set_cons_succ])
  refine late_step 31 (by kernel_rfl) rfl (fun K hK => ?_)
  go_simp
  refine hK.out _ _ ⟨Or.inl ⟨3, by kernel_rfl, by kernel_rfl⟩, Or.inl ⟨6, by kernel_rfl, by kernel_rfl⟩, Or.inl ⟨12, by kernel_rfl, by kernel_rfl⟩, Or.inl ⟨15, by kernel_rfl, by kernel_rfl⟩, trivial⟩ ?_
  clear hK K
  (try simp only [Act.put, List.setIfInBounds_toArray, List.set_cons_zero, List.set_cons_succ])
  refine late_done (by kernel_rfl) ?_ _
  clear hHeld
  clear r67
  clear r76
  have b := B19
  clear b14 b15 b16 b17 b18 b19 B14 B15 B16 B17 B18 B19
  replace kP := kP.below b
  replace kQ := kQ.below b
  replace mP := mP.below b
  replace qa := qa.below b
  replace qb := qb.below b
  replace hb := bstep hb b
  replace hsz := Nat.lt_of_lt_of_le hsz b.size
  clear b
  have HE : Hid (Below w.heap.size w w19) := hb
  clear hb hsz u64 u32 qa qb kP kQ mP
  go_wp2
  go_ret
  exact ⟨rfl, HE.out⟩
set_option maxRecDepth 100000 in
set_option maxHeartbeats 6400000 in
theorem nrise_main1 (na : Bool) (ao aO : Option Addr) (al ac aL aC : Nat) (xa ya : List Nat) (nb : Bool) (bo bO : Option Addr) (bl bc bL bC : Nat) (xb yb : List Nat) (w : World) (hA : (decide (200 < al) || decide (200 < aL)) = false) (hB : (decide (200 < bl) || decide (200 < bL)) = false) (ua : Num w (.slice ao al ac) xa) (da : Num w (.slice aO aL aC) ya) (ub : Num w (.slice bo bl bc) xb) (db : Num w (.slice bO bL bC) yb) (la : xa.length ≤ 200) (la2 : ya.length ≤ 200) (lb : xb.length ≤ 200) (lb2 : yb.length ≤ 200) (hcm : 0 < cmpQ (rq (zv na (val xa)) (val ya)) (rq (zv nb (val xb)) (val yb))) :
    Calls Tryd.prog 4 #[.agg #[.bool na, .slice ao al ac, .slice aO aL aC], .agg #[.bool nb, .slice bo bl bc, .slice bO bL bC]] w fun e w' => e = .returned (.bool true) ∧ Below w.heap.size w w' := by
  have hbA := fun w => big05_any na ao aO al ac aL aC w
  rw [hA] at hbA
  have hbB := fun w => big05_any nb bo bO bl bc bL bC w
  rw [hB] at hbB
  clear hA hB
  have kA0 : Hid (QN w (.agg #[.bool na, .slice ao al ac, .slice aO aL aC]) (sdOf na (val xa)) (val xa) (undN (val ya))) := qn_of ua da la la2
  have mA0 : Hid (RNum w (.agg #[.bool na, .slice ao al ac, .slice aO aL aC]) (rq (zv na (val xa)) (val ya)) 200) := rnum_of ua da la la2 (by decide) (by decide)
  have kB0 : Hid (QN w (.agg #[.bool nb, .slice bo bl bc, .slice bO bL bC]) (sdOf nb (val xb)) (val xb) (undN (val yb))) := qn_of ub db lb lb2
  have mB0 : Hid (RNum w (.agg #[.bool nb, .slice bo bl bc, .slice bO bL bC]) (rq (zv nb (val xb)) (val yb)) 200) := rnum_of ub db lb lb2 (by decide) (by decide)
  have hup : Up (sdOf nb (val xb)) (val xb) (undN (val yb)) (sdOf na (val xa)) (val xa) (undN (val ya)) := up_of (by rw [cmpQ_anti]; omega)
  have hop : Opp (sdOf nb (val xb)) (val xb) (undN (val yb)) (decide ((-(rq (zv nb (val xb)) (val yb))).num < 0)) (-(rq (zv nb (val xb)) (val yb))).num.natAbs (-(rq (zv nb (val xb)) (val yb))).den := opp_of _ _ _
  have o1 := hup.near
  have o2 := hup.single
  have o3 := hup.lo
  have o4 := hup.hi
  have o5 := hop.near
  have o6 := hop.single
  have o7 := hop.lo
  have o8 := hop.hi
  have HSZ : Hid (RSz (-(rq (zv nb (val xb)) (val yb))) 200)   := RNum.neg mB0.out
  obtain ⟨c, hc⟩ : ∃ c, c = cmpQ (rq (zv na (val xa)) (val ya)) (rq (zv nb (val xb)) (val yb)) := ⟨_, rfl⟩
  rw [← hc] at hcm
  have HC : Hid (cmpQ (rq (zv na (val xa)) (val ya)) (rq (zv nb (val xb)) (val yb)) = c) := hc.symm
  clear hc hup hop ua da ub db la la2 lb lb2
  obtain ⟨XP, hXP⟩ : ∃ z, z = nD (sdOf nb (val xb)) (val xb) (undN (val yb)) := ⟨_, rfl⟩
  obtain ⟨XQ, hXQ⟩ : ∃ z, z = nD (sdOf na (val xa)) (val xa) (undN (val ya)) := ⟨_, rfl⟩
  obtain ⟨XN, hXN⟩ : ∃ z, z = nD (decide ((-(rq (zv nb (val xb)) (val yb))).num < 0)) (-(rq (zv nb (val xb)) (val yb))).num.natAbs (-(rq (zv nb (val xb)) (val yb))).den := ⟨_, rfl⟩
  obtain ⟨YP, hYP⟩ : ∃ z, z = nS (sdOf nb (val xb)) (val xb) (undN (val yb)) := ⟨_, rfl⟩
  obtain ⟨YQ, hYQ⟩ : ∃ z, z = nS (sdOf na (val xa)) (val xa) (undN (val ya)) := ⟨_, rfl⟩
  obtain ⟨YN, hYN⟩ : ∃ z, z = nS (decide ((-(rq (zv nb (val xb)) (val yb))).num < 0)) (-(rq (zv nb (val xb)) (val yb))).num.natAbs (-(rq (zv nb (val xb)) (val yb))).den := ⟨_, rfl⟩
  obtain ⟨LP, hLP⟩ : ∃ z, z = lD (sdOf nb (val xb)) (val xb) (undN (val yb)) := ⟨_, rfl⟩
  obtain ⟨LQ, hLQ⟩ : ∃ z, z = lD (sdOf na (val xa)) (val xa) (undN (val ya)) := ⟨_, rfl⟩
  obtain ⟨LN, hLN⟩ : ∃ z, z = lD (decide ((-(rq (zv nb (val xb)) (val yb))).num < 0)) (-(rq (zv nb (val xb)) (val yb))).num.natAbs (-(rq (zv nb (val xb)) (val yb))).den := ⟨_, rfl⟩
  obtain ⟨HP, hHP⟩ : ∃ z, z = hD (sdOf nb (val xb)) (val xb) (undN (val yb)) := ⟨_, rfl⟩
  obtain ⟨HQ, hHQ⟩ : ∃ z, z = hD (sdOf na (val xa)) (val xa) (undN (val ya)) := ⟨_, rfl⟩
  obtain ⟨HN, hHN⟩ : ∃ z, z = hD (decide ((-(rq (zv nb (val xb)) (val yb))).num < 0)) (-(rq (zv nb (val xb)) (val yb))).num.natAbs (-(rq (zv nb (val xb)) (val yb))).den := ⟨_, rfl⟩
  rw [← hXP, ← hXQ] at o1
  rw [← hYP, ← hYQ] at o2
  rw [← hLP, ← hLQ] at o3
  rw [← hHP, ← hHQ] at o4
  rw [← hXN, ← hXP] at o5
  rw [← hYN, ← hYP] at o6
  rw [← hLN, ← hHP] at o7
  rw [← hHN, ← hLP] at o8
  have HXP : Hid (nD (sdOf nb (val xb)) (val xb) (undN (val yb)) = XP) := hXP.symm
  have HXQ : Hid (nD (sdOf na (val xa)) (val xa) (undN (val ya)) = XQ) := hXQ.symm
  have HXN : Hid (nD (decide ((-(rq (zv nb (val xb)) (val yb))).num < 0)) (-(rq (zv nb (val xb)) (val yb))).num.natAbs (-(rq (zv nb (val xb)) (val yb))).den = XN) := hXN.symm
  have HYP : Hid (nS (sdOf nb (val xb)) (val xb) (undN (val yb)) = YP) := hYP.symm
  have HYQ : Hid (nS (sdOf na (val xa)) (val xa) (undN (val ya)) = YQ) := hYQ.symm
  have HYN : Hid (nS (decide ((-(rq (zv nb (val xb)) (val yb))).num < 0)) (-(rq (zv nb (val xb)) (val yb))).num.natAbs (-(rq (zv nb (val xb)) (val yb))).den = YN) := hYN.symm
  have HLP : Hid (lD (sdOf nb (val xb)) (val xb) (undN (val yb)) = LP) := hLP.symm
  have HLQ : Hid (lD (sdOf na (val xa)) (val xa) (undN (val ya)) = LQ) := hLQ.symm
  have HLN : Hid (lD (decide ((-(rq (zv nb (val xb)) (val yb))).num < 0)) (-(rq (zv nb (val xb)) (val yb))).num.natAbs (-(rq (zv nb (val xb)) (val yb))).den = LN) := hLN.symm
  have HHP : Hid (hD (sdOf nb (val xb)) (val xb) (undN (val yb)) = HP) := hHP.symm
  have HHQ : Hid (hD (sdOf na (val xa)) (val xa) (undN (val ya)) = HQ) := hHQ.symm
  have HHN : Hid (hD (decide ((-(rq (zv nb (val xb)) (val yb))).num < 0)) (-(rq (zv nb (val xb)) (val yb))).num.natAbs (-(rq (zv nb (val xb)) (val yb))).den = HN) := hHN.symm
  clear hXP hXQ hXN hYP hYQ hYN hLP hLQ hLN hHP hHQ hHN
  have hcd : decide (0 < c) = true := decide_eq_true hcm
  obtain ⟨W1, hW1⟩ : ∃ W1, W1 = (w.alloc (.cells #[.bool na, .slice ao al ac, .slice aO aL aC] 30)).alloc (.cells #[.bool nb, .slice bo bl bc, .slice bO bL bC] 30) := ⟨_, rfl⟩
  have qa : QCell W1 (w.heap.size) na (.slice ao al ac) (.slice aO aL aC) := by rw [hW1]; exact (qcell_step (qcell_new _ (by simp)))
  have qb : QCell W1 (w.heap.size + 1) nb (.slice bo bl bc) (.slice bO bL bC) := by rw [hW1]; exact (qcell_new _ (by simp))
  have hb : Below w.heap.size w W1 := by rw [hW1]; exact bstep (belowA w _) (belowA _ _)
  have hsz : w.heap.size + 1 < W1.heap.size := by rw [hW1]; simp
  have HW1 : Hid (W1 = (w.alloc (.cells #[.bool na, .slice ao al ac, .slice aO aL aC] 30)).alloc (.cells #[.bool nb, .slice bo bl bc, .slice bO bL bC] 30)) := hW1
  clear hW1
  go_enter Tryd.func4, Tryd.ntmps4
  go_wp2_with fail
  rw [← HW1.out]
  clear HW1
  obtain ⟨g, hg⟩ : ∃ g, g = w.heap.size := ⟨_, rfl⟩
  rw [← hg] at qa qb hsz ⊢
  have HG : Hid (g = w.heap.size) := hg
  clear hg
  refine (alive5_yes _).mono ?_
  rintro e w2 ⟨rfl, b⟩
  replace qa := qa.below b
  replace qb := qb.below b
  replace hb := bstep hb b
  replace hsz := Nat.lt_of_lt_of_le hsz b.size
  clear b
  obtain ⟨cqa0, cqa1, cqa2⟩ := qa.cells
  obtain ⟨cqb0, cqb1, cqb2⟩ := qb.cells
  go_wp2_with fail
  clear cqa0 cqa1 cqa2 cqb0 cqb1 cqb2
  refine (hbA _).mono ?_
  rintro e w3 ⟨rfl, b⟩
  replace qa := qa.below b
  replace qb := qb.below b
  replace hb := bstep hb b
  replace hsz := Nat.lt_of_lt_of_le hsz b.size
  clear b
  obtain ⟨cqa0, cqa1, cqa2⟩ := qa.cells
  obtain ⟨cqb0, cqb1, cqb2⟩ := qb.cells
  go_wp2_with fail
  clear cqa0 cqa1 cqa2 cqb0 cqb1 cqb2
  refine (hbB _).mono ?_
  rintro e w4 ⟨rfl, b⟩
  replace qa := qa.below b
  replace qb := qb.below b
  replace hb := bstep hb b
  replace hsz := Nat.lt_of_lt_of_le hsz b.size
  clear b
  obtain ⟨cqa0, cqa1, cqa2⟩ := qa.cells
  obtain ⟨cqb0, cqb1, cqb2⟩ := qb.cells
  go_wp2_with fail
  clear cqa0 cqa1 cqa2 cqb0 cqb1 cqb2
  have hq := c_rcmp (RNum.below mA0.out hb) (RNum.below mB0.out hb) (by decide)
  rw [HC.out] at hq
  refine (hq).mono ?_
  rintro e w5 ⟨rfl, b⟩
  replace qa := qa.below b
  replace qb := qb.below b
  replace hb := bstep hb b
  replace hsz := Nat.lt_of_lt_of_le hsz b.size
  clear b
  clear hq
  obtain ⟨WS, hWS⟩ : ∃ W, W = ((((((w5.setCell ⟨g, 0, none⟩ (.bool nb)).setCell ⟨g, 1, none⟩ (.slice bo bl bc)).setCell ⟨g, 2, none⟩ (.slice bO bL bC)).setCell ⟨g + 1, 0, none⟩ (.bool na)).setCell ⟨g + 1, 1, none⟩ (.slice ao al ac)).setCell ⟨g + 1, 2, none⟩ (.slice aO aL aC)) := ⟨_, rfl⟩
  have qS : QCell WS g nb (.slice bo bl bc) (.slice bO bL bC) := by rw [hWS]; exact (((qa.write _ _ _).other (by omega) _ _).other (by omega) _ _).other (by omega) _ _
  have qT : QCell WS (g + 1) na (.slice ao al ac) (.slice aO aL aC) := by rw [hWS]; exact ((((qb.other (by omega) _ _).other (by omega) _ _).other (by omega) _ _).write _ _ _)
  have hbS : Below w.heap.size w WS := by rw [hWS]; exact iend3 (iend3 hb (by rw [HG.out]; omega)) (by rw [HG.out]; omega)
  have hszS : g + 1 < WS.heap.size := by rw [hWS]; simpa using hsz
  have HWS : Hid (WS = ((((((w5.setCell ⟨g, 0, none⟩ (.bool nb)).setCell ⟨g, 1, none⟩ (.slice bo bl bc)).setCell ⟨g, 2, none⟩ (.slice bO bL bC)).setCell ⟨g + 1, 0, none⟩ (.bool na)).setCell ⟨g + 1, 1, none⟩ (.slice ao al ac)).setCell ⟨g + 1, 2, none⟩ (.slice aO aL aC))) := hWS
  clear hWS
  obtain ⟨cqa0, cqa1, cqa2⟩ := qa.cells
  obtain ⟨cqb0, cqb1, cqb2⟩ := qb.cells
  have fa0 := qa.thaw 0
  have fa1 := qa.thaw 1
  have fa2 := qa.thaw 2
  have fb0 := qb.thaw 0
  have fb1 := qb.thaw 1
  have fb2 := qb.thaw 2
  go_wp2_with fail
  rw [← HWS.out]
  clear HWS cqa0 cqa1 cqa2 cqb0 cqb1 cqb2 fa0 fa1 fa2 fb0 fb1 fb2 qa qb hb hsz
  have qa := qS
  have qb := qT
  have hb := hbS
  have hsz := hszS
  clear qS qT hbS hszS
  have kP := QN.below kB0.out hb
  have kQ := QN.below kA0.out hb
  have mP := RNum.below mB0.out hb
  have hq := qn_around kP
  rw [HLP.out, HHP.out] at hq
  refine (hq).mono ?_
  rintro e w6 ⟨rfl, b⟩
  replace kP := kP.below b
  replace kQ := kQ.below b
  replace mP := mP.below b
  replace qa := qa.below b
  replace qb := qb.below b
  replace hb := bstep hb b
  replace hsz := Nat.lt_of_lt_of_le hsz b.size
  clear b
  clear hq
  obtain ⟨cqa0, cqa1, cqa2⟩ := qa.cells
  obtain ⟨cqb0, cqb1, cqb2⟩ := qb.cells
  go_wp2_with fail
  clear cqa0 cqa1 cqa2 cqb0 cqb1 cqb2
  have hq := qn_around kQ
  rw [HLQ.out, HHQ.out] at hq
  refine (hq).mono ?_
  rintro e w7 ⟨rfl, b⟩
  replace kP := kP.below b
  replace kQ := kQ.below b
  replace mP := mP.below b
  replace qa := qa.below b
  replace qb := qb.below b
  replace hb := bstep hb b
  replace hsz := Nat.lt_of_lt_of_le hsz b.size
  clear b
  clear hq
  obtain ⟨cqa0, cqa1, cqa2⟩ := qa.cells
  obtain ⟨cqb0, cqb1, cqb2⟩ := qb.cells
  go_wp2_with fail
  clear cqa0 cqa1 cqa2 cqb0 cqb1 cqb2
  refine region_late [(0, fun w' => w'.cell? ⟨g, 0, none⟩ = some (.bool nb) ∧ w'.cell? ⟨g, 1, none⟩ = some (.slice bo bl bc) ∧ w'.cell? ⟨g, 2, none⟩ = some (.slice bO bL bC)), (2, fun w' => w'.cell? ⟨g + 1, 0, none⟩ = some (.bool na) ∧ w'.cell? ⟨g + 1, 1, none⟩ = some (.slice ao al ac) ∧ w'.cell? ⟨g + 1, 2, none⟩ = some (.slice aO aL aC)), (6, fun w' => w'.cell? ⟨g, 0, none⟩ = some (.bool nb) ∧ w'.cell? ⟨g, 1, none⟩ = some (.slice bo bl bc) ∧ w'.cell? ⟨g, 2, none⟩ = some (.slice bO bL bC)), (8, fun w' => w'.cell? ⟨g + 1, 0, none⟩ = some (.bool na) ∧ w'.cell? ⟨g + 1, 1, none⟩ = some (.slice ao al ac) ∧ w'.cell? ⟨g + 1, 2, none⟩ = some (.slice aO aL aC))] (by kernel_rfl) ?_
  have hHeld : AllL w7.drew [(0, fun w' => w'.cell? ⟨g, 0, none⟩ = some (.bool nb) ∧ w'.cell? ⟨g, 1, none⟩ = some (.slice bo bl bc) ∧ w'.cell? ⟨g, 2, none⟩ = some (.slice bO bL bC)), (2, fun w' => w'.cell? ⟨g + 1, 0, none⟩ = some (.bool na) ∧ w'.cell? ⟨g + 1, 1, none⟩ = some (.slice ao al ac) ∧ w'.cell? ⟨g + 1, 2, none⟩ = some (.slice aO aL aC)), (6, fun w' => w'.cell? ⟨g, 0, none⟩ = some (.bool nb) ∧ w'.cell? ⟨g, 1, none⟩ = some (.slice bo bl bc) ∧ w'.cell? ⟨g, 2, none⟩ = some (.slice bO bL bC)), (8, fun w' => w'.cell? ⟨g + 1, 0, none⟩ = some (.bool na) ∧ w'.cell? ⟨g + 1, 1, none⟩ = some (.slice ao al ac) ∧ w'.cell? ⟨g + 1, 2, none⟩ = some (.slice aO aL aC))] := ⟨(show QCell w7.drew (g) nb (.slice bo bl bc) (.slice bO bL bC) from qa).cells, (show QCell w7.drew (g + 1) na (.slice ao al ac) (.slice aO aL aC) from qb).cells, (show QCell w7.drew (g) nb (.slice bo bl bc) (.slice bO bL bC) from qa).cells, (show QCell w7.drew (g + 1) na (.slice ao al ac) (.slice aO aL aC) from qb).cells, trivial⟩
  refine late_take 0 (v := .agg #[.bool nb, .slice bo bl bc, .slice bO bL bC]) rfl (by kernel_rfl) (List.Mem.head _) (by kernel_rfl) (by kernel_rfl) (by kernel_rfl) (by kernel_rfl) (fun _ _ _ h => h) (Or.inl ⟨by rfl, ?_⟩) hHeld ?_
  · (intro u hu; (try dsimp only at hu); go_split_ands; go_simp)
  (try simp only [Act.put, List.setIfInBounds_toArray, List.set_cons_zero, List.set_cons_succ])
  refine late_take 2 (v := .agg #[.bool na, .slice ao al ac, .slice aO aL aC]) rfl (by kernel_rfl) (List.Mem.tail _ (List.Mem.head _)) (by kernel_rfl) (by kernel_rfl) (by kernel_rfl) (by kernel_rfl) (fun _ _ _ h => h) (Or.inl ⟨by rfl, ?_⟩) hHeld ?_
  · (intro u hu; (try dsimp only at hu); go_split_ands; go_simp)
  (try simp only [Act.put, List.setIfInBounds_toArray, List.set_cons_zero, List.set_cons_succ])
  refine late_step 1 (by kernel_rfl) rfl (fun K hK => ?_)
  go_simp
  have hq := qn_near (kP.below (below_drew' _))
  rw [HXP.out] at hq
  refine hq.mono ?_
  rintro e w8 ⟨rfl, b8⟩
  clear hq
  have B8 : Below w7.heap.size w7 w8 := bstep (below_drew' _) b8
  clear hHeld
  have hHeld : AllL w8 [(0, fun w' => w'.cell? ⟨g, 0, none⟩ = some (.bool nb) ∧ w'.cell? ⟨g, 1, none⟩ = some (.slice bo bl bc) ∧ w'.cell? ⟨g, 2, none⟩ = some (.slice bO bL bC)), (2, fun w' => w'.cell? ⟨g + 1, 0, none⟩ = some (.bool na) ∧ w'.cell? ⟨g + 1, 1, none⟩ = some (.slice ao al ac) ∧ w'.cell? ⟨g + 1, 2, none⟩ = some (.slice aO aL aC)), (6, fun w' => w'.cell? ⟨g, 0, none⟩ = some (.bool nb) ∧ w'.cell? ⟨g, 1, none⟩ = some (.slice bo bl bc) ∧ w'.cell? ⟨g, 2, none⟩ = some (.slice bO bL bC)), (8, fun w' => w'.cell? ⟨g + 1, 0, none⟩ = some (.bool na) ∧ w'.cell? ⟨g + 1, 1, none⟩ = some (.slice ao al ac) ∧ w'.cell? ⟨g + 1, 2, none⟩ = some (.slice aO aL aC))] := ⟨(qa.below B8).cells, (qb.below B8).cells, (qa.below B8).cells, (qb.below B8).cells, trivial⟩
  go_wp2_with fail
  refine hK.out _ _ (AllL.kept hHeld) ?_
  clear hK K
  (try simp only [Act.put, List.setIfInBounds_toArray, List.set_cons_zero, List.set_cons_succ])
  refine late_step 3 (by kernel_rfl) rfl (fun K hK => ?_)
  go_simp
  have hq := qn_near ((kQ.below (below_drew' _)).below b8)
  rw [HXQ.out] at hq
  refine hq.mono ?_
  rintro e w9 ⟨rfl, b9⟩
  clear hq
  have B9 : Below w7.heap.size w7 w9 := bstep B8 b9
  clear hHeld
  have hHeld : AllL w9 [(0, fun w' => w'.cell? ⟨g, 0, none⟩ = some (.bool nb) ∧ w'.cell? ⟨g, 1, none⟩ = some (.slice bo bl bc) ∧ w'.cell? ⟨g, 2, none⟩ = some (.slice bO bL bC)), (2, fun w' => w'.cell? ⟨g + 1, 0, none⟩ = some (.bool na) ∧ w'.cell? ⟨g + 1, 1, none⟩ = some (.slice ao al ac) ∧ w'.cell? ⟨g + 1, 2, none⟩ = some (.slice aO aL aC)), (6, fun w' => w'.cell? ⟨g, 0, none⟩ = some (.bool nb) ∧ w'.cell? ⟨g, 1, none⟩ = some (.slice bo bl bc) ∧ w'.cell? ⟨g, 2, none⟩ = some (.slice bO bL bC)), (8, fun w' => w'.cell? ⟨g + 1, 0, none⟩ = some (.bool na) ∧ w'.cell? ⟨g + 1, 1, none⟩ = some (.slice ao al ac) ∧ w'.cell? ⟨g + 1, 2, none⟩ = some (.slice aO aL aC))] := ⟨(qa.below B9).cells, (qb.below B9).cells, (qa.below B9).cells, (qb.below B9).cells, trivial⟩
  go_wp2_with fail
  refine hK.out _ _ (AllL.kept hHeld) ?_
  clear hK K
  (try simp only [Act.put, List.setIfInBounds_toArray, List.set_cons_zero, List.set_cons_succ])
  refine late_free 4 (v := .bool false) rfl (by kernel_rfl) (by kernel_rfl) (by kernel_rfl) (by kernel_rfl) (by kernel_rfl) (by kernel_rfl) (fun _ _ _ h => h) (Or.inl ⟨by rfl, ?_⟩) hHeld ?_
  · (intro u _; go_simp)
  (try simp only [Act.put, List.setIfInBounds_toArray, List.set_cons_zero, List.set_cons_succ])
  refine late_free 5 (v := .bool false) rfl (by kernel_rfl) (by kernel_rfl) (by kernel_rfl) (by kernel_rfl) (by kernel_rfl) (by kernel_rfl) (fun _ _ _ h => h) (Or.inl ⟨by rfl, ?_⟩) hHeld ?_
  · (intro u _; go_simp)
  (try simp only [Act.put, List.setIfInBounds_toArray, List.set_cons_zero, List.set_cons_succ])
  refine late_take 6 (v := .agg #[.bool nb, .slice bo bl bc, .slice bO bL bC]) rfl (by kernel_rfl) (List.Mem.tail _ (List.Mem.tail _ (List.Mem.head _))) (by kernel_rfl) (by kernel_rfl) (by kernel_rfl) (by kernel_rfl) (fun _ _ _ h => h) (Or.inl ⟨by rfl, ?_⟩) hHeld ?_
  · (intro u hu; (try dsimp only at hu); go_split_ands; go_simp)
  (try simp only [Act.put, List.setIfInBounds_toArray, List.set_cons_zero, List.set_cons_succ])
  refine late_take 8 (v := .agg #[.bool na, .slice ao al ac, .slice aO aL aC]) rfl (by kernel_rfl) (List.Mem.tail _ (List.Mem.tail _ (List.Mem.tail _ (List.Mem.head _)))) (by kernel_rfl) (by kernel_rfl) (by kernel_rfl) (by kernel_rfl) (fun _ _ _ h => h) (Or.inl ⟨by rfl, ?_⟩) hHeld ?_
  · (intro u hu; (try dsimp only at hu); go_split_ands; go_simp)
  (try simp only [Act.put, List.setIfInBounds_toArray, List.set_cons_zero, List.set_cons_succ])
  refine late_step 7 (by kernel_rfl) rfl (fun K hK => ?_)
  go_simp
  have hq := qn_single (((kP.below (below_drew' _)).below b8).below b9)
  rw [HYP.out] at hq
  refine hq.mono ?_
  rintro e w10 ⟨rfl, b10⟩
  clear hq
  have B10 : Below w7.heap.size w7 w10 := bstep B9 b10
  clear hHeld
  have hHeld : AllL w10 [(0, fun w' => w'.cell? ⟨g, 0, none⟩ = some (.bool nb) ∧ w'.cell? ⟨g, 1, none⟩ = some (.slice bo bl bc) ∧ w'.cell? ⟨g, 2, none⟩ = some (.slice bO bL bC)), (2, fun w' => w'.cell? ⟨g + 1, 0, none⟩ = some (.bool na) ∧ w'.cell? ⟨g + 1, 1, none⟩ = some (.slice ao al ac) ∧ w'.cell? ⟨g + 1, 2, none⟩ = some (.slice aO aL aC)), (6, fun w' => w'.cell? ⟨g, 0, none⟩ = some (.bool nb) ∧ w'.cell? ⟨g, 1, none⟩ = some (.slice bo bl bc) ∧ w'.cell? ⟨g, 2, none⟩ = some (.slice bO bL bC)), (8, fun w' => w'.cell? ⟨g + 1, 0, none⟩ = some (.bool na) ∧ w'.cell? ⟨g + 1, 1, none⟩ = some (.slice ao al ac) ∧ w'.cell? ⟨g + 1, 2, none⟩ = some (.slice aO aL aC))] := ⟨(qa.below B10).cells, (qb.below B10).cells, (qa.below B10).cells, (qb.below B10).cells, trivial⟩
  go_wp2_with fail
  refine hK.out _ _ (AllL.kept hHeld) ?_
  clear hK K
  (try simp only [Act.put, List.setIfInBounds_toArray, List.set_cons_zero, List.set_cons_succ])
  refine late_step 9 (by kernel_rfl) rfl (fun K hK => ?_)
  go_simp
  have hq := qn_single ((((kQ.below (below_drew' _)).below b8).below b9).below b10)
  rw [HYQ.out] at hq
  refine hq.mono ?_
  rintro e w11 ⟨rfl, b11⟩
  clear hq
  have B11 : Below w7.heap.size w7 w11 := bstep B10 b11
  clear hHeld
  have hHeld : AllL w11 [(0, fun w' => w'.cell? ⟨g, 0, none⟩ = some (.bool nb) ∧ w'.cell? ⟨g, 1, none⟩ = some (.slice bo bl bc) ∧ w'.cell? ⟨g, 2, none⟩ = some (.slice bO bL bC)), (2, fun w' => w'.cell? ⟨g + 1, 0, none⟩ = some (.bool na) ∧ w'.cell? ⟨g + 1, 1, none⟩ = some (.slice ao al ac) ∧ w'.cell? ⟨g + 1, 2, none⟩ = some (.slice aO aL aC)), (6, fun w' => w'.cell? ⟨g, 0, none⟩ = some (.bool nb) ∧ w'.cell? ⟨g, 1, none⟩ = some (.slice bo bl bc) ∧ w'.cell? ⟨g, 2, none⟩ = some (.slice bO bL bC)), (8, fun w' => w'.cell? ⟨g + 1, 0, none⟩ = some (.bool na) ∧ w'.cell? ⟨g + 1, 1, none⟩ = some (.slice ao al ac) ∧ w'.cell? ⟨g + 1, 2, none⟩ = some (.slice aO aL aC))] := ⟨(qa.below B11).cells, (qb.below B11).cells, (qa.below B11).cells, (qb.below B11).cells, trivial⟩
  go_wp2_with fail
  refine hK.out _ _ (AllL.kept hHeld) ?_
  clear hK K
  (try simp only [Act.put, List.setIfInBounds_toArray, List.set_cons_zero, List.set_cons_succ])
  refine late_free 10 (v := .bool false) rfl (by kernel_rfl) (by kernel_rfl) (by kernel_rfl) (by kernel_rfl) (by kernel_rfl) (by kernel_rfl) (fun _ _ _ h => h) (Or.inl ⟨by rfl, ?_⟩) hHeld ?_
  · (intro u _; go_simp)
  (try simp only [Act.put, List.setIfInBounds_toArray, List.set_cons_zero, List.set_cons_succ])
  refine late_free 11 (v := .bool false) rfl (by kernel_rfl) (by kernel_rfl) (by kernel_rfl) (by kernel_rfl) (by kernel_rfl) (by kernel_rfl) (fun _ _ _ h => h) (Or.inl ⟨by rfl, ?_⟩) hHeld ?_
  · (intro u _; go_simp)
  (try simp only [Act.put, List.setIfInBounds_toArray, List.set_cons_zero, List.set_cons_succ])
  refine late_free 12 (v := .bool false) rfl (by kernel_rfl) (by kernel_rfl) (by kernel_rfl) (by kernel_rfl) (by kernel_rfl) (by kernel_rfl) (fun _ _ _ h => h) (Or.inl ⟨by rfl, ?_⟩) hHeld ?_
  · (intro u _; go_simp)
  (try simp only [Act.put, List.setIfInBounds_toArray, List.set_cons_zero, List.set_cons_succ])
  refine late_free 13 (v := .float .f64 LP) rfl (by kernel_rfl) (by kernel_rfl) (by kernel_rfl) (by kernel_rfl) (by kernel_rfl) (by kernel_rfl) (fun _ _ _ h => h) (Or.inl ⟨by rfl, ?_⟩) hHeld ?_
  · (intro u _; go_simp)
  (try simp only [Act.put, List.setIfInBounds_toArray, List.set_cons_zero, List.set_cons_succ])
  refine late_free 14 (v := .float .f64 LQ) rfl (by kernel_rfl) (by kernel_rfl) (by kernel_rfl) (by kernel_rfl) (by kernel_rfl) (by kernel_rfl) (fun _ _ _ h => h) (Or.inl ⟨by rfl, ?_⟩) hHeld ?_
  · (intro u _; go_simp)
  (try simp only [Act.put, List.setIfInBounds_toArray, List.set_cons_zero, List.set_cons_succ])
  refine late_free 15 (v := .bool false) rfl (by kernel_rfl) (by kernel_rfl) (by kernel_rfl) (by kernel_rfl) (by kernel_rfl) (by kernel_rfl) (fun _ _ _ h => h) (Or.inl ⟨by rfl, ?_⟩) hHeld ?_
  · (intro u _; go_simp)
  (try simp only [Act.put, List.setIfInBounds_toArray, List.set_cons_zero, List.set_cons_succ])
  refine late_free 16 (v := .bool false) rfl (by kernel_rfl) (by kernel_rfl) (by kernel_rfl) (by kernel_rfl) (by kernel_rfl) (by kernel_rfl) (fun _ _ _ h => h) (Or.inl ⟨by rfl, ?_⟩) hHeld ?_
  · (intro u _; go_simp)
  (try simp only [Act.put, List.setIfInBounds_toArray, List.set_cons_zero, List.set_cons_succ])
  refine late_free 17 (v := .bool false) rfl (by kernel_rfl) (by kernel_rfl) (by kernel_rfl) (by kernel_rfl) (by kernel_rfl) (by kernel_rfl) (fun _ _ _ h => h) (Or.inl ⟨by rfl, ?_⟩) hHeld ?_
  · (intro u _; go_simp)
  (try simp only [Act.put, List.setIfInBounds_toArray, List.set_cons_zero, List.set_cons_succ])
  refine late_free 18 (v := .float .f64 HP) rfl (by kernel_rfl) (by kernel_rfl) (by kernel_rfl) (by kernel_rfl) (by kernel_rfl) (by kernel_rfl) (fun _ _ _ h => h) (Or.inl ⟨by rfl, ?_⟩) hHeld ?_
  · (intro u _; go_simp)
  (try simp only [Act.put, List.setIfInBounds_toArray, List.set_cons_zero, List.set_cons_succ])
  refine late_free 19 (v := .float .f64 HQ) rfl (by kernel_rfl) (by kernel_rfl) (by kernel_rfl) (by kernel_rfl) (by kernel_rfl) (by kernel_rfl) (fun _ _ _ h => h) (Or.inl ⟨by rfl, ?_⟩) hHeld ?_
  · (intro u _; go_simp)
  (try simp only [Act.put, List.setIfInBounds_toArray, List.set_cons_zero, List.set_cons_succ])
  refine late_free 20 (v := .bool false) rfl (by kernel_rfl) (by kernel_rfl) (by kernel_rfl) (by kernel_rfl) (by kernel_rfl) (by kernel_rfl) (fun _ _ _ h => h) (Or.inl ⟨by rfl, ?_⟩) hHeld ?_
  · (intro u _; go_simp)
  (try simp only [Act.put, List.setIfInBounds_toArray, List.set_cons_zero, List.set_cons_succ])
  refine late_free 21 (v := .bool false) rfl (by kernel_rfl) (by kernel_rfl) (by kernel_rfl) (by kernel_rfl) (by kernel_rfl) (by kernel_rfl) (fun _ _ _ h => h) (Or.inl ⟨by rfl, ?_⟩) hHeld ?_
  · (intro u _; go_simp)
  (try simp only [Act.put, List.setIfInBounds_toArray, List.set_cons_zero, List.set_cons_succ])
  refine late_done (by kernel_rfl) ?_ _
  clear hHeld
  have b := B11
  clear b8 b9 b10 b11 B8 B9 B10 B11
  replace kP := kP.below b
  replace kQ := kQ.below b
  replace mP := mP.below b
  replace qa := qa.below b
  replace qb := qb.below b
  replace hb := bstep hb b
  replace hsz := Nat.lt_of_lt_of_le hsz b.size
  clear b
  obtain ⟨cqa0, cqa1, cqa2⟩ := qa.cells
  obtain ⟨cqb0, cqb1, cqb2⟩ := qb.cells
  go_wp2_with fail
  clear cqa0 cqa1 cqa2 cqb0 cqb1 cqb2
  refine (c_rneg mP (by decide)).mono ?_
  rintro e w12 ⟨v, rfl, hv, b⟩
  obtain ⟨nc, co, cl, cc, cO, cL, cC, rfl, rc⟩ := hv.seeS
  clear hv
  replace kP := kP.below b
  replace kQ := kQ.below b
  replace mP := mP.below b
  replace qa := qa.below b
  replace qb := qb.below b
  replace hb := bstep hb b
  replace hsz := Nat.lt_of_lt_of_le hsz b.size
  clear b
  obtain ⟨cqa0, cqa1, cqa2⟩ := qa.cells
  obtain ⟨cqb0, cqb1, cqb2⟩ := qb.cells
  go_wp2_with fail
  clear cqa0 cqa1 cqa2 cqb0 cqb1 cqb2
  have hq := qn_around (rc.qn HSZ.out (by decide))
  rw [HLN.out, HHN.out] at hq
  refine (hq).mono ?_
  rintro e w13 ⟨rfl, b⟩
  replace kP := kP.below b
  replace kQ := kQ.below b
  replace mP := mP.below b
  replace rc := rc.below b
  replace qa := qa.below b
  replace qb := qb.below b
  replace hb := bstep hb b
  replace hsz := Nat.lt_of_lt_of_le hsz b.size
  clear b
  clear hq
  obtain ⟨cqa0, cqa1, cqa2⟩ := qa.cells
  obtain ⟨cqb0, cqb1, cqb2⟩ := qb.cells
  go_wp2_with fail
  clear cqa0 cqa1 cqa2 cqb0 cqb1 cqb2
  clear rc
  have u64 := run_neg64
  have u32 := run_neg32
  refine region_late [(2, fun w' => w'.cell? ⟨g, 0, none⟩ = some (.bool nb) ∧ w'.cell? ⟨g, 1, none⟩ = some (.slice bo bl bc) ∧ w'.cell? ⟨g, 2, none⟩ = some (.slice bO bL bC)), (5, fun w' => w'.cell? ⟨g, 0, none⟩ = some (.bool nb) ∧ w'.cell? ⟨g, 1, none⟩ = some (.slice bo bl bc) ∧ w'.cell? ⟨g, 2, none⟩ = some (.slice bO bL bC)), (11, fun w' => w'.cell? ⟨g, 0, none⟩ = some (.bool nb) ∧ w'.cell? ⟨g, 1, none⟩ = some (.slice bo bl bc) ∧ w'.cell? ⟨g, 2, none⟩ = some (.slice bO bL bC)), (14, fun w' => w'.cell? ⟨g, 0, none⟩ = some (.bool nb) ∧ w'.cell? ⟨g, 1, none⟩ = some (.slice bo bl bc) ∧ w'.cell? ⟨g, 2, none⟩ = some (.slice bO bL bC))] (by kernel_rfl) ?_
  have hHeld : AllL w13.drew [(2, fun w' => w'.cell? ⟨g, 0, none⟩ = some (.bool nb) ∧ w'.cell? ⟨g, 1, none⟩ = some (.slice bo bl bc) ∧ w'.cell? ⟨g, 2, none⟩ = some (.slice bO bL bC)), (5, fun w' => w'.cell? ⟨g, 0, none⟩ = some (.bool nb) ∧ w'.cell? ⟨g, 1, none⟩ = some (.slice bo bl bc) ∧ w'.cell? ⟨g, 2, none⟩ = some (.slice bO bL bC)), (11, fun w' => w'.cell? ⟨g, 0, none⟩ = some (.bool nb) ∧ w'.cell? ⟨g, 1, none⟩ = some (.slice bo bl bc) ∧ w'.cell? ⟨g, 2, none⟩ = some (.slice bO bL bC)), (14, fun w' => w'.cell? ⟨g, 0, none⟩ = some (.bool nb) ∧ w'.cell? ⟨g, 1, none⟩ = some (.slice bo bl bc) ∧ w'.cell? ⟨g, 2, none⟩ = some (.slice bO bL bC))] := ⟨(show QCell w13.drew (g) nb (.slice bo bl bc) (.slice bO bL bC) from qa).cells, (show QCell w13.drew (g) nb (.slice bo bl bc) (.slice bO bL bC) from qa).cells, (show QCell w13.drew (g) nb (.slice bo bl bc) (.slice bO bL bC) from qa).cells, (show QCell w13.drew (g) nb (.slice bo bl bc) (.slice bO bL bC) from qa).cells, trivial⟩
  refine late_free 0 (v := .bool true) rfl (by kernel_rfl) (by kernel_rfl) (by kernel_rfl) (by kernel_rfl) (by kernel_rfl) (by kernel_rfl) (fun _ _ _ h => h) (Or.inl ⟨by rfl, ?_⟩) hHeld ?_
  · (intro u _; go_simp)
  (try simp only [Act.put, List.setIfInBounds_toArray, List.set_cons_zero, List.set_cons_succ])
  refine late_free 1 (v := .bool true) rfl (by kernel_rfl) (by kernel_rfl) (by kernel_rfl) (by kernel_rfl) (by kernel_rfl) (by kernel_rfl) (fun _ _ _ h => h) (Or.inl ⟨by rfl, ?_⟩) hHeld ?_
  · (intro u _; go_simp)
  (try simp only [Act.put, List.setIfInBounds_toArray, List.set_cons_zero, List.set_cons_succ])
  refine late_take 2 (v := .agg #[.bool nb, .slice bo bl bc, .slice bO bL bC]) rfl (by kernel_rfl) (List.Mem.head _) (by kernel_rfl) (by kernel_rfl) (by kernel_rfl) (by kernel_rfl) (fun _ _ _ h => h) (Or.inl ⟨by rfl, ?_⟩) hHeld ?_
  · (intro u hu; (try dsimp only at hu); go_split_ands; go_simp)
  (try simp only [Act.put, List.setIfInBounds_toArray, List.set_cons_zero, List.set_cons_succ])
  refine late_take 5 (v := .agg #[.bool nb, .slice bo bl bc, .slice bO bL bC]) rfl (by kernel_rfl) (List.Mem.tail _ (List.Mem.head _)) (by kernel_rfl) (by kernel_rfl) (by kernel_rfl) (by kernel_rfl) (fun _ _ _ h => h) (Or.inl ⟨by rfl, ?_⟩) hHeld ?_
  · (intro u hu; (try dsimp only at hu); go_split_ands; go_simp)
  (try simp only [Act.put, List.setIfInBounds_toArray, List.set_cons_zero, List.set_cons_succ])
  refine late_step 3 (by kernel_rfl) rfl (fun K hK => ?_)
  go_simp
  refine (c_rneg (mP.below (below_drew' _)) (by decide)).mono ?_
  rintro e w14 ⟨v, rfl, hv, b14⟩
  obtain ⟨nm67, m67o, m67l, m67c, m67O, m67L, m67C, rfl, r67⟩ := hv.seeS
  clear hv
  have B14 : Below w13.heap.size w13 w14 := bstep (below_drew' _) b14
  clear hHeld
  have hHeld : AllL w14 [(2, fun w' => w'.cell? ⟨g, 0, none⟩ = some (.bool nb) ∧ w'.cell? ⟨g, 1, none⟩ = some (.slice bo bl bc) ∧ w'.cell? ⟨g, 2, none⟩ = some (.slice bO bL bC)), (5, fun w' => w'.cell? ⟨g, 0, none⟩ = some (.bool nb) ∧ w'.cell? ⟨g, 1, none⟩ = some (.slice bo bl bc) ∧ w'.cell? ⟨g, 2, none⟩ = some (.slice bO bL bC)), (11, fun w' => w'.cell? ⟨g, 0, none⟩ = some (.bool nb) ∧ w'.cell? ⟨g, 1, none⟩ = some (.slice bo bl bc) ∧ w'.cell? ⟨g, 2, none⟩ = some (.slice bO bL bC)), (14, fun w' => w'.cell? ⟨g, 0, none⟩ = some (.bool nb) ∧ w'.cell? ⟨g, 1, none⟩ = some (.slice bo bl bc) ∧ w'.cell? ⟨g, 2, none⟩ = some (.slice bO bL bC))] := ⟨(qa.below B14).cells, (qa.below B14).cells, (qa.below B14).cells, (qa.below B14).cells, trivial⟩
  go_wp2_with fail
  refine hK.out _ _ (AllL.kept hHeld) ?_
  clear hK K
  (try simp only [Act.put, List.setIfInBounds_toArray, List.set_cons_zero, List.set_cons_succ])
  refine late_step 4 (by kernel_rfl) rfl (fun K hK => ?_)
  go_simp
  have hq := qn_near (r67.qn HSZ.out (by decide))
  rw [HXN.out] at hq
  refine hq.mono ?_
  rintro e w15 ⟨rfl, b15⟩
  clear hq
  have B15 : Below w13.heap.size w13 w15 := bstep B14 b15
  clear hHeld
  have hHeld : AllL w15 [(2, fun w' => w'.cell? ⟨g, 0, none⟩ = some (.bool nb) ∧ w'.cell? ⟨g, 1, none⟩ = some (.slice bo bl bc) ∧ w'.cell? ⟨g, 2, none⟩ = some (.slice bO bL bC)), (5, fun w' => w'.cell? ⟨g, 0, none⟩ = some (.bool nb) ∧ w'.cell? ⟨g, 1, none⟩ = some (.slice bo bl bc) ∧ w'.cell? ⟨g, 2, none⟩ = some (.slice bO bL bC)), (11, fun w' => w'.cell? ⟨g, 0, none⟩ = some (.bool nb) ∧ w'.cell? ⟨g, 1, none⟩ = some (.slice bo bl bc) ∧ w'.cell? ⟨g, 2, none⟩ = some (.slice bO bL bC)), (14, fun w' => w'.cell? ⟨g, 0, none⟩ = some (.bool nb) ∧ w'.cell? ⟨g, 1, none⟩ = some (.slice bo bl bc) ∧ w'.cell? ⟨g, 2, none⟩ = some (.slice bO bL bC))] := ⟨(qa.below B15).cells, (qa.below B15).cells, (qa.below B15).cells, (qa.below B15).cells, trivial⟩
  go_wp2_with fail
  refine hK.out _ _ (AllL.kept hHeld) ?_
  clear hK K
  (try simp only [Act.put, List.setIfInBounds_toArray, List.set_cons_zero, List.set_cons_succ])
  refine late_step 6 (by kernel_rfl) rfl (fun K hK => ?_)
  go_simp
  have hq := qn_near (((kP.below (below_drew' _)).below b14).below b15)
  rw [HXP.out] at hq
  refine hq.mono ?_
  rintro e w16 ⟨rfl, b16⟩
  clear hq
  have B16 : Below w13.heap.size w13 w16 := bstep B15 b16
  clear hHeld
  have hHeld : AllL w16 [(2, fun w' => w'.cell? ⟨g, 0, none⟩ = some (.bool nb) ∧ w'.cell? ⟨g, 1, none⟩ = some (.slice bo bl bc) ∧ w'.cell? ⟨g, 2, none⟩ = some (.slice bO bL bC)), (5, fun w' => w'.cell? ⟨g, 0, none⟩ = some (.bool nb) ∧ w'.cell? ⟨g, 1, none⟩ = some (.slice bo bl bc) ∧ w'.cell? ⟨g, 2, none⟩ = some (.slice bO bL bC)), (11, fun w' => w'.cell? ⟨g, 0, none⟩ = some (.bool nb) ∧ w'.cell? ⟨g, 1, none⟩ = some (.slice bo bl bc) ∧ w'.cell? ⟨g, 2, none⟩ = some (.slice bO bL bC)), (14, fun w' => w'.cell? ⟨g, 0, none⟩ = some (.bool nb) ∧ w'.cell? ⟨g, 1, none⟩ = some (.slice bo bl bc) ∧ w'.cell? ⟨g, 2, none⟩ = some (.slice bO bL bC))] := ⟨(qa.below B16).cells, (qa.below B16).cells, (qa.below B16).cells, (qa.below B16).cells, trivial⟩
  go_wp2_with fail
  refine hK.out _ _ (AllL.kept hHeld) ?_
  clear hK K
  (try simp only [Act.put, List.setIfInBounds_toArray, List.set_cons_zero, List.set_cons_succ])
  refine late_free 7 (v := .float .f64 (ngf XP)) rfl (by kernel_rfl) (by kernel_rfl) (by kernel_rfl) (by kernel_rfl) (by kernel_rfl) (by kernel_rfl) (fun _ _ _ h => h) (Or.inl ⟨by rfl, ?_⟩) hHeld ?_
  · (intro u _; go_simp)
  (try simp only [Act.put, List.setIfInBounds_toArray, List.set_cons_zero, List.set_cons_succ])
  refine late_free 8 (v := .bool true) rfl (by kernel_rfl) (by kernel_rfl) (by kernel_rfl) (by kernel_rfl) (by kernel_rfl) (by kernel_rfl) (fun _ _ _ h => h) (Or.inl ⟨by rfl, ?_⟩) hHeld ?_
  · (intro u _; go_simp)
  (try simp only [Act.put, List.setIfInBounds_toArray, List.set_cons_zero, List.set_cons_succ])
  refine late_free 9 (v := .bool true) rfl (by kernel_rfl) (by kernel_rfl) (by kernel_rfl) (by kernel_rfl) (by kernel_rfl) (by kernel_rfl) (fun _ _ _ h => h) (Or.inl ⟨by rfl, ?_⟩) hHeld ?_
  · (intro u _; go_simp)
  (try simp only [Act.put, List.setIfInBounds_toArray, List.set_cons_zero, List.set_cons_succ])
  refine late_free 10 (v := .bool true) rfl (by kernel_rfl) (by kernel_rfl) (by kernel_rfl) (by kernel_rfl) (by kernel_rfl) (by kernel_rfl) (fun _ _ _ h => h) (Or.inl ⟨by rfl, ?_⟩) hHeld ?_
  · (intro u _; go_simp)
  (try simp only [Act.put, List.setIfInBounds_toArray, List.set_cons_zero, List.set_cons_succ])
  refine late_take 11 (v := .agg #[.bool nb, .slice bo bl bc, .slice bO bL bC]) rfl (by kernel_rfl) (List.Mem.tail _ (List.Mem.tail _ (List.Mem.head _))) (by kernel_rfl) (by kernel_rfl) (by kernel_rfl) (by kernel_rfl) (fun _ _ _ h => h) (Or.inl ⟨by rfl, ?_⟩) hHeld ?_
  · (intro u hu; (try dsimp only at hu); go_split_ands; go_simp)
  (try simp only [Act.put, List.setIfInBounds_toArray, List.set_cons_zero, List.set_cons_succ])
  refine late_take 14 (v := .agg #[.bool nb, .slice bo bl bc, .slice bO bL bC]) rfl (by kernel_rfl) (List.Mem.tail _ (List.Mem.tail _ (List.Mem.tail _ (List.Mem.head _)))) (by kernel_rfl) (by kernel_rfl) (by kernel_rfl) (by kernel_rfl) (fun _ _ _ h => h) (Or.inl ⟨by rfl, ?_⟩) hHeld ?_
  · (intro u hu; (try dsimp only at hu); go_split_ands; go_simp)
  (try simp only [Act.put, List.setIfInBounds_toArray, List.set_cons_zero, List.set_cons_succ])
  refine late_step 12 (by kernel_rfl) rfl (fun K hK => ?_)
  go_simp
  refine (c_rneg ((((mP.below (below_drew' _)).below b14).below b15).below b16) (by decide)).mono ?_
  rintro e w17 ⟨v, rfl, hv, b17⟩
  obtain ⟨nm76, m76o, m76l, m76c, m76O, m76L, m76C, rfl, r76⟩ := hv.seeS
  clear hv
  have B17 : Below w13.heap.size w13 w17 := bstep B16 b17
  clear hHeld
  have hHeld : AllL w17 [(2, fun w' => w'.cell? ⟨g, 0, none⟩ = some (.bool nb) ∧ w'.cell? ⟨g, 1, none⟩ = some (.slice bo bl bc) ∧ w'.cell? ⟨g, 2, none⟩ = some (.slice bO bL bC)), (5, fun w' => w'.cell? ⟨g, 0, none⟩ = some (.bool nb) ∧ w'.cell? ⟨g, 1, none⟩ = some (.slice bo bl bc) ∧ w'.cell? ⟨g, 2, none⟩ = some (.slice bO bL bC)), (11, fun w' => w'.cell? ⟨g, 0, none⟩ = some (.bool nb) ∧ w'.cell? ⟨g, 1, none⟩ = some (.slice bo bl bc) ∧ w'.cell? ⟨g, 2, none⟩ = some (.slice bO bL bC)), (14, fun w' => w'.cell? ⟨g, 0, none⟩ = some (.bool nb) ∧ w'.cell? ⟨g, 1, none⟩ = some (.slice bo bl bc) ∧ w'.cell? ⟨g, 2, none⟩ = some (.slice bO bL bC))] := ⟨(qa.below B17).cells, (qa.below B17).cells, (qa.below B17).cells, (qa.below B17).cells, trivial⟩
  go_wp2_with fail
  refine hK.out _ _ (AllL.kept hHeld) ?_
  clear hK K
  (try simp only [Act.put, List.setIfInBounds_toArray, List.set_cons_zero, List.set_cons_succ])
  refine late_step 13 (by kernel_rfl) rfl (fun K hK => ?_)
  go_simp
  have hq := qn_single (r76.qn HSZ.out (by decide))
  rw [HYN.out] at hq
  refine hq.mono ?_
  rintro e w18 ⟨rfl, b18⟩
  clear hq
  have B18 : Below w13.heap.size w13 w18 := bstep B17 b18
  clear hHeld
  have hHeld : AllL w18 [(2, fun w' => w'.cell? ⟨g, 0, none⟩ = some (.bool nb) ∧ w'.cell? ⟨g, 1, none⟩ = some (.slice bo bl bc) ∧ w'.cell? ⟨g, 2, none⟩ = some (.slice bO bL bC)), (5, fun w' => w'.cell? ⟨g, 0, none⟩ = some (.bool nb) ∧ w'.cell? ⟨g, 1, none⟩ = some (.slice bo bl bc) ∧ w'.cell? ⟨g, 2, none⟩ = some (.slice bO bL bC)), (11, fun w' => w'.cell? ⟨g, 0, none⟩ = some (.bool nb) ∧ w'.cell? ⟨g, 1, none⟩ = some (.slice bo bl bc) ∧ w'.cell? ⟨g, 2, none⟩ = some (.slice bO bL bC)), (14, fun w' => w'.cell? ⟨g, 0, none⟩ = some (.bool nb) ∧ w'.cell? ⟨g, 1, none⟩ = some (.slice bo bl bc) ∧ w'.cell? ⟨g, 2, none⟩ = some (.slice bO bL bC))] := ⟨(qa.below B18).cells, (qa.below B18).cells, (qa.below B18).cells, (qa.below B18).cells, trivial⟩
  go_wp2_with fail
  refine hK.out _ _ (AllL.kept hHeld) ?_
  clear hK K
  (try simp only [Act.put, List.setIfInBounds_toArray, List.set_cons_zero, List.set_cons_succ])
  refine late_step 15 (by kernel_rfl) rfl (fun K hK => ?_)
  go_simp
  have hq := qn_single ((((((kP.below (below_drew' _)).below b14).below b15).below b16).below b17).below b18)
  rw [HYP.out] at hq
  refine hq.mono ?_
  rintro e w19 ⟨rfl, b19⟩
  clear hq
  have B19 : Below w13.heap.size w13 w19 := bstep B18 b19
  clear hHeld
  have hHeld : AllL w19 [(2, fun w' => w'.cell? ⟨g, 0, none⟩ = some (.bool nb) ∧ w'.cell? ⟨g, 1, none⟩ = some (.slice bo bl bc) ∧ w'.cell? ⟨g, 2, none⟩ = some (.slice bO bL bC)), (5, fun w' => w'.cell? ⟨g, 0, none⟩ = some (.bool nb) ∧ w'.cell? ⟨g, 1, none⟩ = some (.slice bo bl bc) ∧ w'.cell? ⟨g, 2, none⟩ = some (.slice bO bL bC)), (11, fun w' => w'.cell? ⟨g, 0, none⟩ = some (.bool nb) ∧ w'.cell? ⟨g, 1, none⟩ = some (.slice bo bl bc) ∧ w'.cell? ⟨g, 2, none⟩ = some (.slice bO bL bC)), (14, fun w' => w'.cell? ⟨g, 0, none⟩ = some (.bool nb) ∧ w'.cell? ⟨g, 1, none⟩ = some (.slice bo bl bc) ∧ w'.cell? ⟨g, 2, none⟩ = some (.slice bO bL bC))] := ⟨(qa.below B19).cells, (qa.below B19).cells, (qa.below B19).cells, (qa.below B19).cells, trivial⟩
  go_wp2_with fail
  refine hK.out _ _ (AllL.kept hHeld) ?_
  clear hK K
  (try simp only [Act.put, List.setIfInBounds_toArray, List.set_cons_zero, List.set_cons_succ])
  refine late_free 16 (v := .float .f32 (ngs YP)) rfl (by kernel_rfl) (by kernel_rfl) (by kernel_rfl) (by kernel_rfl) (by kernel_rfl) (by kernel_rfl) (fun _ _ _ h => h) (Or.inl ⟨by rfl, ?_⟩) hHeld ?_
  · (intro u _; go_simp)
  (try simp only [Act.put, List.setIfInBounds_toArray, List.set_cons_zero, List.set_cons_succ])
  refine late_free 17 (v := .bool true) rfl (by kernel_rfl) (by kernel_rfl) (by kernel_rfl) (by kernel_rfl) (by kernel_rfl) (by kernel_rfl) (fun _ _ _ h => h) (Or.inl ⟨by rfl, ?_⟩) hHeld ?_
  · (intro u _; go_simp)
  (try simp only [Act.put, List.setIfInBounds_toArray, List.set_cons_zero, List.set_cons_succ])
  refine late_free 18 (v := .bool true) rfl (by kernel_rfl) (by kernel_rfl) (by kernel_rfl) (by kernel_rfl) (by kernel_rfl) (by kernel_rfl) (fun _ _ _ h => h) (Or.inl ⟨by rfl, ?_⟩) hHeld ?_
  · (intro u _; go_simp)
  (try simp only [Act.put, List.setIfInBounds_toArray, List.set_cons_zero, List.set_cons_succ])
  refine late_free 19 (v := .bool true) rfl (by kernel_rfl) (by kernel_rfl) (by kernel_rfl) (by kernel_rfl) (by kernel_rfl) (by kernel_rfl) (fun _ _ _ h => h) (Or.inl ⟨by rfl, ?_⟩) hHeld ?_
  · (intro u _; go_simp)
  (try simp only [Act.put, List.setIfInBounds_toArray, List.set_cons_zero, List.set_cons_succ])
  refine late_free 20 (v := .float .f64 LN) rfl (by kernel_rfl) (by kernel_rfl) (by kernel_rfl) (by kernel_rfl) (by kernel_rfl) (by kernel_rfl) (fun _ _ _ h => h) (Or.inl ⟨by rfl, ?_⟩) hHeld ?_
  · (intro u _; go_simp)
  (try simp only [Act.put, List.setIfInBounds_toArray, List.set_cons_zero, List.set_cons_succ])
  refine late_free 21 (v := .float .f64 HP) rfl (by kernel_rfl) (by kernel_rfl) (by kernel_rfl) (by kernel_rfl) (by kernel_rfl) (by kernel_rfl) (fun _ _ _ h => h) (Or.inl ⟨by rfl, ?_⟩) hHeld ?_
  · (intro u _; go_simp)
  (try simp only [Act.put, List.setIfInBounds_toArray, List.set_cons_zero, List.set_cons_succ])
  refine late_free 22 (v := .float .f64 (ngf HP)) rfl (by kernel_rfl) (by kernel_rfl) (by kernel_rfl) (by kernel_rfl) (by kernel_rfl) (by kernel_rfl) (fun _ _ _ h => h) (Or.inl ⟨by rfl, ?_⟩) hHeld ?_
  · (intro u _; go_simp)
  (try simp only [Act.put, List.setIfInBounds_toArray, List.set_cons_zero, List.set_cons_succ])
  refine late_free 23 (v := .bool true) rfl (by kernel_rfl) (by kernel_rfl) (by kernel_rfl) (by kernel_rfl) (by kernel_rfl) (by kernel_rfl) (fun _ _ _ h => h) (Or.inl ⟨by rfl, ?_⟩) hHeld ?_
  · (intro u _; go_simp)
  (try simp only [Act.put, List.setIfInBounds_toArray, List.set_cons_zero, List.set_cons_succ])
  refine late_free 24 (v := .bool true) rfl (by kernel_rfl) (by kernel_rfl) (by kernel_rfl) (by kernel_rfl) (by kernel_rfl) (by kernel_rfl) (fun _ _ _ h => h) (Or.inl ⟨by rfl, ?_⟩) hHeld ?_
  · (intro u _; go_simp)
  (try simp only [Act.put, List.setIfInBounds_toArray, List.set_cons_zero, List.set_cons_succ])
  refine late_free 25 (v := .bool true) rfl (by kernel_rfl) (by kernel_rfl) (by kernel_rfl) (by kernel_rfl) (by kernel_rfl) (by kernel_rfl) (fun _ _ _ h => h) (Or.inl ⟨by rfl, ?_⟩) hHeld ?_
  · (intro u _; go_simp)
  (try simp only [Act.put, List.setIfInBounds_toArray, List.set_cons_zero, List.set_cons_succ])
  refine late_free 26 (v := .float .f64 HN) rfl (by kernel_rfl) (by kernel_rfl) (by kernel_rfl) (by kernel_rfl) (by kernel_rfl) (by kernel_rfl) (fun _ _ _ h => h) (Or.inl ⟨by rfl, ?_⟩) hHeld ?_
  · (intro u _; go_simp)
  (try simp only [Act.put, List.setIfInBounds_toArray, List.set_cons_zero, List.set_cons_succ])
  refine late_free 27 (v := .float .f64 LP) rfl (by kernel_rfl) (by kernel_rfl) (by kernel_rfl) (by kernel_rfl) (by kernel_rfl) (by kernel_rfl) (fun _ _ _ h => h) (Or.inl ⟨by rfl, ?_⟩) hHeld ?_
  · (intro u _; go_simp)
  (try simp only [Act.put, List.setIfInBounds_toArray, List.set_cons_zero, List.set_cons_succ])
  refine late_free 28 (v := .float .f64 (ngf LP)) rfl (by kernel_rfl) (by kernel_rfl) (by kernel_rfl) (by kernel_rfl) (by kernel_rfl) (by kernel_rfl) (fun _ _ _ h => h) (Or.inl ⟨by rfl, ?_⟩) hHeld ?_
  · (intro u _; go_simp)
  (try simp only [Act.put, List.setIfInBounds_toArray, List.set_cons_zero, List.set_cons_succ])
  refine late_free 29 (v := .bool true) rfl (by kernel_rfl) (by kernel_rfl) (by kernel_rfl) (by kernel_rfl) (by kernel_rfl) (by kernel_rfl) (fun _ _ _ h => h) (Or.inl ⟨by rfl, ?_⟩) hHeld ?_
  · (intro u _; go_simp)
  (try simp only [Act.put, List.setIfInBounds_toArray, List.set_cons_zero, List.set_cons_succ])
  refine late_free 30 (v := .bool true) rfl (by kernel_rfl) (by kernel_rfl) (by kernel_rfl) (by kernel_rfl) (by kernel_rfl) (by kernel_rfl) (fun _ _ _ h => h) (Or.inl ⟨by rfl, ?_⟩) hHeld ?_
  · (intro u _; go_simp)
  (try simp only [Act.put, List.setIfInBounds_toArray, List.set_cons_zero, List.set_cons_succ])
  refine late_step 31 (by kernel_rfl) rfl (fun K hK => ?_)
  go_simp
  refine hK.out _ _ ⟨Or.inl ⟨3, by kernel_rfl, by kernel_rfl⟩, Or.inl ⟨6, by kernel_rfl, by kernel_rfl⟩, Or.inl ⟨12, by kernel_rfl, by kernel_rfl⟩, Or.inl ⟨15, by kernel_rfl, by kernel_rfl⟩, trivial⟩ ?_
  clear hK K
  (try simp only [Act.put, List.setIfInBounds_toArray, List.set_cons_zero, List.set_cons_succ])
  refine late_done (by kernel_rfl) ?_ _
  clear hHeld
  clear r67
  clear r76
  have b := B19
  clear b14 b15 b16 b17 b18 b19 B14 B15 B16 B17 B18 B19
  replace kP := kP.below b
  replace kQ := kQ.below b
  replace mP := mP.below b
  replace qa := qa.below b
  replace qb := qb.below b
  replace hb := bstep hb b
  replace hsz := Nat.lt_of_lt_of_le hsz b.size
  clear b
  have HE : Hid (Below w.heap.size w w19) := hb
  clear hb hsz u64 u32 qa qb kP kQ mP
  go_wp2
  go_ret
  exact ⟨rfl, HE.out⟩
theorem nearRises_top (na : Bool) (ao aO : Option Addr) (al ac aL aC : Nat) (xa ya : List Nat) (nb : Bool) (bo bO : Option Addr) (bl bc bL bC : Nat) (xb yb : List Nat) (w : World) (ua : Num w (.slice ao al ac) xa) (da : Num w (.slice aO aL aC) ya) (ub : Num w (.slice bo bl bc) xb) (db : Num w (.slice bO bL bC) yb) :
    Calls Tryd.prog 4 #[.agg #[.bool na, .slice ao al ac, .slice aO aL aC], .agg #[.bool nb, .slice bo bl bc, .slice bO bL bC]] w fun e w' => e = .returned (.bool true) ∧ Below w.heap.size w w' := by
  obtain ⟨o1, c1, e1, _⟩ := ua.ao
  obtain ⟨o2, c2, e2, _⟩ := da.ao
  obtain ⟨o3, c3, e3, _⟩ := ub.ao
  obtain ⟨o4, c4, e4, _⟩ := db.ao
  have l1 : al = xa.length := by injection e1
  have l2 : aL = ya.length := by injection e2
  have l3 : bl = xb.length := by injection e3
  have l4 : bL = yb.length := by injection e4
  clear e1 e2 e3 e4
  by_cases hA : (decide (200 < al) || decide (200 < aL)) = true
  · exact nrise_biga na ao aO al ac aL aC nb bo bO bl bc bL bC w hA
  · have hA' : (decide (200 < al) || decide (200 < aL)) = false := by simpa using hA
    by_cases hB : (decide (200 < bl) || decide (200 < bL)) = true
    · exact nrise_bigb na ao aO al ac aL aC nb bo bO bl bc bL bC w hA' hB
    · have hB' : (decide (200 < bl) || decide (200 < bL)) = false := by simpa using hB
      simp only [Bool.or_eq_true, decide_eq_true_eq, not_or, Nat.not_lt] at hA hB
      by_cases hc : cmpQ (rq (zv na (val xa)) (val ya)) (rq (zv nb (val xb)) (val yb)) ≤ 0
      · exact nrise_main0 na ao aO al ac aL aC xa ya nb bo bO bl bc bL bC xb yb w hA' hB' ua da ub db (by omega) (by omega) (by omega) (by omega) hc
      · exact nrise_main1 na ao aO al ac aL aC xa ya nb bo bO bl bc bL bC xb yb w hA' hB' ua da ub db (by omega) (by omega) (by omega) (by omega) (by omega)
end Go.Proofs.YtaekaikkldnikaaDoor
