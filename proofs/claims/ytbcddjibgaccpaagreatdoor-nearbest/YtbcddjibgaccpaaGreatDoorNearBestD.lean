/-
  Proved here: NearBest where the nearest float is infinite.
-/
import Derived.Test.YtbcddjibgaccpaaGreatDoorNearBestA
import Derived.WalkLawsBesides
namespace Go.Proofs.YtbcddjibgaccpaaGreatDoor
open Go.RowKit
attribute [local go_sem] run_f64bits3 run_f32bits3

set_option maxRecDepth 100000 in
set_option maxHeartbeats 6400000 in
theorem nbestAa (na : Bool) (ao aO : Option Addr) (al ac aL aC : Nat) (xa ya : List Nat) (o s : Nat) (w : World) (hA : (decide (200 < al) || decide (200 < aL)) = false) (ua : Num w (.slice ao al ac) xa) (da : Num w (.slice aO aL aC) ya) (la : xa.length ≤ 200) (la2 : ya.length ≤ 200) (ho : o < 18446744073709551616) (h1 : 9218868437227405312 ≤ nD (sdOf na (val xa)) (val xa) (undN (val ya)) % 2 ^ 63) (h3 : 2139095040 ≤ nS (sdOf na (val xa)) (val xa) (undN (val ya)) % 2 ^ 31) (h4 : (Ieee.single.read s).isNaN = false) :
    Calls Tryz.prog 3 #[.agg #[.bool na, .slice ao al ac, .slice aO aL aC], .float .f64 o, .float .f32 s] w fun e w' => e = .returned (.bool true) ∧ Below w.heap.size w w' := by
  have hbA := fun w => big05_any na ao aO al ac aL aC w
  rw [hA] at hbA
  clear hA
  have kA0 : Hid (QN w (.agg #[.bool na, .slice ao al ac, .slice aO aL aC]) (sdOf na (val xa)) (val xa) (undN (val ya))) := qn_of ua da la la2
  have mA0 : Hid (RNum w (.agg #[.bool na, .slice ao al ac, .slice aO aL aC]) (rq (zv na (val xa)) (val ya)) 200) := rnum_of ua da la la2 (by decide) (by decide)
  clear ua da la la2
  have hX := fv_nD (sdOf na (val xa)) (val xa) (undN (val ya))
  have hY := fv_nS (sdOf na (val xa)) (val xa) (undN (val ya))
  have e1 : (FloatKind.f64.format.order (nD (sdOf na (val xa)) (val xa) (undN (val ya))) (nD (sdOf na (val xa)) (val xa) (undN (val ya))) == some .eq) = true := are_eq hX hX rfl
  have e2 : (FloatKind.f32.format.order (nS (sdOf na (val xa)) (val xa) (undN (val ya))) (nS (sdOf na (val xa)) (val xa) (undN (val ya))) == some .eq) = true := are_eqs hY hY rfl
  have HX64 : Hid (nD (sdOf na (val xa)) (val xa) (undN (val ya)) < 18446744073709551616) := hX.2.1
  have HY64 : Hid (cnv (nS (sdOf na (val xa)) (val xa) (undN (val ya))) < 18446744073709551616) := cnv_lt _
  have HO64 : Hid (o < 18446744073709551616) := ho
  have HXF : Hid (_) := h1
  have hyn : (Ieee.single.read (nS (sdOf na (val xa)) (val xa) (undN (val ya)))).isNaN = false := by rw [snan_word, decide_eq_false (by have := hY.2.2; omega)]
  have hcv : ∀ w, (convert 29 28 (.float .f32 (nS (sdOf na (val xa)) (val xa) (undN (val ya))))).run Tryz.prog w = .ok (.float .f64 (cnv (nS (sdOf na (val xa)) (val xa) (undN (val ya))))) w := fun w => run_convert_float_float _ _ _ _ _ _ _ (by kernel_rfl) Tryz.underlying28 (cnv_bits hyn)
  have HYF : Hid (9218868437227405312 ≤ cnv (nS (sdOf na (val xa)) (val xa) (undN (val ya))) % 2 ^ 63) := Nat.le_of_eq (cnv_inf hyn (by have := hY.2.2; omega)).symm
  have hsn := h4
  have hcs : ∀ w, (convert 29 28 (.float .f32 s)).run Tryz.prog w = .ok (.float .f64 (cnv s)) w := fun w => run_convert_float_float _ _ _ _ _ _ _ (by kernel_rfl) Tryz.underlying28 (cnv_bits hsn)
  have HS64 : Hid (cnv s < 18446744073709551616) := cnv_lt _
  obtain ⟨X, hX0⟩ : ∃ z, z = nD (sdOf na (val xa)) (val xa) (undN (val ya)) := ⟨_, rfl⟩
  obtain ⟨Y, hY0⟩ : ∃ z, z = nS (sdOf na (val xa)) (val xa) (undN (val ya)) := ⟨_, rfl⟩
  (try rw [← hX0] at e1)
  (try rw [← hY0] at e1)
  (try rw [← hX0] at e2)
  (try rw [← hY0] at e2)
  (try rw [← hX0] at HX64)
  (try rw [← hY0] at HX64)
  (try rw [← hX0] at HY64)
  (try rw [← hY0] at HY64)
  (try rw [← hX0] at HXF)
  (try rw [← hY0] at HXF)
  (try rw [← hX0] at HYF)
  (try rw [← hY0] at HYF)
  (try rw [← hX0] at hcv)
  (try rw [← hY0] at hcv)
  have HX : Hid (nD (sdOf na (val xa)) (val xa) (undN (val ya)) = X) := hX0.symm
  have HY : Hid (nS (sdOf na (val xa)) (val xa) (undN (val ya)) = Y) := hY0.symm
  clear hX0 hY0 hX hY h1 h3 ho hyn h4 hsn
  obtain ⟨W1, hW1⟩ : ∃ W1, W1 = w.alloc (.cells #[.bool na, .slice ao al ac, .slice aO aL aC] 27) := ⟨_, rfl⟩
  have qa : QCell W1 (w.heap.size) na (.slice ao al ac) (.slice aO aL aC) := by rw [hW1]; exact (qcell_new _ (by simp))
  have hb : Below w.heap.size w W1 := by rw [hW1]; exact belowA w _
  have hsz : w.heap.size < W1.heap.size := by rw [hW1]; simp
  have HW1 : Hid (W1 = w.alloc (.cells #[.bool na, .slice ao al ac, .slice aO aL aC] 27)) := hW1
  clear hW1
  go_enter Tryz.func3, Tryz.ntmps3
  go_wp2_with fail
  rw [← HW1.out]
  clear HW1
  obtain ⟨g, hg⟩ : ∃ g, g = w.heap.size := ⟨_, rfl⟩
  rw [← hg] at qa hsz ⊢
  have HG : Hid (g = w.heap.size) := hg
  clear hg
  refine (alive5_yes _).mono ?_
  rintro e w2 ⟨rfl, b⟩
  replace qa := qa.below b
  replace hb := bstep hb b
  replace hsz := Nat.lt_of_lt_of_le hsz b.size
  clear b
  obtain ⟨cqa0, cqa1, cqa2⟩ := qa.cells
  go_wp2_with fail
  clear cqa0 cqa1 cqa2
  refine (hbA _).mono ?_
  rintro e w3 ⟨rfl, b⟩
  replace qa := qa.below b
  replace hb := bstep hb b
  replace hsz := Nat.lt_of_lt_of_le hsz b.size
  clear b
  obtain ⟨cqa0, cqa1, cqa2⟩ := qa.cells
  go_wp2_with fail
  clear cqa0 cqa1 cqa2
  have kA := QN.below kA0.out hb
  have mA := RNum.below mA0.out hb
  have hq := qn_near kA
  rw [HX.out] at hq
  refine (hq).mono ?_
  rintro e w4 ⟨rfl, b⟩
  replace kA := kA.below b
  replace mA := mA.below b
  replace qa := qa.below b
  replace hb := bstep hb b
  replace hsz := Nat.lt_of_lt_of_le hsz b.size
  clear b
  clear hq
  obtain ⟨cqa0, cqa1, cqa2⟩ := qa.cells
  go_wp2_with fail
  clear cqa0 cqa1 cqa2
  have hq := qn_single kA
  rw [HY.out] at hq
  refine (hq).mono ?_
  rintro e w5 ⟨rfl, b⟩
  replace kA := kA.below b
  replace mA := mA.below b
  replace qa := qa.below b
  replace hb := bstep hb b
  replace hsz := Nat.lt_of_lt_of_le hsz b.size
  clear b
  clear hq
  obtain ⟨cqa0, cqa1, cqa2⟩ := qa.cells
  go_wp2_with fail
  clear cqa0 cqa1 cqa2
  clear kA
  refine (off_no na ao aO al ac aL aC X _ _ mA HX64.out HXF.out).mono ?_
  rintro e w6 ⟨np, po, pl, pc, pO, pL, pC, rfl, b⟩
  replace mA := mA.below b
  replace qa := qa.below b
  replace hb := bstep hb b
  replace hsz := Nat.lt_of_lt_of_le hsz b.size
  clear b
  have hq0 : QCell (w6.alloc (.cells #[.bool false, .slice none 0 0, .slice none 0 0] 27)) w6.heap.size false (.slice none 0 0) (.slice none 0 0) := qcell_new _ rfl
  obtain ⟨W7, hW7⟩ : ∃ W, W = w6.alloc (.cells #[.bool np, .slice po pl pc, .slice pO pL pC] 27) := ⟨_, rfl⟩
  have qp : QCell W7 (w6.heap.size) np (.slice po pl pc) (.slice pO pL pC) := by rw [hW7]; exact qcell_new _ rfl
  have b : Below w6.heap.size w6 W7 := by rw [hW7]; exact belowA _ _
  obtain ⟨z0, z1, z2⟩ := hq0.cells
  have t0 := hq0.thaw 0
  have t1 := hq0.thaw 1
  have t2 := hq0.thaw 2
  clear hq0
  replace mA := mA.below b
  replace qa := qa.below b
  replace hb := bstep hb b
  replace hsz := Nat.lt_of_lt_of_le hsz b.size
  clear b
  have rqa0 : (w6.alloc (.cells #[.bool np, .slice po pl pc, .slice pO pL pC] 27)).cell? ⟨g, 0, none⟩ = some (.bool na) := by rw [← hW7]; exact qa.cells.1
  have rqa1 : (w6.alloc (.cells #[.bool np, .slice po pl pc, .slice pO pL pC] 27)).cell? ⟨g, 1, none⟩ = some (.slice ao al ac) := by rw [← hW7]; exact qa.cells.2.1
  have rqa2 : (w6.alloc (.cells #[.bool np, .slice po pl pc, .slice pO pL pC] 27)).cell? ⟨g, 2, none⟩ = some (.slice aO aL aC) := by rw [← hW7]; exact qa.cells.2.2
  have rqp0 : (w6.alloc (.cells #[.bool np, .slice po pl pc, .slice pO pL pC] 27)).cell? ⟨w6.heap.size, 0, none⟩ = some (.bool np) := by rw [← hW7]; exact qp.cells.1
  have rqp1 : (w6.alloc (.cells #[.bool np, .slice po pl pc, .slice pO pL pC] 27)).cell? ⟨w6.heap.size, 1, none⟩ = some (.slice po pl pc) := by rw [← hW7]; exact qp.cells.2.1
  have rqp2 : (w6.alloc (.cells #[.bool np, .slice po pl pc, .slice pO pL pC] 27)).cell? ⟨w6.heap.size, 2, none⟩ = some (.slice pO pL pC) := by rw [← hW7]; exact qp.cells.2.2
  obtain ⟨v7, hv7⟩ : ∃ v, v = w6.heap.size := ⟨_, rfl⟩
  rw [← hv7] at qp
  have HW7 : Hid (W7 = w6.alloc (.cells #[.bool np, .slice po pl pc, .slice pO pL pC] 27)) := hW7
  have Hv7 : Hid (v7 = w6.heap.size) := hv7
  clear hW7 hv7
  go_wp2_with fail
  rw [← HW7.out, ← Hv7.out]
  clear HW7 Hv7 z0 z1 z2 t0 t1 t2 rqa0 rqa1 rqa2 rqp0 rqp1 rqp2
  refine (off_some na ao aO al ac aL aC o _ _ mA HO64.out).mono ?_
  rintro e w8 ⟨nq, qo, ql, qc, qO, qL, qC, flq, rfl, b⟩
  replace mA := mA.below b
  replace qa := qa.below b
  replace qp := qp.below b
  replace hb := bstep hb b
  replace hsz := Nat.lt_of_lt_of_le hsz b.size
  clear b
  have hq0 : QCell (w8.alloc (.cells #[.bool false, .slice none 0 0, .slice none 0 0] 27)) w8.heap.size false (.slice none 0 0) (.slice none 0 0) := qcell_new _ rfl
  obtain ⟨W9, hW9⟩ : ∃ W, W = w8.alloc (.cells #[.bool nq, .slice qo ql qc, .slice qO qL qC] 27) := ⟨_, rfl⟩
  have qq : QCell W9 (w8.heap.size) nq (.slice qo ql qc) (.slice qO qL qC) := by rw [hW9]; exact qcell_new _ rfl
  have b : Below w8.heap.size w8 W9 := by rw [hW9]; exact belowA _ _
  obtain ⟨z0, z1, z2⟩ := hq0.cells
  have t0 := hq0.thaw 0
  have t1 := hq0.thaw 1
  have t2 := hq0.thaw 2
  clear hq0
  replace mA := mA.below b
  replace qa := qa.below b
  replace qp := qp.below b
  replace hb := bstep hb b
  replace hsz := Nat.lt_of_lt_of_le hsz b.size
  clear b
  have rqa0 : (w8.alloc (.cells #[.bool nq, .slice qo ql qc, .slice qO qL qC] 27)).cell? ⟨g, 0, none⟩ = some (.bool na) := by rw [← hW9]; exact qa.cells.1
  have rqa1 : (w8.alloc (.cells #[.bool nq, .slice qo ql qc, .slice qO qL qC] 27)).cell? ⟨g, 1, none⟩ = some (.slice ao al ac) := by rw [← hW9]; exact qa.cells.2.1
  have rqa2 : (w8.alloc (.cells #[.bool nq, .slice qo ql qc, .slice qO qL qC] 27)).cell? ⟨g, 2, none⟩ = some (.slice aO aL aC) := by rw [← hW9]; exact qa.cells.2.2
  have rqp0 : (w8.alloc (.cells #[.bool nq, .slice qo ql qc, .slice qO qL qC] 27)).cell? ⟨v7, 0, none⟩ = some (.bool np) := by rw [← hW9]; exact qp.cells.1
  have rqp1 : (w8.alloc (.cells #[.bool nq, .slice qo ql qc, .slice qO qL qC] 27)).cell? ⟨v7, 1, none⟩ = some (.slice po pl pc) := by rw [← hW9]; exact qp.cells.2.1
  have rqp2 : (w8.alloc (.cells #[.bool nq, .slice qo ql qc, .slice qO qL qC] 27)).cell? ⟨v7, 2, none⟩ = some (.slice pO pL pC) := by rw [← hW9]; exact qp.cells.2.2
  have rqq0 : (w8.alloc (.cells #[.bool nq, .slice qo ql qc, .slice qO qL qC] 27)).cell? ⟨w8.heap.size, 0, none⟩ = some (.bool nq) := by rw [← hW9]; exact qq.cells.1
  have rqq1 : (w8.alloc (.cells #[.bool nq, .slice qo ql qc, .slice qO qL qC] 27)).cell? ⟨w8.heap.size, 1, none⟩ = some (.slice qo ql qc) := by rw [← hW9]; exact qq.cells.2.1
  have rqq2 : (w8.alloc (.cells #[.bool nq, .slice qo ql qc, .slice qO qL qC] 27)).cell? ⟨w8.heap.size, 2, none⟩ = some (.slice qO qL qC) := by rw [← hW9]; exact qq.cells.2.2
  obtain ⟨v9, hv9⟩ : ∃ v, v = w8.heap.size := ⟨_, rfl⟩
  rw [← hv9] at qq
  have HW9 : Hid (W9 = w8.alloc (.cells #[.bool nq, .slice qo ql qc, .slice qO qL qC] 27)) := hW9
  have Hv9 : Hid (v9 = w8.heap.size) := hv9
  clear hW9 hv9
  go_wp2_with fail
  rw [← HW9.out, ← Hv9.out]
  clear HW9 Hv9 z0 z1 z2 t0 t1 t2 rqa0 rqa1 rqa2 rqp0 rqp1 rqp2 rqq0 rqq1 rqq2
  clear qp qq
  refine (off_no na ao aO al ac aL aC (cnv Y) _ _ mA HY64.out HYF.out).mono ?_
  rintro e w10 ⟨nh, ho, hl, hc, hO, hL, hC, rfl, b⟩
  replace mA := mA.below b
  replace qa := qa.below b
  replace hb := bstep hb b
  replace hsz := Nat.lt_of_lt_of_le hsz b.size
  clear b
  have hq0 : QCell (w10.alloc (.cells #[.bool false, .slice none 0 0, .slice none 0 0] 27)) w10.heap.size false (.slice none 0 0) (.slice none 0 0) := qcell_new _ rfl
  obtain ⟨W11, hW11⟩ : ∃ W, W = w10.alloc (.cells #[.bool nh, .slice ho hl hc, .slice hO hL hC] 27) := ⟨_, rfl⟩
  have qh : QCell W11 (w10.heap.size) nh (.slice ho hl hc) (.slice hO hL hC) := by rw [hW11]; exact qcell_new _ rfl
  have b : Below w10.heap.size w10 W11 := by rw [hW11]; exact belowA _ _
  obtain ⟨z0, z1, z2⟩ := hq0.cells
  have t0 := hq0.thaw 0
  have t1 := hq0.thaw 1
  have t2 := hq0.thaw 2
  clear hq0
  replace mA := mA.below b
  replace qa := qa.below b
  replace hb := bstep hb b
  replace hsz := Nat.lt_of_lt_of_le hsz b.size
  clear b
  have rqa0 : (w10.alloc (.cells #[.bool nh, .slice ho hl hc, .slice hO hL hC] 27)).cell? ⟨g, 0, none⟩ = some (.bool na) := by rw [← hW11]; exact qa.cells.1
  have rqa1 : (w10.alloc (.cells #[.bool nh, .slice ho hl hc, .slice hO hL hC] 27)).cell? ⟨g, 1, none⟩ = some (.slice ao al ac) := by rw [← hW11]; exact qa.cells.2.1
  have rqa2 : (w10.alloc (.cells #[.bool nh, .slice ho hl hc, .slice hO hL hC] 27)).cell? ⟨g, 2, none⟩ = some (.slice aO aL aC) := by rw [← hW11]; exact qa.cells.2.2
  have rqh0 : (w10.alloc (.cells #[.bool nh, .slice ho hl hc, .slice hO hL hC] 27)).cell? ⟨w10.heap.size, 0, none⟩ = some (.bool nh) := by rw [← hW11]; exact qh.cells.1
  have rqh1 : (w10.alloc (.cells #[.bool nh, .slice ho hl hc, .slice hO hL hC] 27)).cell? ⟨w10.heap.size, 1, none⟩ = some (.slice ho hl hc) := by rw [← hW11]; exact qh.cells.2.1
  have rqh2 : (w10.alloc (.cells #[.bool nh, .slice ho hl hc, .slice hO hL hC] 27)).cell? ⟨w10.heap.size, 2, none⟩ = some (.slice hO hL hC) := by rw [← hW11]; exact qh.cells.2.2
  obtain ⟨v11, hv11⟩ : ∃ v, v = w10.heap.size := ⟨_, rfl⟩
  rw [← hv11] at qh
  have HW11 : Hid (W11 = w10.alloc (.cells #[.bool nh, .slice ho hl hc, .slice hO hL hC] 27)) := hW11
  have Hv11 : Hid (v11 = w10.heap.size) := hv11
  clear hW11 hv11
  go_wp2_with fail
  rw [← HW11.out, ← Hv11.out]
  clear HW11 Hv11 z0 z1 z2 t0 t1 t2 rqa0 rqa1 rqa2 rqh0 rqh1 rqh2
  refine (off_some na ao aO al ac aL aC (cnv s) _ _ mA HS64.out).mono ?_
  rintro e w12 ⟨nj, jo, jl, jc, jO, jL, jC, flj, rfl, b⟩
  replace mA := mA.below b
  replace qa := qa.below b
  replace qh := qh.below b
  replace hb := bstep hb b
  replace hsz := Nat.lt_of_lt_of_le hsz b.size
  clear b
  have hq0 : QCell (w12.alloc (.cells #[.bool false, .slice none 0 0, .slice none 0 0] 27)) w12.heap.size false (.slice none 0 0) (.slice none 0 0) := qcell_new _ rfl
  obtain ⟨W13, hW13⟩ : ∃ W, W = w12.alloc (.cells #[.bool nj, .slice jo jl jc, .slice jO jL jC] 27) := ⟨_, rfl⟩
  have qj : QCell W13 (w12.heap.size) nj (.slice jo jl jc) (.slice jO jL jC) := by rw [hW13]; exact qcell_new _ rfl
  have b : Below w12.heap.size w12 W13 := by rw [hW13]; exact belowA _ _
  obtain ⟨z0, z1, z2⟩ := hq0.cells
  have t0 := hq0.thaw 0
  have t1 := hq0.thaw 1
  have t2 := hq0.thaw 2
  clear hq0
  replace mA := mA.below b
  replace qa := qa.below b
  replace qh := qh.below b
  replace hb := bstep hb b
  replace hsz := Nat.lt_of_lt_of_le hsz b.size
  clear b
  have rqa0 : (w12.alloc (.cells #[.bool nj, .slice jo jl jc, .slice jO jL jC] 27)).cell? ⟨g, 0, none⟩ = some (.bool na) := by rw [← hW13]; exact qa.cells.1
  have rqa1 : (w12.alloc (.cells #[.bool nj, .slice jo jl jc, .slice jO jL jC] 27)).cell? ⟨g, 1, none⟩ = some (.slice ao al ac) := by rw [← hW13]; exact qa.cells.2.1
  have rqa2 : (w12.alloc (.cells #[.bool nj, .slice jo jl jc, .slice jO jL jC] 27)).cell? ⟨g, 2, none⟩ = some (.slice aO aL aC) := by rw [← hW13]; exact qa.cells.2.2
  have rqh0 : (w12.alloc (.cells #[.bool nj, .slice jo jl jc, .slice jO jL jC] 27)).cell? ⟨v11, 0, none⟩ = some (.bool nh) := by rw [← hW13]; exact qh.cells.1
  have rqh1 : (w12.alloc (.cells #[.bool nj, .slice jo jl jc, .slice jO jL jC] 27)).cell? ⟨v11, 1, none⟩ = some (.slice ho hl hc) := by rw [← hW13]; exact qh.cells.2.1
  have rqh2 : (w12.alloc (.cells #[.bool nj, .slice jo jl jc, .slice jO jL jC] 27)).cell? ⟨v11, 2, none⟩ = some (.slice hO hL hC) := by rw [← hW13]; exact qh.cells.2.2
  have rqj0 : (w12.alloc (.cells #[.bool nj, .slice jo jl jc, .slice jO jL jC] 27)).cell? ⟨w12.heap.size, 0, none⟩ = some (.bool nj) := by rw [← hW13]; exact qj.cells.1
  have rqj1 : (w12.alloc (.cells #[.bool nj, .slice jo jl jc, .slice jO jL jC] 27)).cell? ⟨w12.heap.size, 1, none⟩ = some (.slice jo jl jc) := by rw [← hW13]; exact qj.cells.2.1
  have rqj2 : (w12.alloc (.cells #[.bool nj, .slice jo jl jc, .slice jO jL jC] 27)).cell? ⟨w12.heap.size, 2, none⟩ = some (.slice jO jL jC) := by rw [← hW13]; exact qj.cells.2.2
  obtain ⟨v13, hv13⟩ : ∃ v, v = w12.heap.size := ⟨_, rfl⟩
  rw [← hv13] at qj
  have HW13 : Hid (W13 = w12.alloc (.cells #[.bool nj, .slice jo jl jc, .slice jO jL jC] 27)) := hW13
  have Hv13 : Hid (v13 = w12.heap.size) := hv13
  clear hW13 hv13
  have HE : Hid (Below w.heap.size w W13) := hb
  clear hb hsz qa qh qj mA
  go_wp2
  rw [← HW13.out]
  go_ret
  exact ⟨rfl, HE.out⟩
set_option maxRecDepth 100000 in
set_option maxHeartbeats 6400000 in
theorem nbestAb (na : Bool) (ao aO : Option Addr) (al ac aL aC : Nat) (xa ya : List Nat) (o s : Nat) (w : World) (hA : (decide (200 < al) || decide (200 < aL)) = false) (ua : Num w (.slice ao al ac) xa) (da : Num w (.slice aO aL aC) ya) (la : xa.length ≤ 200) (la2 : ya.length ≤ 200) (ho : o < 18446744073709551616) (h1 : 9218868437227405312 ≤ nD (sdOf na (val xa)) (val xa) (undN (val ya)) % 2 ^ 63) (h3 : 2139095040 ≤ nS (sdOf na (val xa)) (val xa) (undN (val ya)) % 2 ^ 31) (h4 : (Ieee.single.read s).isNaN = true) :
    Calls Tryz.prog 3 #[.agg #[.bool na, .slice ao al ac, .slice aO aL aC], .float .f64 o, .float .f32 s] w fun e w' => e = .returned (.bool true) ∧ Below w.heap.size w w' := by
  have hbA := fun w => big05_any na ao aO al ac aL aC w
  rw [hA] at hbA
  clear hA
  have kA0 : Hid (QN w (.agg #[.bool na, .slice ao al ac, .slice aO aL aC]) (sdOf na (val xa)) (val xa) (undN (val ya))) := qn_of ua da la la2
  have mA0 : Hid (RNum w (.agg #[.bool na, .slice ao al ac, .slice aO aL aC]) (rq (zv na (val xa)) (val ya)) 200) := rnum_of ua da la la2 (by decide) (by decide)
  clear ua da la la2
  have hX := fv_nD (sdOf na (val xa)) (val xa) (undN (val ya))
  have hY := fv_nS (sdOf na (val xa)) (val xa) (undN (val ya))
  have e1 : (FloatKind.f64.format.order (nD (sdOf na (val xa)) (val xa) (undN (val ya))) (nD (sdOf na (val xa)) (val xa) (undN (val ya))) == some .eq) = true := are_eq hX hX rfl
  have e2 : (FloatKind.f32.format.order (nS (sdOf na (val xa)) (val xa) (undN (val ya))) (nS (sdOf na (val xa)) (val xa) (undN (val ya))) == some .eq) = true := are_eqs hY hY rfl
  have HX64 : Hid (nD (sdOf na (val xa)) (val xa) (undN (val ya)) < 18446744073709551616) := hX.2.1
  have HY64 : Hid (cnv (nS (sdOf na (val xa)) (val xa) (undN (val ya))) < 18446744073709551616) := cnv_lt _
  have HO64 : Hid (o < 18446744073709551616) := ho
  have HXF : Hid (_) := h1
  have hyn : (Ieee.single.read (nS (sdOf na (val xa)) (val xa) (undN (val ya)))).isNaN = false := by rw [snan_word, decide_eq_false (by have := hY.2.2; omega)]
  have hcv : ∀ w, (convert 29 28 (.float .f32 (nS (sdOf na (val xa)) (val xa) (undN (val ya))))).run Tryz.prog w = .ok (.float .f64 (cnv (nS (sdOf na (val xa)) (val xa) (undN (val ya))))) w := fun w => run_convert_float_float _ _ _ _ _ _ _ (by kernel_rfl) Tryz.underlying28 (cnv_bits hyn)
  have HYF : Hid (9218868437227405312 ≤ cnv (nS (sdOf na (val xa)) (val xa) (undN (val ya))) % 2 ^ 63) := Nat.le_of_eq (cnv_inf hyn (by have := hY.2.2; omega)).symm
  have hcn : ∀ w, (convert 29 28 (.float .f32 s)).run Tryz.prog w = .ok (.float .f64 (nanC s w)) w.drew := fun w => run_conv_nan _ _ _ (by kernel_rfl) h4
  obtain ⟨X, hX0⟩ : ∃ z, z = nD (sdOf na (val xa)) (val xa) (undN (val ya)) := ⟨_, rfl⟩
  obtain ⟨Y, hY0⟩ : ∃ z, z = nS (sdOf na (val xa)) (val xa) (undN (val ya)) := ⟨_, rfl⟩
  (try rw [← hX0] at e1)
  (try rw [← hY0] at e1)
  (try rw [← hX0] at e2)
  (try rw [← hY0] at e2)
  (try rw [← hX0] at HX64)
  (try rw [← hY0] at HX64)
  (try rw [← hX0] at HY64)
  (try rw [← hY0] at HY64)
  (try rw [← hX0] at HXF)
  (try rw [← hY0] at HXF)
  (try rw [← hX0] at HYF)
  (try rw [← hY0] at HYF)
  (try rw [← hX0] at hcv)
  (try rw [← hY0] at hcv)
  have HX : Hid (nD (sdOf na (val xa)) (val xa) (undN (val ya)) = X) := hX0.symm
  have HY : Hid (nS (sdOf na (val xa)) (val xa) (undN (val ya)) = Y) := hY0.symm
  clear hX0 hY0 hX hY h1 h3 ho hyn h4
  obtain ⟨W1, hW1⟩ : ∃ W1, W1 = w.alloc (.cells #[.bool na, .slice ao al ac, .slice aO aL aC] 27) := ⟨_, rfl⟩
  have qa : QCell W1 (w.heap.size) na (.slice ao al ac) (.slice aO aL aC) := by rw [hW1]; exact (qcell_new _ (by simp))
  have hb : Below w.heap.size w W1 := by rw [hW1]; exact belowA w _
  have hsz : w.heap.size < W1.heap.size := by rw [hW1]; simp
  have HW1 : Hid (W1 = w.alloc (.cells #[.bool na, .slice ao al ac, .slice aO aL aC] 27)) := hW1
  clear hW1
  go_enter Tryz.func3, Tryz.ntmps3
  go_wp2_with fail
  rw [← HW1.out]
  clear HW1
  obtain ⟨g, hg⟩ : ∃ g, g = w.heap.size := ⟨_, rfl⟩
  rw [← hg] at qa hsz ⊢
  have HG : Hid (g = w.heap.size) := hg
  clear hg
  refine (alive5_yes _).mono ?_
  rintro e w2 ⟨rfl, b⟩
  replace qa := qa.below b
  replace hb := bstep hb b
  replace hsz := Nat.lt_of_lt_of_le hsz b.size
  clear b
  obtain ⟨cqa0, cqa1, cqa2⟩ := qa.cells
  go_wp2_with fail
  clear cqa0 cqa1 cqa2
  refine (hbA _).mono ?_
  rintro e w3 ⟨rfl, b⟩
  replace qa := qa.below b
  replace hb := bstep hb b
  replace hsz := Nat.lt_of_lt_of_le hsz b.size
  clear b
  obtain ⟨cqa0, cqa1, cqa2⟩ := qa.cells
  go_wp2_with fail
  clear cqa0 cqa1 cqa2
  have kA := QN.below kA0.out hb
  have mA := RNum.below mA0.out hb
  have hq := qn_near kA
  rw [HX.out] at hq
  refine (hq).mono ?_
  rintro e w4 ⟨rfl, b⟩
  replace kA := kA.below b
  replace mA := mA.below b
  replace qa := qa.below b
  replace hb := bstep hb b
  replace hsz := Nat.lt_of_lt_of_le hsz b.size
  clear b
  clear hq
  obtain ⟨cqa0, cqa1, cqa2⟩ := qa.cells
  go_wp2_with fail
  clear cqa0 cqa1 cqa2
  have hq := qn_single kA
  rw [HY.out] at hq
  refine (hq).mono ?_
  rintro e w5 ⟨rfl, b⟩
  replace kA := kA.below b
  replace mA := mA.below b
  replace qa := qa.below b
  replace hb := bstep hb b
  replace hsz := Nat.lt_of_lt_of_le hsz b.size
  clear b
  clear hq
  obtain ⟨cqa0, cqa1, cqa2⟩ := qa.cells
  go_wp2_with fail
  clear cqa0 cqa1 cqa2
  clear kA
  refine (off_no na ao aO al ac aL aC X _ _ mA HX64.out HXF.out).mono ?_
  rintro e w6 ⟨np, po, pl, pc, pO, pL, pC, rfl, b⟩
  replace mA := mA.below b
  replace qa := qa.below b
  replace hb := bstep hb b
  replace hsz := Nat.lt_of_lt_of_le hsz b.size
  clear b
  have hq0 : QCell (w6.alloc (.cells #[.bool false, .slice none 0 0, .slice none 0 0] 27)) w6.heap.size false (.slice none 0 0) (.slice none 0 0) := qcell_new _ rfl
  obtain ⟨W7, hW7⟩ : ∃ W, W = w6.alloc (.cells #[.bool np, .slice po pl pc, .slice pO pL pC] 27) := ⟨_, rfl⟩
  have qp : QCell W7 (w6.heap.size) np (.slice po pl pc) (.slice pO pL pC) := by rw [hW7]; exact qcell_new _ rfl
  have b : Below w6.heap.size w6 W7 := by rw [hW7]; exact belowA _ _
  obtain ⟨z0, z1, z2⟩ := hq0.cells
  have t0 := hq0.thaw 0
  have t1 := hq0.thaw 1
  have t2 := hq0.thaw 2
  clear hq0
  replace mA := mA.below b
  replace qa := qa.below b
  replace hb := bstep hb b
  replace hsz := Nat.lt_of_lt_of_le hsz b.size
  clear b
  have rqa0 : (w6.alloc (.cells #[.bool np, .slice po pl pc, .slice pO pL pC] 27)).cell? ⟨g, 0, none⟩ = some (.bool na) := by rw [← hW7]; exact qa.cells.1
  have rqa1 : (w6.alloc (.cells #[.bool np, .slice po pl pc, .slice pO pL pC] 27)).cell? ⟨g, 1, none⟩ = some (.slice ao al ac) := by rw [← hW7]; exact qa.cells.2.1
  have rqa2 : (w6.alloc (.cells #[.bool np, .slice po pl pc, .slice pO pL pC] 27)).cell? ⟨g, 2, none⟩ = some (.slice aO aL aC) := by rw [← hW7]; exact qa.cells.2.2
  have rqp0 : (w6.alloc (.cells #[.bool np, .slice po pl pc, .slice pO pL pC] 27)).cell? ⟨w6.heap.size, 0, none⟩ = some (.bool np) := by rw [← hW7]; exact qp.cells.1
  have rqp1 : (w6.alloc (.cells #[.bool np, .slice po pl pc, .slice pO pL pC] 27)).cell? ⟨w6.heap.size, 1, none⟩ = some (.slice po pl pc) := by rw [← hW7]; exact qp.cells.2.1
  have rqp2 : (w6.alloc (.cells #[.bool np, .slice po pl pc, .slice pO pL pC] 27)).cell? ⟨w6.heap.size, 2, none⟩ = some (.slice pO pL pC) := by rw [← hW7]; exact qp.cells.2.2
  obtain ⟨v7, hv7⟩ : ∃ v, v = w6.heap.size := ⟨_, rfl⟩
  rw [← hv7] at qp
  have HW7 : Hid (W7 = w6.alloc (.cells #[.bool np, .slice po pl pc, .slice pO pL pC] 27)) := hW7
  have Hv7 : Hid (v7 = w6.heap.size) := hv7
  clear hW7 hv7
  go_wp2_with fail
  rw [← HW7.out, ← Hv7.out]
  clear HW7 Hv7 z0 z1 z2 t0 t1 t2 rqa0 rqa1 rqa2 rqp0 rqp1 rqp2
  refine (off_some na ao aO al ac aL aC o _ _ mA HO64.out).mono ?_
  rintro e w8 ⟨nq, qo, ql, qc, qO, qL, qC, flq, rfl, b⟩
  replace mA := mA.below b
  replace qa := qa.below b
  replace qp := qp.below b
  replace hb := bstep hb b
  replace hsz := Nat.lt_of_lt_of_le hsz b.size
  clear b
  have hq0 : QCell (w8.alloc (.cells #[.bool false, .slice none 0 0, .slice none 0 0] 27)) w8.heap.size false (.slice none 0 0) (.slice none 0 0) := qcell_new _ rfl
  obtain ⟨W9, hW9⟩ : ∃ W, W = w8.alloc (.cells #[.bool nq, .slice qo ql qc, .slice qO qL qC] 27) := ⟨_, rfl⟩
  have qq : QCell W9 (w8.heap.size) nq (.slice qo ql qc) (.slice qO qL qC) := by rw [hW9]; exact qcell_new _ rfl
  have b : Below w8.heap.size w8 W9 := by rw [hW9]; exact belowA _ _
  obtain ⟨z0, z1, z2⟩ := hq0.cells
  have t0 := hq0.thaw 0
  have t1 := hq0.thaw 1
  have t2 := hq0.thaw 2
  clear hq0
  replace mA := mA.below b
  replace qa := qa.below b
  replace qp := qp.below b
  replace hb := bstep hb b
  replace hsz := Nat.lt_of_lt_of_le hsz b.size
  clear b
  have rqa0 : (w8.alloc (.cells #[.bool nq, .slice qo ql qc, .slice qO qL qC] 27)).cell? ⟨g, 0, none⟩ = some (.bool na) := by rw [← hW9]; exact qa.cells.1
  have rqa1 : (w8.alloc (.cells #[.bool nq, .slice qo ql qc, .slice qO qL qC] 27)).cell? ⟨g, 1, none⟩ = some (.slice ao al ac) := by rw [← hW9]; exact qa.cells.2.1
  have rqa2 : (w8.alloc (.cells #[.bool nq, .slice qo ql qc, .slice qO qL qC] 27)).cell? ⟨g, 2, none⟩ = some (.slice aO aL aC) := by rw [← hW9]; exact qa.cells.2.2
  have rqp0 : (w8.alloc (.cells #[.bool nq, .slice qo ql qc, .slice qO qL qC] 27)).cell? ⟨v7, 0, none⟩ = some (.bool np) := by rw [← hW9]; exact qp.cells.1
  have rqp1 : (w8.alloc (.cells #[.bool nq, .slice qo ql qc, .slice qO qL qC] 27)).cell? ⟨v7, 1, none⟩ = some (.slice po pl pc) := by rw [← hW9]; exact qp.cells.2.1
  have rqp2 : (w8.alloc (.cells #[.bool nq, .slice qo ql qc, .slice qO qL qC] 27)).cell? ⟨v7, 2, none⟩ = some (.slice pO pL pC) := by rw [← hW9]; exact qp.cells.2.2
  have rqq0 : (w8.alloc (.cells #[.bool nq, .slice qo ql qc, .slice qO qL qC] 27)).cell? ⟨w8.heap.size, 0, none⟩ = some (.bool nq) := by rw [← hW9]; exact qq.cells.1
  have rqq1 : (w8.alloc (.cells #[.bool nq, .slice qo ql qc, .slice qO qL qC] 27)).cell? ⟨w8.heap.size, 1, none⟩ = some (.slice qo ql qc) := by rw [← hW9]; exact qq.cells.2.1
  have rqq2 : (w8.alloc (.cells #[.bool nq, .slice qo ql qc, .slice qO qL qC] 27)).cell? ⟨w8.heap.size, 2, none⟩ = some (.slice qO qL qC) := by rw [← hW9]; exact qq.cells.2.2
  obtain ⟨v9, hv9⟩ : ∃ v, v = w8.heap.size := ⟨_, rfl⟩
  rw [← hv9] at qq
  have HW9 : Hid (W9 = w8.alloc (.cells #[.bool nq, .slice qo ql qc, .slice qO qL qC] 27)) := hW9
  have Hv9 : Hid (v9 = w8.heap.size) := hv9
  clear hW9 hv9
  go_wp2_with fail
  rw [← HW9.out, ← Hv9.out]
  clear HW9 Hv9 z0 z1 z2 t0 t1 t2 rqa0 rqa1 rqa2 rqp0 rqp1 rqp2 rqq0 rqq1 rqq2
  clear qp qq
  refine (off_no na ao aO al ac aL aC (cnv Y) _ _ mA HY64.out HYF.out).mono ?_
  rintro e w10 ⟨nh, ho, hl, hc, hO, hL, hC, rfl, b⟩
  replace mA := mA.below b
  replace qa := qa.below b
  replace hb := bstep hb b
  replace hsz := Nat.lt_of_lt_of_le hsz b.size
  clear b
  have hq0 : QCell (w10.alloc (.cells #[.bool false, .slice none 0 0, .slice none 0 0] 27)) w10.heap.size false (.slice none 0 0) (.slice none 0 0) := qcell_new _ rfl
  obtain ⟨W11, hW11⟩ : ∃ W, W = w10.alloc (.cells #[.bool nh, .slice ho hl hc, .slice hO hL hC] 27) := ⟨_, rfl⟩
  have qh : QCell W11 (w10.heap.size) nh (.slice ho hl hc) (.slice hO hL hC) := by rw [hW11]; exact qcell_new _ rfl
  have b : Below w10.heap.size w10 W11 := by rw [hW11]; exact belowA _ _
  obtain ⟨z0, z1, z2⟩ := hq0.cells
  have t0 := hq0.thaw 0
  have t1 := hq0.thaw 1
  have t2 := hq0.thaw 2
  clear hq0
  replace mA := mA.below b
  replace qa := qa.below b
  replace hb := bstep hb b
  replace hsz := Nat.lt_of_lt_of_le hsz b.size
  clear b
  have rqa0 : (w10.alloc (.cells #[.bool nh, .slice ho hl hc, .slice hO hL hC] 27)).cell? ⟨g, 0, none⟩ = some (.bool na) := by rw [← hW11]; exact qa.cells.1
  have rqa1 : (w10.alloc (.cells #[.bool nh, .slice ho hl hc, .slice hO hL hC] 27)).cell? ⟨g, 1, none⟩ = some (.slice ao al ac) := by rw [← hW11]; exact qa.cells.2.1
  have rqa2 : (w10.alloc (.cells #[.bool nh, .slice ho hl hc, .slice hO hL hC] 27)).cell? ⟨g, 2, none⟩ = some (.slice aO aL aC) := by rw [← hW11]; exact qa.cells.2.2
  have rqh0 : (w10.alloc (.cells #[.bool nh, .slice ho hl hc, .slice hO hL hC] 27)).cell? ⟨w10.heap.size, 0, none⟩ = some (.bool nh) := by rw [← hW11]; exact qh.cells.1
  have rqh1 : (w10.alloc (.cells #[.bool nh, .slice ho hl hc, .slice hO hL hC] 27)).cell? ⟨w10.heap.size, 1, none⟩ = some (.slice ho hl hc) := by rw [← hW11]; exact qh.cells.2.1
  have rqh2 : (w10.alloc (.cells #[.bool nh, .slice ho hl hc, .slice hO hL hC] 27)).cell? ⟨w10.heap.size, 2, none⟩ = some (.slice hO hL hC) := by rw [← hW11]; exact qh.cells.2.2
  obtain ⟨v11, hv11⟩ : ∃ v, v = w10.heap.size := ⟨_, rfl⟩
  rw [← hv11] at qh
  have HW11 : Hid (W11 = w10.alloc (.cells #[.bool nh, .slice ho hl hc, .slice hO hL hC] 27)) := hW11
  have Hv11 : Hid (v11 = w10.heap.size) := hv11
  clear hW11 hv11
  go_wp2_with fail
  rw [← HW11.out, ← Hv11.out]
  clear HW11 Hv11 z0 z1 z2 t0 t1 t2 rqa0 rqa1 rqa2 rqh0 rqh1 rqh2
  have hn1 := nanC_lt s W11
  have hn2 := nanC_big s W11
  have b : Below W11.heap.size W11 W11.drew := (Below.refl _ _).drew
  replace mA := mA.below b
  replace qa := qa.below b
  replace qh := qh.below b
  replace hb := bstep hb b
  replace hsz := Nat.lt_of_lt_of_le hsz b.size
  clear b
  generalize nanC s W11 = nn at *
  generalize W11.drew = w12 at *
  refine (off_no na ao aO al ac aL aC nn _ _ mA hn1 hn2).mono ?_
  rintro e w13 ⟨nj, jo, jl, jc, jO, jL, jC, rfl, b⟩
  replace mA := mA.below b
  replace qa := qa.below b
  replace qh := qh.below b
  replace hb := bstep hb b
  replace hsz := Nat.lt_of_lt_of_le hsz b.size
  clear b
  have hq0 : QCell (w13.alloc (.cells #[.bool false, .slice none 0 0, .slice none 0 0] 27)) w13.heap.size false (.slice none 0 0) (.slice none 0 0) := qcell_new _ rfl
  obtain ⟨W14, hW14⟩ : ∃ W, W = w13.alloc (.cells #[.bool nj, .slice jo jl jc, .slice jO jL jC] 27) := ⟨_, rfl⟩
  have qj : QCell W14 (w13.heap.size) nj (.slice jo jl jc) (.slice jO jL jC) := by rw [hW14]; exact qcell_new _ rfl
  have b : Below w13.heap.size w13 W14 := by rw [hW14]; exact belowA _ _
  obtain ⟨z0, z1, z2⟩ := hq0.cells
  have t0 := hq0.thaw 0
  have t1 := hq0.thaw 1
  have t2 := hq0.thaw 2
  clear hq0
  replace mA := mA.below b
  replace qa := qa.below b
  replace qh := qh.below b
  replace hb := bstep hb b
  replace hsz := Nat.lt_of_lt_of_le hsz b.size
  clear b
  have rqa0 : (w13.alloc (.cells #[.bool nj, .slice jo jl jc, .slice jO jL jC] 27)).cell? ⟨g, 0, none⟩ = some (.bool na) := by rw [← hW14]; exact qa.cells.1
  have rqa1 : (w13.alloc (.cells #[.bool nj, .slice jo jl jc, .slice jO jL jC] 27)).cell? ⟨g, 1, none⟩ = some (.slice ao al ac) := by rw [← hW14]; exact qa.cells.2.1
  have rqa2 : (w13.alloc (.cells #[.bool nj, .slice jo jl jc, .slice jO jL jC] 27)).cell? ⟨g, 2, none⟩ = some (.slice aO aL aC) := by rw [← hW14]; exact qa.cells.2.2
  have rqh0 : (w13.alloc (.cells #[.bool nj, .slice jo jl jc, .slice jO jL jC] 27)).cell? ⟨v11, 0, none⟩ = some (.bool nh) := by rw [← hW14]; exact qh.cells.1
  have rqh1 : (w13.alloc (.cells #[.bool nj, .slice jo jl jc, .slice jO jL jC] 27)).cell? ⟨v11, 1, none⟩ = some (.slice ho hl hc) := by rw [← hW14]; exact qh.cells.2.1
  have rqh2 : (w13.alloc (.cells #[.bool nj, .slice jo jl jc, .slice jO jL jC] 27)).cell? ⟨v11, 2, none⟩ = some (.slice hO hL hC) := by rw [← hW14]; exact qh.cells.2.2
  have rqj0 : (w13.alloc (.cells #[.bool nj, .slice jo jl jc, .slice jO jL jC] 27)).cell? ⟨w13.heap.size, 0, none⟩ = some (.bool nj) := by rw [← hW14]; exact qj.cells.1
  have rqj1 : (w13.alloc (.cells #[.bool nj, .slice jo jl jc, .slice jO jL jC] 27)).cell? ⟨w13.heap.size, 1, none⟩ = some (.slice jo jl jc) := by rw [← hW14]; exact qj.cells.2.1
  have rqj2 : (w13.alloc (.cells #[.bool nj, .slice jo jl jc, .slice jO jL jC] 27)).cell? ⟨w13.heap.size, 2, none⟩ = some (.slice jO jL jC) := by rw [← hW14]; exact qj.cells.2.2
  obtain ⟨v14, hv14⟩ : ∃ v, v = w13.heap.size := ⟨_, rfl⟩
  rw [← hv14] at qj
  have HW14 : Hid (W14 = w13.alloc (.cells #[.bool nj, .slice jo jl jc, .slice jO jL jC] 27)) := hW14
  have Hv14 : Hid (v14 = w13.heap.size) := hv14
  clear hW14 hv14
  have HE : Hid (Below w.heap.size w W14) := hb
  clear hb hsz qa qh qj mA
  go_wp2
  rw [← HW14.out]
  go_ret
  exact ⟨rfl, HE.out⟩
set_option maxRecDepth 100000 in
set_option maxHeartbeats 6400000 in
theorem nbestAc (na : Bool) (ao aO : Option Addr) (al ac aL aC : Nat) (xa ya : List Nat) (o s : Nat) (w : World) (hA : (decide (200 < al) || decide (200 < aL)) = false) (ua : Num w (.slice ao al ac) xa) (da : Num w (.slice aO aL aC) ya) (la : xa.length ≤ 200) (la2 : ya.length ≤ 200) (ho : o < 18446744073709551616) (h1 : 9218868437227405312 ≤ nD (sdOf na (val xa)) (val xa) (undN (val ya)) % 2 ^ 63) (h3 : nS (sdOf na (val xa)) (val xa) (undN (val ya)) % 2 ^ 31 < 2139095040) (h4 : s % 2 ^ 31 = 2139095040) :
    Calls Tryz.prog 3 #[.agg #[.bool na, .slice ao al ac, .slice aO aL aC], .float .f64 o, .float .f32 s] w fun e w' => e = .returned (.bool true) ∧ Below w.heap.size w w' := by
  have hbA := fun w => big05_any na ao aO al ac aL aC w
  rw [hA] at hbA
  clear hA
  have kA0 : Hid (QN w (.agg #[.bool na, .slice ao al ac, .slice aO aL aC]) (sdOf na (val xa)) (val xa) (undN (val ya))) := qn_of ua da la la2
  have mA0 : Hid (RNum w (.agg #[.bool na, .slice ao al ac, .slice aO aL aC]) (rq (zv na (val xa)) (val ya)) 200) := rnum_of ua da la la2 (by decide) (by decide)
  clear ua da la la2
  have hX := fv_nD (sdOf na (val xa)) (val xa) (undN (val ya))
  have hY := fv_nS (sdOf na (val xa)) (val xa) (undN (val ya))
  have e1 : (FloatKind.f64.format.order (nD (sdOf na (val xa)) (val xa) (undN (val ya))) (nD (sdOf na (val xa)) (val xa) (undN (val ya))) == some .eq) = true := are_eq hX hX rfl
  have e2 : (FloatKind.f32.format.order (nS (sdOf na (val xa)) (val xa) (undN (val ya))) (nS (sdOf na (val xa)) (val xa) (undN (val ya))) == some .eq) = true := are_eqs hY hY rfl
  have HX64 : Hid (nD (sdOf na (val xa)) (val xa) (undN (val ya)) < 18446744073709551616) := hX.2.1
  have HY64 : Hid (cnv (nS (sdOf na (val xa)) (val xa) (undN (val ya))) < 18446744073709551616) := cnv_lt _
  have HO64 : Hid (o < 18446744073709551616) := ho
  have HXF : Hid (_) := h1
  have hyn : (Ieee.single.read (nS (sdOf na (val xa)) (val xa) (undN (val ya)))).isNaN = false := by rw [snan_word, decide_eq_false (by have := hY.2.2; omega)]
  have hcv : ∀ w, (convert 29 28 (.float .f32 (nS (sdOf na (val xa)) (val xa) (undN (val ya))))).run Tryz.prog w = .ok (.float .f64 (cnv (nS (sdOf na (val xa)) (val xa) (undN (val ya))))) w := fun w => run_convert_float_float _ _ _ _ _ _ _ (by kernel_rfl) Tryz.underlying28 (cnv_bits hyn)
  have HYF : Hid (cnv (nS (sdOf na (val xa)) (val xa) (undN (val ya))) % 2 ^ 63 < 9218868437227405312) := (cnv_fin hY.2.1 h3).1
  have hsn : (Ieee.single.read s).isNaN = false := by rw [snan_word, decide_eq_false (by omega)]
  have hcs : ∀ w, (convert 29 28 (.float .f32 s)).run Tryz.prog w = .ok (.float .f64 (cnv s)) w := fun w => run_convert_float_float _ _ _ _ _ _ _ (by kernel_rfl) Tryz.underlying28 (cnv_bits hsn)
  have HS64 : Hid (cnv s < 18446744073709551616) := cnv_lt _
  have HSF : Hid (9218868437227405312 ≤ cnv s % 2 ^ 63) := Nat.le_of_eq (cnv_inf hsn h4).symm
  obtain ⟨X, hX0⟩ : ∃ z, z = nD (sdOf na (val xa)) (val xa) (undN (val ya)) := ⟨_, rfl⟩
  obtain ⟨Y, hY0⟩ : ∃ z, z = nS (sdOf na (val xa)) (val xa) (undN (val ya)) := ⟨_, rfl⟩
  (try rw [← hX0] at e1)
  (try rw [← hY0] at e1)
  (try rw [← hX0] at e2)
  (try rw [← hY0] at e2)
  (try rw [← hX0] at HX64)
  (try rw [← hY0] at HX64)
  (try rw [← hX0] at HY64)
  (try rw [← hY0] at HY64)
  (try rw [← hX0] at HXF)
  (try rw [← hY0] at HXF)
  (try rw [← hX0] at HYF)
  (try rw [← hY0] at HYF)
  (try rw [← hX0] at hcv)
  (try rw [← hY0] at hcv)
  have HX : Hid (nD (sdOf na (val xa)) (val xa) (undN (val ya)) = X) := hX0.symm
  have HY : Hid (nS (sdOf na (val xa)) (val xa) (undN (val ya)) = Y) := hY0.symm
  clear hX0 hY0 hX hY h1 h3 ho hyn h4 hsn
  obtain ⟨W1, hW1⟩ : ∃ W1, W1 = w.alloc (.cells #[.bool na, .slice ao al ac, .slice aO aL aC] 27) := ⟨_, rfl⟩
  have qa : QCell W1 (w.heap.size) na (.slice ao al ac) (.slice aO aL aC) := by rw [hW1]; exact (qcell_new _ (by simp))
  have hb : Below w.heap.size w W1 := by rw [hW1]; exact belowA w _
  have hsz : w.heap.size < W1.heap.size := by rw [hW1]; simp
  have HW1 : Hid (W1 = w.alloc (.cells #[.bool na, .slice ao al ac, .slice aO aL aC] 27)) := hW1
  clear hW1
  go_enter Tryz.func3, Tryz.ntmps3
  go_wp2_with fail
  rw [← HW1.out]
  clear HW1
  obtain ⟨g, hg⟩ : ∃ g, g = w.heap.size := ⟨_, rfl⟩
  rw [← hg] at qa hsz ⊢
  have HG : Hid (g = w.heap.size) := hg
  clear hg
  refine (alive5_yes _).mono ?_
  rintro e w2 ⟨rfl, b⟩
  replace qa := qa.below b
  replace hb := bstep hb b
  replace hsz := Nat.lt_of_lt_of_le hsz b.size
  clear b
  obtain ⟨cqa0, cqa1, cqa2⟩ := qa.cells
  go_wp2_with fail
  clear cqa0 cqa1 cqa2
  refine (hbA _).mono ?_
  rintro e w3 ⟨rfl, b⟩
  replace qa := qa.below b
  replace hb := bstep hb b
  replace hsz := Nat.lt_of_lt_of_le hsz b.size
  clear b
  obtain ⟨cqa0, cqa1, cqa2⟩ := qa.cells
  go_wp2_with fail
  clear cqa0 cqa1 cqa2
  have kA := QN.below kA0.out hb
  have mA := RNum.below mA0.out hb
  have hq := qn_near kA
  rw [HX.out] at hq
  refine (hq).mono ?_
  rintro e w4 ⟨rfl, b⟩
  replace kA := kA.below b
  replace mA := mA.below b
  replace qa := qa.below b
  replace hb := bstep hb b
  replace hsz := Nat.lt_of_lt_of_le hsz b.size
  clear b
  clear hq
  obtain ⟨cqa0, cqa1, cqa2⟩ := qa.cells
  go_wp2_with fail
  clear cqa0 cqa1 cqa2
  have hq := qn_single kA
  rw [HY.out] at hq
  refine (hq).mono ?_
  rintro e w5 ⟨rfl, b⟩
  replace kA := kA.below b
  replace mA := mA.below b
  replace qa := qa.below b
  replace hb := bstep hb b
  replace hsz := Nat.lt_of_lt_of_le hsz b.size
  clear b
  clear hq
  obtain ⟨cqa0, cqa1, cqa2⟩ := qa.cells
  go_wp2_with fail
  clear cqa0 cqa1 cqa2
  clear kA
  refine (off_no na ao aO al ac aL aC X _ _ mA HX64.out HXF.out).mono ?_
  rintro e w6 ⟨np, po, pl, pc, pO, pL, pC, rfl, b⟩
  replace mA := mA.below b
  replace qa := qa.below b
  replace hb := bstep hb b
  replace hsz := Nat.lt_of_lt_of_le hsz b.size
  clear b
  have hq0 : QCell (w6.alloc (.cells #[.bool false, .slice none 0 0, .slice none 0 0] 27)) w6.heap.size false (.slice none 0 0) (.slice none 0 0) := qcell_new _ rfl
  obtain ⟨W7, hW7⟩ : ∃ W, W = w6.alloc (.cells #[.bool np, .slice po pl pc, .slice pO pL pC] 27) := ⟨_, rfl⟩
  have qp : QCell W7 (w6.heap.size) np (.slice po pl pc) (.slice pO pL pC) := by rw [hW7]; exact qcell_new _ rfl
  have b : Below w6.heap.size w6 W7 := by rw [hW7]; exact belowA _ _
  obtain ⟨z0, z1, z2⟩ := hq0.cells
  have t0 := hq0.thaw 0
  have t1 := hq0.thaw 1
  have t2 := hq0.thaw 2
  clear hq0
  replace mA := mA.below b
  replace qa := qa.below b
  replace hb := bstep hb b
  replace hsz := Nat.lt_of_lt_of_le hsz b.size
  clear b
  have rqa0 : (w6.alloc (.cells #[.bool np, .slice po pl pc, .slice pO pL pC] 27)).cell? ⟨g, 0, none⟩ = some (.bool na) := by rw [← hW7]; exact qa.cells.1
  have rqa1 : (w6.alloc (.cells #[.bool np, .slice po pl pc, .slice pO pL pC] 27)).cell? ⟨g, 1, none⟩ = some (.slice ao al ac) := by rw [← hW7]; exact qa.cells.2.1
  have rqa2 : (w6.alloc (.cells #[.bool np, .slice po pl pc, .slice pO pL pC] 27)).cell? ⟨g, 2, none⟩ = some (.slice aO aL aC) := by rw [← hW7]; exact qa.cells.2.2
  have rqp0 : (w6.alloc (.cells #[.bool np, .slice po pl pc, .slice pO pL pC] 27)).cell? ⟨w6.heap.size, 0, none⟩ = some (.bool np) := by rw [← hW7]; exact qp.cells.1
  have rqp1 : (w6.alloc (.cells #[.bool np, .slice po pl pc, .slice pO pL pC] 27)).cell? ⟨w6.heap.size, 1, none⟩ = some (.slice po pl pc) := by rw [← hW7]; exact qp.cells.2.1
  have rqp2 : (w6.alloc (.cells #[.bool np, .slice po pl pc, .slice pO pL pC] 27)).cell? ⟨w6.heap.size, 2, none⟩ = some (.slice pO pL pC) := by rw [← hW7]; exact qp.cells.2.2
  obtain ⟨v7, hv7⟩ : ∃ v, v = w6.heap.size := ⟨_, rfl⟩
  rw [← hv7] at qp
  have HW7 : Hid (W7 = w6.alloc (.cells #[.bool np, .slice po pl pc, .slice pO pL pC] 27)) := hW7
  have Hv7 : Hid (v7 = w6.heap.size) := hv7
  clear hW7 hv7
  go_wp2_with fail
  rw [← HW7.out, ← Hv7.out]
  clear HW7 Hv7 z0 z1 z2 t0 t1 t2 rqa0 rqa1 rqa2 rqp0 rqp1 rqp2
  refine (off_some na ao aO al ac aL aC o _ _ mA HO64.out).mono ?_
  rintro e w8 ⟨nq, qo, ql, qc, qO, qL, qC, flq, rfl, b⟩
  replace mA := mA.below b
  replace qa := qa.below b
  replace qp := qp.below b
  replace hb := bstep hb b
  replace hsz := Nat.lt_of_lt_of_le hsz b.size
  clear b
  have hq0 : QCell (w8.alloc (.cells #[.bool false, .slice none 0 0, .slice none 0 0] 27)) w8.heap.size false (.slice none 0 0) (.slice none 0 0) := qcell_new _ rfl
  obtain ⟨W9, hW9⟩ : ∃ W, W = w8.alloc (.cells #[.bool nq, .slice qo ql qc, .slice qO qL qC] 27) := ⟨_, rfl⟩
  have qq : QCell W9 (w8.heap.size) nq (.slice qo ql qc) (.slice qO qL qC) := by rw [hW9]; exact qcell_new _ rfl
  have b : Below w8.heap.size w8 W9 := by rw [hW9]; exact belowA _ _
  obtain ⟨z0, z1, z2⟩ := hq0.cells
  have t0 := hq0.thaw 0
  have t1 := hq0.thaw 1
  have t2 := hq0.thaw 2
  clear hq0
  replace mA := mA.below b
  replace qa := qa.below b
  replace qp := qp.below b
  replace hb := bstep hb b
  replace hsz := Nat.lt_of_lt_of_le hsz b.size
  clear b
  have rqa0 : (w8.alloc (.cells #[.bool nq, .slice qo ql qc, .slice qO qL qC] 27)).cell? ⟨g, 0, none⟩ = some (.bool na) := by rw [← hW9]; exact qa.cells.1
  have rqa1 : (w8.alloc (.cells #[.bool nq, .slice qo ql qc, .slice qO qL qC] 27)).cell? ⟨g, 1, none⟩ = some (.slice ao al ac) := by rw [← hW9]; exact qa.cells.2.1
  have rqa2 : (w8.alloc (.cells #[.bool nq, .slice qo ql qc, .slice qO qL qC] 27)).cell? ⟨g, 2, none⟩ = some (.slice aO aL aC) := by rw [← hW9]; exact qa.cells.2.2
  have rqp0 : (w8.alloc (.cells #[.bool nq, .slice qo ql qc, .slice qO qL qC] 27)).cell? ⟨v7, 0, none⟩ = some (.bool np) := by rw [← hW9]; exact qp.cells.1
  have rqp1 : (w8.alloc (.cells #[.bool nq, .slice qo ql qc, .slice qO qL qC] 27)).cell? ⟨v7, 1, none⟩ = some (.slice po pl pc) := by rw [← hW9]; exact qp.cells.2.1
  have rqp2 : (w8.alloc (.cells #[.bool nq, .slice qo ql qc, .slice qO qL qC] 27)).cell? ⟨v7, 2, none⟩ = some (.slice pO pL pC) := by rw [← hW9]; exact qp.cells.2.2
  have rqq0 : (w8.alloc (.cells #[.bool nq, .slice qo ql qc, .slice qO qL qC] 27)).cell? ⟨w8.heap.size, 0, none⟩ = some (.bool nq) := by rw [← hW9]; exact qq.cells.1
  have rqq1 : (w8.alloc (.cells #[.bool nq, .slice qo ql qc, .slice qO qL qC] 27)).cell? ⟨w8.heap.size, 1, none⟩ = some (.slice qo ql qc) := by rw [← hW9]; exact qq.cells.2.1
  have rqq2 : (w8.alloc (.cells #[.bool nq, .slice qo ql qc, .slice qO qL qC] 27)).cell? ⟨w8.heap.size, 2, none⟩ = some (.slice qO qL qC) := by rw [← hW9]; exact qq.cells.2.2
  obtain ⟨v9, hv9⟩ : ∃ v, v = w8.heap.size := ⟨_, rfl⟩
  rw [← hv9] at qq
  have HW9 : Hid (W9 = w8.alloc (.cells #[.bool nq, .slice qo ql qc, .slice qO qL qC] 27)) := hW9
  have Hv9 : Hid (v9 = w8.heap.size) := hv9
  clear hW9 hv9
  go_wp2_with fail
  rw [← HW9.out, ← Hv9.out]
  clear HW9 Hv9 z0 z1 z2 t0 t1 t2 rqa0 rqa1 rqa2 rqp0 rqp1 rqp2 rqq0 rqq1 rqq2
  clear qp qq
  refine (off_yes na ao aO al ac aL aC (cnv Y) _ _ mA HY64.out HYF.out).mono ?_
  rintro e w10 ⟨v, rfl, hv, b⟩
  obtain ⟨nh, ho, hl, hc, hO, hL, hC, rfl, rh⟩ := hv.seeS
  clear hv
  replace mA := mA.below b
  replace qa := qa.below b
  replace hb := bstep hb b
  replace hsz := Nat.lt_of_lt_of_le hsz b.size
  clear b
  have hq0 : QCell (w10.alloc (.cells #[.bool false, .slice none 0 0, .slice none 0 0] 27)) w10.heap.size false (.slice none 0 0) (.slice none 0 0) := qcell_new _ rfl
  obtain ⟨W11, hW11⟩ : ∃ W, W = w10.alloc (.cells #[.bool nh, .slice ho hl hc, .slice hO hL hC] 27) := ⟨_, rfl⟩
  have qh : QCell W11 (w10.heap.size) nh (.slice ho hl hc) (.slice hO hL hC) := by rw [hW11]; exact qcell_new _ rfl
  have b : Below w10.heap.size w10 W11 := by rw [hW11]; exact belowA _ _
  obtain ⟨z0, z1, z2⟩ := hq0.cells
  have t0 := hq0.thaw 0
  have t1 := hq0.thaw 1
  have t2 := hq0.thaw 2
  clear hq0
  replace mA := mA.below b
  replace rh := rh.below b
  replace qa := qa.below b
  replace hb := bstep hb b
  replace hsz := Nat.lt_of_lt_of_le hsz b.size
  clear b
  have rqa0 : (w10.alloc (.cells #[.bool nh, .slice ho hl hc, .slice hO hL hC] 27)).cell? ⟨g, 0, none⟩ = some (.bool na) := by rw [← hW11]; exact qa.cells.1
  have rqa1 : (w10.alloc (.cells #[.bool nh, .slice ho hl hc, .slice hO hL hC] 27)).cell? ⟨g, 1, none⟩ = some (.slice ao al ac) := by rw [← hW11]; exact qa.cells.2.1
  have rqa2 : (w10.alloc (.cells #[.bool nh, .slice ho hl hc, .slice hO hL hC] 27)).cell? ⟨g, 2, none⟩ = some (.slice aO aL aC) := by rw [← hW11]; exact qa.cells.2.2
  have rqh0 : (w10.alloc (.cells #[.bool nh, .slice ho hl hc, .slice hO hL hC] 27)).cell? ⟨w10.heap.size, 0, none⟩ = some (.bool nh) := by rw [← hW11]; exact qh.cells.1
  have rqh1 : (w10.alloc (.cells #[.bool nh, .slice ho hl hc, .slice hO hL hC] 27)).cell? ⟨w10.heap.size, 1, none⟩ = some (.slice ho hl hc) := by rw [← hW11]; exact qh.cells.2.1
  have rqh2 : (w10.alloc (.cells #[.bool nh, .slice ho hl hc, .slice hO hL hC] 27)).cell? ⟨w10.heap.size, 2, none⟩ = some (.slice hO hL hC) := by rw [← hW11]; exact qh.cells.2.2
  obtain ⟨v11, hv11⟩ : ∃ v, v = w10.heap.size := ⟨_, rfl⟩
  rw [← hv11] at qh
  have HW11 : Hid (W11 = w10.alloc (.cells #[.bool nh, .slice ho hl hc, .slice hO hL hC] 27)) := hW11
  have Hv11 : Hid (v11 = w10.heap.size) := hv11
  clear hW11 hv11
  go_wp2_with fail
  rw [← HW11.out, ← Hv11.out]
  clear HW11 Hv11 z0 z1 z2 t0 t1 t2 rqa0 rqa1 rqa2 rqh0 rqh1 rqh2
  refine (off_no na ao aO al ac aL aC (cnv s) _ _ mA HS64.out HSF.out).mono ?_
  rintro e w12 ⟨nj, jo, jl, jc, jO, jL, jC, rfl, b⟩
  replace mA := mA.below b
  replace rh := rh.below b
  replace qa := qa.below b
  replace qh := qh.below b
  replace hb := bstep hb b
  replace hsz := Nat.lt_of_lt_of_le hsz b.size
  clear b
  have hq0 : QCell (w12.alloc (.cells #[.bool false, .slice none 0 0, .slice none 0 0] 27)) w12.heap.size false (.slice none 0 0) (.slice none 0 0) := qcell_new _ rfl
  obtain ⟨W13, hW13⟩ : ∃ W, W = w12.alloc (.cells #[.bool nj, .slice jo jl jc, .slice jO jL jC] 27) := ⟨_, rfl⟩
  have qj : QCell W13 (w12.heap.size) nj (.slice jo jl jc) (.slice jO jL jC) := by rw [hW13]; exact qcell_new _ rfl
  have b : Below w12.heap.size w12 W13 := by rw [hW13]; exact belowA _ _
  obtain ⟨z0, z1, z2⟩ := hq0.cells
  have t0 := hq0.thaw 0
  have t1 := hq0.thaw 1
  have t2 := hq0.thaw 2
  clear hq0
  replace mA := mA.below b
  replace rh := rh.below b
  replace qa := qa.below b
  replace qh := qh.below b
  replace hb := bstep hb b
  replace hsz := Nat.lt_of_lt_of_le hsz b.size
  clear b
  have rqa0 : (w12.alloc (.cells #[.bool nj, .slice jo jl jc, .slice jO jL jC] 27)).cell? ⟨g, 0, none⟩ = some (.bool na) := by rw [← hW13]; exact qa.cells.1
  have rqa1 : (w12.alloc (.cells #[.bool nj, .slice jo jl jc, .slice jO jL jC] 27)).cell? ⟨g, 1, none⟩ = some (.slice ao al ac) := by rw [← hW13]; exact qa.cells.2.1
  have rqa2 : (w12.alloc (.cells #[.bool nj, .slice jo jl jc, .slice jO jL jC] 27)).cell? ⟨g, 2, none⟩ = some (.slice aO aL aC) := by rw [← hW13]; exact qa.cells.2.2
  have rqh0 : (w12.alloc (.cells #[.bool nj, .slice jo jl jc, .slice jO jL jC] 27)).cell? ⟨v11, 0, none⟩ = some (.bool nh) := by rw [← hW13]; exact qh.cells.1
  have rqh1 : (w12.alloc (.cells #[.bool nj, .slice jo jl jc, .slice jO jL jC] 27)).cell? ⟨v11, 1, none⟩ = some (.slice ho hl hc) := by rw [← hW13]; exact qh.cells.2.1
  have rqh2 : (w12.alloc (.cells #[.bool nj, .slice jo jl jc, .slice jO jL jC] 27)).cell? ⟨v11, 2, none⟩ = some (.slice hO hL hC) := by rw [← hW13]; exact qh.cells.2.2
  have rqj0 : (w12.alloc (.cells #[.bool nj, .slice jo jl jc, .slice jO jL jC] 27)).cell? ⟨w12.heap.size, 0, none⟩ = some (.bool nj) := by rw [← hW13]; exact qj.cells.1
  have rqj1 : (w12.alloc (.cells #[.bool nj, .slice jo jl jc, .slice jO jL jC] 27)).cell? ⟨w12.heap.size, 1, none⟩ = some (.slice jo jl jc) := by rw [← hW13]; exact qj.cells.2.1
  have rqj2 : (w12.alloc (.cells #[.bool nj, .slice jo jl jc, .slice jO jL jC] 27)).cell? ⟨w12.heap.size, 2, none⟩ = some (.slice jO jL jC) := by rw [← hW13]; exact qj.cells.2.2
  obtain ⟨v13, hv13⟩ : ∃ v, v = w12.heap.size := ⟨_, rfl⟩
  rw [← hv13] at qj
  have HW13 : Hid (W13 = w12.alloc (.cells #[.bool nj, .slice jo jl jc, .slice jO jL jC] 27)) := hW13
  have Hv13 : Hid (v13 = w12.heap.size) := hv13
  clear hW13 hv13
  have HE : Hid (Below w.heap.size w W13) := hb
  clear hb hsz qa qh qj mA rh
  go_wp2
  rw [← HW13.out]
  go_ret
  exact ⟨rfl, HE.out⟩
set_option maxRecDepth 100000 in
set_option maxHeartbeats 6400000 in
theorem nbestAd (na : Bool) (ao aO : Option Addr) (al ac aL aC : Nat) (xa ya : List Nat) (o s : Nat) (w : World) (hA : (decide (200 < al) || decide (200 < aL)) = false) (ua : Num w (.slice ao al ac) xa) (da : Num w (.slice aO aL aC) ya) (la : xa.length ≤ 200) (la2 : ya.length ≤ 200) (ho : o < 18446744073709551616) (h1 : 9218868437227405312 ≤ nD (sdOf na (val xa)) (val xa) (undN (val ya)) % 2 ^ 63) (h3 : nS (sdOf na (val xa)) (val xa) (undN (val ya)) % 2 ^ 31 < 2139095040) (h4 : (Ieee.single.read s).isNaN = true) :
    Calls Tryz.prog 3 #[.agg #[.bool na, .slice ao al ac, .slice aO aL aC], .float .f64 o, .float .f32 s] w fun e w' => e = .returned (.bool true) ∧ Below w.heap.size w w' := by
  have hbA := fun w => big05_any na ao aO al ac aL aC w
  rw [hA] at hbA
  clear hA
  have kA0 : Hid (QN w (.agg #[.bool na, .slice ao al ac, .slice aO aL aC]) (sdOf na (val xa)) (val xa) (undN (val ya))) := qn_of ua da la la2
  have mA0 : Hid (RNum w (.agg #[.bool na, .slice ao al ac, .slice aO aL aC]) (rq (zv na (val xa)) (val ya)) 200) := rnum_of ua da la la2 (by decide) (by decide)
  clear ua da la la2
  have hX := fv_nD (sdOf na (val xa)) (val xa) (undN (val ya))
  have hY := fv_nS (sdOf na (val xa)) (val xa) (undN (val ya))
  have e1 : (FloatKind.f64.format.order (nD (sdOf na (val xa)) (val xa) (undN (val ya))) (nD (sdOf na (val xa)) (val xa) (undN (val ya))) == some .eq) = true := are_eq hX hX rfl
  have e2 : (FloatKind.f32.format.order (nS (sdOf na (val xa)) (val xa) (undN (val ya))) (nS (sdOf na (val xa)) (val xa) (undN (val ya))) == some .eq) = true := are_eqs hY hY rfl
  have HX64 : Hid (nD (sdOf na (val xa)) (val xa) (undN (val ya)) < 18446744073709551616) := hX.2.1
  have HY64 : Hid (cnv (nS (sdOf na (val xa)) (val xa) (undN (val ya))) < 18446744073709551616) := cnv_lt _
  have HO64 : Hid (o < 18446744073709551616) := ho
  have HXF : Hid (_) := h1
  have hyn : (Ieee.single.read (nS (sdOf na (val xa)) (val xa) (undN (val ya)))).isNaN = false := by rw [snan_word, decide_eq_false (by have := hY.2.2; omega)]
  have hcv : ∀ w, (convert 29 28 (.float .f32 (nS (sdOf na (val xa)) (val xa) (undN (val ya))))).run Tryz.prog w = .ok (.float .f64 (cnv (nS (sdOf na (val xa)) (val xa) (undN (val ya))))) w := fun w => run_convert_float_float _ _ _ _ _ _ _ (by kernel_rfl) Tryz.underlying28 (cnv_bits hyn)
  have HYF : Hid (cnv (nS (sdOf na (val xa)) (val xa) (undN (val ya))) % 2 ^ 63 < 9218868437227405312) := (cnv_fin hY.2.1 h3).1
  have hcn : ∀ w, (convert 29 28 (.float .f32 s)).run Tryz.prog w = .ok (.float .f64 (nanC s w)) w.drew := fun w => run_conv_nan _ _ _ (by kernel_rfl) h4
  obtain ⟨X, hX0⟩ : ∃ z, z = nD (sdOf na (val xa)) (val xa) (undN (val ya)) := ⟨_, rfl⟩
  obtain ⟨Y, hY0⟩ : ∃ z, z = nS (sdOf na (val xa)) (val xa) (undN (val ya)) := ⟨_, rfl⟩
  (try rw [← hX0] at e1)
  (try rw [← hY0] at e1)
  (try rw [← hX0] at e2)
  (try rw [← hY0] at e2)
  (try rw [← hX0] at HX64)
  (try rw [← hY0] at HX64)
  (try rw [← hX0] at HY64)
  (try rw [← hY0] at HY64)
  (try rw [← hX0] at HXF)
  (try rw [← hY0] at HXF)
  (try rw [← hX0] at HYF)
  (try rw [← hY0] at HYF)
  (try rw [← hX0] at hcv)
  (try rw [← hY0] at hcv)
  have HX : Hid (nD (sdOf na (val xa)) (val xa) (undN (val ya)) = X) := hX0.symm
  have HY : Hid (nS (sdOf na (val xa)) (val xa) (undN (val ya)) = Y) := hY0.symm
  clear hX0 hY0 hX hY h1 h3 ho hyn h4
  obtain ⟨W1, hW1⟩ : ∃ W1, W1 = w.alloc (.cells #[.bool na, .slice ao al ac, .slice aO aL aC] 27) := ⟨_, rfl⟩
  have qa : QCell W1 (w.heap.size) na (.slice ao al ac) (.slice aO aL aC) := by rw [hW1]; exact (qcell_new _ (by simp))
  have hb : Below w.heap.size w W1 := by rw [hW1]; exact belowA w _
  have hsz : w.heap.size < W1.heap.size := by rw [hW1]; simp
  have HW1 : Hid (W1 = w.alloc (.cells #[.bool na, .slice ao al ac, .slice aO aL aC] 27)) := hW1
  clear hW1
  go_enter Tryz.func3, Tryz.ntmps3
  go_wp2_with fail
  rw [← HW1.out]
  clear HW1
  obtain ⟨g, hg⟩ : ∃ g, g = w.heap.size := ⟨_, rfl⟩
  rw [← hg] at qa hsz ⊢
  have HG : Hid (g = w.heap.size) := hg
  clear hg
  refine (alive5_yes _).mono ?_
  rintro e w2 ⟨rfl, b⟩
  replace qa := qa.below b
  replace hb := bstep hb b
  replace hsz := Nat.lt_of_lt_of_le hsz b.size
  clear b
  obtain ⟨cqa0, cqa1, cqa2⟩ := qa.cells
  go_wp2_with fail
  clear cqa0 cqa1 cqa2
  refine (hbA _).mono ?_
  rintro e w3 ⟨rfl, b⟩
  replace qa := qa.below b
  replace hb := bstep hb b
  replace hsz := Nat.lt_of_lt_of_le hsz b.size
  clear b
  obtain ⟨cqa0, cqa1, cqa2⟩ := qa.cells
  go_wp2_with fail
  clear cqa0 cqa1 cqa2
  have kA := QN.below kA0.out hb
  have mA := RNum.below mA0.out hb
  have hq := qn_near kA
  rw [HX.out] at hq
  refine (hq).mono ?_
  rintro e w4 ⟨rfl, b⟩
  replace kA := kA.below b
  replace mA := mA.below b
  replace qa := qa.below b
  replace hb := bstep hb b
  replace hsz := Nat.lt_of_lt_of_le hsz b.size
  clear b
  clear hq
  obtain ⟨cqa0, cqa1, cqa2⟩ := qa.cells
  go_wp2_with fail
  clear cqa0 cqa1 cqa2
  have hq := qn_single kA
  rw [HY.out] at hq
  refine (hq).mono ?_
  rintro e w5 ⟨rfl, b⟩
  replace kA := kA.below b
  replace mA := mA.below b
  replace qa := qa.below b
  replace hb := bstep hb b
  replace hsz := Nat.lt_of_lt_of_le hsz b.size
  clear b
  clear hq
  obtain ⟨cqa0, cqa1, cqa2⟩ := qa.cells
  go_wp2_with fail
  clear cqa0 cqa1 cqa2
  clear kA
  refine (off_no na ao aO al ac aL aC X _ _ mA HX64.out HXF.out).mono ?_
  rintro e w6 ⟨np, po, pl, pc, pO, pL, pC, rfl, b⟩
  replace mA := mA.below b
  replace qa := qa.below b
  replace hb := bstep hb b
  replace hsz := Nat.lt_of_lt_of_le hsz b.size
  clear b
  have hq0 : QCell (w6.alloc (.cells #[.bool false, .slice none 0 0, .slice none 0 0] 27)) w6.heap.size false (.slice none 0 0) (.slice none 0 0) := qcell_new _ rfl
  obtain ⟨W7, hW7⟩ : ∃ W, W = w6.alloc (.cells #[.bool np, .slice po pl pc, .slice pO pL pC] 27) := ⟨_, rfl⟩
  have qp : QCell W7 (w6.heap.size) np (.slice po pl pc) (.slice pO pL pC) := by rw [hW7]; exact qcell_new _ rfl
  have b : Below w6.heap.size w6 W7 := by rw [hW7]; exact belowA _ _
  obtain ⟨z0, z1, z2⟩ := hq0.cells
  have t0 := hq0.thaw 0
  have t1 := hq0.thaw 1
  have t2 := hq0.thaw 2
  clear hq0
  replace mA := mA.below b
  replace qa := qa.below b
  replace hb := bstep hb b
  replace hsz := Nat.lt_of_lt_of_le hsz b.size
  clear b
  have rqa0 : (w6.alloc (.cells #[.bool np, .slice po pl pc, .slice pO pL pC] 27)).cell? ⟨g, 0, none⟩ = some (.bool na) := by rw [← hW7]; exact qa.cells.1
  have rqa1 : (w6.alloc (.cells #[.bool np, .slice po pl pc, .slice pO pL pC] 27)).cell? ⟨g, 1, none⟩ = some (.slice ao al ac) := by rw [← hW7]; exact qa.cells.2.1
  have rqa2 : (w6.alloc (.cells #[.bool np, .slice po pl pc, .slice pO pL pC] 27)).cell? ⟨g, 2, none⟩ = some (.slice aO aL aC) := by rw [← hW7]; exact qa.cells.2.2
  have rqp0 : (w6.alloc (.cells #[.bool np, .slice po pl pc, .slice pO pL pC] 27)).cell? ⟨w6.heap.size, 0, none⟩ = some (.bool np) := by rw [← hW7]; exact qp.cells.1
  have rqp1 : (w6.alloc (.cells #[.bool np, .slice po pl pc, .slice pO pL pC] 27)).cell? ⟨w6.heap.size, 1, none⟩ = some (.slice po pl pc) := by rw [← hW7]; exact qp.cells.2.1
  have rqp2 : (w6.alloc (.cells #[.bool np, .slice po pl pc, .slice pO pL pC] 27)).cell? ⟨w6.heap.size, 2, none⟩ = some (.slice pO pL pC) := by rw [← hW7]; exact qp.cells.2.2
  obtain ⟨v7, hv7⟩ : ∃ v, v = w6.heap.size := ⟨_, rfl⟩
  rw [← hv7] at qp
  have HW7 : Hid (W7 = w6.alloc (.cells #[.bool np, .slice po pl pc, .slice pO pL pC] 27)) := hW7
  have Hv7 : Hid (v7 = w6.heap.size) := hv7
  clear hW7 hv7
  go_wp2_with fail
  rw [← HW7.out, ← Hv7.out]
  clear HW7 Hv7 z0 z1 z2 t0 t1 t2 rqa0 rqa1 rqa2 rqp0 rqp1 rqp2
  refine (off_some na ao aO al ac aL aC o _ _ mA HO64.out).mono ?_
  rintro e w8 ⟨nq, qo, ql, qc, qO, qL, qC, flq, rfl, b⟩
  replace mA := mA.below b
  replace qa := qa.below b
  replace qp := qp.below b
  replace hb := bstep hb b
  replace hsz := Nat.lt_of_lt_of_le hsz b.size
  clear b
  have hq0 : QCell (w8.alloc (.cells #[.bool false, .slice none 0 0, .slice none 0 0] 27)) w8.heap.size false (.slice none 0 0) (.slice none 0 0) := qcell_new _ rfl
  obtain ⟨W9, hW9⟩ : ∃ W, W = w8.alloc (.cells #[.bool nq, .slice qo ql qc, .slice qO qL qC] 27) := ⟨_, rfl⟩
  have qq : QCell W9 (w8.heap.size) nq (.slice qo ql qc) (.slice qO qL qC) := by rw [hW9]; exact qcell_new _ rfl
  have b : Below w8.heap.size w8 W9 := by rw [hW9]; exact belowA _ _
  obtain ⟨z0, z1, z2⟩ := hq0.cells
  have t0 := hq0.thaw 0
  have t1 := hq0.thaw 1
  have t2 := hq0.thaw 2
  clear hq0
  replace mA := mA.below b
  replace qa := qa.below b
  replace qp := qp.below b
  replace hb := bstep hb b
  replace hsz := Nat.lt_of_lt_of_le hsz b.size
  clear b
  have rqa0 : (w8.alloc (.cells #[.bool nq, .slice qo ql qc, .slice qO qL qC] 27)).cell? ⟨g, 0, none⟩ = some (.bool na) := by rw [← hW9]; exact qa.cells.1
  have rqa1 : (w8.alloc (.cells #[.bool nq, .slice qo ql qc, .slice qO qL qC] 27)).cell? ⟨g, 1, none⟩ = some (.slice ao al ac) := by rw [← hW9]; exact qa.cells.2.1
  have rqa2 : (w8.alloc (.cells #[.bool nq, .slice qo ql qc, .slice qO qL qC] 27)).cell? ⟨g, 2, none⟩ = some (.slice aO aL aC) := by rw [← hW9]; exact qa.cells.2.2
  have rqp0 : (w8.alloc (.cells #[.bool nq, .slice qo ql qc, .slice qO qL qC] 27)).cell? ⟨v7, 0, none⟩ = some (.bool np) := by rw [← hW9]; exact qp.cells.1
  have rqp1 : (w8.alloc (.cells #[.bool nq, .slice qo ql qc, .slice qO qL qC] 27)).cell? ⟨v7, 1, none⟩ = some (.slice po pl pc) := by rw [← hW9]; exact qp.cells.2.1
  have rqp2 : (w8.alloc (.cells #[.bool nq, .slice qo ql qc, .slice qO qL qC] 27)).cell? ⟨v7, 2, none⟩ = some (.slice pO pL pC) := by rw [← hW9]; exact qp.cells.2.2
  have rqq0 : (w8.alloc (.cells #[.bool nq, .slice qo ql qc, .slice qO qL qC] 27)).cell? ⟨w8.heap.size, 0, none⟩ = some (.bool nq) := by rw [← hW9]; exact qq.cells.1
  have rqq1 : (w8.alloc (.cells #[.bool nq, .slice qo ql qc, .slice qO qL qC] 27)).cell? ⟨w8.heap.size, 1, none⟩ = some (.slice qo ql qc) := by rw [← hW9]; exact qq.cells.2.1
  have rqq2 : (w8.alloc (.cells #[.bool nq, .slice qo ql qc, .slice qO qL qC] 27)).cell? ⟨w8.heap.size, 2, none⟩ = some (.slice qO qL qC) := by rw [← hW9]; exact qq.cells.2.2
  obtain ⟨v9, hv9⟩ : ∃ v, v = w8.heap.size := ⟨_, rfl⟩
  rw [← hv9] at qq
  have HW9 : Hid (W9 = w8.alloc (.cells #[.bool nq, .slice qo ql qc, .slice qO qL qC] 27)) := hW9
  have Hv9 : Hid (v9 = w8.heap.size) := hv9
  clear hW9 hv9
  go_wp2_with fail
  rw [← HW9.out, ← Hv9.out]
  clear HW9 Hv9 z0 z1 z2 t0 t1 t2 rqa0 rqa1 rqa2 rqp0 rqp1 rqp2 rqq0 rqq1 rqq2
  clear qp qq
  refine (off_yes na ao aO al ac aL aC (cnv Y) _ _ mA HY64.out HYF.out).mono ?_
  rintro e w10 ⟨v, rfl, hv, b⟩
  obtain ⟨nh, ho, hl, hc, hO, hL, hC, rfl, rh⟩ := hv.seeS
  clear hv
  replace mA := mA.below b
  replace qa := qa.below b
  replace hb := bstep hb b
  replace hsz := Nat.lt_of_lt_of_le hsz b.size
  clear b
  have hq0 : QCell (w10.alloc (.cells #[.bool false, .slice none 0 0, .slice none 0 0] 27)) w10.heap.size false (.slice none 0 0) (.slice none 0 0) := qcell_new _ rfl
  obtain ⟨W11, hW11⟩ : ∃ W, W = w10.alloc (.cells #[.bool nh, .slice ho hl hc, .slice hO hL hC] 27) := ⟨_, rfl⟩
  have qh : QCell W11 (w10.heap.size) nh (.slice ho hl hc) (.slice hO hL hC) := by rw [hW11]; exact qcell_new _ rfl
  have b : Below w10.heap.size w10 W11 := by rw [hW11]; exact belowA _ _
  obtain ⟨z0, z1, z2⟩ := hq0.cells
  have t0 := hq0.thaw 0
  have t1 := hq0.thaw 1
  have t2 := hq0.thaw 2
  clear hq0
  replace mA := mA.below b
  replace rh := rh.below b
  replace qa := qa.below b
  replace hb := bstep hb b
  replace hsz := Nat.lt_of_lt_of_le hsz b.size
  clear b
  have rqa0 : (w10.alloc (.cells #[.bool nh, .slice ho hl hc, .slice hO hL hC] 27)).cell? ⟨g, 0, none⟩ = some (.bool na) := by rw [← hW11]; exact qa.cells.1
  have rqa1 : (w10.alloc (.cells #[.bool nh, .slice ho hl hc, .slice hO hL hC] 27)).cell? ⟨g, 1, none⟩ = some (.slice ao al ac) := by rw [← hW11]; exact qa.cells.2.1
  have rqa2 : (w10.alloc (.cells #[.bool nh, .slice ho hl hc, .slice hO hL hC] 27)).cell? ⟨g, 2, none⟩ = some (.slice aO aL aC) := by rw [← hW11]; exact qa.cells.2.2
  have rqh0 : (w10.alloc (.cells #[.bool nh, .slice ho hl hc, .slice hO hL hC] 27)).cell? ⟨w10.heap.size, 0, none⟩ = some (.bool nh) := by rw [← hW11]; exact qh.cells.1
  have rqh1 : (w10.alloc (.cells #[.bool nh, .slice ho hl hc, .slice hO hL hC] 27)).cell? ⟨w10.heap.size, 1, none⟩ = some (.slice ho hl hc) := by rw [← hW11]; exact qh.cells.2.1
  have rqh2 : (w10.alloc (.cells #[.bool nh, .slice ho hl hc, .slice hO hL hC] 27)).cell? ⟨w10.heap.size, 2, none⟩ = some (.slice hO hL hC) := by rw [← hW11]; exact qh.cells.2.2
  obtain ⟨v11, hv11⟩ : ∃ v, v = w10.heap.size := ⟨_, rfl⟩
  rw [← hv11] at qh
  have HW11 : Hid (W11 = w10.alloc (.cells #[.bool nh, .slice ho hl hc, .slice hO hL hC] 27)) := hW11
  have Hv11 : Hid (v11 = w10.heap.size) := hv11
  clear hW11 hv11
  go_wp2_with fail
  rw [← HW11.out, ← Hv11.out]
  clear HW11 Hv11 z0 z1 z2 t0 t1 t2 rqa0 rqa1 rqa2 rqh0 rqh1 rqh2
  have hn1 := nanC_lt s W11
  have hn2 := nanC_big s W11
  have b : Below W11.heap.size W11 W11.drew := (Below.refl _ _).drew
  replace mA := mA.below b
  replace rh := rh.below b
  replace qa := qa.below b
  replace qh := qh.below b
  replace hb := bstep hb b
  replace hsz := Nat.lt_of_lt_of_le hsz b.size
  clear b
  generalize nanC s W11 = nn at *
  generalize W11.drew = w12 at *
  refine (off_no na ao aO al ac aL aC nn _ _ mA hn1 hn2).mono ?_
  rintro e w13 ⟨nj, jo, jl, jc, jO, jL, jC, rfl, b⟩
  replace mA := mA.below b
  replace rh := rh.below b
  replace qa := qa.below b
  replace qh := qh.below b
  replace hb := bstep hb b
  replace hsz := Nat.lt_of_lt_of_le hsz b.size
  clear b
  have hq0 : QCell (w13.alloc (.cells #[.bool false, .slice none 0 0, .slice none 0 0] 27)) w13.heap.size false (.slice none 0 0) (.slice none 0 0) := qcell_new _ rfl
  obtain ⟨W14, hW14⟩ : ∃ W, W = w13.alloc (.cells #[.bool nj, .slice jo jl jc, .slice jO jL jC] 27) := ⟨_, rfl⟩
  have qj : QCell W14 (w13.heap.size) nj (.slice jo jl jc) (.slice jO jL jC) := by rw [hW14]; exact qcell_new _ rfl
  have b : Below w13.heap.size w13 W14 := by rw [hW14]; exact belowA _ _
  obtain ⟨z0, z1, z2⟩ := hq0.cells
  have t0 := hq0.thaw 0
  have t1 := hq0.thaw 1
  have t2 := hq0.thaw 2
  clear hq0
  replace mA := mA.below b
  replace rh := rh.below b
  replace qa := qa.below b
  replace qh := qh.below b
  replace hb := bstep hb b
  replace hsz := Nat.lt_of_lt_of_le hsz b.size
  clear b
  have rqa0 : (w13.alloc (.cells #[.bool nj, .slice jo jl jc, .slice jO jL jC] 27)).cell? ⟨g, 0, none⟩ = some (.bool na) := by rw [← hW14]; exact qa.cells.1
  have rqa1 : (w13.alloc (.cells #[.bool nj, .slice jo jl jc, .slice jO jL jC] 27)).cell? ⟨g, 1, none⟩ = some (.slice ao al ac) := by rw [← hW14]; exact qa.cells.2.1
  have rqa2 : (w13.alloc (.cells #[.bool nj, .slice jo jl jc, .slice jO jL jC] 27)).cell? ⟨g, 2, none⟩ = some (.slice aO aL aC) := by rw [← hW14]; exact qa.cells.2.2
  have rqh0 : (w13.alloc (.cells #[.bool nj, .slice jo jl jc, .slice jO jL jC] 27)).cell? ⟨v11, 0, none⟩ = some (.bool nh) := by rw [← hW14]; exact qh.cells.1
  have rqh1 : (w13.alloc (.cells #[.bool nj, .slice jo jl jc, .slice jO jL jC] 27)).cell? ⟨v11, 1, none⟩ = some (.slice ho hl hc) := by rw [← hW14]; exact qh.cells.2.1
  have rqh2 : (w13.alloc (.cells #[.bool nj, .slice jo jl jc, .slice jO jL jC] 27)).cell? ⟨v11, 2, none⟩ = some (.slice hO hL hC) := by rw [← hW14]; exact qh.cells.2.2
  have rqj0 : (w13.alloc (.cells #[.bool nj, .slice jo jl jc, .slice jO jL jC] 27)).cell? ⟨w13.heap.size, 0, none⟩ = some (.bool nj) := by rw [← hW14]; exact qj.cells.1
  have rqj1 : (w13.alloc (.cells #[.bool nj, .slice jo jl jc, .slice jO jL jC] 27)).cell? ⟨w13.heap.size, 1, none⟩ = some (.slice jo jl jc) := by rw [← hW14]; exact qj.cells.2.1
  have rqj2 : (w13.alloc (.cells #[.bool nj, .slice jo jl jc, .slice jO jL jC] 27)).cell? ⟨w13.heap.size, 2, none⟩ = some (.slice jO jL jC) := by rw [← hW14]; exact qj.cells.2.2
  obtain ⟨v14, hv14⟩ : ∃ v, v = w13.heap.size := ⟨_, rfl⟩
  rw [← hv14] at qj
  have HW14 : Hid (W14 = w13.alloc (.cells #[.bool nj, .slice jo jl jc, .slice jO jL jC] 27)) := hW14
  have Hv14 : Hid (v14 = w13.heap.size) := hv14
  clear hW14 hv14
  have HE : Hid (Below w.heap.size w W14) := hb
  clear hb hsz qa qh qj mA rh
  go_wp2
  rw [← HW14.out]
  go_ret
  exact ⟨rfl, HE.out⟩
set_option maxRecDepth 100000 in
set_option maxHeartbeats 6400000 in
theorem nbestAe (na : Bool) (ao aO : Option Addr) (al ac aL aC : Nat) (xa ya : List Nat) (o s : Nat) (w : World) (hA : (decide (200 < al) || decide (200 < aL)) = false) (ua : Num w (.slice ao al ac) xa) (da : Num w (.slice aO aL aC) ya) (la : xa.length ≤ 200) (la2 : ya.length ≤ 200) (ho : o < 18446744073709551616) (hs : s < 4294967296) (h1 : 9218868437227405312 ≤ nD (sdOf na (val xa)) (val xa) (undN (val ya)) % 2 ^ 63) (h3 : nS (sdOf na (val xa)) (val xa) (undN (val ya)) % 2 ^ 31 < 2139095040) (h4 : s % 2 ^ 31 < 2139095040) :
    Calls Tryz.prog 3 #[.agg #[.bool na, .slice ao al ac, .slice aO aL aC], .float .f64 o, .float .f32 s] w fun e w' => e = .returned (.bool true) ∧ Below w.heap.size w w' := by
  have hbA := fun w => big05_any na ao aO al ac aL aC w
  rw [hA] at hbA
  clear hA
  have kA0 : Hid (QN w (.agg #[.bool na, .slice ao al ac, .slice aO aL aC]) (sdOf na (val xa)) (val xa) (undN (val ya))) := qn_of ua da la la2
  have mA0 : Hid (RNum w (.agg #[.bool na, .slice ao al ac, .slice aO aL aC]) (rq (zv na (val xa)) (val ya)) 200) := rnum_of ua da la la2 (by decide) (by decide)
  clear ua da la la2
  have hX := fv_nD (sdOf na (val xa)) (val xa) (undN (val ya))
  have hY := fv_nS (sdOf na (val xa)) (val xa) (undN (val ya))
  have e1 : (FloatKind.f64.format.order (nD (sdOf na (val xa)) (val xa) (undN (val ya))) (nD (sdOf na (val xa)) (val xa) (undN (val ya))) == some .eq) = true := are_eq hX hX rfl
  have e2 : (FloatKind.f32.format.order (nS (sdOf na (val xa)) (val xa) (undN (val ya))) (nS (sdOf na (val xa)) (val xa) (undN (val ya))) == some .eq) = true := are_eqs hY hY rfl
  have HX64 : Hid (nD (sdOf na (val xa)) (val xa) (undN (val ya)) < 18446744073709551616) := hX.2.1
  have HY64 : Hid (cnv (nS (sdOf na (val xa)) (val xa) (undN (val ya))) < 18446744073709551616) := cnv_lt _
  have HO64 : Hid (o < 18446744073709551616) := ho
  have HXF : Hid (_) := h1
  have hyn : (Ieee.single.read (nS (sdOf na (val xa)) (val xa) (undN (val ya)))).isNaN = false := by rw [snan_word, decide_eq_false (by have := hY.2.2; omega)]
  have hcv : ∀ w, (convert 29 28 (.float .f32 (nS (sdOf na (val xa)) (val xa) (undN (val ya))))).run Tryz.prog w = .ok (.float .f64 (cnv (nS (sdOf na (val xa)) (val xa) (undN (val ya))))) w := fun w => run_convert_float_float _ _ _ _ _ _ _ (by kernel_rfl) Tryz.underlying28 (cnv_bits hyn)
  have HYF : Hid (cnv (nS (sdOf na (val xa)) (val xa) (undN (val ya))) % 2 ^ 63 < 9218868437227405312) := (cnv_fin hY.2.1 h3).1
  have hsn : (Ieee.single.read s).isNaN = false := by rw [snan_word, decide_eq_false (by omega)]
  have hcs : ∀ w, (convert 29 28 (.float .f32 s)).run Tryz.prog w = .ok (.float .f64 (cnv s)) w := fun w => run_convert_float_float _ _ _ _ _ _ _ (by kernel_rfl) Tryz.underlying28 (cnv_bits hsn)
  have HS64 : Hid (cnv s < 18446744073709551616) := cnv_lt _
  have HSF : Hid (cnv s % 2 ^ 63 < 9218868437227405312) := (cnv_fin hs h4).1
  have hbst := best32 (na := na) (N := val xa) (q := val ya) (o := s) h3 hs h4
  have hne := fvs_ne (x := nS (sdOf na (val xa)) (val xa) (undN (val ya))) (y := s) hY.2 ⟨hs, Nat.le_of_lt h4⟩
  have HSH : Hid (RSz (absQ ((rq (zv na (val xa)) (val ya)) - fR (cnv (nS (sdOf na (val xa)) (val xa) (undN (val ya)))))) 301) := rs_abs (rs_subx mA0.out (fR_sz (cnv_fin hY.2.1 h3).1))
  have HSJ : Hid (RSz (absQ ((rq (zv na (val xa)) (val ya)) - fR (cnv s))) 301) := rs_abs (rs_subx mA0.out (fR_sz (cnv_fin hs h4).1))
  obtain ⟨c2, hc2⟩ : ∃ c, c = cmpQ (absQ ((rq (zv na (val xa)) (val ya)) - fR (cnv (nS (sdOf na (val xa)) (val xa) (undN (val ya)))))) (absQ ((rq (zv na (val xa)) (val ya)) - fR (cnv s))) := ⟨_, rfl⟩
  rw [← hc2] at hbst
  have HC2 : Hid (cmpQ (absQ ((rq (zv na (val xa)) (val ya)) - fR (cnv (nS (sdOf na (val xa)) (val xa) (undN (val ya)))))) (absQ ((rq (zv na (val xa)) (val ya)) - fR (cnv s))) = c2) := hc2.symm
  have hE := three_ways hbst hne
  have g2 : decide (0 < c2) = false := decide_eq_false (by have := hbst.1; omega)
  clear hbst hne hc2
  obtain ⟨X, hX0⟩ : ∃ z, z = nD (sdOf na (val xa)) (val xa) (undN (val ya)) := ⟨_, rfl⟩
  obtain ⟨Y, hY0⟩ : ∃ z, z = nS (sdOf na (val xa)) (val xa) (undN (val ya)) := ⟨_, rfl⟩
  (try rw [← hX0] at e1)
  (try rw [← hY0] at e1)
  (try rw [← hX0] at e2)
  (try rw [← hY0] at e2)
  (try rw [← hX0] at HX64)
  (try rw [← hY0] at HX64)
  (try rw [← hX0] at HY64)
  (try rw [← hY0] at HY64)
  (try rw [← hX0] at HXF)
  (try rw [← hY0] at HXF)
  (try rw [← hX0] at HYF)
  (try rw [← hY0] at HYF)
  (try rw [← hX0] at hcv)
  (try rw [← hY0] at hcv)
  (try rw [← hX0] at HSH)
  (try rw [← hY0] at HSH)
  (try rw [← hX0] at HC2)
  (try rw [← hY0] at HC2)
  (try rw [← hX0] at hE)
  (try rw [← hY0] at hE)
  have HX : Hid (nD (sdOf na (val xa)) (val xa) (undN (val ya)) = X) := hX0.symm
  have HY : Hid (nS (sdOf na (val xa)) (val xa) (undN (val ya)) = Y) := hY0.symm
  clear hX0 hY0 hX hY h1 h3 ho hyn h4 hsn hs
  rcases hE with hE | ⟨hE, hE2⟩ | ⟨hE, hE2, hE3, hE4⟩
  all_goals
    obtain ⟨W1, hW1⟩ : ∃ W1, W1 = w.alloc (.cells #[.bool na, .slice ao al ac, .slice aO aL aC] 27) := ⟨_, rfl⟩
    have qa : QCell W1 (w.heap.size) na (.slice ao al ac) (.slice aO aL aC) := by rw [hW1]; exact (qcell_new _ (by simp))
    have hb : Below w.heap.size w W1 := by rw [hW1]; exact belowA w _
    have hsz : w.heap.size < W1.heap.size := by rw [hW1]; simp
    have HW1 : Hid (W1 = w.alloc (.cells #[.bool na, .slice ao al ac, .slice aO aL aC] 27)) := hW1
    clear hW1
    go_enter Tryz.func3, Tryz.ntmps3
    go_wp2_with fail
    rw [← HW1.out]
    clear HW1
    obtain ⟨g, hg⟩ : ∃ g, g = w.heap.size := ⟨_, rfl⟩
    rw [← hg] at qa hsz ⊢
    have HG : Hid (g = w.heap.size) := hg
    clear hg
    refine (alive5_yes _).mono ?_
    rintro e w2 ⟨rfl, b⟩
    replace qa := qa.below b
    replace hb := bstep hb b
    replace hsz := Nat.lt_of_lt_of_le hsz b.size
    clear b
    obtain ⟨cqa0, cqa1, cqa2⟩ := qa.cells
    go_wp2_with fail
    clear cqa0 cqa1 cqa2
    refine (hbA _).mono ?_
    rintro e w3 ⟨rfl, b⟩
    replace qa := qa.below b
    replace hb := bstep hb b
    replace hsz := Nat.lt_of_lt_of_le hsz b.size
    clear b
    obtain ⟨cqa0, cqa1, cqa2⟩ := qa.cells
    go_wp2_with fail
    clear cqa0 cqa1 cqa2
    have kA := QN.below kA0.out hb
    have mA := RNum.below mA0.out hb
    have hq := qn_near kA
    rw [HX.out] at hq
    refine (hq).mono ?_
    rintro e w4 ⟨rfl, b⟩
    replace kA := kA.below b
    replace mA := mA.below b
    replace qa := qa.below b
    replace hb := bstep hb b
    replace hsz := Nat.lt_of_lt_of_le hsz b.size
    clear b
    clear hq
    obtain ⟨cqa0, cqa1, cqa2⟩ := qa.cells
    go_wp2_with fail
    clear cqa0 cqa1 cqa2
    have hq := qn_single kA
    rw [HY.out] at hq
    refine (hq).mono ?_
    rintro e w5 ⟨rfl, b⟩
    replace kA := kA.below b
    replace mA := mA.below b
    replace qa := qa.below b
    replace hb := bstep hb b
    replace hsz := Nat.lt_of_lt_of_le hsz b.size
    clear b
    clear hq
    obtain ⟨cqa0, cqa1, cqa2⟩ := qa.cells
    go_wp2_with fail
    clear cqa0 cqa1 cqa2
    clear kA
    refine (off_no na ao aO al ac aL aC X _ _ mA HX64.out HXF.out).mono ?_
    rintro e w6 ⟨np, po, pl, pc, pO, pL, pC, rfl, b⟩
    replace mA := mA.below b
    replace qa := qa.below b
    replace hb := bstep hb b
    replace hsz := Nat.lt_of_lt_of_le hsz b.size
    clear b
    have hq0 : QCell (w6.alloc (.cells #[.bool false, .slice none 0 0, .slice none 0 0] 27)) w6.heap.size false (.slice none 0 0) (.slice none 0 0) := qcell_new _ rfl
    obtain ⟨W7, hW7⟩ : ∃ W, W = w6.alloc (.cells #[.bool np, .slice po pl pc, .slice pO pL pC] 27) := ⟨_, rfl⟩
    have qp : QCell W7 (w6.heap.size) np (.slice po pl pc) (.slice pO pL pC) := by rw [hW7]; exact qcell_new _ rfl
    have b : Below w6.heap.size w6 W7 := by rw [hW7]; exact belowA _ _
    obtain ⟨z0, z1, z2⟩ := hq0.cells
    have t0 := hq0.thaw 0
    have t1 := hq0.thaw 1
    have t2 := hq0.thaw 2
    clear hq0
    replace mA := mA.below b
    replace qa := qa.below b
    replace hb := bstep hb b
    replace hsz := Nat.lt_of_lt_of_le hsz b.size
    clear b
    have rqa0 : (w6.alloc (.cells #[.bool np, .slice po pl pc, .slice pO pL pC] 27)).cell? ⟨g, 0, none⟩ = some (.bool na) := by rw [← hW7]; exact qa.cells.1
    have rqa1 : (w6.alloc (.cells #[.bool np, .slice po pl pc, .slice pO pL pC] 27)).cell? ⟨g, 1, none⟩ = some (.slice ao al ac) := by rw [← hW7]; exact qa.cells.2.1
    have rqa2 : (w6.alloc (.cells #[.bool np, .slice po pl pc, .slice pO pL pC] 27)).cell? ⟨g, 2, none⟩ = some (.slice aO aL aC) := by rw [← hW7]; exact qa.cells.2.2
    have rqp0 : (w6.alloc (.cells #[.bool np, .slice po pl pc, .slice pO pL pC] 27)).cell? ⟨w6.heap.size, 0, none⟩ = some (.bool np) := by rw [← hW7]; exact qp.cells.1
    have rqp1 : (w6.alloc (.cells #[.bool np, .slice po pl pc, .slice pO pL pC] 27)).cell? ⟨w6.heap.size, 1, none⟩ = some (.slice po pl pc) := by rw [← hW7]; exact qp.cells.2.1
    have rqp2 : (w6.alloc (.cells #[.bool np, .slice po pl pc, .slice pO pL pC] 27)).cell? ⟨w6.heap.size, 2, none⟩ = some (.slice pO pL pC) := by rw [← hW7]; exact qp.cells.2.2
    obtain ⟨v7, hv7⟩ : ∃ v, v = w6.heap.size := ⟨_, rfl⟩
    rw [← hv7] at qp
    have HW7 : Hid (W7 = w6.alloc (.cells #[.bool np, .slice po pl pc, .slice pO pL pC] 27)) := hW7
    have Hv7 : Hid (v7 = w6.heap.size) := hv7
    clear hW7 hv7
    go_wp2_with fail
    rw [← HW7.out, ← Hv7.out]
    clear HW7 Hv7 z0 z1 z2 t0 t1 t2 rqa0 rqa1 rqa2 rqp0 rqp1 rqp2
    refine (off_some na ao aO al ac aL aC o _ _ mA HO64.out).mono ?_
    rintro e w8 ⟨nq, qo, ql, qc, qO, qL, qC, flq, rfl, b⟩
    replace mA := mA.below b
    replace qa := qa.below b
    replace qp := qp.below b
    replace hb := bstep hb b
    replace hsz := Nat.lt_of_lt_of_le hsz b.size
    clear b
    have hq0 : QCell (w8.alloc (.cells #[.bool false, .slice none 0 0, .slice none 0 0] 27)) w8.heap.size false (.slice none 0 0) (.slice none 0 0) := qcell_new _ rfl
    obtain ⟨W9, hW9⟩ : ∃ W, W = w8.alloc (.cells #[.bool nq, .slice qo ql qc, .slice qO qL qC] 27) := ⟨_, rfl⟩
    have qq : QCell W9 (w8.heap.size) nq (.slice qo ql qc) (.slice qO qL qC) := by rw [hW9]; exact qcell_new _ rfl
    have b : Below w8.heap.size w8 W9 := by rw [hW9]; exact belowA _ _
    obtain ⟨z0, z1, z2⟩ := hq0.cells
    have t0 := hq0.thaw 0
    have t1 := hq0.thaw 1
    have t2 := hq0.thaw 2
    clear hq0
    replace mA := mA.below b
    replace qa := qa.below b
    replace qp := qp.below b
    replace hb := bstep hb b
    replace hsz := Nat.lt_of_lt_of_le hsz b.size
    clear b
    have rqa0 : (w8.alloc (.cells #[.bool nq, .slice qo ql qc, .slice qO qL qC] 27)).cell? ⟨g, 0, none⟩ = some (.bool na) := by rw [← hW9]; exact qa.cells.1
    have rqa1 : (w8.alloc (.cells #[.bool nq, .slice qo ql qc, .slice qO qL qC] 27)).cell? ⟨g, 1, none⟩ = some (.slice ao al ac) := by rw [← hW9]; exact qa.cells.2.1
    have rqa2 : (w8.alloc (.cells #[.bool nq, .slice qo ql qc, .slice qO qL qC] 27)).cell? ⟨g, 2, none⟩ = some (.slice aO aL aC) := by rw [← hW9]; exact qa.cells.2.2
    have rqp0 : (w8.alloc (.cells #[.bool nq, .slice qo ql qc, .slice qO qL qC] 27)).cell? ⟨v7, 0, none⟩ = some (.bool np) := by rw [← hW9]; exact qp.cells.1
    have rqp1 : (w8.alloc (.cells #[.bool nq, .slice qo ql qc, .slice qO qL qC] 27)).cell? ⟨v7, 1, none⟩ = some (.slice po pl pc) := by rw [← hW9]; exact qp.cells.2.1
    have rqp2 : (w8.alloc (.cells #[.bool nq, .slice qo ql qc, .slice qO qL qC] 27)).cell? ⟨v7, 2, none⟩ = some (.slice pO pL pC) := by rw [← hW9]; exact qp.cells.2.2
    have rqq0 : (w8.alloc (.cells #[.bool nq, .slice qo ql qc, .slice qO qL qC] 27)).cell? ⟨w8.heap.size, 0, none⟩ = some (.bool nq) := by rw [← hW9]; exact qq.cells.1
    have rqq1 : (w8.alloc (.cells #[.bool nq, .slice qo ql qc, .slice qO qL qC] 27)).cell? ⟨w8.heap.size, 1, none⟩ = some (.slice qo ql qc) := by rw [← hW9]; exact qq.cells.2.1
    have rqq2 : (w8.alloc (.cells #[.bool nq, .slice qo ql qc, .slice qO qL qC] 27)).cell? ⟨w8.heap.size, 2, none⟩ = some (.slice qO qL qC) := by rw [← hW9]; exact qq.cells.2.2
    obtain ⟨v9, hv9⟩ : ∃ v, v = w8.heap.size := ⟨_, rfl⟩
    rw [← hv9] at qq
    have HW9 : Hid (W9 = w8.alloc (.cells #[.bool nq, .slice qo ql qc, .slice qO qL qC] 27)) := hW9
    have Hv9 : Hid (v9 = w8.heap.size) := hv9
    clear hW9 hv9
    go_wp2_with fail
    rw [← HW9.out, ← Hv9.out]
    clear HW9 Hv9 z0 z1 z2 t0 t1 t2 rqa0 rqa1 rqa2 rqp0 rqp1 rqp2 rqq0 rqq1 rqq2
    clear qp qq
    refine (off_yes na ao aO al ac aL aC (cnv Y) _ _ mA HY64.out HYF.out).mono ?_
    rintro e w10 ⟨v, rfl, hv, b⟩
    obtain ⟨nh, ho, hl, hc, hO, hL, hC, rfl, rh⟩ := hv.seeS
    clear hv
    replace mA := mA.below b
    replace qa := qa.below b
    replace hb := bstep hb b
    replace hsz := Nat.lt_of_lt_of_le hsz b.size
    clear b
    have hq0 : QCell (w10.alloc (.cells #[.bool false, .slice none 0 0, .slice none 0 0] 27)) w10.heap.size false (.slice none 0 0) (.slice none 0 0) := qcell_new _ rfl
    obtain ⟨W11, hW11⟩ : ∃ W, W = w10.alloc (.cells #[.bool nh, .slice ho hl hc, .slice hO hL hC] 27) := ⟨_, rfl⟩
    have qh : QCell W11 (w10.heap.size) nh (.slice ho hl hc) (.slice hO hL hC) := by rw [hW11]; exact qcell_new _ rfl
    have b : Below w10.heap.size w10 W11 := by rw [hW11]; exact belowA _ _
    obtain ⟨z0, z1, z2⟩ := hq0.cells
    have t0 := hq0.thaw 0
    have t1 := hq0.thaw 1
    have t2 := hq0.thaw 2
    clear hq0
    replace mA := mA.below b
    replace rh := rh.below b
    replace qa := qa.below b
    replace hb := bstep hb b
    replace hsz := Nat.lt_of_lt_of_le hsz b.size
    clear b
    have rqa0 : (w10.alloc (.cells #[.bool nh, .slice ho hl hc, .slice hO hL hC] 27)).cell? ⟨g, 0, none⟩ = some (.bool na) := by rw [← hW11]; exact qa.cells.1
    have rqa1 : (w10.alloc (.cells #[.bool nh, .slice ho hl hc, .slice hO hL hC] 27)).cell? ⟨g, 1, none⟩ = some (.slice ao al ac) := by rw [← hW11]; exact qa.cells.2.1
    have rqa2 : (w10.alloc (.cells #[.bool nh, .slice ho hl hc, .slice hO hL hC] 27)).cell? ⟨g, 2, none⟩ = some (.slice aO aL aC) := by rw [← hW11]; exact qa.cells.2.2
    have rqh0 : (w10.alloc (.cells #[.bool nh, .slice ho hl hc, .slice hO hL hC] 27)).cell? ⟨w10.heap.size, 0, none⟩ = some (.bool nh) := by rw [← hW11]; exact qh.cells.1
    have rqh1 : (w10.alloc (.cells #[.bool nh, .slice ho hl hc, .slice hO hL hC] 27)).cell? ⟨w10.heap.size, 1, none⟩ = some (.slice ho hl hc) := by rw [← hW11]; exact qh.cells.2.1
    have rqh2 : (w10.alloc (.cells #[.bool nh, .slice ho hl hc, .slice hO hL hC] 27)).cell? ⟨w10.heap.size, 2, none⟩ = some (.slice hO hL hC) := by rw [← hW11]; exact qh.cells.2.2
    obtain ⟨v11, hv11⟩ : ∃ v, v = w10.heap.size := ⟨_, rfl⟩
    rw [← hv11] at qh
    have HW11 : Hid (W11 = w10.alloc (.cells #[.bool nh, .slice ho hl hc, .slice hO hL hC] 27)) := hW11
    have Hv11 : Hid (v11 = w10.heap.size) := hv11
    clear hW11 hv11
    go_wp2_with fail
    rw [← HW11.out, ← Hv11.out]
    clear HW11 Hv11 z0 z1 z2 t0 t1 t2 rqa0 rqa1 rqa2 rqh0 rqh1 rqh2
    refine (off_yes na ao aO al ac aL aC (cnv s) _ _ mA HS64.out HSF.out).mono ?_
    rintro e w12 ⟨v, rfl, hv, b⟩
    obtain ⟨nj, jo, jl, jc, jO, jL, jC, rfl, rj⟩ := hv.seeS
    clear hv
    replace mA := mA.below b
    replace rh := rh.below b
    replace qa := qa.below b
    replace qh := qh.below b
    replace hb := bstep hb b
    replace hsz := Nat.lt_of_lt_of_le hsz b.size
    clear b
    have hq0 : QCell (w12.alloc (.cells #[.bool false, .slice none 0 0, .slice none 0 0] 27)) w12.heap.size false (.slice none 0 0) (.slice none 0 0) := qcell_new _ rfl
    obtain ⟨W13, hW13⟩ : ∃ W, W = w12.alloc (.cells #[.bool nj, .slice jo jl jc, .slice jO jL jC] 27) := ⟨_, rfl⟩
    have qj : QCell W13 (w12.heap.size) nj (.slice jo jl jc) (.slice jO jL jC) := by rw [hW13]; exact qcell_new _ rfl
    have b : Below w12.heap.size w12 W13 := by rw [hW13]; exact belowA _ _
    obtain ⟨z0, z1, z2⟩ := hq0.cells
    have t0 := hq0.thaw 0
    have t1 := hq0.thaw 1
    have t2 := hq0.thaw 2
    clear hq0
    replace mA := mA.below b
    replace rh := rh.below b
    replace rj := rj.below b
    replace qa := qa.below b
    replace qh := qh.below b
    replace hb := bstep hb b
    replace hsz := Nat.lt_of_lt_of_le hsz b.size
    clear b
    have rqa0 : (w12.alloc (.cells #[.bool nj, .slice jo jl jc, .slice jO jL jC] 27)).cell? ⟨g, 0, none⟩ = some (.bool na) := by rw [← hW13]; exact qa.cells.1
    have rqa1 : (w12.alloc (.cells #[.bool nj, .slice jo jl jc, .slice jO jL jC] 27)).cell? ⟨g, 1, none⟩ = some (.slice ao al ac) := by rw [← hW13]; exact qa.cells.2.1
    have rqa2 : (w12.alloc (.cells #[.bool nj, .slice jo jl jc, .slice jO jL jC] 27)).cell? ⟨g, 2, none⟩ = some (.slice aO aL aC) := by rw [← hW13]; exact qa.cells.2.2
    have rqh0 : (w12.alloc (.cells #[.bool nj, .slice jo jl jc, .slice jO jL jC] 27)).cell? ⟨v11, 0, none⟩ = some (.bool nh) := by rw [← hW13]; exact qh.cells.1
    have rqh1 : (w12.alloc (.cells #[.bool nj, .slice jo jl jc, .slice jO jL jC] 27)).cell? ⟨v11, 1, none⟩ = some (.slice ho hl hc) := by rw [← hW13]; exact qh.cells.2.1
    have rqh2 : (w12.alloc (.cells #[.bool nj, .slice jo jl jc, .slice jO jL jC] 27)).cell? ⟨v11, 2, none⟩ = some (.slice hO hL hC) := by rw [← hW13]; exact qh.cells.2.2
    have rqj0 : (w12.alloc (.cells #[.bool nj, .slice jo jl jc, .slice jO jL jC] 27)).cell? ⟨w12.heap.size, 0, none⟩ = some (.bool nj) := by rw [← hW13]; exact qj.cells.1
    have rqj1 : (w12.alloc (.cells #[.bool nj, .slice jo jl jc, .slice jO jL jC] 27)).cell? ⟨w12.heap.size, 1, none⟩ = some (.slice jo jl jc) := by rw [← hW13]; exact qj.cells.2.1
    have rqj2 : (w12.alloc (.cells #[.bool nj, .slice jo jl jc, .slice jO jL jC] 27)).cell? ⟨w12.heap.size, 2, none⟩ = some (.slice jO jL jC) := by rw [← hW13]; exact qj.cells.2.2
    obtain ⟨v13, hv13⟩ : ∃ v, v = w12.heap.size := ⟨_, rfl⟩
    rw [← hv13] at qj
    have HW13 : Hid (W13 = w12.alloc (.cells #[.bool nj, .slice jo jl jc, .slice jO jL jC] 27)) := hW13
    have Hv13 : Hid (v13 = w12.heap.size) := hv13
    clear hW13 hv13
    go_wp2_with fail
    rw [← HW13.out, ← Hv13.out]
    clear HW13 Hv13 z0 z1 z2 t0 t1 t2 rqa0 rqa1 rqa2 rqh0 rqh1 rqh2 rqj0 rqj1 rqj2
    have hq := c_rcmp (rh.num HSH.out (by decide)) (rj.num HSJ.out (by decide)) (by decide)
    rw [HC2.out] at hq
    refine (hq).mono ?_
    rintro e w14 ⟨rfl, b⟩
    replace mA := mA.below b
    replace rh := rh.below b
    replace rj := rj.below b
    replace qa := qa.below b
    replace qh := qh.below b
    replace qj := qj.below b
    replace hb := bstep hb b
    replace hsz := Nat.lt_of_lt_of_le hsz b.size
    clear b
    clear hq
    have HE : Hid (Below w.heap.size w w14) := hb
    clear hb hsz qa qh qj mA rh rj
    go_wp2
    go_ret
    exact ⟨rfl, HE.out⟩
end Go.Proofs.YtbcddjibgaccpaaGreatDoor
