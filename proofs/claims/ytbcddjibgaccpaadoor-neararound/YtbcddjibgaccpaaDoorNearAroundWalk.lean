/-
  Proved here: NearAround of any fraction returns true, and writes nothing that was there.
-/
import Derived.Test.YtbcddjibgaccpaaDoorNearNext
import Derived.WalkLawsBesides
namespace Go.Proofs.YtbcddjibgaccpaaDoor
open Go.RowKit

set_option maxRecDepth 100000 in
set_option maxHeartbeats 6400000 in
theorem naround_big (na : Bool) (ao aO : Option Addr) (al ac aL aC : Nat) (w : World) (hA : (decide (200 < al) || decide (200 < aL)) = true) :
    Calls Tryd.prog 3 #[.agg #[.bool na, .slice ao al ac, .slice aO aL aC]] w fun e w' => e = .returned (.bool true) ∧ Below w.heap.size w w' := by
  have hbA := fun w => big05_any na ao aO al ac aL aC w
  rw [hA] at hbA
  clear hA
  obtain ⟨W1, hW1⟩ : ∃ W1, W1 = w.alloc (.cells #[.bool na, .slice ao al ac, .slice aO aL aC] 27) := ⟨_, rfl⟩
  have qa : QCell W1 (w.heap.size) na (.slice ao al ac) (.slice aO aL aC) := by rw [hW1]; exact (qcell_new _ (by simp))
  have hb : Below w.heap.size w W1 := by rw [hW1]; exact belowA w _
  have hsz : w.heap.size < W1.heap.size := by rw [hW1]; simp
  have HW1 : Hid (W1 = w.alloc (.cells #[.bool na, .slice ao al ac, .slice aO aL aC] 27)) := hW1
  clear hW1
  go_enter Tryd.func3, Tryd.ntmps3
  go_wp2_with fail
  rw [← HW1.out]
  clear HW1
  obtain ⟨g, hg⟩ : ∃ g, g = w.heap.size := ⟨_, rfl⟩
  rw [← hg] at qa hsz ⊢
  have HG : Hid (g = w.heap.size) := hg
  clear hg
  refine (alive5_yes _).mono ?_
  rintro e w2 ⟨rfl, b⟩
  replace qa := qa.below b
  replace hb := bstep hb b
  replace hsz := Nat.lt_of_lt_of_le hsz b.size
  clear b
  obtain ⟨cqa0, cqa1, cqa2⟩ := qa.cells
  go_wp2_with fail
  clear cqa0 cqa1 cqa2
  refine (hbA _).mono ?_
  rintro e w3 ⟨rfl, b⟩
  replace qa := qa.below b
  replace hb := bstep hb b
  replace hsz := Nat.lt_of_lt_of_le hsz b.size
  clear b
  obtain ⟨cqa0, cqa1, cqa2⟩ := qa.cells
  have HE : Hid (Below w.heap.size w w3) := hb
  clear hb hsz qa
  go_wp2
  go_ret
  exact ⟨rfl, HE.out⟩
set_option maxRecDepth 100000 in
set_option maxHeartbeats 6400000 in
theorem naroundE (na : Bool) (ao aO : Option Addr) (al ac aL aC : Nat) (xa ya : List Nat) (w : World) (hA : (decide (200 < al) || decide (200 < aL)) = false) (ua : Num w (.slice ao al ac) xa) (da : Num w (.slice aO aL aC) ya) (la : xa.length ≤ 200) (la2 : ya.length ≤ 200) (fa ab nn : Nat) (hr : Ar (sdOf na (val xa)) (val xa) (undN (val ya)) fa ab nn) (hk : ab = fa) :
    Calls Tryd.prog 3 #[.agg #[.bool na, .slice ao al ac, .slice aO aL aC]] w fun e w' => e = .returned (.bool true) ∧ Below w.heap.size w w' := by
  have hbA := fun w => big05_any na ao aO al ac aL aC w
  rw [hA] at hbA
  clear hA
  have kA0 : Hid (QN w (.agg #[.bool na, .slice ao al ac, .slice aO aL aC]) (sdOf na (val xa)) (val xa) (undN (val ya))) := qn_of ua da la la2
  have mA0 : Hid (RNum w (.agg #[.bool na, .slice ao al ac, .slice aO aL aC]) (rq (zv na (val xa)) (val ya)) 200) := rnum_of ua da la la2 (by decide) (by decide)
  clear ua da la la2
  have hl2 := hr.lt
  have o1 := hr.self.1
  have o2 := hr.self.2
  have o3 := hr.gt
  have o4 := hr.one
  have o5 := hr.diff
  have hml := hr.modl
  have hmh := hr.modh
  rw [decide_eq_true hk] at o5
  have hcc := hr.cmpl (by omega)
  have o5 : (FloatKind.f64.format.order (lD (sdOf na (val xa)) (val xa) (undN (val ya))) (hD (sdOf na (val xa)) (val xa) (undN (val ya))) != some .eq) = false := o5
  have HLF : Hid (lD (sdOf na (val xa)) (val xa) (undN (val ya)) % 2 ^ 63 < 9218868437227405312) := by show _ < _; rw [hml]; split <;> omega
  have HHF : Hid (hD (sdOf na (val xa)) (val xa) (undN (val ya)) % 2 ^ 63 < 9218868437227405312) := by show _ < _; rw [hmh]; split <;> omega
  have HL64 : Hid (lD (sdOf na (val xa)) (val xa) (undN (val ya)) < 18446744073709551616) := hr.fl.2.1
  have HH64 : Hid (hD (sdOf na (val xa)) (val xa) (undN (val ya)) < 18446744073709551616) := hr.fh.2.1
  obtain ⟨cP, hcP⟩ : ∃ c, c = cmpQ (fR (lD (sdOf na (val xa)) (val xa) (undN (val ya)))) (rq (zv na (val xa)) (val ya)) := ⟨_, rfl⟩
  obtain ⟨cQ, hcQ⟩ : ∃ c, c = cmpQ (fR (hD (sdOf na (val xa)) (val xa) (undN (val ya)))) (rq (zv na (val xa)) (val ya)) := ⟨_, rfl⟩
  rw [← hcP, ← hcQ] at hcc
  have g1 : decide (0 < cP) = false := decide_eq_false (by omega)
  have g2 : decide (cQ < 0) = false := decide_eq_false (by omega)
  have g3 : (cP == 0) = true := by rw [hcc.2.1 hk]; rfl
  obtain ⟨L, hL⟩ : ∃ z, z = lD (sdOf na (val xa)) (val xa) (undN (val ya)) := ⟨_, rfl⟩
  obtain ⟨H, hH⟩ : ∃ z, z = hD (sdOf na (val xa)) (val xa) (undN (val ya)) := ⟨_, rfl⟩
  obtain ⟨X, hX⟩ : ∃ z, z = nD (sdOf na (val xa)) (val xa) (undN (val ya)) := ⟨_, rfl⟩
  (try rw [← hL] at o1)
  (try rw [← hH] at o1)
  (try rw [← hX] at o1)
  (try rw [← hL] at o2)
  (try rw [← hH] at o2)
  (try rw [← hX] at o2)
  (try rw [← hL] at o3)
  (try rw [← hH] at o3)
  (try rw [← hX] at o3)
  (try rw [← hL] at o4)
  (try rw [← hH] at o4)
  (try rw [← hX] at o4)
  (try rw [← hL] at o5)
  (try rw [← hH] at o5)
  (try rw [← hX] at o5)
  (try rw [← hL] at HLF)
  (try rw [← hH] at HLF)
  (try rw [← hX] at HLF)
  (try rw [← hL] at HHF)
  (try rw [← hH] at HHF)
  (try rw [← hX] at HHF)
  (try rw [← hL] at HL64)
  (try rw [← hH] at HL64)
  (try rw [← hX] at HL64)
  (try rw [← hL] at HH64)
  (try rw [← hH] at HH64)
  (try rw [← hX] at HH64)
  (try rw [← hL] at hcP)
  (try rw [← hH] at hcP)
  (try rw [← hX] at hcP)
  (try rw [← hL] at hcQ)
  (try rw [← hH] at hcQ)
  (try rw [← hX] at hcQ)
  have HCP : Hid (cmpQ (fR L) (rq (zv na (val xa)) (val ya)) = cP) := hcP.symm
  have HCQ : Hid (cmpQ (fR H) (rq (zv na (val xa)) (val ya)) = cQ) := hcQ.symm
  have HL : Hid (lD (sdOf na (val xa)) (val xa) (undN (val ya)) = L) := hL.symm
  have HH : Hid (hD (sdOf na (val xa)) (val xa) (undN (val ya)) = H) := hH.symm
  have HX : Hid (nD (sdOf na (val xa)) (val xa) (undN (val ya)) = X) := hX.symm
  clear hL hH hX hcP hcQ hml hmh hr hk hl2 hcc
  rcases o4 with o4 | ⟨o4, o6⟩
  all_goals
    obtain ⟨W1, hW1⟩ : ∃ W1, W1 = w.alloc (.cells #[.bool na, .slice ao al ac, .slice aO aL aC] 27) := ⟨_, rfl⟩
    have qa : QCell W1 (w.heap.size) na (.slice ao al ac) (.slice aO aL aC) := by rw [hW1]; exact (qcell_new _ (by simp))
    have hb : Below w.heap.size w W1 := by rw [hW1]; exact belowA w _
    have hsz : w.heap.size < W1.heap.size := by rw [hW1]; simp
    have HW1 : Hid (W1 = w.alloc (.cells #[.bool na, .slice ao al ac, .slice aO aL aC] 27)) := hW1
    clear hW1
    go_enter Tryd.func3, Tryd.ntmps3
    go_wp2_with fail
    rw [← HW1.out]
    clear HW1
    obtain ⟨g, hg⟩ : ∃ g, g = w.heap.size := ⟨_, rfl⟩
    rw [← hg] at qa hsz ⊢
    have HG : Hid (g = w.heap.size) := hg
    clear hg
    refine (alive5_yes _).mono ?_
    rintro e w2 ⟨rfl, b⟩
    replace qa := qa.below b
    replace hb := bstep hb b
    replace hsz := Nat.lt_of_lt_of_le hsz b.size
    clear b
    obtain ⟨cqa0, cqa1, cqa2⟩ := qa.cells
    go_wp2_with fail
    clear cqa0 cqa1 cqa2
    refine (hbA _).mono ?_
    rintro e w3 ⟨rfl, b⟩
    replace qa := qa.below b
    replace hb := bstep hb b
    replace hsz := Nat.lt_of_lt_of_le hsz b.size
    clear b
    obtain ⟨cqa0, cqa1, cqa2⟩ := qa.cells
    go_wp2_with fail
    clear cqa0 cqa1 cqa2
    have kA := QN.below kA0.out hb
    have mA := RNum.below mA0.out hb
    have hq := qn_around kA
    rw [HL.out, HH.out] at hq
    refine (hq).mono ?_
    rintro e w4 ⟨rfl, b⟩
    replace kA := kA.below b
    replace mA := mA.below b
    replace qa := qa.below b
    replace hb := bstep hb b
    replace hsz := Nat.lt_of_lt_of_le hsz b.size
    clear b
    clear hq
    obtain ⟨cqa0, cqa1, cqa2⟩ := qa.cells
    go_wp2_with fail
    clear cqa0 cqa1 cqa2
    have hq := qn_near kA
    rw [HX.out] at hq
    refine (hq).mono ?_
    rintro e w5 ⟨rfl, b⟩
    replace kA := kA.below b
    replace mA := mA.below b
    replace qa := qa.below b
    replace hb := bstep hb b
    replace hsz := Nat.lt_of_lt_of_le hsz b.size
    clear b
    clear hq
    obtain ⟨cqa0, cqa1, cqa2⟩ := qa.cells
    go_wp2_with fail
    clear cqa0 cqa1 cqa2
    refine (of64_yes L _ HL64.out HLF.out).mono ?_
    rintro e w6 ⟨v, rfl, hv, b⟩
    obtain ⟨np, po, pl, pc, pO, pL, pC, rfl, rp⟩ := hv.seeS
    clear hv
    replace kA := kA.below b
    replace mA := mA.below b
    replace qa := qa.below b
    replace hb := bstep hb b
    replace hsz := Nat.lt_of_lt_of_le hsz b.size
    clear b
    have hq0 : QCell (w6.alloc (.cells #[.bool false, .slice none 0 0, .slice none 0 0] 27)) w6.heap.size false (.slice none 0 0) (.slice none 0 0) := qcell_new _ rfl
    obtain ⟨W7, hW7⟩ : ∃ W, W = w6.alloc (.cells #[.bool np, .slice po pl pc, .slice pO pL pC] 27) := ⟨_, rfl⟩
    have qp : QCell W7 (w6.heap.size) np (.slice po pl pc) (.slice pO pL pC) := by rw [hW7]; exact qcell_new _ rfl
    have b : Below w6.heap.size w6 W7 := by rw [hW7]; exact belowA _ _
    obtain ⟨z0, z1, z2⟩ := hq0.cells
    have t0 := hq0.thaw 0
    have t1 := hq0.thaw 1
    have t2 := hq0.thaw 2
    clear hq0
    replace kA := kA.below b
    replace mA := mA.below b
    replace rp := rp.below b
    replace qa := qa.below b
    replace hb := bstep hb b
    replace hsz := Nat.lt_of_lt_of_le hsz b.size
    clear b
    have rqa0 : (w6.alloc (.cells #[.bool np, .slice po pl pc, .slice pO pL pC] 27)).cell? ⟨g, 0, none⟩ = some (.bool na) := by rw [← hW7]; exact qa.cells.1
    have rqa1 : (w6.alloc (.cells #[.bool np, .slice po pl pc, .slice pO pL pC] 27)).cell? ⟨g, 1, none⟩ = some (.slice ao al ac) := by rw [← hW7]; exact qa.cells.2.1
    have rqa2 : (w6.alloc (.cells #[.bool np, .slice po pl pc, .slice pO pL pC] 27)).cell? ⟨g, 2, none⟩ = some (.slice aO aL aC) := by rw [← hW7]; exact qa.cells.2.2
    have rqp0 : (w6.alloc (.cells #[.bool np, .slice po pl pc, .slice pO pL pC] 27)).cell? ⟨w6.heap.size, 0, none⟩ = some (.bool np) := by rw [← hW7]; exact qp.cells.1
    have rqp1 : (w6.alloc (.cells #[.bool np, .slice po pl pc, .slice pO pL pC] 27)).cell? ⟨w6.heap.size, 1, none⟩ = some (.slice po pl pc) := by rw [← hW7]; exact qp.cells.2.1
    have rqp2 : (w6.alloc (.cells #[.bool np, .slice po pl pc, .slice pO pL pC] 27)).cell? ⟨w6.heap.size, 2, none⟩ = some (.slice pO pL pC) := by rw [← hW7]; exact qp.cells.2.2
    obtain ⟨v7, hv7⟩ : ∃ v, v = w6.heap.size := ⟨_, rfl⟩
    rw [← hv7] at qp
    have HW7 : Hid (W7 = w6.alloc (.cells #[.bool np, .slice po pl pc, .slice pO pL pC] 27)) := hW7
    have Hv7 : Hid (v7 = w6.heap.size) := hv7
    clear hW7 hv7
    go_wp2_with fail
    rw [← HW7.out, ← Hv7.out]
    clear HW7 Hv7 z0 z1 z2 t0 t1 t2 rqa0 rqa1 rqa2 rqp0 rqp1 rqp2
    refine (of64_yes H _ HH64.out HHF.out).mono ?_
    rintro e w8 ⟨v, rfl, hv, b⟩
    obtain ⟨nq, qo, ql, qc, qO, qL, qC, rfl, rq⟩ := hv.seeS
    clear hv
    replace kA := kA.below b
    replace mA := mA.below b
    replace rp := rp.below b
    replace qa := qa.below b
    replace qp := qp.below b
    replace hb := bstep hb b
    replace hsz := Nat.lt_of_lt_of_le hsz b.size
    clear b
    have hq0 : QCell (w8.alloc (.cells #[.bool false, .slice none 0 0, .slice none 0 0] 27)) w8.heap.size false (.slice none 0 0) (.slice none 0 0) := qcell_new _ rfl
    obtain ⟨W9, hW9⟩ : ∃ W, W = w8.alloc (.cells #[.bool nq, .slice qo ql qc, .slice qO qL qC] 27) := ⟨_, rfl⟩
    have qq : QCell W9 (w8.heap.size) nq (.slice qo ql qc) (.slice qO qL qC) := by rw [hW9]; exact qcell_new _ rfl
    have b : Below w8.heap.size w8 W9 := by rw [hW9]; exact belowA _ _
    obtain ⟨z0, z1, z2⟩ := hq0.cells
    have t0 := hq0.thaw 0
    have t1 := hq0.thaw 1
    have t2 := hq0.thaw 2
    clear hq0
    replace kA := kA.below b
    replace mA := mA.below b
    replace rp := rp.below b
    replace rq := rq.below b
    replace qa := qa.below b
    replace qp := qp.below b
    replace hb := bstep hb b
    replace hsz := Nat.lt_of_lt_of_le hsz b.size
    clear b
    have rqa0 : (w8.alloc (.cells #[.bool nq, .slice qo ql qc, .slice qO qL qC] 27)).cell? ⟨g, 0, none⟩ = some (.bool na) := by rw [← hW9]; exact qa.cells.1
    have rqa1 : (w8.alloc (.cells #[.bool nq, .slice qo ql qc, .slice qO qL qC] 27)).cell? ⟨g, 1, none⟩ = some (.slice ao al ac) := by rw [← hW9]; exact qa.cells.2.1
    have rqa2 : (w8.alloc (.cells #[.bool nq, .slice qo ql qc, .slice qO qL qC] 27)).cell? ⟨g, 2, none⟩ = some (.slice aO aL aC) := by rw [← hW9]; exact qa.cells.2.2
    have rqp0 : (w8.alloc (.cells #[.bool nq, .slice qo ql qc, .slice qO qL qC] 27)).cell? ⟨v7, 0, none⟩ = some (.bool np) := by rw [← hW9]; exact qp.cells.1
    have rqp1 : (w8.alloc (.cells #[.bool nq, .slice qo ql qc, .slice qO qL qC] 27)).cell? ⟨v7, 1, none⟩ = some (.slice po pl pc) := by rw [← hW9]; exact qp.cells.2.1
    have rqp2 : (w8.alloc (.cells #[.bool nq, .slice qo ql qc, .slice qO qL qC] 27)).cell? ⟨v7, 2, none⟩ = some (.slice pO pL pC) := by rw [← hW9]; exact qp.cells.2.2
    have rqq0 : (w8.alloc (.cells #[.bool nq, .slice qo ql qc, .slice qO qL qC] 27)).cell? ⟨w8.heap.size, 0, none⟩ = some (.bool nq) := by rw [← hW9]; exact qq.cells.1
    have rqq1 : (w8.alloc (.cells #[.bool nq, .slice qo ql qc, .slice qO qL qC] 27)).cell? ⟨w8.heap.size, 1, none⟩ = some (.slice qo ql qc) := by rw [← hW9]; exact qq.cells.2.1
    have rqq2 : (w8.alloc (.cells #[.bool nq, .slice qo ql qc, .slice qO qL qC] 27)).cell? ⟨w8.heap.size, 2, none⟩ = some (.slice qO qL qC) := by rw [← hW9]; exact qq.cells.2.2
    obtain ⟨v9, hv9⟩ : ∃ v, v = w8.heap.size := ⟨_, rfl⟩
    rw [← hv9] at qq
    have HW9 : Hid (W9 = w8.alloc (.cells #[.bool nq, .slice qo ql qc, .slice qO qL qC] 27)) := hW9
    have Hv9 : Hid (v9 = w8.heap.size) := hv9
    clear hW9 hv9
    go_wp2_with fail
    rw [← HW9.out, ← Hv9.out]
    clear HW9 Hv9 z0 z1 z2 t0 t1 t2 rqa0 rqa1 rqa2 rqp0 rqp1 rqp2 rqq0 rqq1 rqq2
    have hq := c_rcmp (rp.num (fR_sz HLF.out) (by decide)) mA (by decide)
    rw [HCP.out] at hq
    refine (hq).mono ?_
    rintro e w10 ⟨rfl, b⟩
    replace kA := kA.below b
    replace mA := mA.below b
    replace rp := rp.below b
    replace rq := rq.below b
    replace qa := qa.below b
    replace qp := qp.below b
    replace qq := qq.below b
    replace hb := bstep hb b
    replace hsz := Nat.lt_of_lt_of_le hsz b.size
    clear b
    clear hq
    obtain ⟨cqa0, cqa1, cqa2⟩ := qa.cells
    obtain ⟨cqp0, cqp1, cqp2⟩ := qp.cells
    obtain ⟨cqq0, cqq1, cqq2⟩ := qq.cells
    go_wp2_with fail
    clear cqa0 cqa1 cqa2 cqp0 cqp1 cqp2 cqq0 cqq1 cqq2
    have hq := c_rcmp (rq.num (fR_sz HHF.out) (by decide)) mA (by decide)
    rw [HCQ.out] at hq
    refine (hq).mono ?_
    rintro e w11 ⟨rfl, b⟩
    replace kA := kA.below b
    replace mA := mA.below b
    replace rp := rp.below b
    replace rq := rq.below b
    replace qa := qa.below b
    replace qp := qp.below b
    replace qq := qq.below b
    replace hb := bstep hb b
    replace hsz := Nat.lt_of_lt_of_le hsz b.size
    clear b
    clear hq
    obtain ⟨cqa0, cqa1, cqa2⟩ := qa.cells
    obtain ⟨cqp0, cqp1, cqp2⟩ := qp.cells
    obtain ⟨cqq0, cqq1, cqq2⟩ := qq.cells
    go_wp2_with fail
    clear cqa0 cqa1 cqa2 cqp0 cqp1 cqp2 cqq0 cqq1 cqq2
    have hq := c_rcmp (rp.num (fR_sz HLF.out) (by decide)) mA (by decide)
    rw [HCP.out] at hq
    refine (hq).mono ?_
    rintro e w12 ⟨rfl, b⟩
    replace kA := kA.below b
    replace mA := mA.below b
    replace rp := rp.below b
    replace rq := rq.below b
    replace qa := qa.below b
    replace qp := qp.below b
    replace qq := qq.below b
    replace hb := bstep hb b
    replace hsz := Nat.lt_of_lt_of_le hsz b.size
    clear b
    clear hq
    have HE : Hid (Below w.heap.size w w12) := hb
    clear hb hsz qa qp qq kA mA rp rq
    go_wp2
    go_ret
    exact ⟨rfl, HE.out⟩
set_option maxRecDepth 100000 in
set_option maxHeartbeats 6400000 in
theorem naroundI (na : Bool) (ao aO : Option Addr) (al ac aL aC : Nat) (xa ya : List Nat) (w : World) (hA : (decide (200 < al) || decide (200 < aL)) = false) (ua : Num w (.slice ao al ac) xa) (da : Num w (.slice aO aL aC) ya) (la : xa.length ≤ 200) (la2 : ya.length ≤ 200) (fa ab nn : Nat) (hr : Ar (sdOf na (val xa)) (val xa) (undN (val ya)) fa ab nn) (hk : ab = fa + 1) (hlt : ab < 9218868437227405312) :
    Calls Tryd.prog 3 #[.agg #[.bool na, .slice ao al ac, .slice aO aL aC]] w fun e w' => e = .returned (.bool true) ∧ Below w.heap.size w w' := by
  have hbA := fun w => big05_any na ao aO al ac aL aC w
  rw [hA] at hbA
  clear hA
  have kA0 : Hid (QN w (.agg #[.bool na, .slice ao al ac, .slice aO aL aC]) (sdOf na (val xa)) (val xa) (undN (val ya))) := qn_of ua da la la2
  have mA0 : Hid (RNum w (.agg #[.bool na, .slice ao al ac, .slice aO aL aC]) (rq (zv na (val xa)) (val ya)) 200) := rnum_of ua da la la2 (by decide) (by decide)
  clear ua da la la2
  have hl2 := hr.lt
  have o1 := hr.self.1
  have o2 := hr.self.2
  have o3 := hr.gt
  have o4 := hr.one
  have o5 := hr.diff
  have hml := hr.modl
  have hmh := hr.modh
  rw [decide_eq_false (by omega)] at o5
  have o5 : (FloatKind.f64.format.order (lD (sdOf na (val xa)) (val xa) (undN (val ya))) (hD (sdOf na (val xa)) (val xa) (undN (val ya))) != some .eq) = true := o5
  have hcc := hr.cmpl hlt
  obtain ⟨Z, hnx, hnz⟩ := next_any (sdOf na (val xa)) fa (by omega)
  rw [← hk, ← hr.lo, ← hr.hi] at hnx
  rw [← hk, ← hr.hi] at hnz
  have HLF : Hid (lD (sdOf na (val xa)) (val xa) (undN (val ya)) % 2 ^ 63 < 9218868437227405312) := by show _ < _; rw [hml]; split <;> omega
  have HHF : Hid (hD (sdOf na (val xa)) (val xa) (undN (val ya)) % 2 ^ 63 < 9218868437227405312) := by show _ < _; rw [hmh]; split <;> omega
  have HL64 : Hid (lD (sdOf na (val xa)) (val xa) (undN (val ya)) < 18446744073709551616) := hr.fl.2.1
  have HH64 : Hid (hD (sdOf na (val xa)) (val xa) (undN (val ya)) < 18446744073709551616) := hr.fh.2.1
  obtain ⟨cP, hcP⟩ : ∃ c, c = cmpQ (fR (lD (sdOf na (val xa)) (val xa) (undN (val ya)))) (rq (zv na (val xa)) (val ya)) := ⟨_, rfl⟩
  obtain ⟨cQ, hcQ⟩ : ∃ c, c = cmpQ (fR (hD (sdOf na (val xa)) (val xa) (undN (val ya)))) (rq (zv na (val xa)) (val ya)) := ⟨_, rfl⟩
  rw [← hcP, ← hcQ] at hcc
  have g1 : decide (0 < cP) = false := decide_eq_false (by omega)
  have g2 : decide (cQ < 0) = false := decide_eq_false (by omega)
  obtain ⟨L, hL⟩ : ∃ z, z = lD (sdOf na (val xa)) (val xa) (undN (val ya)) := ⟨_, rfl⟩
  obtain ⟨H, hH⟩ : ∃ z, z = hD (sdOf na (val xa)) (val xa) (undN (val ya)) := ⟨_, rfl⟩
  obtain ⟨X, hX⟩ : ∃ z, z = nD (sdOf na (val xa)) (val xa) (undN (val ya)) := ⟨_, rfl⟩
  (try rw [← hL] at o1)
  (try rw [← hH] at o1)
  (try rw [← hX] at o1)
  (try rw [← hL] at o2)
  (try rw [← hH] at o2)
  (try rw [← hX] at o2)
  (try rw [← hL] at o3)
  (try rw [← hH] at o3)
  (try rw [← hX] at o3)
  (try rw [← hL] at o4)
  (try rw [← hH] at o4)
  (try rw [← hX] at o4)
  (try rw [← hL] at o5)
  (try rw [← hH] at o5)
  (try rw [← hX] at o5)
  (try rw [← hL] at HLF)
  (try rw [← hH] at HLF)
  (try rw [← hX] at HLF)
  (try rw [← hL] at HHF)
  (try rw [← hH] at HHF)
  (try rw [← hX] at HHF)
  (try rw [← hL] at HL64)
  (try rw [← hH] at HL64)
  (try rw [← hX] at HL64)
  (try rw [← hL] at HH64)
  (try rw [← hH] at HH64)
  (try rw [← hX] at HH64)
  (try rw [← hL] at hcP)
  (try rw [← hH] at hcP)
  (try rw [← hX] at hcP)
  (try rw [← hL] at hcQ)
  (try rw [← hH] at hcQ)
  (try rw [← hX] at hcQ)
  (try rw [← hL] at hnx)
  (try rw [← hH] at hnx)
  (try rw [← hX] at hnx)
  (try rw [← hL] at hnz)
  (try rw [← hH] at hnz)
  (try rw [← hX] at hnz)
  have HCP : Hid (cmpQ (fR L) (rq (zv na (val xa)) (val ya)) = cP) := hcP.symm
  have HCQ : Hid (cmpQ (fR H) (rq (zv na (val xa)) (val ya)) = cQ) := hcQ.symm
  have HL : Hid (lD (sdOf na (val xa)) (val xa) (undN (val ya)) = L) := hL.symm
  have HH : Hid (hD (sdOf na (val xa)) (val xa) (undN (val ya)) = H) := hH.symm
  have HX : Hid (nD (sdOf na (val xa)) (val xa) (undN (val ya)) = X) := hX.symm
  clear hL hH hX hcP hcQ hml hmh hr hk hl2 hcc hlt
  rcases o4 with o4 | ⟨o4, o6⟩
  all_goals
    obtain ⟨W1, hW1⟩ : ∃ W1, W1 = w.alloc (.cells #[.bool na, .slice ao al ac, .slice aO aL aC] 27) := ⟨_, rfl⟩
    have qa : QCell W1 (w.heap.size) na (.slice ao al ac) (.slice aO aL aC) := by rw [hW1]; exact (qcell_new _ (by simp))
    have hb : Below w.heap.size w W1 := by rw [hW1]; exact belowA w _
    have hsz : w.heap.size < W1.heap.size := by rw [hW1]; simp
    have HW1 : Hid (W1 = w.alloc (.cells #[.bool na, .slice ao al ac, .slice aO aL aC] 27)) := hW1
    clear hW1
    go_enter Tryd.func3, Tryd.ntmps3
    go_wp2_with fail
    rw [← HW1.out]
    clear HW1
    obtain ⟨g, hg⟩ : ∃ g, g = w.heap.size := ⟨_, rfl⟩
    rw [← hg] at qa hsz ⊢
    have HG : Hid (g = w.heap.size) := hg
    clear hg
    refine (alive5_yes _).mono ?_
    rintro e w2 ⟨rfl, b⟩
    replace qa := qa.below b
    replace hb := bstep hb b
    replace hsz := Nat.lt_of_lt_of_le hsz b.size
    clear b
    obtain ⟨cqa0, cqa1, cqa2⟩ := qa.cells
    go_wp2_with fail
    clear cqa0 cqa1 cqa2
    refine (hbA _).mono ?_
    rintro e w3 ⟨rfl, b⟩
    replace qa := qa.below b
    replace hb := bstep hb b
    replace hsz := Nat.lt_of_lt_of_le hsz b.size
    clear b
    obtain ⟨cqa0, cqa1, cqa2⟩ := qa.cells
    go_wp2_with fail
    clear cqa0 cqa1 cqa2
    have kA := QN.below kA0.out hb
    have mA := RNum.below mA0.out hb
    have hq := qn_around kA
    rw [HL.out, HH.out] at hq
    refine (hq).mono ?_
    rintro e w4 ⟨rfl, b⟩
    replace kA := kA.below b
    replace mA := mA.below b
    replace qa := qa.below b
    replace hb := bstep hb b
    replace hsz := Nat.lt_of_lt_of_le hsz b.size
    clear b
    clear hq
    obtain ⟨cqa0, cqa1, cqa2⟩ := qa.cells
    go_wp2_with fail
    clear cqa0 cqa1 cqa2
    have hq := qn_near kA
    rw [HX.out] at hq
    refine (hq).mono ?_
    rintro e w5 ⟨rfl, b⟩
    replace kA := kA.below b
    replace mA := mA.below b
    replace qa := qa.below b
    replace hb := bstep hb b
    replace hsz := Nat.lt_of_lt_of_le hsz b.size
    clear b
    clear hq
    obtain ⟨cqa0, cqa1, cqa2⟩ := qa.cells
    go_wp2_with fail
    clear cqa0 cqa1 cqa2
    refine (hnx _).mono ?_
    rintro e w6 ⟨rfl, rfl⟩
    clear hnx
    obtain ⟨cqa0, cqa1, cqa2⟩ := qa.cells
    go_wp2_with fail
    clear cqa0 cqa1 cqa2
    refine (of64_yes L _ HL64.out HLF.out).mono ?_
    rintro e w7 ⟨v, rfl, hv, b⟩
    obtain ⟨np, po, pl, pc, pO, pL, pC, rfl, rp⟩ := hv.seeS
    clear hv
    replace kA := kA.below b
    replace mA := mA.below b
    replace qa := qa.below b
    replace hb := bstep hb b
    replace hsz := Nat.lt_of_lt_of_le hsz b.size
    clear b
    have hq0 : QCell (w7.alloc (.cells #[.bool false, .slice none 0 0, .slice none 0 0] 27)) w7.heap.size false (.slice none 0 0) (.slice none 0 0) := qcell_new _ rfl
    obtain ⟨W8, hW8⟩ : ∃ W, W = w7.alloc (.cells #[.bool np, .slice po pl pc, .slice pO pL pC] 27) := ⟨_, rfl⟩
    have qp : QCell W8 (w7.heap.size) np (.slice po pl pc) (.slice pO pL pC) := by rw [hW8]; exact qcell_new _ rfl
    have b : Below w7.heap.size w7 W8 := by rw [hW8]; exact belowA _ _
    obtain ⟨z0, z1, z2⟩ := hq0.cells
    have t0 := hq0.thaw 0
    have t1 := hq0.thaw 1
    have t2 := hq0.thaw 2
    clear hq0
    replace kA := kA.below b
    replace mA := mA.below b
    replace rp := rp.below b
    replace qa := qa.below b
    replace hb := bstep hb b
    replace hsz := Nat.lt_of_lt_of_le hsz b.size
    clear b
    have rqa0 : (w7.alloc (.cells #[.bool np, .slice po pl pc, .slice pO pL pC] 27)).cell? ⟨g, 0, none⟩ = some (.bool na) := by rw [← hW8]; exact qa.cells.1
    have rqa1 : (w7.alloc (.cells #[.bool np, .slice po pl pc, .slice pO pL pC] 27)).cell? ⟨g, 1, none⟩ = some (.slice ao al ac) := by rw [← hW8]; exact qa.cells.2.1
    have rqa2 : (w7.alloc (.cells #[.bool np, .slice po pl pc, .slice pO pL pC] 27)).cell? ⟨g, 2, none⟩ = some (.slice aO aL aC) := by rw [← hW8]; exact qa.cells.2.2
    have rqp0 : (w7.alloc (.cells #[.bool np, .slice po pl pc, .slice pO pL pC] 27)).cell? ⟨w7.heap.size, 0, none⟩ = some (.bool np) := by rw [← hW8]; exact qp.cells.1
    have rqp1 : (w7.alloc (.cells #[.bool np, .slice po pl pc, .slice pO pL pC] 27)).cell? ⟨w7.heap.size, 1, none⟩ = some (.slice po pl pc) := by rw [← hW8]; exact qp.cells.2.1
    have rqp2 : (w7.alloc (.cells #[.bool np, .slice po pl pc, .slice pO pL pC] 27)).cell? ⟨w7.heap.size, 2, none⟩ = some (.slice pO pL pC) := by rw [← hW8]; exact qp.cells.2.2
    obtain ⟨v8, hv8⟩ : ∃ v, v = w7.heap.size := ⟨_, rfl⟩
    rw [← hv8] at qp
    have HW8 : Hid (W8 = w7.alloc (.cells #[.bool np, .slice po pl pc, .slice pO pL pC] 27)) := hW8
    have Hv8 : Hid (v8 = w7.heap.size) := hv8
    clear hW8 hv8
    go_wp2_with fail
    rw [← HW8.out, ← Hv8.out]
    clear HW8 Hv8 z0 z1 z2 t0 t1 t2 rqa0 rqa1 rqa2 rqp0 rqp1 rqp2
    refine (of64_yes H _ HH64.out HHF.out).mono ?_
    rintro e w9 ⟨v, rfl, hv, b⟩
    obtain ⟨nq, qo, ql, qc, qO, qL, qC, rfl, rq⟩ := hv.seeS
    clear hv
    replace kA := kA.below b
    replace mA := mA.below b
    replace rp := rp.below b
    replace qa := qa.below b
    replace qp := qp.below b
    replace hb := bstep hb b
    replace hsz := Nat.lt_of_lt_of_le hsz b.size
    clear b
    have hq0 : QCell (w9.alloc (.cells #[.bool false, .slice none 0 0, .slice none 0 0] 27)) w9.heap.size false (.slice none 0 0) (.slice none 0 0) := qcell_new _ rfl
    obtain ⟨W10, hW10⟩ : ∃ W, W = w9.alloc (.cells #[.bool nq, .slice qo ql qc, .slice qO qL qC] 27) := ⟨_, rfl⟩
    have qq : QCell W10 (w9.heap.size) nq (.slice qo ql qc) (.slice qO qL qC) := by rw [hW10]; exact qcell_new _ rfl
    have b : Below w9.heap.size w9 W10 := by rw [hW10]; exact belowA _ _
    obtain ⟨z0, z1, z2⟩ := hq0.cells
    have t0 := hq0.thaw 0
    have t1 := hq0.thaw 1
    have t2 := hq0.thaw 2
    clear hq0
    replace kA := kA.below b
    replace mA := mA.below b
    replace rp := rp.below b
    replace rq := rq.below b
    replace qa := qa.below b
    replace qp := qp.below b
    replace hb := bstep hb b
    replace hsz := Nat.lt_of_lt_of_le hsz b.size
    clear b
    have rqa0 : (w9.alloc (.cells #[.bool nq, .slice qo ql qc, .slice qO qL qC] 27)).cell? ⟨g, 0, none⟩ = some (.bool na) := by rw [← hW10]; exact qa.cells.1
    have rqa1 : (w9.alloc (.cells #[.bool nq, .slice qo ql qc, .slice qO qL qC] 27)).cell? ⟨g, 1, none⟩ = some (.slice ao al ac) := by rw [← hW10]; exact qa.cells.2.1
    have rqa2 : (w9.alloc (.cells #[.bool nq, .slice qo ql qc, .slice qO qL qC] 27)).cell? ⟨g, 2, none⟩ = some (.slice aO aL aC) := by rw [← hW10]; exact qa.cells.2.2
    have rqp0 : (w9.alloc (.cells #[.bool nq, .slice qo ql qc, .slice qO qL qC] 27)).cell? ⟨v8, 0, none⟩ = some (.bool np) := by rw [← hW10]; exact qp.cells.1
    have rqp1 : (w9.alloc (.cells #[.bool nq, .slice qo ql qc, .slice qO qL qC] 27)).cell? ⟨v8, 1, none⟩ = some (.slice po pl pc) := by rw [← hW10]; exact qp.cells.2.1
    have rqp2 : (w9.alloc (.cells #[.bool nq, .slice qo ql qc, .slice qO qL qC] 27)).cell? ⟨v8, 2, none⟩ = some (.slice pO pL pC) := by rw [← hW10]; exact qp.cells.2.2
    have rqq0 : (w9.alloc (.cells #[.bool nq, .slice qo ql qc, .slice qO qL qC] 27)).cell? ⟨w9.heap.size, 0, none⟩ = some (.bool nq) := by rw [← hW10]; exact qq.cells.1
    have rqq1 : (w9.alloc (.cells #[.bool nq, .slice qo ql qc, .slice qO qL qC] 27)).cell? ⟨w9.heap.size, 1, none⟩ = some (.slice qo ql qc) := by rw [← hW10]; exact qq.cells.2.1
    have rqq2 : (w9.alloc (.cells #[.bool nq, .slice qo ql qc, .slice qO qL qC] 27)).cell? ⟨w9.heap.size, 2, none⟩ = some (.slice qO qL qC) := by rw [← hW10]; exact qq.cells.2.2
    obtain ⟨v10, hv10⟩ : ∃ v, v = w9.heap.size := ⟨_, rfl⟩
    rw [← hv10] at qq
    have HW10 : Hid (W10 = w9.alloc (.cells #[.bool nq, .slice qo ql qc, .slice qO qL qC] 27)) := hW10
    have Hv10 : Hid (v10 = w9.heap.size) := hv10
    clear hW10 hv10
    go_wp2_with fail
    rw [← HW10.out, ← Hv10.out]
    clear HW10 Hv10 z0 z1 z2 t0 t1 t2 rqa0 rqa1 rqa2 rqp0 rqp1 rqp2 rqq0 rqq1 rqq2
    have hq := c_rcmp (rp.num (fR_sz HLF.out) (by decide)) mA (by decide)
    rw [HCP.out] at hq
    refine (hq).mono ?_
    rintro e w11 ⟨rfl, b⟩
    replace kA := kA.below b
    replace mA := mA.below b
    replace rp := rp.below b
    replace rq := rq.below b
    replace qa := qa.below b
    replace qp := qp.below b
    replace qq := qq.below b
    replace hb := bstep hb b
    replace hsz := Nat.lt_of_lt_of_le hsz b.size
    clear b
    clear hq
    obtain ⟨cqa0, cqa1, cqa2⟩ := qa.cells
    obtain ⟨cqp0, cqp1, cqp2⟩ := qp.cells
    obtain ⟨cqq0, cqq1, cqq2⟩ := qq.cells
    go_wp2_with fail
    clear cqa0 cqa1 cqa2 cqp0 cqp1 cqp2 cqq0 cqq1 cqq2
    have hq := c_rcmp (rq.num (fR_sz HHF.out) (by decide)) mA (by decide)
    rw [HCQ.out] at hq
    refine (hq).mono ?_
    rintro e w12 ⟨rfl, b⟩
    replace kA := kA.below b
    replace mA := mA.below b
    replace rp := rp.below b
    replace rq := rq.below b
    replace qa := qa.below b
    replace qp := qp.below b
    replace qq := qq.below b
    replace hb := bstep hb b
    replace hsz := Nat.lt_of_lt_of_le hsz b.size
    clear b
    clear hq
    have HE : Hid (Below w.heap.size w w12) := hb
    clear hb hsz qa qp qq kA mA rp rq
    go_wp2
    go_ret
    exact ⟨rfl, HE.out⟩
set_option maxRecDepth 100000 in
set_option maxHeartbeats 6400000 in
theorem naroundF (na : Bool) (ao aO : Option Addr) (al ac aL aC : Nat) (xa ya : List Nat) (w : World) (hA : (decide (200 < al) || decide (200 < aL)) = false) (ua : Num w (.slice ao al ac) xa) (da : Num w (.slice aO aL aC) ya) (la : xa.length ≤ 200) (la2 : ya.length ≤ 200) (fa ab nn : Nat) (hr : Ar (sdOf na (val xa)) (val xa) (undN (val ya)) fa ab nn) (hk : ab = fa + 1) (hinf0 : ab = 9218868437227405312) (hs : sdOf na (val xa) = false) :
    Calls Tryd.prog 3 #[.agg #[.bool na, .slice ao al ac, .slice aO aL aC]] w fun e w' => e = .returned (.bool true) ∧ Below w.heap.size w w' := by
  have hbA := fun w => big05_any na ao aO al ac aL aC w
  rw [hA] at hbA
  clear hA
  have kA0 : Hid (QN w (.agg #[.bool na, .slice ao al ac, .slice aO aL aC]) (sdOf na (val xa)) (val xa) (undN (val ya))) := qn_of ua da la la2
  have mA0 : Hid (RNum w (.agg #[.bool na, .slice ao al ac, .slice aO aL aC]) (rq (zv na (val xa)) (val ya)) 200) := rnum_of ua da la la2 (by decide) (by decide)
  clear ua da la la2
  have hl2 := hr.lt
  have o1 := hr.self.1
  have o2 := hr.self.2
  have o3 := hr.gt
  have o4 := hr.one
  have o5 := hr.diff
  have hml := hr.modl
  have hmh := hr.modh
  rw [decide_eq_false (by omega)] at o5
  have o5 : (FloatKind.f64.format.order (lD (sdOf na (val xa)) (val xa) (undN (val ya))) (hD (sdOf na (val xa)) (val xa) (undN (val ya))) != some .eq) = true := o5
  have hcx := hr.cmpx
  obtain ⟨Z, hnx, hnz⟩ := next_any (sdOf na (val xa)) fa (by omega)
  rw [← hk, ← hr.lo, ← hr.hi] at hnx
  rw [← hk, ← hr.hi] at hnz
  have HLF : Hid (lD (sdOf na (val xa)) (val xa) (undN (val ya)) % 2 ^ 63 < 9218868437227405312) := by show _ < _; rw [hml, hs]; exact hl2
  have HHF : Hid (9218868437227405312 ≤ hD (sdOf na (val xa)) (val xa) (undN (val ya)) % 2 ^ 63) := by show _ ≤ _; rw [hmh, hs]; exact Nat.le_of_eq hinf0.symm
  have hinf : ∀ w, Calls Tryd.prog 11 #[.float .f64 (hD (sdOf na (val xa)) (val xa) (undN (val ya))), .int .i64 1] w fun e w' => e = .returned (.bool true) ∧ w' = w := fun w => by rw [hr.hi, hs, hinf0]; exact isInf_up w
  have HL64 : Hid (lD (sdOf na (val xa)) (val xa) (undN (val ya)) < 18446744073709551616) := hr.fl.2.1
  have HH64 : Hid (hD (sdOf na (val xa)) (val xa) (undN (val ya)) < 18446744073709551616) := hr.fh.2.1
  obtain ⟨cP, hcP⟩ : ∃ c, c = cmpQ (fR (lD (sdOf na (val xa)) (val xa) (undN (val ya)))) (rq (zv na (val xa)) (val ya)) := ⟨_, rfl⟩
  obtain ⟨cQ, hcQ⟩ : ∃ c, c = cmpQ (fR (hD (sdOf na (val xa)) (val xa) (undN (val ya)))) (rq (zv na (val xa)) (val ya)) := ⟨_, rfl⟩
  rw [← hcP] at hcx
  have g0 := hcx.1 hs
  have g1 : decide (0 < cP) = false := decide_eq_false (by omega)
  obtain ⟨L, hL⟩ : ∃ z, z = lD (sdOf na (val xa)) (val xa) (undN (val ya)) := ⟨_, rfl⟩
  obtain ⟨H, hH⟩ : ∃ z, z = hD (sdOf na (val xa)) (val xa) (undN (val ya)) := ⟨_, rfl⟩
  obtain ⟨X, hX⟩ : ∃ z, z = nD (sdOf na (val xa)) (val xa) (undN (val ya)) := ⟨_, rfl⟩
  (try rw [← hL] at o1)
  (try rw [← hH] at o1)
  (try rw [← hX] at o1)
  (try rw [← hL] at o2)
  (try rw [← hH] at o2)
  (try rw [← hX] at o2)
  (try rw [← hL] at o3)
  (try rw [← hH] at o3)
  (try rw [← hX] at o3)
  (try rw [← hL] at o4)
  (try rw [← hH] at o4)
  (try rw [← hX] at o4)
  (try rw [← hL] at o5)
  (try rw [← hH] at o5)
  (try rw [← hX] at o5)
  (try rw [← hL] at HLF)
  (try rw [← hH] at HLF)
  (try rw [← hX] at HLF)
  (try rw [← hL] at HHF)
  (try rw [← hH] at HHF)
  (try rw [← hX] at HHF)
  (try rw [← hL] at HL64)
  (try rw [← hH] at HL64)
  (try rw [← hX] at HL64)
  (try rw [← hL] at HH64)
  (try rw [← hH] at HH64)
  (try rw [← hX] at HH64)
  (try rw [← hL] at hcP)
  (try rw [← hH] at hcP)
  (try rw [← hX] at hcP)
  (try rw [← hL] at hcQ)
  (try rw [← hH] at hcQ)
  (try rw [← hX] at hcQ)
  (try rw [← hL] at hnx)
  (try rw [← hH] at hnx)
  (try rw [← hX] at hnx)
  (try rw [← hL] at hnz)
  (try rw [← hH] at hnz)
  (try rw [← hX] at hnz)
  (try rw [← hL] at hinf)
  (try rw [← hH] at hinf)
  (try rw [← hX] at hinf)
  have HCP : Hid (cmpQ (fR L) (rq (zv na (val xa)) (val ya)) = cP) := hcP.symm
  have HCQ : Hid (cmpQ (fR H) (rq (zv na (val xa)) (val ya)) = cQ) := hcQ.symm
  have HL : Hid (lD (sdOf na (val xa)) (val xa) (undN (val ya)) = L) := hL.symm
  have HH : Hid (hD (sdOf na (val xa)) (val xa) (undN (val ya)) = H) := hH.symm
  have HX : Hid (nD (sdOf na (val xa)) (val xa) (undN (val ya)) = X) := hX.symm
  clear hL hH hX hcP hcQ hml hmh hr hk hl2 hcx g0 hinf0 hs
  rcases o4 with o4 | ⟨o4, o6⟩
  all_goals
    obtain ⟨W1, hW1⟩ : ∃ W1, W1 = w.alloc (.cells #[.bool na, .slice ao al ac, .slice aO aL aC] 27) := ⟨_, rfl⟩
    have qa : QCell W1 (w.heap.size) na (.slice ao al ac) (.slice aO aL aC) := by rw [hW1]; exact (qcell_new _ (by simp))
    have hb : Below w.heap.size w W1 := by rw [hW1]; exact belowA w _
    have hsz : w.heap.size < W1.heap.size := by rw [hW1]; simp
    have HW1 : Hid (W1 = w.alloc (.cells #[.bool na, .slice ao al ac, .slice aO aL aC] 27)) := hW1
    clear hW1
    go_enter Tryd.func3, Tryd.ntmps3
    go_wp2_with fail
    rw [← HW1.out]
    clear HW1
    obtain ⟨g, hg⟩ : ∃ g, g = w.heap.size := ⟨_, rfl⟩
    rw [← hg] at qa hsz ⊢
    have HG : Hid (g = w.heap.size) := hg
    clear hg
    refine (alive5_yes _).mono ?_
    rintro e w2 ⟨rfl, b⟩
    replace qa := qa.below b
    replace hb := bstep hb b
    replace hsz := Nat.lt_of_lt_of_le hsz b.size
    clear b
    obtain ⟨cqa0, cqa1, cqa2⟩ := qa.cells
    go_wp2_with fail
    clear cqa0 cqa1 cqa2
    refine (hbA _).mono ?_
    rintro e w3 ⟨rfl, b⟩
    replace qa := qa.below b
    replace hb := bstep hb b
    replace hsz := Nat.lt_of_lt_of_le hsz b.size
    clear b
    obtain ⟨cqa0, cqa1, cqa2⟩ := qa.cells
    go_wp2_with fail
    clear cqa0 cqa1 cqa2
    have kA := QN.below kA0.out hb
    have mA := RNum.below mA0.out hb
    have hq := qn_around kA
    rw [HL.out, HH.out] at hq
    refine (hq).mono ?_
    rintro e w4 ⟨rfl, b⟩
    replace kA := kA.below b
    replace mA := mA.below b
    replace qa := qa.below b
    replace hb := bstep hb b
    replace hsz := Nat.lt_of_lt_of_le hsz b.size
    clear b
    clear hq
    obtain ⟨cqa0, cqa1, cqa2⟩ := qa.cells
    go_wp2_with fail
    clear cqa0 cqa1 cqa2
    have hq := qn_near kA
    rw [HX.out] at hq
    refine (hq).mono ?_
    rintro e w5 ⟨rfl, b⟩
    replace kA := kA.below b
    replace mA := mA.below b
    replace qa := qa.below b
    replace hb := bstep hb b
    replace hsz := Nat.lt_of_lt_of_le hsz b.size
    clear b
    clear hq
    obtain ⟨cqa0, cqa1, cqa2⟩ := qa.cells
    go_wp2_with fail
    clear cqa0 cqa1 cqa2
    refine (hnx _).mono ?_
    rintro e w6 ⟨rfl, rfl⟩
    clear hnx
    obtain ⟨cqa0, cqa1, cqa2⟩ := qa.cells
    go_wp2_with fail
    clear cqa0 cqa1 cqa2
    refine (of64_yes L _ HL64.out HLF.out).mono ?_
    rintro e w7 ⟨v, rfl, hv, b⟩
    obtain ⟨np, po, pl, pc, pO, pL, pC, rfl, rp⟩ := hv.seeS
    clear hv
    replace kA := kA.below b
    replace mA := mA.below b
    replace qa := qa.below b
    replace hb := bstep hb b
    replace hsz := Nat.lt_of_lt_of_le hsz b.size
    clear b
    have hq0 : QCell (w7.alloc (.cells #[.bool false, .slice none 0 0, .slice none 0 0] 27)) w7.heap.size false (.slice none 0 0) (.slice none 0 0) := qcell_new _ rfl
    obtain ⟨W8, hW8⟩ : ∃ W, W = w7.alloc (.cells #[.bool np, .slice po pl pc, .slice pO pL pC] 27) := ⟨_, rfl⟩
    have qp : QCell W8 (w7.heap.size) np (.slice po pl pc) (.slice pO pL pC) := by rw [hW8]; exact qcell_new _ rfl
    have b : Below w7.heap.size w7 W8 := by rw [hW8]; exact belowA _ _
    obtain ⟨z0, z1, z2⟩ := hq0.cells
    have t0 := hq0.thaw 0
    have t1 := hq0.thaw 1
    have t2 := hq0.thaw 2
    clear hq0
    replace kA := kA.below b
    replace mA := mA.below b
    replace rp := rp.below b
    replace qa := qa.below b
    replace hb := bstep hb b
    replace hsz := Nat.lt_of_lt_of_le hsz b.size
    clear b
    have rqa0 : (w7.alloc (.cells #[.bool np, .slice po pl pc, .slice pO pL pC] 27)).cell? ⟨g, 0, none⟩ = some (.bool na) := by rw [← hW8]; exact qa.cells.1
    have rqa1 : (w7.alloc (.cells #[.bool np, .slice po pl pc, .slice pO pL pC] 27)).cell? ⟨g, 1, none⟩ = some (.slice ao al ac) := by rw [← hW8]; exact qa.cells.2.1
    have rqa2 : (w7.alloc (.cells #[.bool np, .slice po pl pc, .slice pO pL pC] 27)).cell? ⟨g, 2, none⟩ = some (.slice aO aL aC) := by rw [← hW8]; exact qa.cells.2.2
    have rqp0 : (w7.alloc (.cells #[.bool np, .slice po pl pc, .slice pO pL pC] 27)).cell? ⟨w7.heap.size, 0, none⟩ = some (.bool np) := by rw [← hW8]; exact qp.cells.1
    have rqp1 : (w7.alloc (.cells #[.bool np, .slice po pl pc, .slice pO pL pC] 27)).cell? ⟨w7.heap.size, 1, none⟩ = some (.slice po pl pc) := by rw [← hW8]; exact qp.cells.2.1
    have rqp2 : (w7.alloc (.cells #[.bool np, .slice po pl pc, .slice pO pL pC] 27)).cell? ⟨w7.heap.size, 2, none⟩ = some (.slice pO pL pC) := by rw [← hW8]; exact qp.cells.2.2
    obtain ⟨v8, hv8⟩ : ∃ v, v = w7.heap.size := ⟨_, rfl⟩
    rw [← hv8] at qp
    have HW8 : Hid (W8 = w7.alloc (.cells #[.bool np, .slice po pl pc, .slice pO pL pC] 27)) := hW8
    have Hv8 : Hid (v8 = w7.heap.size) := hv8
    clear hW8 hv8
    go_wp2_with fail
    rw [← HW8.out, ← Hv8.out]
    clear HW8 Hv8 z0 z1 z2 t0 t1 t2 rqa0 rqa1 rqa2 rqp0 rqp1 rqp2
    refine (of64_no H _ HH64.out HHF.out).mono ?_
    rintro e w9 ⟨rfl, b⟩
    replace kA := kA.below b
    replace mA := mA.below b
    replace rp := rp.below b
    replace qa := qa.below b
    replace qp := qp.below b
    replace hb := bstep hb b
    replace hsz := Nat.lt_of_lt_of_le hsz b.size
    clear b
    obtain ⟨W10, hW10⟩ : ∃ W, W = w9.alloc (.cells #[.bool false, .slice none 0 0, .slice none 0 0] 27) := ⟨_, rfl⟩
    have hq0 : QCell (w9.alloc (.cells #[.bool false, .slice none 0 0, .slice none 0 0] 27)) w9.heap.size false (.slice none 0 0) (.slice none 0 0) := qcell_new _ rfl
    have b : Below w9.heap.size w9 W10 := by rw [hW10]; exact belowA _ _
    obtain ⟨z0, z1, z2⟩ := hq0.cells
    have t0 := hq0.thaw 0
    have t1 := hq0.thaw 1
    have t2 := hq0.thaw 2
    clear hq0
    replace kA := kA.below b
    replace mA := mA.below b
    replace rp := rp.below b
    replace qa := qa.below b
    replace qp := qp.below b
    replace hb := bstep hb b
    replace hsz := Nat.lt_of_lt_of_le hsz b.size
    clear b
    have rqa0 : (w9.alloc (.cells #[.bool false, .slice none 0 0, .slice none 0 0] 27)).cell? ⟨g, 0, none⟩ = some (.bool na) := by rw [← hW10]; exact qa.cells.1
    have rqa1 : (w9.alloc (.cells #[.bool false, .slice none 0 0, .slice none 0 0] 27)).cell? ⟨g, 1, none⟩ = some (.slice ao al ac) := by rw [← hW10]; exact qa.cells.2.1
    have rqa2 : (w9.alloc (.cells #[.bool false, .slice none 0 0, .slice none 0 0] 27)).cell? ⟨g, 2, none⟩ = some (.slice aO aL aC) := by rw [← hW10]; exact qa.cells.2.2
    have rqp0 : (w9.alloc (.cells #[.bool false, .slice none 0 0, .slice none 0 0] 27)).cell? ⟨v8, 0, none⟩ = some (.bool np) := by rw [← hW10]; exact qp.cells.1
    have rqp1 : (w9.alloc (.cells #[.bool false, .slice none 0 0, .slice none 0 0] 27)).cell? ⟨v8, 1, none⟩ = some (.slice po pl pc) := by rw [← hW10]; exact qp.cells.2.1
    have rqp2 : (w9.alloc (.cells #[.bool false, .slice none 0 0, .slice none 0 0] 27)).cell? ⟨v8, 2, none⟩ = some (.slice pO pL pC) := by rw [← hW10]; exact qp.cells.2.2
    have HW10 : Hid (W10 = w9.alloc (.cells #[.bool false, .slice none 0 0, .slice none 0 0] 27)) := hW10
    clear hW10
    go_wp2_with fail
    rw [← HW10.out]
    clear HW10 z0 z1 z2 t0 t1 t2 rqa0 rqa1 rqa2 rqp0 rqp1 rqp2
    have hq := c_rcmp (rp.num (fR_sz HLF.out) (by decide)) mA (by decide)
    rw [HCP.out] at hq
    refine (hq).mono ?_
    rintro e w11 ⟨rfl, b⟩
    replace kA := kA.below b
    replace mA := mA.below b
    replace rp := rp.below b
    replace qa := qa.below b
    replace qp := qp.below b
    replace hb := bstep hb b
    replace hsz := Nat.lt_of_lt_of_le hsz b.size
    clear b
    clear hq
    obtain ⟨cqa0, cqa1, cqa2⟩ := qa.cells
    obtain ⟨cqp0, cqp1, cqp2⟩ := qp.cells
    go_wp2_with fail
    clear cqa0 cqa1 cqa2 cqp0 cqp1 cqp2
    refine (hinf _).mono ?_
    rintro e w12 ⟨rfl, rfl⟩
    clear hinf
    have HE : Hid (Below w.heap.size w w12) := hb
    clear hb hsz qa qp kA mA rp
    go_wp2
    go_ret
    exact ⟨rfl, HE.out⟩
set_option maxRecDepth 100000 in
set_option maxHeartbeats 6400000 in
theorem naroundT (na : Bool) (ao aO : Option Addr) (al ac aL aC : Nat) (xa ya : List Nat) (w : World) (hA : (decide (200 < al) || decide (200 < aL)) = false) (ua : Num w (.slice ao al ac) xa) (da : Num w (.slice aO aL aC) ya) (la : xa.length ≤ 200) (la2 : ya.length ≤ 200) (fa ab nn : Nat) (hr : Ar (sdOf na (val xa)) (val xa) (undN (val ya)) fa ab nn) (hk : ab = fa + 1) (hinf0 : ab = 9218868437227405312) (hs : sdOf na (val xa) = true) :
    Calls Tryd.prog 3 #[.agg #[.bool na, .slice ao al ac, .slice aO aL aC]] w fun e w' => e = .returned (.bool true) ∧ Below w.heap.size w w' := by
  have hbA := fun w => big05_any na ao aO al ac aL aC w
  rw [hA] at hbA
  clear hA
  have kA0 : Hid (QN w (.agg #[.bool na, .slice ao al ac, .slice aO aL aC]) (sdOf na (val xa)) (val xa) (undN (val ya))) := qn_of ua da la la2
  have mA0 : Hid (RNum w (.agg #[.bool na, .slice ao al ac, .slice aO aL aC]) (rq (zv na (val xa)) (val ya)) 200) := rnum_of ua da la la2 (by decide) (by decide)
  clear ua da la la2
  have hl2 := hr.lt
  have o1 := hr.self.1
  have o2 := hr.self.2
  have o3 := hr.gt
  have o4 := hr.one
  have o5 := hr.diff
  have hml := hr.modl
  have hmh := hr.modh
  rw [decide_eq_false (by omega)] at o5
  have o5 : (FloatKind.f64.format.order (lD (sdOf na (val xa)) (val xa) (undN (val ya))) (hD (sdOf na (val xa)) (val xa) (undN (val ya))) != some .eq) = true := o5
  have hcx := hr.cmpx
  obtain ⟨Z, hnx, hnz⟩ := next_any (sdOf na (val xa)) fa (by omega)
  rw [← hk, ← hr.lo, ← hr.hi] at hnx
  rw [← hk, ← hr.hi] at hnz
  have HLF : Hid (9218868437227405312 ≤ lD (sdOf na (val xa)) (val xa) (undN (val ya)) % 2 ^ 63) := by show _ ≤ _; rw [hml, hs]; exact Nat.le_of_eq hinf0.symm
  have HHF : Hid (hD (sdOf na (val xa)) (val xa) (undN (val ya)) % 2 ^ 63 < 9218868437227405312) := by show _ < _; rw [hmh, hs]; exact hl2
  have hinf : ∀ w, Calls Tryd.prog 11 #[.float .f64 (lD (sdOf na (val xa)) (val xa) (undN (val ya))), .int .i64 (-1)] w fun e w' => e = .returned (.bool true) ∧ w' = w := fun w => by rw [hr.lo, hs, hinf0]; exact isInf_dn w
  have HL64 : Hid (lD (sdOf na (val xa)) (val xa) (undN (val ya)) < 18446744073709551616) := hr.fl.2.1
  have HH64 : Hid (hD (sdOf na (val xa)) (val xa) (undN (val ya)) < 18446744073709551616) := hr.fh.2.1
  obtain ⟨cP, hcP⟩ : ∃ c, c = cmpQ (fR (lD (sdOf na (val xa)) (val xa) (undN (val ya)))) (rq (zv na (val xa)) (val ya)) := ⟨_, rfl⟩
  obtain ⟨cQ, hcQ⟩ : ∃ c, c = cmpQ (fR (hD (sdOf na (val xa)) (val xa) (undN (val ya)))) (rq (zv na (val xa)) (val ya)) := ⟨_, rfl⟩
  rw [← hcQ] at hcx
  have g0 := hcx.2 hs
  have g2 : decide (cQ < 0) = false := decide_eq_false (by omega)
  obtain ⟨L, hL⟩ : ∃ z, z = lD (sdOf na (val xa)) (val xa) (undN (val ya)) := ⟨_, rfl⟩
  obtain ⟨H, hH⟩ : ∃ z, z = hD (sdOf na (val xa)) (val xa) (undN (val ya)) := ⟨_, rfl⟩
  obtain ⟨X, hX⟩ : ∃ z, z = nD (sdOf na (val xa)) (val xa) (undN (val ya)) := ⟨_, rfl⟩
  (try rw [← hL] at o1)
  (try rw [← hH] at o1)
  (try rw [← hX] at o1)
  (try rw [← hL] at o2)
  (try rw [← hH] at o2)
  (try rw [← hX] at o2)
  (try rw [← hL] at o3)
  (try rw [← hH] at o3)
  (try rw [← hX] at o3)
  (try rw [← hL] at o4)
  (try rw [← hH] at o4)
  (try rw [← hX] at o4)
  (try rw [← hL] at o5)
  (try rw [← hH] at o5)
  (try rw [← hX] at o5)
  (try rw [← hL] at HLF)
  (try rw [← hH] at HLF)
  (try rw [← hX] at HLF)
  (try rw [← hL] at HHF)
  (try rw [← hH] at HHF)
  (try rw [← hX] at HHF)
  (try rw [← hL] at HL64)
  (try rw [← hH] at HL64)
  (try rw [← hX] at HL64)
  (try rw [← hL] at HH64)
  (try rw [← hH] at HH64)
  (try rw [← hX] at HH64)
  (try rw [← hL] at hcP)
  (try rw [← hH] at hcP)
  (try rw [← hX] at hcP)
  (try rw [← hL] at hcQ)
  (try rw [← hH] at hcQ)
  (try rw [← hX] at hcQ)
  (try rw [← hL] at hnx)
  (try rw [← hH] at hnx)
  (try rw [← hX] at hnx)
  (try rw [← hL] at hnz)
  (try rw [← hH] at hnz)
  (try rw [← hX] at hnz)
  (try rw [← hL] at hinf)
  (try rw [← hH] at hinf)
  (try rw [← hX] at hinf)
  have HCP : Hid (cmpQ (fR L) (rq (zv na (val xa)) (val ya)) = cP) := hcP.symm
  have HCQ : Hid (cmpQ (fR H) (rq (zv na (val xa)) (val ya)) = cQ) := hcQ.symm
  have HL : Hid (lD (sdOf na (val xa)) (val xa) (undN (val ya)) = L) := hL.symm
  have HH : Hid (hD (sdOf na (val xa)) (val xa) (undN (val ya)) = H) := hH.symm
  have HX : Hid (nD (sdOf na (val xa)) (val xa) (undN (val ya)) = X) := hX.symm
  clear hL hH hX hcP hcQ hml hmh hr hk hl2 hcx g0 hinf0 hs
  rcases o4 with o4 | ⟨o4, o6⟩
  all_goals
    obtain ⟨W1, hW1⟩ : ∃ W1, W1 = w.alloc (.cells #[.bool na, .slice ao al ac, .slice aO aL aC] 27) := ⟨_, rfl⟩
    have qa : QCell W1 (w.heap.size) na (.slice ao al ac) (.slice aO aL aC) := by rw [hW1]; exact (qcell_new _ (by simp))
    have hb : Below w.heap.size w W1 := by rw [hW1]; exact belowA w _
    have hsz : w.heap.size < W1.heap.size := by rw [hW1]; simp
    have HW1 : Hid (W1 = w.alloc (.cells #[.bool na, .slice ao al ac, .slice aO aL aC] 27)) := hW1
    clear hW1
    go_enter Tryd.func3, Tryd.ntmps3
    go_wp2_with fail
    rw [← HW1.out]
    clear HW1
    obtain ⟨g, hg⟩ : ∃ g, g = w.heap.size := ⟨_, rfl⟩
    rw [← hg] at qa hsz ⊢
    have HG : Hid (g = w.heap.size) := hg
    clear hg
    refine (alive5_yes _).mono ?_
    rintro e w2 ⟨rfl, b⟩
    replace qa := qa.below b
    replace hb := bstep hb b
    replace hsz := Nat.lt_of_lt_of_le hsz b.size
    clear b
    obtain ⟨cqa0, cqa1, cqa2⟩ := qa.cells
    go_wp2_with fail
    clear cqa0 cqa1 cqa2
    refine (hbA _).mono ?_
    rintro e w3 ⟨rfl, b⟩
    replace qa := qa.below b
    replace hb := bstep hb b
    replace hsz := Nat.lt_of_lt_of_le hsz b.size
    clear b
    obtain ⟨cqa0, cqa1, cqa2⟩ := qa.cells
    go_wp2_with fail
    clear cqa0 cqa1 cqa2
    have kA := QN.below kA0.out hb
    have mA := RNum.below mA0.out hb
    have hq := qn_around kA
    rw [HL.out, HH.out] at hq
    refine (hq).mono ?_
    rintro e w4 ⟨rfl, b⟩
    replace kA := kA.below b
    replace mA := mA.below b
    replace qa := qa.below b
    replace hb := bstep hb b
    replace hsz := Nat.lt_of_lt_of_le hsz b.size
    clear b
    clear hq
    obtain ⟨cqa0, cqa1, cqa2⟩ := qa.cells
    go_wp2_with fail
    clear cqa0 cqa1 cqa2
    have hq := qn_near kA
    rw [HX.out] at hq
    refine (hq).mono ?_
    rintro e w5 ⟨rfl, b⟩
    replace kA := kA.below b
    replace mA := mA.below b
    replace qa := qa.below b
    replace hb := bstep hb b
    replace hsz := Nat.lt_of_lt_of_le hsz b.size
    clear b
    clear hq
    obtain ⟨cqa0, cqa1, cqa2⟩ := qa.cells
    go_wp2_with fail
    clear cqa0 cqa1 cqa2
    refine (hnx _).mono ?_
    rintro e w6 ⟨rfl, rfl⟩
    clear hnx
    obtain ⟨cqa0, cqa1, cqa2⟩ := qa.cells
    go_wp2_with fail
    clear cqa0 cqa1 cqa2
    refine (of64_no L _ HL64.out HLF.out).mono ?_
    rintro e w7 ⟨rfl, b⟩
    replace kA := kA.below b
    replace mA := mA.below b
    replace qa := qa.below b
    replace hb := bstep hb b
    replace hsz := Nat.lt_of_lt_of_le hsz b.size
    clear b
    obtain ⟨W8, hW8⟩ : ∃ W, W = w7.alloc (.cells #[.bool false, .slice none 0 0, .slice none 0 0] 27) := ⟨_, rfl⟩
    have hq0 : QCell (w7.alloc (.cells #[.bool false, .slice none 0 0, .slice none 0 0] 27)) w7.heap.size false (.slice none 0 0) (.slice none 0 0) := qcell_new _ rfl
    have b : Below w7.heap.size w7 W8 := by rw [hW8]; exact belowA _ _
    obtain ⟨z0, z1, z2⟩ := hq0.cells
    have t0 := hq0.thaw 0
    have t1 := hq0.thaw 1
    have t2 := hq0.thaw 2
    clear hq0
    replace kA := kA.below b
    replace mA := mA.below b
    replace qa := qa.below b
    replace hb := bstep hb b
    replace hsz := Nat.lt_of_lt_of_le hsz b.size
    clear b
    have rqa0 : (w7.alloc (.cells #[.bool false, .slice none 0 0, .slice none 0 0] 27)).cell? ⟨g, 0, none⟩ = some (.bool na) := by rw [← hW8]; exact qa.cells.1
    have rqa1 : (w7.alloc (.cells #[.bool false, .slice none 0 0, .slice none 0 0] 27)).cell? ⟨g, 1, none⟩ = some (.slice ao al ac) := by rw [← hW8]; exact qa.cells.2.1
    have rqa2 : (w7.alloc (.cells #[.bool false, .slice none 0 0, .slice none 0 0] 27)).cell? ⟨g, 2, none⟩ = some (.slice aO aL aC) := by rw [← hW8]; exact qa.cells.2.2
    have HW8 : Hid (W8 = w7.alloc (.cells #[.bool false, .slice none 0 0, .slice none 0 0] 27)) := hW8
    clear hW8
    go_wp2_with fail
    rw [← HW8.out]
    clear HW8 z0 z1 z2 t0 t1 t2 rqa0 rqa1 rqa2
    refine (of64_yes H _ HH64.out HHF.out).mono ?_
    rintro e w9 ⟨v, rfl, hv, b⟩
    obtain ⟨nq, qo, ql, qc, qO, qL, qC, rfl, rq⟩ := hv.seeS
    clear hv
    replace kA := kA.below b
    replace mA := mA.below b
    replace qa := qa.below b
    replace hb := bstep hb b
    replace hsz := Nat.lt_of_lt_of_le hsz b.size
    clear b
    have hq0 : QCell (w9.alloc (.cells #[.bool false, .slice none 0 0, .slice none 0 0] 27)) w9.heap.size false (.slice none 0 0) (.slice none 0 0) := qcell_new _ rfl
    obtain ⟨W10, hW10⟩ : ∃ W, W = w9.alloc (.cells #[.bool nq, .slice qo ql qc, .slice qO qL qC] 27) := ⟨_, rfl⟩
    have qq : QCell W10 (w9.heap.size) nq (.slice qo ql qc) (.slice qO qL qC) := by rw [hW10]; exact qcell_new _ rfl
    have b : Below w9.heap.size w9 W10 := by rw [hW10]; exact belowA _ _
    obtain ⟨z0, z1, z2⟩ := hq0.cells
    have t0 := hq0.thaw 0
    have t1 := hq0.thaw 1
    have t2 := hq0.thaw 2
    clear hq0
    replace kA := kA.below b
    replace mA := mA.below b
    replace rq := rq.below b
    replace qa := qa.below b
    replace hb := bstep hb b
    replace hsz := Nat.lt_of_lt_of_le hsz b.size
    clear b
    have rqa0 : (w9.alloc (.cells #[.bool nq, .slice qo ql qc, .slice qO qL qC] 27)).cell? ⟨g, 0, none⟩ = some (.bool na) := by rw [← hW10]; exact qa.cells.1
    have rqa1 : (w9.alloc (.cells #[.bool nq, .slice qo ql qc, .slice qO qL qC] 27)).cell? ⟨g, 1, none⟩ = some (.slice ao al ac) := by rw [← hW10]; exact qa.cells.2.1
    have rqa2 : (w9.alloc (.cells #[.bool nq, .slice qo ql qc, .slice qO qL qC] 27)).cell? ⟨g, 2, none⟩ = some (.slice aO aL aC) := by rw [← hW10]; exact qa.cells.2.2
    have rqq0 : (w9.alloc (.cells #[.bool nq, .slice qo ql qc, .slice qO qL qC] 27)).cell? ⟨w9.heap.size, 0, none⟩ = some (.bool nq) := by rw [← hW10]; exact qq.cells.1
    have rqq1 : (w9.alloc (.cells #[.bool nq, .slice qo ql qc, .slice qO qL qC] 27)).cell? ⟨w9.heap.size, 1, none⟩ = some (.slice qo ql qc) := by rw [← hW10]; exact qq.cells.2.1
    have rqq2 : (w9.alloc (.cells #[.bool nq, .slice qo ql qc, .slice qO qL qC] 27)).cell? ⟨w9.heap.size, 2, none⟩ = some (.slice qO qL qC) := by rw [← hW10]; exact qq.cells.2.2
    obtain ⟨v10, hv10⟩ : ∃ v, v = w9.heap.size := ⟨_, rfl⟩
    rw [← hv10] at qq
    have HW10 : Hid (W10 = w9.alloc (.cells #[.bool nq, .slice qo ql qc, .slice qO qL qC] 27)) := hW10
    have Hv10 : Hid (v10 = w9.heap.size) := hv10
    clear hW10 hv10
    go_wp2_with fail
    rw [← HW10.out, ← Hv10.out]
    clear HW10 Hv10 z0 z1 z2 t0 t1 t2 rqa0 rqa1 rqa2 rqq0 rqq1 rqq2
    have hq := c_rcmp (rq.num (fR_sz HHF.out) (by decide)) mA (by decide)
    rw [HCQ.out] at hq
    refine (hq).mono ?_
    rintro e w11 ⟨rfl, b⟩
    replace kA := kA.below b
    replace mA := mA.below b
    replace rq := rq.below b
    replace qa := qa.below b
    replace qq := qq.below b
    replace hb := bstep hb b
    replace hsz := Nat.lt_of_lt_of_le hsz b.size
    clear b
    clear hq
    obtain ⟨cqa0, cqa1, cqa2⟩ := qa.cells
    obtain ⟨cqq0, cqq1, cqq2⟩ := qq.cells
    go_wp2_with fail
    clear cqa0 cqa1 cqa2 cqq0 cqq1 cqq2
    refine (hinf _).mono ?_
    rintro e w12 ⟨rfl, rfl⟩
    clear hinf
    have HE : Hid (Below w.heap.size w w12) := hb
    clear hb hsz qa qq kA mA rq
    go_wp2
    go_ret
    exact ⟨rfl, HE.out⟩
theorem nearAround_top (na : Bool) (ao aO : Option Addr) (al ac aL aC : Nat) (xa ya : List Nat) (w : World) (ua : Num w (.slice ao al ac) xa) (da : Num w (.slice aO aL aC) ya) :
    Calls Tryd.prog 3 #[.agg #[.bool na, .slice ao al ac, .slice aO aL aC]] w fun e w' => e = .returned (.bool true) ∧ Below w.heap.size w w' := by
  obtain ⟨o1, c1, e1, _⟩ := ua.ao
  obtain ⟨o2, c2, e2, _⟩ := da.ao
  have l1 : al = xa.length := by injection e1
  have l2 : aL = ya.length := by injection e2
  clear e1 e2
  by_cases hA : (decide (200 < al) || decide (200 < aL)) = true
  · exact naround_big na ao aO al ac aL aC w hA
  · have hA' : (decide (200 < al) || decide (200 < aL)) = false := by simpa using hA
    simp only [Bool.or_eq_true, decide_eq_true_eq, not_or, Nat.not_lt] at hA
    obtain ⟨fa, ab, nn, hr⟩ := ar_of (sdOf na (val xa)) (N := val xa) (undN_ne (val ya))
    rcases hr.cs with h | h
    · exact naroundE na ao aO al ac aL aC xa ya w hA' ua da (by omega) (by omega) fa ab nn hr h
    · rcases Nat.lt_or_ge ab 9218868437227405312 with h2 | h2
      · exact naroundI na ao aO al ac aL aC xa ya w hA' ua da (by omega) (by omega) fa ab nn hr h h2
      · have h3 : ab = 9218868437227405312 := by have := hr.lt; omega
        by_cases hs : sdOf na (val xa) = true
        · exact naroundT na ao aO al ac aL aC xa ya w hA' ua da (by omega) (by omega) fa ab nn hr h h3 hs
        · exact naroundF na ao aO al ac aL aC xa ya w hA' ua da (by omega) (by omega) fa ab nn hr h h3 (by simpa using hs)
end Go.Proofs.YtbcddjibgaccpaaDoor
