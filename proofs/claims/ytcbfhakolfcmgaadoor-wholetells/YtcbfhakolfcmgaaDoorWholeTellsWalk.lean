/-
  Proved here: WholeTells of any two numbers and any int returns true, and writes nothing that was there.
-/
import Derived.Test.YtcbfhakolfcmgaaDoorR2B
namespace Go.Proofs.YtcbfhakolfcmgaaDoor
open Go.RowKit

theorem i64_wf {n : Int} (h : (Lit.int .i64 n).wf = true) : -9223372036854775808 ≤ n ∧ n ≤ 9223372036854775807 := by
  have h1 : IntKind.i64.min ≤ n ∧ n ≤ IntKind.i64.max := by simpa [Lit.wf] using h
  have e1 : IntKind.i64.min = -9223372036854775808 := by decide
  have e2 : IntKind.i64.max = 9223372036854775807 := by decide
  rw [e1, e2] at h1
  exact h1
set_option maxRecDepth 100000 in
set_option maxHeartbeats 6400000 in
theorem wholeTells_top (na : Bool) (ao : Option Addr) (al ac : Nat) (xa : List Nat) (nb : Bool) (bo : Option Addr) (bl bc : Nat) (xb : List Nat) (n : Int) (w1 : World) (ua : Num w1 (.slice ao al ac) xa) (ub : Num w1 (.slice bo bl bc) xb) (hk : (Lit.int .i64 n).wf = true) :
    Calls Tryd.prog 3 #[.agg #[.bool na, .slice ao al ac], .agg #[.bool nb, .slice bo bl bc], .int .i64 n] w1 fun e w' => e = .returned (.bool true) ∧ Below w1.heap.size w1 w' := by
  by_cases hba : 30 < al
  · obtain ⟨W1, hW1⟩ : ∃ W1, W1 = (w1.alloc (.cells #[.bool na, .slice ao al ac] 25)).alloc (.cells #[.bool nb, .slice bo bl bc] 25) := ⟨_, rfl⟩
    have qa : ICell W1 (w1.heap.size) na (.slice ao al ac) := by rw [hW1]; exact (icell_step (icell_new _ (by simp)))
    have qb : ICell W1 (w1.heap.size + 1) nb (.slice bo bl bc) := by rw [hW1]; exact (icell_new _ (by simp))
    have hb : Below w1.heap.size w1 W1 := by rw [hW1]; exact bstep (belowA w1 _) (belowA _ _)
    have hsz : w1.heap.size + 1 < W1.heap.size := by rw [hW1]; simp
    have HW1 : Hid (W1 = (w1.alloc (.cells #[.bool na, .slice ao al ac] 25)).alloc (.cells #[.bool nb, .slice bo bl bc] 25)) := hW1
    clear hW1
    go_enter Tryd.func3, Tryd.ntmps3
    go_wp2_with fail
    rw [← HW1.out]
    clear HW1
    obtain ⟨g, hg⟩ : ∃ g, g = w1.heap.size := ⟨_, rfl⟩
    rw [← hg] at qa qb hsz ⊢
    have HG : Hid (g = w1.heap.size) := hg
    clear hg
    have hbg := lbig_any na ao al ac W1
    rw [show decide (30 < al) = true from decide_eq_true hba] at hbg
    refine (hbg).mono ?_
    rintro e w2 ⟨rfl, b⟩
    clear hbg
    replace qa := qa.below b
    replace qb := qb.below b
    replace hb := bstep hb b
    replace hsz := Nat.lt_of_lt_of_le hsz b.size
    clear b
    have HE : Hid (Below w1.heap.size w1 w2) := hb
    clear hb hsz qa qb
    go_wp2_with fail
    go_ret
    exact ⟨rfl, HE.out⟩
  · by_cases hbb : 30 < bl
    · obtain ⟨W1, hW1⟩ : ∃ W1, W1 = (w1.alloc (.cells #[.bool na, .slice ao al ac] 25)).alloc (.cells #[.bool nb, .slice bo bl bc] 25) := ⟨_, rfl⟩
      have qa : ICell W1 (w1.heap.size) na (.slice ao al ac) := by rw [hW1]; exact (icell_step (icell_new _ (by simp)))
      have qb : ICell W1 (w1.heap.size + 1) nb (.slice bo bl bc) := by rw [hW1]; exact (icell_new _ (by simp))
      have hb : Below w1.heap.size w1 W1 := by rw [hW1]; exact bstep (belowA w1 _) (belowA _ _)
      have hsz : w1.heap.size + 1 < W1.heap.size := by rw [hW1]; simp
      have HW1 : Hid (W1 = (w1.alloc (.cells #[.bool na, .slice ao al ac] 25)).alloc (.cells #[.bool nb, .slice bo bl bc] 25)) := hW1
      clear hW1
      go_enter Tryd.func3, Tryd.ntmps3
      go_wp2_with fail
      rw [← HW1.out]
      clear HW1
      obtain ⟨g, hg⟩ : ∃ g, g = w1.heap.size := ⟨_, rfl⟩
      rw [← hg] at qa qb hsz ⊢
      have HG : Hid (g = w1.heap.size) := hg
      clear hg
      have hbg := lbig_any na ao al ac W1
      rw [show decide (30 < al) = false from decide_eq_false hba] at hbg
      refine (hbg).mono ?_
      rintro e w2 ⟨rfl, b⟩
      clear hbg
      replace qa := qa.below b
      replace qb := qb.below b
      replace hb := bstep hb b
      replace hsz := Nat.lt_of_lt_of_le hsz b.size
      clear b
      obtain ⟨cqa0, cqa1⟩ := qa.cells
      obtain ⟨cqb0, cqb1⟩ := qb.cells
      go_wp2_with fail
      clear cqa0 cqa1 cqb0 cqb1
      have hbg := lbig_any nb bo bl bc w2
      rw [show decide (30 < bl) = true from decide_eq_true hbb] at hbg
      refine (hbg).mono ?_
      rintro e w3 ⟨rfl, b⟩
      clear hbg
      replace qa := qa.below b
      replace qb := qb.below b
      replace hb := bstep hb b
      replace hsz := Nat.lt_of_lt_of_le hsz b.size
      clear b
      have HE : Hid (Below w1.heap.size w1 w3) := hb
      clear hb hsz qa qb
      go_wp2_with fail
      go_ret
      exact ⟨rfl, HE.out⟩
    · obtain ⟨ia, sa⟩ := few ua hba (n := na)
      obtain ⟨ib, sb⟩ := few ub hbb (n := nb)
      obtain ⟨A, hA⟩ : ∃ A, A = zv na (val xa) := ⟨_, rfl⟩
      obtain ⟨B, hB⟩ : ∃ B, B = zv nb (val xb) := ⟨_, rfl⟩
      rw [← hA] at ia sa
      rw [← hB] at ib sb
      clear hA hB ua ub
      obtain ⟨hn1, hn2⟩ := i64_wf hk
      clear hk
      obtain ⟨W1, hW1⟩ : ∃ W1, W1 = (w1.alloc (.cells #[.bool na, .slice ao al ac] 25)).alloc (.cells #[.bool nb, .slice bo bl bc] 25) := ⟨_, rfl⟩
      have qa : ICell W1 (w1.heap.size) na (.slice ao al ac) := by rw [hW1]; exact (icell_step (icell_new _ (by simp)))
      have qb : ICell W1 (w1.heap.size + 1) nb (.slice bo bl bc) := by rw [hW1]; exact (icell_new _ (by simp))
      have hb : Below w1.heap.size w1 W1 := by rw [hW1]; exact bstep (belowA w1 _) (belowA _ _)
      have hsz : w1.heap.size + 1 < W1.heap.size := by rw [hW1]; simp
      replace ia := ia.below hb
      replace ib := ib.below hb
      have HW1 : Hid (W1 = (w1.alloc (.cells #[.bool na, .slice ao al ac] 25)).alloc (.cells #[.bool nb, .slice bo bl bc] 25)) := hW1
      clear hW1
      go_enter Tryd.func3, Tryd.ntmps3
      go_wp2_with fail
      rw [← HW1.out]
      clear HW1
      obtain ⟨g, hg⟩ : ∃ g, g = w1.heap.size := ⟨_, rfl⟩
      rw [← hg] at qa qb hsz ⊢
      have HG : Hid (g = w1.heap.size) := hg
      clear hg
      have hbg := lbig_any na ao al ac W1
      rw [show decide (30 < al) = false from decide_eq_false hba] at hbg
      refine (hbg).mono ?_
      rintro e w2 ⟨rfl, b⟩
      clear hbg
      replace ia := ia.below b
      replace ib := ib.below b
      replace qa := qa.below b
      replace qb := qb.below b
      replace hb := bstep hb b
      replace hsz := Nat.lt_of_lt_of_le hsz b.size
      clear b
      obtain ⟨cqa0, cqa1⟩ := qa.cells
      obtain ⟨cqb0, cqb1⟩ := qb.cells
      go_wp2_with fail
      clear cqa0 cqa1 cqb0 cqb1
      have hbg := lbig_any nb bo bl bc w2
      rw [show decide (30 < bl) = false from decide_eq_false hbb] at hbg
      refine (hbg).mono ?_
      rintro e w3 ⟨rfl, b⟩
      clear hbg
      replace ia := ia.below b
      replace ib := ib.below b
      replace qa := qa.below b
      replace qb := qb.below b
      replace hb := bstep hb b
      replace hsz := Nat.lt_of_lt_of_le hsz b.size
      clear b
      obtain ⟨cqa0, cqa1⟩ := qa.cells
      obtain ⟨cqb0, cqb1⟩ := qb.cells
      go_wp2_with fail
      clear cqa0 cqa1 cqb0 cqb1
      obtain ⟨I, hI⟩ : ∃ I, I = intZ A := ⟨_, rfl⟩
      obtain ⟨O, hO⟩ : ∃ I, I = intB A := ⟨_, rfl⟩
      have HI : Hid (intZ A = I) := hI.symm
      have HO : Hid (intB A = O) := hO.symm
      clear hI hO
      have hii : (I == I) = true := by simp
      have hoo : (O == O) = true := by simp
      have hnn : (n == n) = true := by simp
      have hc := w_int ia
      rw [HI.out, HO.out] at hc
      refine (hc).mono ?_
      rintro e w4 ⟨rfl, b⟩
      clear hc
      replace ia := ia.below b
      replace ib := ib.below b
      replace qa := qa.below b
      replace qb := qb.below b
      replace hb := bstep hb b
      replace hsz := Nat.lt_of_lt_of_le hsz b.size
      clear b
      obtain ⟨cqa0, cqa1⟩ := qa.cells
      obtain ⟨cqb0, cqb1⟩ := qb.cells
      go_wp2_with fail
      clear cqa0 cqa1 cqb0 cqb1
      have hc := r_int ia
      rw [HI.out, HO.out] at hc
      refine (hc).mono ?_
      rintro e w5 ⟨rfl, b⟩
      clear hc
      replace ia := ia.below b
      replace ib := ib.below b
      replace qa := qa.below b
      replace qb := qb.below b
      replace hb := bstep hb b
      replace hsz := Nat.lt_of_lt_of_le hsz b.size
      clear b
      obtain ⟨cqa0, cqa1⟩ := qa.cells
      obtain ⟨cqb0, cqb1⟩ := qb.cells
      go_wp2_with fail
      clear cqa0 cqa1 cqb0 cqb1
      have sn : Sz n 8 := Sz.of (by show n.natAbs < 4294967296 ^ 8; omega)
      refine (c_of hn1 hn2).mono ?_
      rintro e w6 ⟨v, rfl, hv, b⟩
      obtain ⟨nk, ko, kl, kc, rfl, ik⟩ := hv.see sn (by decide)
      clear hv
      replace ia := ia.below b
      replace ib := ib.below b
      replace qa := qa.below b
      replace qb := qb.below b
      replace hb := bstep hb b
      replace hsz := Nat.lt_of_lt_of_le hsz b.size
      clear b
      obtain ⟨cqa0, cqa1⟩ := qa.cells
      obtain ⟨cqb0, cqb1⟩ := qb.cells
      go_wp2_with fail
      clear cqa0 cqa1 cqb0 cqb1
      refine (c_int ik hn1 hn2).mono ?_
      rintro e w7 ⟨rfl, b⟩
      replace ia := ia.below b
      replace ib := ib.below b
      replace ik := ik.below b
      replace qa := qa.below b
      replace qb := qb.below b
      replace hb := bstep hb b
      replace hsz := Nat.lt_of_lt_of_le hsz b.size
      clear b
      clear ik
      obtain ⟨cqa0, cqa1⟩ := qa.cells
      obtain ⟨cqb0, cqb1⟩ := qb.cells
      go_wp2_with fail
      clear cqa0 cqa1 cqb0 cqb1
      obtain ⟨c, hc⟩ : ∃ c, c = cmpZ A B := ⟨_, rfl⟩
      have HC : Hid (cmpZ A B = c) := hc.symm
      obtain ⟨d, hd⟩ : ∃ c, c = cmpZ A 0 := ⟨_, rfl⟩
      have HD : Hid (cmpZ A 0 = d) := hd.symm
      obtain ⟨t, ht⟩ : ∃ t, t = zt A := ⟨_, rfl⟩
      have HT : Hid (zt A = t) := ht.symm
      have hcc : (c == c) = true := by simp
      have hdd : (d == d) = true := by simp
      clear hc hd ht
      refine region_late [(17, fun w' => w'.cell? ⟨g, 0, none⟩ = some (.bool na) ∧ w'.cell? ⟨g, 1, none⟩ = some (.slice ao al ac)), (18, fun w' => w'.cell? ⟨g + 1, 0, none⟩ = some (.bool nb) ∧ w'.cell? ⟨g + 1, 1, none⟩ = some (.slice bo bl bc)), (20, fun w' => w'.cell? ⟨g, 0, none⟩ = some (.bool na) ∧ w'.cell? ⟨g, 1, none⟩ = some (.slice ao al ac)), (21, fun w' => w'.cell? ⟨g + 1, 0, none⟩ = some (.bool nb) ∧ w'.cell? ⟨g + 1, 1, none⟩ = some (.slice bo bl bc)), (26, fun w' => w'.cell? ⟨g, 0, none⟩ = some (.bool na) ∧ w'.cell? ⟨g, 1, none⟩ = some (.slice ao al ac)), (28, fun w' => w'.cell? ⟨g, 0, none⟩ = some (.bool na) ∧ w'.cell? ⟨g, 1, none⟩ = some (.slice ao al ac))] (by kernel_rfl) ?_
      have hHeld : AllL w7.drew [(17, fun w' => w'.cell? ⟨g, 0, none⟩ = some (.bool na) ∧ w'.cell? ⟨g, 1, none⟩ = some (.slice ao al ac)), (18, fun w' => w'.cell? ⟨g + 1, 0, none⟩ = some (.bool nb) ∧ w'.cell? ⟨g + 1, 1, none⟩ = some (.slice bo bl bc)), (20, fun w' => w'.cell? ⟨g, 0, none⟩ = some (.bool na) ∧ w'.cell? ⟨g, 1, none⟩ = some (.slice ao al ac)), (21, fun w' => w'.cell? ⟨g + 1, 0, none⟩ = some (.bool nb) ∧ w'.cell? ⟨g + 1, 1, none⟩ = some (.slice bo bl bc)), (26, fun w' => w'.cell? ⟨g, 0, none⟩ = some (.bool na) ∧ w'.cell? ⟨g, 1, none⟩ = some (.slice ao al ac)), (28, fun w' => w'.cell? ⟨g, 0, none⟩ = some (.bool na) ∧ w'.cell? ⟨g, 1, none⟩ = some (.slice ao al ac))] := ⟨(show ICell w7.drew (g) na (.slice ao al ac) from qa).cells, (show ICell w7.drew (g + 1) nb (.slice bo bl bc) from qb).cells, (show ICell w7.drew (g) na (.slice ao al ac) from qa).cells, (show ICell w7.drew (g + 1) nb (.slice bo bl bc) from qb).cells, (show ICell w7.drew (g) na (.slice ao al ac) from qa).cells, (show ICell w7.drew (g) na (.slice ao al ac) from qa).cells, trivial⟩
      refine late_free 0 (v := .int .i64 I) rfl (by kernel_rfl) (by kernel_rfl) (by kernel_rfl) (by kernel_rfl) (by kernel_rfl) (by kernel_rfl) (fun _ _ _ h => h) (Or.inl ⟨by rfl, ?_⟩) hHeld ?_
      · (intro u _; go_simp)
      (try simp only [Act.put, List.setIfInBounds_toArray, List.set_cons_zero, List.set_cons_succ])
      refine late_free 1 (v := .int .i64 I) rfl (by kernel_rfl) (by kernel_rfl) (by kernel_rfl) (by kernel_rfl) (by kernel_rfl) (by kernel_rfl) (fun _ _ _ h => h) (Or.inl ⟨by rfl, ?_⟩) hHeld ?_
      · (intro u _; go_simp)
      (try simp only [Act.put, List.setIfInBounds_toArray, List.set_cons_zero, List.set_cons_succ])
      refine late_free 2 (v := .bool true) rfl (by kernel_rfl) (by kernel_rfl) (by kernel_rfl) (by kernel_rfl) (by kernel_rfl) (by kernel_rfl) (fun _ _ _ h => h) (Or.inl ⟨by rfl, ?_⟩) hHeld ?_
      · (intro u _; go_simp)
      (try simp only [Act.put, List.setIfInBounds_toArray, List.set_cons_zero, List.set_cons_succ])
      refine late_free 3 (v := .bool true) rfl (by kernel_rfl) (by kernel_rfl) (by kernel_rfl) (by kernel_rfl) (by kernel_rfl) (by kernel_rfl) (fun _ _ _ h => h) (Or.inl ⟨by rfl, ?_⟩) hHeld ?_
      · (intro u _; go_simp)
      (try simp only [Act.put, List.setIfInBounds_toArray, List.set_cons_zero, List.set_cons_succ])
      refine late_free 4 (v := .bool O) rfl (by kernel_rfl) (by kernel_rfl) (by kernel_rfl) (by kernel_rfl) (by kernel_rfl) (by kernel_rfl) (fun _ _ _ h => h) (Or.inl ⟨by rfl, ?_⟩) hHeld ?_
      · (intro u _; go_simp)
      (try simp only [Act.put, List.setIfInBounds_toArray, List.set_cons_zero, List.set_cons_succ])
      refine late_free 5 (v := .bool O) rfl (by kernel_rfl) (by kernel_rfl) (by kernel_rfl) (by kernel_rfl) (by kernel_rfl) (by kernel_rfl) (fun _ _ _ h => h) (Or.inl ⟨by rfl, ?_⟩) hHeld ?_
      · (intro u _; go_simp)
      (try simp only [Act.put, List.setIfInBounds_toArray, List.set_cons_zero, List.set_cons_succ])
      refine late_free 6 (v := .bool true) rfl (by kernel_rfl) (by kernel_rfl) (by kernel_rfl) (by kernel_rfl) (by kernel_rfl) (by kernel_rfl) (fun _ _ _ h => h) (Or.inl ⟨by rfl, ?_⟩) hHeld ?_
      · (intro u _; go_simp)
      (try simp only [Act.put, List.setIfInBounds_toArray, List.set_cons_zero, List.set_cons_succ])
      refine late_free 7 (v := .bool true) rfl (by kernel_rfl) (by kernel_rfl) (by kernel_rfl) (by kernel_rfl) (by kernel_rfl) (by kernel_rfl) (fun _ _ _ h => h) (Or.inl ⟨by rfl, ?_⟩) hHeld ?_
      · (intro u _; go_simp)
      (try simp only [Act.put, List.setIfInBounds_toArray, List.set_cons_zero, List.set_cons_succ])
      refine late_free 8 (v := .bool true) rfl (by kernel_rfl) (by kernel_rfl) (by kernel_rfl) (by kernel_rfl) (by kernel_rfl) (by kernel_rfl) (fun _ _ _ h => h) (Or.inl ⟨by rfl, ?_⟩) hHeld ?_
      · (intro u _; go_simp)
      (try simp only [Act.put, List.setIfInBounds_toArray, List.set_cons_zero, List.set_cons_succ])
      refine late_free 9 (v := .int .i64 n) rfl (by kernel_rfl) (by kernel_rfl) (by kernel_rfl) (by kernel_rfl) (by kernel_rfl) (by kernel_rfl) (fun _ _ _ h => h) (Or.inl ⟨by rfl, ?_⟩) hHeld ?_
      · (intro u _; go_simp)
      (try simp only [Act.put, List.setIfInBounds_toArray, List.set_cons_zero, List.set_cons_succ])
      refine late_free 10 (v := .int .i64 n) rfl (by kernel_rfl) (by kernel_rfl) (by kernel_rfl) (by kernel_rfl) (by kernel_rfl) (by kernel_rfl) (fun _ _ _ h => h) (Or.inl ⟨by rfl, ?_⟩) hHeld ?_
      · (intro u _; go_simp)
      (try simp only [Act.put, List.setIfInBounds_toArray, List.set_cons_zero, List.set_cons_succ])
      refine late_free 11 (v := .bool true) rfl (by kernel_rfl) (by kernel_rfl) (by kernel_rfl) (by kernel_rfl) (by kernel_rfl) (by kernel_rfl) (fun _ _ _ h => h) (Or.inl ⟨by rfl, ?_⟩) hHeld ?_
      · (intro u _; go_simp)
      (try simp only [Act.put, List.setIfInBounds_toArray, List.set_cons_zero, List.set_cons_succ])
      refine late_free 12 (v := .bool true) rfl (by kernel_rfl) (by kernel_rfl) (by kernel_rfl) (by kernel_rfl) (by kernel_rfl) (by kernel_rfl) (fun _ _ _ h => h) (Or.inl ⟨by rfl, ?_⟩) hHeld ?_
      · (intro u _; go_simp)
      (try simp only [Act.put, List.setIfInBounds_toArray, List.set_cons_zero, List.set_cons_succ])
      refine late_free 13 (v := .bool true) rfl (by kernel_rfl) (by kernel_rfl) (by kernel_rfl) (by kernel_rfl) (by kernel_rfl) (by kernel_rfl) (fun _ _ _ h => h) (Or.inl ⟨by rfl, ?_⟩) hHeld ?_
      · (intro u _; go_simp)
      (try simp only [Act.put, List.setIfInBounds_toArray, List.set_cons_zero, List.set_cons_succ])
      refine late_free 14 (v := .bool true) rfl (by kernel_rfl) (by kernel_rfl) (by kernel_rfl) (by kernel_rfl) (by kernel_rfl) (by kernel_rfl) (fun _ _ _ h => h) (Or.inl ⟨by rfl, ?_⟩) hHeld ?_
      · (intro u _; go_simp)
      (try simp only [Act.put, List.setIfInBounds_toArray, List.set_cons_zero, List.set_cons_succ])
      refine late_free 15 (v := .bool true) rfl (by kernel_rfl) (by kernel_rfl) (by kernel_rfl) (by kernel_rfl) (by kernel_rfl) (by kernel_rfl) (fun _ _ _ h => h) (Or.inl ⟨by rfl, ?_⟩) hHeld ?_
      · (intro u _; go_simp)
      (try simp only [Act.put, List.setIfInBounds_toArray, List.set_cons_zero, List.set_cons_succ])
      refine late_free 16 (v := .bool true) rfl (by kernel_rfl) (by kernel_rfl) (by kernel_rfl) (by kernel_rfl) (by kernel_rfl) (by kernel_rfl) (fun _ _ _ h => h) (Or.inl ⟨by rfl, ?_⟩) hHeld ?_
      · (intro u _; go_simp)
      (try simp only [Act.put, List.setIfInBounds_toArray, List.set_cons_zero, List.set_cons_succ])
      refine late_take 17 (v := .agg #[.bool na, .slice ao al ac]) rfl (by kernel_rfl) (List.Mem.head _) (by kernel_rfl) (by kernel_rfl) (by kernel_rfl) (by kernel_rfl) (fun _ _ _ h => h) (Or.inl ⟨by rfl, ?_⟩) hHeld ?_
      · (intro u hu; (try dsimp only at hu); go_split_ands; go_simp)
      (try simp only [Act.put, List.setIfInBounds_toArray, List.set_cons_zero, List.set_cons_succ])
      refine late_take 18 (v := .agg #[.bool nb, .slice bo bl bc]) rfl (by kernel_rfl) (List.Mem.tail _ (List.Mem.head _)) (by kernel_rfl) (by kernel_rfl) (by kernel_rfl) (by kernel_rfl) (fun _ _ _ h => h) (Or.inl ⟨by rfl, ?_⟩) hHeld ?_
      · (intro u hu; (try dsimp only at hu); go_split_ands; go_simp)
      (try simp only [Act.put, List.setIfInBounds_toArray, List.set_cons_zero, List.set_cons_succ])
      refine late_take 20 (v := .agg #[.bool na, .slice ao al ac]) rfl (by kernel_rfl) (List.Mem.tail _ (List.Mem.tail _ (List.Mem.head _))) (by kernel_rfl) (by kernel_rfl) (by kernel_rfl) (by kernel_rfl) (fun _ _ _ h => h) (Or.inl ⟨by rfl, ?_⟩) hHeld ?_
      · (intro u hu; (try dsimp only at hu); go_split_ands; go_simp)
      (try simp only [Act.put, List.setIfInBounds_toArray, List.set_cons_zero, List.set_cons_succ])
      refine late_take 21 (v := .agg #[.bool nb, .slice bo bl bc]) rfl (by kernel_rfl) (List.Mem.tail _ (List.Mem.tail _ (List.Mem.tail _ (List.Mem.head _)))) (by kernel_rfl) (by kernel_rfl) (by kernel_rfl) (by kernel_rfl) (fun _ _ _ h => h) (Or.inl ⟨by rfl, ?_⟩) hHeld ?_
      · (intro u hu; (try dsimp only at hu); go_split_ands; go_simp)
      (try simp only [Act.put, List.setIfInBounds_toArray, List.set_cons_zero, List.set_cons_succ])
      refine late_step 19 (by kernel_rfl) rfl (fun K hK => ?_)
      go_simp
      have hq := c_cmp (ia.below (below_drew' _)) (ib.below (below_drew' _))
      rw [HC.out] at hq
      refine hq.mono ?_
      rintro e w8 ⟨rfl, b8⟩
      clear hq
      have B8 : Below w7.heap.size w7 w8 := bstep (below_drew' _) b8
      clear hHeld
      have hHeld : AllL w8 [(17, fun w' => w'.cell? ⟨g, 0, none⟩ = some (.bool na) ∧ w'.cell? ⟨g, 1, none⟩ = some (.slice ao al ac)), (18, fun w' => w'.cell? ⟨g + 1, 0, none⟩ = some (.bool nb) ∧ w'.cell? ⟨g + 1, 1, none⟩ = some (.slice bo bl bc)), (20, fun w' => w'.cell? ⟨g, 0, none⟩ = some (.bool na) ∧ w'.cell? ⟨g, 1, none⟩ = some (.slice ao al ac)), (21, fun w' => w'.cell? ⟨g + 1, 0, none⟩ = some (.bool nb) ∧ w'.cell? ⟨g + 1, 1, none⟩ = some (.slice bo bl bc)), (26, fun w' => w'.cell? ⟨g, 0, none⟩ = some (.bool na) ∧ w'.cell? ⟨g, 1, none⟩ = some (.slice ao al ac)), (28, fun w' => w'.cell? ⟨g, 0, none⟩ = some (.bool na) ∧ w'.cell? ⟨g, 1, none⟩ = some (.slice ao al ac))] := ⟨(qa.below B8).cells, (qb.below B8).cells, (qa.below B8).cells, (qb.below B8).cells, (qa.below B8).cells, (qa.below B8).cells, trivial⟩
      go_wp2_with fail
      refine hK.out _ _ (AllL.kept hHeld) ?_
      clear hK K
      (try simp only [Act.put, List.setIfInBounds_toArray, List.set_cons_zero, List.set_cons_succ])
      refine late_step 22 (by kernel_rfl) rfl (fun K hK => ?_)
      go_simp
      have hq := r_cmp (K := 30) ((ia.below (below_drew' _)).below b8) ((ib.below (below_drew' _)).below b8) sa sb (by decide) (by decide) (by decide)
      rw [HC.out] at hq
      refine hq.mono ?_
      rintro e w9 ⟨rfl, b9⟩
      clear hq
      have B9 : Below w7.heap.size w7 w9 := bstep B8 b9
      clear hHeld
      have hHeld : AllL w9 [(17, fun w' => w'.cell? ⟨g, 0, none⟩ = some (.bool na) ∧ w'.cell? ⟨g, 1, none⟩ = some (.slice ao al ac)), (18, fun w' => w'.cell? ⟨g + 1, 0, none⟩ = some (.bool nb) ∧ w'.cell? ⟨g + 1, 1, none⟩ = some (.slice bo bl bc)), (20, fun w' => w'.cell? ⟨g, 0, none⟩ = some (.bool na) ∧ w'.cell? ⟨g, 1, none⟩ = some (.slice ao al ac)), (21, fun w' => w'.cell? ⟨g + 1, 0, none⟩ = some (.bool nb) ∧ w'.cell? ⟨g + 1, 1, none⟩ = some (.slice bo bl bc)), (26, fun w' => w'.cell? ⟨g, 0, none⟩ = some (.bool na) ∧ w'.cell? ⟨g, 1, none⟩ = some (.slice ao al ac)), (28, fun w' => w'.cell? ⟨g, 0, none⟩ = some (.bool na) ∧ w'.cell? ⟨g, 1, none⟩ = some (.slice ao al ac))] := ⟨(qa.below B9).cells, (qb.below B9).cells, (qa.below B9).cells, (qb.below B9).cells, (qa.below B9).cells, (qa.below B9).cells, trivial⟩
      go_wp2_with fail
      refine hK.out _ _ (AllL.kept hHeld) ?_
      clear hK K
      (try simp only [Act.put, List.setIfInBounds_toArray, List.set_cons_zero, List.set_cons_succ])
      refine late_free 23 (v := .bool true) rfl (by kernel_rfl) (by kernel_rfl) (by kernel_rfl) (by kernel_rfl) (by kernel_rfl) (by kernel_rfl) (fun _ _ _ h => h) (Or.inl ⟨by rfl, ?_⟩) hHeld ?_
      · (intro u _; go_simp)
      (try simp only [Act.put, List.setIfInBounds_toArray, List.set_cons_zero, List.set_cons_succ])
      refine late_free 24 (v := .bool true) rfl (by kernel_rfl) (by kernel_rfl) (by kernel_rfl) (by kernel_rfl) (by kernel_rfl) (by kernel_rfl) (fun _ _ _ h => h) (Or.inl ⟨by rfl, ?_⟩) hHeld ?_
      · (intro u _; go_simp)
      (try simp only [Act.put, List.setIfInBounds_toArray, List.set_cons_zero, List.set_cons_succ])
      refine late_free 25 (v := .bool true) rfl (by kernel_rfl) (by kernel_rfl) (by kernel_rfl) (by kernel_rfl) (by kernel_rfl) (by kernel_rfl) (fun _ _ _ h => h) (Or.inl ⟨by rfl, ?_⟩) hHeld ?_
      · (intro u _; go_simp)
      (try simp only [Act.put, List.setIfInBounds_toArray, List.set_cons_zero, List.set_cons_succ])
      refine late_take 26 (v := .agg #[.bool na, .slice ao al ac]) rfl (by kernel_rfl) (List.Mem.tail _ (List.Mem.tail _ (List.Mem.tail _ (List.Mem.tail _ (List.Mem.head _))))) (by kernel_rfl) (by kernel_rfl) (by kernel_rfl) (by kernel_rfl) (fun _ _ _ h => h) (Or.inl ⟨by rfl, ?_⟩) hHeld ?_
      · (intro u hu; (try dsimp only at hu); go_split_ands; go_simp)
      (try simp only [Act.put, List.setIfInBounds_toArray, List.set_cons_zero, List.set_cons_succ])
      refine late_take 28 (v := .agg #[.bool na, .slice ao al ac]) rfl (by kernel_rfl) (List.Mem.tail _ (List.Mem.tail _ (List.Mem.tail _ (List.Mem.tail _ (List.Mem.tail _ (List.Mem.head _)))))) (by kernel_rfl) (by kernel_rfl) (by kernel_rfl) (by kernel_rfl) (fun _ _ _ h => h) (Or.inl ⟨by rfl, ?_⟩) hHeld ?_
      · (intro u hu; (try dsimp only at hu); go_split_ands; go_simp)
      (try simp only [Act.put, List.setIfInBounds_toArray, List.set_cons_zero, List.set_cons_succ])
      refine late_step 27 (by kernel_rfl) rfl (fun K hK => ?_)
      go_simp
      have hq := c_sign (((ia.below (below_drew' _)).below b8).below b9)
      rw [HD.out] at hq
      refine hq.mono ?_
      rintro e w10 ⟨rfl, b10⟩
      clear hq
      have B10 : Below w7.heap.size w7 w10 := bstep B9 b10
      clear hHeld
      have hHeld : AllL w10 [(17, fun w' => w'.cell? ⟨g, 0, none⟩ = some (.bool na) ∧ w'.cell? ⟨g, 1, none⟩ = some (.slice ao al ac)), (18, fun w' => w'.cell? ⟨g + 1, 0, none⟩ = some (.bool nb) ∧ w'.cell? ⟨g + 1, 1, none⟩ = some (.slice bo bl bc)), (20, fun w' => w'.cell? ⟨g, 0, none⟩ = some (.bool na) ∧ w'.cell? ⟨g, 1, none⟩ = some (.slice ao al ac)), (21, fun w' => w'.cell? ⟨g + 1, 0, none⟩ = some (.bool nb) ∧ w'.cell? ⟨g + 1, 1, none⟩ = some (.slice bo bl bc)), (26, fun w' => w'.cell? ⟨g, 0, none⟩ = some (.bool na) ∧ w'.cell? ⟨g, 1, none⟩ = some (.slice ao al ac)), (28, fun w' => w'.cell? ⟨g, 0, none⟩ = some (.bool na) ∧ w'.cell? ⟨g, 1, none⟩ = some (.slice ao al ac))] := ⟨(qa.below B10).cells, (qb.below B10).cells, (qa.below B10).cells, (qb.below B10).cells, (qa.below B10).cells, (qa.below B10).cells, trivial⟩
      go_wp2_with fail
      refine hK.out _ _ (AllL.kept hHeld) ?_
      clear hK K
      (try simp only [Act.put, List.setIfInBounds_toArray, List.set_cons_zero, List.set_cons_succ])
      refine late_step 29 (by kernel_rfl) rfl (fun K hK => ?_)
      go_simp
      have hq := r_sign ((((ia.below (below_drew' _)).below b8).below b9).below b10)
      rw [HD.out] at hq
      refine hq.mono ?_
      rintro e w11 ⟨rfl, b11⟩
      clear hq
      have B11 : Below w7.heap.size w7 w11 := bstep B10 b11
      clear hHeld
      have hHeld : AllL w11 [(17, fun w' => w'.cell? ⟨g, 0, none⟩ = some (.bool na) ∧ w'.cell? ⟨g, 1, none⟩ = some (.slice ao al ac)), (18, fun w' => w'.cell? ⟨g + 1, 0, none⟩ = some (.bool nb) ∧ w'.cell? ⟨g + 1, 1, none⟩ = some (.slice bo bl bc)), (20, fun w' => w'.cell? ⟨g, 0, none⟩ = some (.bool na) ∧ w'.cell? ⟨g, 1, none⟩ = some (.slice ao al ac)), (21, fun w' => w'.cell? ⟨g + 1, 0, none⟩ = some (.bool nb) ∧ w'.cell? ⟨g + 1, 1, none⟩ = some (.slice bo bl bc)), (26, fun w' => w'.cell? ⟨g, 0, none⟩ = some (.bool na) ∧ w'.cell? ⟨g, 1, none⟩ = some (.slice ao al ac)), (28, fun w' => w'.cell? ⟨g, 0, none⟩ = some (.bool na) ∧ w'.cell? ⟨g, 1, none⟩ = some (.slice ao al ac))] := ⟨(qa.below B11).cells, (qb.below B11).cells, (qa.below B11).cells, (qb.below B11).cells, (qa.below B11).cells, (qa.below B11).cells, trivial⟩
      go_wp2_with fail
      refine hK.out _ _ (AllL.kept hHeld) ?_
      clear hK K
      (try simp only [Act.put, List.setIfInBounds_toArray, List.set_cons_zero, List.set_cons_succ])
      refine late_free 30 (v := .bool true) rfl (by kernel_rfl) (by kernel_rfl) (by kernel_rfl) (by kernel_rfl) (by kernel_rfl) (by kernel_rfl) (fun _ _ _ h => h) (Or.inl ⟨by rfl, ?_⟩) hHeld ?_
      · (intro u _; go_simp)
      (try simp only [Act.put, List.setIfInBounds_toArray, List.set_cons_zero, List.set_cons_succ])
      refine late_free 31 (v := .bool true) rfl (by kernel_rfl) (by kernel_rfl) (by kernel_rfl) (by kernel_rfl) (by kernel_rfl) (by kernel_rfl) (fun _ _ _ h => h) (Or.inl ⟨by rfl, ?_⟩) hHeld ?_
      · (intro u _; go_simp)
      (try simp only [Act.put, List.setIfInBounds_toArray, List.set_cons_zero, List.set_cons_succ])
      refine late_step 32 (by kernel_rfl) rfl (fun K hK => ?_)
      go_simp
      refine hK.out _ _ ⟨Or.inl ⟨19, by kernel_rfl, by kernel_rfl⟩, Or.inl ⟨19, by kernel_rfl, by kernel_rfl⟩, Or.inl ⟨22, by kernel_rfl, by kernel_rfl⟩, Or.inl ⟨22, by kernel_rfl, by kernel_rfl⟩, Or.inl ⟨27, by kernel_rfl, by kernel_rfl⟩, Or.inl ⟨29, by kernel_rfl, by kernel_rfl⟩, trivial⟩ ?_
      clear hK K
      (try simp only [Act.put, List.setIfInBounds_toArray, List.set_cons_zero, List.set_cons_succ])
      refine late_done (by kernel_rfl) ?_ _
      clear hHeld
      have b := B11
      clear b8 b9 b10 b11 B8 B9 B10 B11
      replace ia := ia.below b
      replace ib := ib.below b
      replace qa := qa.below b
      replace qb := qb.below b
      replace hb := bstep hb b
      replace hsz := Nat.lt_of_lt_of_le hsz b.size
      clear b
      go_wp2_with fail
      refine region_late [(2, fun w' => w'.cell? ⟨g, 0, none⟩ = some (.bool na) ∧ w'.cell? ⟨g, 1, none⟩ = some (.slice ao al ac)), (4, fun w' => w'.cell? ⟨g, 0, none⟩ = some (.bool na) ∧ w'.cell? ⟨g, 1, none⟩ = some (.slice ao al ac))] (by kernel_rfl) ?_
      have hHeld : AllL w11.drew [(2, fun w' => w'.cell? ⟨g, 0, none⟩ = some (.bool na) ∧ w'.cell? ⟨g, 1, none⟩ = some (.slice ao al ac)), (4, fun w' => w'.cell? ⟨g, 0, none⟩ = some (.bool na) ∧ w'.cell? ⟨g, 1, none⟩ = some (.slice ao al ac))] := ⟨(show ICell w11.drew (g) na (.slice ao al ac) from qa).cells, (show ICell w11.drew (g) na (.slice ao al ac) from qa).cells, trivial⟩
      refine late_free 0 (v := .bool true) rfl (by kernel_rfl) (by kernel_rfl) (by kernel_rfl) (by kernel_rfl) (by kernel_rfl) (by kernel_rfl) (fun _ _ _ h => h) (Or.inl ⟨by rfl, ?_⟩) hHeld ?_
      · (intro u _; go_simp)
      (try simp only [Act.put, List.setIfInBounds_toArray, List.set_cons_zero, List.set_cons_succ])
      refine late_free 1 (v := .bool true) rfl (by kernel_rfl) (by kernel_rfl) (by kernel_rfl) (by kernel_rfl) (by kernel_rfl) (by kernel_rfl) (fun _ _ _ h => h) (Or.inl ⟨by rfl, ?_⟩) hHeld ?_
      · (intro u _; go_simp)
      (try simp only [Act.put, List.setIfInBounds_toArray, List.set_cons_zero, List.set_cons_succ])
      refine late_take 2 (v := .agg #[.bool na, .slice ao al ac]) rfl (by kernel_rfl) (List.Mem.head _) (by kernel_rfl) (by kernel_rfl) (by kernel_rfl) (by kernel_rfl) (fun _ _ _ h => h) (Or.inl ⟨by rfl, ?_⟩) hHeld ?_
      · (intro u hu; (try dsimp only at hu); go_split_ands; go_simp)
      (try simp only [Act.put, List.setIfInBounds_toArray, List.set_cons_zero, List.set_cons_succ])
      refine late_take 4 (v := .agg #[.bool na, .slice ao al ac]) rfl (by kernel_rfl) (List.Mem.tail _ (List.Mem.head _)) (by kernel_rfl) (by kernel_rfl) (by kernel_rfl) (by kernel_rfl) (fun _ _ _ h => h) (Or.inl ⟨by rfl, ?_⟩) hHeld ?_
      · (intro u hu; (try dsimp only at hu); go_split_ands; go_simp)
      (try simp only [Act.put, List.setIfInBounds_toArray, List.set_cons_zero, List.set_cons_succ])
      refine late_step 3 (by kernel_rfl) rfl (fun K hK => ?_)
      go_simp
      have hq := c_text (ia.below (below_drew' _))
      rw [HT.out] at hq
      refine hq.mono ?_
      rintro e w12 ⟨rfl, b12⟩
      clear hq
      have B12 : Below w11.heap.size w11 w12 := bstep (below_drew' _) b12
      clear hHeld
      have hHeld : AllL w12 [(2, fun w' => w'.cell? ⟨g, 0, none⟩ = some (.bool na) ∧ w'.cell? ⟨g, 1, none⟩ = some (.slice ao al ac)), (4, fun w' => w'.cell? ⟨g, 0, none⟩ = some (.bool na) ∧ w'.cell? ⟨g, 1, none⟩ = some (.slice ao al ac))] := ⟨(qa.below B12).cells, (qa.below B12).cells, trivial⟩
      go_wp2_with fail
      refine hK.out _ _ (AllL.kept hHeld) ?_
      clear hK K
      (try simp only [Act.put, List.setIfInBounds_toArray, List.set_cons_zero, List.set_cons_succ])
      refine late_step 5 (by kernel_rfl) rfl (fun K hK => ?_)
      go_simp
      have hq := r_text ((ia.below (below_drew' _)).below b12)
      rw [HT.out] at hq
      refine hq.mono ?_
      rintro e w13 ⟨rfl, b13⟩
      clear hq
      have B13 : Below w11.heap.size w11 w13 := bstep B12 b13
      clear hHeld
      have hHeld : AllL w13 [(2, fun w' => w'.cell? ⟨g, 0, none⟩ = some (.bool na) ∧ w'.cell? ⟨g, 1, none⟩ = some (.slice ao al ac)), (4, fun w' => w'.cell? ⟨g, 0, none⟩ = some (.bool na) ∧ w'.cell? ⟨g, 1, none⟩ = some (.slice ao al ac))] := ⟨(qa.below B13).cells, (qa.below B13).cells, trivial⟩
      go_wp2_with fail
      refine hK.out _ _ (AllL.kept hHeld) ?_
      clear hK K
      (try simp only [Act.put, List.setIfInBounds_toArray, List.set_cons_zero, List.set_cons_succ])
      refine late_free 6 (v := .bool true) rfl (by kernel_rfl) (by kernel_rfl) (by kernel_rfl) (by kernel_rfl) (by kernel_rfl) (by kernel_rfl) (fun _ _ _ h => h) (Or.inl ⟨by rfl, ?_⟩) hHeld ?_
      · (intro u _; go_simp)
      (try simp only [Act.put, List.setIfInBounds_toArray, List.set_cons_zero, List.set_cons_succ])
      refine late_free 7 (v := .bool true) rfl (by kernel_rfl) (by kernel_rfl) (by kernel_rfl) (by kernel_rfl) (by kernel_rfl) (by kernel_rfl) (fun _ _ _ h => h) (Or.inl ⟨by rfl, ?_⟩) hHeld ?_
      · (intro u _; go_simp)
      (try simp only [Act.put, List.setIfInBounds_toArray, List.set_cons_zero, List.set_cons_succ])
      refine late_free 8 (v := .bool true) rfl (by kernel_rfl) (by kernel_rfl) (by kernel_rfl) (by kernel_rfl) (by kernel_rfl) (by kernel_rfl) (fun _ _ _ h => h) (Or.inl ⟨by rfl, ?_⟩) hHeld ?_
      · (intro u _; go_simp)
      (try simp only [Act.put, List.setIfInBounds_toArray, List.set_cons_zero, List.set_cons_succ])
      refine late_free 9 (v := .int .i64 n) rfl (by kernel_rfl) (by kernel_rfl) (by kernel_rfl) (by kernel_rfl) (by kernel_rfl) (by kernel_rfl) (fun _ _ _ h => h) (Or.inl ⟨by rfl, ?_⟩) hHeld ?_
      · (intro u _; go_simp)
      (try simp only [Act.put, List.setIfInBounds_toArray, List.set_cons_zero, List.set_cons_succ])
      refine late_free 11 (v := .int .i64 n) rfl (by kernel_rfl) (by kernel_rfl) (by kernel_rfl) (by kernel_rfl) (by kernel_rfl) (by kernel_rfl) (fun _ _ _ h => h) (Or.inl ⟨by rfl, ?_⟩) hHeld ?_
      · (intro u _; go_simp)
      (try simp only [Act.put, List.setIfInBounds_toArray, List.set_cons_zero, List.set_cons_succ])
      refine late_step 10 (by kernel_rfl) rfl (fun K hK => ?_)
      go_simp
      refine (c_of hn1 hn2).mono ?_
      rintro e w14 ⟨v, rfl, hv, b14⟩
      obtain ⟨m, rfl, hm⟩ := hv
      obtain ⟨ko, kl, kc, rfl⟩ := hm.sl
      obtain ⟨nk, hnk⟩ : ∃ b, b = decide (n < 0) := ⟨_, rfl⟩
      rw [← hnk]
      have ik : IStd w14 (.agg #[.bool nk, .slice ko kl kc]) n := ⟨_, by rw [hnk], hm.num⟩
      clear hm hnk
      have B14 : Below w11.heap.size w11 w14 := bstep B13 b14
      clear hHeld
      have hHeld : AllL w14 [(2, fun w' => w'.cell? ⟨g, 0, none⟩ = some (.bool na) ∧ w'.cell? ⟨g, 1, none⟩ = some (.slice ao al ac)), (4, fun w' => w'.cell? ⟨g, 0, none⟩ = some (.bool na) ∧ w'.cell? ⟨g, 1, none⟩ = some (.slice ao al ac))] := ⟨(qa.below B14).cells, (qa.below B14).cells, trivial⟩
      go_wp2_with fail
      refine hK.out _ _ (AllL.kept hHeld) ?_
      clear hK K
      (try simp only [Act.put, List.setIfInBounds_toArray, List.set_cons_zero, List.set_cons_succ])
      refine late_step 12 (by kernel_rfl) rfl (fun K hK => ?_)
      go_simp
      refine (r_of n _ hn1 hn2).mono ?_
      rintro e w15 ⟨v, rfl, hv, b15⟩
      obtain ⟨m, rfl, hm⟩ := hv
      obtain ⟨mo, ml, mc, rfl⟩ := hm.sl
      obtain ⟨nm, hnm⟩ : ∃ b, b = decide (n < 0) := ⟨_, rfl⟩
      rw [← hnm]
      have im : IStd w15 (.agg #[.bool nm, .slice mo ml mc]) n := ⟨_, by rw [hnm], hm.num⟩
      clear hm hnm
      have B15 : Below w11.heap.size w11 w15 := bstep B14 b15
      clear hHeld
      have hHeld : AllL w15 [(2, fun w' => w'.cell? ⟨g, 0, none⟩ = some (.bool na) ∧ w'.cell? ⟨g, 1, none⟩ = some (.slice ao al ac)), (4, fun w' => w'.cell? ⟨g, 0, none⟩ = some (.bool na) ∧ w'.cell? ⟨g, 1, none⟩ = some (.slice ao al ac))] := ⟨(qa.below B15).cells, (qa.below B15).cells, trivial⟩
      go_wp2_with fail
      refine hK.out _ _ (AllL.kept hHeld) ?_
      clear hK K
      (try simp only [Act.put, List.setIfInBounds_toArray, List.set_cons_zero, List.set_cons_succ])
      refine late_step 13 (by kernel_rfl) rfl (fun K hK => ?_)
      go_simp
      refine (same02 _ _ n _ (ik.below b15) im).mono ?_
      rintro e w16 ⟨rfl, b16⟩
      have B16 : Below w11.heap.size w11 w16 := bstep B15 b16
      clear hHeld
      have hHeld : AllL w16 [(2, fun w' => w'.cell? ⟨g, 0, none⟩ = some (.bool na) ∧ w'.cell? ⟨g, 1, none⟩ = some (.slice ao al ac)), (4, fun w' => w'.cell? ⟨g, 0, none⟩ = some (.bool na) ∧ w'.cell? ⟨g, 1, none⟩ = some (.slice ao al ac))] := ⟨(qa.below B16).cells, (qa.below B16).cells, trivial⟩
      go_wp2_with fail
      refine hK.out _ _ (AllL.kept hHeld) ?_
      clear hK K
      (try simp only [Act.put, List.setIfInBounds_toArray, List.set_cons_zero, List.set_cons_succ])
      refine late_free 14 (v := .bool true) rfl (by kernel_rfl) (by kernel_rfl) (by kernel_rfl) (by kernel_rfl) (by kernel_rfl) (by kernel_rfl) (fun _ _ _ h => h) (Or.inl ⟨by rfl, ?_⟩) hHeld ?_
      · (intro u _; go_simp)
      (try simp only [Act.put, List.setIfInBounds_toArray, List.set_cons_zero, List.set_cons_succ])
      refine late_step 15 (by kernel_rfl) rfl (fun K hK => ?_)
      go_simp
      refine hK.out _ _ ⟨Or.inl ⟨3, by kernel_rfl, by kernel_rfl⟩, Or.inl ⟨5, by kernel_rfl, by kernel_rfl⟩, trivial⟩ ?_
      clear hK K
      (try simp only [Act.put, List.setIfInBounds_toArray, List.set_cons_zero, List.set_cons_succ])
      refine late_done (by kernel_rfl) ?_ _
      clear hHeld
      have b := B16
      clear b12 b13 b14 b15 b16 B12 B13 B14 B15 B16
      replace ia := ia.below b
      replace ib := ib.below b
      replace qa := qa.below b
      replace qb := qb.below b
      replace hb := bstep hb b
      replace hsz := Nat.lt_of_lt_of_le hsz b.size
      clear b
      clear ik im
      have HE : Hid (Below w1.heap.size w1 w16) := hb
      clear hb hsz qa qb ia ib
      go_wp2_with fail
      go_ret
      exact ⟨rfl, HE.out⟩
end Go.Proofs.YtcbfhakolfcmgaaDoor
