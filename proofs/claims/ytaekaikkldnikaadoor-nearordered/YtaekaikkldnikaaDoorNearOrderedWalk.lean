/-
  Proved here: NearOrdered of any three floats returns true, and writes nothing that was there.
-/
import Derived.Test.YtaekaikkldnikaaDoorNearOfBAll
namespace Go.Proofs.YtaekaikkldnikaaDoor
open Go.RowKit

theorem of64_some (b : Nat) (w : World) (hb : b < 18446744073709551616) : Calls Tryd.prog 7 #[.float .f64 b] w fun e w' => ∃ nq qo ql qc qO qL qC cb, e = .returned (.tuple #[.agg #[.bool nq, .slice qo ql qc, .slice qO qL qC], .int .i64 cb]) ∧ Below w.heap.size w w' := by
  rcases Nat.lt_or_ge (b % 2 ^ 63) 9218868437227405312 with h | h
  · refine (of64_yes b w hb h).mono ?_
    rintro e w' ⟨v, rfl, hv, hb⟩
    obtain ⟨n, o, l, c, O, L, C, rfl, _⟩ := hv.seeS
    exact ⟨n, o, l, c, O, L, C, 0, rfl, hb⟩
  · refine (of64_no b w hb h).mono ?_
    rintro e w' ⟨rfl, hb⟩
    exact ⟨_, _, _, _, _, _, _, 13, rfl, hb⟩
/-- The three orders, as the law looks at them. -/
def OrdOk (x y z : Int) : Prop := (x = 1) ∨ (x = -1 ∧ y = 1) ∨ (x = 0 ∧ y = 1) ∨ (x = 0 ∧ y = 0 ∧ z = 0) ∨ (x = 0 ∧ y = -1 ∧ z = -1) ∨ (x = -1 ∧ y = 0 ∧ z = -1) ∨ (x = -1 ∧ y = -1 ∧ z = -1)
theorem ord_ok (p q r : Int) : OrdOk (cmpZ p q) (cmpZ q r) (cmpZ p r) := by
  unfold OrdOk cmpZ
  repeat' split
  all_goals omega
set_option maxRecDepth 100000 in
set_option maxHeartbeats 6400000 in
theorem nordA (x y z : Int) (a b c : Nat) (w : World) (ha : a < 18446744073709551616) (hb0 : b < 18446744073709551616) (hxy : ∀ w, Calls Tryd.prog 16 #[.float .f64 a, .float .f64 b] w fun e w' => e = .returned (.int .i64 x) ∧ w' = w) (hyz : ∀ w, Calls Tryd.prog 16 #[.float .f64 b, .float .f64 c] w fun e w' => e = .returned (.int .i64 y) ∧ w' = w) (hxz : ∀ w, Calls Tryd.prog 16 #[.float .f64 a, .float .f64 c] w fun e w' => e = .returned (.int .i64 z) ∧ w' = w) (haa : ∀ w, Calls Tryd.prog 16 #[.float .f64 a, .float .f64 a] w fun e w' => e = .returned (.int .i64 0) ∧ w' = w) (hba : ∀ w, Calls Tryd.prog 16 #[.float .f64 b, .float .f64 a] w fun e w' => e = .returned (.int .i64 (-x)) ∧ w' = w) (hok : OrdOk x y z) (hfa : 9218868437227405312 ≤ a % 2 ^ 63) :
    Calls Tryd.prog 5 #[.float .f64 a, .float .f64 b, .float .f64 c] w fun e w' => e = .returned (.bool true) ∧ Below w.heap.size w w' := by
  have HFA : Hid (_) := hfa
  clear hfa
  rcases hok with rfl | ⟨rfl, rfl⟩ | ⟨rfl, rfl⟩ | ⟨rfl, rfl, rfl⟩ | ⟨rfl, rfl, rfl⟩ | ⟨rfl, rfl, rfl⟩ | ⟨rfl, rfl, rfl⟩
  all_goals
    have hb : Below w.heap.size w w := Below.refl _ _
    go_enter Tryd.func5, Tryd.ntmps5
    go_wp2_with fail
    refine (alive5_yes _).mono ?_
    rintro e w2 ⟨rfl, b⟩
    replace hb := bstep hb b
    clear b
    go_wp2_with fail
    refine (hxy _).mono ?_
    rintro e w3 ⟨rfl, rfl⟩
    clear hxy
    go_wp2_with fail
    refine (hyz _).mono ?_
    rintro e w4 ⟨rfl, rfl⟩
    clear hyz
    go_wp2_with fail
    refine (hxz _).mono ?_
    rintro e w5 ⟨rfl, rfl⟩
    clear hxz
    go_wp2_with fail
    refine (haa _).mono ?_
    rintro e w6 ⟨rfl, rfl⟩
    clear haa
    go_wp2_with fail
    refine (hba _).mono ?_
    rintro e w7 ⟨rfl, rfl⟩
    clear hba
    go_wp2_with fail
    refine (of64_no a _ ha HFA.out).mono ?_
    rintro e w8 ⟨rfl, b⟩
    replace hb := bstep hb b
    clear b
    obtain ⟨W9, hW9⟩ : ∃ W, W = w8.alloc (.cells #[.bool false, .slice none 0 0, .slice none 0 0] 30) := ⟨_, rfl⟩
    have hq0 : QCell (w8.alloc (.cells #[.bool false, .slice none 0 0, .slice none 0 0] 30)) w8.heap.size false (.slice none 0 0) (.slice none 0 0) := qcell_new _ rfl
    have b : Below w8.heap.size w8 W9 := by rw [hW9]; exact belowA _ _
    obtain ⟨z0, z1, z2⟩ := hq0.cells
    have t0 := hq0.thaw 0
    have t1 := hq0.thaw 1
    have t2 := hq0.thaw 2
    clear hq0
    replace hb := bstep hb b
    clear b
    have HW9 : Hid (W9 = w8.alloc (.cells #[.bool false, .slice none 0 0, .slice none 0 0] 30)) := hW9
    clear hW9
    go_wp2_with fail
    rw [← HW9.out]
    clear HW9 z0 z1 z2 t0 t1 t2
    refine (of64_some b _ hb0).mono ?_
    rintro e w10 ⟨nq, qo, ql, qc, qO, qL, qC, cb, rfl, b⟩
    replace hb := bstep hb b
    clear b
    have hq0 : QCell (w10.alloc (.cells #[.bool false, .slice none 0 0, .slice none 0 0] 30)) w10.heap.size false (.slice none 0 0) (.slice none 0 0) := qcell_new _ rfl
    obtain ⟨W11, hW11⟩ : ∃ W, W = w10.alloc (.cells #[.bool nq, .slice qo ql qc, .slice qO qL qC] 30) := ⟨_, rfl⟩
    have qq : QCell W11 (w10.heap.size) nq (.slice qo ql qc) (.slice qO qL qC) := by rw [hW11]; exact qcell_new _ rfl
    have b : Below w10.heap.size w10 W11 := by rw [hW11]; exact belowA _ _
    obtain ⟨z0, z1, z2⟩ := hq0.cells
    have t0 := hq0.thaw 0
    have t1 := hq0.thaw 1
    have t2 := hq0.thaw 2
    clear hq0
    replace hb := bstep hb b
    clear b
    have rqq0 : (w10.alloc (.cells #[.bool nq, .slice qo ql qc, .slice qO qL qC] 30)).cell? ⟨w10.heap.size, 0, none⟩ = some (.bool nq) := by rw [← hW11]; exact qq.cells.1
    have rqq1 : (w10.alloc (.cells #[.bool nq, .slice qo ql qc, .slice qO qL qC] 30)).cell? ⟨w10.heap.size, 1, none⟩ = some (.slice qo ql qc) := by rw [← hW11]; exact qq.cells.2.1
    have rqq2 : (w10.alloc (.cells #[.bool nq, .slice qo ql qc, .slice qO qL qC] 30)).cell? ⟨w10.heap.size, 2, none⟩ = some (.slice qO qL qC) := by rw [← hW11]; exact qq.cells.2.2
    obtain ⟨v11, hv11⟩ : ∃ v, v = w10.heap.size := ⟨_, rfl⟩
    rw [← hv11] at qq
    have HW11 : Hid (W11 = w10.alloc (.cells #[.bool nq, .slice qo ql qc, .slice qO qL qC] 30)) := hW11
    have Hv11 : Hid (v11 = w10.heap.size) := hv11
    clear hW11 hv11
    have HE : Hid (Below w.heap.size w W11) := hb
    clear hb qq
    go_wp2
    rw [← HW11.out]
    go_ret
    exact ⟨rfl, HE.out⟩
set_option maxRecDepth 100000 in
set_option maxHeartbeats 6400000 in
theorem nordB (x y z : Int) (a b c : Nat) (w : World) (ha : a < 18446744073709551616) (hb0 : b < 18446744073709551616) (hxy : ∀ w, Calls Tryd.prog 16 #[.float .f64 a, .float .f64 b] w fun e w' => e = .returned (.int .i64 x) ∧ w' = w) (hyz : ∀ w, Calls Tryd.prog 16 #[.float .f64 b, .float .f64 c] w fun e w' => e = .returned (.int .i64 y) ∧ w' = w) (hxz : ∀ w, Calls Tryd.prog 16 #[.float .f64 a, .float .f64 c] w fun e w' => e = .returned (.int .i64 z) ∧ w' = w) (haa : ∀ w, Calls Tryd.prog 16 #[.float .f64 a, .float .f64 a] w fun e w' => e = .returned (.int .i64 0) ∧ w' = w) (hba : ∀ w, Calls Tryd.prog 16 #[.float .f64 b, .float .f64 a] w fun e w' => e = .returned (.int .i64 (-x)) ∧ w' = w) (hok : OrdOk x y z) (hfa : a % 2 ^ 63 < 9218868437227405312) (hfb : 9218868437227405312 ≤ b % 2 ^ 63) :
    Calls Tryd.prog 5 #[.float .f64 a, .float .f64 b, .float .f64 c] w fun e w' => e = .returned (.bool true) ∧ Below w.heap.size w w' := by
  have HFA : Hid (_) := hfa
  have HFB : Hid (_) := hfb
  clear hfa hfb
  rcases hok with rfl | ⟨rfl, rfl⟩ | ⟨rfl, rfl⟩ | ⟨rfl, rfl, rfl⟩ | ⟨rfl, rfl, rfl⟩ | ⟨rfl, rfl, rfl⟩ | ⟨rfl, rfl, rfl⟩
  all_goals
    have hb : Below w.heap.size w w := Below.refl _ _
    go_enter Tryd.func5, Tryd.ntmps5
    go_wp2_with fail
    refine (alive5_yes _).mono ?_
    rintro e w2 ⟨rfl, b⟩
    replace hb := bstep hb b
    clear b
    go_wp2_with fail
    refine (hxy _).mono ?_
    rintro e w3 ⟨rfl, rfl⟩
    clear hxy
    go_wp2_with fail
    refine (hyz _).mono ?_
    rintro e w4 ⟨rfl, rfl⟩
    clear hyz
    go_wp2_with fail
    refine (hxz _).mono ?_
    rintro e w5 ⟨rfl, rfl⟩
    clear hxz
    go_wp2_with fail
    refine (haa _).mono ?_
    rintro e w6 ⟨rfl, rfl⟩
    clear haa
    go_wp2_with fail
    refine (hba _).mono ?_
    rintro e w7 ⟨rfl, rfl⟩
    clear hba
    go_wp2_with fail
    refine (of64_yes a _ ha HFA.out).mono ?_
    rintro e w8 ⟨v, rfl, hv, b⟩
    obtain ⟨np, po, pl, pc, pO, pL, pC, rfl, rp⟩ := hv.seeS
    clear hv
    replace hb := bstep hb b
    clear b
    have hq0 : QCell (w8.alloc (.cells #[.bool false, .slice none 0 0, .slice none 0 0] 30)) w8.heap.size false (.slice none 0 0) (.slice none 0 0) := qcell_new _ rfl
    obtain ⟨W9, hW9⟩ : ∃ W, W = w8.alloc (.cells #[.bool np, .slice po pl pc, .slice pO pL pC] 30) := ⟨_, rfl⟩
    have qp : QCell W9 (w8.heap.size) np (.slice po pl pc) (.slice pO pL pC) := by rw [hW9]; exact qcell_new _ rfl
    have b : Below w8.heap.size w8 W9 := by rw [hW9]; exact belowA _ _
    obtain ⟨z0, z1, z2⟩ := hq0.cells
    have t0 := hq0.thaw 0
    have t1 := hq0.thaw 1
    have t2 := hq0.thaw 2
    clear hq0
    replace rp := rp.below b
    replace hb := bstep hb b
    clear b
    have rqp0 : (w8.alloc (.cells #[.bool np, .slice po pl pc, .slice pO pL pC] 30)).cell? ⟨w8.heap.size, 0, none⟩ = some (.bool np) := by rw [← hW9]; exact qp.cells.1
    have rqp1 : (w8.alloc (.cells #[.bool np, .slice po pl pc, .slice pO pL pC] 30)).cell? ⟨w8.heap.size, 1, none⟩ = some (.slice po pl pc) := by rw [← hW9]; exact qp.cells.2.1
    have rqp2 : (w8.alloc (.cells #[.bool np, .slice po pl pc, .slice pO pL pC] 30)).cell? ⟨w8.heap.size, 2, none⟩ = some (.slice pO pL pC) := by rw [← hW9]; exact qp.cells.2.2
    obtain ⟨v9, hv9⟩ : ∃ v, v = w8.heap.size := ⟨_, rfl⟩
    rw [← hv9] at qp
    have HW9 : Hid (W9 = w8.alloc (.cells #[.bool np, .slice po pl pc, .slice pO pL pC] 30)) := hW9
    have Hv9 : Hid (v9 = w8.heap.size) := hv9
    clear hW9 hv9
    go_wp2_with fail
    rw [← HW9.out, ← Hv9.out]
    clear HW9 Hv9 z0 z1 z2 t0 t1 t2 rqp0 rqp1 rqp2
    refine (of64_no b _ hb0 HFB.out).mono ?_
    rintro e w10 ⟨rfl, b⟩
    replace rp := rp.below b
    replace qp := qp.below b
    replace hb := bstep hb b
    clear b
    obtain ⟨W11, hW11⟩ : ∃ W, W = w10.alloc (.cells #[.bool false, .slice none 0 0, .slice none 0 0] 30) := ⟨_, rfl⟩
    have hq0 : QCell (w10.alloc (.cells #[.bool false, .slice none 0 0, .slice none 0 0] 30)) w10.heap.size false (.slice none 0 0) (.slice none 0 0) := qcell_new _ rfl
    have b : Below w10.heap.size w10 W11 := by rw [hW11]; exact belowA _ _
    obtain ⟨z0, z1, z2⟩ := hq0.cells
    have t0 := hq0.thaw 0
    have t1 := hq0.thaw 1
    have t2 := hq0.thaw 2
    clear hq0
    replace rp := rp.below b
    replace qp := qp.below b
    replace hb := bstep hb b
    clear b
    have HW11 : Hid (W11 = w10.alloc (.cells #[.bool false, .slice none 0 0, .slice none 0 0] 30)) := hW11
    clear hW11
    have HE : Hid (Below w.heap.size w W11) := hb
    clear hb qp rp
    go_wp2
    rw [← HW11.out]
    go_ret
    exact ⟨rfl, HE.out⟩
set_option maxRecDepth 100000 in
set_option maxHeartbeats 6400000 in
theorem nordC (x y z : Int) (a b c : Nat) (w : World) (ha : a < 18446744073709551616) (hb0 : b < 18446744073709551616) (hxy : ∀ w, Calls Tryd.prog 16 #[.float .f64 a, .float .f64 b] w fun e w' => e = .returned (.int .i64 x) ∧ w' = w) (hyz : ∀ w, Calls Tryd.prog 16 #[.float .f64 b, .float .f64 c] w fun e w' => e = .returned (.int .i64 y) ∧ w' = w) (hxz : ∀ w, Calls Tryd.prog 16 #[.float .f64 a, .float .f64 c] w fun e w' => e = .returned (.int .i64 z) ∧ w' = w) (haa : ∀ w, Calls Tryd.prog 16 #[.float .f64 a, .float .f64 a] w fun e w' => e = .returned (.int .i64 0) ∧ w' = w) (hba : ∀ w, Calls Tryd.prog 16 #[.float .f64 b, .float .f64 a] w fun e w' => e = .returned (.int .i64 (-x)) ∧ w' = w) (hok : OrdOk x y z) (hfa : a % 2 ^ 63 < 9218868437227405312) (hfb : b % 2 ^ 63 < 9218868437227405312) (hz : a % 2 ^ 63 = 0 ∧ b % 2 ^ 63 = 0) :
    Calls Tryd.prog 5 #[.float .f64 a, .float .f64 b, .float .f64 c] w fun e w' => e = .returned (.bool true) ∧ Below w.heap.size w w' := by
  have HFA : Hid (_) := hfa
  have HFB : Hid (_) := hfb
  have za : (FloatKind.f64.format.order a 0 == some .eq) = true := by rw [eq_nought ha hfa, decide_eq_true hz.1]
  have zb : (FloatKind.f64.format.order b 0 == some .eq) = true := by rw [eq_nought hb0 hfb, decide_eq_true hz.2]
  clear hfa hfb hz
  rcases hok with rfl | ⟨rfl, rfl⟩ | ⟨rfl, rfl⟩ | ⟨rfl, rfl, rfl⟩ | ⟨rfl, rfl, rfl⟩ | ⟨rfl, rfl, rfl⟩ | ⟨rfl, rfl, rfl⟩
  all_goals
    have hb : Below w.heap.size w w := Below.refl _ _
    go_enter Tryd.func5, Tryd.ntmps5
    go_wp2_with fail
    refine (alive5_yes _).mono ?_
    rintro e w2 ⟨rfl, b⟩
    replace hb := bstep hb b
    clear b
    go_wp2_with fail
    refine (hxy _).mono ?_
    rintro e w3 ⟨rfl, rfl⟩
    clear hxy
    go_wp2_with fail
    refine (hyz _).mono ?_
    rintro e w4 ⟨rfl, rfl⟩
    clear hyz
    go_wp2_with fail
    refine (hxz _).mono ?_
    rintro e w5 ⟨rfl, rfl⟩
    clear hxz
    go_wp2_with fail
    refine (haa _).mono ?_
    rintro e w6 ⟨rfl, rfl⟩
    clear haa
    go_wp2_with fail
    refine (hba _).mono ?_
    rintro e w7 ⟨rfl, rfl⟩
    clear hba
    go_wp2_with fail
    refine (of64_yes a _ ha HFA.out).mono ?_
    rintro e w8 ⟨v, rfl, hv, b⟩
    obtain ⟨np, po, pl, pc, pO, pL, pC, rfl, rp⟩ := hv.seeS
    clear hv
    replace hb := bstep hb b
    clear b
    have hq0 : QCell (w8.alloc (.cells #[.bool false, .slice none 0 0, .slice none 0 0] 30)) w8.heap.size false (.slice none 0 0) (.slice none 0 0) := qcell_new _ rfl
    obtain ⟨W9, hW9⟩ : ∃ W, W = w8.alloc (.cells #[.bool np, .slice po pl pc, .slice pO pL pC] 30) := ⟨_, rfl⟩
    have qp : QCell W9 (w8.heap.size) np (.slice po pl pc) (.slice pO pL pC) := by rw [hW9]; exact qcell_new _ rfl
    have b : Below w8.heap.size w8 W9 := by rw [hW9]; exact belowA _ _
    obtain ⟨z0, z1, z2⟩ := hq0.cells
    have t0 := hq0.thaw 0
    have t1 := hq0.thaw 1
    have t2 := hq0.thaw 2
    clear hq0
    replace rp := rp.below b
    replace hb := bstep hb b
    clear b
    have rqp0 : (w8.alloc (.cells #[.bool np, .slice po pl pc, .slice pO pL pC] 30)).cell? ⟨w8.heap.size, 0, none⟩ = some (.bool np) := by rw [← hW9]; exact qp.cells.1
    have rqp1 : (w8.alloc (.cells #[.bool np, .slice po pl pc, .slice pO pL pC] 30)).cell? ⟨w8.heap.size, 1, none⟩ = some (.slice po pl pc) := by rw [← hW9]; exact qp.cells.2.1
    have rqp2 : (w8.alloc (.cells #[.bool np, .slice po pl pc, .slice pO pL pC] 30)).cell? ⟨w8.heap.size, 2, none⟩ = some (.slice pO pL pC) := by rw [← hW9]; exact qp.cells.2.2
    obtain ⟨v9, hv9⟩ : ∃ v, v = w8.heap.size := ⟨_, rfl⟩
    rw [← hv9] at qp
    have HW9 : Hid (W9 = w8.alloc (.cells #[.bool np, .slice po pl pc, .slice pO pL pC] 30)) := hW9
    have Hv9 : Hid (v9 = w8.heap.size) := hv9
    clear hW9 hv9
    go_wp2_with fail
    rw [← HW9.out, ← Hv9.out]
    clear HW9 Hv9 z0 z1 z2 t0 t1 t2 rqp0 rqp1 rqp2
    refine (of64_yes b _ hb0 HFB.out).mono ?_
    rintro e w10 ⟨v, rfl, hv, b⟩
    obtain ⟨nq, qo, ql, qc, qO, qL, qC, rfl, rq⟩ := hv.seeS
    clear hv
    replace rp := rp.below b
    replace qp := qp.below b
    replace hb := bstep hb b
    clear b
    have hq0 : QCell (w10.alloc (.cells #[.bool false, .slice none 0 0, .slice none 0 0] 30)) w10.heap.size false (.slice none 0 0) (.slice none 0 0) := qcell_new _ rfl
    obtain ⟨W11, hW11⟩ : ∃ W, W = w10.alloc (.cells #[.bool nq, .slice qo ql qc, .slice qO qL qC] 30) := ⟨_, rfl⟩
    have qq : QCell W11 (w10.heap.size) nq (.slice qo ql qc) (.slice qO qL qC) := by rw [hW11]; exact qcell_new _ rfl
    have b : Below w10.heap.size w10 W11 := by rw [hW11]; exact belowA _ _
    obtain ⟨z0, z1, z2⟩ := hq0.cells
    have t0 := hq0.thaw 0
    have t1 := hq0.thaw 1
    have t2 := hq0.thaw 2
    clear hq0
    replace rp := rp.below b
    replace rq := rq.below b
    replace qp := qp.below b
    replace hb := bstep hb b
    clear b
    have rqp0 : (w10.alloc (.cells #[.bool nq, .slice qo ql qc, .slice qO qL qC] 30)).cell? ⟨v9, 0, none⟩ = some (.bool np) := by rw [← hW11]; exact qp.cells.1
    have rqp1 : (w10.alloc (.cells #[.bool nq, .slice qo ql qc, .slice qO qL qC] 30)).cell? ⟨v9, 1, none⟩ = some (.slice po pl pc) := by rw [← hW11]; exact qp.cells.2.1
    have rqp2 : (w10.alloc (.cells #[.bool nq, .slice qo ql qc, .slice qO qL qC] 30)).cell? ⟨v9, 2, none⟩ = some (.slice pO pL pC) := by rw [← hW11]; exact qp.cells.2.2
    have rqq0 : (w10.alloc (.cells #[.bool nq, .slice qo ql qc, .slice qO qL qC] 30)).cell? ⟨w10.heap.size, 0, none⟩ = some (.bool nq) := by rw [← hW11]; exact qq.cells.1
    have rqq1 : (w10.alloc (.cells #[.bool nq, .slice qo ql qc, .slice qO qL qC] 30)).cell? ⟨w10.heap.size, 1, none⟩ = some (.slice qo ql qc) := by rw [← hW11]; exact qq.cells.2.1
    have rqq2 : (w10.alloc (.cells #[.bool nq, .slice qo ql qc, .slice qO qL qC] 30)).cell? ⟨w10.heap.size, 2, none⟩ = some (.slice qO qL qC) := by rw [← hW11]; exact qq.cells.2.2
    obtain ⟨v11, hv11⟩ : ∃ v, v = w10.heap.size := ⟨_, rfl⟩
    rw [← hv11] at qq
    have HW11 : Hid (W11 = w10.alloc (.cells #[.bool nq, .slice qo ql qc, .slice qO qL qC] 30)) := hW11
    have Hv11 : Hid (v11 = w10.heap.size) := hv11
    clear hW11 hv11
    have HE : Hid (Below w.heap.size w W11) := hb
    clear hb qp rp qq rq
    go_wp2
    rw [← HW11.out]
    go_ret
    exact ⟨rfl, HE.out⟩
set_option maxRecDepth 100000 in
set_option maxHeartbeats 6400000 in
theorem nordD (x y z : Int) (a b c : Nat) (w : World) (ha : a < 18446744073709551616) (hb0 : b < 18446744073709551616) (hxy : ∀ w, Calls Tryd.prog 16 #[.float .f64 a, .float .f64 b] w fun e w' => e = .returned (.int .i64 x) ∧ w' = w) (hyz : ∀ w, Calls Tryd.prog 16 #[.float .f64 b, .float .f64 c] w fun e w' => e = .returned (.int .i64 y) ∧ w' = w) (hxz : ∀ w, Calls Tryd.prog 16 #[.float .f64 a, .float .f64 c] w fun e w' => e = .returned (.int .i64 z) ∧ w' = w) (haa : ∀ w, Calls Tryd.prog 16 #[.float .f64 a, .float .f64 a] w fun e w' => e = .returned (.int .i64 0) ∧ w' = w) (hba : ∀ w, Calls Tryd.prog 16 #[.float .f64 b, .float .f64 a] w fun e w' => e = .returned (.int .i64 (-x)) ∧ w' = w) (hok : OrdOk x y z) (hfa : a % 2 ^ 63 < 9218868437227405312) (hfb : b % 2 ^ 63 < 9218868437227405312) (hz : ¬ (a % 2 ^ 63 = 0 ∧ b % 2 ^ 63 = 0)) (hx : x = cmpQ (fR a) (fR b)) :
    Calls Tryd.prog 5 #[.float .f64 a, .float .f64 b, .float .f64 c] w fun e w' => e = .returned (.bool true) ∧ Below w.heap.size w w' := by
  have HFA : Hid (_) := hfa
  have HFB : Hid (_) := hfb
  have za := eq_nought ha hfa
  have zb := eq_nought hb0 hfb
  have HX : Hid (_) := hx
  obtain ⟨da, hda⟩ : ∃ d, d = decide (a % 2 ^ 63 = 0) := ⟨_, rfl⟩
  obtain ⟨db, hdb⟩ : ∃ d, d = decide (b % 2 ^ 63 = 0) := ⟨_, rfl⟩
  rw [← hda] at za
  rw [← hdb] at zb
  have hdd : da = false ∨ (da = true ∧ db = false) := by rw [hda, hdb]; by_cases h : a % 2 ^ 63 = 0; exact Or.inr ⟨decide_eq_true h, decide_eq_false fun h2 => hz ⟨h, h2⟩⟩; exact Or.inl (decide_eq_false h)
  clear hda hdb hx
  clear hfa hfb hz
  rcases hdd with rfl | ⟨rfl, rfl⟩ <;> rcases hok with rfl | ⟨rfl, rfl⟩ | ⟨rfl, rfl⟩ | ⟨rfl, rfl, rfl⟩ | ⟨rfl, rfl, rfl⟩ | ⟨rfl, rfl, rfl⟩ | ⟨rfl, rfl, rfl⟩
  all_goals
    have hb : Below w.heap.size w w := Below.refl _ _
    go_enter Tryd.func5, Tryd.ntmps5
    go_wp2_with fail
    refine (alive5_yes _).mono ?_
    rintro e w2 ⟨rfl, b⟩
    replace hb := bstep hb b
    clear b
    go_wp2_with fail
    refine (hxy _).mono ?_
    rintro e w3 ⟨rfl, rfl⟩
    clear hxy
    go_wp2_with fail
    refine (hyz _).mono ?_
    rintro e w4 ⟨rfl, rfl⟩
    clear hyz
    go_wp2_with fail
    refine (hxz _).mono ?_
    rintro e w5 ⟨rfl, rfl⟩
    clear hxz
    go_wp2_with fail
    refine (haa _).mono ?_
    rintro e w6 ⟨rfl, rfl⟩
    clear haa
    go_wp2_with fail
    refine (hba _).mono ?_
    rintro e w7 ⟨rfl, rfl⟩
    clear hba
    go_wp2_with fail
    refine (of64_yes a _ ha HFA.out).mono ?_
    rintro e w8 ⟨v, rfl, hv, b⟩
    obtain ⟨np, po, pl, pc, pO, pL, pC, rfl, rp⟩ := hv.seeS
    clear hv
    replace hb := bstep hb b
    clear b
    have hq0 : QCell (w8.alloc (.cells #[.bool false, .slice none 0 0, .slice none 0 0] 30)) w8.heap.size false (.slice none 0 0) (.slice none 0 0) := qcell_new _ rfl
    obtain ⟨W9, hW9⟩ : ∃ W, W = w8.alloc (.cells #[.bool np, .slice po pl pc, .slice pO pL pC] 30) := ⟨_, rfl⟩
    have qp : QCell W9 (w8.heap.size) np (.slice po pl pc) (.slice pO pL pC) := by rw [hW9]; exact qcell_new _ rfl
    have b : Below w8.heap.size w8 W9 := by rw [hW9]; exact belowA _ _
    obtain ⟨z0, z1, z2⟩ := hq0.cells
    have t0 := hq0.thaw 0
    have t1 := hq0.thaw 1
    have t2 := hq0.thaw 2
    clear hq0
    replace rp := rp.below b
    replace hb := bstep hb b
    clear b
    have rqp0 : (w8.alloc (.cells #[.bool np, .slice po pl pc, .slice pO pL pC] 30)).cell? ⟨w8.heap.size, 0, none⟩ = some (.bool np) := by rw [← hW9]; exact qp.cells.1
    have rqp1 : (w8.alloc (.cells #[.bool np, .slice po pl pc, .slice pO pL pC] 30)).cell? ⟨w8.heap.size, 1, none⟩ = some (.slice po pl pc) := by rw [← hW9]; exact qp.cells.2.1
    have rqp2 : (w8.alloc (.cells #[.bool np, .slice po pl pc, .slice pO pL pC] 30)).cell? ⟨w8.heap.size, 2, none⟩ = some (.slice pO pL pC) := by rw [← hW9]; exact qp.cells.2.2
    obtain ⟨v9, hv9⟩ : ∃ v, v = w8.heap.size := ⟨_, rfl⟩
    rw [← hv9] at qp
    have HW9 : Hid (W9 = w8.alloc (.cells #[.bool np, .slice po pl pc, .slice pO pL pC] 30)) := hW9
    have Hv9 : Hid (v9 = w8.heap.size) := hv9
    clear hW9 hv9
    go_wp2_with fail
    rw [← HW9.out, ← Hv9.out]
    clear HW9 Hv9 z0 z1 z2 t0 t1 t2 rqp0 rqp1 rqp2
    refine (of64_yes b _ hb0 HFB.out).mono ?_
    rintro e w10 ⟨v, rfl, hv, b⟩
    obtain ⟨nq, qo, ql, qc, qO, qL, qC, rfl, rq⟩ := hv.seeS
    clear hv
    replace rp := rp.below b
    replace qp := qp.below b
    replace hb := bstep hb b
    clear b
    have hq0 : QCell (w10.alloc (.cells #[.bool false, .slice none 0 0, .slice none 0 0] 30)) w10.heap.size false (.slice none 0 0) (.slice none 0 0) := qcell_new _ rfl
    obtain ⟨W11, hW11⟩ : ∃ W, W = w10.alloc (.cells #[.bool nq, .slice qo ql qc, .slice qO qL qC] 30) := ⟨_, rfl⟩
    have qq : QCell W11 (w10.heap.size) nq (.slice qo ql qc) (.slice qO qL qC) := by rw [hW11]; exact qcell_new _ rfl
    have b : Below w10.heap.size w10 W11 := by rw [hW11]; exact belowA _ _
    obtain ⟨z0, z1, z2⟩ := hq0.cells
    have t0 := hq0.thaw 0
    have t1 := hq0.thaw 1
    have t2 := hq0.thaw 2
    clear hq0
    replace rp := rp.below b
    replace rq := rq.below b
    replace qp := qp.below b
    replace hb := bstep hb b
    clear b
    have rqp0 : (w10.alloc (.cells #[.bool nq, .slice qo ql qc, .slice qO qL qC] 30)).cell? ⟨v9, 0, none⟩ = some (.bool np) := by rw [← hW11]; exact qp.cells.1
    have rqp1 : (w10.alloc (.cells #[.bool nq, .slice qo ql qc, .slice qO qL qC] 30)).cell? ⟨v9, 1, none⟩ = some (.slice po pl pc) := by rw [← hW11]; exact qp.cells.2.1
    have rqp2 : (w10.alloc (.cells #[.bool nq, .slice qo ql qc, .slice qO qL qC] 30)).cell? ⟨v9, 2, none⟩ = some (.slice pO pL pC) := by rw [← hW11]; exact qp.cells.2.2
    have rqq0 : (w10.alloc (.cells #[.bool nq, .slice qo ql qc, .slice qO qL qC] 30)).cell? ⟨w10.heap.size, 0, none⟩ = some (.bool nq) := by rw [← hW11]; exact qq.cells.1
    have rqq1 : (w10.alloc (.cells #[.bool nq, .slice qo ql qc, .slice qO qL qC] 30)).cell? ⟨w10.heap.size, 1, none⟩ = some (.slice qo ql qc) := by rw [← hW11]; exact qq.cells.2.1
    have rqq2 : (w10.alloc (.cells #[.bool nq, .slice qo ql qc, .slice qO qL qC] 30)).cell? ⟨w10.heap.size, 2, none⟩ = some (.slice qO qL qC) := by rw [← hW11]; exact qq.cells.2.2
    obtain ⟨v11, hv11⟩ : ∃ v, v = w10.heap.size := ⟨_, rfl⟩
    rw [← hv11] at qq
    have HW11 : Hid (W11 = w10.alloc (.cells #[.bool nq, .slice qo ql qc, .slice qO qL qC] 30)) := hW11
    have Hv11 : Hid (v11 = w10.heap.size) := hv11
    clear hW11 hv11
    go_wp2_with fail
    rw [← HW11.out, ← Hv11.out]
    clear HW11 Hv11 z0 z1 z2 t0 t1 t2 rqp0 rqp1 rqp2 rqq0 rqq1 rqq2
    have hq := c_rcmp (rp.num (fR_sz HFA.out) (by decide)) (rq.num (fR_sz HFB.out) (by decide)) (by decide)
    rw [← HX.out] at hq
    refine (hq).mono ?_
    rintro e w12 ⟨rfl, b⟩
    replace rp := rp.below b
    replace rq := rq.below b
    replace qp := qp.below b
    replace qq := qq.below b
    replace hb := bstep hb b
    clear b
    have HE : Hid (Below w.heap.size w w12) := hb
    clear hq hb qp rp qq rq
    go_wp2
    go_ret
    exact ⟨rfl, HE.out⟩

theorem nearOrdered_top (a b c : Nat) (w : World) (ha : a < 18446744073709551616) (hb : b < 18446744073709551616) (hc : c < 18446744073709551616) :
    Calls Tryd.prog 5 #[.float .f64 a, .float .f64 b, .float .f64 c] w fun e w' => e = .returned (.bool true) ∧ Below w.heap.size w w' := by
  have o : ∀ {p q : Nat}, p < 18446744073709551616 → q < 18446744073709551616 → ∀ w, Calls Tryd.prog 16 #[.float .f64 p, .float .f64 q] w fun e w' => e = .returned (.int .i64 (cmpZ (keyD p) (keyD q))) ∧ w' = w := fun h1 h2 w => by
    have := ordfD _ _ w h1 h2
    rw [ord_key h1 h2] at this
    exact this
  have haa := o ha ha
  rw [cmpZ_same] at haa
  have hba := o hb ha
  rw [cmpZ_swap (keyD a) (keyD b)] at hba
  rcases Nat.lt_or_ge (a % 2 ^ 63) 9218868437227405312 with h1 | h1
  · rcases Nat.lt_or_ge (b % 2 ^ 63) 9218868437227405312 with h2 | h2
    · by_cases hz : a % 2 ^ 63 = 0 ∧ b % 2 ^ 63 = 0
      · exact nordC _ _ _ a b c w ha hb (o ha hb) (o hb hc) (o ha hc) haa hba (ord_ok _ _ _) h1 h2 hz
      · exact nordD _ _ _ a b c w ha hb (o ha hb) (o hb hc) (o ha hc) haa hba (ord_ok _ _ _) h1 h2 hz (by rw [fR_cmp, key_fv (Nat.le_of_lt h1) (Nat.le_of_lt h2) hz])
    · exact nordB _ _ _ a b c w ha hb (o ha hb) (o hb hc) (o ha hc) haa hba (ord_ok _ _ _) h1 h2
  · exact nordA _ _ _ a b c w ha hb (o ha hb) (o hb hc) (o ha hc) haa hba (ord_ok _ _ _) h1
end Go.Proofs.YtaekaikkldnikaaDoor
