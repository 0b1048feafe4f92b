/-
  Proved here: NearOf of any two floats returns true, and writes nothing that was there.
-/
import Derived.Test.YtaekaikkldnikaaNearOfDAll
import Derived.WalkLawsBesides
namespace Go.Proofs.Ytaekaikkldnikaa
open Go.RowKit

theorem QCell.lt {w : World} {g : Nat} {n : Bool} {m d : Value} (h : QCell w g n m d) : g < w.heap.size := (Array.getElem?_eq_some_iff.1 h).1
theorem QOwn.betw {B : Nat} {w : World} {n : Bool} {m d : Value} {z : Int} {ys : List Nat} (h : QOwn B w (.agg #[.bool n, m, d]) z ys) : Betw [m, d] B w.heap.size := by
  obtain ⟨_, h1, h2, _⟩ := h.parts
  intro j k hj hk
  have hj2 : j = 0 ∨ j = 1 := by simp at hj; omega
  rcases hj2 with rfl | rfl
  · exact h1.block k hk
  · exact h2.block k hk
theorem ofR_nan {b : Nat} (h : 9218868437227405312 ≤ b % 2 ^ 63) (hb : b < 18446744073709551616) (w : World) : Calls Try.prog 4 #[.float .f64 b] w fun e w' => OfEnd 0 [] 13 w e w' := (refOf_no b w hb h).mono fun _ _ h => h.of
theorem nanC_big (s : Nat) (w : World) : 9218868437227405312 ≤ nanC s w % 2 ^ 63 := by
  have h := nanC_nan s w
  rw [nan_word] at h
  exact Nat.le_of_lt (of_decide_eq_true h)

set_option maxRecDepth 100000 in
set_option maxHeartbeats 25600000 in
theorem nof0 (f s : Nat) (w : World) (z : Int) (ys : List Nat) (c : Int) (z2 : Int) (y2 : List Nat) (c2 : Int) (hR : ∀ w, Calls Try.prog 4 #[.float .f64 f] w fun e w' => OfEnd z ys c w e w') (h64 : ∀ w, Calls Try.prog 5 #[.float .f64 f] w fun e w' => OfEnd z ys c w e w') (hM : ∀ w, Calls Try.prog 6 #[.float .f64 f] w fun e w' => OfEnd z ys c w e w') (h32 : ∀ w, Calls Try.prog 7 #[.float .f32 s] w fun e w' => OfEnd z2 y2 c2 w e w') (hH : ∀ w, Calls Try.prog 8 #[.float .f32 s] w fun e w' => OfEnd z2 y2 c2 w e w') (hzl : (lim z.natAbs).length ≤ 200) (hyl : ys.length ≤ 200) (hcs : ∀ w, (convert 23 22 (.float .f32 s)).run Try.prog w = .ok (.float .f64 (cnv s)) w) (hR2 : ∀ w, Calls Try.prog 4 #[.float .f64 (cnv s)] w fun e w' => OfEnd z2 y2 c2 w e w') :
    Calls Try.prog 3 #[.float .f64 f, .float .f32 s] w fun e w' => e = .returned (.bool true) ∧ Below w.heap.size w w' := by
  have HXL : Hid ((lim z.natAbs).length ≤ 200) := hzl
  have HYL : Hid (ys.length ≤ 200) := hyl
  have hcc : (c != c) = false := by simp
  have hcc2 : (c2 != c2) = false := by simp
  clear hzl hyl
  have hb : Below w.heap.size w w := Below.refl _ _
  go_enter Try.func3, Try.ntmps3
  go_wp2_with fail
  refine (hR _).mono ?_
  rintro e w2 ⟨v, rfl, ot, b⟩
  obtain ⟨nt, to, tl, tc, tO, tL, tC, rfl⟩ := ot.see
  replace hb := bstep hb b
  clear b
  have hq0 : QCell (w2.alloc (.cells #[.bool false, .slice none 0 0, .slice none 0 0] 29)) w2.heap.size false (.slice none 0 0) (.slice none 0 0) := qcell_new _ rfl
  obtain ⟨W3, hW3⟩ : ∃ W, W = w2.alloc (.cells #[.bool nt, .slice to tl tc, .slice tO tL tC] 29) := ⟨_, rfl⟩
  have qt : QCell W3 (w2.heap.size) nt (.slice to tl tc) (.slice tO tL tC) := by rw [hW3]; exact qcell_new _ rfl
  have b : Below w2.heap.size w2 W3 := by rw [hW3]; exact belowA _ _
  obtain ⟨z0, z1, z2⟩ := hq0.cells
  have t0 := hq0.thaw 0
  have t1 := hq0.thaw 1
  have t2 := hq0.thaw 2
  clear hq0
  replace ot := ot.below b
  replace hb := bstep hb b
  clear b
  have rqt0 : (w2.alloc (.cells #[.bool nt, .slice to tl tc, .slice tO tL tC] 29)).cell? ⟨w2.heap.size, 0, none⟩ = some (.bool nt) := by rw [← hW3]; exact qt.cells.1
  have rqt1 : (w2.alloc (.cells #[.bool nt, .slice to tl tc, .slice tO tL tC] 29)).cell? ⟨w2.heap.size, 1, none⟩ = some (.slice to tl tc) := by rw [← hW3]; exact qt.cells.2.1
  have rqt2 : (w2.alloc (.cells #[.bool nt, .slice to tl tc, .slice tO tL tC] 29)).cell? ⟨w2.heap.size, 2, none⟩ = some (.slice tO tL tC) := by rw [← hW3]; exact qt.cells.2.2
  obtain ⟨v3, hv3⟩ : ∃ v, v = w2.heap.size := ⟨_, rfl⟩
  rw [← hv3] at qt
  have HW3 : Hid (W3 = w2.alloc (.cells #[.bool nt, .slice to tl tc, .slice tO tL tC] 29)) := hW3
  have Hv3 : Hid (v3 = w2.heap.size) := hv3
  clear hW3 hv3
  go_wp2_with fail
  rw [← HW3.out, ← Hv3.out]
  clear HW3 Hv3 z0 z1 z2 t0 t1 t2 rqt0 rqt1 rqt2
  refine (hR2 _).mono ?_
  rintro e w4 ⟨v, rfl, ov, b⟩
  obtain ⟨nv, vo, vl, vc, vO, vL, vC, rfl⟩ := ov.see
  replace ot := ot.below b
  replace qt := qt.below b
  replace hb := bstep hb b
  clear b
  have hq0 : QCell (w4.alloc (.cells #[.bool false, .slice none 0 0, .slice none 0 0] 29)) w4.heap.size false (.slice none 0 0) (.slice none 0 0) := qcell_new _ rfl
  obtain ⟨W5, hW5⟩ : ∃ W, W = w4.alloc (.cells #[.bool nv, .slice vo vl vc, .slice vO vL vC] 29) := ⟨_, rfl⟩
  have qv : QCell W5 (w4.heap.size) nv (.slice vo vl vc) (.slice vO vL vC) := by rw [hW5]; exact qcell_new _ rfl
  have b : Below w4.heap.size w4 W5 := by rw [hW5]; exact belowA _ _
  obtain ⟨z0, z1, z2⟩ := hq0.cells
  have t0 := hq0.thaw 0
  have t1 := hq0.thaw 1
  have t2 := hq0.thaw 2
  clear hq0
  replace ot := ot.below b
  replace ov := ov.below b
  replace qt := qt.below b
  replace hb := bstep hb b
  clear b
  have rqt0 : (w4.alloc (.cells #[.bool nv, .slice vo vl vc, .slice vO vL vC] 29)).cell? ⟨v3, 0, none⟩ = some (.bool nt) := by rw [← hW5]; exact qt.cells.1
  have rqt1 : (w4.alloc (.cells #[.bool nv, .slice vo vl vc, .slice vO vL vC] 29)).cell? ⟨v3, 1, none⟩ = some (.slice to tl tc) := by rw [← hW5]; exact qt.cells.2.1
  have rqt2 : (w4.alloc (.cells #[.bool nv, .slice vo vl vc, .slice vO vL vC] 29)).cell? ⟨v3, 2, none⟩ = some (.slice tO tL tC) := by rw [← hW5]; exact qt.cells.2.2
  have rqv0 : (w4.alloc (.cells #[.bool nv, .slice vo vl vc, .slice vO vL vC] 29)).cell? ⟨w4.heap.size, 0, none⟩ = some (.bool nv) := by rw [← hW5]; exact qv.cells.1
  have rqv1 : (w4.alloc (.cells #[.bool nv, .slice vo vl vc, .slice vO vL vC] 29)).cell? ⟨w4.heap.size, 1, none⟩ = some (.slice vo vl vc) := by rw [← hW5]; exact qv.cells.2.1
  have rqv2 : (w4.alloc (.cells #[.bool nv, .slice vo vl vc, .slice vO vL vC] 29)).cell? ⟨w4.heap.size, 2, none⟩ = some (.slice vO vL vC) := by rw [← hW5]; exact qv.cells.2.2
  obtain ⟨v5, hv5⟩ : ∃ v, v = w4.heap.size := ⟨_, rfl⟩
  rw [← hv5] at qv
  have HW5 : Hid (W5 = w4.alloc (.cells #[.bool nv, .slice vo vl vc, .slice vO vL vC] 29)) := hW5
  have Hv5 : Hid (v5 = w4.heap.size) := hv5
  clear hW5 hv5
  go_wp2_with fail
  rw [← HW5.out, ← Hv5.out]
  clear HW5 Hv5 z0 z1 z2 t0 t1 t2 rqt0 rqt1 rqt2 rqv0 rqv1 rqv2
  obtain ⟨S1, hS1⟩ : ∃ S, S = W5.heap.size := ⟨_, rfl⟩
  have HT : Hid (Low (.agg #[.bool nt, .slice to tl tc, .slice tO tL tC]) S1) := by show Low _ _; rw [hS1]; exact ot.low
  have HVT : Hid (v3 < S1) := by show _ < _; rw [hS1]; exact qt.lt
  have HSW : Hid (w.heap.size ≤ S1) := by show _ ≤ _; rw [hS1]; exact hb.size
  have HS1 : Hid (W5.heap.size = S1) := hS1.symm
  replace hS1 := Nat.le_of_eq hS1
  refine (h64 _).mono ?_
  rintro e w6 ⟨v, rfl, oa, b⟩
  obtain ⟨na, ao, al, ac, aO, aL, aC, rfl⟩ := oa.see
  replace ot := ot.below b
  replace ov := ov.below b
  replace hS1 := Nat.le_trans hS1 b.size
  replace qt := qt.below b
  replace qv := qv.below b
  replace hb := bstep hb b
  clear b
  rw [HS1.out] at oa
  clear HS1
  obtain ⟨S2, hS2⟩ : ∃ S, S = w6.heap.size := ⟨_, rfl⟩
  have HBT : Hid (Betw [.slice ao al ac, .slice aO aL aC] S1 S2) := by show Betw _ _ _; rw [hS2]; exact oa.betw
  replace hS2 := Nat.le_of_eq hS2
  have hS2k := hS2
  have hq0 : QCell (w6.alloc (.cells #[.bool false, .slice none 0 0, .slice none 0 0] 29)) w6.heap.size false (.slice none 0 0) (.slice none 0 0) := qcell_new _ rfl
  obtain ⟨W7, hW7⟩ : ∃ W, W = w6.alloc (.cells #[.bool na, .slice ao al ac, .slice aO aL aC] 29) := ⟨_, rfl⟩
  have qa : QCell W7 (w6.heap.size) na (.slice ao al ac) (.slice aO aL aC) := by rw [hW7]; exact qcell_new _ rfl
  have b : Below w6.heap.size w6 W7 := by rw [hW7]; exact belowA _ _
  obtain ⟨z0, z1, z2⟩ := hq0.cells
  have t0 := hq0.thaw 0
  have t1 := hq0.thaw 1
  have t2 := hq0.thaw 2
  clear hq0
  replace ot := ot.below b
  replace ov := ov.below b
  replace hS1 := Nat.le_trans hS1 b.size
  replace oa := oa.below b
  replace hS2 := Nat.le_trans hS2 b.size
  replace qt := qt.below b
  replace qv := qv.below b
  replace hb := bstep hb b
  clear b
  have rqt0 : (w6.alloc (.cells #[.bool na, .slice ao al ac, .slice aO aL aC] 29)).cell? ⟨v3, 0, none⟩ = some (.bool nt) := by rw [← hW7]; exact qt.cells.1
  have rqt1 : (w6.alloc (.cells #[.bool na, .slice ao al ac, .slice aO aL aC] 29)).cell? ⟨v3, 1, none⟩ = some (.slice to tl tc) := by rw [← hW7]; exact qt.cells.2.1
  have rqt2 : (w6.alloc (.cells #[.bool na, .slice ao al ac, .slice aO aL aC] 29)).cell? ⟨v3, 2, none⟩ = some (.slice tO tL tC) := by rw [← hW7]; exact qt.cells.2.2
  have rqv0 : (w6.alloc (.cells #[.bool na, .slice ao al ac, .slice aO aL aC] 29)).cell? ⟨v5, 0, none⟩ = some (.bool nv) := by rw [← hW7]; exact qv.cells.1
  have rqv1 : (w6.alloc (.cells #[.bool na, .slice ao al ac, .slice aO aL aC] 29)).cell? ⟨v5, 1, none⟩ = some (.slice vo vl vc) := by rw [← hW7]; exact qv.cells.2.1
  have rqv2 : (w6.alloc (.cells #[.bool na, .slice ao al ac, .slice aO aL aC] 29)).cell? ⟨v5, 2, none⟩ = some (.slice vO vL vC) := by rw [← hW7]; exact qv.cells.2.2
  have rqa0 : (w6.alloc (.cells #[.bool na, .slice ao al ac, .slice aO aL aC] 29)).cell? ⟨w6.heap.size, 0, none⟩ = some (.bool na) := by rw [← hW7]; exact qa.cells.1
  have rqa1 : (w6.alloc (.cells #[.bool na, .slice ao al ac, .slice aO aL aC] 29)).cell? ⟨w6.heap.size, 1, none⟩ = some (.slice ao al ac) := by rw [← hW7]; exact qa.cells.2.1
  have rqa2 : (w6.alloc (.cells #[.bool na, .slice ao al ac, .slice aO aL aC] 29)).cell? ⟨w6.heap.size, 2, none⟩ = some (.slice aO aL aC) := by rw [← hW7]; exact qa.cells.2.2
  obtain ⟨v7, hv7⟩ : ∃ v, v = w6.heap.size := ⟨_, rfl⟩
  rw [← hv7] at qa
  have HW7 : Hid (W7 = w6.alloc (.cells #[.bool na, .slice ao al ac, .slice aO aL aC] 29)) := hW7
  have Hv7 : Hid (v7 = w6.heap.size) := hv7
  clear hW7 hv7
  have HVA : Hid (S2 ≤ v7) := by show _ ≤ _; rw [Hv7.out]; exact hS2k
  clear hS2k
  go_wp2_with fail
  rw [← HW7.out, ← Hv7.out]
  clear HW7 Hv7 z0 z1 z2 t0 t1 t2 rqt0 rqt1 rqt2 rqv0 rqv1 rqv2 rqa0 rqa1 rqa2
  have HBB : Hid (S2 ≤ W7.heap.size) := hS2
  refine (hM _).mono ?_
  rintro e w8 ⟨v, rfl, ob, b⟩
  obtain ⟨nb, bo, bl, bc, bO, bL, bC, rfl⟩ := ob.see
  replace ot := ot.below b
  replace ov := ov.below b
  replace hS1 := Nat.le_trans hS1 b.size
  replace oa := oa.below b
  replace hS2 := Nat.le_trans hS2 b.size
  replace qt := qt.below b
  replace qv := qv.below b
  replace qa := qa.below b
  replace hb := bstep hb b
  clear b
  have hS2k := hS2
  have hq0 : QCell (w8.alloc (.cells #[.bool false, .slice none 0 0, .slice none 0 0] 29)) w8.heap.size false (.slice none 0 0) (.slice none 0 0) := qcell_new _ rfl
  obtain ⟨W9, hW9⟩ : ∃ W, W = w8.alloc (.cells #[.bool nb, .slice bo bl bc, .slice bO bL bC] 29) := ⟨_, rfl⟩
  have qb : QCell W9 (w8.heap.size) nb (.slice bo bl bc) (.slice bO bL bC) := by rw [hW9]; exact qcell_new _ rfl
  have b : Below w8.heap.size w8 W9 := by rw [hW9]; exact belowA _ _
  obtain ⟨z0, z1, z2⟩ := hq0.cells
  have t0 := hq0.thaw 0
  have t1 := hq0.thaw 1
  have t2 := hq0.thaw 2
  clear hq0
  replace ot := ot.below b
  replace ov := ov.below b
  replace hS1 := Nat.le_trans hS1 b.size
  replace oa := oa.below b
  replace hS2 := Nat.le_trans hS2 b.size
  replace ob := ob.below b
  replace qt := qt.below b
  replace qv := qv.below b
  replace qa := qa.below b
  replace hb := bstep hb b
  clear b
  have rqt0 : (w8.alloc (.cells #[.bool nb, .slice bo bl bc, .slice bO bL bC] 29)).cell? ⟨v3, 0, none⟩ = some (.bool nt) := by rw [← hW9]; exact qt.cells.1
  have rqt1 : (w8.alloc (.cells #[.bool nb, .slice bo bl bc, .slice bO bL bC] 29)).cell? ⟨v3, 1, none⟩ = some (.slice to tl tc) := by rw [← hW9]; exact qt.cells.2.1
  have rqt2 : (w8.alloc (.cells #[.bool nb, .slice bo bl bc, .slice bO bL bC] 29)).cell? ⟨v3, 2, none⟩ = some (.slice tO tL tC) := by rw [← hW9]; exact qt.cells.2.2
  have rqv0 : (w8.alloc (.cells #[.bool nb, .slice bo bl bc, .slice bO bL bC] 29)).cell? ⟨v5, 0, none⟩ = some (.bool nv) := by rw [← hW9]; exact qv.cells.1
  have rqv1 : (w8.alloc (.cells #[.bool nb, .slice bo bl bc, .slice bO bL bC] 29)).cell? ⟨v5, 1, none⟩ = some (.slice vo vl vc) := by rw [← hW9]; exact qv.cells.2.1
  have rqv2 : (w8.alloc (.cells #[.bool nb, .slice bo bl bc, .slice bO bL bC] 29)).cell? ⟨v5, 2, none⟩ = some (.slice vO vL vC) := by rw [← hW9]; exact qv.cells.2.2
  have rqa0 : (w8.alloc (.cells #[.bool nb, .slice bo bl bc, .slice bO bL bC] 29)).cell? ⟨v7, 0, none⟩ = some (.bool na) := by rw [← hW9]; exact qa.cells.1
  have rqa1 : (w8.alloc (.cells #[.bool nb, .slice bo bl bc, .slice bO bL bC] 29)).cell? ⟨v7, 1, none⟩ = some (.slice ao al ac) := by rw [← hW9]; exact qa.cells.2.1
  have rqa2 : (w8.alloc (.cells #[.bool nb, .slice bo bl bc, .slice bO bL bC] 29)).cell? ⟨v7, 2, none⟩ = some (.slice aO aL aC) := by rw [← hW9]; exact qa.cells.2.2
  have rqb0 : (w8.alloc (.cells #[.bool nb, .slice bo bl bc, .slice bO bL bC] 29)).cell? ⟨w8.heap.size, 0, none⟩ = some (.bool nb) := by rw [← hW9]; exact qb.cells.1
  have rqb1 : (w8.alloc (.cells #[.bool nb, .slice bo bl bc, .slice bO bL bC] 29)).cell? ⟨w8.heap.size, 1, none⟩ = some (.slice bo bl bc) := by rw [← hW9]; exact qb.cells.2.1
  have rqb2 : (w8.alloc (.cells #[.bool nb, .slice bo bl bc, .slice bO bL bC] 29)).cell? ⟨w8.heap.size, 2, none⟩ = some (.slice bO bL bC) := by rw [← hW9]; exact qb.cells.2.2
  obtain ⟨v9, hv9⟩ : ∃ v, v = w8.heap.size := ⟨_, rfl⟩
  rw [← hv9] at qb
  have HW9 : Hid (W9 = w8.alloc (.cells #[.bool nb, .slice bo bl bc, .slice bO bL bC] 29)) := hW9
  have Hv9 : Hid (v9 = w8.heap.size) := hv9
  clear hW9 hv9
  have HVB : Hid (S2 ≤ v9) := by show _ ≤ _; rw [Hv9.out]; exact hS2k
  clear hS2k
  go_wp2_with fail
  rw [← HW9.out, ← Hv9.out]
  clear HW9 Hv9 z0 z1 z2 t0 t1 t2 rqt0 rqt1 rqt2 rqv0 rqv1 rqv2 rqa0 rqa1 rqa2 rqb0 rqb1 rqb2
  refine (h32 _).mono ?_
  rintro e w10 ⟨v, rfl, oc, b⟩
  obtain ⟨nc, co, cl, cc, cO, cL, cC, rfl⟩ := oc.see
  replace ot := ot.below b
  replace ov := ov.below b
  replace hS1 := Nat.le_trans hS1 b.size
  replace oa := oa.below b
  replace hS2 := Nat.le_trans hS2 b.size
  replace ob := ob.below b
  replace qt := qt.below b
  replace qv := qv.below b
  replace qa := qa.below b
  replace qb := qb.below b
  replace hb := bstep hb b
  clear b
  have hq0 : QCell (w10.alloc (.cells #[.bool false, .slice none 0 0, .slice none 0 0] 29)) w10.heap.size false (.slice none 0 0) (.slice none 0 0) := qcell_new _ rfl
  obtain ⟨W11, hW11⟩ : ∃ W, W = w10.alloc (.cells #[.bool nc, .slice co cl cc, .slice cO cL cC] 29) := ⟨_, rfl⟩
  have qc : QCell W11 (w10.heap.size) nc (.slice co cl cc) (.slice cO cL cC) := by rw [hW11]; exact qcell_new _ rfl
  have b : Below w10.heap.size w10 W11 := by rw [hW11]; exact belowA _ _
  obtain ⟨z0, z1, z2⟩ := hq0.cells
  have t0 := hq0.thaw 0
  have t1 := hq0.thaw 1
  have t2 := hq0.thaw 2
  clear hq0
  replace ot := ot.below b
  replace ov := ov.below b
  replace hS1 := Nat.le_trans hS1 b.size
  replace oa := oa.below b
  replace hS2 := Nat.le_trans hS2 b.size
  replace ob := ob.below b
  replace oc := oc.below b
  replace qt := qt.below b
  replace qv := qv.below b
  replace qa := qa.below b
  replace qb := qb.below b
  replace hb := bstep hb b
  clear b
  have rqt0 : (w10.alloc (.cells #[.bool nc, .slice co cl cc, .slice cO cL cC] 29)).cell? ⟨v3, 0, none⟩ = some (.bool nt) := by rw [← hW11]; exact qt.cells.1
  have rqt1 : (w10.alloc (.cells #[.bool nc, .slice co cl cc, .slice cO cL cC] 29)).cell? ⟨v3, 1, none⟩ = some (.slice to tl tc) := by rw [← hW11]; exact qt.cells.2.1
  have rqt2 : (w10.alloc (.cells #[.bool nc, .slice co cl cc, .slice cO cL cC] 29)).cell? ⟨v3, 2, none⟩ = some (.slice tO tL tC) := by rw [← hW11]; exact qt.cells.2.2
  have rqv0 : (w10.alloc (.cells #[.bool nc, .slice co cl cc, .slice cO cL cC] 29)).cell? ⟨v5, 0, none⟩ = some (.bool nv) := by rw [← hW11]; exact qv.cells.1
  have rqv1 : (w10.alloc (.cells #[.bool nc, .slice co cl cc, .slice cO cL cC] 29)).cell? ⟨v5, 1, none⟩ = some (.slice vo vl vc) := by rw [← hW11]; exact qv.cells.2.1
  have rqv2 : (w10.alloc (.cells #[.bool nc, .slice co cl cc, .slice cO cL cC] 29)).cell? ⟨v5, 2, none⟩ = some (.slice vO vL vC) := by rw [← hW11]; exact qv.cells.2.2
  have rqa0 : (w10.alloc (.cells #[.bool nc, .slice co cl cc, .slice cO cL cC] 29)).cell? ⟨v7, 0, none⟩ = some (.bool na) := by rw [← hW11]; exact qa.cells.1
  have rqa1 : (w10.alloc (.cells #[.bool nc, .slice co cl cc, .slice cO cL cC] 29)).cell? ⟨v7, 1, none⟩ = some (.slice ao al ac) := by rw [← hW11]; exact qa.cells.2.1
  have rqa2 : (w10.alloc (.cells #[.bool nc, .slice co cl cc, .slice cO cL cC] 29)).cell? ⟨v7, 2, none⟩ = some (.slice aO aL aC) := by rw [← hW11]; exact qa.cells.2.2
  have rqb0 : (w10.alloc (.cells #[.bool nc, .slice co cl cc, .slice cO cL cC] 29)).cell? ⟨v9, 0, none⟩ = some (.bool nb) := by rw [← hW11]; exact qb.cells.1
  have rqb1 : (w10.alloc (.cells #[.bool nc, .slice co cl cc, .slice cO cL cC] 29)).cell? ⟨v9, 1, none⟩ = some (.slice bo bl bc) := by rw [← hW11]; exact qb.cells.2.1
  have rqb2 : (w10.alloc (.cells #[.bool nc, .slice co cl cc, .slice cO cL cC] 29)).cell? ⟨v9, 2, none⟩ = some (.slice bO bL bC) := by rw [← hW11]; exact qb.cells.2.2
  have rqc0 : (w10.alloc (.cells #[.bool nc, .slice co cl cc, .slice cO cL cC] 29)).cell? ⟨w10.heap.size, 0, none⟩ = some (.bool nc) := by rw [← hW11]; exact qc.cells.1
  have rqc1 : (w10.alloc (.cells #[.bool nc, .slice co cl cc, .slice cO cL cC] 29)).cell? ⟨w10.heap.size, 1, none⟩ = some (.slice co cl cc) := by rw [← hW11]; exact qc.cells.2.1
  have rqc2 : (w10.alloc (.cells #[.bool nc, .slice co cl cc, .slice cO cL cC] 29)).cell? ⟨w10.heap.size, 2, none⟩ = some (.slice cO cL cC) := by rw [← hW11]; exact qc.cells.2.2
  obtain ⟨v11, hv11⟩ : ∃ v, v = w10.heap.size := ⟨_, rfl⟩
  rw [← hv11] at qc
  have HW11 : Hid (W11 = w10.alloc (.cells #[.bool nc, .slice co cl cc, .slice cO cL cC] 29)) := hW11
  have Hv11 : Hid (v11 = w10.heap.size) := hv11
  clear hW11 hv11
  go_wp2_with fail
  rw [← HW11.out, ← Hv11.out]
  clear HW11 Hv11 z0 z1 z2 t0 t1 t2 rqt0 rqt1 rqt2 rqv0 rqv1 rqv2 rqa0 rqa1 rqa2 rqb0 rqb1 rqb2 rqc0 rqc1 rqc2
  refine (hH _).mono ?_
  rintro e w12 ⟨v, rfl, ok, b⟩
  obtain ⟨nk, ko, kl, kc, kO, kL, kC, rfl⟩ := ok.see
  replace ot := ot.below b
  replace ov := ov.below b
  replace hS1 := Nat.le_trans hS1 b.size
  replace oa := oa.below b
  replace hS2 := Nat.le_trans hS2 b.size
  replace ob := ob.below b
  replace oc := oc.below b
  replace qt := qt.below b
  replace qv := qv.below b
  replace qa := qa.below b
  replace qb := qb.below b
  replace qc := qc.below b
  replace hb := bstep hb b
  clear b
  have hq0 : QCell (w12.alloc (.cells #[.bool false, .slice none 0 0, .slice none 0 0] 29)) w12.heap.size false (.slice none 0 0) (.slice none 0 0) := qcell_new _ rfl
  obtain ⟨W13, hW13⟩ : ∃ W, W = w12.alloc (.cells #[.bool nk, .slice ko kl kc, .slice kO kL kC] 29) := ⟨_, rfl⟩
  have qk : QCell W13 (w12.heap.size) nk (.slice ko kl kc) (.slice kO kL kC) := by rw [hW13]; exact qcell_new _ rfl
  have b : Below w12.heap.size w12 W13 := by rw [hW13]; exact belowA _ _
  obtain ⟨z0, z1, z2⟩ := hq0.cells
  have t0 := hq0.thaw 0
  have t1 := hq0.thaw 1
  have t2 := hq0.thaw 2
  clear hq0
  replace ot := ot.below b
  replace ov := ov.below b
  replace hS1 := Nat.le_trans hS1 b.size
  replace oa := oa.below b
  replace hS2 := Nat.le_trans hS2 b.size
  replace ob := ob.below b
  replace oc := oc.below b
  replace ok := ok.below b
  replace qt := qt.below b
  replace qv := qv.below b
  replace qa := qa.below b
  replace qb := qb.below b
  replace qc := qc.below b
  replace hb := bstep hb b
  clear b
  have rqt0 : (w12.alloc (.cells #[.bool nk, .slice ko kl kc, .slice kO kL kC] 29)).cell? ⟨v3, 0, none⟩ = some (.bool nt) := by rw [← hW13]; exact qt.cells.1
  have rqt1 : (w12.alloc (.cells #[.bool nk, .slice ko kl kc, .slice kO kL kC] 29)).cell? ⟨v3, 1, none⟩ = some (.slice to tl tc) := by rw [← hW13]; exact qt.cells.2.1
  have rqt2 : (w12.alloc (.cells #[.bool nk, .slice ko kl kc, .slice kO kL kC] 29)).cell? ⟨v3, 2, none⟩ = some (.slice tO tL tC) := by rw [← hW13]; exact qt.cells.2.2
  have rqv0 : (w12.alloc (.cells #[.bool nk, .slice ko kl kc, .slice kO kL kC] 29)).cell? ⟨v5, 0, none⟩ = some (.bool nv) := by rw [← hW13]; exact qv.cells.1
  have rqv1 : (w12.alloc (.cells #[.bool nk, .slice ko kl kc, .slice kO kL kC] 29)).cell? ⟨v5, 1, none⟩ = some (.slice vo vl vc) := by rw [← hW13]; exact qv.cells.2.1
  have rqv2 : (w12.alloc (.cells #[.bool nk, .slice ko kl kc, .slice kO kL kC] 29)).cell? ⟨v5, 2, none⟩ = some (.slice vO vL vC) := by rw [← hW13]; exact qv.cells.2.2
  have rqa0 : (w12.alloc (.cells #[.bool nk, .slice ko kl kc, .slice kO kL kC] 29)).cell? ⟨v7, 0, none⟩ = some (.bool na) := by rw [← hW13]; exact qa.cells.1
  have rqa1 : (w12.alloc (.cells #[.bool nk, .slice ko kl kc, .slice kO kL kC] 29)).cell? ⟨v7, 1, none⟩ = some (.slice ao al ac) := by rw [← hW13]; exact qa.cells.2.1
  have rqa2 : (w12.alloc (.cells #[.bool nk, .slice ko kl kc, .slice kO kL kC] 29)).cell? ⟨v7, 2, none⟩ = some (.slice aO aL aC) := by rw [← hW13]; exact qa.cells.2.2
  have rqb0 : (w12.alloc (.cells #[.bool nk, .slice ko kl kc, .slice kO kL kC] 29)).cell? ⟨v9, 0, none⟩ = some (.bool nb) := by rw [← hW13]; exact qb.cells.1
  have rqb1 : (w12.alloc (.cells #[.bool nk, .slice ko kl kc, .slice kO kL kC] 29)).cell? ⟨v9, 1, none⟩ = some (.slice bo bl bc) := by rw [← hW13]; exact qb.cells.2.1
  have rqb2 : (w12.alloc (.cells #[.bool nk, .slice ko kl kc, .slice kO kL kC] 29)).cell? ⟨v9, 2, none⟩ = some (.slice bO bL bC) := by rw [← hW13]; exact qb.cells.2.2
  have rqc0 : (w12.alloc (.cells #[.bool nk, .slice ko kl kc, .slice kO kL kC] 29)).cell? ⟨v11, 0, none⟩ = some (.bool nc) := by rw [← hW13]; exact qc.cells.1
  have rqc1 : (w12.alloc (.cells #[.bool nk, .slice ko kl kc, .slice kO kL kC] 29)).cell? ⟨v11, 1, none⟩ = some (.slice co cl cc) := by rw [← hW13]; exact qc.cells.2.1
  have rqc2 : (w12.alloc (.cells #[.bool nk, .slice ko kl kc, .slice kO kL kC] 29)).cell? ⟨v11, 2, none⟩ = some (.slice cO cL cC) := by rw [← hW13]; exact qc.cells.2.2
  have rqk0 : (w12.alloc (.cells #[.bool nk, .slice ko kl kc, .slice kO kL kC] 29)).cell? ⟨w12.heap.size, 0, none⟩ = some (.bool nk) := by rw [← hW13]; exact qk.cells.1
  have rqk1 : (w12.alloc (.cells #[.bool nk, .slice ko kl kc, .slice kO kL kC] 29)).cell? ⟨w12.heap.size, 1, none⟩ = some (.slice ko kl kc) := by rw [← hW13]; exact qk.cells.2.1
  have rqk2 : (w12.alloc (.cells #[.bool nk, .slice ko kl kc, .slice kO kL kC] 29)).cell? ⟨w12.heap.size, 2, none⟩ = some (.slice kO kL kC) := by rw [← hW13]; exact qk.cells.2.2
  obtain ⟨v13, hv13⟩ : ∃ v, v = w12.heap.size := ⟨_, rfl⟩
  rw [← hv13] at qk
  have HW13 : Hid (W13 = w12.alloc (.cells #[.bool nk, .slice ko kl kc, .slice kO kL kC] 29)) := hW13
  have Hv13 : Hid (v13 = w12.heap.size) := hv13
  clear hW13 hv13
  go_wp2_with fail
  rw [← HW13.out, ← Hv13.out]
  clear HW13 Hv13 z0 z1 z2 t0 t1 t2 rqt0 rqt1 rqt2 rqv0 rqv1 rqv2 rqa0 rqa1 rqa2 rqb0 rqb1 rqb2 rqc0 rqc1 rqc2 rqk0 rqk1 rqk2
  refine (sameQ_yes oa ot).mono ?_
  rintro e w14 ⟨rfl, b⟩
  replace ot := ot.below b
  replace ov := ov.below b
  replace hS1 := Nat.le_trans hS1 b.size
  replace oa := oa.below b
  replace hS2 := Nat.le_trans hS2 b.size
  replace ob := ob.below b
  replace oc := oc.below b
  replace ok := ok.below b
  replace qt := qt.below b
  replace qv := qv.below b
  replace qa := qa.below b
  replace qb := qb.below b
  replace qc := qc.below b
  replace qk := qk.below b
  replace hb := bstep hb b
  clear b
  obtain ⟨cqt0, cqt1, cqt2⟩ := qt.cells
  obtain ⟨cqv0, cqv1, cqv2⟩ := qv.cells
  obtain ⟨cqa0, cqa1, cqa2⟩ := qa.cells
  obtain ⟨cqb0, cqb1, cqb2⟩ := qb.cells
  obtain ⟨cqc0, cqc1, cqc2⟩ := qc.cells
  obtain ⟨cqk0, cqk1, cqk2⟩ := qk.cells
  go_wp2_with fail
  clear cqt0 cqt1 cqt2 cqv0 cqv1 cqv2 cqa0 cqa1 cqa2 cqb0 cqb1 cqb2 cqc0 cqc1 cqc2 cqk0 cqk1 cqk2
  refine (sameQ_yes ob ot).mono ?_
  rintro e w15 ⟨rfl, b⟩
  replace ot := ot.below b
  replace ov := ov.below b
  replace hS1 := Nat.le_trans hS1 b.size
  replace oa := oa.below b
  replace hS2 := Nat.le_trans hS2 b.size
  replace ob := ob.below b
  replace oc := oc.below b
  replace ok := ok.below b
  replace qt := qt.below b
  replace qv := qv.below b
  replace qa := qa.below b
  replace qb := qb.below b
  replace qc := qc.below b
  replace qk := qk.below b
  replace hb := bstep hb b
  clear b
  obtain ⟨cqt0, cqt1, cqt2⟩ := qt.cells
  obtain ⟨cqv0, cqv1, cqv2⟩ := qv.cells
  obtain ⟨cqa0, cqa1, cqa2⟩ := qa.cells
  obtain ⟨cqb0, cqb1, cqb2⟩ := qb.cells
  obtain ⟨cqc0, cqc1, cqc2⟩ := qc.cells
  obtain ⟨cqk0, cqk1, cqk2⟩ := qk.cells
  go_wp2_with fail
  clear cqt0 cqt1 cqt2 cqv0 cqv1 cqv2 cqa0 cqa1 cqa2 cqb0 cqb1 cqb2 cqc0 cqc1 cqc2 cqk0 cqk1 cqk2
  refine (sameQ_yes oc ov).mono ?_
  rintro e w16 ⟨rfl, b⟩
  replace ot := ot.below b
  replace ov := ov.below b
  replace hS1 := Nat.le_trans hS1 b.size
  replace oa := oa.below b
  replace hS2 := Nat.le_trans hS2 b.size
  replace ob := ob.below b
  replace oc := oc.below b
  replace ok := ok.below b
  replace qt := qt.below b
  replace qv := qv.below b
  replace qa := qa.below b
  replace qb := qb.below b
  replace qc := qc.below b
  replace qk := qk.below b
  replace hb := bstep hb b
  clear b
  obtain ⟨cqt0, cqt1, cqt2⟩ := qt.cells
  obtain ⟨cqv0, cqv1, cqv2⟩ := qv.cells
  obtain ⟨cqa0, cqa1, cqa2⟩ := qa.cells
  obtain ⟨cqb0, cqb1, cqb2⟩ := qb.cells
  obtain ⟨cqc0, cqc1, cqc2⟩ := qc.cells
  obtain ⟨cqk0, cqk1, cqk2⟩ := qk.cells
  go_wp2_with fail
  clear cqt0 cqt1 cqt2 cqv0 cqv1 cqv2 cqa0 cqa1 cqa2 cqb0 cqb1 cqb2 cqc0 cqc1 cqc2 cqk0 cqk1 cqk2
  refine (sameQ_yes ok ov).mono ?_
  rintro e w17 ⟨rfl, b⟩
  replace ot := ot.below b
  replace ov := ov.below b
  replace hS1 := Nat.le_trans hS1 b.size
  replace oa := oa.below b
  replace hS2 := Nat.le_trans hS2 b.size
  replace ob := ob.below b
  replace oc := oc.below b
  replace ok := ok.below b
  replace qt := qt.below b
  replace qv := qv.below b
  replace qa := qa.below b
  replace qb := qb.below b
  replace qc := qc.below b
  replace qk := qk.below b
  replace hb := bstep hb b
  clear b
  clear ov oc ok qv qc qk
  obtain ⟨_, om, od, hap⟩ := oa.parts
  have HXZ := HXL.out
  obtain ⟨xs, hxs⟩ : ∃ x, x = lim z.natAbs := ⟨_, rfl⟩
  rw [← hxs] at om HXZ
  clear hxs
  have HAL : Hid (xs.length = al) := by obtain ⟨o_, c_, e_, _⟩ := om.ao; injection e_ with _ e2 _; exact e2.symm
  have HDL : Hid (ys.length = aL) := by obtain ⟨o_, c_, e_, _⟩ := od.ao; injection e_ with _ e2 _; exact e2.symm
  have hla : al ≤ 200 := by rw [← HAL.out]; exact HXZ
  have hlb : aL ≤ 200 := by rw [← HDL.out]; exact HYL.out
  have HAP : Hid (_) := hap
  have HAP2 : Hid (_) := apart_symm hap
  have HS : Hid (S2 ≤ w17.heap.size) := hS2
  have HS12 : Hid (S1 ≤ w17.heap.size) := hS1
  clear hap HXZ hS1 hS2 oa
  obtain ⟨iU, hiU, hzU0, hzU1, hzU2⟩ := info_parts Try.infoU
  obtain ⟨cqt0, cqt1, cqt2⟩ := qt.cells
  obtain ⟨cqa0, cqa1, cqa2⟩ := qa.cells
  obtain ⟨cqb0, cqb1, cqb2⟩ := qb.cells
  go_wp2_with fail
  clear cqt0 cqt1 cqt2 cqa0 cqa1 cqa2 cqb0 cqb1 cqb2
  go_loopw [17] (fun t wr => ∃ i : Nat, i ≤ al ∧ t = .int .i64 i ∧ Own S1 39 wr (.slice ao al ac) (List.replicate i 71 ++ xs.drop i) ∧ Own S1 39 wr (.slice aO aL aC) ys ∧ Bex [.slice ao al ac, .slice aO aL aC] w17 wr) (fun t _ => al - (intOf t).toNat)
  case atStart => exact ⟨0, Nat.zero_le _, rfl, by simpa using om, od, Bex.same (Below.refl _ _)⟩
  case round =>
    clear om od
    obtain ⟨i, hi, rfl, ho, hod, hbx⟩ := hrel
    obtain ⟨c0, c1, c2⟩ := (qa.bex hbx HBT.out (Or.inr HVA.out)).cells
    by_cases hin : i < al
    · have hin' : (i : Int) < (al : Int) := by omega
      obtain ⟨g1, hg1⟩ : ∃ g, ao = some ⟨g, 0, none⟩ := by
        obtain ⟨o_, c_, e_, h_, _⟩ := ho.ao
        injection e_ with e1 _ _
        rw [e1]
        exact h_ (by rw [rep_len (by rw [HAL.out]; omega), HAL.out]; omega)
      subst hg1
      obtain ⟨cz, hfz⟩ := ho.cell (k := i) (by rw [rep_len (by rw [HAL.out]; omega), HAL.out]; exact hin)
      generalize (List.replicate i 71 ++ xs.drop i).getD i 0 = cv at cz
      have R := over_one (W0 := w17) (Or.inl rfl) HAP2.out (by decide : 71 < 4294967296) HAL.out hin ho hod hbx
      have HR : Hid (_) := R
      clear R ho hod hbx
      go_wp2
      go_roundw
      case rel => exact ⟨i + 1, by omega, by go_num, HR.out⟩
      case measure => simp [intOf]; omega
    · have hin' : ¬ (i : Int) < (al : Int) := by omega
      have hm2 : Own S1 39 wr (.slice ao al ac) (List.replicate al 71) := by
        have e_ : List.replicate i 71 ++ xs.drop i = List.replicate al 71 := by rw [show i = al by omega, List.drop_of_length_le (by rw [HAL.out]; exact Nat.le_refl _), List.append_nil]
        rw [← e_]
        exact ho
      obtain ⟨ms, hms⟩ : ∃ m, m = List.replicate al 71 := ⟨_, rfl⟩
      rw [← hms] at hm2
      have HMS : Hid (ms = List.replicate al 71) := hms
      have HML : Hid (ms.length = al) := by show _ = _; rw [hms, List.length_replicate]
      clear hms ho
      go_wp2_with fail
      clear c0 c1 c2
      go_loopw [18] (fun t wr => ∃ i : Nat, i ≤ aL ∧ t = .int .i64 i ∧ Own S1 39 wr (.slice aO aL aC) (List.replicate i 72 ++ ys.drop i) ∧ Own S1 39 wr (.slice ao al ac) ms ∧ Bex [.slice ao al ac, .slice aO aL aC] w17 wr) (fun t _ => aL - (intOf t).toNat)
      case atStart => exact ⟨0, Nat.zero_le _, rfl, by simpa using hod, hm2, hbx⟩
      case round =>
        clear hod hm2 hbx
        obtain ⟨i, hi, rfl, ho, hod, hbx⟩ := hrel
        obtain ⟨c0, c1, c2⟩ := (qa.bex hbx HBT.out (Or.inr HVA.out)).cells
        by_cases hin : i < aL
        · have hin' : (i : Int) < (aL : Int) := by omega
          obtain ⟨g1, hg1⟩ : ∃ g, aO = some ⟨g, 0, none⟩ := by
            obtain ⟨o_, c_, e_, h_, _⟩ := ho.ao
            injection e_ with e1 _ _
            rw [e1]
            exact h_ (by rw [rep_len (by rw [HDL.out]; omega), HDL.out]; omega)
          subst hg1
          obtain ⟨cz, hfz⟩ := ho.cell (k := i) (by rw [rep_len (by rw [HDL.out]; omega), HDL.out]; exact hin)
          generalize (List.replicate i 72 ++ ys.drop i).getD i 0 = cv at cz
          have R := over_one (W0 := w17) (Or.inr rfl) HAP.out (by decide : 72 < 4294967296) HDL.out hin ho hod hbx
          have HR : Hid (_) := R
          clear R ho hod hbx
          go_wp2
          go_roundw
          case rel => exact ⟨i + 1, by omega, by go_num, HR.out⟩
          case measure => simp [intOf]; omega
        · have hin' : ¬ (i : Int) < (aL : Int) := by omega
          have hd2 : Own S1 39 wr (.slice aO aL aC) (List.replicate aL 72) := by
            have e_ : List.replicate i 72 ++ ys.drop i = List.replicate aL 72 := by rw [show i = aL by omega, List.drop_of_length_le (by rw [HDL.out]; exact Nat.le_refl _), List.append_nil]
            rw [← e_]
            exact ho
          obtain ⟨ds, hds⟩ : ∃ m, m = List.replicate aL 72 := ⟨_, rfl⟩
          rw [← hds] at hd2
          have HDS : Hid (ds = List.replicate aL 72) := hds
          have HDL2 : Hid (ds.length = aL) := by show _ = _; rw [hds, List.length_replicate]
          clear hds ho
          go_wp2_with fail
          clear c0 c1 c2
          go_loopw [19, 21] (fun nv t wr => ∃ i : Nat, i ≤ 80 ∧ t = .int .i64 i ∧ Own S1 39 wr nv (ms ++ List.replicate i 73) ∧ NB w17 (.slice ao al ac) nv ∧ Own S1 39 wr (.slice ao al ac) ms ∧ Own S1 39 wr (.slice aO aL aC) ds ∧ Bex [.slice ao al ac, .slice aO aL aC] w17 wr) (fun _ t _ => 80 - (intOf t).toNat)
          case atStart => exact ⟨0, by omega, rfl, by simpa using hod, Or.inl rfl, hod, hd2, hbx⟩
          case round =>
            clear hod hd2 hbx
            obtain ⟨i, hi, rfl, hz, hnb, hm3, hd3, hbx⟩ := hrel
            by_cases hin : i < 80
            · have hlt : (i : Int) < 80 := by omega
              have HZL : Hid ((ms ++ List.replicate i 73).length = al + i) := by show _ = _; rw [List.length_append, List.length_replicate, HML.out]
              obtain ⟨zs, hzs⟩ : ∃ z, z = ms ++ List.replicate i 73 := ⟨_, rfl⟩
              rw [← hzs] at hz HZL
              have HZS : Hid (zs = ms ++ List.replicate i 73) := hzs
              clear hzs
              have HO : Hid (wr.ownsRow S1 39 1 u19 (al + i) (zs.map U)) := by show _; rw [← HZL.out]; exact hz.2
              have hB3 : S1 ≤ (wr.alloc (.cells #[.int .u32 73] 39)).heap.size := by have h_ := hbx.size; have h2_ := HS12.out; simp; omega
              go_wp2_with (at_builtin; refine wpList_push _ rfl _ _ 25 rfl S1 39 iU (.int .u32 0) 4 Try.underlying25 hiU hzU0 hzU1 hzU2 rfl _ (al + i) (zs.map U) rfl (HO.out.alloc _) ⟨wr.heap.size, 0, none⟩ 1 1 [.int .u32 73] rfl rfl (cell_one_new _ _ _) (fun u hu => by simp at hu; subst hu; rfl) (by decide) (by unfold maxLen; omega) (by omega) hB3 ?_)
              intro v' w5 hw5 hgr hkp hnew
              have R := push_aside (d := 73) (Or.inl rfl) HS.out HBT.out HAP.out (by decide) hz hnb hm3 hd3 hbx HZL.out (by rw [HML.out]; omega) hw5 hgr hkp hnew
              have HR : Hid (Own S1 39 w5 v' (ms ++ List.replicate (i + 1) 73) ∧ NB w17 (.slice ao al ac) v' ∧ Own S1 39 w5 (.slice ao al ac) ms ∧ Own S1 39 w5 (.slice aO aL aC) ds ∧ Bex [.slice ao al ac, .slice aO aL aC] w17 w5) := ⟨by rw [List.replicate_succ', ← List.append_assoc, ← HZS.out]; exact R.1, R.2.1, R.2.2.1, R.2.2.2.1, R.2.2.2.2⟩
              clear R hz hnb hm3 hd3 hbx hw5 hgr hkp hnew HO hB3 HZL
              go_wp2
              go_roundw
              case rel => exact ⟨i + 1, by omega, by go_num, HR.out⟩
              case measure => simp [intOf]; omega
            · have hlt : ¬ (i : Int) < 80 := by omega
              obtain ⟨no, nc, hne, _⟩ := hz.ao
              rw [List.length_append, List.length_replicate, HML.out, show i = 80 by omega] at hne
              subst hne
              clear hz hnb
              go_wp2_with fail
              go_loopw [20, 22] (fun nv t wr => ∃ i : Nat, i ≤ 80 ∧ t = .int .i64 i ∧ Own S1 39 wr nv (ds ++ List.replicate i 74) ∧ NB w17 (.slice aO aL aC) nv ∧ Own S1 39 wr (.slice ao al ac) ms ∧ Own S1 39 wr (.slice aO aL aC) ds ∧ Bex [.slice ao al ac, .slice aO aL aC] w17 wr) (fun _ t _ => 80 - (intOf t).toNat)
              case atStart => exact ⟨0, by omega, rfl, by simpa using hd3, Or.inl rfl, hm3, hd3, hbx⟩
              case round =>
                clear hm3 hd3 hbx
                obtain ⟨i, hi, rfl, hz, hnb, hm3, hd3, hbx⟩ := hrel
                by_cases hin : i < 80
                · have hlt : (i : Int) < 80 := by omega
                  have HZL : Hid ((ds ++ List.replicate i 74).length = aL + i) := by show _ = _; rw [List.length_append, List.length_replicate, HDL2.out]
                  obtain ⟨zs, hzs⟩ : ∃ z, z = ds ++ List.replicate i 74 := ⟨_, rfl⟩
                  rw [← hzs] at hz HZL
                  have HZS : Hid (zs = ds ++ List.replicate i 74) := hzs
                  clear hzs
                  have HO : Hid (wr.ownsRow S1 39 1 u20 (aL + i) (zs.map U)) := by show _; rw [← HZL.out]; exact hz.2
                  have hB3 : S1 ≤ (wr.alloc (.cells #[.int .u32 74] 39)).heap.size := by have h_ := hbx.size; have h2_ := HS12.out; simp; omega
                  go_wp2_with (at_builtin; refine wpList_push _ rfl _ _ 25 rfl S1 39 iU (.int .u32 0) 4 Try.underlying25 hiU hzU0 hzU1 hzU2 rfl _ (aL + i) (zs.map U) rfl (HO.out.alloc _) ⟨wr.heap.size, 0, none⟩ 1 1 [.int .u32 74] rfl rfl (cell_one_new _ _ _) (fun u hu => by simp at hu; subst hu; rfl) (by decide) (by unfold maxLen; omega) (by omega) hB3 ?_)
                  intro v' w5 hw5 hgr hkp hnew
                  have R := push_aside (d := 74) (Or.inr rfl) HS.out HBT.out HAP2.out (by decide) hz hnb hd3 hm3 hbx HZL.out (by rw [HDL2.out]; omega) hw5 hgr hkp hnew
                  have HR : Hid (Own S1 39 w5 v' (ds ++ List.replicate (i + 1) 74) ∧ NB w17 (.slice aO aL aC) v' ∧ Own S1 39 w5 (.slice ao al ac) ms ∧ Own S1 39 w5 (.slice aO aL aC) ds ∧ Bex [.slice ao al ac, .slice aO aL aC] w17 w5) := ⟨by rw [List.replicate_succ', ← List.append_assoc, ← HZS.out]; exact R.1, R.2.1, R.2.2.2.1, R.2.2.1, R.2.2.2.2⟩
                  clear R hz hnb hm3 hd3 hbx hw5 hgr hkp hnew HO hB3 HZL
                  go_wp2
                  go_roundw
                  case rel => exact ⟨i + 1, by omega, by go_num, HR.out⟩
                  case measure => simp [intOf]; omega
                · have hlt : ¬ (i : Int) < 80 := by omega
                  obtain ⟨eo, ec, hee, _⟩ := hz.ao
                  rw [List.length_append, List.length_replicate, HDL2.out, show i = 80 by omega] at hee
                  subst hee
                  clear hz hnb
                  go_wp2_with fail
                  obtain ⟨w5, rfl⟩ : ∃ W, W = wr := ⟨_, rfl⟩
                  go_loopw [23] (fun t wr => ∃ i : Nat, i ≤ al ∧ t = .int .i64 i ∧ wr = w5) (fun t _ => al - (intOf t).toNat)
                  case atStart => exact ⟨0, Nat.zero_le _, rfl, rfl⟩
                  case round =>
                    obtain ⟨i, hi, rfl, hwr⟩ := hrel
                    obtain rfl : w5 = wr := hwr.symm
                    obtain ⟨c0, c1, c2⟩ := (qa.bex hbx HBT.out (Or.inr HVA.out)).cells
                    by_cases hin : i < al
                    · have hin' : (i : Int) < (al : Int) := by omega
                      obtain ⟨g1, hg1⟩ : ∃ g, ao = some ⟨g, 0, none⟩ := by
                        obtain ⟨o_, c_, e_, h_, _⟩ := hm3.ao
                        injection e_ with e1 _ _
                        rw [e1]
                        exact h_ (by rw [HML.out]; omega)
                      subst hg1
                      obtain ⟨cz, hfz⟩ := hm3.cell (k := i) (by rw [HML.out]; exact hin)
                      rw [HMS.out, rep_at hin] at cz
                      have cz2 : w5.cell? ⟨g1, i, none⟩ = some (.int .u32 71) := cz
                      clear cz
                      clear hm3 hd3 hbx
                      go_wp2
                      go_roundw
                      case rel => exact ⟨i + 1, by omega, by go_num, by first | trivial | rfl⟩
                      case measure => simp [intOf]; omega
                    · have hin' : ¬ (i : Int) < (al : Int) := by omega
                      go_wp2_with fail
                      clear c0 c1 c2
                      go_loopw [24] (fun t wr => ∃ i : Nat, i ≤ aL ∧ t = .int .i64 i ∧ wr = w5) (fun t _ => aL - (intOf t).toNat)
                      case atStart => exact ⟨0, Nat.zero_le _, rfl, rfl⟩
                      case round =>
                        obtain ⟨i, hi, rfl, hwr⟩ := hrel
                        obtain rfl : w5 = wr := hwr.symm
                        obtain ⟨c0, c1, c2⟩ := (qa.bex hbx HBT.out (Or.inr HVA.out)).cells
                        by_cases hin : i < aL
                        · have hin' : (i : Int) < (aL : Int) := by omega
                          obtain ⟨g1, hg1⟩ : ∃ g, aO = some ⟨g, 0, none⟩ := by
                            obtain ⟨o_, c_, e_, h_, _⟩ := hd3.ao
                            injection e_ with e1 _ _
                            rw [e1]
                            exact h_ (by rw [HDL2.out]; omega)
                          subst hg1
                          obtain ⟨cz, hfz⟩ := hd3.cell (k := i) (by rw [HDL2.out]; exact hin)
                          rw [HDS.out, rep_at hin] at cz
                          have cz2 : w5.cell? ⟨g1, i, none⟩ = some (.int .u32 72) := cz
                          clear cz
                          clear hm3 hd3 hbx
                          go_wp2
                          go_roundw
                          case rel => exact ⟨i + 1, by omega, by go_num, by first | trivial | rfl⟩
                          case measure => simp [intOf]; omega
                        · have hin' : ¬ (i : Int) < (aL : Int) := by omega
                          go_wp2_with fail
                          clear c0 c1 c2
                          have ot5 := ot.bexLo HT.out hbx HBT.out
                          have ob5 := ob.bexHi hbx HBT.out HBB.out
                          have qt5 := qt.bex hbx HBT.out (Or.inl HVT.out)
                          have qb5 := qb.bex hbx HBT.out (Or.inr HVB.out)
                          have hb5 := hb.trans (hbx.below (Nat.le_trans HSW.out HS12.out) (fun j k hj hk => Nat.le_trans HSW.out (HBT.out j k hj hk).1))
                          clear ot ob qt qb hb hbx hm3 hd3 qa
                          have ot := ot5
                          have ob := ob5
                          have qt := qt5
                          have qb := qb5
                          have hb := hb5
                          clear ot5 ob5 qt5 qb5 hb5
                          have hn1 : (0 : Int) < ((al + 80 : Nat) : Int) := by omega
                          have hn2 : (0 : Int) < ((aL + 80 : Nat) : Int) := by omega
                          refine (h64 _).mono ?_
                          rintro e w41 ⟨v, rfl, oh, b⟩
                          obtain ⟨nh, ho, hl, hc, hO, hL, hC, rfl⟩ := oh.see
                          replace ot := ot.below b
                          replace ob := ob.below b
                          replace qt := qt.below b
                          replace qb := qb.below b
                          replace hb := bstep hb b
                          clear b
                          have hq0 : QCell (w41.alloc (.cells #[.bool false, .slice none 0 0, .slice none 0 0] 29)) w41.heap.size false (.slice none 0 0) (.slice none 0 0) := qcell_new _ rfl
                          obtain ⟨W42, hW42⟩ : ∃ W, W = w41.alloc (.cells #[.bool nh, .slice ho hl hc, .slice hO hL hC] 29) := ⟨_, rfl⟩
                          have qh : QCell W42 (w41.heap.size) nh (.slice ho hl hc) (.slice hO hL hC) := by rw [hW42]; exact qcell_new _ rfl
                          have b : Below w41.heap.size w41 W42 := by rw [hW42]; exact belowA _ _
                          obtain ⟨z0, z1, z2⟩ := hq0.cells
                          have t0 := hq0.thaw 0
                          have t1 := hq0.thaw 1
                          have t2 := hq0.thaw 2
                          clear hq0
                          replace ot := ot.below b
                          replace ob := ob.below b
                          replace oh := oh.below b
                          replace qt := qt.below b
                          replace qb := qb.below b
                          replace hb := bstep hb b
                          clear b
                          have rqt0 : (w41.alloc (.cells #[.bool nh, .slice ho hl hc, .slice hO hL hC] 29)).cell? ⟨v3, 0, none⟩ = some (.bool nt) := by rw [← hW42]; exact qt.cells.1
                          have rqt1 : (w41.alloc (.cells #[.bool nh, .slice ho hl hc, .slice hO hL hC] 29)).cell? ⟨v3, 1, none⟩ = some (.slice to tl tc) := by rw [← hW42]; exact qt.cells.2.1
                          have rqt2 : (w41.alloc (.cells #[.bool nh, .slice ho hl hc, .slice hO hL hC] 29)).cell? ⟨v3, 2, none⟩ = some (.slice tO tL tC) := by rw [← hW42]; exact qt.cells.2.2
                          have rqb0 : (w41.alloc (.cells #[.bool nh, .slice ho hl hc, .slice hO hL hC] 29)).cell? ⟨v9, 0, none⟩ = some (.bool nb) := by rw [← hW42]; exact qb.cells.1
                          have rqb1 : (w41.alloc (.cells #[.bool nh, .slice ho hl hc, .slice hO hL hC] 29)).cell? ⟨v9, 1, none⟩ = some (.slice bo bl bc) := by rw [← hW42]; exact qb.cells.2.1
                          have rqb2 : (w41.alloc (.cells #[.bool nh, .slice ho hl hc, .slice hO hL hC] 29)).cell? ⟨v9, 2, none⟩ = some (.slice bO bL bC) := by rw [← hW42]; exact qb.cells.2.2
                          have rqh0 : (w41.alloc (.cells #[.bool nh, .slice ho hl hc, .slice hO hL hC] 29)).cell? ⟨w41.heap.size, 0, none⟩ = some (.bool nh) := by rw [← hW42]; exact qh.cells.1
                          have rqh1 : (w41.alloc (.cells #[.bool nh, .slice ho hl hc, .slice hO hL hC] 29)).cell? ⟨w41.heap.size, 1, none⟩ = some (.slice ho hl hc) := by rw [← hW42]; exact qh.cells.2.1
                          have rqh2 : (w41.alloc (.cells #[.bool nh, .slice ho hl hc, .slice hO hL hC] 29)).cell? ⟨w41.heap.size, 2, none⟩ = some (.slice hO hL hC) := by rw [← hW42]; exact qh.cells.2.2
                          obtain ⟨v42, hv42⟩ : ∃ v, v = w41.heap.size := ⟨_, rfl⟩
                          rw [← hv42] at qh
                          have HW42 : Hid (W42 = w41.alloc (.cells #[.bool nh, .slice ho hl hc, .slice hO hL hC] 29)) := hW42
                          have Hv42 : Hid (v42 = w41.heap.size) := hv42
                          clear hW42 hv42
                          go_wp2_with fail
                          rw [← HW42.out, ← Hv42.out]
                          clear HW42 Hv42 z0 z1 z2 t0 t1 t2 rqt0 rqt1 rqt2 rqb0 rqb1 rqb2 rqh0 rqh1 rqh2
                          refine (sameQ_yes ob ot).mono ?_
                          rintro e w43 ⟨rfl, b⟩
                          replace ot := ot.below b
                          replace ob := ob.below b
                          replace oh := oh.below b
                          replace qt := qt.below b
                          replace qb := qb.below b
                          replace qh := qh.below b
                          replace hb := bstep hb b
                          clear b
                          obtain ⟨cqt0, cqt1, cqt2⟩ := qt.cells
                          obtain ⟨cqb0, cqb1, cqb2⟩ := qb.cells
                          obtain ⟨cqh0, cqh1, cqh2⟩ := qh.cells
                          go_wp2_with fail
                          clear cqt0 cqt1 cqt2 cqb0 cqb1 cqb2 cqh0 cqh1 cqh2
                          refine (sameQ_yes oh ot).mono ?_
                          rintro e w44 ⟨rfl, b⟩
                          replace ot := ot.below b
                          replace ob := ob.below b
                          replace oh := oh.below b
                          replace qt := qt.below b
                          replace qb := qb.below b
                          replace qh := qh.below b
                          replace hb := bstep hb b
                          clear b
                          have HE : Hid (Below w.heap.size w w44) := hb
                          clear hb qt qb qh ot ob oh
                          go_wp2
                          go_ret
                          exact ⟨rfl, HE.out⟩
set_option maxRecDepth 100000 in
set_option maxHeartbeats 25600000 in
theorem nof1 (f s : Nat) (w : World) (z : Int) (ys : List Nat) (c : Int) (hR : ∀ w, Calls Try.prog 4 #[.float .f64 f] w fun e w' => OfEnd z ys c w e w') (h64 : ∀ w, Calls Try.prog 5 #[.float .f64 f] w fun e w' => OfEnd z ys c w e w') (hM : ∀ w, Calls Try.prog 6 #[.float .f64 f] w fun e w' => OfEnd z ys c w e w') (h32 : ∀ w, Calls Try.prog 7 #[.float .f32 s] w fun e w' => OfEnd 0 [] 13 w e w') (hH : ∀ w, Calls Try.prog 8 #[.float .f32 s] w fun e w' => OfEnd 0 [] 13 w e w') (hzl : (lim z.natAbs).length ≤ 200) (hyl : ys.length ≤ 200) (hcn : ∀ w, (convert 23 22 (.float .f32 s)).run Try.prog w = .ok (.float .f64 (nanC s w)) w.drew) :
    Calls Try.prog 3 #[.float .f64 f, .float .f32 s] w fun e w' => e = .returned (.bool true) ∧ Below w.heap.size w w' := by
  have HXL : Hid ((lim z.natAbs).length ≤ 200) := hzl
  have HYL : Hid (ys.length ≤ 200) := hyl
  have hcc : (c != c) = false := by simp
  clear hzl hyl
  have hb : Below w.heap.size w w := Below.refl _ _
  go_enter Try.func3, Try.ntmps3
  go_wp2_with fail
  refine (hR _).mono ?_
  rintro e w2 ⟨v, rfl, ot, b⟩
  obtain ⟨nt, to, tl, tc, tO, tL, tC, rfl⟩ := ot.see
  replace hb := bstep hb b
  clear b
  have hq0 : QCell (w2.alloc (.cells #[.bool false, .slice none 0 0, .slice none 0 0] 29)) w2.heap.size false (.slice none 0 0) (.slice none 0 0) := qcell_new _ rfl
  obtain ⟨W3, hW3⟩ : ∃ W, W = w2.alloc (.cells #[.bool nt, .slice to tl tc, .slice tO tL tC] 29) := ⟨_, rfl⟩
  have qt : QCell W3 (w2.heap.size) nt (.slice to tl tc) (.slice tO tL tC) := by rw [hW3]; exact qcell_new _ rfl
  have b : Below w2.heap.size w2 W3 := by rw [hW3]; exact belowA _ _
  obtain ⟨z0, z1, z2⟩ := hq0.cells
  have t0 := hq0.thaw 0
  have t1 := hq0.thaw 1
  have t2 := hq0.thaw 2
  clear hq0
  replace ot := ot.below b
  replace hb := bstep hb b
  clear b
  have rqt0 : (w2.alloc (.cells #[.bool nt, .slice to tl tc, .slice tO tL tC] 29)).cell? ⟨w2.heap.size, 0, none⟩ = some (.bool nt) := by rw [← hW3]; exact qt.cells.1
  have rqt1 : (w2.alloc (.cells #[.bool nt, .slice to tl tc, .slice tO tL tC] 29)).cell? ⟨w2.heap.size, 1, none⟩ = some (.slice to tl tc) := by rw [← hW3]; exact qt.cells.2.1
  have rqt2 : (w2.alloc (.cells #[.bool nt, .slice to tl tc, .slice tO tL tC] 29)).cell? ⟨w2.heap.size, 2, none⟩ = some (.slice tO tL tC) := by rw [← hW3]; exact qt.cells.2.2
  obtain ⟨v3, hv3⟩ : ∃ v, v = w2.heap.size := ⟨_, rfl⟩
  rw [← hv3] at qt
  have HW3 : Hid (W3 = w2.alloc (.cells #[.bool nt, .slice to tl tc, .slice tO tL tC] 29)) := hW3
  have Hv3 : Hid (v3 = w2.heap.size) := hv3
  clear hW3 hv3
  go_wp2_with fail
  rw [← HW3.out, ← Hv3.out]
  clear HW3 Hv3 z0 z1 z2 t0 t1 t2 rqt0 rqt1 rqt2
  have hR2 := fun w => ofR_nan (nanC_big s W3) (nanC_lt s W3) w
  have b : Below W3.heap.size W3 W3.drew := (Below.refl _ _).drew
  replace ot := ot.below b
  replace qt := qt.below b
  replace hb := bstep hb b
  clear b
  generalize nanC s W3 = nn at *
  generalize W3.drew = w4 at *
  refine (hR2 _).mono ?_
  rintro e w5 ⟨v, rfl, ov, b⟩
  obtain ⟨nv, vo, vl, vc, vO, vL, vC, rfl⟩ := ov.see
  replace ot := ot.below b
  replace qt := qt.below b
  replace hb := bstep hb b
  clear b
  clear hR2
  have hq0 : QCell (w5.alloc (.cells #[.bool false, .slice none 0 0, .slice none 0 0] 29)) w5.heap.size false (.slice none 0 0) (.slice none 0 0) := qcell_new _ rfl
  obtain ⟨W6, hW6⟩ : ∃ W, W = w5.alloc (.cells #[.bool nv, .slice vo vl vc, .slice vO vL vC] 29) := ⟨_, rfl⟩
  have qv : QCell W6 (w5.heap.size) nv (.slice vo vl vc) (.slice vO vL vC) := by rw [hW6]; exact qcell_new _ rfl
  have b : Below w5.heap.size w5 W6 := by rw [hW6]; exact belowA _ _
  obtain ⟨z0, z1, z2⟩ := hq0.cells
  have t0 := hq0.thaw 0
  have t1 := hq0.thaw 1
  have t2 := hq0.thaw 2
  clear hq0
  replace ot := ot.below b
  replace ov := ov.below b
  replace qt := qt.below b
  replace hb := bstep hb b
  clear b
  have rqt0 : (w5.alloc (.cells #[.bool nv, .slice vo vl vc, .slice vO vL vC] 29)).cell? ⟨v3, 0, none⟩ = some (.bool nt) := by rw [← hW6]; exact qt.cells.1
  have rqt1 : (w5.alloc (.cells #[.bool nv, .slice vo vl vc, .slice vO vL vC] 29)).cell? ⟨v3, 1, none⟩ = some (.slice to tl tc) := by rw [← hW6]; exact qt.cells.2.1
  have rqt2 : (w5.alloc (.cells #[.bool nv, .slice vo vl vc, .slice vO vL vC] 29)).cell? ⟨v3, 2, none⟩ = some (.slice tO tL tC) := by rw [← hW6]; exact qt.cells.2.2
  have rqv0 : (w5.alloc (.cells #[.bool nv, .slice vo vl vc, .slice vO vL vC] 29)).cell? ⟨w5.heap.size, 0, none⟩ = some (.bool nv) := by rw [← hW6]; exact qv.cells.1
  have rqv1 : (w5.alloc (.cells #[.bool nv, .slice vo vl vc, .slice vO vL vC] 29)).cell? ⟨w5.heap.size, 1, none⟩ = some (.slice vo vl vc) := by rw [← hW6]; exact qv.cells.2.1
  have rqv2 : (w5.alloc (.cells #[.bool nv, .slice vo vl vc, .slice vO vL vC] 29)).cell? ⟨w5.heap.size, 2, none⟩ = some (.slice vO vL vC) := by rw [← hW6]; exact qv.cells.2.2
  obtain ⟨v6, hv6⟩ : ∃ v, v = w5.heap.size := ⟨_, rfl⟩
  rw [← hv6] at qv
  have HW6 : Hid (W6 = w5.alloc (.cells #[.bool nv, .slice vo vl vc, .slice vO vL vC] 29)) := hW6
  have Hv6 : Hid (v6 = w5.heap.size) := hv6
  clear hW6 hv6
  go_wp2_with fail
  rw [← HW6.out, ← Hv6.out]
  clear HW6 Hv6 z0 z1 z2 t0 t1 t2 rqt0 rqt1 rqt2 rqv0 rqv1 rqv2
  obtain ⟨S1, hS1⟩ : ∃ S, S = W6.heap.size := ⟨_, rfl⟩
  have HT : Hid (Low (.agg #[.bool nt, .slice to tl tc, .slice tO tL tC]) S1) := by show Low _ _; rw [hS1]; exact ot.low
  have HVT : Hid (v3 < S1) := by show _ < _; rw [hS1]; exact qt.lt
  have HSW : Hid (w.heap.size ≤ S1) := by show _ ≤ _; rw [hS1]; exact hb.size
  have HS1 : Hid (W6.heap.size = S1) := hS1.symm
  replace hS1 := Nat.le_of_eq hS1
  refine (h64 _).mono ?_
  rintro e w7 ⟨v, rfl, oa, b⟩
  obtain ⟨na, ao, al, ac, aO, aL, aC, rfl⟩ := oa.see
  replace ot := ot.below b
  replace ov := ov.below b
  replace hS1 := Nat.le_trans hS1 b.size
  replace qt := qt.below b
  replace qv := qv.below b
  replace hb := bstep hb b
  clear b
  rw [HS1.out] at oa
  clear HS1
  obtain ⟨S2, hS2⟩ : ∃ S, S = w7.heap.size := ⟨_, rfl⟩
  have HBT : Hid (Betw [.slice ao al ac, .slice aO aL aC] S1 S2) := by show Betw _ _ _; rw [hS2]; exact oa.betw
  replace hS2 := Nat.le_of_eq hS2
  have hS2k := hS2
  have hq0 : QCell (w7.alloc (.cells #[.bool false, .slice none 0 0, .slice none 0 0] 29)) w7.heap.size false (.slice none 0 0) (.slice none 0 0) := qcell_new _ rfl
  obtain ⟨W8, hW8⟩ : ∃ W, W = w7.alloc (.cells #[.bool na, .slice ao al ac, .slice aO aL aC] 29) := ⟨_, rfl⟩
  have qa : QCell W8 (w7.heap.size) na (.slice ao al ac) (.slice aO aL aC) := by rw [hW8]; exact qcell_new _ rfl
  have b : Below w7.heap.size w7 W8 := by rw [hW8]; exact belowA _ _
  obtain ⟨z0, z1, z2⟩ := hq0.cells
  have t0 := hq0.thaw 0
  have t1 := hq0.thaw 1
  have t2 := hq0.thaw 2
  clear hq0
  replace ot := ot.below b
  replace ov := ov.below b
  replace hS1 := Nat.le_trans hS1 b.size
  replace oa := oa.below b
  replace hS2 := Nat.le_trans hS2 b.size
  replace qt := qt.below b
  replace qv := qv.below b
  replace hb := bstep hb b
  clear b
  have rqt0 : (w7.alloc (.cells #[.bool na, .slice ao al ac, .slice aO aL aC] 29)).cell? ⟨v3, 0, none⟩ = some (.bool nt) := by rw [← hW8]; exact qt.cells.1
  have rqt1 : (w7.alloc (.cells #[.bool na, .slice ao al ac, .slice aO aL aC] 29)).cell? ⟨v3, 1, none⟩ = some (.slice to tl tc) := by rw [← hW8]; exact qt.cells.2.1
  have rqt2 : (w7.alloc (.cells #[.bool na, .slice ao al ac, .slice aO aL aC] 29)).cell? ⟨v3, 2, none⟩ = some (.slice tO tL tC) := by rw [← hW8]; exact qt.cells.2.2
  have rqv0 : (w7.alloc (.cells #[.bool na, .slice ao al ac, .slice aO aL aC] 29)).cell? ⟨v6, 0, none⟩ = some (.bool nv) := by rw [← hW8]; exact qv.cells.1
  have rqv1 : (w7.alloc (.cells #[.bool na, .slice ao al ac, .slice aO aL aC] 29)).cell? ⟨v6, 1, none⟩ = some (.slice vo vl vc) := by rw [← hW8]; exact qv.cells.2.1
  have rqv2 : (w7.alloc (.cells #[.bool na, .slice ao al ac, .slice aO aL aC] 29)).cell? ⟨v6, 2, none⟩ = some (.slice vO vL vC) := by rw [← hW8]; exact qv.cells.2.2
  have rqa0 : (w7.alloc (.cells #[.bool na, .slice ao al ac, .slice aO aL aC] 29)).cell? ⟨w7.heap.size, 0, none⟩ = some (.bool na) := by rw [← hW8]; exact qa.cells.1
  have rqa1 : (w7.alloc (.cells #[.bool na, .slice ao al ac, .slice aO aL aC] 29)).cell? ⟨w7.heap.size, 1, none⟩ = some (.slice ao al ac) := by rw [← hW8]; exact qa.cells.2.1
  have rqa2 : (w7.alloc (.cells #[.bool na, .slice ao al ac, .slice aO aL aC] 29)).cell? ⟨w7.heap.size, 2, none⟩ = some (.slice aO aL aC) := by rw [← hW8]; exact qa.cells.2.2
  obtain ⟨v8, hv8⟩ : ∃ v, v = w7.heap.size := ⟨_, rfl⟩
  rw [← hv8] at qa
  have HW8 : Hid (W8 = w7.alloc (.cells #[.bool na, .slice ao al ac, .slice aO aL aC] 29)) := hW8
  have Hv8 : Hid (v8 = w7.heap.size) := hv8
  clear hW8 hv8
  have HVA : Hid (S2 ≤ v8) := by show _ ≤ _; rw [Hv8.out]; exact hS2k
  clear hS2k
  go_wp2_with fail
  rw [← HW8.out, ← Hv8.out]
  clear HW8 Hv8 z0 z1 z2 t0 t1 t2 rqt0 rqt1 rqt2 rqv0 rqv1 rqv2 rqa0 rqa1 rqa2
  have HBB : Hid (S2 ≤ W8.heap.size) := hS2
  refine (hM _).mono ?_
  rintro e w9 ⟨v, rfl, ob, b⟩
  obtain ⟨nb, bo, bl, bc, bO, bL, bC, rfl⟩ := ob.see
  replace ot := ot.below b
  replace ov := ov.below b
  replace hS1 := Nat.le_trans hS1 b.size
  replace oa := oa.below b
  replace hS2 := Nat.le_trans hS2 b.size
  replace qt := qt.below b
  replace qv := qv.below b
  replace qa := qa.below b
  replace hb := bstep hb b
  clear b
  have hS2k := hS2
  have hq0 : QCell (w9.alloc (.cells #[.bool false, .slice none 0 0, .slice none 0 0] 29)) w9.heap.size false (.slice none 0 0) (.slice none 0 0) := qcell_new _ rfl
  obtain ⟨W10, hW10⟩ : ∃ W, W = w9.alloc (.cells #[.bool nb, .slice bo bl bc, .slice bO bL bC] 29) := ⟨_, rfl⟩
  have qb : QCell W10 (w9.heap.size) nb (.slice bo bl bc) (.slice bO bL bC) := by rw [hW10]; exact qcell_new _ rfl
  have b : Below w9.heap.size w9 W10 := by rw [hW10]; exact belowA _ _
  obtain ⟨z0, z1, z2⟩ := hq0.cells
  have t0 := hq0.thaw 0
  have t1 := hq0.thaw 1
  have t2 := hq0.thaw 2
  clear hq0
  replace ot := ot.below b
  replace ov := ov.below b
  replace hS1 := Nat.le_trans hS1 b.size
  replace oa := oa.below b
  replace hS2 := Nat.le_trans hS2 b.size
  replace ob := ob.below b
  replace qt := qt.below b
  replace qv := qv.below b
  replace qa := qa.below b
  replace hb := bstep hb b
  clear b
  have rqt0 : (w9.alloc (.cells #[.bool nb, .slice bo bl bc, .slice bO bL bC] 29)).cell? ⟨v3, 0, none⟩ = some (.bool nt) := by rw [← hW10]; exact qt.cells.1
  have rqt1 : (w9.alloc (.cells #[.bool nb, .slice bo bl bc, .slice bO bL bC] 29)).cell? ⟨v3, 1, none⟩ = some (.slice to tl tc) := by rw [← hW10]; exact qt.cells.2.1
  have rqt2 : (w9.alloc (.cells #[.bool nb, .slice bo bl bc, .slice bO bL bC] 29)).cell? ⟨v3, 2, none⟩ = some (.slice tO tL tC) := by rw [← hW10]; exact qt.cells.2.2
  have rqv0 : (w9.alloc (.cells #[.bool nb, .slice bo bl bc, .slice bO bL bC] 29)).cell? ⟨v6, 0, none⟩ = some (.bool nv) := by rw [← hW10]; exact qv.cells.1
  have rqv1 : (w9.alloc (.cells #[.bool nb, .slice bo bl bc, .slice bO bL bC] 29)).cell? ⟨v6, 1, none⟩ = some (.slice vo vl vc) := by rw [← hW10]; exact qv.cells.2.1
  have rqv2 : (w9.alloc (.cells #[.bool nb, .slice bo bl bc, .slice bO bL bC] 29)).cell? ⟨v6, 2, none⟩ = some (.slice vO vL vC) := by rw [← hW10]; exact qv.cells.2.2
  have rqa0 : (w9.alloc (.cells #[.bool nb, .slice bo bl bc, .slice bO bL bC] 29)).cell? ⟨v8, 0, none⟩ = some (.bool na) := by rw [← hW10]; exact qa.cells.1
  have rqa1 : (w9.alloc (.cells #[.bool nb, .slice bo bl bc, .slice bO bL bC] 29)).cell? ⟨v8, 1, none⟩ = some (.slice ao al ac) := by rw [← hW10]; exact qa.cells.2.1
  have rqa2 : (w9.alloc (.cells #[.bool nb, .slice bo bl bc, .slice bO bL bC] 29)).cell? ⟨v8, 2, none⟩ = some (.slice aO aL aC) := by rw [← hW10]; exact qa.cells.2.2
  have rqb0 : (w9.alloc (.cells #[.bool nb, .slice bo bl bc, .slice bO bL bC] 29)).cell? ⟨w9.heap.size, 0, none⟩ = some (.bool nb) := by rw [← hW10]; exact qb.cells.1
  have rqb1 : (w9.alloc (.cells #[.bool nb, .slice bo bl bc, .slice bO bL bC] 29)).cell? ⟨w9.heap.size, 1, none⟩ = some (.slice bo bl bc) := by rw [← hW10]; exact qb.cells.2.1
  have rqb2 : (w9.alloc (.cells #[.bool nb, .slice bo bl bc, .slice bO bL bC] 29)).cell? ⟨w9.heap.size, 2, none⟩ = some (.slice bO bL bC) := by rw [← hW10]; exact qb.cells.2.2
  obtain ⟨v10, hv10⟩ : ∃ v, v = w9.heap.size := ⟨_, rfl⟩
  rw [← hv10] at qb
  have HW10 : Hid (W10 = w9.alloc (.cells #[.bool nb, .slice bo bl bc, .slice bO bL bC] 29)) := hW10
  have Hv10 : Hid (v10 = w9.heap.size) := hv10
  clear hW10 hv10
  have HVB : Hid (S2 ≤ v10) := by show _ ≤ _; rw [Hv10.out]; exact hS2k
  clear hS2k
  go_wp2_with fail
  rw [← HW10.out, ← Hv10.out]
  clear HW10 Hv10 z0 z1 z2 t0 t1 t2 rqt0 rqt1 rqt2 rqv0 rqv1 rqv2 rqa0 rqa1 rqa2 rqb0 rqb1 rqb2
  refine (h32 _).mono ?_
  rintro e w11 ⟨v, rfl, oc, b⟩
  obtain ⟨nc, co, cl, cc, cO, cL, cC, rfl⟩ := oc.see
  replace ot := ot.below b
  replace ov := ov.below b
  replace hS1 := Nat.le_trans hS1 b.size
  replace oa := oa.below b
  replace hS2 := Nat.le_trans hS2 b.size
  replace ob := ob.below b
  replace qt := qt.below b
  replace qv := qv.below b
  replace qa := qa.below b
  replace qb := qb.below b
  replace hb := bstep hb b
  clear b
  have hq0 : QCell (w11.alloc (.cells #[.bool false, .slice none 0 0, .slice none 0 0] 29)) w11.heap.size false (.slice none 0 0) (.slice none 0 0) := qcell_new _ rfl
  obtain ⟨W12, hW12⟩ : ∃ W, W = w11.alloc (.cells #[.bool nc, .slice co cl cc, .slice cO cL cC] 29) := ⟨_, rfl⟩
  have qc : QCell W12 (w11.heap.size) nc (.slice co cl cc) (.slice cO cL cC) := by rw [hW12]; exact qcell_new _ rfl
  have b : Below w11.heap.size w11 W12 := by rw [hW12]; exact belowA _ _
  obtain ⟨z0, z1, z2⟩ := hq0.cells
  have t0 := hq0.thaw 0
  have t1 := hq0.thaw 1
  have t2 := hq0.thaw 2
  clear hq0
  replace ot := ot.below b
  replace ov := ov.below b
  replace hS1 := Nat.le_trans hS1 b.size
  replace oa := oa.below b
  replace hS2 := Nat.le_trans hS2 b.size
  replace ob := ob.below b
  replace oc := oc.below b
  replace qt := qt.below b
  replace qv := qv.below b
  replace qa := qa.below b
  replace qb := qb.below b
  replace hb := bstep hb b
  clear b
  have rqt0 : (w11.alloc (.cells #[.bool nc, .slice co cl cc, .slice cO cL cC] 29)).cell? ⟨v3, 0, none⟩ = some (.bool nt) := by rw [← hW12]; exact qt.cells.1
  have rqt1 : (w11.alloc (.cells #[.bool nc, .slice co cl cc, .slice cO cL cC] 29)).cell? ⟨v3, 1, none⟩ = some (.slice to tl tc) := by rw [← hW12]; exact qt.cells.2.1
  have rqt2 : (w11.alloc (.cells #[.bool nc, .slice co cl cc, .slice cO cL cC] 29)).cell? ⟨v3, 2, none⟩ = some (.slice tO tL tC) := by rw [← hW12]; exact qt.cells.2.2
  have rqv0 : (w11.alloc (.cells #[.bool nc, .slice co cl cc, .slice cO cL cC] 29)).cell? ⟨v6, 0, none⟩ = some (.bool nv) := by rw [← hW12]; exact qv.cells.1
  have rqv1 : (w11.alloc (.cells #[.bool nc, .slice co cl cc, .slice cO cL cC] 29)).cell? ⟨v6, 1, none⟩ = some (.slice vo vl vc) := by rw [← hW12]; exact qv.cells.2.1
  have rqv2 : (w11.alloc (.cells #[.bool nc, .slice co cl cc, .slice cO cL cC] 29)).cell? ⟨v6, 2, none⟩ = some (.slice vO vL vC) := by rw [← hW12]; exact qv.cells.2.2
  have rqa0 : (w11.alloc (.cells #[.bool nc, .slice co cl cc, .slice cO cL cC] 29)).cell? ⟨v8, 0, none⟩ = some (.bool na) := by rw [← hW12]; exact qa.cells.1
  have rqa1 : (w11.alloc (.cells #[.bool nc, .slice co cl cc, .slice cO cL cC] 29)).cell? ⟨v8, 1, none⟩ = some (.slice ao al ac) := by rw [← hW12]; exact qa.cells.2.1
  have rqa2 : (w11.alloc (.cells #[.bool nc, .slice co cl cc, .slice cO cL cC] 29)).cell? ⟨v8, 2, none⟩ = some (.slice aO aL aC) := by rw [← hW12]; exact qa.cells.2.2
  have rqb0 : (w11.alloc (.cells #[.bool nc, .slice co cl cc, .slice cO cL cC] 29)).cell? ⟨v10, 0, none⟩ = some (.bool nb) := by rw [← hW12]; exact qb.cells.1
  have rqb1 : (w11.alloc (.cells #[.bool nc, .slice co cl cc, .slice cO cL cC] 29)).cell? ⟨v10, 1, none⟩ = some (.slice bo bl bc) := by rw [← hW12]; exact qb.cells.2.1
  have rqb2 : (w11.alloc (.cells #[.bool nc, .slice co cl cc, .slice cO cL cC] 29)).cell? ⟨v10, 2, none⟩ = some (.slice bO bL bC) := by rw [← hW12]; exact qb.cells.2.2
  have rqc0 : (w11.alloc (.cells #[.bool nc, .slice co cl cc, .slice cO cL cC] 29)).cell? ⟨w11.heap.size, 0, none⟩ = some (.bool nc) := by rw [← hW12]; exact qc.cells.1
  have rqc1 : (w11.alloc (.cells #[.bool nc, .slice co cl cc, .slice cO cL cC] 29)).cell? ⟨w11.heap.size, 1, none⟩ = some (.slice co cl cc) := by rw [← hW12]; exact qc.cells.2.1
  have rqc2 : (w11.alloc (.cells #[.bool nc, .slice co cl cc, .slice cO cL cC] 29)).cell? ⟨w11.heap.size, 2, none⟩ = some (.slice cO cL cC) := by rw [← hW12]; exact qc.cells.2.2
  obtain ⟨v12, hv12⟩ : ∃ v, v = w11.heap.size := ⟨_, rfl⟩
  rw [← hv12] at qc
  have HW12 : Hid (W12 = w11.alloc (.cells #[.bool nc, .slice co cl cc, .slice cO cL cC] 29)) := hW12
  have Hv12 : Hid (v12 = w11.heap.size) := hv12
  clear hW12 hv12
  go_wp2_with fail
  rw [← HW12.out, ← Hv12.out]
  clear HW12 Hv12 z0 z1 z2 t0 t1 t2 rqt0 rqt1 rqt2 rqv0 rqv1 rqv2 rqa0 rqa1 rqa2 rqb0 rqb1 rqb2 rqc0 rqc1 rqc2
  refine (hH _).mono ?_
  rintro e w13 ⟨v, rfl, ok, b⟩
  obtain ⟨nk, ko, kl, kc, kO, kL, kC, rfl⟩ := ok.see
  replace ot := ot.below b
  replace ov := ov.below b
  replace hS1 := Nat.le_trans hS1 b.size
  replace oa := oa.below b
  replace hS2 := Nat.le_trans hS2 b.size
  replace ob := ob.below b
  replace oc := oc.below b
  replace qt := qt.below b
  replace qv := qv.below b
  replace qa := qa.below b
  replace qb := qb.below b
  replace qc := qc.below b
  replace hb := bstep hb b
  clear b
  have hq0 : QCell (w13.alloc (.cells #[.bool false, .slice none 0 0, .slice none 0 0] 29)) w13.heap.size false (.slice none 0 0) (.slice none 0 0) := qcell_new _ rfl
  obtain ⟨W14, hW14⟩ : ∃ W, W = w13.alloc (.cells #[.bool nk, .slice ko kl kc, .slice kO kL kC] 29) := ⟨_, rfl⟩
  have qk : QCell W14 (w13.heap.size) nk (.slice ko kl kc) (.slice kO kL kC) := by rw [hW14]; exact qcell_new _ rfl
  have b : Below w13.heap.size w13 W14 := by rw [hW14]; exact belowA _ _
  obtain ⟨z0, z1, z2⟩ := hq0.cells
  have t0 := hq0.thaw 0
  have t1 := hq0.thaw 1
  have t2 := hq0.thaw 2
  clear hq0
  replace ot := ot.below b
  replace ov := ov.below b
  replace hS1 := Nat.le_trans hS1 b.size
  replace oa := oa.below b
  replace hS2 := Nat.le_trans hS2 b.size
  replace ob := ob.below b
  replace oc := oc.below b
  replace ok := ok.below b
  replace qt := qt.below b
  replace qv := qv.below b
  replace qa := qa.below b
  replace qb := qb.below b
  replace qc := qc.below b
  replace hb := bstep hb b
  clear b
  have rqt0 : (w13.alloc (.cells #[.bool nk, .slice ko kl kc, .slice kO kL kC] 29)).cell? ⟨v3, 0, none⟩ = some (.bool nt) := by rw [← hW14]; exact qt.cells.1
  have rqt1 : (w13.alloc (.cells #[.bool nk, .slice ko kl kc, .slice kO kL kC] 29)).cell? ⟨v3, 1, none⟩ = some (.slice to tl tc) := by rw [← hW14]; exact qt.cells.2.1
  have rqt2 : (w13.alloc (.cells #[.bool nk, .slice ko kl kc, .slice kO kL kC] 29)).cell? ⟨v3, 2, none⟩ = some (.slice tO tL tC) := by rw [← hW14]; exact qt.cells.2.2
  have rqv0 : (w13.alloc (.cells #[.bool nk, .slice ko kl kc, .slice kO kL kC] 29)).cell? ⟨v6, 0, none⟩ = some (.bool nv) := by rw [← hW14]; exact qv.cells.1
  have rqv1 : (w13.alloc (.cells #[.bool nk, .slice ko kl kc, .slice kO kL kC] 29)).cell? ⟨v6, 1, none⟩ = some (.slice vo vl vc) := by rw [← hW14]; exact qv.cells.2.1
  have rqv2 : (w13.alloc (.cells #[.bool nk, .slice ko kl kc, .slice kO kL kC] 29)).cell? ⟨v6, 2, none⟩ = some (.slice vO vL vC) := by rw [← hW14]; exact qv.cells.2.2
  have rqa0 : (w13.alloc (.cells #[.bool nk, .slice ko kl kc, .slice kO kL kC] 29)).cell? ⟨v8, 0, none⟩ = some (.bool na) := by rw [← hW14]; exact qa.cells.1
  have rqa1 : (w13.alloc (.cells #[.bool nk, .slice ko kl kc, .slice kO kL kC] 29)).cell? ⟨v8, 1, none⟩ = some (.slice ao al ac) := by rw [← hW14]; exact qa.cells.2.1
  have rqa2 : (w13.alloc (.cells #[.bool nk, .slice ko kl kc, .slice kO kL kC] 29)).cell? ⟨v8, 2, none⟩ = some (.slice aO aL aC) := by rw [← hW14]; exact qa.cells.2.2
  have rqb0 : (w13.alloc (.cells #[.bool nk, .slice ko kl kc, .slice kO kL kC] 29)).cell? ⟨v10, 0, none⟩ = some (.bool nb) := by rw [← hW14]; exact qb.cells.1
  have rqb1 : (w13.alloc (.cells #[.bool nk, .slice ko kl kc, .slice kO kL kC] 29)).cell? ⟨v10, 1, none⟩ = some (.slice bo bl bc) := by rw [← hW14]; exact qb.cells.2.1
  have rqb2 : (w13.alloc (.cells #[.bool nk, .slice ko kl kc, .slice kO kL kC] 29)).cell? ⟨v10, 2, none⟩ = some (.slice bO bL bC) := by rw [← hW14]; exact qb.cells.2.2
  have rqc0 : (w13.alloc (.cells #[.bool nk, .slice ko kl kc, .slice kO kL kC] 29)).cell? ⟨v12, 0, none⟩ = some (.bool nc) := by rw [← hW14]; exact qc.cells.1
  have rqc1 : (w13.alloc (.cells #[.bool nk, .slice ko kl kc, .slice kO kL kC] 29)).cell? ⟨v12, 1, none⟩ = some (.slice co cl cc) := by rw [← hW14]; exact qc.cells.2.1
  have rqc2 : (w13.alloc (.cells #[.bool nk, .slice ko kl kc, .slice kO kL kC] 29)).cell? ⟨v12, 2, none⟩ = some (.slice cO cL cC) := by rw [← hW14]; exact qc.cells.2.2
  have rqk0 : (w13.alloc (.cells #[.bool nk, .slice ko kl kc, .slice kO kL kC] 29)).cell? ⟨w13.heap.size, 0, none⟩ = some (.bool nk) := by rw [← hW14]; exact qk.cells.1
  have rqk1 : (w13.alloc (.cells #[.bool nk, .slice ko kl kc, .slice kO kL kC] 29)).cell? ⟨w13.heap.size, 1, none⟩ = some (.slice ko kl kc) := by rw [← hW14]; exact qk.cells.2.1
  have rqk2 : (w13.alloc (.cells #[.bool nk, .slice ko kl kc, .slice kO kL kC] 29)).cell? ⟨w13.heap.size, 2, none⟩ = some (.slice kO kL kC) := by rw [← hW14]; exact qk.cells.2.2
  obtain ⟨v14, hv14⟩ : ∃ v, v = w13.heap.size := ⟨_, rfl⟩
  rw [← hv14] at qk
  have HW14 : Hid (W14 = w13.alloc (.cells #[.bool nk, .slice ko kl kc, .slice kO kL kC] 29)) := hW14
  have Hv14 : Hid (v14 = w13.heap.size) := hv14
  clear hW14 hv14
  go_wp2_with fail
  rw [← HW14.out, ← Hv14.out]
  clear HW14 Hv14 z0 z1 z2 t0 t1 t2 rqt0 rqt1 rqt2 rqv0 rqv1 rqv2 rqa0 rqa1 rqa2 rqb0 rqb1 rqb2 rqc0 rqc1 rqc2 rqk0 rqk1 rqk2
  refine (sameQ_yes oa ot).mono ?_
  rintro e w15 ⟨rfl, b⟩
  replace ot := ot.below b
  replace ov := ov.below b
  replace hS1 := Nat.le_trans hS1 b.size
  replace oa := oa.below b
  replace hS2 := Nat.le_trans hS2 b.size
  replace ob := ob.below b
  replace oc := oc.below b
  replace ok := ok.below b
  replace qt := qt.below b
  replace qv := qv.below b
  replace qa := qa.below b
  replace qb := qb.below b
  replace qc := qc.below b
  replace qk := qk.below b
  replace hb := bstep hb b
  clear b
  obtain ⟨cqt0, cqt1, cqt2⟩ := qt.cells
  obtain ⟨cqv0, cqv1, cqv2⟩ := qv.cells
  obtain ⟨cqa0, cqa1, cqa2⟩ := qa.cells
  obtain ⟨cqb0, cqb1, cqb2⟩ := qb.cells
  obtain ⟨cqc0, cqc1, cqc2⟩ := qc.cells
  obtain ⟨cqk0, cqk1, cqk2⟩ := qk.cells
  go_wp2_with fail
  clear cqt0 cqt1 cqt2 cqv0 cqv1 cqv2 cqa0 cqa1 cqa2 cqb0 cqb1 cqb2 cqc0 cqc1 cqc2 cqk0 cqk1 cqk2
  refine (sameQ_yes ob ot).mono ?_
  rintro e w16 ⟨rfl, b⟩
  replace ot := ot.below b
  replace ov := ov.below b
  replace hS1 := Nat.le_trans hS1 b.size
  replace oa := oa.below b
  replace hS2 := Nat.le_trans hS2 b.size
  replace ob := ob.below b
  replace oc := oc.below b
  replace ok := ok.below b
  replace qt := qt.below b
  replace qv := qv.below b
  replace qa := qa.below b
  replace qb := qb.below b
  replace qc := qc.below b
  replace qk := qk.below b
  replace hb := bstep hb b
  clear b
  obtain ⟨cqt0, cqt1, cqt2⟩ := qt.cells
  obtain ⟨cqv0, cqv1, cqv2⟩ := qv.cells
  obtain ⟨cqa0, cqa1, cqa2⟩ := qa.cells
  obtain ⟨cqb0, cqb1, cqb2⟩ := qb.cells
  obtain ⟨cqc0, cqc1, cqc2⟩ := qc.cells
  obtain ⟨cqk0, cqk1, cqk2⟩ := qk.cells
  go_wp2_with fail
  clear cqt0 cqt1 cqt2 cqv0 cqv1 cqv2 cqa0 cqa1 cqa2 cqb0 cqb1 cqb2 cqc0 cqc1 cqc2 cqk0 cqk1 cqk2
  refine (sameQ_yes oc ov).mono ?_
  rintro e w17 ⟨rfl, b⟩
  replace ot := ot.below b
  replace ov := ov.below b
  replace hS1 := Nat.le_trans hS1 b.size
  replace oa := oa.below b
  replace hS2 := Nat.le_trans hS2 b.size
  replace ob := ob.below b
  replace oc := oc.below b
  replace ok := ok.below b
  replace qt := qt.below b
  replace qv := qv.below b
  replace qa := qa.below b
  replace qb := qb.below b
  replace qc := qc.below b
  replace qk := qk.below b
  replace hb := bstep hb b
  clear b
  obtain ⟨cqt0, cqt1, cqt2⟩ := qt.cells
  obtain ⟨cqv0, cqv1, cqv2⟩ := qv.cells
  obtain ⟨cqa0, cqa1, cqa2⟩ := qa.cells
  obtain ⟨cqb0, cqb1, cqb2⟩ := qb.cells
  obtain ⟨cqc0, cqc1, cqc2⟩ := qc.cells
  obtain ⟨cqk0, cqk1, cqk2⟩ := qk.cells
  go_wp2_with fail
  clear cqt0 cqt1 cqt2 cqv0 cqv1 cqv2 cqa0 cqa1 cqa2 cqb0 cqb1 cqb2 cqc0 cqc1 cqc2 cqk0 cqk1 cqk2
  refine (sameQ_yes ok ov).mono ?_
  rintro e w18 ⟨rfl, b⟩
  replace ot := ot.below b
  replace ov := ov.below b
  replace hS1 := Nat.le_trans hS1 b.size
  replace oa := oa.below b
  replace hS2 := Nat.le_trans hS2 b.size
  replace ob := ob.below b
  replace oc := oc.below b
  replace ok := ok.below b
  replace qt := qt.below b
  replace qv := qv.below b
  replace qa := qa.below b
  replace qb := qb.below b
  replace qc := qc.below b
  replace qk := qk.below b
  replace hb := bstep hb b
  clear b
  clear ov oc ok qv qc qk
  obtain ⟨_, om, od, hap⟩ := oa.parts
  have HXZ := HXL.out
  obtain ⟨xs, hxs⟩ : ∃ x, x = lim z.natAbs := ⟨_, rfl⟩
  rw [← hxs] at om HXZ
  clear hxs
  have HAL : Hid (xs.length = al) := by obtain ⟨o_, c_, e_, _⟩ := om.ao; injection e_ with _ e2 _; exact e2.symm
  have HDL : Hid (ys.length = aL) := by obtain ⟨o_, c_, e_, _⟩ := od.ao; injection e_ with _ e2 _; exact e2.symm
  have hla : al ≤ 200 := by rw [← HAL.out]; exact HXZ
  have hlb : aL ≤ 200 := by rw [← HDL.out]; exact HYL.out
  have HAP : Hid (_) := hap
  have HAP2 : Hid (_) := apart_symm hap
  have HS : Hid (S2 ≤ w18.heap.size) := hS2
  have HS12 : Hid (S1 ≤ w18.heap.size) := hS1
  clear hap HXZ hS1 hS2 oa
  obtain ⟨iU, hiU, hzU0, hzU1, hzU2⟩ := info_parts Try.infoU
  obtain ⟨cqt0, cqt1, cqt2⟩ := qt.cells
  obtain ⟨cqa0, cqa1, cqa2⟩ := qa.cells
  obtain ⟨cqb0, cqb1, cqb2⟩ := qb.cells
  go_wp2_with fail
  clear cqt0 cqt1 cqt2 cqa0 cqa1 cqa2 cqb0 cqb1 cqb2
  go_loopw [17] (fun t wr => ∃ i : Nat, i ≤ al ∧ t = .int .i64 i ∧ Own S1 39 wr (.slice ao al ac) (List.replicate i 71 ++ xs.drop i) ∧ Own S1 39 wr (.slice aO aL aC) ys ∧ Bex [.slice ao al ac, .slice aO aL aC] w18 wr) (fun t _ => al - (intOf t).toNat)
  case atStart => exact ⟨0, Nat.zero_le _, rfl, by simpa using om, od, Bex.same (Below.refl _ _)⟩
  case round =>
    clear om od
    obtain ⟨i, hi, rfl, ho, hod, hbx⟩ := hrel
    obtain ⟨c0, c1, c2⟩ := (qa.bex hbx HBT.out (Or.inr HVA.out)).cells
    by_cases hin : i < al
    · have hin' : (i : Int) < (al : Int) := by omega
      obtain ⟨g1, hg1⟩ : ∃ g, ao = some ⟨g, 0, none⟩ := by
        obtain ⟨o_, c_, e_, h_, _⟩ := ho.ao
        injection e_ with e1 _ _
        rw [e1]
        exact h_ (by rw [rep_len (by rw [HAL.out]; omega), HAL.out]; omega)
      subst hg1
      obtain ⟨cz, hfz⟩ := ho.cell (k := i) (by rw [rep_len (by rw [HAL.out]; omega), HAL.out]; exact hin)
      generalize (List.replicate i 71 ++ xs.drop i).getD i 0 = cv at cz
      have R := over_one (W0 := w18) (Or.inl rfl) HAP2.out (by decide : 71 < 4294967296) HAL.out hin ho hod hbx
      have HR : Hid (_) := R
      clear R ho hod hbx
      go_wp2
      go_roundw
      case rel => exact ⟨i + 1, by omega, by go_num, HR.out⟩
      case measure => simp [intOf]; omega
    · have hin' : ¬ (i : Int) < (al : Int) := by omega
      have hm2 : Own S1 39 wr (.slice ao al ac) (List.replicate al 71) := by
        have e_ : List.replicate i 71 ++ xs.drop i = List.replicate al 71 := by rw [show i = al by omega, List.drop_of_length_le (by rw [HAL.out]; exact Nat.le_refl _), List.append_nil]
        rw [← e_]
        exact ho
      obtain ⟨ms, hms⟩ : ∃ m, m = List.replicate al 71 := ⟨_, rfl⟩
      rw [← hms] at hm2
      have HMS : Hid (ms = List.replicate al 71) := hms
      have HML : Hid (ms.length = al) := by show _ = _; rw [hms, List.length_replicate]
      clear hms ho
      go_wp2_with fail
      clear c0 c1 c2
      go_loopw [18] (fun t wr => ∃ i : Nat, i ≤ aL ∧ t = .int .i64 i ∧ Own S1 39 wr (.slice aO aL aC) (List.replicate i 72 ++ ys.drop i) ∧ Own S1 39 wr (.slice ao al ac) ms ∧ Bex [.slice ao al ac, .slice aO aL aC] w18 wr) (fun t _ => aL - (intOf t).toNat)
      case atStart => exact ⟨0, Nat.zero_le _, rfl, by simpa using hod, hm2, hbx⟩
      case round =>
        clear hod hm2 hbx
        obtain ⟨i, hi, rfl, ho, hod, hbx⟩ := hrel
        obtain ⟨c0, c1, c2⟩ := (qa.bex hbx HBT.out (Or.inr HVA.out)).cells
        by_cases hin : i < aL
        · have hin' : (i : Int) < (aL : Int) := by omega
          obtain ⟨g1, hg1⟩ : ∃ g, aO = some ⟨g, 0, none⟩ := by
            obtain ⟨o_, c_, e_, h_, _⟩ := ho.ao
            injection e_ with e1 _ _
            rw [e1]
            exact h_ (by rw [rep_len (by rw [HDL.out]; omega), HDL.out]; omega)
          subst hg1
          obtain ⟨cz, hfz⟩ := ho.cell (k := i) (by rw [rep_len (by rw [HDL.out]; omega), HDL.out]; exact hin)
          generalize (List.replicate i 72 ++ ys.drop i).getD i 0 = cv at cz
          have R := over_one (W0 := w18) (Or.inr rfl) HAP.out (by decide : 72 < 4294967296) HDL.out hin ho hod hbx
          have HR : Hid (_) := R
          clear R ho hod hbx
          go_wp2
          go_roundw
          case rel => exact ⟨i + 1, by omega, by go_num, HR.out⟩
          case measure => simp [intOf]; omega
        · have hin' : ¬ (i : Int) < (aL : Int) := by omega
          have hd2 : Own S1 39 wr (.slice aO aL aC) (List.replicate aL 72) := by
            have e_ : List.replicate i 72 ++ ys.drop i = List.replicate aL 72 := by rw [show i = aL by omega, List.drop_of_length_le (by rw [HDL.out]; exact Nat.le_refl _), List.append_nil]
            rw [← e_]
            exact ho
          obtain ⟨ds, hds⟩ : ∃ m, m = List.replicate aL 72 := ⟨_, rfl⟩
          rw [← hds] at hd2
          have HDS : Hid (ds = List.replicate aL 72) := hds
          have HDL2 : Hid (ds.length = aL) := by show _ = _; rw [hds, List.length_replicate]
          clear hds ho
          go_wp2_with fail
          clear c0 c1 c2
          go_loopw [19, 21] (fun nv t wr => ∃ i : Nat, i ≤ 80 ∧ t = .int .i64 i ∧ Own S1 39 wr nv (ms ++ List.replicate i 73) ∧ NB w18 (.slice ao al ac) nv ∧ Own S1 39 wr (.slice ao al ac) ms ∧ Own S1 39 wr (.slice aO aL aC) ds ∧ Bex [.slice ao al ac, .slice aO aL aC] w18 wr) (fun _ t _ => 80 - (intOf t).toNat)
          case atStart => exact ⟨0, by omega, rfl, by simpa using hod, Or.inl rfl, hod, hd2, hbx⟩
          case round =>
            clear hod hd2 hbx
            obtain ⟨i, hi, rfl, hz, hnb, hm3, hd3, hbx⟩ := hrel
            by_cases hin : i < 80
            · have hlt : (i : Int) < 80 := by omega
              have HZL : Hid ((ms ++ List.replicate i 73).length = al + i) := by show _ = _; rw [List.length_append, List.length_replicate, HML.out]
              obtain ⟨zs, hzs⟩ : ∃ z, z = ms ++ List.replicate i 73 := ⟨_, rfl⟩
              rw [← hzs] at hz HZL
              have HZS : Hid (zs = ms ++ List.replicate i 73) := hzs
              clear hzs
              have HO : Hid (wr.ownsRow S1 39 1 u19 (al + i) (zs.map U)) := by show _; rw [← HZL.out]; exact hz.2
              have hB3 : S1 ≤ (wr.alloc (.cells #[.int .u32 73] 39)).heap.size := by have h_ := hbx.size; have h2_ := HS12.out; simp; omega
              go_wp2_with (at_builtin; refine wpList_push _ rfl _ _ 25 rfl S1 39 iU (.int .u32 0) 4 Try.underlying25 hiU hzU0 hzU1 hzU2 rfl _ (al + i) (zs.map U) rfl (HO.out.alloc _) ⟨wr.heap.size, 0, none⟩ 1 1 [.int .u32 73] rfl rfl (cell_one_new _ _ _) (fun u hu => by simp at hu; subst hu; rfl) (by decide) (by unfold maxLen; omega) (by omega) hB3 ?_)
              intro v' w5 hw5 hgr hkp hnew
              have R := push_aside (d := 73) (Or.inl rfl) HS.out HBT.out HAP.out (by decide) hz hnb hm3 hd3 hbx HZL.out (by rw [HML.out]; omega) hw5 hgr hkp hnew
              have HR : Hid (Own S1 39 w5 v' (ms ++ List.replicate (i + 1) 73) ∧ NB w18 (.slice ao al ac) v' ∧ Own S1 39 w5 (.slice ao al ac) ms ∧ Own S1 39 w5 (.slice aO aL aC) ds ∧ Bex [.slice ao al ac, .slice aO aL aC] w18 w5) := ⟨by rw [List.replicate_succ', ← List.append_assoc, ← HZS.out]; exact R.1, R.2.1, R.2.2.1, R.2.2.2.1, R.2.2.2.2⟩
              clear R hz hnb hm3 hd3 hbx hw5 hgr hkp hnew HO hB3 HZL
              go_wp2
              go_roundw
              case rel => exact ⟨i + 1, by omega, by go_num, HR.out⟩
              case measure => simp [intOf]; omega
            · have hlt : ¬ (i : Int) < 80 := by omega
              obtain ⟨no, nc, hne, _⟩ := hz.ao
              rw [List.length_append, List.length_replicate, HML.out, show i = 80 by omega] at hne
              subst hne
              clear hz hnb
              go_wp2_with fail
              go_loopw [20, 22] (fun nv t wr => ∃ i : Nat, i ≤ 80 ∧ t = .int .i64 i ∧ Own S1 39 wr nv (ds ++ List.replicate i 74) ∧ NB w18 (.slice aO aL aC) nv ∧ Own S1 39 wr (.slice ao al ac) ms ∧ Own S1 39 wr (.slice aO aL aC) ds ∧ Bex [.slice ao al ac, .slice aO aL aC] w18 wr) (fun _ t _ => 80 - (intOf t).toNat)
              case atStart => exact ⟨0, by omega, rfl, by simpa using hd3, Or.inl rfl, hm3, hd3, hbx⟩
              case round =>
                clear hm3 hd3 hbx
                obtain ⟨i, hi, rfl, hz, hnb, hm3, hd3, hbx⟩ := hrel
                by_cases hin : i < 80
                · have hlt : (i : Int) < 80 := by omega
                  have HZL : Hid ((ds ++ List.replicate i 74).length = aL + i) := by show _ = _; rw [List.length_append, List.length_replicate, HDL2.out]
                  obtain ⟨zs, hzs⟩ : ∃ z, z = ds ++ List.replicate i 74 := ⟨_, rfl⟩
                  rw [← hzs] at hz HZL
                  have HZS : Hid (zs = ds ++ List.replicate i 74) := hzs
                  clear hzs
                  have HO : Hid (wr.ownsRow S1 39 1 u20 (aL + i) (zs.map U)) := by show _; rw [← HZL.out]; exact hz.2
                  have hB3 : S1 ≤ (wr.alloc (.cells #[.int .u32 74] 39)).heap.size := by have h_ := hbx.size; have h2_ := HS12.out; simp; omega
                  go_wp2_with (at_builtin; refine wpList_push _ rfl _ _ 25 rfl S1 39 iU (.int .u32 0) 4 Try.underlying25 hiU hzU0 hzU1 hzU2 rfl _ (aL + i) (zs.map U) rfl (HO.out.alloc _) ⟨wr.heap.size, 0, none⟩ 1 1 [.int .u32 74] rfl rfl (cell_one_new _ _ _) (fun u hu => by simp at hu; subst hu; rfl) (by decide) (by unfold maxLen; omega) (by omega) hB3 ?_)
                  intro v' w5 hw5 hgr hkp hnew
                  have R := push_aside (d := 74) (Or.inr rfl) HS.out HBT.out HAP2.out (by decide) hz hnb hd3 hm3 hbx HZL.out (by rw [HDL2.out]; omega) hw5 hgr hkp hnew
                  have HR : Hid (Own S1 39 w5 v' (ds ++ List.replicate (i + 1) 74) ∧ NB w18 (.slice aO aL aC) v' ∧ Own S1 39 w5 (.slice ao al ac) ms ∧ Own S1 39 w5 (.slice aO aL aC) ds ∧ Bex [.slice ao al ac, .slice aO aL aC] w18 w5) := ⟨by rw [List.replicate_succ', ← List.append_assoc, ← HZS.out]; exact R.1, R.2.1, R.2.2.2.1, R.2.2.1, R.2.2.2.2⟩
                  clear R hz hnb hm3 hd3 hbx hw5 hgr hkp hnew HO hB3 HZL
                  go_wp2
                  go_roundw
                  case rel => exact ⟨i + 1, by omega, by go_num, HR.out⟩
                  case measure => simp [intOf]; omega
                · have hlt : ¬ (i : Int) < 80 := by omega
                  obtain ⟨eo, ec, hee, _⟩ := hz.ao
                  rw [List.length_append, List.length_replicate, HDL2.out, show i = 80 by omega] at hee
                  subst hee
                  clear hz hnb
                  go_wp2_with fail
                  obtain ⟨w5, rfl⟩ : ∃ W, W = wr := ⟨_, rfl⟩
                  go_loopw [23] (fun t wr => ∃ i : Nat, i ≤ al ∧ t = .int .i64 i ∧ wr = w5) (fun t _ => al - (intOf t).toNat)
                  case atStart => exact ⟨0, Nat.zero_le _, rfl, rfl⟩
                  case round =>
                    obtain ⟨i, hi, rfl, hwr⟩ := hrel
                    obtain rfl : w5 = wr := hwr.symm
                    obtain ⟨c0, c1, c2⟩ := (qa.bex hbx HBT.out (Or.inr HVA.out)).cells
                    by_cases hin : i < al
                    · have hin' : (i : Int) < (al : Int) := by omega
                      obtain ⟨g1, hg1⟩ : ∃ g, ao = some ⟨g, 0, none⟩ := by
                        obtain ⟨o_, c_, e_, h_, _⟩ := hm3.ao
                        injection e_ with e1 _ _
                        rw [e1]
                        exact h_ (by rw [HML.out]; omega)
                      subst hg1
                      obtain ⟨cz, hfz⟩ := hm3.cell (k := i) (by rw [HML.out]; exact hin)
                      rw [HMS.out, rep_at hin] at cz
                      have cz2 : w5.cell? ⟨g1, i, none⟩ = some (.int .u32 71) := cz
                      clear cz
                      clear hm3 hd3 hbx
                      go_wp2
                      go_roundw
                      case rel => exact ⟨i + 1, by omega, by go_num, by first | trivial | rfl⟩
                      case measure => simp [intOf]; omega
                    · have hin' : ¬ (i : Int) < (al : Int) := by omega
                      go_wp2_with fail
                      clear c0 c1 c2
                      go_loopw [24] (fun t wr => ∃ i : Nat, i ≤ aL ∧ t = .int .i64 i ∧ wr = w5) (fun t _ => aL - (intOf t).toNat)
                      case atStart => exact ⟨0, Nat.zero_le _, rfl, rfl⟩
                      case round =>
                        obtain ⟨i, hi, rfl, hwr⟩ := hrel
                        obtain rfl : w5 = wr := hwr.symm
                        obtain ⟨c0, c1, c2⟩ := (qa.bex hbx HBT.out (Or.inr HVA.out)).cells
                        by_cases hin : i < aL
                        · have hin' : (i : Int) < (aL : Int) := by omega
                          obtain ⟨g1, hg1⟩ : ∃ g, aO = some ⟨g, 0, none⟩ := by
                            obtain ⟨o_, c_, e_, h_, _⟩ := hd3.ao
                            injection e_ with e1 _ _
                            rw [e1]
                            exact h_ (by rw [HDL2.out]; omega)
                          subst hg1
                          obtain ⟨cz, hfz⟩ := hd3.cell (k := i) (by rw [HDL2.out]; exact hin)
                          rw [HDS.out, rep_at hin] at cz
                          have cz2 : w5.cell? ⟨g1, i, none⟩ = some (.int .u32 72) := cz
                          clear cz
                          clear hm3 hd3 hbx
                          go_wp2
                          go_roundw
                          case rel => exact ⟨i + 1, by omega, by go_num, by first | trivial | rfl⟩
                          case measure => simp [intOf]; omega
                        · have hin' : ¬ (i : Int) < (aL : Int) := by omega
                          go_wp2_with fail
                          clear c0 c1 c2
                          have ot5 := ot.bexLo HT.out hbx HBT.out
                          have ob5 := ob.bexHi hbx HBT.out HBB.out
                          have qt5 := qt.bex hbx HBT.out (Or.inl HVT.out)
                          have qb5 := qb.bex hbx HBT.out (Or.inr HVB.out)
                          have hb5 := hb.trans (hbx.below (Nat.le_trans HSW.out HS12.out) (fun j k hj hk => Nat.le_trans HSW.out (HBT.out j k hj hk).1))
                          clear ot ob qt qb hb hbx hm3 hd3 qa
                          have ot := ot5
                          have ob := ob5
                          have qt := qt5
                          have qb := qb5
                          have hb := hb5
                          clear ot5 ob5 qt5 qb5 hb5
                          have hn1 : (0 : Int) < ((al + 80 : Nat) : Int) := by omega
                          have hn2 : (0 : Int) < ((aL + 80 : Nat) : Int) := by omega
                          refine (h64 _).mono ?_
                          rintro e w41 ⟨v, rfl, oh, b⟩
                          obtain ⟨nh, ho, hl, hc, hO, hL, hC, rfl⟩ := oh.see
                          replace ot := ot.below b
                          replace ob := ob.below b
                          replace qt := qt.below b
                          replace qb := qb.below b
                          replace hb := bstep hb b
                          clear b
                          have hq0 : QCell (w41.alloc (.cells #[.bool false, .slice none 0 0, .slice none 0 0] 29)) w41.heap.size false (.slice none 0 0) (.slice none 0 0) := qcell_new _ rfl
                          obtain ⟨W42, hW42⟩ : ∃ W, W = w41.alloc (.cells #[.bool nh, .slice ho hl hc, .slice hO hL hC] 29) := ⟨_, rfl⟩
                          have qh : QCell W42 (w41.heap.size) nh (.slice ho hl hc) (.slice hO hL hC) := by rw [hW42]; exact qcell_new _ rfl
                          have b : Below w41.heap.size w41 W42 := by rw [hW42]; exact belowA _ _
                          obtain ⟨z0, z1, z2⟩ := hq0.cells
                          have t0 := hq0.thaw 0
                          have t1 := hq0.thaw 1
                          have t2 := hq0.thaw 2
                          clear hq0
                          replace ot := ot.below b
                          replace ob := ob.below b
                          replace oh := oh.below b
                          replace qt := qt.below b
                          replace qb := qb.below b
                          replace hb := bstep hb b
                          clear b
                          have rqt0 : (w41.alloc (.cells #[.bool nh, .slice ho hl hc, .slice hO hL hC] 29)).cell? ⟨v3, 0, none⟩ = some (.bool nt) := by rw [← hW42]; exact qt.cells.1
                          have rqt1 : (w41.alloc (.cells #[.bool nh, .slice ho hl hc, .slice hO hL hC] 29)).cell? ⟨v3, 1, none⟩ = some (.slice to tl tc) := by rw [← hW42]; exact qt.cells.2.1
                          have rqt2 : (w41.alloc (.cells #[.bool nh, .slice ho hl hc, .slice hO hL hC] 29)).cell? ⟨v3, 2, none⟩ = some (.slice tO tL tC) := by rw [← hW42]; exact qt.cells.2.2
                          have rqb0 : (w41.alloc (.cells #[.bool nh, .slice ho hl hc, .slice hO hL hC] 29)).cell? ⟨v10, 0, none⟩ = some (.bool nb) := by rw [← hW42]; exact qb.cells.1
                          have rqb1 : (w41.alloc (.cells #[.bool nh, .slice ho hl hc, .slice hO hL hC] 29)).cell? ⟨v10, 1, none⟩ = some (.slice bo bl bc) := by rw [← hW42]; exact qb.cells.2.1
                          have rqb2 : (w41.alloc (.cells #[.bool nh, .slice ho hl hc, .slice hO hL hC] 29)).cell? ⟨v10, 2, none⟩ = some (.slice bO bL bC) := by rw [← hW42]; exact qb.cells.2.2
                          have rqh0 : (w41.alloc (.cells #[.bool nh, .slice ho hl hc, .slice hO hL hC] 29)).cell? ⟨w41.heap.size, 0, none⟩ = some (.bool nh) := by rw [← hW42]; exact qh.cells.1
                          have rqh1 : (w41.alloc (.cells #[.bool nh, .slice ho hl hc, .slice hO hL hC] 29)).cell? ⟨w41.heap.size, 1, none⟩ = some (.slice ho hl hc) := by rw [← hW42]; exact qh.cells.2.1
                          have rqh2 : (w41.alloc (.cells #[.bool nh, .slice ho hl hc, .slice hO hL hC] 29)).cell? ⟨w41.heap.size, 2, none⟩ = some (.slice hO hL hC) := by rw [← hW42]; exact qh.cells.2.2
                          obtain ⟨v42, hv42⟩ : ∃ v, v = w41.heap.size := ⟨_, rfl⟩
                          rw [← hv42] at qh
                          have HW42 : Hid (W42 = w41.alloc (.cells #[.bool nh, .slice ho hl hc, .slice hO hL hC] 29)) := hW42
                          have Hv42 : Hid (v42 = w41.heap.size) := hv42
                          clear hW42 hv42
                          go_wp2_with fail
                          rw [← HW42.out, ← Hv42.out]
                          clear HW42 Hv42 z0 z1 z2 t0 t1 t2 rqt0 rqt1 rqt2 rqb0 rqb1 rqb2 rqh0 rqh1 rqh2
                          refine (sameQ_yes ob ot).mono ?_
                          rintro e w43 ⟨rfl, b⟩
                          replace ot := ot.below b
                          replace ob := ob.below b
                          replace oh := oh.below b
                          replace qt := qt.below b
                          replace qb := qb.below b
                          replace qh := qh.below b
                          replace hb := bstep hb b
                          clear b
                          obtain ⟨cqt0, cqt1, cqt2⟩ := qt.cells
                          obtain ⟨cqb0, cqb1, cqb2⟩ := qb.cells
                          obtain ⟨cqh0, cqh1, cqh2⟩ := qh.cells
                          go_wp2_with fail
                          clear cqt0 cqt1 cqt2 cqb0 cqb1 cqb2 cqh0 cqh1 cqh2
                          refine (sameQ_yes oh ot).mono ?_
                          rintro e w44 ⟨rfl, b⟩
                          replace ot := ot.below b
                          replace ob := ob.below b
                          replace oh := oh.below b
                          replace qt := qt.below b
                          replace qb := qb.below b
                          replace qh := qh.below b
                          replace hb := bstep hb b
                          clear b
                          have HE : Hid (Below w.heap.size w w44) := hb
                          clear hb qt qb qh ot ob oh
                          go_wp2
                          go_ret
                          exact ⟨rfl, HE.out⟩
theorem nearOf_top (f s : Nat) (w : World) (hf0 : (Lit.float .f64 f).wf = true) (hs0 : (Lit.float .f32 s).wf = true) :
    Calls Try.prog 3 #[.float .f64 f, .float .f32 s] w fun e w' => e = .returned (.bool true) ∧ Below w.heap.size w w' := by
  have hf : f < 18446744073709551616 := by simpa [Lit.wf] using hf0
  have hs : s < 4294967296 := by simpa [Lit.wf] using hs0
  have hl := zF_len f
  by_cases hn : (Ieee.single.read s).isNaN = true
  · exact nof1 f s w _ _ _ (ofR hf) (of64 hf) (ofM hf) (fun w => (of32_nan s w hn).mono fun _ _ h => h.of) (fun w => (ofH_nan s w hn).mono fun _ _ h => h.of) hl.1 hl.2 (fun w => run_conv_nan _ _ _ (by kernel_rfl) hn)
  · have hn' : (Ieee.single.read s).isNaN = false := by simpa using hn
    exact nof0 f s w _ _ _ _ _ _ (ofR hf) (of64 hf) (ofM hf) (of32 hn' (cnv_le hs hn')) (ofH hn' (cnv_le hs hn')) hl.1 hl.2 (fun w => run_convert_float_float _ _ _ _ _ _ _ (by kernel_rfl) Try.underlying22 (cnv_bits hn')) (ofR (cnv_lt s))
end Go.Proofs.Ytaekaikkldnikaa
