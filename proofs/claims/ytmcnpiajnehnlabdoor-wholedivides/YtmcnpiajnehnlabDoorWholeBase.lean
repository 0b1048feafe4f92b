/-
  Proved here: what the small functions of credencelaw02 answer.
-/
import Derived.Test.YtmcnpiajnehnlabDoorWholeAlive
namespace Go.Proofs.YtmcnpiajnehnlabDoor
open Go.RowKit

set_option maxRecDepth 100000 in
set_option maxHeartbeats 3200000 in
theorem lbig_any (n : Bool) (o : Option Addr) (l c : Nat) (w : World) : Calls Tryd.prog 9 #[.agg #[.bool n, .slice o l c]] w fun e w' => e = .returned (.bool (decide (30 < l))) ∧ Below w.heap.size w w' := by
  go_enter Tryd.func9, Tryd.ntmps9
  go_wp2_with fail
  go_ret
  exact ⟨by congr 2; simp; omega, belowA _ _⟩
theorem cmpZ_eq (x y : Int) : (cmpZ x y == 0) = decide (x = y) := by
  unfold cmpZ
  by_cases h1 : x < y
  · rw [if_pos h1, decide_eq_false (by omega)]; rfl
  · rw [if_neg h1]
    by_cases h2 : x = y
    · rw [if_pos h2, decide_eq_true h2]; rfl
    · rw [if_neg h2, decide_eq_false h2]; rfl

set_option maxRecDepth 100000 in
set_option maxHeartbeats 3200000 in
theorem lequal_any {a b : Value} {x y : Int} {w : World} (ha : INum w a x) (hb' : INum w b y) : Calls Tryd.prog 17 #[a, b] w fun e w' => e = .returned (.bool (decide (x = y))) ∧ Below w.heap.size w w' := by
  obtain ⟨d, hd⟩ : ∃ d, d = decide (x = y) := ⟨_, rfl⟩
  have HD : Hid (d = decide (x = y)) := hd
  rw [← hd]
  clear hd
  obtain ⟨na, ao, al, ac, xa, rfl, ua, la, za⟩ := ha
  have ha : INum w (.agg #[.bool na, .slice ao al ac]) x := ⟨_, _, _, _, _, rfl, ua, la, za⟩
  clear ua la za
  obtain ⟨nb, bo, bl, bc, xb, rfl, ub, lb, zb⟩ := hb'
  have hb' : INum w (.agg #[.bool nb, .slice bo bl bc]) y := ⟨_, _, _, _, _, rfl, ub, lb, zb⟩
  clear ub lb zb
  obtain ⟨W1, hW1⟩ : ∃ W1, W1 = (w.alloc (.cells #[.bool na, .slice ao al ac] 25)).alloc (.cells #[.bool nb, .slice bo bl bc] 25) := ⟨_, rfl⟩
  have q0 : ICell W1 (w.heap.size) na (.slice ao al ac) := by rw [hW1]; exact (icell_step (icell_new _ (by simp)))
  have q1 : ICell W1 (w.heap.size + 1) nb (.slice bo bl bc) := by rw [hW1]; exact (icell_new _ (by simp))
  have hb : Below w.heap.size w W1 := by rw [hW1]; exact bstep (belowA w _) (belowA _ _)
  have hsz : w.heap.size + 1 < W1.heap.size := by rw [hW1]; simp
  replace ha := ha.below hb
  replace hb' := hb'.below hb
  have HW1 : Hid (W1 = (w.alloc (.cells #[.bool na, .slice ao al ac] 25)).alloc (.cells #[.bool nb, .slice bo bl bc] 25)) := hW1
  clear hW1
  go_enter Tryd.func17, Tryd.ntmps17
  go_wp2_with fail
  rw [← HW1.out]
  clear HW1
  obtain ⟨g, hg⟩ : ∃ g, g = w.heap.size := ⟨_, rfl⟩
  rw [← hg] at q0 q1 hsz ⊢
  have HG : Hid (g = w.heap.size) := hg
  clear hg
  refine (c_cmp ha hb').mono ?_
  rintro e w2 ⟨rfl, hb2⟩
  have HE : Hid (Below w.heap.size w w2) := bstep hb hb2
  obtain ⟨c, hc⟩ : ∃ c, c = cmpZ x y := ⟨_, rfl⟩
  have hcd : (c == 0) = d := by rw [hc, HD.out]; exact cmpZ_eq x y
  rw [← hc]
  clear hb2 hb hc
  go_wp2_with fail
  go_ret
  exact ⟨rfl, HE.out⟩
/-- A number of few limbs, or of many. -/
theorem few {w : World} {n : Bool} {o : Option Addr} {l c : Nat} {xs : List Nat} (h : Num w (.slice o l c) xs) (hl : ¬ 30 < l) : INum w (.agg #[.bool n, .slice o l c]) (zv n (val xs)) ∧ Sz (zv n (val xs)) 30 := by
  have e : xs.length = l := by
    obtain ⟨_, _, _, e, _⟩ := h
    simp only [Value.slice.injEq] at e
    exact e.2.1.symm
  exact ⟨⟨_, _, _, _, xs, rfl, h, by omega, rfl⟩, Sz.of_num h (by omega)⟩
theorem cmpZ_sub (x y : Int) : cmpZ (x - y) 0 = cmpZ x y := by unfold cmpZ; repeat' split; all_goals omega
theorem cmpZ_swap (x y : Int) : cmpZ y x = -cmpZ x y := by unfold cmpZ; repeat' split; all_goals omega
theorem cmpZ_add (x y z : Int) : cmpZ (x + z) (y + z) = cmpZ x y := by unfold cmpZ; repeat' split; all_goals omega
theorem cmpZ_lt {x y : Int} (h : x < y) : cmpZ x y = -1 := by unfold cmpZ; rw [if_pos h]
theorem cmpZ_gt {x y : Int} (h : y < x) : cmpZ x y = 1 := by unfold cmpZ; rw [if_neg (by omega), if_neg (by omega)]
theorem cmpZ_same (x : Int) : cmpZ x x = 0 := by unfold cmpZ; rw [if_neg (by omega), if_pos rfl]
theorem cmpZ_mulz (x y z : Int) : cmpZ (x * z) (y * z) = cmpZ x y * cmpZ z 0 := by
  rcases Int.lt_trichotomy z 0 with hz | hz | hz
  · rw [cmpZ_lt hz]
    rcases Int.lt_trichotomy x y with h | h | h
    · rw [cmpZ_lt h, cmpZ_gt (Int.mul_lt_mul_of_neg_right h hz)]; rfl
    · rw [h, cmpZ_same, cmpZ_same]; rfl
    · rw [cmpZ_gt h, cmpZ_lt (Int.mul_lt_mul_of_neg_right h hz)]; rfl
  · rw [hz, Int.mul_zero, Int.mul_zero, cmpZ_same, Int.mul_zero]
  · rw [cmpZ_gt hz, Int.mul_one]
    rcases Int.lt_trichotomy x y with h | h | h
    · rw [cmpZ_lt h, cmpZ_lt (Int.mul_lt_mul_of_pos_right h hz)]
    · rw [h, cmpZ_same, cmpZ_same]
    · rw [cmpZ_gt h, cmpZ_gt (Int.mul_lt_mul_of_pos_right h hz)]
end Go.Proofs.YtmcnpiajnehnlabDoor
