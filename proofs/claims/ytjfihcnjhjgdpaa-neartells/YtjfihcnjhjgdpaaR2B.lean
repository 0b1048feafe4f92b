/-
  Proved here: what Norm, Neg, Add, Sub, Sign, Cmp, Of, Int and Text of the plain way over whole numbers answer.
-/
import Derived.Test.YtjfihcnjhjgdpaaR2AAll
import Derived.Test.YtjfihcnjhjgdpaaAllAll
import Derived.Test.YtjfihcnjhjgdpaaRefOfAll
namespace Go.Proofs.Ytjfihcnjhjgdpaa
open Go.RowKit

theorem lim_le {n : Nat} {xs : List Nat} {w : World} {v : Value} (h : Num w v xs) (hn : n ≤ val xs) : (lim n).length ≤ xs.length := lim_len_le (Nat.lt_of_le_of_lt hn (val_lt h.1))
set_option maxRecDepth 100000 in
set_option maxHeartbeats 6400000 in
theorem r_norm {a : Value} {x : Int} {w : World} (ha : INum w a x) : Calls Try.prog 89 #[a] w fun e w' => IEnd w (x) e w' := by
  obtain ⟨na, ao, al, ac, xa, rfl, ua, la, za⟩ := ha
  have ha : INum w (.agg #[.bool na, .slice ao al ac]) x := ⟨_, _, _, _, _, rfl, ua, la, za⟩
  obtain ⟨W1, hW1⟩ : ∃ W1, W1 = (w.alloc (.cells #[.bool na, .slice ao al ac] 27)).alloc (.cells #[.bool false, .slice none 0 0] 27) := ⟨_, rfl⟩
  have qa : ICell W1 (w.heap.size) na (.slice ao al ac) := by rw [hW1]; exact (icell_step (icell_new _ (by simp)))
  have qR : ICell W1 (w.heap.size + 1) false (.slice none 0 0) := by rw [hW1]; exact (icell_new _ (by simp))
  have hb : Below w.heap.size w W1 := by rw [hW1]; exact bstep (belowA w _) (belowA _ _)
  have hsz : w.heap.size + 1 < W1.heap.size := by rw [hW1]; simp
  replace ua := ua.below (Nat.le_refl _) hb
  have HW1 : Hid (W1 = (w.alloc (.cells #[.bool na, .slice ao al ac] 27)).alloc (.cells #[.bool false, .slice none 0 0] 27)) := hW1
  clear hW1
  go_enter Try.func89, Try.ntmps89
  go_wp2_with fail
  rw [← HW1.out]
  clear HW1
  obtain ⟨g, hg⟩ : ∃ g, g = w.heap.size := ⟨_, rfl⟩
  rw [← hg] at qa qR hsz ⊢
  have HG : Hid (g = w.heap.size) := hg
  clear hg
  have hmk := make_ref na _ _ _ ua (by omega)
  rw [za] at hmk
  refine (hmk).mono ?_
  rintro e w2 ⟨v, rfl, ⟨m, rfl, hm⟩, b⟩
  clear hmk
  obtain ⟨mo, ml, mc, rfl⟩ := hm.sl
  have hszz := hsz
  replace ua := ua.below (Nat.le_refl _) b
  replace qa := qa.below b
  replace qR := qR.below b
  replace hb := bstep hb b
  replace hsz := Nat.lt_of_lt_of_le hsz b.size
  clear b
  have HE : Hid (IEnd w (x) (.returned (.agg #[.bool (decide (x < 0)), .slice mo ml mc])) ((w2.setCell ⟨g + 1, 0, none⟩ (.bool (decide (x < 0)))).setCell ⟨g + 1, 1, none⟩ (.slice mo ml mc))) := (int_done rfl (by rw [HG.out]; omega) hm hszz hb).i
  have HW : Hid (ICell ((w2.setCell ⟨g + 1, 0, none⟩ (.bool (decide (x < 0)))).setCell ⟨g + 1, 1, none⟩ (.slice mo ml mc)) (g + 1) (decide (x < 0)) (.slice mo ml mc)) := qR.write _ _
  obtain ⟨y0, y1⟩ := qR.cells
  have f0 := qR.thaw 0
  have f1 := qR.thaw 1
  generalize decide (x < 0) = bb at *
  clear hszz ha za la
  clear hb hsz hm qa qR ua
  go_wp2_with fail
  (try simp only [Exit.inBlock, Exit.then])
  exact bodyPost_ret (results_cell_row rfl _ _ (g + 1) 27 _ (0, 0) _ rfl HW.out Try.underlying27 rfl (by kernel_rfl)) rfl HE.out
theorem nz_int2 {x : Nat} (h : 0 < x) : ((x : Int) == 0) = false := by
  have h1 : ¬ (x : Int) = 0 := by omega
  simpa using h1
set_option maxRecDepth 100000 in
set_option maxHeartbeats 6400000 in
theorem r_sign {a : Value} {x : Int} {w : World} (ha : INum w a x) : Calls Try.prog 68 #[a] w fun e w' => e = .returned (.int .i64 (cmpZ x 0)) ∧ Below w.heap.size w w' := by
  obtain ⟨c, hc⟩ : ∃ c, c = cmpZ x 0 := ⟨_, rfl⟩
  have HC : Hid (c = cmpZ x 0) := hc
  rw [← hc]
  clear hc
  obtain ⟨na, ao, al, ac, xa, rfl, ua, la, za⟩ := ha
  have ha : INum w (.agg #[.bool na, .slice ao al ac]) x := ⟨_, _, _, _, _, rfl, ua, la, za⟩
  obtain ⟨W1, hW1⟩ : ∃ W1, W1 = w.alloc (.cells #[.bool na, .slice ao al ac] 27) := ⟨_, rfl⟩
  have qa : ICell W1 (w.heap.size) na (.slice ao al ac) := by rw [hW1]; exact (icell_new _ (by simp))
  have hb : Below w.heap.size w W1 := by rw [hW1]; exact belowA w _
  have hsz : w.heap.size < W1.heap.size := by rw [hW1]; simp
  replace ha := ha.below hb
  have HW1 : Hid (W1 = w.alloc (.cells #[.bool na, .slice ao al ac] 27)) := hW1
  clear hW1
  clear ua la za
  go_enter Try.func68, Try.ntmps68
  go_wp2_with fail
  rw [← HW1.out]
  clear HW1
  obtain ⟨g, hg⟩ : ∃ g, g = w.heap.size := ⟨_, rfl⟩
  rw [← hg] at qa hsz ⊢
  have HG : Hid (g = w.heap.size) := hg
  clear hg
  refine (r_norm ha).mono ?_
  rintro e w2 ⟨v, rfl, ⟨m, rfl, hm⟩, b⟩
  obtain ⟨mo, mc, rfl, _, _⟩ := hm.num.ao
  obtain ⟨ml, hml⟩ : ∃ l, l = (lim x.natAbs).length := ⟨_, rfl⟩
  rw [← hml]
  clear hm
  replace ha := ha.below b
  replace qa := qa.below b
  replace hb := bstep hb b
  replace hsz := Nat.lt_of_lt_of_le hsz b.size
  clear b
  obtain ⟨bb, hbb⟩ : ∃ b, b = decide (x < 0) := ⟨_, rfl⟩
  rw [← hbb]
  rcases Int.lt_trichotomy x 0 with hc | hc | hc
  · have e1 : bb = true := by rw [hbb]; exact decide_eq_true hc
    have e2 : cmpZ x 0 = -1 := cmpZ_lt hc
    have e3 : ¬ ml = 0 := by rw [hml]; have := (lim_pos_len (n := x.natAbs)).2 (by omega); omega
    have e4 : ((ml : Int) == 0) = false := nz_int2 (by omega)
    clear e3
    subst e1
    have E2 : Hid (c = _) := HC.out.trans e2
    clear e2 hbb hml HC hc
    obtain ⟨W3, hW3⟩ : ∃ W, W = w2.alloc (.cells #[.bool true, .slice mo ml mc] 27) := ⟨_, rfl⟩
    have qN : ICell W3 (w2.heap.size) true (.slice mo ml mc) := by rw [hW3]; exact (icell_new _ rfl)
    have b : Below w2.heap.size w2 W3 := by rw [hW3]; exact belowA _ _
    replace ha := ha.below b
    replace qa := qa.below b
    replace hb := bstep hb b
    replace hsz := Nat.lt_of_lt_of_le hsz b.size
    clear b
    have rqa0 : (w2.alloc (.cells #[.bool true, .slice mo ml mc] 27)).cell? ⟨g, 0, none⟩ = some (.bool na) := by rw [← hW3]; exact qa.cells.1
    have rqa1 : (w2.alloc (.cells #[.bool true, .slice mo ml mc] 27)).cell? ⟨g, 1, none⟩ = some (.slice ao al ac) := by rw [← hW3]; exact qa.cells.2
    have rqN0 : (w2.alloc (.cells #[.bool true, .slice mo ml mc] 27)).cell? ⟨w2.heap.size, 0, none⟩ = some (.bool true) := by rw [← hW3]; exact qN.cells.1
    have rqN1 : (w2.alloc (.cells #[.bool true, .slice mo ml mc] 27)).cell? ⟨w2.heap.size, 1, none⟩ = some (.slice mo ml mc) := by rw [← hW3]; exact qN.cells.2
    obtain ⟨v3, hv3⟩ : ∃ v, v = w2.heap.size := ⟨_, rfl⟩
    rw [← hv3] at qN
    have HW3 : Hid (W3 = w2.alloc (.cells #[.bool true, .slice mo ml mc] 27)) := hW3
    have Hv3 : Hid (v3 = w2.heap.size) := hv3
    clear hW3 hv3
    have HE : Hid (Below w.heap.size w W3) := hb
    clear hb hsz qa qN ha
    go_wp2_with fail
    rw [← HW3.out]
    go_ret
    exact ⟨by rw [E2.out]; rfl, HE.out⟩
  · have e1 : bb = false := by rw [hbb]; exact decide_eq_false (by omega)
    have e2 : cmpZ x 0 = 0 := by rw [hc]; rfl
    have e3 : ml = 0 := by rw [hml, hc]; rfl
    subst e3
    subst e1
    have E2 : Hid (c = _) := HC.out.trans e2
    clear e2 hbb hml HC hc
    obtain ⟨W3, hW3⟩ : ∃ W, W = w2.alloc (.cells #[.bool false, .slice mo 0 mc] 27) := ⟨_, rfl⟩
    have qN : ICell W3 (w2.heap.size) false (.slice mo 0 mc) := by rw [hW3]; exact (icell_new _ rfl)
    have b : Below w2.heap.size w2 W3 := by rw [hW3]; exact belowA _ _
    replace ha := ha.below b
    replace qa := qa.below b
    replace hb := bstep hb b
    replace hsz := Nat.lt_of_lt_of_le hsz b.size
    clear b
    have rqa0 : (w2.alloc (.cells #[.bool false, .slice mo 0 mc] 27)).cell? ⟨g, 0, none⟩ = some (.bool na) := by rw [← hW3]; exact qa.cells.1
    have rqa1 : (w2.alloc (.cells #[.bool false, .slice mo 0 mc] 27)).cell? ⟨g, 1, none⟩ = some (.slice ao al ac) := by rw [← hW3]; exact qa.cells.2
    have rqN0 : (w2.alloc (.cells #[.bool false, .slice mo 0 mc] 27)).cell? ⟨w2.heap.size, 0, none⟩ = some (.bool false) := by rw [← hW3]; exact qN.cells.1
    have rqN1 : (w2.alloc (.cells #[.bool false, .slice mo 0 mc] 27)).cell? ⟨w2.heap.size, 1, none⟩ = some (.slice mo 0 mc) := by rw [← hW3]; exact qN.cells.2
    obtain ⟨v3, hv3⟩ : ∃ v, v = w2.heap.size := ⟨_, rfl⟩
    rw [← hv3] at qN
    have HW3 : Hid (W3 = w2.alloc (.cells #[.bool false, .slice mo 0 mc] 27)) := hW3
    have Hv3 : Hid (v3 = w2.heap.size) := hv3
    clear hW3 hv3
    have HE : Hid (Below w.heap.size w W3) := hb
    clear hb hsz qa qN ha
    go_wp2_with fail
    rw [← HW3.out]
    go_ret
    exact ⟨by rw [E2.out]; rfl, HE.out⟩
  · have e1 : bb = false := by rw [hbb]; exact decide_eq_false (by omega)
    have e2 : cmpZ x 0 = 1 := cmpZ_gt hc
    have e3 : ¬ ml = 0 := by rw [hml]; have := (lim_pos_len (n := x.natAbs)).2 (by omega); omega
    have e4 : ((ml : Int) == 0) = false := nz_int2 (by omega)
    clear e3
    subst e1
    have E2 : Hid (c = _) := HC.out.trans e2
    clear e2 hbb hml HC hc
    obtain ⟨W3, hW3⟩ : ∃ W, W = w2.alloc (.cells #[.bool false, .slice mo ml mc] 27) := ⟨_, rfl⟩
    have qN : ICell W3 (w2.heap.size) false (.slice mo ml mc) := by rw [hW3]; exact (icell_new _ rfl)
    have b : Below w2.heap.size w2 W3 := by rw [hW3]; exact belowA _ _
    replace ha := ha.below b
    replace qa := qa.below b
    replace hb := bstep hb b
    replace hsz := Nat.lt_of_lt_of_le hsz b.size
    clear b
    have rqa0 : (w2.alloc (.cells #[.bool false, .slice mo ml mc] 27)).cell? ⟨g, 0, none⟩ = some (.bool na) := by rw [← hW3]; exact qa.cells.1
    have rqa1 : (w2.alloc (.cells #[.bool false, .slice mo ml mc] 27)).cell? ⟨g, 1, none⟩ = some (.slice ao al ac) := by rw [← hW3]; exact qa.cells.2
    have rqN0 : (w2.alloc (.cells #[.bool false, .slice mo ml mc] 27)).cell? ⟨w2.heap.size, 0, none⟩ = some (.bool false) := by rw [← hW3]; exact qN.cells.1
    have rqN1 : (w2.alloc (.cells #[.bool false, .slice mo ml mc] 27)).cell? ⟨w2.heap.size, 1, none⟩ = some (.slice mo ml mc) := by rw [← hW3]; exact qN.cells.2
    obtain ⟨v3, hv3⟩ : ∃ v, v = w2.heap.size := ⟨_, rfl⟩
    rw [← hv3] at qN
    have HW3 : Hid (W3 = w2.alloc (.cells #[.bool false, .slice mo ml mc] 27)) := hW3
    have Hv3 : Hid (v3 = w2.heap.size) := hv3
    clear hW3 hv3
    have HE : Hid (Below w.heap.size w W3) := hb
    clear hb hsz qa qN ha
    go_wp2_with fail
    rw [← HW3.out]
    go_ret
    exact ⟨by rw [E2.out]; rfl, HE.out⟩
theorem lim_sum {xs ys : List Nat} (hx : limbs xs) (hy : limbs ys) {n : Nat} (lx : xs.length ≤ n) (ly : ys.length ≤ n) : (lim (val xs + val ys)).length ≤ n + 1 := by
  apply lim_len_le
  have h1 := Nat.lt_of_lt_of_le (val_lt hx) (Nat.pow_le_pow_right (Nat.succ_pos 4294967295) lx)
  have h2 := Nat.lt_of_lt_of_le (val_lt hy) (Nat.pow_le_pow_right (Nat.succ_pos 4294967295) ly)
  rw [Nat.pow_succ]
  generalize 4294967296 ^ n = P at *
  omega
theorem neg_parts {n : Bool} {k : Nat} (h : zv n k < 0) : n = true ∧ k ≠ 0 := by
  cases n
  · simp [zv] at h; omega
  · simp [zv] at h; exact ⟨rfl, by omega⟩
theorem parts_neg {n : Bool} {k : Nat} (h : n = true ∧ k ≠ 0) : zv n k < 0 := by
  obtain ⟨rfl, h⟩ := h
  simp [zv]
  omega
/-- The int of a whole number, if there is one. -/
def intZ (x : Int) : Int := if -9223372036854775808 ≤ x ∧ x ≤ 9223372036854775807 then x else 0
def intB (x : Int) : Bool := decide (-9223372036854775808 ≤ x ∧ x ≤ 9223372036854775807)
theorem intZ_yes {x : Int} (h : -9223372036854775808 ≤ x ∧ x ≤ 9223372036854775807) : intZ x = x ∧ intB x = true := ⟨if_pos h, decide_eq_true h⟩
theorem intZ_no {x : Int} (h : ¬ (-9223372036854775808 ≤ x ∧ x ≤ 9223372036854775807)) : intZ x = 0 ∧ intB x = false := ⟨if_neg h, decide_eq_false h⟩
end Go.Proofs.Ytjfihcnjhjgdpaa
