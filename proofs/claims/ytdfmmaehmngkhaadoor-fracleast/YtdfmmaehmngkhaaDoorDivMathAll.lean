/-
  Proved here: how long a number's text is.
  Proved here: what Sub and Text of package whole answer.
  Proved here: plain facts on a quotient's limb that is guessed out of the highest limbs. No condition.
-/
import Derived.Test.YtdfmmaehmngkhaaDoorText
import Derived.Test.YtdfmmaehmngkhaaDoorWholeC
import Derived.Test.YtdfmmaehmngkhaaDoorDivByAll
namespace Go.Proofs.YtdfmmaehmngkhaaDoor

theorem txt_size (n : Nat) : (txt n).size = (wri n).length := by unfold txt; rw [strOfNums_size, List.length_map, chars_len]
theorem wri_len {n L : Nat} (h : (lim n).length ≤ L) : (wri n).length ≤ 32 * L + 1 := by
  unfold wri
  split
  · simp
  · rename_i h0
    rw [List.length_reverse]
    rcases Nat.lt_or_ge (32 * L + 1) (dec n).length with h1 | h1
    · exfalso
      obtain ⟨ds, d, hd⟩ : ∃ ds d, dec n = ds ++ [d] := ⟨(dec n).dropLast, (dec n).getLast (dec_ne h0), (List.dropLast_concat_getLast (dec_ne h0)).symm⟩
      have hw := wri_head h0 (wri_ne n)
      have hw2 : wri n = d :: ds.reverse := by unfold wri; rw [if_neg h0, hd, List.reverse_append]; rfl
      simp only [hw2, List.head_cons] at hw
      have h2 := dval_dec n
      rw [hd, dval_append] at h2
      simp only [dval, Nat.mul_zero, Nat.add_zero] at h2
      have h3 := dig_lt h2 hw (lim_lt_of_len h)
      rw [hd, List.length_append] at h1
      simp at h1
      omega
    · exact h1
theorem txt_short {n L : Nat} (h : (lim n).length ≤ L) : (txt n).size ≤ 32 * L + 1 := by rw [txt_size]; exact wri_len h
end Go.Proofs.YtdfmmaehmngkhaaDoor

namespace Go.Proofs.YtdfmmaehmngkhaaDoor
open Go.RowKit

theorem zv_neg (n : Bool) (x : Nat) : -(zv n x) = zv (!n) x := by cases n <;> simp [zv]

set_option maxRecDepth 100000 in
set_option maxHeartbeats 3200000 in
theorem wsub_any (na nb : Bool) (ao bo : Option Addr) (al ac bl_ bc : Nat) (xs ys : List Nat) (w : World) (ha : Num w (.slice ao al ac) xs) (hb : Num w (.slice bo bl_ bc) ys) (hlx : xs.length ≤ 1000000) (hly : ys.length ≤ 1000000) :
    Calls Tryd.prog 46 #[.agg #[.bool na, .slice ao al ac], .agg #[.bool nb, .slice bo bl_ bc]] w fun e w' => IntEnd w (zv na (val xs) - zv nb (val ys)) e w' := by
  obtain ⟨W1, hW1⟩ : ∃ W1, W1 = ((w.alloc (.cells #[.bool na, .slice ao al ac] 25)).alloc (.cells #[.bool nb, .slice bo bl_ bc] 25)).alloc (.cells #[.bool false, .slice none 0 0] 25) := ⟨_, rfl⟩
  have hx : Boxes W1 w.heap.size na nb (.slice ao al ac) (.slice bo bl_ bc) := by rw [hW1]; exact Boxes.new _ _ _ _ _
  have hb1 : Below w.heap.size w W1 := by rw [hW1]; exact bstep (bstep (belowA w _) (belowA _ _)) (belowA _ _)
  have hsz : w.heap.size + 1 + 1 < W1.heap.size := by rw [hW1]; simp
  have na1 := ha.below (Nat.le_refl _) hb1
  have nb1 := hb.below (Nat.le_refl _) hb1
  have HW1 : Hid (W1 = ((w.alloc (.cells #[.bool na, .slice ao al ac] 25)).alloc (.cells #[.bool nb, .slice bo bl_ bc] 25)).alloc (.cells #[.bool false, .slice none 0 0] 25)) := hW1
  clear hW1 ha hb
  obtain ⟨Z, hZ⟩ : ∃ Z, Z = zv na (val xs) - zv nb (val ys) := ⟨_, rfl⟩
  have HZ : Hid (zv na (val xs) + zv (!nb) (val ys) = Z) := by show _ = _; rw [← zv_neg, hZ]; omega
  rw [← hZ]
  clear hZ
  go_enter Tryd.func46, Tryd.ntmps46
  go_wp2_with fail
  rw [← HW1.out]
  obtain ⟨g, hg⟩ : ∃ g, g = w.heap.size := ⟨_, rfl⟩
  rw [← hg] at hx hsz ⊢
  have HG : Hid (g = w.heap.size) := hg
  obtain ⟨c0, c1⟩ := hx.1.cells
  obtain ⟨d0, d1⟩ := hx.2.1.cells
  have HX : Hid (Boxes W1 g na nb (.slice ao al ac) (.slice bo bl_ bc)) := hx
  clear hx hg
  go_region_with (first
    | (go_at_call 45; refine (opposite_any _ _ _ _ _).mono ?_; rintro e w2 ⟨rfl, hb2⟩; have x2 := ((show Boxes W1.drew g na nb (.slice ao al ac) (.slice bo bl_ bc) from HX.out).below hb2); have e0 := x2.1.cells.1; have e1 := x2.1.cells.2)
    | (go_at_call 38; refine (wadd_any _ _ _ _ _ _ _ _ _ _ _ ((na1.same (w' := W1.drew) rfl).below (Nat.le_refl _) hb2) ((nb1.same (w' := W1.drew) rfl).below (Nat.le_refl _) hb2) hlx hly).mono ?_; rw [HZ.out]; rintro e w3 ⟨m, rfl, hm, hb3⟩; obtain ⟨mo, ml, mc, rfl⟩ := hm.sl; have hx3 := x2.below hb3; have y0 := hx3.2.2.cells.1; have y1 := hx3.2.2.cells.2; have f0 := hx3.2.2.thaw 0; have f1 := hx3.2.2.thaw 1))
  all_goals
    have HE : Hid (IntEnd w Z (.returned (.agg #[.bool (decide (Z < 0)), .slice mo ml mc])) ((w3.setCell ⟨g + 1 + 1, 0, none⟩ (.bool (decide (Z < 0)))).setCell ⟨g + 1 + 1, 1, none⟩ (.slice mo ml mc))) :=
      int_done (B := w2.heap.size) rfl (by rw [HG.out]; omega) hm (Nat.lt_of_lt_of_le hsz hb2.size) (bstep (bstep (bstep hb1 (Below.refl _ _).drew) hb2) hb3)
    have HW : Hid (ICell ((w3.setCell ⟨g + 1 + 1, 0, none⟩ (.bool (decide (Z < 0)))).setCell ⟨g + 1 + 1, 1, none⟩ (.slice mo ml mc)) (g + 1 + 1) (decide (Z < 0)) (.slice mo ml mc)) := hx3.2.2.write _ _
    clear hm hb2 hb3 hx3 x2 y0 y1 f0 f1 e0 e1 c0 c1 d0 d1 HX na1 nb1 hb1 hsz
    go_wp2_with fail
    (try simp only [Exit.inBlock, Exit.then])
    exact bodyPost_ret (results_cell_row rfl _ _ (g + 1 + 1) 25 _ (0, 0) _ rfl HW.out Tryd.underlying25 rfl (by kernel_rfl)) rfl HE.out

/-- How a whole number is written. -/
def ztxt (neg : Bool) (n : Nat) : ByteArray := if neg = true ∧ n ≠ 0 then ⟨#[45]⟩ ++ txt n else txt n
theorem bl_pos {n : Nat} : 0 < bl n ↔ n ≠ 0 := by
  constructor
  · intro h h0; subst h0; simp [bl_zero] at h
  · intro h
    obtain ⟨m, e, _⟩ := bl_bounds h
    omega

set_option maxRecDepth 100000 in
set_option maxHeartbeats 3200000 in
theorem wtext_any (neg : Bool) (ao : Option Addr) (n cap : Nat) (xs : List Nat) (w : World) (h : Num w (.slice ao n cap) xs) (hl : xs.length ≤ 1000000) :
    Calls Tryd.prog 50 #[.agg #[.bool neg, .slice ao n cap]] w fun e w' => e = .returned (.string (ztxt neg (val xs))) ∧ Below w.heap.size w w' := by
  obtain ⟨W1, hW1⟩ : ∃ W1, W1 = w.alloc (.cells #[.bool neg, .slice ao n cap] 25) := ⟨_, rfl⟩
  have hi : ICell W1 w.heap.size neg (.slice ao n cap) := by rw [hW1]; exact ICell.new w _ _
  have hb1 : Below w.heap.size w W1 := by rw [hW1]; exact belowA _ _
  have n1 := h.below (Nat.le_refl _) hb1
  have HW1 : Hid (W1 = w.alloc (.cells #[.bool neg, .slice ao n cap] 25)) := hW1
  clear hW1 h
  obtain ⟨T, hT⟩ : ∃ T, T = txt (val xs) := ⟨_, rfl⟩
  have HT : Hid (T = txt (val xs)) := hT
  have hTs : T.size ≤ 32000001 := by
    rw [hT]
    have h1 := txt_short (n := val xs) (L := xs.length) (lim_len_le (val_lt n1.1))
    omega
  clear hT
  go_enter Tryd.func50, Tryd.ntmps50
  go_wp2_with fail
  rw [← HW1.out]
  refine (text_any _ _ _ n1 hl).mono ?_
  rintro e w2 ⟨rfl, hb2⟩
  rw [← HT.out]
  have hi2 := hi.below hb2
  have n2 := n1.below (Nat.le_refl _) hb2
  obtain ⟨c0, c1⟩ := hi2.cells
  have hb12 := bstep hb1 hb2
  clear hi hb1 hb2 n1
  go_wp2_with fail
  refine (below_any _ _ _ _ _ _ n2 hl).mono ?_
  rintro e w3 ⟨rfl, hb3⟩
  have HB : Hid (Below w.heap.size w w3) := bstep hb12 hb3
  clear hb12 hb3 hi2 n2 c0 c1
  by_cases hc : neg = true ∧ val xs ≠ 0
  · rw [show (neg && decide (0 < bl (val xs))) = true by rw [hc.1, decide_eq_true (bl_pos.2 hc.2)]; rfl]
    have HE : Hid ((.returned (.string (⟨#[45]⟩ ++ T)) : Ending) = .returned (.string (ztxt neg (val xs)))) := by show _ = _; unfold ztxt; rw [if_pos hc, HT.out]
    clear hc
    go_wp2_with fail
    go_ret
    exact ⟨HE.out, HB.out⟩
  · rw [show (neg && decide (0 < bl (val xs))) = false by
      cases neg
      · rfl
      · rw [decide_eq_false (fun h => hc ⟨rfl, bl_pos.1 h⟩)]; rfl]
    have HE : Hid ((.returned (.string T) : Ending) = .returned (.string (ztxt neg (val xs)))) := by show _ = _; unfold ztxt; rw [if_neg hc, HT.out]
    clear hc
    go_wp2_with fail
    go_ret
    exact ⟨HE.out, HB.out⟩
end Go.Proofs.YtdfmmaehmngkhaaDoor

namespace Go.Proofs.YtdfmmaehmngkhaaDoor

/-- Whatever the guess is above the quotient of the highest limbs, the true one is not above that. -/
theorem guess_low {part b D N P q : Nat} (hb : D * P ≤ b) (hp : part < (N + 1) * P) (h : q * b ≤ part) : q * D ≤ N := by
  have h1 : q * (D * P) ≤ q * b := Nat.mul_le_mul_left _ hb
  rw [← Nat.mul_assoc] at h1
  have h2 : q * D * P < (N + 1) * P := Nat.lt_of_le_of_lt (Nat.le_trans h1 h) hp
  have := Nat.lt_of_mul_lt_mul_right h2
  omega
theorem guess_high {part b D N P q : Nat} (hb : b < (D + 1) * P) (hp : N * P ≤ part) (h : q * D ≤ N) (hq : q ≤ D + 1) : (q - 1) * b ≤ part := by
  rcases Nat.eq_zero_or_pos q with h0 | h0
  · subst h0; simp
  · obtain ⟨k, rfl⟩ : ∃ k, q = k + 1 := ⟨q - 1, by omega⟩
    rw [Nat.add_sub_cancel]
    have h1 : k * b ≤ k * ((D + 1) * P) := Nat.mul_le_mul_left _ (Nat.le_of_lt hb)
    have h2 : k * (D + 1) ≤ N := by
      rw [Nat.mul_add, Nat.mul_one]
      rw [Nat.add_mul, Nat.one_mul] at h
      omega
    rw [← Nat.mul_assoc] at h1
    exact Nat.le_trans h1 (Nat.le_trans (Nat.mul_le_mul_right _ h2) hp)
theorem out_lit (P x : Nat) : P * 4294967296 * x = 4294967296 * (P * x) := by rw [Nat.mul_right_comm, Nat.mul_comm]
theorem out_lit2 (P x : Nat) : x * 4294967296 * P = 4294967296 * (P * x) := by rw [Nat.mul_right_comm, Nat.mul_comm, Nat.mul_comm x P]
/-- The highest limbs of a number. -/
theorem top_two {b : List Nat} {n : Nat} (hb : limbs b) (hl : b.length = n + 2) : (b.getD (n + 1) 0 * 4294967296 + b.getD n 0) * 4294967296 ^ n ≤ val b ∧ val b < (b.getD (n + 1) 0 * 4294967296 + b.getD n 0 + 1) * 4294967296 ^ n := by
  have e1 := low_succ b n
  have e2 := low_succ b (n + 1)
  rw [low_all (by omega), e1, Nat.pow_succ, out_lit] at e2
  have h := low_lt hb n
  generalize 4294967296 ^ n = P at *
  generalize b.getD (n + 1) 0 = x at *
  generalize b.getD n 0 = y at *
  rw [Nat.add_mul (x * 4294967296 + y) 1 P, Nat.one_mul, Nat.add_mul, out_lit2, Nat.mul_comm y P]
  omega
theorem top_three {p : List Nat} {n : Nat} (hp : limbs p) (hl : p.length = n + 3) : ((p.getD (n + 2) 0 * 4294967296 + p.getD (n + 1) 0) * 4294967296 + p.getD n 0) * 4294967296 ^ n ≤ val p ∧ val p < ((p.getD (n + 2) 0 * 4294967296 + p.getD (n + 1) 0) * 4294967296 + p.getD n 0 + 1) * 4294967296 ^ n := by
  have e1 := low_succ p n
  have e2 := low_succ p (n + 1)
  have e3 := low_succ p (n + 2)
  have hp1 : 4294967296 ^ (n + 1) = 4294967296 ^ n * 4294967296 := Nat.pow_succ ..
  have hp2 : 4294967296 ^ (n + 2) = 4294967296 ^ n * 4294967296 * 4294967296 := by rw [Nat.pow_succ, Nat.pow_succ]
  rw [show n + 2 + 1 = n + 3 from rfl, low_all (by omega), show n + 2 = n + 1 + 1 from rfl, e2, e1, show n + 1 + 1 = n + 2 from rfl, hp1, hp2, out_lit, out_lit (4294967296 ^ n * 4294967296), out_lit] at e3
  have h := low_lt hp n
  generalize 4294967296 ^ n = P at *
  generalize p.getD (n + 2) 0 = x at *
  generalize p.getD (n + 1) 0 = y at *
  generalize p.getD n 0 = z at *
  rw [Nat.add_mul ((x * 4294967296 + y) * 4294967296 + z) 1 P, Nat.one_mul, Nat.add_mul, out_lit2, Nat.mul_comm z P, Nat.mul_add P, Nat.mul_comm P (x * 4294967296), out_lit2]
  omega
/-- What the multiple carries on. -/
theorem carry_step {b : List Nat} {q i m : Nat} (h : m = low b i * q / 4294967296 ^ i) : (m + b.getD i 0 * q) / 4294967296 = low b (i + 1) * q / 4294967296 ^ (i + 1) := by
  rw [low_succ, Nat.add_mul, Nat.pow_succ, ← Nat.div_div_eq_div_mul, Nat.mul_assoc, Nat.add_mul_div_left _ _ (Nat.pow_pos (by decide)), ← h]
theorem carry_lt {b : List Nat} (hb : limbs b) {q : Nat} (hq : q < 4294967296) (i : Nat) : low b i * q / 4294967296 ^ i < 4294967296 := by
  apply Nat.div_lt_of_lt_mul
  exact Nat.mul_lt_mul'' (low_lt hb i) hq
theorem carry_end {b : List Nat} (hb : limbs b) {q : Nat} (hq : q < 4294967296) : low b (b.length + 1) * q / 4294967296 ^ (b.length + 1) = 0 := by
  rw [low_all (by omega)]
  apply Nat.div_eq_of_lt
  rw [Nat.pow_succ]
  exact Nat.mul_lt_mul'' (val_lt hb) hq
end Go.Proofs.YtdfmmaehmngkhaaDoor
