/-
  Proved here: how long a number's text is.
  Proved here: what Sub and Text of package whole answer.
-/
import Derived.Test.YtnlajeinegampaaTextAll
import Derived.Test.YtnlajeinegampaaWholeC
namespace Go.Proofs.Ytnlajeinegampaa

theorem txt_size (n : Nat) : (txt n).size = (wri n).length := by unfold txt; rw [strOfNums_size, List.length_map, chars_len]
theorem wri_len {n L : Nat} (h : (lim n).length ≤ L) : (wri n).length ≤ 32 * L + 1 := by
  unfold wri
  split
  · simp
  · rename_i h0
    rw [List.length_reverse]
    rcases Nat.lt_or_ge (32 * L + 1) (dec n).length with h1 | h1
    · exfalso
      obtain ⟨ds, d, hd⟩ : ∃ ds d, dec n = ds ++ [d] := ⟨(dec n).dropLast, (dec n).getLast (dec_ne h0), (List.dropLast_concat_getLast (dec_ne h0)).symm⟩
      have hw := wri_head h0 (wri_ne n)
      have hw2 : wri n = d :: ds.reverse := by unfold wri; rw [if_neg h0, hd, List.reverse_append]; rfl
      simp only [hw2, List.head_cons] at hw
      have h2 := dval_dec n
      rw [hd, dval_append] at h2
      simp only [dval, Nat.mul_zero, Nat.add_zero] at h2
      have h3 := dig_lt h2 hw (lim_lt_of_len h)
      rw [hd, List.length_append] at h1
      simp at h1
      omega
    · exact h1
theorem txt_short {n L : Nat} (h : (lim n).length ≤ L) : (txt n).size ≤ 32 * L + 1 := by rw [txt_size]; exact wri_len h
end Go.Proofs.Ytnlajeinegampaa

namespace Go.Proofs.Ytnlajeinegampaa
open Go.RowKit

theorem zv_neg (n : Bool) (x : Nat) : -(zv n x) = zv (!n) x := by cases n <;> simp [zv]

set_option maxRecDepth 100000 in
set_option maxHeartbeats 3200000 in
theorem wsub_any (na nb : Bool) (ao bo : Option Addr) (al ac bl_ bc : Nat) (xs ys : List Nat) (w : World) (ha : Num w (.slice ao al ac) xs) (hb : Num w (.slice bo bl_ bc) ys) (hlx : xs.length ≤ 1000000) (hly : ys.length ≤ 1000000) :
    Calls Try.prog 90 #[.agg #[.bool na, .slice ao al ac], .agg #[.bool nb, .slice bo bl_ bc]] w fun e w' => IntEnd w (zv na (val xs) - zv nb (val ys)) e w' := by
  obtain ⟨W1, hW1⟩ : ∃ W1, W1 = ((w.alloc (.cells #[.bool na, .slice ao al ac] 34)).alloc (.cells #[.bool nb, .slice bo bl_ bc] 34)).alloc (.cells #[.bool false, .slice none 0 0] 34) := ⟨_, rfl⟩
  have hx : Boxes W1 w.heap.size na nb (.slice ao al ac) (.slice bo bl_ bc) := by rw [hW1]; exact Boxes.new _ _ _ _ _
  have hb1 : Below w.heap.size w W1 := by rw [hW1]; exact bstep (bstep (belowA w _) (belowA _ _)) (belowA _ _)
  have hsz : w.heap.size + 1 + 1 < W1.heap.size := by rw [hW1]; simp
  have na1 := ha.below (Nat.le_refl _) hb1
  have nb1 := hb.below (Nat.le_refl _) hb1
  have HW1 : Hid (W1 = ((w.alloc (.cells #[.bool na, .slice ao al ac] 34)).alloc (.cells #[.bool nb, .slice bo bl_ bc] 34)).alloc (.cells #[.bool false, .slice none 0 0] 34)) := hW1
  clear hW1 ha hb
  obtain ⟨Z, hZ⟩ : ∃ Z, Z = zv na (val xs) - zv nb (val ys) := ⟨_, rfl⟩
  have HZ : Hid (zv na (val xs) + zv (!nb) (val ys) = Z) := by show _ = _; rw [← zv_neg, hZ]; omega
  rw [← hZ]
  clear hZ
  go_enter Try.func90, Try.ntmps90
  go_wp2_with fail
  rw [← HW1.out]
  obtain ⟨g, hg⟩ : ∃ g, g = w.heap.size := ⟨_, rfl⟩
  rw [← hg] at hx hsz ⊢
  have HG : Hid (g = w.heap.size) := hg
  obtain ⟨c0, c1⟩ := hx.1.cells
  obtain ⟨d0, d1⟩ := hx.2.1.cells
  have HX : Hid (Boxes W1 g na nb (.slice ao al ac) (.slice bo bl_ bc)) := hx
  clear hx hg
  go_region_with (first
    | (go_at_call 113; refine (opposite_any _ _ _ _ _).mono ?_; rintro e w2 ⟨rfl, hb2⟩; have x2 := ((show Boxes W1.drew g na nb (.slice ao al ac) (.slice bo bl_ bc) from HX.out).below hb2); have e0 := x2.1.cells.1; have e1 := x2.1.cells.2)
    | (go_at_call 89; refine (wadd_any _ _ _ _ _ _ _ _ _ _ _ ((na1.same (w' := W1.drew) rfl).below (Nat.le_refl _) hb2) ((nb1.same (w' := W1.drew) rfl).below (Nat.le_refl _) hb2) hlx hly).mono ?_; rw [HZ.out]; rintro e w3 ⟨m, rfl, hm, hb3⟩; obtain ⟨mo, ml, mc, rfl⟩ := hm.sl; have hx3 := x2.below hb3; have y0 := hx3.2.2.cells.1; have y1 := hx3.2.2.cells.2; have f0 := hx3.2.2.thaw 0; have f1 := hx3.2.2.thaw 1))
  all_goals
    have HE : Hid (IntEnd w Z (.returned (.agg #[.bool (decide (Z < 0)), .slice mo ml mc])) ((w3.setCell ⟨g + 1 + 1, 0, none⟩ (.bool (decide (Z < 0)))).setCell ⟨g + 1 + 1, 1, none⟩ (.slice mo ml mc))) :=
      int_done (B := w2.heap.size) rfl (by rw [HG.out]; omega) hm (Nat.lt_of_lt_of_le hsz hb2.size) (bstep (bstep (bstep hb1 (Below.refl _ _).drew) hb2) hb3)
    have HW : Hid (ICell ((w3.setCell ⟨g + 1 + 1, 0, none⟩ (.bool (decide (Z < 0)))).setCell ⟨g + 1 + 1, 1, none⟩ (.slice mo ml mc)) (g + 1 + 1) (decide (Z < 0)) (.slice mo ml mc)) := hx3.2.2.write _ _
    clear hm hb2 hb3 hx3 x2 y0 y1 f0 f1 e0 e1 c0 c1 d0 d1 HX na1 nb1 hb1 hsz
    go_wp2_with fail
    (try simp only [Exit.inBlock, Exit.then])
    exact bodyPost_ret (results_cell_row rfl _ _ (g + 1 + 1) 34 _ (0, 0) _ rfl HW.out Try.underlying34 rfl (by kernel_rfl)) rfl HE.out

/-- How a whole number is written. -/
def ztxt (neg : Bool) (n : Nat) : ByteArray := if neg = true ∧ n ≠ 0 then ⟨#[45]⟩ ++ txt n else txt n
theorem bl_pos {n : Nat} : 0 < bl n ↔ n ≠ 0 := by
  constructor
  · intro h h0; subst h0; simp [bl_zero] at h
  · intro h
    obtain ⟨m, e, _⟩ := bl_bounds h
    omega

end Go.Proofs.Ytnlajeinegampaa
