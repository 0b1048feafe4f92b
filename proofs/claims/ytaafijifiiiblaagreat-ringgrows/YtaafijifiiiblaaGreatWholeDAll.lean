/-
  Proved here: what Add of package whole answers.
  Proved here: how long a number's text is.
  Proved here: what Sub and Text of package whole answer.
-/
import Derived.Test.YtaafijifiiiblaaGreatWholeBAll
import Derived.RegionTactic
namespace Go.Proofs.YtaafijifiiiblaaGreat
open Go.RowKit

theorem zv_add (n : Bool) (x y : Nat) : zv n x + zv n y = zv n (x + y) := by cases n <;> simp [zv] <;> omega
theorem zv_sub {n k : Bool} {x y : Nat} (h : n ≠ k) (hle : y ≤ x) : zv n x + zv k y = zv n (x - y) := by
  cases n <;> cases k <;> simp [zv] at h ⊢ <;> omega
theorem zv_sub' {n k : Bool} {x y : Nat} (h : n ≠ k) (hle : x ≤ y) : zv n x + zv k y = zv k (y - x) := by
  cases n <;> cases k <;> simp [zv] at h ⊢ <;> omega
/-- The two boxes and the result's. -/
def Boxes (w : World) (g : Nat) (na nb : Bool) (ma mb : Value) : Prop := ICell w g na ma ∧ ICell w (g + 1) nb mb ∧ ICell w (g + 1 + 1) false (.slice none 0 0)
theorem Boxes.below {w w' : World} {g : Nat} {na nb : Bool} {ma mb : Value} (h : Boxes w g na nb ma mb) (hb : Below w.heap.size w w') : Boxes w' g na nb ma mb := ⟨h.1.below hb, h.2.1.below hb, h.2.2.below hb⟩
theorem Boxes.new (w : World) (na nb : Bool) (ma mb : Value) : Boxes (((w.alloc (.cells #[.bool na, ma] 25)).alloc (.cells #[.bool nb, mb] 25)).alloc (.cells #[.bool false, .slice none 0 0] 25)) w.heap.size na nb ma mb := by
  have h3 := ICell.new ((w.alloc (.cells #[.bool na, ma] 25)).alloc (.cells #[.bool nb, mb] 25)) false (.slice none 0 0)
  have h2 := (ICell.new (w.alloc (.cells #[.bool na, ma] 25)) nb mb).below (belowA _ (.cells #[.bool false, .slice none 0 0] 25))
  have h1 := ((ICell.new w na ma).below (belowA _ (.cells #[.bool nb, mb] 25))).below (belowA _ (.cells #[.bool false, .slice none 0 0] 25))
  rw [World.size_alloc] at h2
  rw [World.size_alloc, World.size_alloc] at h3
  exact ⟨h1, h2, h3⟩

set_option maxRecDepth 100000 in
set_option maxHeartbeats 3200000 in
theorem wadd_any (na nb : Bool) (ao bo : Option Addr) (al ac bl_ bc : Nat) (xs ys : List Nat) (w : World) (ha : Num w (.slice ao al ac) xs) (hb : Num w (.slice bo bl_ bc) ys) (hlx : xs.length ≤ 1000000) (hly : ys.length ≤ 1000000) :
    Calls Tryz.prog 93 #[.agg #[.bool na, .slice ao al ac], .agg #[.bool nb, .slice bo bl_ bc]] w fun e w' => IntEnd w (zv na (val xs) + zv nb (val ys)) e w' := by
  obtain ⟨W1, hW1⟩ : ∃ W1, W1 = ((w.alloc (.cells #[.bool na, .slice ao al ac] 25)).alloc (.cells #[.bool nb, .slice bo bl_ bc] 25)).alloc (.cells #[.bool false, .slice none 0 0] 25) := ⟨_, rfl⟩
  have hx : Boxes W1 w.heap.size na nb (.slice ao al ac) (.slice bo bl_ bc) := by rw [hW1]; exact Boxes.new _ _ _ _ _
  have hb1 : Below w.heap.size w W1 := by rw [hW1]; exact bstep (bstep (belowA w _) (belowA _ _)) (belowA _ _)
  have hsz : w.heap.size + 1 + 1 < W1.heap.size := by rw [hW1]; simp
  have na1 := ha.below (Nat.le_refl _) hb1
  have nb1 := hb.below (Nat.le_refl _) hb1
  have HW1 : Hid (W1 = ((w.alloc (.cells #[.bool na, .slice ao al ac] 25)).alloc (.cells #[.bool nb, .slice bo bl_ bc] 25)).alloc (.cells #[.bool false, .slice none 0 0] 25)) := hW1
  clear hW1 ha hb
  go_enter Tryz.func93, Tryz.ntmps93
  by_cases hs : na = nb
  · subst hs
    have hbq : (na == na) = true := by simp
    go_wp2_with fail
    rw [← HW1.out]
    obtain ⟨g, hg⟩ : ∃ g, g = w.heap.size := ⟨_, rfl⟩
    rw [← hg] at hx hsz ⊢
    have HG : Hid (g = w.heap.size) := hg
    obtain ⟨c0, c1⟩ := hx.1.cells
    obtain ⟨d0, d1⟩ := hx.2.1.cells
    have HX : Hid (Boxes W1 g na na (.slice ao al ac) (.slice bo bl_ bc)) := hx
    clear hx hg
    go_region_with (first
      | (go_at_call 116; refine (add_any _ _ _ _ _ (na1.same (w' := W1.drew) rfl) (nb1.same (w' := W1.drew) rfl) (by omega) (by omega)).mono ?_; rintro e w2 ⟨m, rfl, hm, hb2⟩; obtain ⟨mo, ml, mc, rfl⟩ := hm.sl; have e0 := ((show Boxes W1.drew g na na (.slice ao al ac) (.slice bo bl_ bc) from HX.out).below hb2).1.cells.1)
      | (go_at_call 112; refine (signed_any _ _ _ _ hm.num).mono ?_; rintro e w3 ⟨rfl, hb3⟩; rw [sign_eq]; have hx3 := ((show Boxes W1.drew g na na (.slice ao al ac) (.slice bo bl_ bc) from HX.out).below hb2).below hb3; have x0 := hx3.2.2.cells.1; have x1 := hx3.2.2.cells.2; have f0 := hx3.2.2.thaw 0; have f1 := hx3.2.2.thaw 1))
    all_goals
      have HE : Hid (IntEnd w (zv na (val xs) + zv na (val ys)) (.returned (.agg #[.bool (decide (zv na (val xs + val ys) < 0)), .slice mo ml mc])) ((w3.setCell ⟨g + 1 + 1, 0, none⟩ (.bool (decide (zv na (val xs + val ys) < 0)))).setCell ⟨g + 1 + 1, 1, none⟩ (.slice mo ml mc))) :=
        int_done (B := W1.drew.heap.size) (by rw [zv_add]) (by rw [HG.out]; omega) (by rw [zv_add, zv_abs]; exact hm.below hb3) hsz (bstep (bstep (bstep hb1 (Below.refl _ _).drew) hb2) hb3)
      have HW : Hid (ICell ((w3.setCell ⟨g + 1 + 1, 0, none⟩ (.bool (decide (zv na (val xs + val ys) < 0)))).setCell ⟨g + 1 + 1, 1, none⟩ (.slice mo ml mc)) (g + 1 + 1) (decide (zv na (val xs + val ys) < 0)) (.slice mo ml mc)) := hx3.2.2.write _ _
      clear hm hb2 hb3 hx3 x0 x1 f0 f1 e0 c0 c1 d0 d1 HX na1 nb1 hb1 hsz
      go_wp2_with fail
      (try simp only [Exit.inBlock, Exit.then])
      exact bodyPost_ret (results_cell_row rfl _ _ (g + 1 + 1) 25 _ (0, 0) _ rfl HW.out Tryz.underlying25 rfl (by kernel_rfl)) rfl HE.out
  · have hbq : (na == nb) = false := by cases na <;> cases nb <;> simp at hs ⊢
    obtain ⟨g, hg⟩ : ∃ g, g = w.heap.size := ⟨_, rfl⟩
    rw [← hg] at hx hsz
    have HG : Hid (g = w.heap.size) := hg
    have HX : Hid (Boxes W1 g na nb (.slice ao al ac) (.slice bo bl_ bc)) := hx
    obtain ⟨c0, c1⟩ := hx.1.cells
    obtain ⟨d0, d1⟩ := hx.2.1.cells
    go_wp2_with fail
    rw [← HW1.out, ← hg]
    clear hx hg
    refine (sub_all _ _ _ _ _ na1 nb1 (by omega) (by omega)).mono ?_
    rintro e w2 ⟨m, rfl, hm, hb2⟩
    obtain ⟨mo, ml, mc, rfl⟩ := hm.sl
    have HX2 : Hid (Boxes w2 g na nb (.slice ao al ac) (.slice bo bl_ bc)) := HX.out.below hb2
    have hb12 := bstep hb1 hb2
    have hsz2 : g + 1 + 1 < w2.heap.size := Nat.lt_of_lt_of_le hsz hb2.size
    have na2 := na1.below (Nat.le_refl _) hb2
    have nb2 := nb1.below (Nat.le_refl _) hb2
    obtain ⟨p0, p1⟩ := HX2.out.1.cells
    obtain ⟨q0, q1⟩ := HX2.out.2.1.cells
    clear c0 c1 d0 d1
    by_cases hle : val ys ≤ val xs
    · rw [show leB (val ys) (val xs) = true from decide_eq_true hle]
      go_wp2_with fail
      refine (signed_any _ _ _ _ hm.num).mono ?_
      rintro e w3 ⟨rfl, hb3⟩
      rw [sign_eq]
      have hx3 := HX2.out.below hb3
      have HE : Hid (IntEnd w (zv na (val xs) + zv nb (val ys)) (.returned (.agg #[.bool (decide (zv na (val xs - val ys) < 0)), .slice mo ml mc])) ((w3.setCell ⟨g + 1 + 1, 0, none⟩ (.bool (decide (zv na (val xs - val ys) < 0)))).setCell ⟨g + 1 + 1, 1, none⟩ (.slice mo ml mc))) :=
        int_done (B := W1.heap.size) (by rw [zv_sub hs hle]) (by rw [HG.out]; omega) (by rw [zv_sub hs hle, zv_abs]; exact hm.below hb3) hsz (bstep hb12 hb3)
      have HW : Hid (ICell ((w3.setCell ⟨g + 1 + 1, 0, none⟩ (.bool (decide (zv na (val xs - val ys) < 0)))).setCell ⟨g + 1 + 1, 1, none⟩ (.slice mo ml mc)) (g + 1 + 1) (decide (zv na (val xs - val ys) < 0)) (.slice mo ml mc)) := hx3.2.2.write _ _
      obtain ⟨x0, x1⟩ := hx3.2.2.cells
      have f0 := hx3.2.2.thaw 0
      have f1 := hx3.2.2.thaw 1
      generalize decide (zv na (val xs - val ys) < 0) = bb at *
      clear hm hb2 hb3 hx3 HX HX2 na1 nb1 na2 nb2 hb1 hb12 hsz hsz2 p0 p1 q0 q1
      go_wp2_with fail
      (try simp only [Exit.inBlock, Exit.then])
      exact bodyPost_ret (results_cell_row rfl _ _ (g + 1 + 1) 25 _ (0, 0) _ rfl HW.out Tryz.underlying25 rfl (by kernel_rfl)) rfl HE.out
    · rw [show leB (val ys) (val xs) = false from decide_eq_false hle]
      go_wp2_with fail
      refine (sub_all _ _ _ _ _ nb2 na2 (by omega) (by omega)).mono ?_
      rintro e w3 ⟨m2, rfl, hm2, hb3⟩
      rw [show leB (val xs) (val ys) = true from decide_eq_true (by omega)]
      obtain ⟨ko, kl, kc, rfl⟩ := hm2.sl
      have HX3 : Hid (Boxes w3 g na nb (.slice ao al ac) (.slice bo bl_ bc)) := HX2.out.below hb3
      have hb13 := bstep hb12 hb3
      obtain ⟨r0, r1⟩ := HX3.out.2.1.cells
      clear p0 p1 q0 q1 hm na2 nb2
      go_wp2_with fail
      refine (signed_any _ _ _ _ hm2.num).mono ?_
      rintro e w4 ⟨rfl, hb4⟩
      rw [sign_eq]
      have hx4 := HX3.out.below hb4
      have HE : Hid (IntEnd w (zv na (val xs) + zv nb (val ys)) (.returned (.agg #[.bool (decide (zv nb (val ys - val xs) < 0)), .slice ko kl kc])) ((w4.setCell ⟨g + 1 + 1, 0, none⟩ (.bool (decide (zv nb (val ys - val xs) < 0)))).setCell ⟨g + 1 + 1, 1, none⟩ (.slice ko kl kc))) :=
        int_done (B := w2.heap.size) (by rw [zv_sub' hs (by omega)]) (by rw [HG.out]; omega) (by rw [zv_sub' hs (by omega), zv_abs]; exact hm2.below hb4) hsz2 (bstep hb13 hb4)
      have HW : Hid (ICell ((w4.setCell ⟨g + 1 + 1, 0, none⟩ (.bool (decide (zv nb (val ys - val xs) < 0)))).setCell ⟨g + 1 + 1, 1, none⟩ (.slice ko kl kc)) (g + 1 + 1) (decide (zv nb (val ys - val xs) < 0)) (.slice ko kl kc)) := hx4.2.2.write _ _
      obtain ⟨x0, x1⟩ := hx4.2.2.cells
      have f0 := hx4.2.2.thaw 0
      have f1 := hx4.2.2.thaw 1
      generalize decide (zv nb (val ys - val xs) < 0) = bb at *
      clear hm2 hb2 hb3 hb4 hx4 HX HX2 HX3 na1 nb1 hb1 hb12 hb13 hsz hsz2 r0 r1
      go_wp2_with fail
      (try simp only [Exit.inBlock, Exit.then])
      exact bodyPost_ret (results_cell_row rfl _ _ (g + 1 + 1) 25 _ (0, 0) _ rfl HW.out Tryz.underlying25 rfl (by kernel_rfl)) rfl HE.out
end Go.Proofs.YtaafijifiiiblaaGreat

namespace Go.Proofs.YtaafijifiiiblaaGreat

end Go.Proofs.YtaafijifiiiblaaGreat

namespace Go.Proofs.YtaafijifiiiblaaGreat
open Go.RowKit

theorem zv_neg (n : Bool) (x : Nat) : -(zv n x) = zv (!n) x := by cases n <;> simp [zv]

theorem bl_pos {n : Nat} : 0 < bl n ↔ n ≠ 0 := by
  constructor
  · intro h h0; subst h0; simp [bl_zero] at h
  · intro h
    obtain ⟨m, e, _⟩ := bl_bounds h
    omega

end Go.Proofs.YtaafijifiiiblaaGreat
