/-
  Proved here: what Mul of package whole answers.
-/
import Derived.Test.YtmcnpiajnehnlabDoorWholeE
namespace Go.Proofs.YtmcnpiajnehnlabDoor
open Go.RowKit
attribute [local go_sem ↓] Go.wp_at_zero Go.wp_at_succ

set_option maxRecDepth 100000 in
set_option maxHeartbeats 3200000 in
theorem wmul_any (na nb : Bool) (ao bo : Option Addr) (al ac bl_ bc : Nat) (xs ys : List Nat) (w : World) (ha : Num w (.slice ao al ac) xs) (hb : Num w (.slice bo bl_ bc) ys) (hlx : xs.length ≤ 1000000) (hly : ys.length ≤ 1000000) :
    Calls Tryd.prog 14 #[.agg #[.bool na, .slice ao al ac], .agg #[.bool nb, .slice bo bl_ bc]] w fun e w' => IntEnd w (zv na (val xs) * zv nb (val ys)) e w' := by
  obtain ⟨W1, hW1⟩ : ∃ W1, W1 = ((w.alloc (.cells #[.bool na, .slice ao al ac] 25)).alloc (.cells #[.bool nb, .slice bo bl_ bc] 25)).alloc (.cells #[.bool false, .slice none 0 0] 25) := ⟨_, rfl⟩
  have hx : Boxes W1 w.heap.size na nb (.slice ao al ac) (.slice bo bl_ bc) := by rw [hW1]; exact Boxes.new _ _ _ _ _
  have hb1 : Below w.heap.size w W1 := by rw [hW1]; exact bstep (bstep (belowA w _) (belowA _ _)) (belowA _ _)
  have hsz : w.heap.size + 1 + 1 < W1.heap.size := by rw [hW1]; simp
  have na1 := ha.below (Nat.le_refl _) hb1
  have nb1 := hb.below (Nat.le_refl _) hb1
  have HW1 : Hid (W1 = ((w.alloc (.cells #[.bool na, .slice ao al ac] 25)).alloc (.cells #[.bool nb, .slice bo bl_ bc] 25)).alloc (.cells #[.bool false, .slice none 0 0] 25)) := hW1
  clear hW1 ha hb
  obtain ⟨Z, hZ⟩ : ∃ Z, Z = zv na (val xs) * zv nb (val ys) := ⟨_, rfl⟩
  have HZ : Hid (zv (na != nb) (val xs * val ys) = Z) := by show _ = _; rw [hZ, zv_mul]
  rw [← hZ]
  clear hZ
  go_enter Tryd.func14, Tryd.ntmps14
  go_wp2_with fail
  rw [← HW1.out]
  obtain ⟨g, hg⟩ : ∃ g, g = w.heap.size := ⟨_, rfl⟩
  rw [← hg] at hx hsz ⊢
  have HG : Hid (g = w.heap.size) := hg
  obtain ⟨c0, c1⟩ := hx.1.cells
  obtain ⟨d0, d1⟩ := hx.2.1.cells
  have HX : Hid (Boxes W1 g na nb (.slice ao al ac) (.slice bo bl_ bc)) := hx
  obtain ⟨nn, hnn⟩ : ∃ nn, (!na == nb) = nn := ⟨_, rfl⟩
  have HN : Hid ((na != nb) = nn) := by show _ = _; rw [← hnn]; rfl
  clear hx hg
  have hne : ¬ g = g + 1 + 1 := by omega
  go_region_held3 (fun w' => w'.cell? ⟨g, 0, none⟩ = some (.bool na) ∧ w'.cell? ⟨g, 1, none⟩ = some (.slice ao al ac) ∧ w'.cell? ⟨g + 1, 0, none⟩ = some (.bool nb) ∧ w'.cell? ⟨g + 1, 1, none⟩ = some (.slice bo bl_ bc)) (((try dsimp only); go_split_ands; refine ⟨?_, ?_, ?_, ?_⟩ <;> first | exact keepB (by with_reducible assumption) (by with_reducible assumption) | exact keepS (by omega) (by with_reducible assumption) | go_keep)) (first
    | (go_at_call 31; refine (mul_any _ _ _ _ _ (na1.same (w' := W1.drew) rfl) (nb1.same (w' := W1.drew) rfl) (by omega) (by omega)).mono ?_; rintro e w2 ⟨m, rfl, hm, hb2⟩; obtain ⟨mo, ml, mc, rfl⟩ := hm.sl)
    | (go_at_call 28; refine (signed_any _ _ _ _ hm.num).mono ?_; rintro e w3 ⟨rfl, hb3⟩; rw [sign_eq]; have hx3 := ((show Boxes W1.drew g na nb (.slice ao al ac) (.slice bo bl_ bc) from HX.out).below hb2).below hb3; have x0 := hx3.2.2.cells.1; have x1 := hx3.2.2.cells.2; have f0 := hx3.2.2.thaw 0; have f1 := hx3.2.2.thaw 1))
  all_goals
    have HS : Hid (zv nn (val xs * val ys) = Z) := by show _ = _; rw [← HN.out]; exact HZ.out
    rw [HS.out]
    have HE : Hid (IntEnd w Z (.returned (.agg #[.bool (decide (Z < 0)), .slice mo ml mc])) ((w3.setCell ⟨g + 1 + 1, 0, none⟩ (.bool (decide (Z < 0)))).setCell ⟨g + 1 + 1, 1, none⟩ (.slice mo ml mc))) :=
      int_done (B := W1.drew.heap.size) rfl (by rw [HG.out]; omega) (by rw [← HS.out, zv_abs]; exact hm.below hb3) hsz (bstep (bstep (bstep hb1 (Below.refl _ _).drew) hb2) hb3)
    have HW : Hid (ICell ((w3.setCell ⟨g + 1 + 1, 0, none⟩ (.bool (decide (Z < 0)))).setCell ⟨g + 1 + 1, 1, none⟩ (.slice mo ml mc)) (g + 1 + 1) (decide (Z < 0)) (.slice mo ml mc)) := hx3.2.2.write _ _
    clear hm hb2 hb3 hx3 x0 x1 f0 f1 c0 c1 d0 d1 HX na1 nb1 hb1 hsz
    go_wp2_with fail
    (try simp only [Exit.inBlock, Exit.then])
    exact bodyPost_ret (results_cell_row rfl _ _ (g + 1 + 1) 25 _ (0, 0) _ rfl HW.out Tryd.underlying25 rfl (by kernel_rfl)) rfl HE.out
end Go.Proofs.YtmcnpiajnehnlabDoor
