/-
  Proved here: what Norm, Neg and Mul of package whole answer.
-/
import Derived.Test.YtmcnpiajnehnlabDoorWholeD
import Derived.Test.YtmcnpiajnehnlabDoorMul
import Derived.Deep.RegionHeld3
import Derived.Deep.DrawnRows
namespace Go.Proofs.YtmcnpiajnehnlabDoor
open Go.RowKit
attribute [local go_sem ↓] Go.wp_at_zero Go.wp_at_succ

theorem keepB {w w' : World} {p : Addr} {v : Value} (hb : Below w.heap.size w w') (h : w.cell? p = some v) : w'.cell? p = some v := by
  rw [hb.cell (block_lt_of_cell h), h]
theorem keepB2 {w w' : World} {p q : Addr} {v u : Value} (hb : Below w.heap.size w w') (h : w.cell? p = some v ∧ w.cell? q = some u) : w'.cell? p = some v ∧ w'.cell? q = some u :=
  ⟨keepB hb h.1, keepB hb h.2⟩
theorem keepB4 {w w' : World} {p q r s : Addr} {v u x y : Value} (hb : Below w.heap.size w w') (h : w.cell? p = some v ∧ w.cell? q = some u ∧ w.cell? r = some x ∧ w.cell? s = some y) : w'.cell? p = some v ∧ w'.cell? q = some u ∧ w'.cell? r = some x ∧ w'.cell? s = some y :=
  ⟨keepB hb h.1, keepB hb h.2.1, keepB hb h.2.2.1, keepB hb h.2.2.2⟩
theorem keepS {w : World} {g b o k k2 : Nat} {v v2 x : Value} (hne : b ≠ g) (h : w.cell? ⟨b, o, none⟩ = some x) : ((w.setCell ⟨g, k, none⟩ v).setCell ⟨g, k2, none⟩ v2).cell? ⟨b, o, none⟩ = some x := by
  rw [← h]
  apply World.cell?_of_block
  rw [heap_setCell_other, heap_setCell_other]
  · exact hne
  · exact hne
theorem zv_mul (na nb : Bool) (x y : Nat) : zv na x * zv nb y = zv (na != nb) (x * y) := by
  cases na <;> cases nb <;> simp [zv, Int.neg_mul, Int.mul_neg]
/-- One box and the result's. -/
def Box1 (w : World) (g : Nat) (na : Bool) (ma : Value) : Prop := ICell w g na ma ∧ ICell w (g + 1) false (.slice none 0 0)
theorem Box1.below {w w' : World} {g : Nat} {na : Bool} {ma : Value} (h : Box1 w g na ma) (hb : Below w.heap.size w w') : Box1 w' g na ma := ⟨h.1.below hb, h.2.below hb⟩
theorem Box1.new (w : World) (na : Bool) (ma : Value) : Box1 ((w.alloc (.cells #[.bool na, ma] 25)).alloc (.cells #[.bool false, .slice none 0 0] 25)) w.heap.size na ma := by
  have h2 := ICell.new (w.alloc (.cells #[.bool na, ma] 25)) false (.slice none 0 0)
  have h1 := (ICell.new w na ma).below (belowA _ (.cells #[.bool false, .slice none 0 0] 25))
  rw [World.size_alloc] at h2
  exact ⟨h1, h2⟩

set_option maxRecDepth 100000 in
set_option maxHeartbeats 3200000 in
theorem wnorm_any (na : Bool) (ao : Option Addr) (al ac : Nat) (xs : List Nat) (w : World) (ha : Num w (.slice ao al ac) xs) (hlx : xs.length ≤ 1000000) :
    Calls Tryd.prog 68 #[.agg #[.bool na, .slice ao al ac]] w fun e w' => IntEnd w (zv na (val xs)) e w' := by
  obtain ⟨W1, hW1⟩ : ∃ W1, W1 = (w.alloc (.cells #[.bool na, .slice ao al ac] 25)).alloc (.cells #[.bool false, .slice none 0 0] 25) := ⟨_, rfl⟩
  have hx : Box1 W1 w.heap.size na (.slice ao al ac) := by rw [hW1]; exact Box1.new _ _ _
  have hb1 : Below w.heap.size w W1 := by rw [hW1]; exact bstep (belowA w _) (belowA _ _)
  have hsz : w.heap.size + 1 < W1.heap.size := by rw [hW1]; simp
  have na1 := ha.below (Nat.le_refl _) hb1
  have HW1 : Hid (W1 = (w.alloc (.cells #[.bool na, .slice ao al ac] 25)).alloc (.cells #[.bool false, .slice none 0 0] 25)) := hW1
  clear hW1 ha
  go_enter Tryd.func68, Tryd.ntmps68
  go_wp2_with fail
  rw [← HW1.out]
  obtain ⟨g, hg⟩ : ∃ g, g = w.heap.size := ⟨_, rfl⟩
  rw [← hg] at hx hsz ⊢
  have HG : Hid (g = w.heap.size) := hg
  obtain ⟨c0, c1⟩ := hx.1.cells
  have HX : Hid (Box1 W1 g na (.slice ao al ac)) := hx
  clear hx hg
  go_region_held3 (fun w' => w'.cell? ⟨g, 0, none⟩ = some (.bool na) ∧ w'.cell? ⟨g, 1, none⟩ = some (.slice ao al ac)) (first | go_keep | exact keepB2 (by with_reducible assumption) (by with_reducible assumption)) (first
    | (go_at_call 40; refine (norm_any _ _ _ (na1.same (w' := W1.drew) rfl) (by omega)).mono ?_; rintro e w2 ⟨m, rfl, hm, hb2⟩; obtain ⟨mo, ml, mc, rfl⟩ := hm.sl)
    | (go_at_call 28; refine (signed_any _ _ _ _ hm.num).mono ?_; rintro e w3 ⟨rfl, hb3⟩; rw [sign_eq]; have hx3 := ((show Box1 W1.drew g na (.slice ao al ac) from HX.out).below hb2).below hb3; have x0 := hx3.2.cells.1; have x1 := hx3.2.cells.2; have f0 := hx3.2.thaw 0; have f1 := hx3.2.thaw 1))
  all_goals
    have HE : Hid (IntEnd w (zv na (val xs)) (.returned (.agg #[.bool (decide (zv na (val xs) < 0)), .slice mo ml mc])) ((w3.setCell ⟨g + 1, 0, none⟩ (.bool (decide (zv na (val xs) < 0)))).setCell ⟨g + 1, 1, none⟩ (.slice mo ml mc))) :=
      int_done (B := W1.drew.heap.size) rfl (by rw [HG.out]; omega) (by rw [zv_abs]; exact hm.below hb3) hsz (bstep (bstep (bstep hb1 (Below.refl _ _).drew) hb2) hb3)
    have HW : Hid (ICell ((w3.setCell ⟨g + 1, 0, none⟩ (.bool (decide (zv na (val xs) < 0)))).setCell ⟨g + 1, 1, none⟩ (.slice mo ml mc)) (g + 1) (decide (zv na (val xs) < 0)) (.slice mo ml mc)) := hx3.2.write _ _
    clear hm hb2 hb3 hx3 x0 x1 f0 f1 c0 c1 HX na1 hb1 hsz
    go_wp2_with fail
    (try simp only [Exit.inBlock, Exit.then])
    exact bodyPost_ret (results_cell_row rfl _ _ (g + 1) 25 _ (0, 0) _ rfl HW.out Tryd.underlying25 rfl (by kernel_rfl)) rfl HE.out
end Go.Proofs.YtmcnpiajnehnlabDoor
