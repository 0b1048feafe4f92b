/-
  Proved here: WholeNames returns true, and writes nothing that was there.
-/
import Derived.Test.YtboohobkjhianacDoorWholeD
namespace Go.Proofs.YtboohobkjhianacDoor
open Go.RowKit

theorem ztxt_m2 : ztxt true 2 = ⟨#[45, 50]⟩ := by kernel_rfl

set_option maxRecDepth 100000 in
set_option maxHeartbeats 3200000 in
theorem wholeNames_top (w1 : World) : Calls Tryd.prog 5 #[] w1 fun e w' => e = .returned (.bool true) ∧ Below w1.heap.size w1 w' := by
  go_enter Tryd.func5, Tryd.ntmps5
  go_wp2_with fail
  refine (wof_any 5 _ (by decide) (by decide)).mono ?_
  rintro e w2 ⟨m, rfl, hm, hb2⟩
  obtain ⟨mo, ml, mc, rfl⟩ := hm.sl
  rw [show decide ((5 : Int) < 0) = false from rfl]
  replace hm := hm.num
  go_wp2_with fail
  refine (wof_any 7 _ (by decide) (by decide)).mono ?_
  rintro e w3 ⟨k, rfl, hk, hb3⟩
  obtain ⟨ko, kl, kc, rfl⟩ := hk.sl
  rw [show decide ((7 : Int) < 0) = false from rfl]
  replace hk := hk.num
  replace hm := hm.below (Nat.le_refl _) hb3
  go_wp2_with fail
  refine (wsub_any _ _ _ _ _ _ _ _ _ _ _ hm hk (by decide) (by decide)).mono ?_
  rintro e w4 ⟨d, rfl, hd, hb4⟩
  obtain ⟨po, pl, pc, rfl⟩ := hd.sl
  rw [show decide (zv false (val (lim (Int.natAbs 5))) - zv false (val (lim (Int.natAbs 7))) < 0) = true by rw [val_lim, val_lim]; rfl]
  rw [show (zv false (val (lim (Int.natAbs 5))) - zv false (val (lim (Int.natAbs 7)))).natAbs = 2 by rw [val_lim, val_lim]; rfl] at hd
  replace hd := hd.num
  have hb := bstep (bstep hb2 hb3) hb4
  clear hm hk hb2 hb3 hb4
  go_wp2_with fail
  refine (wtext_any _ _ _ _ _ _ hd (by decide)).mono ?_
  rintro e w5 ⟨rfl, hb5⟩
  rw [val_lim, ztxt_m2]
  have HE : Hid (Below w1.heap.size w1 w5) := bstep hb hb5
  clear hd hb hb5
  go_wp2_with fail
  go_ret
  exact ⟨rfl, HE.out⟩
end Go.Proofs.YtboohobkjhianacDoor
