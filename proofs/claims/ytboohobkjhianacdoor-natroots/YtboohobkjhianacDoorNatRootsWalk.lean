/-
  Proved here: NatRoots of any number returns true, and writes nothing that was there.
-/
import Derived.Test.YtboohobkjhianacDoorAlive
import Derived.Test.YtboohobkjhianacDoorBase0
namespace Go.Proofs.YtboohobkjhianacDoor
open Go.RowKit

set_option maxRecDepth 100000 in
set_option maxHeartbeats 8000000 in
theorem natRoots_top (vx : Value) (xs : List Nat) (w1 : World) (hx : Num w1 vx xs) :
    Calls Tryd.prog 3 #[vx] w1 fun e w' => e = .returned (.bool true) ∧ Below w1.heap.size w1 w' := by
  have b1 : Below w1.heap.size w1 w1 := Below.refl _ _
  go_enter Tryd.func3, Tryd.ntmps3
  go_wp2_with fail
  refine (alive_yes _).mono ?_
  rintro e w2 ⟨rfl, hb⟩
  replace hx := hx.below (Nat.le_refl _) hb
  replace b1 := bstep b1 hb
  clear hb
  go_wp2_with fail
  refine (cut_any _ _ 40 _ hx (by decide)).mono ?_
  rintro e w3 ⟨rfl, rfl⟩
  have nhx := hx.cut (k := min 40 xs.length) (Nat.min_le_right _ _)
  have lhx : (xs.take (min 40 xs.length)).length ≤ 40 := by simp; omega
  generalize xs.take (min 40 xs.length) = xs_ at *
  generalize cutTo vx (min 40 xs.length) = vx_ at *
  clear hx
  have shhx := lim_short nhx
  go_wp2_with fail
  refine (norm_any _ _ _ nhx (by omega)).mono ?_
  rintro e w4 ⟨a, rfl, na, hb⟩
  replace na := na.num
  obtain ⟨A, hA⟩ : ∃ A, A = val xs_ := ⟨_, rfl⟩
  rw [← hA] at na shhx
  replace b1 := bstep b1 hb
  clear hb nhx
  replace shhx : (lim A).length ≤ 40 := by omega
  clear hA lhx
  go_wp2_with fail
  refine (root_any _ _ _ na (by omega)).mono ?_
  rintro e w5 ⟨r, rv, rfl, hr, nr, hb⟩
  rw [val_lim] at hr
  replace nr := nr.num
  have HR : Hid (IsRoot r A) := hr
  clear hr
  replace na := na.below (Nat.le_refl _) hb
  replace b1 := bstep b1 hb
  clear hb
  have lr : (lim r).length ≤ 40 := Nat.le_trans (lim_len_of_lt (root_le HR.out.1)) shhx
  have lr1 := lim_succ_len r
  have l1 := lit1 w5 1 (by decide)
  go_wp2_with fail
  refine (add_any _ _ _ _ _ (nr.alloc _) l1 (by omega) (by simp)).mono ?_
  rintro e w6 ⟨n, rfl, nn, hb⟩
  rw [val_lim, show val [1] = 1 from rfl] at nn
  replace nn := nn.num
  clear l1
  replace hb := bstep (belowA w5 (.cells #[.int .u32 1] 28)) hb
  replace na := na.below (Nat.le_refl _) hb
  replace nr := nr.below (Nat.le_refl _) hb
  replace b1 := bstep b1 hb
  clear hb
  go_wp2_with fail
  refine (mul_any _ _ _ _ _ nr nr (by omega) (by omega)).mono ?_
  rintro e w7 ⟨m, rfl, nm, hb⟩
  rw [val_lim] at nm
  replace nm := nm.num
  replace na := na.below (Nat.le_refl _) hb
  replace nn := nn.below (Nat.le_refl _) hb
  replace b1 := bstep b1 hb
  clear hb nr
  go_wp2_with fail
  refine (cmp_any _ _ _ _ _ nm na).mono ?_
  rintro e w8 ⟨rfl, kk, hk⟩
  rw [val_lim, val_lim]
  have hb := belowK hk
  replace na := na.below (Nat.le_refl _) hb
  replace nn := nn.below (Nat.le_refl _) hb
  replace b1 := bstep b1 hb
  clear hb hk nm
  obtain ⟨c, hc⟩ : ∃ c, c = cmpN (r * r) A := ⟨_, rfl⟩
  have hc0 : c ≤ 0 := by have h1 := HR.out.1; rcases cmpN_cases (r * r) A with h | h | h <;> omega
  rw [← hc]
  clear hc
  go_wp2_with fail
  refine (mul_any _ _ _ _ _ nn nn (by omega) (by omega)).mono ?_
  rintro e w9 ⟨m, rfl, nm, hb⟩
  rw [val_lim] at nm
  replace nm := nm.num
  replace na := na.below (Nat.le_refl _) hb
  replace b1 := bstep b1 hb
  clear hb nn
  go_wp2_with fail
  refine (cmp_any _ _ _ _ _ nm na).mono ?_
  rintro e w10 ⟨rfl, kk, hk⟩
  rw [val_lim, val_lim, cmpN_gt HR.out.2]
  have hb := belowK hk
  replace na := na.below (Nat.le_refl _) hb
  replace b1 := bstep b1 hb
  clear hb hk nm
  go_wp2_with fail
  refine (mul_any _ _ _ _ _ na na (by omega) (by omega)).mono ?_
  rintro e w11 ⟨m, rfl, nm, hb⟩
  rw [val_lim] at nm
  replace nm := nm.num
  replace na := na.below (Nat.le_refl _) hb
  replace b1 := bstep b1 hb
  clear hb
  have lm := prod_len shhx shhx
  go_wp2_with fail
  refine (root_any _ _ _ nm (by omega)).mono ?_
  rintro e w12 ⟨r2, rv2, rfl, hr2, nr2, hb⟩
  rw [val_lim] at hr2
  rw [hr2.unique (show IsRoot A (A * A) from ⟨Nat.le_refl _, by rw [Nat.add_mul, Nat.mul_add]; omega⟩)] at nr2
  replace nr2 := nr2.num
  clear hr2
  replace na := na.below (Nat.le_refl _) hb
  replace b1 := bstep b1 hb
  clear hb nm
  go_wp2_with fail
  refine (lsame_any _ _ _ _ _ nr2 na).mono ?_
  rintro e w13 ⟨rfl, kk, hk⟩
  rw [show decide (lim A = lim A) = true from decide_eq_true rfl]
  have hb := belowK hk
  replace na := na.below (Nat.le_refl _) hb
  replace b1 := bstep b1 hb
  clear hb hk nr2
  have HE : Hid (Below w1.heap.size w1 w13) := b1
  clear na b1
  go_wp2_with fail
  go_ret
  exact ⟨rfl, HE.out⟩
end Go.Proofs.YtboohobkjhianacDoor
