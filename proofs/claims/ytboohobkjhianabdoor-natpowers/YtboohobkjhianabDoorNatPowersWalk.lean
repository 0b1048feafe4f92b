/-
  Proved here: NatPowers of any number and any two ints returns true, and writes nothing that was there.
-/
import Derived.Test.YtboohobkjhianabDoorAlive
import Derived.Test.YtboohobkjhianabDoorBase
import Derived.Test.YtboohobkjhianabDoorBound
import Derived.Test.YtboohobkjhianabDoorShift
namespace Go.Proofs.YtboohobkjhianabDoor
open Go.RowKit

theorem lim_same' {a b : Nat} (h : a = b) : decide (lim a = lim b) = true := decide_eq_true (by rw [h])

set_option maxRecDepth 100000 in
set_option maxHeartbeats 8000000 in
theorem natPowers_top (vx : Value) (xs : List Nat) (m n : Int) (w1 : World) (hx : Num w1 vx xs) (_hm : (Lit.int .i64 m).wf = true) (_hn : (Lit.int .i64 n).wf = true) :
    Calls Tryd.prog 7 #[vx, .int .i64 m, .int .i64 n] w1 fun e w' => e = .returned (.bool true) ∧ Below w1.heap.size w1 w' := by
  have b1 : Below w1.heap.size w1 w1 := Below.refl _ _
  go_enter Tryd.func7, Tryd.ntmps7
  go_wp2_with fail
  refine (alive_yes _).mono ?_
  rintro e w2 ⟨rfl, hb⟩
  replace hx := hx.below (Nat.le_refl _) hb
  replace b1 := bstep b1 hb
  clear hb
  go_wp2_with fail
  refine (cut_any _ _ 20 _ hx (by decide)).mono ?_
  rintro e w3 ⟨rfl, rfl⟩
  have nhx := hx.cut (k := min 20 xs.length) (Nat.min_le_right _ _)
  have lhx : (xs.take (min 20 xs.length)).length ≤ 20 := by simp; omega
  generalize xs.take (min 20 xs.length) = xs_ at *
  generalize cutTo vx (min 20 xs.length) = vx_ at *
  clear hx
  have shhx := lim_short nhx
  go_wp2_with fail
  refine (norm_any _ _ _ nhx (by omega)).mono ?_
  rintro e w4 ⟨a, rfl, na, hb⟩
  replace na := na.num
  obtain ⟨A, hA⟩ : ∃ A, A = val xs_ := ⟨_, rfl⟩
  rw [← hA] at na shhx
  replace b1 := bstep b1 hb
  clear hb nhx
  replace shhx : (lim A).length ≤ 20 := by omega
  clear hA lhx
  obtain ⟨M, hM⟩ : ∃ M, M = 32 * 20 := ⟨_, rfl⟩
  have HA : Hid (A < 2 ^ M) := lim_bits shhx hM
  have hM2 : M ≤ 640 := by omega
  clear hM
  go_wp2_with fail
  refine (bound_any m 100 _ (by decide)).mono ?_
  rintro e w5 ⟨⟨i, rfl, hi⟩, rfl⟩
  go_wp2_with fail
  refine (bound_any n 100 _ (by decide)).mono ?_
  rintro e w6 ⟨⟨k, rfl, hk⟩, rfl⟩
  have hBp : bl (A ^ i) ≤ 262144 := pow_small HA.out hM2 (by omega)
  have Lp : (lim (A ^ i)).length ≤ 8192 := len_of_bl (by omega)
  have hPp := pow_any _ _ (i) _ na (by omega) (by omega)
  rw [val_lim] at hPp
  go_wp2_with fail
  refine (hPp).mono ?_
  rintro e w7 ⟨hok, _, hb⟩
  obtain ⟨p, rfl, np⟩ := hok (by omega)
  replace np := np.num
  clear hok hPp
  replace na := na.below (Nat.le_refl _) hb
  replace b1 := bstep b1 hb
  clear hb
  have hBq : bl (A ^ k) ≤ 262144 := pow_small HA.out hM2 (by omega)
  have Lq : (lim (A ^ k)).length ≤ 8192 := len_of_bl (by omega)
  have hPq := pow_any _ _ (k) _ na (by omega) (by omega)
  rw [val_lim] at hPq
  go_wp2_with fail
  refine (hPq).mono ?_
  rintro e w8 ⟨hok, _, hb⟩
  obtain ⟨q, rfl, nq⟩ := hok (by omega)
  replace nq := nq.num
  clear hok hPq
  replace na := na.below (Nat.le_refl _) hb
  replace np := np.below (Nat.le_refl _) hb
  replace b1 := bstep b1 hb
  clear hb
  have hBr : bl (A ^ (i + k)) ≤ 262144 := pow_small HA.out hM2 (by omega)
  have Lr : (lim (A ^ (i + k))).length ≤ 8192 := len_of_bl (by omega)
  have hPr := pow_any _ _ (i + k) _ na (by omega) (by omega)
  rw [val_lim] at hPr
  rw [Int.natCast_add] at hPr
  go_wp2_with fail
  refine (hPr).mono ?_
  rintro e w9 ⟨hok, _, hb⟩
  obtain ⟨r, rfl, nr⟩ := hok (by omega)
  replace nr := nr.num
  clear hok hPr
  replace na := na.below (Nat.le_refl _) hb
  replace np := np.below (Nat.le_refl _) hb
  replace nq := nq.below (Nat.le_refl _) hb
  replace b1 := bstep b1 hb
  clear hb
  go_wp2_with fail
  refine (mul_any _ _ _ _ _ np nq (by omega) (by omega)).mono ?_
  rintro e w10 ⟨t, rfl, nt, hb⟩
  rw [val_lim, val_lim] at nt
  replace nt := nt.num
  replace na := na.below (Nat.le_refl _) hb
  replace nr := nr.below (Nat.le_refl _) hb
  replace b1 := bstep b1 hb
  clear hb np nq
  go_wp2_with fail
  refine (lsame_any _ _ _ _ _ nt nr).mono ?_
  rintro e w11 ⟨rfl, kk, hk⟩
  rw [show decide (lim (A ^ i * A ^ k) = lim (A ^ (i + k))) = true from lim_same' (Nat.pow_add A i k).symm]
  have hb := belowK hk
  replace na := na.below (Nat.le_refl _) hb
  replace b1 := bstep b1 hb
  clear hb hk nt nr
  go_wp2_with fail
  refine (bound_any m 1000 _ (by decide)).mono ?_
  rintro e w12 ⟨⟨i, rfl, hi⟩, rfl⟩
  go_wp2_with fail
  refine (bound_any n 1000 _ (by decide)).mono ?_
  rintro e w13 ⟨⟨k, rfl, hk⟩, rfl⟩
  have Lup : (lim (A * 2 ^ i)).length ≤ 100 := by
    have h1 : (lim (2 ^ i)).length ≤ 32 := len_of_bl (by rw [two_bits]; omega)
    exact Nat.le_trans (prod_len shhx h1) (by decide)
  have hS := shift_ok _ _ ((i : Int)) _ na (by omega) (by omega) (by omega)
  rw [val_lim, shl_nat] at hS
  go_wp2_with fail
  refine (hS).mono ?_
  rintro e w14 ⟨up, rfl, nup, hb⟩
  replace nup := nup.num
  clear hS
  replace na := na.below (Nat.le_refl _) hb
  replace b1 := bstep b1 hb
  clear hb
  have hS := shift_ok _ _ ((k : Int)) _ nup (by omega) (by omega) (by omega)
  rw [val_lim, shl_nat] at hS
  go_wp2_with fail
  refine (hS).mono ?_
  rintro e w15 ⟨more, rfl, nmore, hb⟩
  replace nmore := nmore.num
  clear hS
  replace na := na.below (Nat.le_refl _) hb
  replace nup := nup.below (Nat.le_refl _) hb
  replace b1 := bstep b1 hb
  clear hb
  have hS := shift_ok _ _ ((i + k : Nat) : Int) _ na (by omega) (by omega) (by omega)
  rw [val_lim, shl_nat, Int.natCast_add] at hS
  go_wp2_with fail
  refine (hS).mono ?_
  rintro e w16 ⟨all, rfl, nall, hb⟩
  replace nall := nall.num
  clear hS
  replace na := na.below (Nat.le_refl _) hb
  replace nup := nup.below (Nat.le_refl _) hb
  replace nmore := nmore.below (Nat.le_refl _) hb
  replace b1 := bstep b1 hb
  clear hb
  have hS := shift_ok _ _ (-(i : Int)) _ na (by omega) (by omega) (by omega)
  rw [val_lim, shl_neg] at hS
  go_wp2_with fail
  refine (hS).mono ?_
  rintro e w17 ⟨down, rfl, ndown, hb⟩
  replace ndown := ndown.num
  clear hS
  replace na := na.below (Nat.le_refl _) hb
  replace nup := nup.below (Nat.le_refl _) hb
  replace nmore := nmore.below (Nat.le_refl _) hb
  replace nall := nall.below (Nat.le_refl _) hb
  replace b1 := bstep b1 hb
  clear hb
  have l2 := lit1 w17 2 (by decide)
  have hP2 := pow_any _ _ i _ l2 (by simp) (by omega)
  rw [show val [2] = 2 from rfl] at hP2
  go_wp2_with fail
  refine (hP2).mono ?_
  rintro e w18 ⟨hok, _, hb⟩
  obtain ⟨two, rfl, ntwo⟩ := hok (by rw [two_bits]; omega)
  replace ntwo := ntwo.num
  clear hok hP2 l2
  replace hb := bstep (belowA w17 (.cells #[.int .u32 2] 42)) hb
  replace na := na.below (Nat.le_refl _) hb
  replace nup := nup.below (Nat.le_refl _) hb
  replace nmore := nmore.below (Nat.le_refl _) hb
  replace nall := nall.below (Nat.le_refl _) hb
  replace ndown := ndown.below (Nat.le_refl _) hb
  replace b1 := bstep b1 hb
  clear hb
  have L2 : (lim (2 ^ i)).length ≤ 32 := len_of_bl (by rw [two_bits]; omega)
  have hpos : 0 < 2 ^ i := Nat.two_pow_pos i
  have hS := shift_ok _ _ (-(i : Int)) _ nup (by omega) (by omega) (by omega)
  rw [val_lim, shl_neg, Nat.mul_div_cancel _ hpos] at hS
  go_wp2_with fail
  refine (hS).mono ?_
  rintro e w19 ⟨back, rfl, nback, hb⟩
  replace nback := nback.num
  clear hS
  replace na := na.below (Nat.le_refl _) hb
  replace nup := nup.below (Nat.le_refl _) hb
  replace nmore := nmore.below (Nat.le_refl _) hb
  replace nall := nall.below (Nat.le_refl _) hb
  replace ndown := ndown.below (Nat.le_refl _) hb
  replace ntwo := ntwo.below (Nat.le_refl _) hb
  replace b1 := bstep b1 hb
  clear hb
  go_wp2_with fail
  refine (lsame_any _ _ _ _ _ nmore nall).mono ?_
  rintro e w20 ⟨rfl, kk, hk⟩
  rw [show decide (lim (A * 2 ^ i * 2 ^ k) = lim (A * 2 ^ (i + k))) = true from lim_same' (by rw [Nat.pow_add, Nat.mul_assoc])]
  have hb := belowK hk
  replace na := na.below (Nat.le_refl _) hb
  replace nup := nup.below (Nat.le_refl _) hb
  replace ndown := ndown.below (Nat.le_refl _) hb
  replace ntwo := ntwo.below (Nat.le_refl _) hb
  replace nback := nback.below (Nat.le_refl _) hb
  replace b1 := bstep b1 hb
  clear hb hk nmore nall
  go_wp2_with fail
  refine (lsame_any _ _ _ _ _ nback na).mono ?_
  rintro e w21 ⟨rfl, kk, hk⟩
  rw [show decide (lim A = lim A) = true from lim_same' rfl]
  have hb := belowK hk
  replace na := na.below (Nat.le_refl _) hb
  replace nup := nup.below (Nat.le_refl _) hb
  replace ndown := ndown.below (Nat.le_refl _) hb
  replace ntwo := ntwo.below (Nat.le_refl _) hb
  replace b1 := bstep b1 hb
  clear hb hk nback
  go_wp2_with fail
  refine (mul_any _ _ _ _ _ na ntwo (by omega) (by omega)).mono ?_
  rintro e w22 ⟨t, rfl, nt, hb⟩
  rw [val_lim, val_lim] at nt
  replace nt := nt.num
  replace na := na.below (Nat.le_refl _) hb
  replace nup := nup.below (Nat.le_refl _) hb
  replace ndown := ndown.below (Nat.le_refl _) hb
  replace ntwo := ntwo.below (Nat.le_refl _) hb
  replace b1 := bstep b1 hb
  clear hb
  go_wp2_with fail
  refine (lsame_any _ _ _ _ _ nup nt).mono ?_
  rintro e w23 ⟨rfl, kk, hk⟩
  rw [show decide (lim (A * 2 ^ i) = lim (A * 2 ^ i)) = true from lim_same' rfl]
  have hb := belowK hk
  replace na := na.below (Nat.le_refl _) hb
  replace ndown := ndown.below (Nat.le_refl _) hb
  replace ntwo := ntwo.below (Nat.le_refl _) hb
  replace b1 := bstep b1 hb
  clear hb hk nt nup
  have hp0 : (2 : Nat) ^ i ≠ 0 := by omega
  go_wp2_with fail
  refine (divMod_any _ _ _ _ _ na ntwo (by omega)).mono ?_
  rintro e w24 ⟨half, rest, rfl, nhalf, _, _, hb⟩
  rw [val_lim, val_lim] at nhalf
  rw [val_lim, show errZ (2 ^ i) = 0 by unfold errZ; rw [if_neg hp0]]
  replace nhalf := nhalf.num
  replace na := na.below (Nat.le_refl _) hb
  replace ndown := ndown.below (Nat.le_refl _) hb
  replace b1 := bstep b1 hb
  clear hb ntwo
  go_wp2_with fail
  refine (bits_any _ _ _ na (by omega)).mono ?_
  rintro e w25 ⟨rfl, rfl⟩
  rw [val_lim]
  obtain ⟨b, hb⟩ : ∃ b, b = bl A := ⟨_, rfl⟩
  rw [← hb]
  have hb640 : b ≤ 640 := by rw [hb]; have := bl_le_iff.2 HA.out; omega
  have HBB : Hid (b = bl A) := hb
  clear hb
  have hS := shift_ok _ _ (-(b : Int)) _ na (by omega) (by omega) (by omega)
  rw [val_lim, shl_top HBB.out, lim_zero] at hS
  go_wp2_with fail
  refine (hS).mono ?_
  rintro e w26 ⟨top, rfl, ntop, hb⟩
  replace ntop := ntop.num
  clear hS
  replace na := na.below (Nat.le_refl _) hb
  replace ndown := ndown.below (Nat.le_refl _) hb
  replace nhalf := nhalf.below (Nat.le_refl _) hb
  replace b1 := bstep b1 hb
  clear hb
  obtain ⟨tpo, tpc, rfl, _, _⟩ := ntop.ao
  have hS := shift_ok _ _ (1 - (b : Int)) _ na (by omega) (by omega) (by omega)
  rw [val_lim] at hS
  go_wp2_with fail
  refine (hS).mono ?_
  rintro e w27 ⟨last, rfl, nlast, hb⟩
  replace nlast := nlast.num
  clear hS
  replace na := na.below (Nat.le_refl _) hb
  replace ndown := ndown.below (Nat.le_refl _) hb
  replace nhalf := nhalf.below (Nat.le_refl _) hb
  replace ntop := ntop.below (Nat.le_refl _) hb
  replace b1 := bstep b1 hb
  clear hb
  go_wp2_with fail
  refine (lsame_any _ _ _ _ _ nhalf ndown).mono ?_
  rintro e w28 ⟨rfl, kk, hk⟩
  rw [show decide (lim (A / 2 ^ i) = lim (A / 2 ^ i)) = true from lim_same' rfl]
  have hb := belowK hk
  replace na := na.below (Nat.le_refl _) hb
  replace ntop := ntop.below (Nat.le_refl _) hb
  replace nlast := nlast.below (Nat.le_refl _) hb
  replace b1 := bstep b1 hb
  clear hb hk nhalf ndown
  by_cases hA0 : A = 0
  · have hb0 : b = 0 := by rw [HBB.out, hA0]; rfl
    subst hb0
    have HE : Hid (Below w1.heap.size w1 w28) := b1
    clear na ntop nlast b1
    go_wp2_with fail
    go_ret
    exact ⟨rfl, HE.out⟩
  · have hb0 : ((b : Int) == 0) = false := by
      obtain ⟨q, e, _⟩ := bl_bounds hA0
      have := HBB.out
      simp; omega
    rw [shl_last HBB.out hA0, show lim 1 = [1] from rfl] at nlast
    have l1 := lit1 w28 1 (by decide)
    go_wp2_with fail
    refine (lsame_any _ _ _ _ _ (nlast.alloc _) l1).mono ?_
    rintro e wz ⟨rfl, kk, hk⟩
    rw [show decide ([1] = [1]) = true from rfl]
    have HE : Hid (Below w1.heap.size w1 wz) := bstep b1 (bstep (belowA w28 (.cells #[.int .u32 1] 42)) (belowK hk))
    clear na ntop nlast b1 hk l1
    go_wp2_with fail
    go_ret
    exact ⟨rfl, HE.out⟩
end Go.Proofs.YtboohobkjhianabDoor
