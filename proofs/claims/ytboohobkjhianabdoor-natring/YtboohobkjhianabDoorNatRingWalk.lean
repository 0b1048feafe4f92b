/-
  Proved here: NatRing of any three numbers returns true, and writes nothing that was there.
-/
import Derived.Test.YtboohobkjhianabDoorAlive
import Derived.Test.YtboohobkjhianabDoorBase
import Derived.Test.YtboohobkjhianabDoorSubAll
namespace Go.Proofs.YtboohobkjhianabDoor
open Go.RowKit

theorem lim_inj {a b : Nat} (h : lim a = lim b) : a = b := by rw [← val_lim a, h, val_lim]
theorem lim_same {a b : Nat} (h : a = b) : decide (lim a = lim b) = true := decide_eq_true (by rw [h])
theorem cmpN_add (a b c : Nat) : cmpN (a + c) (b + c) = cmpN a b := by
  rcases cmpN_cases a b with ⟨h, e⟩ | ⟨h, e⟩ | ⟨h, e⟩
  · rw [e, cmpN_lt (by omega)]
  · rw [h, cmpN_eq, cmpN_eq]
  · rw [e, cmpN_gt (by omega)]

set_option maxRecDepth 100000 in
set_option maxHeartbeats 8000000 in
theorem natRing_top (vx : Value) (xs : List Nat) (vy : Value) (ys : List Nat) (vz : Value) (zs : List Nat) (w1 : World) (hx : Num w1 vx xs) (hy : Num w1 vy ys) (hz : Num w1 vz zs) :
    Calls Tryd.prog 4 #[vx, vy, vz] w1 fun e w' => e = .returned (.bool true) ∧ Below w1.heap.size w1 w' := by
  have b1 : Below w1.heap.size w1 w1 := Below.refl _ _
  go_enter Tryd.func4, Tryd.ntmps4
  go_wp2_with fail
  refine (alive_yes _).mono ?_
  rintro e w2 ⟨rfl, hb⟩
  replace hx := hx.below (Nat.le_refl _) hb
  replace hy := hy.below (Nat.le_refl _) hb
  replace hz := hz.below (Nat.le_refl _) hb
  replace b1 := bstep b1 hb
  clear hb
  go_wp2_with fail
  refine (cut_any _ _ 60 _ hx (by decide)).mono ?_
  rintro e w3 ⟨rfl, rfl⟩
  have nhx := hx.cut (k := min 60 xs.length) (Nat.min_le_right _ _)
  have lhx : (xs.take (min 60 xs.length)).length ≤ 60 := by simp; omega
  generalize xs.take (min 60 xs.length) = xs_ at *
  generalize cutTo vx (min 60 xs.length) = vx_ at *
  clear hx
  have shhx := lim_short nhx
  go_wp2_with fail
  refine (norm_any _ _ _ nhx (by omega)).mono ?_
  rintro e w4 ⟨a, rfl, na, hb⟩
  replace na := na.num
  obtain ⟨A, hA⟩ : ∃ A, A = val xs_ := ⟨_, rfl⟩
  rw [← hA] at na shhx
  replace hy := hy.below (Nat.le_refl _) hb
  replace hz := hz.below (Nat.le_refl _) hb
  replace b1 := bstep b1 hb
  clear hb nhx
  replace shhx : (lim A).length ≤ 60 := by omega
  clear hA lhx
  go_wp2_with fail
  refine (cut_any _ _ 60 _ hy (by decide)).mono ?_
  rintro e w5 ⟨rfl, rfl⟩
  have nhy := hy.cut (k := min 60 ys.length) (Nat.min_le_right _ _)
  have lhy : (ys.take (min 60 ys.length)).length ≤ 60 := by simp; omega
  generalize ys.take (min 60 ys.length) = ys_ at *
  generalize cutTo vy (min 60 ys.length) = vy_ at *
  clear hy
  have shhy := lim_short nhy
  go_wp2_with fail
  refine (norm_any _ _ _ nhy (by omega)).mono ?_
  rintro e w6 ⟨b, rfl, nb, hb⟩
  replace nb := nb.num
  obtain ⟨B, hB⟩ : ∃ A, A = val ys_ := ⟨_, rfl⟩
  rw [← hB] at nb shhy
  replace hz := hz.below (Nat.le_refl _) hb
  replace na := na.below (Nat.le_refl _) hb
  replace b1 := bstep b1 hb
  clear hb nhy
  replace shhy : (lim B).length ≤ 60 := by omega
  clear hB lhy
  go_wp2_with fail
  refine (cut_any _ _ 60 _ hz (by decide)).mono ?_
  rintro e w7 ⟨rfl, rfl⟩
  have nhz := hz.cut (k := min 60 zs.length) (Nat.min_le_right _ _)
  have lhz : (zs.take (min 60 zs.length)).length ≤ 60 := by simp; omega
  generalize zs.take (min 60 zs.length) = zs_ at *
  generalize cutTo vz (min 60 zs.length) = vz_ at *
  clear hz
  have shhz := lim_short nhz
  go_wp2_with fail
  refine (norm_any _ _ _ nhz (by omega)).mono ?_
  rintro e w8 ⟨c, rfl, nc, hb⟩
  replace nc := nc.num
  obtain ⟨C, hC⟩ : ∃ A, A = val zs_ := ⟨_, rfl⟩
  rw [← hC] at nc shhz
  replace na := na.below (Nat.le_refl _) hb
  replace nb := nb.below (Nat.le_refl _) hb
  replace b1 := bstep b1 hb
  clear hb nhz
  replace shhz : (lim C).length ≤ 60 := by omega
  clear hC lhz
  have lt1 : (lim (A + B)).length ≤ 61 := Nat.le_trans (lim_add_len (k := 60) (Nat.le_trans shhx (by decide)) (Nat.le_trans shhy (by decide))) (by decide)
  go_wp2_with fail
  refine (add_any _ _ _ _ _ na nb (by omega) (by omega)).mono ?_
  rintro e w9 ⟨t1, rfl, nt1, hb⟩
  rw [val_lim, val_lim] at nt1
  replace nt1 := nt1.num
  replace na := na.below (Nat.le_refl _) hb
  replace nb := nb.below (Nat.le_refl _) hb
  replace nc := nc.below (Nat.le_refl _) hb
  replace b1 := bstep b1 hb
  clear hb
  have lt2 : (lim ((A + B) + C)).length ≤ 62 := Nat.le_trans (lim_add_len (k := 61) (Nat.le_trans lt1 (by decide)) (Nat.le_trans shhz (by decide))) (by decide)
  go_wp2_with fail
  refine (add_any _ _ _ _ _ nt1 nc (by omega) (by omega)).mono ?_
  rintro e w10 ⟨t2, rfl, nt2, hb⟩
  rw [val_lim, val_lim] at nt2
  replace nt2 := nt2.num
  replace na := na.below (Nat.le_refl _) hb
  replace nb := nb.below (Nat.le_refl _) hb
  replace nc := nc.below (Nat.le_refl _) hb
  replace b1 := bstep b1 hb
  clear hb nt1
  have lt3 : (lim (C + B)).length ≤ 61 := Nat.le_trans (lim_add_len (k := 60) (Nat.le_trans shhz (by decide)) (Nat.le_trans shhy (by decide))) (by decide)
  go_wp2_with fail
  refine (add_any _ _ _ _ _ nc nb (by omega) (by omega)).mono ?_
  rintro e w11 ⟨t3, rfl, nt3, hb⟩
  rw [val_lim, val_lim] at nt3
  replace nt3 := nt3.num
  replace na := na.below (Nat.le_refl _) hb
  replace nb := nb.below (Nat.le_refl _) hb
  replace nc := nc.below (Nat.le_refl _) hb
  replace nt2 := nt2.below (Nat.le_refl _) hb
  replace b1 := bstep b1 hb
  clear hb
  have lt4 : (lim (A + (C + B))).length ≤ 62 := Nat.le_trans (lim_add_len (k := 61) (Nat.le_trans shhx (by decide)) (Nat.le_trans lt3 (by decide))) (by decide)
  go_wp2_with fail
  refine (add_any _ _ _ _ _ na nt3 (by omega) (by omega)).mono ?_
  rintro e w12 ⟨t4, rfl, nt4, hb⟩
  rw [val_lim, val_lim] at nt4
  replace nt4 := nt4.num
  replace na := na.below (Nat.le_refl _) hb
  replace nb := nb.below (Nat.le_refl _) hb
  replace nc := nc.below (Nat.le_refl _) hb
  replace nt2 := nt2.below (Nat.le_refl _) hb
  replace b1 := bstep b1 hb
  clear hb nt3
  go_wp2_with fail
  refine (lsame_any _ _ _ _ _ nt2 nt4).mono ?_
  rintro e w13 ⟨rfl, k, hk⟩
  rw [show decide (lim ((A + B) + C) = lim (A + (C + B))) = true from lim_same (by omega)]
  have hb := belowK hk
  replace na := na.below (Nat.le_refl _) hb
  replace nb := nb.below (Nat.le_refl _) hb
  replace nc := nc.below (Nat.le_refl _) hb
  replace b1 := bstep b1 hb
  clear hb hk nt2 nt4
  have lt5 : (lim (A * B)).length ≤ 120 := Nat.le_trans (prod_len shhx shhy) (by decide)
  go_wp2_with fail
  refine (mul_any _ _ _ _ _ na nb (by omega) (by omega)).mono ?_
  rintro e w14 ⟨t5, rfl, nt5, hb⟩
  rw [val_lim, val_lim] at nt5
  replace nt5 := nt5.num
  replace na := na.below (Nat.le_refl _) hb
  replace nb := nb.below (Nat.le_refl _) hb
  replace nc := nc.below (Nat.le_refl _) hb
  replace b1 := bstep b1 hb
  clear hb
  have lt6 : (lim ((A * B) * C)).length ≤ 180 := Nat.le_trans (prod_len lt5 shhz) (by decide)
  go_wp2_with fail
  refine (mul_any _ _ _ _ _ nt5 nc (by omega) (by omega)).mono ?_
  rintro e w15 ⟨t6, rfl, nt6, hb⟩
  rw [val_lim, val_lim] at nt6
  replace nt6 := nt6.num
  replace na := na.below (Nat.le_refl _) hb
  replace nb := nb.below (Nat.le_refl _) hb
  replace nc := nc.below (Nat.le_refl _) hb
  replace b1 := bstep b1 hb
  clear hb nt5
  have lt7 : (lim (C * B)).length ≤ 120 := Nat.le_trans (prod_len shhz shhy) (by decide)
  go_wp2_with fail
  refine (mul_any _ _ _ _ _ nc nb (by omega) (by omega)).mono ?_
  rintro e w16 ⟨t7, rfl, nt7, hb⟩
  rw [val_lim, val_lim] at nt7
  replace nt7 := nt7.num
  replace na := na.below (Nat.le_refl _) hb
  replace nb := nb.below (Nat.le_refl _) hb
  replace nc := nc.below (Nat.le_refl _) hb
  replace nt6 := nt6.below (Nat.le_refl _) hb
  replace b1 := bstep b1 hb
  clear hb
  have lt8 : (lim (A * (C * B))).length ≤ 180 := Nat.le_trans (prod_len shhx lt7) (by decide)
  go_wp2_with fail
  refine (mul_any _ _ _ _ _ na nt7 (by omega) (by omega)).mono ?_
  rintro e w17 ⟨t8, rfl, nt8, hb⟩
  rw [val_lim, val_lim] at nt8
  replace nt8 := nt8.num
  replace na := na.below (Nat.le_refl _) hb
  replace nb := nb.below (Nat.le_refl _) hb
  replace nc := nc.below (Nat.le_refl _) hb
  replace nt6 := nt6.below (Nat.le_refl _) hb
  replace b1 := bstep b1 hb
  clear hb nt7
  go_wp2_with fail
  refine (lsame_any _ _ _ _ _ nt6 nt8).mono ?_
  rintro e w18 ⟨rfl, k, hk⟩
  rw [show decide (lim ((A * B) * C) = lim (A * (C * B))) = true from lim_same (by rw [Nat.mul_assoc, Nat.mul_comm B C])]
  have hb := belowK hk
  replace na := na.below (Nat.le_refl _) hb
  replace nb := nb.below (Nat.le_refl _) hb
  replace nc := nc.below (Nat.le_refl _) hb
  replace b1 := bstep b1 hb
  clear hb hk nt6 nt8
  have lt9 : (lim (B + C)).length ≤ 61 := Nat.le_trans (lim_add_len (k := 60) (Nat.le_trans shhy (by decide)) (Nat.le_trans shhz (by decide))) (by decide)
  go_wp2_with fail
  refine (add_any _ _ _ _ _ nb nc (by omega) (by omega)).mono ?_
  rintro e w19 ⟨t9, rfl, nt9, hb⟩
  rw [val_lim, val_lim] at nt9
  replace nt9 := nt9.num
  replace na := na.below (Nat.le_refl _) hb
  replace nb := nb.below (Nat.le_refl _) hb
  replace nc := nc.below (Nat.le_refl _) hb
  replace b1 := bstep b1 hb
  clear hb
  have lt10 : (lim (A * (B + C))).length ≤ 121 := Nat.le_trans (prod_len shhx lt9) (by decide)
  go_wp2_with fail
  refine (mul_any _ _ _ _ _ na nt9 (by omega) (by omega)).mono ?_
  rintro e w20 ⟨t10, rfl, nt10, hb⟩
  rw [val_lim, val_lim] at nt10
  replace nt10 := nt10.num
  replace na := na.below (Nat.le_refl _) hb
  replace nb := nb.below (Nat.le_refl _) hb
  replace nc := nc.below (Nat.le_refl _) hb
  replace b1 := bstep b1 hb
  clear hb nt9
  have lt11 : (lim (A * B)).length ≤ 120 := Nat.le_trans (prod_len shhx shhy) (by decide)
  go_wp2_with fail
  refine (mul_any _ _ _ _ _ na nb (by omega) (by omega)).mono ?_
  rintro e w21 ⟨t11, rfl, nt11, hb⟩
  rw [val_lim, val_lim] at nt11
  replace nt11 := nt11.num
  replace na := na.below (Nat.le_refl _) hb
  replace nb := nb.below (Nat.le_refl _) hb
  replace nc := nc.below (Nat.le_refl _) hb
  replace nt10 := nt10.below (Nat.le_refl _) hb
  replace b1 := bstep b1 hb
  clear hb
  have lt12 : (lim (A * C)).length ≤ 120 := Nat.le_trans (prod_len shhx shhz) (by decide)
  go_wp2_with fail
  refine (mul_any _ _ _ _ _ na nc (by omega) (by omega)).mono ?_
  rintro e w22 ⟨t12, rfl, nt12, hb⟩
  rw [val_lim, val_lim] at nt12
  replace nt12 := nt12.num
  replace na := na.below (Nat.le_refl _) hb
  replace nb := nb.below (Nat.le_refl _) hb
  replace nc := nc.below (Nat.le_refl _) hb
  replace nt10 := nt10.below (Nat.le_refl _) hb
  replace nt11 := nt11.below (Nat.le_refl _) hb
  replace b1 := bstep b1 hb
  clear hb
  have lt13 : (lim ((A * B) + (A * C))).length ≤ 121 := Nat.le_trans (lim_add_len (k := 120) (Nat.le_trans lt11 (by decide)) (Nat.le_trans lt12 (by decide))) (by decide)
  go_wp2_with fail
  refine (add_any _ _ _ _ _ nt11 nt12 (by omega) (by omega)).mono ?_
  rintro e w23 ⟨t13, rfl, nt13, hb⟩
  rw [val_lim, val_lim] at nt13
  replace nt13 := nt13.num
  replace na := na.below (Nat.le_refl _) hb
  replace nb := nb.below (Nat.le_refl _) hb
  replace nc := nc.below (Nat.le_refl _) hb
  replace nt10 := nt10.below (Nat.le_refl _) hb
  replace b1 := bstep b1 hb
  clear hb nt11 nt12
  go_wp2_with fail
  refine (lsame_any _ _ _ _ _ nt10 nt13).mono ?_
  rintro e w24 ⟨rfl, k, hk⟩
  rw [show decide (lim (A * (B + C)) = lim ((A * B) + (A * C))) = true from lim_same (Nat.mul_add A B C)]
  have hb := belowK hk
  replace na := na.below (Nat.le_refl _) hb
  replace nb := nb.below (Nat.le_refl _) hb
  replace nc := nc.below (Nat.le_refl _) hb
  replace b1 := bstep b1 hb
  clear hb hk nt10 nt13
  have lt14 : (lim (A + B)).length ≤ 61 := Nat.le_trans (lim_add_len (k := 60) (Nat.le_trans shhx (by decide)) (Nat.le_trans shhy (by decide))) (by decide)
  go_wp2_with fail
  refine (add_any _ _ _ _ _ na nb (by omega) (by omega)).mono ?_
  rintro e w25 ⟨t14, rfl, nt14, hb⟩
  rw [val_lim, val_lim] at nt14
  replace nt14 := nt14.num
  replace na := na.below (Nat.le_refl _) hb
  replace nb := nb.below (Nat.le_refl _) hb
  replace nc := nc.below (Nat.le_refl _) hb
  replace b1 := bstep b1 hb
  clear hb
  go_wp2_with fail
  refine (sub_all _ _ _ _ _ nt14 nb (by omega) (by omega)).mono ?_
  rintro e w26 ⟨d, rfl, nd, hb⟩
  rw [val_lim, val_lim, Nat.add_sub_cancel] at nd
  rw [val_lim, val_lim, show leB B (A + B) = true from decide_eq_true (by omega)]
  replace nd := nd.num
  replace na := na.below (Nat.le_refl _) hb
  replace nb := nb.below (Nat.le_refl _) hb
  replace nc := nc.below (Nat.le_refl _) hb
  replace b1 := bstep b1 hb
  clear hb nt14
  have lt15 : (lim (A + C)).length ≤ 61 := Nat.le_trans (lim_add_len (k := 60) (Nat.le_trans shhx (by decide)) (Nat.le_trans shhz (by decide))) (by decide)
  go_wp2_with fail
  refine (add_any _ _ _ _ _ na nc (by omega) (by omega)).mono ?_
  rintro e w27 ⟨t15, rfl, nt15, hb⟩
  rw [val_lim, val_lim] at nt15
  replace nt15 := nt15.num
  replace na := na.below (Nat.le_refl _) hb
  replace nb := nb.below (Nat.le_refl _) hb
  replace nc := nc.below (Nat.le_refl _) hb
  replace nd := nd.below (Nat.le_refl _) hb
  replace b1 := bstep b1 hb
  clear hb
  have lt16 : (lim (B + C)).length ≤ 61 := Nat.le_trans (lim_add_len (k := 60) (Nat.le_trans shhy (by decide)) (Nat.le_trans shhz (by decide))) (by decide)
  go_wp2_with fail
  refine (add_any _ _ _ _ _ nb nc (by omega) (by omega)).mono ?_
  rintro e w28 ⟨t16, rfl, nt16, hb⟩
  rw [val_lim, val_lim] at nt16
  replace nt16 := nt16.num
  replace na := na.below (Nat.le_refl _) hb
  replace nb := nb.below (Nat.le_refl _) hb
  replace nc := nc.below (Nat.le_refl _) hb
  replace nd := nd.below (Nat.le_refl _) hb
  replace nt15 := nt15.below (Nat.le_refl _) hb
  replace b1 := bstep b1 hb
  clear hb
  rcases (show A < B ∨ A = B ∨ B < A by omega) with hc | hc | hc
  · have c1 : cmpN A B = -1 := cmpN_lt hc
    have c2 : cmpN B A = 1 := cmpN_gt hc
    have c3 : decide (lim A = lim B) = false := decide_eq_false fun h => by have := lim_inj h; omega
    have c4 : leB B A = false := decide_eq_false (by omega)
    have C1 : Hid (cmpN A B = -1) := c1
    have C2 : Hid (cmpN B A = 1) := c2
    have C3 : Hid (decide (lim A = lim B) = false) := c3
    have C4 : Hid (leB B A = false) := c4
    clear c1 c2 c3 c4 hc
    go_wp2_with fail
    refine (cmp_any _ _ _ _ _ nt15 nt16).mono ?_
    rintro e w29 ⟨rfl, k, hk⟩
    rw [val_lim, val_lim, cmpN_add, C1.out]
    have hb := belowK hk
    replace na := na.below (Nat.le_refl _) hb
    replace nb := nb.below (Nat.le_refl _) hb
    replace nc := nc.below (Nat.le_refl _) hb
    replace nd := nd.below (Nat.le_refl _) hb
    replace b1 := bstep b1 hb
    clear hb hk nt15 nt16
    go_wp2_with fail
    refine (cmp_any _ _ _ _ _ na nb).mono ?_
    rintro e w30 ⟨rfl, k, hk⟩
    rw [val_lim, val_lim, C1.out]
    have hb := belowK hk
    replace na := na.below (Nat.le_refl _) hb
    replace nb := nb.below (Nat.le_refl _) hb
    replace nc := nc.below (Nat.le_refl _) hb
    replace nd := nd.below (Nat.le_refl _) hb
    replace b1 := bstep b1 hb
    clear hb hk
    go_wp2_with fail
    refine (cmp_any _ _ _ _ _ na nb).mono ?_
    rintro e w31 ⟨rfl, k, hk⟩
    rw [val_lim, val_lim, C1.out]
    have hb := belowK hk
    replace na := na.below (Nat.le_refl _) hb
    replace nb := nb.below (Nat.le_refl _) hb
    replace nc := nc.below (Nat.le_refl _) hb
    replace nd := nd.below (Nat.le_refl _) hb
    replace b1 := bstep b1 hb
    clear hb hk
    go_wp2_with fail
    refine (cmp_any _ _ _ _ _ nb na).mono ?_
    rintro e w32 ⟨rfl, k, hk⟩
    rw [val_lim, val_lim, C2.out]
    have hb := belowK hk
    replace na := na.below (Nat.le_refl _) hb
    replace nb := nb.below (Nat.le_refl _) hb
    replace nc := nc.below (Nat.le_refl _) hb
    replace nd := nd.below (Nat.le_refl _) hb
    replace b1 := bstep b1 hb
    clear hb hk
    go_wp2_with fail
    refine (cmp_any _ _ _ _ _ na nb).mono ?_
    rintro e w33 ⟨rfl, k, hk⟩
    rw [val_lim, val_lim, C1.out]
    have hb := belowK hk
    replace na := na.below (Nat.le_refl _) hb
    replace nb := nb.below (Nat.le_refl _) hb
    replace nc := nc.below (Nat.le_refl _) hb
    replace nd := nd.below (Nat.le_refl _) hb
    replace b1 := bstep b1 hb
    clear hb hk
    go_wp2_with fail
    refine (lsame_any _ _ _ _ _ na nb).mono ?_
    rintro e w34 ⟨rfl, k, hk⟩
    rw [C3.out]
    have hb := belowK hk
    replace na := na.below (Nat.le_refl _) hb
    replace nb := nb.below (Nat.le_refl _) hb
    replace nc := nc.below (Nat.le_refl _) hb
    replace nd := nd.below (Nat.le_refl _) hb
    replace b1 := bstep b1 hb
    clear hb hk
    go_wp2_with fail
    refine (sub_all _ _ _ _ _ na nb (by omega) (by omega)).mono ?_
    rintro e w35 ⟨d2, rfl, _, hb⟩
    rw [val_lim, val_lim, C4.out]
    replace na := na.below (Nat.le_refl _) hb
    replace nb := nb.below (Nat.le_refl _) hb
    replace nc := nc.below (Nat.le_refl _) hb
    replace nd := nd.below (Nat.le_refl _) hb
    replace b1 := bstep b1 hb
    clear hb
    go_wp2_with fail
    refine (lsame_any _ _ _ _ _ nd na).mono ?_
    rintro e w36 ⟨rfl, k, hk⟩
    rw [show decide (lim A = lim A) = true from lim_same rfl]
    have hb := belowK hk
    replace na := na.below (Nat.le_refl _) hb
    replace nb := nb.below (Nat.le_refl _) hb
    replace nc := nc.below (Nat.le_refl _) hb
    replace b1 := bstep b1 hb
    clear hb hk nd
    go_wp2_with fail
    refine (cmp_any _ _ _ _ _ na nb).mono ?_
    rintro e w37 ⟨rfl, k, hk⟩
    rw [val_lim, val_lim, C1.out]
    have hb := belowK hk
    replace na := na.below (Nat.le_refl _) hb
    replace nb := nb.below (Nat.le_refl _) hb
    replace nc := nc.below (Nat.le_refl _) hb
    replace b1 := bstep b1 hb
    clear hb hk
    have HE : Hid (Below w1.heap.size w1 w37) := b1
    clear na nb nc b1
    go_wp2_with fail
    go_ret
    exact ⟨rfl, HE.out⟩
  · have c1 : cmpN A B = 0 := by rw [hc, cmpN_eq]
    have c2 : cmpN B A = 0 := by rw [hc, cmpN_eq]
    have c3 : decide (lim A = lim B) = true := lim_same hc
    have c4 : leB B A = true := decide_eq_true (by omega)
    have C1 : Hid (cmpN A B = 0) := c1
    have C2 : Hid (cmpN B A = 0) := c2
    have C3 : Hid (decide (lim A = lim B) = true) := c3
    have C4 : Hid (leB B A = true) := c4
    clear c1 c2 c3 c4 hc
    go_wp2_with fail
    refine (cmp_any _ _ _ _ _ nt15 nt16).mono ?_
    rintro e w29 ⟨rfl, k, hk⟩
    rw [val_lim, val_lim, cmpN_add, C1.out]
    have hb := belowK hk
    replace na := na.below (Nat.le_refl _) hb
    replace nb := nb.below (Nat.le_refl _) hb
    replace nc := nc.below (Nat.le_refl _) hb
    replace nd := nd.below (Nat.le_refl _) hb
    replace b1 := bstep b1 hb
    clear hb hk nt15 nt16
    go_wp2_with fail
    refine (cmp_any _ _ _ _ _ na nb).mono ?_
    rintro e w30 ⟨rfl, k, hk⟩
    rw [val_lim, val_lim, C1.out]
    have hb := belowK hk
    replace na := na.below (Nat.le_refl _) hb
    replace nb := nb.below (Nat.le_refl _) hb
    replace nc := nc.below (Nat.le_refl _) hb
    replace nd := nd.below (Nat.le_refl _) hb
    replace b1 := bstep b1 hb
    clear hb hk
    go_wp2_with fail
    refine (cmp_any _ _ _ _ _ na nb).mono ?_
    rintro e w31 ⟨rfl, k, hk⟩
    rw [val_lim, val_lim, C1.out]
    have hb := belowK hk
    replace na := na.below (Nat.le_refl _) hb
    replace nb := nb.below (Nat.le_refl _) hb
    replace nc := nc.below (Nat.le_refl _) hb
    replace nd := nd.below (Nat.le_refl _) hb
    replace b1 := bstep b1 hb
    clear hb hk
    go_wp2_with fail
    refine (cmp_any _ _ _ _ _ nb na).mono ?_
    rintro e w32 ⟨rfl, k, hk⟩
    rw [val_lim, val_lim, C2.out]
    have hb := belowK hk
    replace na := na.below (Nat.le_refl _) hb
    replace nb := nb.below (Nat.le_refl _) hb
    replace nc := nc.below (Nat.le_refl _) hb
    replace nd := nd.below (Nat.le_refl _) hb
    replace b1 := bstep b1 hb
    clear hb hk
    go_wp2_with fail
    refine (cmp_any _ _ _ _ _ na nb).mono ?_
    rintro e w33 ⟨rfl, k, hk⟩
    rw [val_lim, val_lim, C1.out]
    have hb := belowK hk
    replace na := na.below (Nat.le_refl _) hb
    replace nb := nb.below (Nat.le_refl _) hb
    replace nc := nc.below (Nat.le_refl _) hb
    replace nd := nd.below (Nat.le_refl _) hb
    replace b1 := bstep b1 hb
    clear hb hk
    go_wp2_with fail
    refine (lsame_any _ _ _ _ _ na nb).mono ?_
    rintro e w34 ⟨rfl, k, hk⟩
    rw [C3.out]
    have hb := belowK hk
    replace na := na.below (Nat.le_refl _) hb
    replace nb := nb.below (Nat.le_refl _) hb
    replace nc := nc.below (Nat.le_refl _) hb
    replace nd := nd.below (Nat.le_refl _) hb
    replace b1 := bstep b1 hb
    clear hb hk
    go_wp2_with fail
    refine (sub_all _ _ _ _ _ na nb (by omega) (by omega)).mono ?_
    rintro e w35 ⟨d2, rfl, _, hb⟩
    rw [val_lim, val_lim, C4.out]
    replace na := na.below (Nat.le_refl _) hb
    replace nb := nb.below (Nat.le_refl _) hb
    replace nc := nc.below (Nat.le_refl _) hb
    replace nd := nd.below (Nat.le_refl _) hb
    replace b1 := bstep b1 hb
    clear hb
    go_wp2_with fail
    refine (lsame_any _ _ _ _ _ nd na).mono ?_
    rintro e w36 ⟨rfl, k, hk⟩
    rw [show decide (lim A = lim A) = true from lim_same rfl]
    have hb := belowK hk
    replace na := na.below (Nat.le_refl _) hb
    replace nb := nb.below (Nat.le_refl _) hb
    replace nc := nc.below (Nat.le_refl _) hb
    replace b1 := bstep b1 hb
    clear hb hk nd
    go_wp2_with fail
    refine (cmp_any _ _ _ _ _ na nb).mono ?_
    rintro e w37 ⟨rfl, k, hk⟩
    rw [val_lim, val_lim, C1.out]
    have hb := belowK hk
    replace na := na.below (Nat.le_refl _) hb
    replace nb := nb.below (Nat.le_refl _) hb
    replace nc := nc.below (Nat.le_refl _) hb
    replace b1 := bstep b1 hb
    clear hb hk
    have HE : Hid (Below w1.heap.size w1 w37) := b1
    clear na nb nc b1
    go_wp2_with fail
    go_ret
    exact ⟨rfl, HE.out⟩
  · have c1 : cmpN A B = 1 := cmpN_gt hc
    have c2 : cmpN B A = -1 := cmpN_lt hc
    have c3 : decide (lim A = lim B) = false := decide_eq_false fun h => by have := lim_inj h; omega
    have c4 : leB B A = true := decide_eq_true (by omega)
    have C1 : Hid (cmpN A B = 1) := c1
    have C2 : Hid (cmpN B A = -1) := c2
    have C3 : Hid (decide (lim A = lim B) = false) := c3
    have C4 : Hid (leB B A = true) := c4
    clear c1 c2 c3 c4 hc
    go_wp2_with fail
    refine (cmp_any _ _ _ _ _ nt15 nt16).mono ?_
    rintro e w29 ⟨rfl, k, hk⟩
    rw [val_lim, val_lim, cmpN_add, C1.out]
    have hb := belowK hk
    replace na := na.below (Nat.le_refl _) hb
    replace nb := nb.below (Nat.le_refl _) hb
    replace nc := nc.below (Nat.le_refl _) hb
    replace nd := nd.below (Nat.le_refl _) hb
    replace b1 := bstep b1 hb
    clear hb hk nt15 nt16
    go_wp2_with fail
    refine (cmp_any _ _ _ _ _ na nb).mono ?_
    rintro e w30 ⟨rfl, k, hk⟩
    rw [val_lim, val_lim, C1.out]
    have hb := belowK hk
    replace na := na.below (Nat.le_refl _) hb
    replace nb := nb.below (Nat.le_refl _) hb
    replace nc := nc.below (Nat.le_refl _) hb
    replace nd := nd.below (Nat.le_refl _) hb
    replace b1 := bstep b1 hb
    clear hb hk
    go_wp2_with fail
    refine (cmp_any _ _ _ _ _ na nb).mono ?_
    rintro e w31 ⟨rfl, k, hk⟩
    rw [val_lim, val_lim, C1.out]
    have hb := belowK hk
    replace na := na.below (Nat.le_refl _) hb
    replace nb := nb.below (Nat.le_refl _) hb
    replace nc := nc.below (Nat.le_refl _) hb
    replace nd := nd.below (Nat.le_refl _) hb
    replace b1 := bstep b1 hb
    clear hb hk
    go_wp2_with fail
    refine (cmp_any _ _ _ _ _ nb na).mono ?_
    rintro e w32 ⟨rfl, k, hk⟩
    rw [val_lim, val_lim, C2.out]
    have hb := belowK hk
    replace na := na.below (Nat.le_refl _) hb
    replace nb := nb.below (Nat.le_refl _) hb
    replace nc := nc.below (Nat.le_refl _) hb
    replace nd := nd.below (Nat.le_refl _) hb
    replace b1 := bstep b1 hb
    clear hb hk
    go_wp2_with fail
    refine (cmp_any _ _ _ _ _ na nb).mono ?_
    rintro e w33 ⟨rfl, k, hk⟩
    rw [val_lim, val_lim, C1.out]
    have hb := belowK hk
    replace na := na.below (Nat.le_refl _) hb
    replace nb := nb.below (Nat.le_refl _) hb
    replace nc := nc.below (Nat.le_refl _) hb
    replace nd := nd.below (Nat.le_refl _) hb
    replace b1 := bstep b1 hb
    clear hb hk
    go_wp2_with fail
    refine (lsame_any _ _ _ _ _ na nb).mono ?_
    rintro e w34 ⟨rfl, k, hk⟩
    rw [C3.out]
    have hb := belowK hk
    replace na := na.below (Nat.le_refl _) hb
    replace nb := nb.below (Nat.le_refl _) hb
    replace nc := nc.below (Nat.le_refl _) hb
    replace nd := nd.below (Nat.le_refl _) hb
    replace b1 := bstep b1 hb
    clear hb hk
    go_wp2_with fail
    refine (sub_all _ _ _ _ _ na nb (by omega) (by omega)).mono ?_
    rintro e w35 ⟨d2, rfl, _, hb⟩
    rw [val_lim, val_lim, C4.out]
    replace na := na.below (Nat.le_refl _) hb
    replace nb := nb.below (Nat.le_refl _) hb
    replace nc := nc.below (Nat.le_refl _) hb
    replace nd := nd.below (Nat.le_refl _) hb
    replace b1 := bstep b1 hb
    clear hb
    go_wp2_with fail
    refine (lsame_any _ _ _ _ _ nd na).mono ?_
    rintro e w36 ⟨rfl, k, hk⟩
    rw [show decide (lim A = lim A) = true from lim_same rfl]
    have hb := belowK hk
    replace na := na.below (Nat.le_refl _) hb
    replace nb := nb.below (Nat.le_refl _) hb
    replace nc := nc.below (Nat.le_refl _) hb
    replace b1 := bstep b1 hb
    clear hb hk nd
    go_wp2_with fail
    refine (cmp_any _ _ _ _ _ na nb).mono ?_
    rintro e w37 ⟨rfl, k, hk⟩
    rw [val_lim, val_lim, C1.out]
    have hb := belowK hk
    replace na := na.below (Nat.le_refl _) hb
    replace nb := nb.below (Nat.le_refl _) hb
    replace nc := nc.below (Nat.le_refl _) hb
    replace b1 := bstep b1 hb
    clear hb hk
    have HE : Hid (Below w1.heap.size w1 w37) := b1
    clear na nb nc b1
    go_wp2_with fail
    go_ret
    exact ⟨rfl, HE.out⟩
end Go.Proofs.YtboohobkjhianabDoor
