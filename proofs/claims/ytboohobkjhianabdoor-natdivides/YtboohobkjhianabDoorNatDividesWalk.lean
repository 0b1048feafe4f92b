/-
  Proved here: NatDivides of any three numbers returns true, and writes nothing that was there.
-/
import Derived.Test.YtboohobkjhianabDoorAlive
import Derived.Test.YtboohobkjhianabDoorBase
namespace Go.Proofs.YtboohobkjhianabDoor
open Go.RowKit

set_option maxRecDepth 100000 in
set_option maxHeartbeats 8000000 in
theorem natDivides_top (vx : Value) (xs : List Nat) (vy : Value) (ys : List Nat) (vz : Value) (zs : List Nat) (w1 : World) (hx : Num w1 vx xs) (hy : Num w1 vy ys) (hz : Num w1 vz zs) :
    Calls Tryd.prog 5 #[vx, vy, vz] w1 fun e w' => e = .returned (.bool true) ∧ Below w1.heap.size w1 w' := by
  have b1 : Below w1.heap.size w1 w1 := Below.refl _ _
  go_enter Tryd.func5, Tryd.ntmps5
  go_wp2_with fail
  refine (alive_yes _).mono ?_
  rintro e w2 ⟨rfl, hb⟩
  replace hx := hx.below (Nat.le_refl _) hb
  replace hy := hy.below (Nat.le_refl _) hb
  replace hz := hz.below (Nat.le_refl _) hb
  replace b1 := bstep b1 hb
  clear hb
  go_wp2_with fail
  refine (cut_any _ _ 60 _ hx (by decide)).mono ?_
  rintro e w3 ⟨rfl, rfl⟩
  have nhx := hx.cut (k := min 60 xs.length) (Nat.min_le_right _ _)
  have lhx : (xs.take (min 60 xs.length)).length ≤ 60 := by simp; omega
  generalize xs.take (min 60 xs.length) = xs_ at *
  generalize cutTo vx (min 60 xs.length) = vx_ at *
  clear hx
  have shhx := lim_short nhx
  go_wp2_with fail
  refine (norm_any _ _ _ nhx (by omega)).mono ?_
  rintro e w4 ⟨a, rfl, na, hb⟩
  replace na := na.num
  obtain ⟨A, hA⟩ : ∃ A, A = val xs_ := ⟨_, rfl⟩
  rw [← hA] at na shhx
  replace hy := hy.below (Nat.le_refl _) hb
  replace hz := hz.below (Nat.le_refl _) hb
  replace b1 := bstep b1 hb
  clear hb nhx
  replace shhx : (lim A).length ≤ 60 := by omega
  clear hA lhx
  go_wp2_with fail
  refine (cut_any _ _ 60 _ hy (by decide)).mono ?_
  rintro e w5 ⟨rfl, rfl⟩
  have nhy := hy.cut (k := min 60 ys.length) (Nat.min_le_right _ _)
  have lhy : (ys.take (min 60 ys.length)).length ≤ 60 := by simp; omega
  generalize ys.take (min 60 ys.length) = ys_ at *
  generalize cutTo vy (min 60 ys.length) = vy_ at *
  clear hy
  have shhy := lim_short nhy
  go_wp2_with fail
  refine (norm_any _ _ _ nhy (by omega)).mono ?_
  rintro e w6 ⟨b, rfl, nb, hb⟩
  replace nb := nb.num
  obtain ⟨B, hB⟩ : ∃ A, A = val ys_ := ⟨_, rfl⟩
  rw [← hB] at nb shhy
  replace hz := hz.below (Nat.le_refl _) hb
  replace na := na.below (Nat.le_refl _) hb
  replace b1 := bstep b1 hb
  clear hb nhy
  replace shhy : (lim B).length ≤ 60 := by omega
  clear hB lhy
  go_wp2_with fail
  refine (cut_any _ _ 60 _ hz (by decide)).mono ?_
  rintro e w7 ⟨rfl, rfl⟩
  have nhz := hz.cut (k := min 60 zs.length) (Nat.min_le_right _ _)
  have lhz : (zs.take (min 60 zs.length)).length ≤ 60 := by simp; omega
  generalize zs.take (min 60 zs.length) = zs_ at *
  generalize cutTo vz (min 60 zs.length) = vz_ at *
  clear hz
  have shhz := lim_short nhz
  go_wp2_with fail
  refine (norm_any _ _ _ nhz (by omega)).mono ?_
  rintro e w8 ⟨c, rfl, nc, hb⟩
  replace nc := nc.num
  obtain ⟨C, hC⟩ : ∃ A, A = val zs_ := ⟨_, rfl⟩
  rw [← hC] at nc shhz
  replace na := na.below (Nat.le_refl _) hb
  replace nb := nb.below (Nat.le_refl _) hb
  replace b1 := bstep b1 hb
  clear hb nhz
  replace shhz : (lim C).length ≤ 60 := by omega
  clear hC lhz
  go_wp2_with fail
  refine (divMod_any _ _ _ _ _ na nb (by omega)).mono ?_
  rintro e w9 ⟨q, r, rfl, nq, nr, _, hb⟩
  rw [val_lim, val_lim] at nq nr
  rw [val_lim]
  replace nq := nq.num
  replace nr := nr.num
  replace na := na.below (Nat.le_refl _) hb
  replace nb := nb.below (Nat.le_refl _) hb
  replace nc := nc.below (Nat.le_refl _) hb
  replace b1 := bstep b1 hb
  clear hb
  obtain ⟨bo, bc, rfl, _, _⟩ := nb.ao
  by_cases hB0 : B = 0
  · subst hB0
    rw [Nat.div_zero, lim_zero] at nq
    rw [show modZ A 0 = 0 from rfl, lim_zero] at nr
    obtain ⟨qo, qc, rfl, _, _⟩ := nq.ao
    obtain ⟨ro, rc, rfl, _, _⟩ := nr.ao
    rw [show errZ 0 = 11 from rfl, lim_zero]
    have HE : Hid (Below w1.heap.size w1 w9) := b1
    clear na nb nc nq nr b1
    go_wp2_with fail
    go_ret
    exact ⟨rfl, HE.out⟩
  · have hml : (lim (A / B)).length ≤ 60 := Nat.le_trans (lim_len_of_lt (Nat.div_le_self A B)) shhx
    have hrl : (lim (A % B)).length ≤ 60 := Nat.le_trans (lim_len_of_lt (Nat.mod_le A B)) shhx
    rw [show modZ A B = A % B by unfold modZ; rw [if_neg hB0]] at nr
    rw [show errZ B = 0 by unfold errZ; rw [if_neg hB0]]
    have hb0 : ¬ ((lim B).length : Int) = 0 := by intro h0; exact hB0 (lim_len_zero (by omega))
    have hmod : A % B < B := Nat.mod_lt _ (by omega)
    go_wp2_with fail
    refine (cmp_any _ _ _ _ _ nr nb).mono ?_
    rintro e w10 ⟨rfl, k, hk⟩
    rw [val_lim, val_lim, cmpN_lt hmod]
    have hb := belowK hk
    replace na := na.below (Nat.le_refl _) hb
    replace nb := nb.below (Nat.le_refl _) hb
    replace nc := nc.below (Nat.le_refl _) hb
    replace nq := nq.below (Nat.le_refl _) hb
    replace nr := nr.below (Nat.le_refl _) hb
    replace b1 := bstep b1 hb
    clear hb hk
    go_wp2_with fail
    refine (mul_any _ _ _ _ _ nq nb (by omega) (by omega)).mono ?_
    rintro e w11 ⟨m, rfl, nm, hb⟩
    rw [val_lim, val_lim] at nm
    replace nm := nm.num
    replace na := na.below (Nat.le_refl _) hb
    replace nb := nb.below (Nat.le_refl _) hb
    replace nc := nc.below (Nat.le_refl _) hb
    replace nq := nq.below (Nat.le_refl _) hb
    replace nr := nr.below (Nat.le_refl _) hb
    replace b1 := bstep b1 hb
    clear hb
    have hmm := prod_len hml shhy
    go_wp2_with fail
    refine (add_any _ _ _ _ _ nm nr (by omega) (by omega)).mono ?_
    rintro e w12 ⟨m2, rfl, nm2, hb⟩
    rw [val_lim, val_lim, show A / B * B + A % B = A by rw [Nat.mul_comm]; exact Nat.div_add_mod A B] at nm2
    replace nm2 := nm2.num
    replace na := na.below (Nat.le_refl _) hb
    replace nb := nb.below (Nat.le_refl _) hb
    replace nc := nc.below (Nat.le_refl _) hb
    replace nq := nq.below (Nat.le_refl _) hb
    replace nr := nr.below (Nat.le_refl _) hb
    replace b1 := bstep b1 hb
    clear hb nm
    go_wp2_with fail
    refine (lsame_any _ _ _ _ _ nm2 na).mono ?_
    rintro e w13 ⟨rfl, k, hk⟩
    rw [show decide (lim A = lim A) = true from decide_eq_true rfl]
    have hb := belowK hk
    replace na := na.below (Nat.le_refl _) hb
    replace nb := nb.below (Nat.le_refl _) hb
    replace nc := nc.below (Nat.le_refl _) hb
    replace nq := nq.below (Nat.le_refl _) hb
    replace nr := nr.below (Nat.le_refl _) hb
    replace b1 := bstep b1 hb
    clear hb hk nm2
    go_wp2_with fail
    refine (mul_any _ _ _ _ _ nc nb (by omega) (by omega)).mono ?_
    rintro e w14 ⟨m, rfl, nm, hb⟩
    rw [val_lim, val_lim] at nm
    replace nm := nm.num
    replace na := na.below (Nat.le_refl _) hb
    replace nb := nb.below (Nat.le_refl _) hb
    replace nc := nc.below (Nat.le_refl _) hb
    replace nq := nq.below (Nat.le_refl _) hb
    replace nr := nr.below (Nat.le_refl _) hb
    replace b1 := bstep b1 hb
    clear hb
    have hm3 := prod_len shhz shhy
    go_wp2_with fail
    refine (add_any _ _ _ _ _ nm nr (by omega) (by omega)).mono ?_
    rintro e w15 ⟨m2, rfl, nm2, hb⟩
    rw [val_lim, val_lim] at nm2
    replace nm2 := nm2.num
    replace na := na.below (Nat.le_refl _) hb
    replace nb := nb.below (Nat.le_refl _) hb
    replace nc := nc.below (Nat.le_refl _) hb
    replace nq := nq.below (Nat.le_refl _) hb
    replace nr := nr.below (Nat.le_refl _) hb
    replace b1 := bstep b1 hb
    clear hb nm
    have hm4 := lim_add_len hm3 (Nat.le_trans hrl (by decide : 60 ≤ 60 + 60))
    go_wp2_with fail
    refine (divMod_any _ _ _ _ _ nm2 nb (by omega)).mono ?_
    rintro e w16 ⟨s, t, rfl, ns, nt, _, hb⟩
    rw [val_lim, val_lim] at ns nt
    rw [val_lim]
    rw [show (C * B + A % B) / B = C by rw [Nat.add_comm, Nat.add_mul_div_right _ _ (by omega), Nat.div_eq_of_lt hmod, Nat.zero_add]] at ns
    rw [show modZ (C * B + A % B) B = A % B by unfold modZ; rw [if_neg hB0, Nat.add_comm, Nat.add_mul_mod_self_right, Nat.mod_mod]] at nt
    rw [show errZ B = 0 by unfold errZ; rw [if_neg hB0]]
    replace ns := ns.num
    replace nt := nt.num
    replace na := na.below (Nat.le_refl _) hb
    replace nb := nb.below (Nat.le_refl _) hb
    replace nc := nc.below (Nat.le_refl _) hb
    replace nq := nq.below (Nat.le_refl _) hb
    replace nr := nr.below (Nat.le_refl _) hb
    replace b1 := bstep b1 hb
    clear hb nm2
    go_wp2_with fail
    refine (lsame_any _ _ _ _ _ ns nc).mono ?_
    rintro e w17 ⟨rfl, k, hk⟩
    rw [show decide (lim C = lim C) = true from decide_eq_true rfl]
    have hb := belowK hk
    replace na := na.below (Nat.le_refl _) hb
    replace nb := nb.below (Nat.le_refl _) hb
    replace nc := nc.below (Nat.le_refl _) hb
    replace nq := nq.below (Nat.le_refl _) hb
    replace nr := nr.below (Nat.le_refl _) hb
    replace ns := ns.below (Nat.le_refl _) hb
    replace nt := nt.below (Nat.le_refl _) hb
    replace b1 := bstep b1 hb
    clear hb hk
    go_wp2_with fail
    refine (lsame_any _ _ _ _ _ nt nr).mono ?_
    rintro e w18 ⟨rfl, k, hk⟩
    rw [show decide (lim (A % B) = lim (A % B)) = true from decide_eq_true rfl]
    have hb := belowK hk
    replace na := na.below (Nat.le_refl _) hb
    replace nb := nb.below (Nat.le_refl _) hb
    replace nc := nc.below (Nat.le_refl _) hb
    replace nq := nq.below (Nat.le_refl _) hb
    replace nr := nr.below (Nat.le_refl _) hb
    replace ns := ns.below (Nat.le_refl _) hb
    replace nt := nt.below (Nat.le_refl _) hb
    replace b1 := bstep b1 hb
    clear hb hk
    have HE : Hid (Below w1.heap.size w1 w18) := b1
    clear na nb nc nq nr ns nt b1
    go_wp2_with fail
    go_ret
    exact ⟨rfl, HE.out⟩
end Go.Proofs.YtboohobkjhianabDoor
