/-
  Proved here: NatThere of any number and any two texts returns true, and writes nothing that was there.
-/
import Derived.Test.YtboohobkjhianacDoorThereMath
import Derived.Test.YtboohobkjhianacDoorPow
namespace Go.Proofs.YtboohobkjhianacDoor
open Go.RowKit

theorem num_drew {w : World} {v : Value} {xs : List Nat} (h : Num w v xs) : Num w.drew v xs := h.same rfl
theorem num_on {w w' : World} {v : Value} {xs : List Nat} (h : Num w v xs) (hb : Below w.drew.heap.size w.drew w') : Num w' v xs := (num_drew h).below (Nat.le_refl _) hb
theorem below_drew (w : World) : Below w.heap.size w w.drew := (Below.refl _ _).drew
theorem ten_bits {e : Nat} (h : e ≤ 300) : bl (10 ^ e) ≤ 262144 := by
  have h1 : 10 ^ e ≤ (2 ^ 4) ^ e := Nat.pow_le_pow_left (by decide) e
  have h2 : bl (10 ^ e) ≤ 4 * e + 1 := by
    rw [bl_le_iff, Nat.pow_succ, Nat.pow_mul]
    have h2 : 0 < (2 ^ 4) ^ e := Nat.pow_pos (by decide)
    omega
  omega
theorem dig_len {s : ByteArray} (h : DigOk s) : (lim (bval (dgs s))).length ≤ s.size := by
  apply lim_len_le
  have h1 := dval_lt (decs_rev h.decs)
  rw [List.length_reverse, dgs_len] at h1
  exact Nat.lt_of_lt_of_le h1 (Nat.pow_le_pow_left (by decide : 10 ≤ 4294967296) _)

set_option maxRecDepth 100000 in
set_option maxHeartbeats 8000000 in
theorem natThere_top (vx : Value) (xs : List Nat) (s t : ByteArray) (w1 : World) (hx : Num w1 vx xs) (hs : s.size ≤ maxLen) (ht : t.size ≤ maxLen) :
    Calls Tryd.prog 4 #[vx, .string s, .string t] w1 fun e w' => e = .returned (.bool true) ∧ Below w1.heap.size w1 w' := by
  have b1 : Below w1.heap.size w1 w1 := Below.refl _ _
  have HS : Hid (s.size ≤ maxLen ∧ t.size ≤ maxLen) := ⟨hs, ht⟩
  clear hs ht
  go_enter Tryd.func4, Tryd.ntmps4
  go_wp2_with fail
  refine (alive_yes _).mono ?_
  rintro e w2 ⟨rfl, hb⟩
  replace hx := hx.below (Nat.le_refl _) hb
  replace b1 := bstep b1 hb
  clear hb
  go_wp2_with fail
  refine (cut_any _ _ 60 _ hx (by decide)).mono ?_
  rintro e w3 ⟨rfl, rfl⟩
  have nhx := hx.cut (k := min 60 xs.length) (Nat.min_le_right _ _)
  have lhx : (xs.take (min 60 xs.length)).length ≤ 60 := by simp; omega
  generalize xs.take (min 60 xs.length) = xs_ at *
  generalize cutTo vx (min 60 xs.length) = vx_ at *
  clear hx
  have shhx := lim_short nhx
  go_wp2_with fail
  refine (norm_any _ _ _ nhx (by omega)).mono ?_
  rintro e w4 ⟨a, rfl, na, hb⟩
  replace na := na.num
  obtain ⟨A, hA⟩ : ∃ A, A = val xs_ := ⟨_, rfl⟩
  rw [← hA] at na shhx
  replace b1 := bstep b1 hb
  clear hb nhx
  replace shhx : (lim A).length ≤ 60 := by omega
  clear hA lhx
  go_wp2_with fail
  refine (text_any _ _ _ na (by omega)).mono ?_
  rintro e w5 ⟨rfl, hb⟩
  rw [val_lim]
  replace na := na.below (Nat.le_refl _) hb
  replace b1 := bstep b1 hb
  clear hb
  have hta : (txt A).size ≤ 1000000 := by
    rw [txt_size]
    have h1 := bval_wri A
    have h2 : (wri A).length ≤ 1921 := wri_len shhx
    omega
  have hdt := txt_dig A
  have HDT : Hid (DigOk (txt A) ∧ 0 < (txt A).size) := hdt
  have HTV : Hid (bval (dgs (txt A)) = A) := by show _ = _; rw [txt_dgs, bval_wri]
  clear hdt
  generalize txt A = TA at *
  go_wp2_with fail
  refine (parse_any _ _ hta).mono ?_
  rintro e w6 ⟨b, rfl, nb, hb⟩
  rw [if_pos HDT.out]
  rw [if_pos HDT.out, HTV.out] at nb
  replace nb := nb.num
  clear HDT HTV hta
  replace na := na.below (Nat.le_refl _) hb
  replace b1 := bstep b1 hb
  clear hb
  go_wp2_with fail
  refine (ldigits_any _ _ HS.out.1).mono ?_
  rintro e w7 ⟨u, rfl, hdu, hu0, hu3, hb⟩
  have HDU : Hid (DigOk u ∧ 0 < u.size) := ⟨hdu, hu0⟩
  have Lu := dig_len hdu
  clear hdu
  replace na := na.below (Nat.le_refl _) hb
  replace nb := nb.below (Nat.le_refl _) hb
  replace b1 := bstep b1 hb
  clear hb
  go_wp2_with fail
  refine (ldigits_any _ _ HS.out.2).mono ?_
  rintro e w8 ⟨v, rfl, hdv, hv0, hv3, hb⟩
  have HDV : Hid (DigOk v ∧ 0 < v.size) := ⟨hdv, hv0⟩
  have Lv := dig_len hdv
  clear hdv
  replace na := na.below (Nat.le_refl _) hb
  replace nb := nb.below (Nat.le_refl _) hb
  replace b1 := bstep b1 hb
  clear hb
  have HCC : Hid (bval (dgs (u ++ v)) = bval (dgs u) * 10 ^ v.size + bval (dgs v)) := by show _ = _; rw [app_dgs, bval_append, dgs_len]
  have HDUV : Hid (DigOk (u ++ v) ∧ 0 < (u ++ v).size) := ⟨app_dig HDU.out.1 HDV.out.1, by rw [app_size]; omega⟩
  obtain ⟨C, hC⟩ : ∃ C, C = bval (dgs u) := ⟨_, rfl⟩
  obtain ⟨D, hD⟩ : ∃ D, D = bval (dgs v) := ⟨_, rfl⟩
  rw [← hC] at Lu HCC
  rw [← hD] at Lv HCC
  have HC : Hid (C = bval (dgs u)) := hC
  have HD : Hid (D = bval (dgs v)) := hD
  clear hC hD
  go_wp2_with fail
  refine (parse_any _ _ (by omega)).mono ?_
  rintro e w9 ⟨c, rfl, nc, hb⟩
  rw [if_pos HDU.out]
  rw [if_pos HDU.out, ← HC.out] at nc
  replace nc := nc.num
  replace na := na.below (Nat.le_refl _) hb
  replace nb := nb.below (Nat.le_refl _) hb
  replace b1 := bstep b1 hb
  clear hb
  go_wp2_with fail
  refine (parse_any _ _ (by omega)).mono ?_
  rintro e w10 ⟨d, rfl, nd, hb⟩
  rw [if_pos HDV.out]
  rw [if_pos HDV.out, ← HD.out] at nd
  replace nd := nd.num
  replace na := na.below (Nat.le_refl _) hb
  replace nb := nb.below (Nat.le_refl _) hb
  replace nc := nc.below (Nat.le_refl _) hb
  replace b1 := bstep b1 hb
  clear hb
  go_wp2_with fail
  refine (parse_any _ _ (by rw [app_size]; omega)).mono ?_
  rintro e w11 ⟨bo, rfl, nbo, hb⟩
  rw [if_pos HDUV.out]
  rw [if_pos HDUV.out, HCC.out] at nbo
  replace nbo := nbo.num
  replace na := na.below (Nat.le_refl _) hb
  replace nb := nb.below (Nat.le_refl _) hb
  replace nc := nc.below (Nat.le_refl _) hb
  replace nd := nd.below (Nat.le_refl _) hb
  replace b1 := bstep b1 hb
  clear hb
  have hPT := pow_any _ _ v.size _ (lit1 w11 10 (by decide)) (by simp) (by omega)
  rw [show val [10] = 10 from rfl] at hPT
  go_wp2_with fail
  refine (hPT).mono ?_
  rintro e w12 ⟨hok, _, hb⟩
  obtain ⟨te, rfl, nte⟩ := hok (ten_bits hv3)
  replace nte := nte.num
  clear hok hPT
  replace hb := bstep (belowA w11 (.cells #[.int .u32 10] 28)) hb
  replace na := na.below (Nat.le_refl _) hb
  replace nb := nb.below (Nat.le_refl _) hb
  replace nc := nc.below (Nat.le_refl _) hb
  replace nd := nd.below (Nat.le_refl _) hb
  replace nbo := nbo.below (Nat.le_refl _) hb
  replace b1 := bstep b1 hb
  clear hb
  have Lt : (lim (10 ^ v.size)).length ≤ 8192 := len_of_bl (by have := ten_bits hv3; omega)
  go_wp2_with fail
  refine (lsame_any _ _ _ _ _ na nb).mono ?_
  rintro e w13 ⟨rfl, kk, hk⟩
  rw [show decide (lim A = lim A) = true from decide_eq_true rfl]
  have hb := belowK hk
  replace na := na.below (Nat.le_refl _) hb
  replace nc := nc.below (Nat.le_refl _) hb
  replace nd := nd.below (Nat.le_refl _) hb
  replace nbo := nbo.below (Nat.le_refl _) hb
  replace nte := nte.below (Nat.le_refl _) hb
  replace b1 := bstep b1 hb
  clear hb hk nb
  have Lct := prod_len Lu Lt
  have HF : Hid (Num w13 c (lim C) ∧ Num w13 d (lim D) ∧ Num w13 bo (lim (C * 10 ^ v.size + D)) ∧ Num w13 te (lim (10 ^ v.size))) := ⟨nc, nd, nbo, nte⟩
  have HB1 : Hid (Below w1.heap.size w1 w13) := b1
  clear na nc nd nbo nte b1 HDUV HCC HS
  have hu1 : (1 : Int) ≤ (u.size : Int) := by omega
  go_wp2_with fail
  go_loop [21] (fun kv => ∃ k : Nat, k < u.size ∧ kv = .int .i64 k ∧ ∀ j, j < k → bt u j = 48) (fun kv => u.size - (intOf kv).toNat)
  case atStart => exact ⟨0, hu0, rfl, fun j hj => by omega⟩
  case round =>
    obtain ⟨k, hk, rfl, hz⟩ := hrel
    have HZ : Hid (∀ j, j < k → bt u j = 48) := hz
    clear hz
    have hg := bt_get hk
    obtain ⟨ch, hch⟩ : ∃ ch, ch = bt u k := ⟨_, rfl⟩
    rw [← hch] at hg
    have HCH : Hid (ch = bt u k) := hch
    clear hch
    have hk' : (k : Int) < (u.size : Int) := by omega
    by_cases hgo : k + 1 < u.size ∧ ch = 48
    · obtain ⟨h1, h2⟩ := hgo
      subst h2
      have h1' : (k : Int) < (u.size : Int) - 1 := by omega
      go_wp2
      go_round
      case rel =>
        refine ⟨k + 1, by omega, by go_num, fun j hj => ?_⟩
        by_cases hjk : j = k
        · rw [hjk]; exact HCH.out.symm
        · exact HZ.out j (by omega)
      case measure => simp [intOf]; omega
    · have HL : Hid (bt u k ≠ 48 ∨ k + 1 = u.size) := by
        show _ ∨ _
        rw [← HCH.out]
        by_cases h48 : ch = 48
        · right
          rcases Nat.lt_or_ge (k + 1) u.size with h | h
          · exact absurd ⟨h, h48⟩ hgo
          · omega
        · exact Or.inl h48
      have HTX : Hid (u.extract k u.size = txt C) := by
        show _ = _
        rw [HC.out]
        exact txt_rest HDU.out.1 hk HZ.out HL.out (by rw [extract_list, List.take_of_length_le (by rw [List.length_drop, Array.length_toList]; exact Nat.le_refl _)])
      obtain ⟨TC, hTC⟩ : ∃ TC, TC = txt C := ⟨_, rfl⟩
      have HTC : Hid (TC = txt C) := hTC
      have htx : u.extract k u.size = TC := by rw [hTC]; exact HTX.out
      clear hTC HTX
      have hkk : (k : Int) ≤ (u.size : Int) := by omega
      have hkn : k ≤ u.size := by omega
      rcases (show k + 1 = u.size ∨ (k + 1 < u.size ∧ ch ≠ 48) by
        rcases Nat.lt_or_ge (k + 1) u.size with h | h
        · exact Or.inr ⟨h, fun h48 => hgo ⟨h, h48⟩⟩
        · omega) with hA | ⟨hA, hB⟩
      · have h1' : ¬ (k : Int) < (u.size : Int) - 1 := by omega
        clear hgo hA
        go_wp2_with fail
        go_region_with (first
          | (go_at_call 16; refine (text_any _ _ _ (num_drew HF.out.1) (by omega)).mono ?_; rintro e wT ⟨rfl, hbT⟩; rw [val_lim, ← HTC.out])
          | (go_at_call 13; refine (mul_any _ _ _ _ _ (num_on HF.out.1 hbT) (num_on HF.out.2.2.2 hbT) (by omega) (by omega)).mono ?_; rw [val_lim, val_lim]; rintro e wM ⟨mm, rfl, nm, hbM⟩)
          | (go_at_call 11; refine (add_any _ _ _ _ _ nm.num ((num_on HF.out.2.1 hbT).below (Nat.le_refl _) hbM) (by omega) (by omega)).mono ?_; rw [val_lim, val_lim]; rintro e wA ⟨m2, rfl, nm2, hbA⟩)
          | (go_at_call 14; refine (lsame_any _ _ _ _ _ (((num_on HF.out.2.2.1 hbT).below (Nat.le_refl _) hbM).below (Nat.le_refl _) hbA) nm2.num).mono ?_; rintro e wS ⟨rfl, kk, hkk⟩; rw [show decide (lim (C * 10 ^ v.size + D) = lim (C * 10 ^ v.size + D)) = true from decide_eq_true rfl]))
        all_goals
          have HE : Hid (Below w1.heap.size w1 (wA.drewN kk)) := bstep (bstep (bstep (bstep HB1.out (bstep (below_drew _) hbT)) hbM) hbA) (belowDN _ _)
          clear hbT hbM hbA nm nm2
          go_wp2_with fail
          go_ret
          exact ⟨rfl, HE.out⟩
      · have h1' : (k : Int) < (u.size : Int) - 1 := by omega
        have hB' : ¬ (ch : Int) = 48 := by omega
        clear hgo hA hB
        go_wp2_with fail
        go_region_with (first
          | (go_at_call 16; refine (text_any _ _ _ (num_drew HF.out.1) (by omega)).mono ?_; rintro e wT ⟨rfl, hbT⟩; rw [val_lim, ← HTC.out])
          | (go_at_call 13; refine (mul_any _ _ _ _ _ (num_on HF.out.1 hbT) (num_on HF.out.2.2.2 hbT) (by omega) (by omega)).mono ?_; rw [val_lim, val_lim]; rintro e wM ⟨mm, rfl, nm, hbM⟩)
          | (go_at_call 11; refine (add_any _ _ _ _ _ nm.num ((num_on HF.out.2.1 hbT).below (Nat.le_refl _) hbM) (by omega) (by omega)).mono ?_; rw [val_lim, val_lim]; rintro e wA ⟨m2, rfl, nm2, hbA⟩)
          | (go_at_call 14; refine (lsame_any _ _ _ _ _ (((num_on HF.out.2.2.1 hbT).below (Nat.le_refl _) hbM).below (Nat.le_refl _) hbA) nm2.num).mono ?_; rintro e wS ⟨rfl, kk, hkk⟩; rw [show decide (lim (C * 10 ^ v.size + D) = lim (C * 10 ^ v.size + D)) = true from decide_eq_true rfl]))
        all_goals
          have HE : Hid (Below w1.heap.size w1 (wA.drewN kk)) := bstep (bstep (bstep (bstep HB1.out (bstep (below_drew _) hbT)) hbM) hbA) (belowDN _ _)
          clear hbT hbM hbA nm nm2
          go_wp2_with fail
          go_ret
          exact ⟨rfl, HE.out⟩
end Go.Proofs.YtboohobkjhianacDoor
