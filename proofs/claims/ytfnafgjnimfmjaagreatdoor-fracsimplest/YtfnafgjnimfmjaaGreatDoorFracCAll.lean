/-
  Proved here: what leap answers.
  Proved here: what gcdShort and Gcd answer.
  Proved here: how fractions lie in memory, and a move for a region of which two operations may come first.
  Proved here: what under, cross and lowest of package frac answer.
  Proved here: what the functions of package frac that make, compare and reckon answer.
-/
import Derived.Test.YtfnafgjnimfmjaaGreatDoorPowMathAll
import Derived.Test.YtfnafgjnimfmjaaGreatDoorSubAll
import Derived.Test.YtfnafgjnimfmjaaGreatDoorTrimLAll
import Derived.Test.YtfnafgjnimfmjaaGreatDoorWholeX1All
namespace Go.Proofs.YtfnafgjnimfmjaaGreatDoor
set_option maxRecDepth 100000
set_option maxHeartbeats 12800000
open Go.RowKit

theorem keepB9 {w w' : World} {p : Addr} {v : Value} (hb : Below w.heap.size w w') (h : w.cell? p = some v) : w'.cell? p = some v := by
 rw [hb.cell (block_lt_of_cell h), h]
def LeapEnd (C : Nat) (w : World) (a b : Nat) (e : Ending) (w' : World) : Prop :=
 ∃ vc vd c d, e = .returned (.tuple #[vc, vd]) ∧ Own C 37 w' vc (lim c) ∧ Own C 37 w' vd (lim d) ∧ d ≤ c ∧ c ≤ b ∧ Nat.gcd c d = Nat.gcd a b ∧ c + d < a + b ∧ Below w.heap.size w w'
theorem steps_new (w : World) (u0 v0 u1 v1 : Nat) (ev : Bool) : Steps (w.alloc (.cells #[.int .u64 (u0 : Int), .int .u64 (v0 : Int), .int .u64 (u1 : Int), .int .u64 (v1 : Int), .bool ev] 132)) w.heap.size u0 v0 u1 v1 ev := heap_alloc_new w _
theorem sub_of {p q c : Nat} (h : p + c = q) : p ≤ q ∧ q - p = c := by omega
theorem blend2 {va vb : Value} {w : World} {a b u v c : Nat} (ha : Num w va (lim a)) (hb : Num w vb (lim b)) (hu : u < 4294967296) (hv : v < 4294967296) (la : (lim a).length ≤ 1099511627776) (lb : (lim b).length ≤ 1099511627776) (h : b * v + c = a * u) (hc : c < 4294967296 ^ (max (lim a).length (lim b).length)) :
  Calls Tryz.prog 116 #[va, .int .u64 (u : Int), vb, .int .u64 (v : Int)] w fun e w' => ∃ m, e = .returned m ∧ Own w.heap.size 37 w' m (lim c) ∧ Below w.heap.size w w' := by
 have hk := sub_of h
 have hm := blend_any va vb (lim a) (lim b) (u : Int) (v : Int) w ha hb (by omega) (by omega) (by omega) (by omega) la lb (by rw [val_lim, val_lim, Int.toNat_natCast, Int.toNat_natCast]; exact hk.1) (by rw [val_lim, val_lim, Int.toNat_natCast, Int.toNat_natCast, hk.2]; exact hc)
 rw [val_lim, val_lim, Int.toNat_natCast, Int.toNat_natCast, hk.2] at hm
 exact hm
theorem below_dr (w : World) : Below w.heap.size w w.drew := (Below.refl _ _).drew
theorem win_eq {a n : Nat} (h : a < 2 ^ (n + 64)) : a / 2 ^ n % 18446744073709551616 = a / 2 ^ n := by
 apply Nat.mod_eq_of_lt
 apply Nat.div_lt_of_lt_mul
 rw [Nat.pow_add] at h
 exact h
theorem leap_any (va vb : Value) (A Bn C : Nat) (w : World) (ha : Own C 37 w va (lim A)) (hb : Own C 37 w vb (lim Bn)) (hC : C ≤ w.heap.size) (hle : Bn ≤ A) (hbig : 2 ^ 64 ≤ Bn) (la : (lim A).length ≤ 30000000) :
  Calls Tryz.prog 111 #[va, vb] w fun e w' => LeapEnd C w A Bn e w' := by
 obtain ⟨ao, ac, rfl, hac, ham⟩ := ha.num.ao
 obtain ⟨bo, bc, rfl, hbc, hbm⟩ := hb.num.ao
 obtain ⟨al, hal⟩ : ∃ l, l = (lim A).length := ⟨_, rfl⟩
 obtain ⟨bl_, hbl⟩ : ∃ l, l = (lim Bn).length := ⟨_, rfl⟩
 rw [← hal] at ha la ⊢
 rw [← hbl] at hb ⊢
 have lb : bl_ ≤ 30000000 := by rw [hbl]; exact Nat.le_trans (lim_len_le (Nat.lt_of_le_of_lt hle (lim_lt_of_len (k := al) (by omega)))) la
 have hA64 : 64 < bl A := bl_gt_iff.2 (Nat.le_trans hbig hle)
 have hblA : bl A ≤ 32 * al := by rw [hal]; exact bl_lim_len
 obtain ⟨n, hn⟩ : ∃ n, bl A = n + 64 := ⟨bl A - 64, by omega⟩
 have hn1 : n ≤ 1000000000 := by omega
 have hA2 : A < 2 ^ (n + 64) := by rw [← hn]; exact bl_lt' A
 have hB2 : Bn < 2 ^ (n + 64) := Nat.lt_of_le_of_lt hle hA2
 obtain ⟨X, hX⟩ : ∃ X, X = A / 2 ^ n := ⟨_, rfl⟩
 obtain ⟨Y, hY⟩ : ∃ Y, Y = Bn / 2 ^ n := ⟨_, rfl⟩
 have HWX : Hid (A / 2 ^ n % 18446744073709551616 = X) := by show _ = _; rw [win_eq hA2, hX]
 have HWY : Hid (Bn / 2 ^ n % 18446744073709551616 = Y) := by show _ = _; rw [win_eq hB2, hY]
 have HX64 : Hid (X < 18446744073709551616) := by show _ < _; rw [← HWX.out]; exact Nat.mod_lt _ (by decide)
 have HYX : Hid (Y ≤ X) := by show _ ≤ _; rw [hX, hY]; exact Nat.div_le_div_right hle
 have HS : Hid (0 < 2 ^ n ∧ X * 2 ^ n ≤ A ∧ A < X * 2 ^ n + 2 ^ n ∧ Y * 2 ^ n ≤ Bn ∧ Bn < Y * 2 ^ n + 2 ^ n) := by
  rw [hX, hY]
  have hp := Nat.two_pow_pos n
  exact ⟨hp, Nat.div_mul_le_self _ _, Nat.lt_div_mul_add hp, Nat.div_mul_le_self _ _, Nat.lt_div_mul_add hp⟩
 have HB0 : Hid (0 < Bn) := Nat.lt_of_lt_of_le (Nat.two_pow_pos 64) hbig
 have HLE : Hid (Bn ≤ A) := hle
 have HNL : Hid (Bn < 4294967296 ^ bl_) := lim_lt_of_len (by rw [hbl]; exact Nat.le_refl _)
 have HBL : Hid (bl A = n + 64) := hn
 have en : ((n + 64 : Nat) : Int) - 64 = (n : Int) := by omega
 have HLA : Hid ((lim A).length = al) := hal.symm
 have HLB : Hid ((lim Bn).length = bl_) := hbl.symm
 have hbw : Below w.heap.size w w := Below.refl _ _
 clear hX hY hA2 hB2 hn hal hbl hbig hle hA64 hblA
 go_enter Tryz.func111, Tryz.ntmps111
 go_wp2_with fail
 refine (bits_any _ _ _ ha.num (by rw [HLA.out]; omega)).mono ?_
 rw [val_lim, HBL.out]
 rintro e w2 ⟨rfl, h2⟩
 rw [h2]
 clear h2
 go_wp2_with fail
 refine (window_any _ _ n _ ha.num hn1).mono ?_
 rw [val_lim, HWX.out]
 rintro e w3 ⟨rfl, k3, h3⟩
 have b := belowK h3
 replace ha := ha.below b
 replace hb := hb.below b
 replace hbw := bstep hbw b
 clear b h3
 go_wp2_with fail
 refine (window_any _ _ n _ hb.num hn1).mono ?_
 rw [val_lim, HWY.out]
 rintro e w4 ⟨rfl, k4, h4⟩
 have b := belowK h4
 replace ha := ha.below b
 replace hb := hb.below b
 replace hbw := bstep hbw b
 clear b h4
 go_wp2_with fail
 refine (foresee_any X Y _ HX64.out HYX.out).mono ?_
 rintro e w5 ⟨u0, v0, u1, v1, ev, rfl, hfo, b⟩
 replace ha := ha.below b
 replace hb := hb.below b
 replace hbw := bstep hbw b
 clear b
 obtain ⟨W6, hW6⟩ : ∃ W, W = w5.alloc (.cells #[.int .u64 (u0 : Int), .int .u64 (v0 : Int), .int .u64 (u1 : Int), .int .u64 (v1 : Int), .bool ev] 132) := ⟨_, rfl⟩
 have st : Steps W6 w5.heap.size u0 v0 u1 v1 ev := by rw [hW6]; exact steps_new _ _ _ _ _ _
 have b : Below w5.heap.size w5 W6 := by rw [hW6]; exact belowA _ _
 replace ha := ha.below b
 replace hb := hb.below b
 replace hbw := bstep hbw b
 clear b
 have cz : (w5.alloc (.cells #[.int .u64 (u0 : Int), .int .u64 (v0 : Int), .int .u64 (u1 : Int), .int .u64 (v1 : Int), .bool ev] 132)).cell? ⟨w5.heap.size, 1, none⟩ = some (.int .u64 (v0 : Int)) := by rw [← hW6]; exact st.cells.2.1
 have cy : (w5.alloc (.cells #[.int .u64 (u0 : Int), .int .u64 (v0 : Int), .int .u64 (u1 : Int), .int .u64 (v1 : Int), .bool ev] 132)).cell? ⟨w5.heap.size, 4, none⟩ = some (.bool ev) := by rw [← hW6]; exact st.cells.2.2.2.2
 have HW6 : Hid (W6 = w5.alloc (.cells #[.int .u64 (u0 : Int), .int .u64 (v0 : Int), .int .u64 (u1 : Int), .int .u64 (v1 : Int), .bool ev] 132)) := hW6
 clear hW6
 by_cases hv0 : v0 = 0
 ·
  have hv00 : ((v0 : Int) == 0) = true := by simp [hv0]
  clear hfo hv0
  go_wp2_with fail
  rw [← HW6.out]
  clear HW6 cz cy
  refine (divMod_any _ _ _ _ _ ha.num hb.num (by rw [HLA.out]; omega)).mono ?_
  rw [val_lim, val_lim]
  rintro e w7 ⟨q, r, rfl, hq, hr, hqr, b⟩
  have hmz : modZ A Bn = A % Bn := by unfold modZ; rw [if_neg (by have := HB0.out; omega)]
  have hml : A % Bn < Bn := Nat.mod_lt _ HB0.out
  have hgc : Nat.gcd Bn (A % Bn) = Nat.gcd A Bn := by rw [Nat.gcd_comm, ← Nat.gcd_rec, Nat.gcd_comm]
  have hle := HLE.out
  rw [hmz] at hr
  have HE : Hid (LeapEnd C w A Bn (.returned (.tuple #[.slice bo bl_ bc, r])) w7) := ⟨_, r, Bn, A % Bn, rfl, hb.below b, hr.mono (Nat.le_trans hC hbw.size), by omega, Nat.le_refl _, hgc, by omega, bstep hbw b⟩
  obtain ⟨ro, rl, rc, rfl⟩ := hr.sl
  obtain ⟨qo, ql, qc, rfl⟩ := hq.sl
  generalize errZ Bn = er
  clear ha hb hq hr hqr b hbw st hmz hml hgc hle
  go_wp2_with fail
  go_ret2
  exact HE.out
 ·
  obtain ⟨z, x, hD⟩ := hfo.resolve_left hv0
  have hv00 : ((v0 : Int) == 0) = false := by simpa using hv0
  obtain ⟨c, d, hcd, hdc, hcb, hgg, hlt⟩ := leap_made HS.out.1 HS.out.2.1 HS.out.2.2.1 HS.out.2.2.2.1 HS.out.2.2.2.2 HB0.out hv0 hD
  obtain ⟨hs_u0, hs_v0, hs_u1, hs_v1⟩ := hD.small
  clear hfo hD hv0
  cases ev
  ·
   simp only [Bool.false_eq_true, if_false] at hcd
   go_wp2_with fail
   rw [← HW6.out]
   clear HW6 cz cy
   obtain ⟨g, hg⟩ : ∃ g, g = w5.heap.size := ⟨_, rfl⟩
   rw [← hg] at st ⊢
   clear hg
   obtain ⟨s0, s1, s2, s3, s4⟩ := st.cells
   refine region_late [(2, fun w' => w'.cell? ⟨g, 1, none⟩ = some (.int .u64 (v0 : Int))), (5, fun w' => w'.cell? ⟨g, 0, none⟩ = some (.int .u64 (u0 : Int))), (9, fun w' => w'.cell? ⟨g, 2, none⟩ = some (.int .u64 (u1 : Int))), (12, fun w' => w'.cell? ⟨g, 3, none⟩ = some (.int .u64 (v1 : Int)))] (by kernel_rfl) ?_
   have hHeld : AllL W6.drew [(2, fun w' => w'.cell? ⟨g, 1, none⟩ = some (.int .u64 (v0 : Int))), (5, fun w' => w'.cell? ⟨g, 0, none⟩ = some (.int .u64 (u0 : Int))), (9, fun w' => w'.cell? ⟨g, 2, none⟩ = some (.int .u64 (u1 : Int))), (12, fun w' => w'.cell? ⟨g, 3, none⟩ = some (.int .u64 (v1 : Int)))] := ⟨s1, s0, s2, s3, trivial⟩
   refine late_fr 0 (v := .slice bo bl_ bc) rfl (Or.inl ⟨by rfl, ?_⟩) hHeld ?_
   · (intro u _; go_simp)
   try simp only [pu1, pu2, pu3, pu4]
   refine late_fr 1 (v := .pointer (some ⟨g, 1, none⟩)) rfl (Or.inl ⟨by rfl, ?_⟩) hHeld ?_
   · (intro u _; go_simp)
   try simp only [pu1, pu2, pu3, pu4]
   refine late_tk 2 (v := .int .u64 (v0 : Int)) rfl (List.Mem.head _) (Or.inl ⟨by rfl, ?_⟩) hHeld ?_
   · (intro u hu; (try dsimp only at hu); go_split_ands; go_simp)
   try simp only [pu1, pu2, pu3, pu4]
   refine late_fr 3 (v := .slice ao al ac) rfl (Or.inl ⟨by rfl, ?_⟩) hHeld ?_
   · (intro u _; go_simp)
   try simp only [pu1, pu2, pu3, pu4]
   refine late_fr 4 (v := .pointer (some ⟨g, 0, none⟩)) rfl (Or.inl ⟨by rfl, ?_⟩) hHeld ?_
   · (intro u _; go_simp)
   try simp only [pu1, pu2, pu3, pu4]
   refine late_tk 5 (v := .int .u64 (u0 : Int)) rfl (List.Mem.tail _ (List.Mem.head _)) (Or.inl ⟨by rfl, ?_⟩) hHeld ?_
   · (intro u hu; (try dsimp only at hu); go_split_ands; go_simp)
   try simp only [pu1, pu2, pu3, pu4]
   refine late_fr 7 (v := .slice ao al ac) rfl (Or.inl ⟨by rfl, ?_⟩) hHeld ?_
   · (intro u _; go_simp)
   try simp only [pu1, pu2, pu3, pu4]
   refine late_fr 8 (v := .pointer (some ⟨g, 2, none⟩)) rfl (Or.inl ⟨by rfl, ?_⟩) hHeld ?_
   · (intro u _; go_simp)
   try simp only [pu1, pu2, pu3, pu4]
   refine late_tk 9 (v := .int .u64 (u1 : Int)) rfl (List.Mem.tail _ (List.Mem.tail _ (List.Mem.head _))) (Or.inl ⟨by rfl, ?_⟩) hHeld ?_
   · (intro u hu; (try dsimp only at hu); go_split_ands; go_simp)
   try simp only [pu1, pu2, pu3, pu4]
   refine late_fr 10 (v := .slice bo bl_ bc) rfl (Or.inl ⟨by rfl, ?_⟩) hHeld ?_
   · (intro u _; go_simp)
   try simp only [pu1, pu2, pu3, pu4]
   refine late_fr 11 (v := .pointer (some ⟨g, 3, none⟩)) rfl (Or.inl ⟨by rfl, ?_⟩) hHeld ?_
   · (intro u _; go_simp)
   try simp only [pu1, pu2, pu3, pu4]
   refine late_tk 12 (v := .int .u64 (v1 : Int)) rfl (List.Mem.tail _ (List.Mem.tail _ (List.Mem.tail _ (List.Mem.head _)))) (Or.inl ⟨by rfl, ?_⟩) hHeld ?_
   · (intro u hu; (try dsimp only at hu); go_split_ands; go_simp)
   try simp only [pu1, pu2, pu3, pu4]
   refine late_st 6 rfl (fun K hK => ?_)
   go_simp
   refine (blend2 (hb.below (below_dr _)).num (ha.below (below_dr _)).num hs_v0 hs_u0 (by rw [HLB.out]; omega) (by rw [HLA.out]; omega) hcd.1 (Nat.lt_of_lt_of_le (Nat.lt_of_le_of_lt hcb HNL.out) (Nat.pow_le_pow_right (Nat.succ_pos _) (by rw [HLA.out, HLB.out]; omega)))).mono ?_
   rintro e w7 ⟨vc, rfl, hvc, b7⟩
   obtain ⟨vco, vcl, vcc, rfl⟩ := hvc.sl
   go_wp2_with fail
   refine hK.out _ _ (AllL.kept ⟨keepB9 (bstep (below_dr _) b7) s1, keepB9 (bstep (below_dr _) b7) s0, keepB9 (bstep (below_dr _) b7) s2, keepB9 (bstep (below_dr _) b7) s3, trivial⟩) ?_
   clear hK K
   try simp only [pu1, pu2, pu3, pu4]
   refine late_st 13 rfl (fun K hK => ?_)
   go_simp
   refine (blend2 ((ha.below (below_dr _)).below b7).num ((hb.below (below_dr _)).below b7).num hs_u1 hs_v1 (by rw [HLA.out]; omega) (by rw [HLB.out]; omega) hcd.2 (Nat.lt_of_lt_of_le (Nat.lt_of_le_of_lt (Nat.le_trans hdc hcb) HNL.out) (Nat.pow_le_pow_right (Nat.succ_pos _) (by rw [HLA.out, HLB.out]; omega)))).mono ?_
   rintro e w8 ⟨vd, rfl, hvd, b8⟩
   obtain ⟨vdo, vdl, vdc, rfl⟩ := hvd.sl
   go_wp2_with fail
   refine hK.out _ _ (AllL.kept ⟨keepB9 (bstep (below_dr _) (bstep b7 b8)) s1, keepB9 (bstep (below_dr _) (bstep b7 b8)) s0, keepB9 (bstep (below_dr _) (bstep b7 b8)) s2, keepB9 (bstep (below_dr _) (bstep b7 b8)) s3, trivial⟩) ?_
   clear hK K
   try simp only [pu1, pu2, pu3, pu4]
   have HE : Hid (LeapEnd C w A Bn (.returned (.tuple #[.slice vco vcl vcc, .slice vdo vdl vdc])) w8) := ⟨_, _, c, d, rfl, (hvc.below b8).mono (Nat.le_trans hC hbw.size), hvd.mono (Nat.le_trans hC (Nat.le_trans hbw.size b7.size)), hdc, hcb, hgg, hlt, bstep hbw (bstep (below_dr _) (bstep b7 b8))⟩
   clear hHeld ha hb hvc hvd b7 b8 hbw st
   refine late_st 14 rfl (fun K hK => ?_)
   go_simp
   refine hK.out _ _ ⟨kpt 6, kpt 6, kpt 13, kpt 13, trivial⟩ ?_
   clear hK K
   try simp only [pu1, pu2, pu3, pu4]
   refine late_st 15 rfl (fun K hK => ?_)
   go_simp
   refine hK.out _ _ ⟨kpt 6, kpt 6, kpt 13, kpt 13, trivial⟩ ?_
   clear hK K
   try simp only [pu1, pu2, pu3, pu4]
   refine late_done (by kernel_rfl) ?_ _
   go_wp2_with fail
   go_ret2
   exact HE.out
  ·
   simp only [if_true] at hcd
   go_wp2_with fail
   rw [← HW6.out]
   clear HW6 cz cy
   obtain ⟨g, hg⟩ : ∃ g, g = w5.heap.size := ⟨_, rfl⟩
   rw [← hg] at st ⊢
   clear hg
   obtain ⟨s0, s1, s2, s3, s4⟩ := st.cells
   refine region_late [(2, fun w' => w'.cell? ⟨g, 0, none⟩ = some (.int .u64 (u0 : Int))), (5, fun w' => w'.cell? ⟨g, 1, none⟩ = some (.int .u64 (v0 : Int))), (9, fun w' => w'.cell? ⟨g, 3, none⟩ = some (.int .u64 (v1 : Int))), (12, fun w' => w'.cell? ⟨g, 2, none⟩ = some (.int .u64 (u1 : Int)))] (by kernel_rfl) ?_
   have hHeld : AllL W6.drew [(2, fun w' => w'.cell? ⟨g, 0, none⟩ = some (.int .u64 (u0 : Int))), (5, fun w' => w'.cell? ⟨g, 1, none⟩ = some (.int .u64 (v0 : Int))), (9, fun w' => w'.cell? ⟨g, 3, none⟩ = some (.int .u64 (v1 : Int))), (12, fun w' => w'.cell? ⟨g, 2, none⟩ = some (.int .u64 (u1 : Int)))] := ⟨s0, s1, s3, s2, trivial⟩
   refine late_fr 0 (v := .slice ao al ac) rfl (Or.inl ⟨by rfl, ?_⟩) hHeld ?_
   · (intro u _; go_simp)
   try simp only [pu1, pu2, pu3, pu4]
   refine late_fr 1 (v := .pointer (some ⟨g, 0, none⟩)) rfl (Or.inl ⟨by rfl, ?_⟩) hHeld ?_
   · (intro u _; go_simp)
   try simp only [pu1, pu2, pu3, pu4]
   refine late_tk 2 (v := .int .u64 (u0 : Int)) rfl (List.Mem.head _) (Or.inl ⟨by rfl, ?_⟩) hHeld ?_
   · (intro u hu; (try dsimp only at hu); go_split_ands; go_simp)
   try simp only [pu1, pu2, pu3, pu4]
   refine late_fr 3 (v := .slice bo bl_ bc) rfl (Or.inl ⟨by rfl, ?_⟩) hHeld ?_
   · (intro u _; go_simp)
   try simp only [pu1, pu2, pu3, pu4]
   refine late_fr 4 (v := .pointer (some ⟨g, 1, none⟩)) rfl (Or.inl ⟨by rfl, ?_⟩) hHeld ?_
   · (intro u _; go_simp)
   try simp only [pu1, pu2, pu3, pu4]
   refine late_tk 5 (v := .int .u64 (v0 : Int)) rfl (List.Mem.tail _ (List.Mem.head _)) (Or.inl ⟨by rfl, ?_⟩) hHeld ?_
   · (intro u hu; (try dsimp only at hu); go_split_ands; go_simp)
   try simp only [pu1, pu2, pu3, pu4]
   refine late_fr 7 (v := .slice bo bl_ bc) rfl (Or.inl ⟨by rfl, ?_⟩) hHeld ?_
   · (intro u _; go_simp)
   try simp only [pu1, pu2, pu3, pu4]
   refine late_fr 8 (v := .pointer (some ⟨g, 3, none⟩)) rfl (Or.inl ⟨by rfl, ?_⟩) hHeld ?_
   · (intro u _; go_simp)
   try simp only [pu1, pu2, pu3, pu4]
   refine late_tk 9 (v := .int .u64 (v1 : Int)) rfl (List.Mem.tail _ (List.Mem.tail _ (List.Mem.head _))) (Or.inl ⟨by rfl, ?_⟩) hHeld ?_
   · (intro u hu; (try dsimp only at hu); go_split_ands; go_simp)
   try simp only [pu1, pu2, pu3, pu4]
   refine late_fr 10 (v := .slice ao al ac) rfl (Or.inl ⟨by rfl, ?_⟩) hHeld ?_
   · (intro u _; go_simp)
   try simp only [pu1, pu2, pu3, pu4]
   refine late_fr 11 (v := .pointer (some ⟨g, 2, none⟩)) rfl (Or.inl ⟨by rfl, ?_⟩) hHeld ?_
   · (intro u _; go_simp)
   try simp only [pu1, pu2, pu3, pu4]
   refine late_tk 12 (v := .int .u64 (u1 : Int)) rfl (List.Mem.tail _ (List.Mem.tail _ (List.Mem.tail _ (List.Mem.head _)))) (Or.inl ⟨by rfl, ?_⟩) hHeld ?_
   · (intro u hu; (try dsimp only at hu); go_split_ands; go_simp)
   try simp only [pu1, pu2, pu3, pu4]
   refine late_st 6 rfl (fun K hK => ?_)
   go_simp
   refine (blend2 (ha.below (below_dr _)).num (hb.below (below_dr _)).num hs_u0 hs_v0 (by rw [HLA.out]; omega) (by rw [HLB.out]; omega) hcd.1 (Nat.lt_of_lt_of_le (Nat.lt_of_le_of_lt hcb HNL.out) (Nat.pow_le_pow_right (Nat.succ_pos _) (by rw [HLA.out, HLB.out]; omega)))).mono ?_
   rintro e w7 ⟨vc, rfl, hvc, b7⟩
   obtain ⟨vco, vcl, vcc, rfl⟩ := hvc.sl
   go_wp2_with fail
   refine hK.out _ _ (AllL.kept ⟨keepB9 (bstep (below_dr _) b7) s0, keepB9 (bstep (below_dr _) b7) s1, keepB9 (bstep (below_dr _) b7) s3, keepB9 (bstep (below_dr _) b7) s2, trivial⟩) ?_
   clear hK K
   try simp only [pu1, pu2, pu3, pu4]
   refine late_st 13 rfl (fun K hK => ?_)
   go_simp
   refine (blend2 ((hb.below (below_dr _)).below b7).num ((ha.below (below_dr _)).below b7).num hs_v1 hs_u1 (by rw [HLB.out]; omega) (by rw [HLA.out]; omega) hcd.2 (Nat.lt_of_lt_of_le (Nat.lt_of_le_of_lt (Nat.le_trans hdc hcb) HNL.out) (Nat.pow_le_pow_right (Nat.succ_pos _) (by rw [HLA.out, HLB.out]; omega)))).mono ?_
   rintro e w8 ⟨vd, rfl, hvd, b8⟩
   obtain ⟨vdo, vdl, vdc, rfl⟩ := hvd.sl
   go_wp2_with fail
   refine hK.out _ _ (AllL.kept ⟨keepB9 (bstep (below_dr _) (bstep b7 b8)) s0, keepB9 (bstep (below_dr _) (bstep b7 b8)) s1, keepB9 (bstep (below_dr _) (bstep b7 b8)) s3, keepB9 (bstep (below_dr _) (bstep b7 b8)) s2, trivial⟩) ?_
   clear hK K
   try simp only [pu1, pu2, pu3, pu4]
   have HE : Hid (LeapEnd C w A Bn (.returned (.tuple #[.slice vco vcl vcc, .slice vdo vdl vdc])) w8) := ⟨_, _, c, d, rfl, (hvc.below b8).mono (Nat.le_trans hC hbw.size), hvd.mono (Nat.le_trans hC (Nat.le_trans hbw.size b7.size)), hdc, hcb, hgg, hlt, bstep hbw (bstep (below_dr _) (bstep b7 b8))⟩
   clear hHeld ha hb hvc hvd b7 b8 hbw st
   refine late_st 14 rfl (fun K hK => ?_)
   go_simp
   refine hK.out _ _ ⟨kpt 6, kpt 6, kpt 13, kpt 13, trivial⟩ ?_
   clear hK K
   try simp only [pu1, pu2, pu3, pu4]
   refine late_st 15 rfl (fun K hK => ?_)
   go_simp
   refine hK.out _ _ ⟨kpt 6, kpt 6, kpt 13, kpt 13, trivial⟩ ?_
   clear hK K
   try simp only [pu1, pu2, pu3, pu4]
   refine late_done (by kernel_rfl) ?_ _
   go_wp2_with fail
   go_ret2
   exact HE.out
open Go.RowKit

theorem gcd_go {x y : Nat} : Nat.gcd y (x % y) = Nat.gcd x y := by rw [Nat.gcd_comm, ← Nat.gcd_rec, Nat.gcd_comm]

theorem gcdShort_any (x y : Nat) (w : World) (hx : x < 18446744073709551616) (hy : y < 18446744073709551616) :
  Calls Tryz.prog 114 #[.int .u64 (x : Int), .int .u64 (y : Int)] w fun e w' => e = .returned (.int .u64 ((Nat.gcd x y : Nat) : Int)) ∧ Below w.heap.size w w' := by
 obtain ⟨G, hG⟩ : ∃ G, G = Nat.gcd x y := ⟨_, rfl⟩
 have HG : Hid (Nat.gcd x y = G) := hG.symm
 rw [← hG]
 clear hG
 go_enter Tryz.func114, Tryz.ntmps114
 go_wp2
 go_loopw [0, 1] (fun av bv wr => ∃ a b : Nat, av = .int .u64 (a : Int) ∧ bv = .int .u64 (b : Int) ∧ a < 18446744073709551616 ∧ b < 18446744073709551616 ∧ Nat.gcd a b = G ∧ Below w.heap.size w wr) (fun _ bv _ => (intOf bv).toNat)
 case atStart => exact ⟨x, y, rfl, rfl, hx, hy, HG.out, Below.refl _ _⟩
 case round =>
  obtain ⟨a, b, rfl, rfl, ha, hb, hg, hbw⟩ := hrel
  have HBW : Hid (Below w.heap.size w _) := hbw
  clear hbw
  have Hg : Hid (Nat.gcd a b = G) := hg
  clear hg HG hx hy
  by_cases hb0 : b = 0
  ·
   have hbq : ((b : Int) != 0) = false := by simp [hb0]
   have HE : Hid (a = G) := by show _ = _; rw [← Hg.out, hb0, Nat.gcd_zero_right]
   clear hb0
   go_wp2
   go_ret
   exact ⟨by rw [HE.out]; rfl, HBW.out⟩
  ·
   have hbq : ((b : Int) != 0) = true := by simp [hb0]
   have hbz : ((b : Int) == 0) = false := by simp [hb0]
   obtain ⟨r, hr⟩ : ∃ r, r = a % b := ⟨_, rfl⟩
   have er : (a : Int).tmod (b : Int) = (r : Int) := by rw [hr]; exact (Int.tmod_eq_emod_of_nonneg (by omega)).trans (Int.natCast_emod a b).symm
   have hrb : r < b := by rw [hr]; exact Nat.mod_lt _ (by omega)
   have HR : Hid (Nat.gcd b r = G) := by show _ = _; rw [hr, gcd_go]; exact Hg.out
   clear hr
   go_wp2
   refine region_late [] (by kernel_rfl) ?_
   refine late_free 0 (v := .int .u64 (b : Int)) rfl (by kernel_rfl) (by kernel_rfl) (by kernel_rfl) (by kernel_rfl) (by kernel_rfl) (by kernel_rfl) (fun _ _ _ h => h) (Or.inl ⟨by rfl, ?_⟩) (show AllL _ [] from trivial) ?_
   · (intro u _; go_simp)
   try simp only [pu1, pu2, pu3, pu4]
   refine late_free 1 (v := .int .u64 (a : Int)) rfl (by kernel_rfl) (by kernel_rfl) (by kernel_rfl) (by kernel_rfl) (by kernel_rfl) (by kernel_rfl) (fun _ _ _ h => h) (Or.inl ⟨by rfl, ?_⟩) (show AllL _ [] from trivial) ?_
   · (intro u _; go_simp)
   try simp only [pu1, pu2, pu3, pu4]
   refine late_free 2 (v := .int .u64 (b : Int)) rfl (by kernel_rfl) (by kernel_rfl) (by kernel_rfl) (by kernel_rfl) (by kernel_rfl) (by kernel_rfl) (fun _ _ _ h => h) (Or.inl ⟨by rfl, ?_⟩) (show AllL _ [] from trivial) ?_
   · (intro u _; go_simp)
   try simp only [pu1, pu2, pu3, pu4]
   refine late_free 3 (v := .int .u64 (r : Int)) rfl (by kernel_rfl) (by kernel_rfl) (by kernel_rfl) (by kernel_rfl) (by kernel_rfl) (by kernel_rfl) (fun _ _ _ h => h) (Or.inl ⟨by rfl, ?_⟩) (show AllL _ [] from trivial) ?_
   · (intro u _; go_simp)
   try simp only [pu1, pu2, pu3, pu4]
   refine late_st 4 rfl (fun K hK => ?_)
   go_simp
   refine hK.out _ _ trivial ?_
   clear hK K
   try simp only [pu1, pu2, pu3, pu4]
   refine late_st 5 rfl (fun K hK => ?_)
   go_simp
   refine hK.out _ _ trivial ?_
   clear hK K
   try simp only [pu1, pu2, pu3, pu4]
   refine late_done (by kernel_rfl) ?_ _
   go_wp2
   go_roundw
   case rel => exact ⟨b, r, rfl, rfl, hb, by omega, HR.out, bstep HBW.out (below_dr _)⟩
   case measure => simp [intOf]; omega
theorem gcd_any (va vb : Value) (xs ys : List Nat) (w : World) (ha : Num w va xs) (hb : Num w vb ys) (lx : xs.length ≤ 30000000) (ly : ys.length ≤ 30000000) :
  Calls Tryz.prog 83 #[va, vb] w fun e w' => Made' w.heap.size w (lim (Nat.gcd (val xs) (val ys))) e w' := by
 obtain ⟨A, hA⟩ : ∃ A, A = val xs := ⟨_, rfl⟩
 obtain ⟨Bn, hB⟩ : ∃ B, B = val ys := ⟨_, rfl⟩
 have hlA : (lim A).length ≤ 30000000 := by rw [hA]; exact Nat.le_trans (lim_len_le (val_lt ha.1)) lx
 have hlB : (lim Bn).length ≤ 30000000 := by rw [hB]; exact Nat.le_trans (lim_len_le (val_lt hb.1)) ly
 obtain ⟨G, hG⟩ : ∃ G, G = Nat.gcd A Bn := ⟨_, rfl⟩
 rw [← hA, ← hB, ← hG]
 have HG : Hid (Nat.gcd A Bn = G) := hG.symm
 have HA : Hid (val xs = A) := hA.symm
 have HB : Hid (val ys = Bn) := hB.symm
 clear hG hA hB
 go_enter Tryz.func83, Tryz.ntmps83
 go_wp2_with fail
 refine (norm_any _ _ _ ha (by omega)).mono ?_
 rw [HA.out]
 rintro e w2 ⟨a1, rfl, ha1, b2⟩
 replace hb := hb.below (Nat.le_refl _) b2
 obtain ⟨ao, al, ac, rfl⟩ := ha1.sl
 go_wp2_with fail
 refine (norm_any _ _ _ hb (by omega)).mono ?_
 rw [HB.out]
 rintro e w3 ⟨b1, rfl, hb1, b3⟩
 obtain ⟨bo, bl_, bc, rfl⟩ := hb1.sl
 replace ha1 := ha1.below b3
 replace hb1 := hb1.mono (B' := w.heap.size) b2.size
 have hbw := bstep b2 b3
 clear ha hb b2 b3 HA HB lx ly
 go_wp2_with fail
 refine (cmp_any _ _ _ _ _ ha1.num hb1.num).mono ?_
 rw [val_lim, val_lim]
 rintro e w4 ⟨rfl, k4, h4⟩
 have b := belowK h4
 replace ha1 := ha1.below b
 replace hb1 := hb1.below b
 replace hbw := bstep hbw b
 clear b h4
 have HI : Hid (∃ (p q : Value) (c d : Nat), (if A < Bn then p = .slice bo bl_ bc ∧ q = .slice ao al ac else p = .slice ao al ac ∧ q = .slice bo bl_ bc) ∧ Own w.heap.size 37 w4 p (lim c) ∧ Own w.heap.size 37 w4 q (lim d) ∧ d ≤ c ∧ Nat.gcd c d = G ∧ (lim c).length ≤ 30000000 ∧ Below w.heap.size w w4) := by
  by_cases h : A < Bn
  · exact ⟨_, _, Bn, A, by rw [if_pos h]; exact ⟨rfl, rfl⟩, hb1, ha1, by omega, by rw [Nat.gcd_comm]; exact HG.out, hlB, hbw⟩
  · exact ⟨_, _, A, Bn, by rw [if_neg h]; exact ⟨rfl, rfl⟩, ha1, hb1, by omega, HG.out, hlA, hbw⟩
 clear ha1 hb1 hbw hlA hlB HG
 by_cases hc : A < Bn
 ·
  have hcm : cmpN A Bn = -1 := cmpN_lt hc
  rw [hcm]
  simp only [hc, if_true] at HI
  clear hcm hc
  go_wp2_with fail
  go_loopw [0, 1] (fun av bv wr => ∃ (c d : Nat), Own w.heap.size 37 wr av (lim c) ∧ Own w.heap.size 37 wr bv (lim d) ∧ d ≤ c ∧ Nat.gcd c d = G ∧ (lim c).length ≤ 30000000 ∧ Below w.heap.size w wr) (fun av bv wr => valAt wr av + valAt wr bv)
  case atStart =>
   obtain ⟨_, _, c, d, ⟨rfl, rfl⟩, h1, h2, h3⟩ := HI.out
   exact ⟨c, d, h1, h2, h3⟩
  case round =>
   clear HI
   obtain ⟨c, d, hcO, hdO, hdc, hgg, hlc, hbw⟩ := hrel
   obtain ⟨co, cc, rfl, hcc, hcm⟩ := hcO.num.ao
   obtain ⟨do_, dc, rfl, hdd, hdm⟩ := hdO.num.ao
   have HM : Hid (valAt wr (.slice co (lim c).length cc) + valAt wr (.slice do_ (lim d).length dc) = c + d) := by show _ = _; rw [valAt_eq hcO.num, valAt_eq hdO.num, val_lim, val_lim]
   have Hg : Hid (Nat.gcd c d = G) := hgg
   have hld : (lim d).length ≤ 30000000 := Nat.le_trans (lim_len_le (Nat.lt_of_le_of_lt hdc (lim_lt_of_len (Nat.le_refl _)))) hlc
   clear hgg
   obtain ⟨cl, hcl⟩ : ∃ l, l = (lim c).length := ⟨_, rfl⟩
   obtain ⟨dl, hdl⟩ : ∃ l, l = (lim d).length := ⟨_, rfl⟩
   have HCL : Hid (cl = (lim c).length) := hcl
   have HDL : Hid (dl = (lim d).length) := hdl
   rw [← hcl] at hcO hcc hlc HM ⊢
   rw [← hdl] at hdO hdd hld HM ⊢
   clear hcl hdl
   by_cases hbig : 2 < dl
   ·
    have HBIG : Hid (2 ^ 64 ≤ d) := by
     show _ ≤ _
     rcases Nat.lt_or_ge d (2 ^ 64) with h | h
     ·
      have := lim_len_le (k := 2) (n := d) (by exact h)
      rw [← HDL.out] at this
      omega
     · exact h
    have hbi : (2 : Int) < (dl : Int) := by omega
    clear hbig
    go_wp2_with fail
    refine (leap_any _ _ c d w.heap.size _ hcO hdO hbw.size hdc HBIG.out (by rw [← HCL.out]; exact hlc)).mono ?_
    rintro e w6 ⟨vc, vd, c2, d2, rfl, o1, o2, o3, o4, o5, o6, b⟩
    have HNEW : Hid (∃ (c d : Nat), Own w.heap.size 37 w6 vc (lim c) ∧ Own w.heap.size 37 w6 vd (lim d) ∧ d ≤ c ∧ Nat.gcd c d = G ∧ (lim c).length ≤ 30000000 ∧ Below w.heap.size w w6) :=
     ⟨c2, d2, o1, o2, o3, by rw [o5]; exact Hg.out, Nat.le_trans (lim_len_le (Nat.lt_of_le_of_lt (Nat.le_trans o4 hdc) (lim_lt_of_len (Nat.le_refl _)))) (by rw [← HCL.out]; exact hlc), bstep hbw b⟩
    have HLT : Hid (valAt w6 vc + valAt w6 vd < c + d) := by show _ < _; rw [valAt_eq o1.num, valAt_eq o2.num, val_lim, val_lim]; exact o6
    obtain ⟨vco, vcl, vcc, rfl⟩ := o1.sl
    obtain ⟨vdo, vdl, vdc, rfl⟩ := o2.sl
    clear o1 o2 o3 o4 o5 o6 b hbw hcO hdO hdc
    go_wp2_with fail
    go_roundw
    case rel => exact HNEW.out
    case measure => rw [HM.out]; exact HLT.out
   ·
    have hbi : ¬ (2 : Int) < (dl : Int) := by omega
    by_cases hd0 : dl = 0
    ·
     have HD0 : Hid (d = 0) := lim_len_zero (by rw [← HDL.out]; exact hd0)
     have hdz : ((dl : Int) == 0) = true := by simp [hd0]
     have HE : Hid (Made' w.heap.size w (lim G) (.returned (.slice co cl cc)) _) := ⟨_, rfl, by rw [← Hg.out, HD0.out, Nat.gcd_zero_right]; exact hcO, hbw⟩
     clear hd0 hbig hcO hdO hbw hdc
     go_wp2_with fail
     go_ret
     exact HE.out
    ·
     have hdz : ((dl : Int) == 0) = false := by simp [hd0]
     have HD1 : Hid (d < 18446744073709551616 ∧ 0 < d) := by
      refine ⟨lim_lt_of_len (k := 2) (by rw [← HDL.out]; omega), ?_⟩
      rcases Nat.eq_zero_or_pos d with h | h
      · exfalso; apply hd0; rw [HDL.out, h]; rfl
      · exact h
     clear hd0 hbig
     go_wp2_with fail
     refine (divMod_any _ _ _ _ _ hcO.num hdO.num (by rw [← HCL.out]; omega)).mono ?_
     rw [val_lim, val_lim]
     rintro e w6 ⟨q, r, rfl, hq, hr, _, b⟩
     have hmz : modZ c d = c % d := by unfold modZ; rw [if_neg (by have := HD1.out; omega)]
     rw [hmz] at hr
     have hrl : c % d < d := Nat.mod_lt _ HD1.out.2
     replace hdO := hdO.below b
     replace hbw := bstep hbw b
     obtain ⟨qo, ql, qc, rfl⟩ := hq.sl
     obtain ⟨ro, rl, rc, rfl⟩ := hr.sl
     generalize errZ d = er
     clear b hmz hq
     go_wp2_with fail
     refine (uint_yes _ _ _ hdO.num (by rw [val_lim]; exact HD1.out.1)).mono ?_
     rw [val_lim]
     rintro e w7 ⟨rfl, h7⟩
     rw [h7]
     clear h7
     go_wp2_with fail
     refine (uint_yes _ _ _ hr.num (by rw [val_lim]; have := HD1.out.1; omega)).mono ?_
     rw [val_lim]
     rintro e w8 ⟨rfl, h8⟩
     rw [h8]
     clear h8
     obtain ⟨m, hm⟩ : ∃ m, m = c % d := ⟨_, rfl⟩
     have HGM : Hid (Nat.gcd d m = G) := by show _ = _; rw [hm, gcd_go]; exact Hg.out
     have hm64 : m < 18446744073709551616 := by rw [hm]; have := HD1.out.1; omega
     have hd64 : d < 18446744073709551616 := HD1.out.1
     rw [← hm]
     clear hm hrl hr hdO hcO
     go_wp2_with fail
     refine (gcdShort_any d m _ hd64 hm64).mono ?_
     rw [HGM.out]
     rintro e w9 ⟨rfl, b9⟩
     replace hbw := bstep hbw b9
     have hG64 : G < 18446744073709551616 := by
      rw [← HGM.out]
      exact Nat.lt_of_le_of_lt (Nat.gcd_le_left m HD1.out.2) hd64
     clear b9
     go_wp2_with fail
     refine (of_any G _ hG64).mono ?_
     rintro e w10 ⟨v, rfl, hv, b10⟩
     have HE : Hid (Made' w.heap.size w (lim G) (.returned v) w10) := ⟨_, rfl, hv.mono hbw.size, bstep hbw b10⟩
     obtain ⟨vo, vl, vc, rfl⟩ := hv.sl
     clear hv b10 hbw
     go_wp2_with fail
     go_ret
     exact HE.out
 ·
  have hcm : 0 ≤ cmpN A Bn := by
   rcases cmpN_cases A Bn with ⟨h, e⟩ | ⟨h, e⟩ | ⟨h, e⟩ <;> rw [e] <;> omega
  have hcm2 : ¬ cmpN A Bn < 0 := by omega
  simp only [hc, if_false] at HI
  generalize cmpN A Bn = cm at *
  clear hc
  go_wp2_with fail
  go_loopw [0, 1] (fun av bv wr => ∃ (c d : Nat), Own w.heap.size 37 wr av (lim c) ∧ Own w.heap.size 37 wr bv (lim d) ∧ d ≤ c ∧ Nat.gcd c d = G ∧ (lim c).length ≤ 30000000 ∧ Below w.heap.size w wr) (fun av bv wr => valAt wr av + valAt wr bv)
  case atStart =>
   obtain ⟨_, _, c, d, ⟨rfl, rfl⟩, h1, h2, h3⟩ := HI.out
   exact ⟨c, d, h1, h2, h3⟩
  case round =>
   clear HI
   obtain ⟨c, d, hcO, hdO, hdc, hgg, hlc, hbw⟩ := hrel
   obtain ⟨co, cc, rfl, hcc, hcm⟩ := hcO.num.ao
   obtain ⟨do_, dc, rfl, hdd, hdm⟩ := hdO.num.ao
   have HM : Hid (valAt wr (.slice co (lim c).length cc) + valAt wr (.slice do_ (lim d).length dc) = c + d) := by show _ = _; rw [valAt_eq hcO.num, valAt_eq hdO.num, val_lim, val_lim]
   have Hg : Hid (Nat.gcd c d = G) := hgg
   have hld : (lim d).length ≤ 30000000 := Nat.le_trans (lim_len_le (Nat.lt_of_le_of_lt hdc (lim_lt_of_len (Nat.le_refl _)))) hlc
   clear hgg
   obtain ⟨cl, hcl⟩ : ∃ l, l = (lim c).length := ⟨_, rfl⟩
   obtain ⟨dl, hdl⟩ : ∃ l, l = (lim d).length := ⟨_, rfl⟩
   have HCL : Hid (cl = (lim c).length) := hcl
   have HDL : Hid (dl = (lim d).length) := hdl
   rw [← hcl] at hcO hcc hlc HM ⊢
   rw [← hdl] at hdO hdd hld HM ⊢
   clear hcl hdl
   by_cases hbig : 2 < dl
   ·
    have HBIG : Hid (2 ^ 64 ≤ d) := by
     show _ ≤ _
     rcases Nat.lt_or_ge d (2 ^ 64) with h | h
     ·
      have := lim_len_le (k := 2) (n := d) (by exact h)
      rw [← HDL.out] at this
      omega
     · exact h
    have hbi : (2 : Int) < (dl : Int) := by omega
    clear hbig
    go_wp2_with fail
    refine (leap_any _ _ c d w.heap.size _ hcO hdO hbw.size hdc HBIG.out (by rw [← HCL.out]; exact hlc)).mono ?_
    rintro e w6 ⟨vc, vd, c2, d2, rfl, o1, o2, o3, o4, o5, o6, b⟩
    have HNEW : Hid (∃ (c d : Nat), Own w.heap.size 37 w6 vc (lim c) ∧ Own w.heap.size 37 w6 vd (lim d) ∧ d ≤ c ∧ Nat.gcd c d = G ∧ (lim c).length ≤ 30000000 ∧ Below w.heap.size w w6) :=
     ⟨c2, d2, o1, o2, o3, by rw [o5]; exact Hg.out, Nat.le_trans (lim_len_le (Nat.lt_of_le_of_lt (Nat.le_trans o4 hdc) (lim_lt_of_len (Nat.le_refl _)))) (by rw [← HCL.out]; exact hlc), bstep hbw b⟩
    have HLT : Hid (valAt w6 vc + valAt w6 vd < c + d) := by show _ < _; rw [valAt_eq o1.num, valAt_eq o2.num, val_lim, val_lim]; exact o6
    obtain ⟨vco, vcl, vcc, rfl⟩ := o1.sl
    obtain ⟨vdo, vdl, vdc, rfl⟩ := o2.sl
    clear o1 o2 o3 o4 o5 o6 b hbw hcO hdO hdc
    go_wp2_with fail
    go_roundw
    case rel => exact HNEW.out
    case measure => rw [HM.out]; exact HLT.out
   ·
    have hbi : ¬ (2 : Int) < (dl : Int) := by omega
    by_cases hd0 : dl = 0
    ·
     have HD0 : Hid (d = 0) := lim_len_zero (by rw [← HDL.out]; exact hd0)
     have hdz : ((dl : Int) == 0) = true := by simp [hd0]
     have HE : Hid (Made' w.heap.size w (lim G) (.returned (.slice co cl cc)) _) := ⟨_, rfl, by rw [← Hg.out, HD0.out, Nat.gcd_zero_right]; exact hcO, hbw⟩
     clear hd0 hbig hcO hdO hbw hdc
     go_wp2_with fail
     go_ret
     exact HE.out
    ·
     have hdz : ((dl : Int) == 0) = false := by simp [hd0]
     have HD1 : Hid (d < 18446744073709551616 ∧ 0 < d) := by
      refine ⟨lim_lt_of_len (k := 2) (by rw [← HDL.out]; omega), ?_⟩
      rcases Nat.eq_zero_or_pos d with h | h
      · exfalso; apply hd0; rw [HDL.out, h]; rfl
      · exact h
     clear hd0 hbig
     go_wp2_with fail
     refine (divMod_any _ _ _ _ _ hcO.num hdO.num (by rw [← HCL.out]; omega)).mono ?_
     rw [val_lim, val_lim]
     rintro e w6 ⟨q, r, rfl, hq, hr, _, b⟩
     have hmz : modZ c d = c % d := by unfold modZ; rw [if_neg (by have := HD1.out; omega)]
     rw [hmz] at hr
     have hrl : c % d < d := Nat.mod_lt _ HD1.out.2
     replace hdO := hdO.below b
     replace hbw := bstep hbw b
     obtain ⟨qo, ql, qc, rfl⟩ := hq.sl
     obtain ⟨ro, rl, rc, rfl⟩ := hr.sl
     generalize errZ d = er
     clear b hmz hq
     go_wp2_with fail
     refine (uint_yes _ _ _ hdO.num (by rw [val_lim]; exact HD1.out.1)).mono ?_
     rw [val_lim]
     rintro e w7 ⟨rfl, h7⟩
     rw [h7]
     clear h7
     go_wp2_with fail
     refine (uint_yes _ _ _ hr.num (by rw [val_lim]; have := HD1.out.1; omega)).mono ?_
     rw [val_lim]
     rintro e w8 ⟨rfl, h8⟩
     rw [h8]
     clear h8
     obtain ⟨m, hm⟩ : ∃ m, m = c % d := ⟨_, rfl⟩
     have HGM : Hid (Nat.gcd d m = G) := by show _ = _; rw [hm, gcd_go]; exact Hg.out
     have hm64 : m < 18446744073709551616 := by rw [hm]; have := HD1.out.1; omega
     have hd64 : d < 18446744073709551616 := HD1.out.1
     rw [← hm]
     clear hm hrl hr hdO hcO
     go_wp2_with fail
     refine (gcdShort_any d m _ hd64 hm64).mono ?_
     rw [HGM.out]
     rintro e w9 ⟨rfl, b9⟩
     replace hbw := bstep hbw b9
     have hG64 : G < 18446744073709551616 := by
      rw [← HGM.out]
      exact Nat.lt_of_le_of_lt (Nat.gcd_le_left m HD1.out.2) hd64
     clear b9
     go_wp2_with fail
     refine (of_any G _ hG64).mono ?_
     rintro e w10 ⟨v, rfl, hv, b10⟩
     have HE : Hid (Made' w.heap.size w (lim G) (.returned v) w10) := ⟨_, rfl, hv.mono hbw.size, bstep hbw b10⟩
     obtain ⟨vo, vl, vc, rfl⟩ := hv.sl
     clear hv b10 hbw
     go_wp2_with fail
     go_ret
     exact HE.out
open Go.RowKit

def QCell (w : World) (g : Nat) (neg : Bool) (m d : Value) : Prop := w.heap[g]? = some (.cells #[.bool neg, m, d] 27 (0, 0))
theorem QCell.cells {w : World} {g : Nat} {neg : Bool} {m d : Value} (h : QCell w g neg m d) : w.cell? ⟨g, 0, none⟩ = some (.bool neg) ∧ w.cell? ⟨g, 1, none⟩ = some m ∧ w.cell? ⟨g, 2, none⟩ = some d := by
 refine ⟨?_, ?_, ?_⟩ <;> (rw [cell_of_row w g _ _ _ _ h]; rfl)
theorem QCell.thaw {w : World} {g : Nat} {neg : Bool} {m d : Value} (h : QCell w g neg m d) (k : Nat) : w.frozen? ⟨g, k, none⟩ = false := frozen_of_row w g k _ _ h
theorem QCell.below {w w' : World} {g : Nat} {neg : Bool} {m d : Value} (h : QCell w g neg m d) (hb : Below w.heap.size w w') : QCell w' g neg m d := by
 unfold QCell; rw [hb.block _ (Array.getElem?_eq_some_iff.1 h).1]; exact h
theorem qcell_step {w : World} {o : Obj} {g : Nat} {neg : Bool} {m d : Value} (h : QCell w g neg m d) : QCell (w.alloc o) g neg m d := h.below (belowA _ _)
theorem qcell_new (w : World) {neg : Bool} {m d : Value} {k : Nat} (hk : w.heap.size = k) : QCell (w.alloc (.cells #[.bool neg, m, d] 27)) k neg m d := by subst hk; exact heap_alloc_new w _
theorem QCell.write {w : World} {g : Nat} {neg : Bool} {m d : Value} (h : QCell w g neg m d) (n2 : Bool) (m2 d2 : Value) : QCell (((w.setCell ⟨g, 0, none⟩ (.bool n2)).setCell ⟨g, 1, none⟩ m2).setCell ⟨g, 2, none⟩ d2) g n2 m2 d2 := by
 unfold QCell
 have h1 := heap_setCell_same w g 0 _ _ (.bool n2) h
 have h2 := heap_setCell_same _ g 1 _ _ m2 h1
 have h3 := heap_setCell_same _ g 2 _ _ d2 h2
 rw [h3]
 rfl
theorem QCell.other {w : World} {g : Nat} {neg : Bool} {m d : Value} (h : QCell w g neg m d) {g' : Nat} (hne : g ≠ g') (k : Nat) (v : Value) : QCell (w.setCell ⟨g', k, none⟩ v) g neg m d := by
 unfold QCell
 rw [heap_setCell_other]
 · exact h
 · exact hne
def RRaw (w : World) (v : Value) (p : Int) (q : Nat) : Prop := ∃ n ao al ac bo bl bc ys, v = .agg #[.bool n, .slice ao al ac, .slice bo bl bc] ∧ INum w (.agg #[.bool n, .slice ao al ac]) p ∧ Num w (.slice bo bl bc) ys ∧ ys.length ≤ 1000000 ∧ val ys = q
theorem RRaw.below {w w' : World} {v : Value} {p : Int} {q : Nat} (h : RRaw w v p q) (hb : Below w.heap.size w w') : RRaw w' v p q := by
 obtain ⟨n, ao, al, ac, bo, bl, bc, ys, e, h1, h2, h3, h4⟩ := h
 exact ⟨n, ao, al, ac, bo, bl, bc, ys, e, h1.below hb, h2.below (Nat.le_refl _) hb, h3, h4⟩
def RNum (w : World) (v : Value) (x : Rat) (L : Nat) : Prop := ∃ p q, RRaw w v p q ∧ x = rq p q ∧ Sz p L ∧ Sz (und q) L
theorem RNum.below {w w' : World} {v : Value} {x : Rat} {L : Nat} (h : RNum w v x L) (hb : Below w.heap.size w w') : RNum w' v x L := by
 obtain ⟨p, q, h1, h2⟩ := h
 exact ⟨p, q, h1.below hb, h2⟩
def ROwn (B : Nat) (w : World) (v : Value) (r : Rat) : Prop := ∃ m d, v = .agg #[.bool (decide (r.num < 0)), m, d] ∧ Own B 37 w m (lim r.num.natAbs) ∧ Own B 37 w d (lim r.den) ∧ (m.ownBlock = none ∨ m.ownBlock ≠ d.ownBlock)
theorem ROwn.below {B : Nat} {w w' : World} {v : Value} {r : Rat} (h : ROwn B w v r) (hb : Below w.heap.size w w') : ROwn B w' v r := by
 obtain ⟨m, d, e, h1, h2, h3⟩ := h
 exact ⟨m, d, e, h1.below hb, h2.below hb, h3⟩
def RStd (w : World) (v : Value) (r : Rat) : Prop := ∃ n ao al ac bo bl bc, v = .agg #[.bool n, .slice ao al ac, .slice bo bl bc] ∧ n = decide (r.num < 0) ∧ Num w (.slice ao al ac) (lim r.num.natAbs) ∧ Num w (.slice bo bl bc) (lim r.den)
theorem ROwn.std {B : Nat} {w : World} {v : Value} {r : Rat} (h : ROwn B w v r) : RStd w v r := by
 obtain ⟨m, d, rfl, h1, h2, _⟩ := h
 obtain ⟨ao, al, ac, rfl⟩ := h1.sl
 obtain ⟨bo, bl, bc, rfl⟩ := h2.sl
 exact ⟨_, ao, al, ac, bo, bl, bc, rfl, rfl, h1.num, h2.num⟩
theorem RStd.num {w : World} {v : Value} {r : Rat} {L : Nat} (h : RStd w v r) (hs : RSz r L) (hL : L ≤ 1000000) : RNum w v r L := by
 obtain ⟨n, ao, al, ac, bo, bl, bc, rfl, rfl, h1, h2⟩ := h
 refine ⟨r.num, r.den, ⟨_, ao, al, ac, bo, bl, bc, _, rfl, ⟨_, _, _, _, _, rfl, h1, Nat.le_trans hs.num.len hL, ?_⟩, h2, ?_, val_lim _⟩, (rq_std r).symm, hs.num, ?_⟩
 · rw [val_lim]; exact zv_self _
 ·
  have := hs.den.len
  rw [Int.natAbs_natCast] at this
  omega
 ·
  unfold und
  rw [if_neg r.den_nz]
  exact hs.den
def REnd (w : World) (r : Rat) (e : Ending) (w' : World) : Prop := ∃ v, e = .returned v ∧ ROwn w.heap.size w' v r ∧ Below w.heap.size w w'
theorem rat_done {w w3 : World} {g B : Nat} {r : Rat} {b : Bool} {m d : Value} (hb : b = decide (r.num < 0)) (hg : w.heap.size ≤ g) (hm : Own B 37 w3 m (lim r.num.natAbs)) (hd : Own B 37 w3 d (lim r.den)) (hap : m.ownBlock = none ∨ m.ownBlock ≠ d.ownBlock) (hgB : g < B) (hbel : Below w.heap.size w w3) :
  REnd w r (.returned (.agg #[.bool b, m, d])) (((w3.setCell ⟨g, 0, none⟩ (.bool b)).setCell ⟨g, 1, none⟩ m).setCell ⟨g, 2, none⟩ d) := by
 have hne : ∀ {v : Value} {xs : List Nat}, Own B 37 w3 v xs → v.ownBlock = none ∨ v.ownBlock ≠ some g := by
  intro v xs ho
  cases hm : v.ownBlock with
  | none => exact Or.inl rfl
  | some k =>
   right
   intro e
   rw [Option.some.injEq] at e
   have := (ho.block k hm).1
   omega
 exact ⟨_, rfl, ⟨m, d, by rw [hb], (((hm.other _ (hne hm)).other _ (hne hm)).other _ (hne hm)).mono (by omega), (((hd.other _ (hne hd)).other _ (hne hd)).other _ (hne hd)).mono (by omega), hap⟩, ((hbel.setCell (p := ⟨g, 0, none⟩) hg _).setCell (p := ⟨g, 1, none⟩) hg _).setCell (p := ⟨g, 2, none⟩) hg _⟩
theorem ROwn.rehome {B B' : Nat} {w : World} {v : Value} {r : Rat} (h : ROwn B w v r) (hB : B' ≤ B) : ROwn B' w v r := by
 obtain ⟨m, d, e, h1, h2, h3⟩ := h
 exact ⟨m, d, e, h1.mono hB, h2.mono hB, h3⟩
section
variable {P : Program} {l : List Oper} {Q : Exit → Act → World → Prop} {md : Region.Mode} {L : List (Nat × (World → Prop))}
theorem late_two (j k : Nat) {o o2 : Oper} {n : Nat} {done : Array Bool} {a : Act} {w : World} (hr : Region.ready md l.toArray done = [j, k]) (ho : l[j]? = some o) (ho2 : l[k]? = some o2)
  (h : ∀ K' : Act → World → Prop, Shut (∀ b u, Kept md l.toArray (done.setIfInBounds j true) u L → wpLate P md l.toArray Q L n (done.setIfInBounds j true) b u → K' b u) → if Region.wanted o (yielded l.toArray a.tmps) = true then Oper.wp P o a w K' Q else K' (a.put o.dst undef) w)
  (h2 : ∀ K' : Act → World → Prop, Shut (∀ b u, Kept md l.toArray (done.setIfInBounds k true) u L → wpLate P md l.toArray Q L n (done.setIfInBounds k true) b u → K' b u) → if Region.wanted o2 (yielded l.toArray a.tmps) = true then Oper.wp P o2 a w K' Q else K' (a.put o2.dst undef) w) :
  wpLate P md l.toArray Q L (n + 1) done a w := by
 constructor
 · intro h0; rw [h0] at hr; cases hr
 ·
  intro i hi
  rw [hr] at hi
  rcases List.mem_cons.1 hi with e | hi
  ·
   subst e
   exact wpOp_step (by rw [List.getElem?_toArray]; exact ho) (fun K' hK => h K' (fun b u h1 h2 => hK b u ⟨h1, h2⟩))
  ·
   rw [List.mem_singleton] at hi
   subst hi
   exact wpOp_step (by rw [List.getElem?_toArray]; exact ho2) (fun K' hK => h2 K' (fun b u h1 h2 => hK b u ⟨h1, h2⟩))
end
open Go.RowKit

theorem nz_int2' {x : Nat} (h : 0 < x) : ((x : Int) == 0) = false := by
 have h1 : ¬ (x : Int) = 0 := by omega
 simpa using h1
theorem c_under {a : Value} {p : Int} {q : Nat} {w : World} (ha : RRaw w a p q) : Calls Tryz.prog 31 #[a] w fun e w' => ∃ v, e = .returned v ∧ INum w' v (und q) ∧ Below w.heap.size w w' := by
 obtain ⟨na, ao, al, ac, aO, aL, aC, ya, rfl, ia, da, la, ea⟩ := ha
 have ra : RRaw w (.agg #[.bool na, .slice ao al ac, .slice aO aL aC]) p q := ⟨_, _, _, _, _, _, _, _, rfl, ia, da, la, ea⟩
 clear ra ia
 by_cases hq : q = 0
 ·
  have HU : Hid (und q = 1) := if_pos hq
  rw [HU.out]
  obtain ⟨W1, hW1⟩ : ∃ W1, W1 = (w.alloc (.cells #[.bool na, .slice ao al ac, .slice aO aL aC] 27)).alloc (.cells #[.bool false, .slice none 0 0] 25) := ⟨_, rfl⟩
  have qa : QCell W1 (w.heap.size) na (.slice ao al ac) (.slice aO aL aC) := by rw [hW1]; exact (qcell_step (qcell_new _ (by simp)))
  have qR : ICell W1 (w.heap.size + 1) false (.slice none 0 0) := by rw [hW1]; exact (icell_new _ (by simp))
  have hb : Below w.heap.size w W1 := by rw [hW1]; exact bstep (belowA w _) (belowA _ _)
  have hsz : w.heap.size + 1 < W1.heap.size := by rw [hW1]; simp
  replace da := da.below (Nat.le_refl _) hb
  have HW1 : Hid (W1 = (w.alloc (.cells #[.bool na, .slice ao al ac, .slice aO aL aC] 27)).alloc (.cells #[.bool false, .slice none 0 0] 25)) := hW1
  clear hW1
  go_enter Tryz.func31, Tryz.ntmps31
  go_wp2_with fail
  rw [← HW1.out]
  clear HW1
  obtain ⟨g, hg⟩ : ∃ g, g = w.heap.size := ⟨_, rfl⟩
  rw [← hg] at qa qR hsz ⊢
  have HG : Hid (g = w.heap.size) := hg
  clear hg
  have hbt := bits_any _ _ _ da (by omega)
  obtain ⟨k, hk⟩ : ∃ k, k = bl (val ya) := ⟨_, rfl⟩
  rw [← hk] at hbt
  have hk0 : k = 0 := by rw [hk, ea, hq]; rfl
  subst hk0
  clear hk
  refine hbt.mono ?_
  rintro e w2 ⟨rfl, rfl⟩
  clear hbt
  obtain ⟨cqa0, cqa1, cqa2⟩ := qa.cells
  obtain ⟨cqR0, cqR1⟩ := qR.cells
  go_wp2_with fail
  clear cqa0 cqa1 cqa2 cqR0 cqR1
  refine (c_of (n := 1) (by decide) (by decide)).mono ?_
  rintro e w3 ⟨v, rfl, ⟨m, rfl, hm⟩, b⟩
  have hszz := hsz
  obtain ⟨mo, ml, mc, rfl⟩ := hm.sl
  replace da := da.below (Nat.le_refl _) b
  replace qa := qa.below b
  replace qR := qR.below b
  replace hb := bstep hb b
  replace hsz := Nat.lt_of_lt_of_le hsz b.size
  clear b
  have qq := qR
  have HE : Hid (IEnd w (1) (.returned (.agg #[.bool false, .slice mo ml mc])) ((w3.setCell ⟨g + 1, 0, none⟩ (.bool false)).setCell ⟨g + 1, 1, none⟩ (.slice mo ml mc))) := (int_done rfl (by rw [HG.out]; omega) hm hszz (hb)).i
  have HW : Hid (ICell ((w3.setCell ⟨g + 1, 0, none⟩ (.bool false)).setCell ⟨g + 1, 1, none⟩ (.slice mo ml mc)) (g + 1) false (.slice mo ml mc)) := qq.write _ _
  obtain ⟨y0, y1⟩ := qq.cells
  have f0 := qq.thaw 0
  have f1 := qq.thaw 1
  clear qq
  clear hb hsz hszz hm qa qR da
  go_wp2_with fail
  (try simp only [Exit.inBlock, Exit.then])
  exact bodyPost_ret (results_cell_row rfl _ _ (g + 1) 25 _ (0, 0) _ rfl HW.out Tryz.underlying25 rfl (by kernel_rfl)) rfl (by obtain ⟨v, e, ho, hb⟩ := HE.out; exact ⟨v, e, ho.num Sz.one (by decide), hb⟩)
 ·
  have HU : Hid (und q = (q : Int)) := if_neg hq
  rw [HU.out]
  have da0 := da
  obtain ⟨W1, hW1⟩ : ∃ W1, W1 = (w.alloc (.cells #[.bool na, .slice ao al ac, .slice aO aL aC] 27)).alloc (.cells #[.bool false, .slice none 0 0] 25) := ⟨_, rfl⟩
  have qa : QCell W1 (w.heap.size) na (.slice ao al ac) (.slice aO aL aC) := by rw [hW1]; exact (qcell_step (qcell_new _ (by simp)))
  have qR : ICell W1 (w.heap.size + 1) false (.slice none 0 0) := by rw [hW1]; exact (icell_new _ (by simp))
  have hb : Below w.heap.size w W1 := by rw [hW1]; exact bstep (belowA w _) (belowA _ _)
  have hsz : w.heap.size + 1 < W1.heap.size := by rw [hW1]; simp
  replace da := da.below (Nat.le_refl _) hb
  have HW1 : Hid (W1 = (w.alloc (.cells #[.bool na, .slice ao al ac, .slice aO aL aC] 27)).alloc (.cells #[.bool false, .slice none 0 0] 25)) := hW1
  clear hW1
  go_enter Tryz.func31, Tryz.ntmps31
  go_wp2_with fail
  rw [← HW1.out]
  clear HW1
  obtain ⟨g, hg⟩ : ∃ g, g = w.heap.size := ⟨_, rfl⟩
  rw [← hg] at qa qR hsz ⊢
  have HG : Hid (g = w.heap.size) := hg
  clear hg
  have hbt := bits_any _ _ _ da (by omega)
  obtain ⟨k, hk⟩ : ∃ k, k = bl (val ya) := ⟨_, rfl⟩
  rw [← hk] at hbt
  have hk0 : ((k : Int) == 0) = false := nz_int2' (by rw [hk]; exact bl_pos.2 (by rw [ea]; exact hq))
  clear hk
  refine hbt.mono ?_
  rintro e w2 ⟨rfl, rfl⟩
  clear hbt
  have HE : Hid (INum ((w2.setCell ⟨g + 1, 0, none⟩ (.bool false)).setCell ⟨g + 1, 1, none⟩ (.slice aO aL aC)) (.agg #[.bool false, .slice aO aL aC]) (q : Int) ∧ Below w.heap.size w ((w2.setCell ⟨g + 1, 0, none⟩ (.bool false)).setCell ⟨g + 1, 1, none⟩ (.slice aO aL aC))) := ⟨⟨_, _, _, _, _, rfl, da0.below (Nat.le_refl _) (iend2 hb (by rw [HG.out]; omega)), la, by rw [ea]; rfl⟩, iend2 hb (by rw [HG.out]; omega)⟩
  have HW : Hid (ICell ((w2.setCell ⟨g + 1, 0, none⟩ (.bool false)).setCell ⟨g + 1, 1, none⟩ (.slice aO aL aC)) (g + 1) false (.slice aO aL aC)) := qR.write _ _
  obtain ⟨y0, y1⟩ := qR.cells
  have f0 := qR.thaw 0
  have f1 := qR.thaw 1
  obtain ⟨cqa0, cqa1, cqa2⟩ := qa.cells
  obtain ⟨cqR0, cqR1⟩ := qR.cells
  clear hb hsz qa qR da da0
  go_wp2_with fail
  (try simp only [Exit.inBlock, Exit.then])
  exact bodyPost_ret (results_cell_row rfl _ _ (g + 1) 25 _ (0, 0) _ rfl HW.out Tryz.underlying25 rfl (by kernel_rfl)) rfl ⟨_, rfl, HE.out⟩
theorem c_cross {a b : Value} {p r : Int} {q k : Nat} {w : World} (ha : RRaw w a p q) (hb' : RRaw w b r k) : Calls Tryz.prog 52 #[a, b] w fun e w' => IEnd w (p * und k) e w' := by
 obtain ⟨Z, hZ⟩ : ∃ Z : Int, Z = p * und k := ⟨_, rfl⟩
 have HZ : Hid (p * und k = Z) := hZ.symm
 rw [← hZ]
 clear hZ
 obtain ⟨na, ao, al, ac, aO, aL, aC, ya, rfl, ia, da, la, ea⟩ := ha
 have ra : RRaw w (.agg #[.bool na, .slice ao al ac, .slice aO aL aC]) p q := ⟨_, _, _, _, _, _, _, _, rfl, ia, da, la, ea⟩
 obtain ⟨nb, bo, bl, bc, bO, bL, bC, yb, rfl, ib, db, lb, eb⟩ := hb'
 have rb : RRaw w (.agg #[.bool nb, .slice bo bl bc, .slice bO bL bC]) r k := ⟨_, _, _, _, _, _, _, _, rfl, ib, db, lb, eb⟩
 clear ra da la ea ib db lb eb
 obtain ⟨W1, hW1⟩ : ∃ W1, W1 = ((w.alloc (.cells #[.bool na, .slice ao al ac, .slice aO aL aC] 27)).alloc (.cells #[.bool nb, .slice bo bl bc, .slice bO bL bC] 27)).alloc (.cells #[.bool false, .slice none 0 0] 25) := ⟨_, rfl⟩
 have qa : QCell W1 (w.heap.size) na (.slice ao al ac) (.slice aO aL aC) := by rw [hW1]; exact (qcell_step (qcell_step (qcell_new _ (by simp))))
 have qb : QCell W1 (w.heap.size + 1) nb (.slice bo bl bc) (.slice bO bL bC) := by rw [hW1]; exact (qcell_step (qcell_new _ (by simp)))
 have qR : ICell W1 (w.heap.size + 1 + 1) false (.slice none 0 0) := by rw [hW1]; exact (icell_new _ (by simp))
 have hb : Below w.heap.size w W1 := by rw [hW1]; exact bstep (bstep (belowA w _) (belowA _ _)) (belowA _ _)
 have hsz : w.heap.size + 1 + 1 < W1.heap.size := by rw [hW1]; simp
 replace ia := ia.below hb
 replace rb := rb.below hb
 have HW1 : Hid (W1 = ((w.alloc (.cells #[.bool na, .slice ao al ac, .slice aO aL aC] 27)).alloc (.cells #[.bool nb, .slice bo bl bc, .slice bO bL bC] 27)).alloc (.cells #[.bool false, .slice none 0 0] 25)) := hW1
 clear hW1
 go_enter Tryz.func52, Tryz.ntmps52
 go_wp2_with fail
 rw [← HW1.out]
 clear HW1
 obtain ⟨g, hg⟩ : ∃ g, g = w.heap.size := ⟨_, rfl⟩
 rw [← hg] at qa qb qR hsz ⊢
 have HG : Hid (g = w.heap.size) := hg
 clear hg
 refine region_late [(1, fun w' => w'.cell? ⟨g, 0, none⟩ = some (.bool na) ∧ w'.cell? ⟨g, 1, none⟩ = some (.slice ao al ac)), (2, fun w' => w'.cell? ⟨g + 1, 0, none⟩ = some (.bool nb) ∧ w'.cell? ⟨g + 1, 1, none⟩ = some (.slice bo bl bc) ∧ w'.cell? ⟨g + 1, 2, none⟩ = some (.slice bO bL bC))] (by kernel_rfl) ?_
 have hHeld : AllL W1.drew [(1, fun w' => w'.cell? ⟨g, 0, none⟩ = some (.bool na) ∧ w'.cell? ⟨g, 1, none⟩ = some (.slice ao al ac)), (2, fun w' => w'.cell? ⟨g + 1, 0, none⟩ = some (.bool nb) ∧ w'.cell? ⟨g + 1, 1, none⟩ = some (.slice bo bl bc) ∧ w'.cell? ⟨g + 1, 2, none⟩ = some (.slice bO bL bC))] := ⟨⟨(show QCell W1.drew (g) na (.slice ao al ac) (.slice aO aL aC) from qa).cells.1, (show QCell W1.drew (g) na (.slice ao al ac) (.slice aO aL aC) from qa).cells.2.1⟩, (show QCell W1.drew (g + 1) nb (.slice bo bl bc) (.slice bO bL bC) from qb).cells, trivial⟩
 refine late_fr 0 (v := .pointer (some ⟨g, 0, none⟩)) rfl (Or.inl ⟨by rfl, ?_⟩) hHeld ?_
 · (intro u _; go_simp)
 try simp only [pu1, pu2, pu3, pu4]
 refine late_tk 1 (v := .agg #[.bool na, .slice ao al ac]) rfl (List.Mem.head _) (Or.inl ⟨by rfl, ?_⟩) hHeld ?_
 · (intro u hu; (try dsimp only at hu); go_split_ands; go_simp)
 try simp only [pu1, pu2, pu3, pu4]
 refine late_tk 2 (v := .agg #[.bool nb, .slice bo bl bc, .slice bO bL bC]) rfl (List.Mem.tail _ (List.Mem.head _)) (Or.inl ⟨by rfl, ?_⟩) hHeld ?_
 · (intro u hu; (try dsimp only at hu); go_split_ands; go_simp)
 try simp only [pu1, pu2, pu3, pu4]
 refine late_st 3 rfl (fun K hK => ?_)
 go_simp
 refine (c_under (rb.below (below_drew' _))).mono ?_
 rintro e w2 ⟨v, rfl, hv, b2⟩
 obtain ⟨nu, uo, ul, uc, rfl, iu⟩ := hv.see
 clear hv
 have B2 : Below W1.heap.size W1 w2 := bstep (below_drew' _) b2
 replace hHeld := AllL.mv (w' := w2) hHeld ⟨⟨(qa.below B2).cells.1, (qa.below B2).cells.2.1⟩, (qb.below B2).cells, trivial⟩
 go_wp2_with fail
 refine hK.out _ _ (AllL.kept hHeld) ?_
 clear hK K
 try simp only [pu1, pu2, pu3, pu4]
 refine late_st 4 rfl (fun K hK => ?_)
 go_simp
 have hmk := c_mul ((ia.below (below_drew' _)).below b2) iu
 rw [HZ.out] at hmk
 refine hmk.mono ?_
 rintro e w3 ⟨v, rfl, ⟨m, rfl, hm⟩, b3⟩
 clear hmk
 obtain ⟨mo, ml, mc, rfl⟩ := hm.sl
 have B3 : Below W1.heap.size W1 w3 := bstep B2 b3
 replace hHeld := AllL.mv (w' := w3) hHeld ⟨⟨(qa.below B3).cells.1, (qa.below B3).cells.2.1⟩, (qb.below B3).cells, trivial⟩
 go_wp2_with fail
 refine hK.out _ _ (AllL.kept hHeld) ?_
 clear hK K
 try simp only [pu1, pu2, pu3, pu4]
 have qq := qR.below B3
 have HE : Hid (IEnd w (Z) (.returned (.agg #[.bool (decide (Z < 0)), .slice mo ml mc])) ((w3.setCell ⟨g + 1 + 1, 0, none⟩ (.bool (decide (Z < 0)))).setCell ⟨g + 1 + 1, 1, none⟩ (.slice mo ml mc))) := (int_done rfl (by rw [HG.out]; omega) hm (Nat.lt_of_lt_of_le hsz B2.size) (bstep hb B3)).i
 have HW : Hid (ICell ((w3.setCell ⟨g + 1 + 1, 0, none⟩ (.bool (decide (Z < 0)))).setCell ⟨g + 1 + 1, 1, none⟩ (.slice mo ml mc)) (g + 1 + 1) (decide (Z < 0)) (.slice mo ml mc)) := qq.write _ _
 obtain ⟨y0, y1⟩ := qq.cells
 have f0 := qq.thaw 0
 have f1 := qq.thaw 1
 generalize decide (Z < 0) = bb at *
 clear qq
 clear iu
 refine late_st 5 rfl (fun K hK => ?_)
 go_simp
 refine hK.out _ _ ⟨kpt 4, kpt 3, trivial⟩ ?_
 clear hK K
 try simp only [pu1, pu2, pu3, pu4]
 refine late_done (by kernel_rfl) ?_ _
 clear hHeld
 clear hb hsz hm qa qb qR ia rb b2 b3 B2 B3 
 go_wp2_with fail
 (try simp only [Exit.inBlock, Exit.then])
 exact bodyPost_ret (results_cell_row rfl _ _ (g + 1 + 1) 25 _ (0, 0) _ rfl HW.out Tryz.underlying25 rfl (by kernel_rfl)) rfl HE.out
theorem own_ne {B e g : Nat} {w : World} {v : Value} {xs : List Nat} (ho : Own B e w v xs) (hg : g < B) : v.ownBlock = none ∨ v.ownBlock ≠ some g := by
 cases hm : v.ownBlock with
 | none => exact Or.inl rfl
 | some k =>
  right
  intro e
  rw [Option.some.injEq] at e
  have := (ho.block k hm).1
  omega
theorem c_lowest {a b : Value} {p q : Int} {w : World} (ha : INum w a p) (hb' : INum w b q) (hq : q ≠ 0) : Calls Tryz.prog 50 #[a, b] w fun e w' => REnd w (Rat.divInt p q) e w' := by
 obtain ⟨r, hr⟩ : ∃ r, r = Rat.divInt p q := ⟨_, rfl⟩
 rw [← hr]
 obtain ⟨na, ao, al, ac, xa, rfl, ua, la, za⟩ := ha
 have ha : INum w (.agg #[.bool na, .slice ao al ac]) p := ⟨_, _, _, _, _, rfl, ua, la, za⟩
 obtain ⟨nb, bo, bl, bc, xb, rfl, ub, lb, zb⟩ := hb'
 have hb' : INum w (.agg #[.bool nb, .slice bo bl bc]) q := ⟨_, _, _, _, _, rfl, ub, lb, zb⟩
 have hvb : val xb ≠ 0 := by intro h; apply hq; rw [← zb, h]; cases nb <;> rfl
 obtain ⟨G, hG⟩ : ∃ G, G = Nat.gcd (val xa) (val xb) := ⟨_, rfl⟩
 have hG0 : 0 < G := by rw [hG]; exact Nat.gcd_pos_of_pos_right _ (Nat.pos_of_ne_zero hvb)
 have lG : (lim G).length ≤ 1000000 := by have h1 := lim_len_le (n := G) (Nat.lt_of_le_of_lt (by rw [hG]; exact Nat.gcd_le_right _ (Nat.pos_of_ne_zero hvb)) (val_lt ub.1)); omega
 have hnb : nb = decide (q < 0) := by have h := zv_dec (n := nb) (k := val xb) (by rw [zb]; exact hq); rw [zb] at h; exact h
 have hgg : G = Nat.gcd p.natAbs q.natAbs := by rw [hG, ← za, ← zb, zv_abs, zv_abs]
 have HT : Hid (p.tdiv (zv nb G) = r.num) := by show _ = _; rw [hr, hnb, hgg]; exact low_num hq
 have HD : Hid (q.tdiv (zv nb G) = (r.den : Int)) := by show _ = _; rw [hr, hnb, hgg]; exact low_den hq
 have HGC : Hid (Nat.gcd (val xa) (val xb) = G) := hG.symm
 clear hr hvb hG hG0 hnb hgg za zb
 obtain ⟨W1, hW1⟩ : ∃ W1, W1 = ((w.alloc (.cells #[.bool na, .slice ao al ac] 25)).alloc (.cells #[.bool nb, .slice bo bl bc] 25)).alloc (.cells #[.bool false, .slice none 0 0, .slice none 0 0] 27) := ⟨_, rfl⟩
 have qa : ICell W1 (w.heap.size) na (.slice ao al ac) := by rw [hW1]; exact (icell_step (icell_step (icell_new _ (by simp))))
 have qb : ICell W1 (w.heap.size + 1) nb (.slice bo bl bc) := by rw [hW1]; exact (icell_step (icell_new _ (by simp)))
 have qR : QCell W1 (w.heap.size + 1 + 1) false (.slice none 0 0) (.slice none 0 0) := by rw [hW1]; exact (qcell_new _ (by simp))
 have hb : Below w.heap.size w W1 := by rw [hW1]; exact bstep (bstep (belowA w _) (belowA _ _)) (belowA _ _)
 have hsz : w.heap.size + 1 + 1 < W1.heap.size := by rw [hW1]; simp
 replace ub := ub.below (Nat.le_refl _) hb
 replace ua := ua.below (Nat.le_refl _) hb
 replace ha := ha.below hb
 replace hb' := hb'.below hb
 have HW1 : Hid (W1 = ((w.alloc (.cells #[.bool na, .slice ao al ac] 25)).alloc (.cells #[.bool nb, .slice bo bl bc] 25)).alloc (.cells #[.bool false, .slice none 0 0, .slice none 0 0] 27)) := hW1
 clear hW1
 go_enter Tryz.func50, Tryz.ntmps50
 go_wp2_with fail
 rw [← HW1.out]
 clear HW1
 obtain ⟨g, hg⟩ : ∃ g, g = w.heap.size := ⟨_, rfl⟩
 rw [← hg] at qa qb qR hsz ⊢
 have HG : Hid (g = w.heap.size) := hg
 clear hg
 refine region_late [(1, fun w' => w'.cell? ⟨g + 1, 0, none⟩ = some (.bool nb)), (3, fun w' => w'.cell? ⟨g, 1, none⟩ = some (.slice ao al ac)), (5, fun w' => w'.cell? ⟨g + 1, 1, none⟩ = some (.slice bo bl bc))] (by kernel_rfl) ?_
 have hHeld : AllL W1.drew [(1, fun w' => w'.cell? ⟨g + 1, 0, none⟩ = some (.bool nb)), (3, fun w' => w'.cell? ⟨g, 1, none⟩ = some (.slice ao al ac)), (5, fun w' => w'.cell? ⟨g + 1, 1, none⟩ = some (.slice bo bl bc))] := ⟨(show ICell W1.drew (g + 1) nb (.slice bo bl bc) from qb).cells.1, (show ICell W1.drew (g) na (.slice ao al ac) from qa).cells.2, (show ICell W1.drew (g + 1) nb (.slice bo bl bc) from qb).cells.2, trivial⟩
 refine late_fr 0 (v := .pointer (some ⟨g + 1, 0, none⟩)) rfl (Or.inl ⟨by rfl, ?_⟩) hHeld ?_
 · (intro u _; go_simp)
 try simp only [pu1, pu2, pu3, pu4]
 refine late_tk 1 (v := .bool nb) rfl (List.Mem.head _) (Or.inl ⟨by rfl, ?_⟩) hHeld ?_
 · (intro u hu; (try dsimp only at hu); go_split_ands; go_simp)
 try simp only [pu1, pu2, pu3, pu4]
 refine late_fr 2 (v := .pointer (some ⟨g, 1, none⟩)) rfl (Or.inl ⟨by rfl, ?_⟩) hHeld ?_
 · (intro u _; go_simp)
 try simp only [pu1, pu2, pu3, pu4]
 refine late_tk 3 (v := .slice ao al ac) rfl (List.Mem.tail _ (List.Mem.head _)) (Or.inl ⟨by rfl, ?_⟩) hHeld ?_
 · (intro u hu; (try dsimp only at hu); go_split_ands; go_simp)
 try simp only [pu1, pu2, pu3, pu4]
 refine late_fr 4 (v := .pointer (some ⟨g + 1, 1, none⟩)) rfl (Or.inl ⟨by rfl, ?_⟩) hHeld ?_
 · (intro u _; go_simp)
 try simp only [pu1, pu2, pu3, pu4]
 refine late_tk 5 (v := .slice bo bl bc) rfl (List.Mem.tail _ (List.Mem.tail _ (List.Mem.head _))) (Or.inl ⟨by rfl, ?_⟩) hHeld ?_
 · (intro u hu; (try dsimp only at hu); go_split_ands; go_simp)
 try simp only [pu1, pu2, pu3, pu4]
 refine late_two 6 8 (by kernel_rfl) rfl rfl (fun K hK => ?_) (fun K hK => ?_)
 ·
  go_simp
  have hgc := gcd_any _ _ _ _ _ (ua.below (Nat.le_refl _) (below_drew' _)) (ub.below (Nat.le_refl _) (below_drew' _)) (by omega) (by omega)
  rw [HGC.out] at hgc
  refine hgc.mono ?_
  rintro e w2 ⟨v, rfl, hv, b2⟩
  clear hgc
  obtain ⟨go, gl, gc, rfl⟩ := hv.sl
  have B2 : Below W1.heap.size W1 w2 := bstep (below_drew' _) b2
  replace hHeld := AllL.mv (w' := w2) hHeld ⟨(qb.below B2).cells.1, (qa.below B2).cells.2, (qb.below B2).cells.2, trivial⟩
  go_wp2_with fail
  refine hK.out _ _ (AllL.kept hHeld) ?_
  clear hK K
  try simp only [pu1, pu2, pu3, pu4]
  refine late_two 7 8 (by kernel_rfl) rfl rfl (fun K hK => ?_) (fun K hK => ?_)
  ·
   go_simp
   refine hK.out _ _ ⟨kpt 7, kpt 6, kpt 6, trivial⟩ ?_
   clear hK K
   try simp only [pu1, pu2, pu3, pu4]
   refine late_st 8 rfl (fun K hK => ?_)
   go_simp
   refine hK.out _ _ ⟨kpt 7, kpt 6, kpt 6, trivial⟩ ?_
   clear hK K
   try simp only [pu1, pu2, pu3, pu4]
   refine late_st 9 rfl (fun K hK => ?_)
   go_simp
   refine hK.out _ _ ⟨kpt 7, kpt 6, kpt 6, trivial⟩ ?_
   clear hK K
   try simp only [pu1, pu2, pu3, pu4]
   refine late_done (by kernel_rfl) ?_ _
   clear hHeld
   have b := B2
   have ug := hv.num
   clear B2 b2 ua ub hv
   replace ha := ha.below b
   replace hb' := hb'.below b
   replace qa := qa.below b
   replace qb := qb.below b
   replace qR := qR.below b
   replace hb := bstep hb b
   replace hsz := Nat.lt_of_lt_of_le hsz b.size
   clear b
   obtain ⟨W5, hW5⟩ : ∃ W, W = w2.alloc (.cells #[.bool nb, .slice go gl gc] 25) := ⟨_, rfl⟩
   have qC : ICell W5 (w2.heap.size) nb (.slice go gl gc) := by rw [hW5]; exact (icell_new _ rfl)
   have b : Below w2.heap.size w2 W5 := by rw [hW5]; exact belowA _ _
   replace ha := ha.below b
   replace hb' := hb'.below b
   replace ug := ug.below (Nat.le_refl _) b
   replace qa := qa.below b
   replace qb := qb.below b
   replace qR := qR.below b
   replace hb := bstep hb b
   replace hsz := Nat.lt_of_lt_of_le hsz b.size
   clear b
   have rqa0 : (w2.alloc (.cells #[.bool nb, .slice go gl gc] 25)).cell? ⟨g, 0, none⟩ = some (.bool na) := by rw [← hW5]; exact qa.cells.1
   have rqa1 : (w2.alloc (.cells #[.bool nb, .slice go gl gc] 25)).cell? ⟨g, 1, none⟩ = some (.slice ao al ac) := by rw [← hW5]; exact qa.cells.2
   have rqb0 : (w2.alloc (.cells #[.bool nb, .slice go gl gc] 25)).cell? ⟨g + 1, 0, none⟩ = some (.bool nb) := by rw [← hW5]; exact qb.cells.1
   have rqb1 : (w2.alloc (.cells #[.bool nb, .slice go gl gc] 25)).cell? ⟨g + 1, 1, none⟩ = some (.slice bo bl bc) := by rw [← hW5]; exact qb.cells.2
   have rqR0 : (w2.alloc (.cells #[.bool nb, .slice go gl gc] 25)).cell? ⟨g + 1 + 1, 0, none⟩ = some (.bool false) := by rw [← hW5]; exact qR.cells.1
   have rqR1 : (w2.alloc (.cells #[.bool nb, .slice go gl gc] 25)).cell? ⟨g + 1 + 1, 1, none⟩ = some (.slice none 0 0) := by rw [← hW5]; exact qR.cells.2.1
   have rqR2 : (w2.alloc (.cells #[.bool nb, .slice go gl gc] 25)).cell? ⟨g + 1 + 1, 2, none⟩ = some (.slice none 0 0) := by rw [← hW5]; exact qR.cells.2.2
   have rqC0 : (w2.alloc (.cells #[.bool nb, .slice go gl gc] 25)).cell? ⟨w2.heap.size, 0, none⟩ = some (.bool nb) := by rw [← hW5]; exact qC.cells.1
   have rqC1 : (w2.alloc (.cells #[.bool nb, .slice go gl gc] 25)).cell? ⟨w2.heap.size, 1, none⟩ = some (.slice go gl gc) := by rw [← hW5]; exact qC.cells.2
   obtain ⟨v5, hv5⟩ : ∃ v, v = w2.heap.size := ⟨_, rfl⟩
   rw [← hv5] at qC
   have HW5 : Hid (W5 = w2.alloc (.cells #[.bool nb, .slice go gl gc] 25)) := hW5
   have Hv5 : Hid (v5 = w2.heap.size) := hv5
   clear hW5 hv5
   go_wp2_with fail
   rw [← HW5.out, ← Hv5.out]
   clear HW5 Hv5 rqa0 rqa1 rqb0 rqb1 rqR0 rqR1 rqR2 rqC0 rqC1
   have ic : INum W5 (.agg #[.bool nb, .slice go gl gc]) (zv nb G) := ⟨_, _, _, _, _, rfl, ug, lG, by rw [val_lim]⟩
   have hordA : W5.heap.size ≤ W5.heap.size := Nat.le_refl _
   have hq1 := c_quo ha ic
   rw [HT.out] at hq1
   generalize errZ (zv nb G).natAbs = er at hq1
   have hszz := hsz
   refine (hq1).mono ?_
   rintro e w6 ⟨mq, mr, rfl, hm, o2, _, b⟩
   clear hq1
   obtain ⟨mo, ml, mc, rfl⟩ := hm.sl
   obtain ⟨uo, ul, uc, rfl⟩ := o2.sl
   obtain ⟨bb, hbb⟩ : ∃ b, b = decide (r.num < 0) := ⟨_, rfl⟩
   have HBB : Hid (bb = decide (r.num < 0)) := hbb
   rw [← hbb]
   generalize decide (rz p (zv nb G) < 0) = tb
   clear o2 hbb
   replace ha := ha.below b
   replace hb' := hb'.below b
   replace ug := ug.below (Nat.le_refl _) b
   replace ic := ic.below b
   replace qa := qa.below b
   replace qb := qb.below b
   replace qR := qR.below b
   replace qC := qC.below b
   replace hb := bstep hb b
   replace hsz := Nat.lt_of_lt_of_le hsz b.size
   replace hordA := Nat.le_trans hordA b.size
   clear b
   obtain ⟨W7, hW7⟩ : ∃ W, W = (w6.alloc (.cells #[.bool bb, .slice mo ml mc] 25)).alloc (.cells #[.bool tb, .slice uo ul uc] 25) := ⟨_, rfl⟩
   have qT : ICell W7 (w6.heap.size) bb (.slice mo ml mc) := by rw [hW7]; exact (icell_step (icell_new _ rfl))
   have qU : ICell W7 (w6.heap.size + 1) tb (.slice uo ul uc) := by rw [hW7]; exact (icell_new _ (by simp))
   have b : Below w6.heap.size w6 W7 := by rw [hW7]; exact bstep (belowA _ _) (belowA _ _)
   replace ha := ha.below b
   replace hb' := hb'.below b
   replace ug := ug.below (Nat.le_refl _) b
   replace ic := ic.below b
   replace hm := hm.below b
   replace qa := qa.below b
   replace qb := qb.below b
   replace qR := qR.below b
   replace qC := qC.below b
   replace hb := bstep hb b
   replace hsz := Nat.lt_of_lt_of_le hsz b.size
   replace hordA := Nat.le_trans hordA b.size
   clear b
   have rqa0 : ((w6.alloc (.cells #[.bool bb, .slice mo ml mc] 25)).alloc (.cells #[.bool tb, .slice uo ul uc] 25)).cell? ⟨g, 0, none⟩ = some (.bool na) := by rw [← hW7]; exact qa.cells.1
   have rqa1 : ((w6.alloc (.cells #[.bool bb, .slice mo ml mc] 25)).alloc (.cells #[.bool tb, .slice uo ul uc] 25)).cell? ⟨g, 1, none⟩ = some (.slice ao al ac) := by rw [← hW7]; exact qa.cells.2
   have rqb0 : ((w6.alloc (.cells #[.bool bb, .slice mo ml mc] 25)).alloc (.cells #[.bool tb, .slice uo ul uc] 25)).cell? ⟨g + 1, 0, none⟩ = some (.bool nb) := by rw [← hW7]; exact qb.cells.1
   have rqb1 : ((w6.alloc (.cells #[.bool bb, .slice mo ml mc] 25)).alloc (.cells #[.bool tb, .slice uo ul uc] 25)).cell? ⟨g + 1, 1, none⟩ = some (.slice bo bl bc) := by rw [← hW7]; exact qb.cells.2
   have rqR0 : ((w6.alloc (.cells #[.bool bb, .slice mo ml mc] 25)).alloc (.cells #[.bool tb, .slice uo ul uc] 25)).cell? ⟨g + 1 + 1, 0, none⟩ = some (.bool false) := by rw [← hW7]; exact qR.cells.1
   have rqR1 : ((w6.alloc (.cells #[.bool bb, .slice mo ml mc] 25)).alloc (.cells #[.bool tb, .slice uo ul uc] 25)).cell? ⟨g + 1 + 1, 1, none⟩ = some (.slice none 0 0) := by rw [← hW7]; exact qR.cells.2.1
   have rqR2 : ((w6.alloc (.cells #[.bool bb, .slice mo ml mc] 25)).alloc (.cells #[.bool tb, .slice uo ul uc] 25)).cell? ⟨g + 1 + 1, 2, none⟩ = some (.slice none 0 0) := by rw [← hW7]; exact qR.cells.2.2
   have rqC0 : ((w6.alloc (.cells #[.bool bb, .slice mo ml mc] 25)).alloc (.cells #[.bool tb, .slice uo ul uc] 25)).cell? ⟨v5, 0, none⟩ = some (.bool nb) := by rw [← hW7]; exact qC.cells.1
   have rqC1 : ((w6.alloc (.cells #[.bool bb, .slice mo ml mc] 25)).alloc (.cells #[.bool tb, .slice uo ul uc] 25)).cell? ⟨v5, 1, none⟩ = some (.slice go gl gc) := by rw [← hW7]; exact qC.cells.2
   have rqT0 : ((w6.alloc (.cells #[.bool bb, .slice mo ml mc] 25)).alloc (.cells #[.bool tb, .slice uo ul uc] 25)).cell? ⟨w6.heap.size, 0, none⟩ = some (.bool bb) := by rw [← hW7]; exact qT.cells.1
   have rqT1 : ((w6.alloc (.cells #[.bool bb, .slice mo ml mc] 25)).alloc (.cells #[.bool tb, .slice uo ul uc] 25)).cell? ⟨w6.heap.size, 1, none⟩ = some (.slice mo ml mc) := by rw [← hW7]; exact qT.cells.2
   have rqU0 : ((w6.alloc (.cells #[.bool bb, .slice mo ml mc] 25)).alloc (.cells #[.bool tb, .slice uo ul uc] 25)).cell? ⟨w6.heap.size + 1, 0, none⟩ = some (.bool tb) := by rw [← hW7]; exact qU.cells.1
   have rqU1 : ((w6.alloc (.cells #[.bool bb, .slice mo ml mc] 25)).alloc (.cells #[.bool tb, .slice uo ul uc] 25)).cell? ⟨w6.heap.size + 1, 1, none⟩ = some (.slice uo ul uc) := by rw [← hW7]; exact qU.cells.2
   obtain ⟨v7, hv7⟩ : ∃ v, v = w6.heap.size := ⟨_, rfl⟩
   rw [← hv7] at qT qU
   have HW7 : Hid (W7 = (w6.alloc (.cells #[.bool bb, .slice mo ml mc] 25)).alloc (.cells #[.bool tb, .slice uo ul uc] 25)) := hW7
   have Hv7 : Hid (v7 = w6.heap.size) := hv7
   clear hW7 hv7
   go_wp2_with fail
   rw [← HW7.out, ← Hv7.out]
   clear HW7 Hv7 rqa0 rqa1 rqb0 rqb1 rqR0 rqR1 rqR2 rqC0 rqC1 rqT0 rqT1 rqU0 rqU1
   have hq1 := c_quo hb' ic
   rw [HD.out] at hq1
   generalize errZ (zv nb G).natAbs = er2 at hq1
   have hord : W5.heap.size ≤ W7.heap.size := hordA
   have HB2 := hm
   refine (hq1).mono ?_
   rintro e w8 ⟨mq, mr, rfl, hd, o2, _, b⟩
   clear hq1
   obtain ⟨mO, mL, mC, rfl⟩ := hd.sl
   obtain ⟨vo, vl, vc, rfl⟩ := o2.sl
   generalize decide ((r.den : Int) < 0) = vb
   generalize decide (rz q (zv nb G) < 0) = xb_
   rw [Int.natAbs_natCast] at hd
   have hap := apart_later HB2 hd (Nat.le_refl _)
   have HSB : Hid (W7.heap.size ≤ W7.heap.size) := Nat.le_trans (Nat.le_refl _) (Nat.le_refl _)
   clear o2 HB2 HSB
   replace ha := ha.below b
   replace hb' := hb'.below b
   replace ug := ug.below (Nat.le_refl _) b
   replace ic := ic.below b
   replace hm := hm.below b
   replace qa := qa.below b
   replace qb := qb.below b
   replace qR := qR.below b
   replace qC := qC.below b
   replace qT := qT.below b
   replace qU := qU.below b
   replace hb := bstep hb b
   replace hsz := Nat.lt_of_lt_of_le hsz b.size
   clear b
   obtain ⟨W, hW⟩ : ∃ W, W = (w8.alloc (.cells #[.bool vb, .slice mO mL mC] 25)).alloc (.cells #[.bool xb_, .slice vo vl vc] 25) := ⟨_, rfl⟩
   have qV : ICell W w8.heap.size vb (.slice mO mL mC) := by rw [hW]; exact icell_step (icell_new _ rfl)
   have b : Below w8.heap.size w8 W := by rw [hW]; exact bstep (belowA _ _) (belowA _ _)
   replace ha := ha.below b
   replace hb' := hb'.below b
   replace ug := ug.below (Nat.le_refl _) b
   replace ic := ic.below b
   replace hm := hm.below b
   replace hd := hd.below b
   replace qa := qa.below b
   replace qb := qb.below b
   replace qR := qR.below b
   replace qC := qC.below b
   replace qT := qT.below b
   replace qU := qU.below b
   replace hb := bstep hb b
   replace hsz := Nat.lt_of_lt_of_le hsz b.size
   clear b
   have qq := qR
   have hd2 := hd.mono hord
   have HE : Hid (REnd w r (.returned (.agg #[.bool bb, .slice mo ml mc, .slice mO mL mC])) (((W.setCell ⟨g + 1 + 1, 0, none⟩ (.bool bb)).setCell ⟨g + 1 + 1, 1, none⟩ (.slice mo ml mc)).setCell ⟨g + 1 + 1, 2, none⟩ (.slice mO mL mC))) := rat_done HBB.out (by rw [HG.out]; omega) hm hd2 hap hszz (hb)
   have HW : Hid (QCell (((W.setCell ⟨g + 1 + 1, 0, none⟩ (.bool bb)).setCell ⟨g + 1 + 1, 1, none⟩ (.slice mo ml mc)).setCell ⟨g + 1 + 1, 2, none⟩ (.slice mO mL mC)) (g + 1 + 1) bb (.slice mo ml mc) (.slice mO mL mC)) := qq.write _ _ _
   obtain ⟨y0, y1, y2⟩ := qq.cells
   have f0 := qq.thaw 0
   have f1 := qq.thaw 1
   have f2 := qq.thaw 2
   clear qq hap
   obtain ⟨cT0, cT1⟩ := qT.cells
   obtain ⟨cV0, cV1⟩ := qV.cells
   clear hb hsz hszz hd2 qV qa qb qR qC qT qU ha hb' ug ic hm hd
   subst hW
   go_wp2_with fail
   (try simp only [Exit.inBlock, Exit.then])
   exact bodyPost_ret (results_cell_row rfl _ _ (g + 1 + 1) 27 _ (0, 0) _ rfl HW.out Tryz.underlying27 rfl (by kernel_rfl)) rfl HE.out
  ·
   go_simp
   refine hK.out _ _ ⟨Or.inr (icell_step (qb.below B2)).cells.1, kpt 6, kpt 6, trivial⟩ ?_
   clear hK K
   try simp only [pu1, pu2, pu3, pu4]
   refine late_st 7 rfl (fun K hK => ?_)
   go_simp
   refine hK.out _ _ ⟨kpt 7, kpt 6, kpt 6, trivial⟩ ?_
   clear hK K
   try simp only [pu1, pu2, pu3, pu4]
   refine late_st 9 rfl (fun K hK => ?_)
   go_simp
   refine hK.out _ _ ⟨kpt 7, kpt 6, kpt 6, trivial⟩ ?_
   clear hK K
   try simp only [pu1, pu2, pu3, pu4]
   refine late_done (by kernel_rfl) ?_ _
   clear hHeld
   have b := B2
   have ug := hv.num
   clear B2 b2 ua ub hv
   replace ha := ha.below b
   replace hb' := hb'.below b
   replace qa := qa.below b
   replace qb := qb.below b
   replace qR := qR.below b
   replace hb := bstep hb b
   replace hsz := Nat.lt_of_lt_of_le hsz b.size
   clear b
   obtain ⟨W5, hW5⟩ : ∃ W, W = w2.alloc (.cells #[.bool nb, .slice go gl gc] 25) := ⟨_, rfl⟩
   have qC : ICell W5 (w2.heap.size) nb (.slice go gl gc) := by rw [hW5]; exact (icell_new _ rfl)
   have b : Below w2.heap.size w2 W5 := by rw [hW5]; exact belowA _ _
   replace ha := ha.below b
   replace hb' := hb'.below b
   replace ug := ug.below (Nat.le_refl _) b
   replace qa := qa.below b
   replace qb := qb.below b
   replace qR := qR.below b
   replace hb := bstep hb b
   replace hsz := Nat.lt_of_lt_of_le hsz b.size
   clear b
   have rqa0 : (w2.alloc (.cells #[.bool nb, .slice go gl gc] 25)).cell? ⟨g, 0, none⟩ = some (.bool na) := by rw [← hW5]; exact qa.cells.1
   have rqa1 : (w2.alloc (.cells #[.bool nb, .slice go gl gc] 25)).cell? ⟨g, 1, none⟩ = some (.slice ao al ac) := by rw [← hW5]; exact qa.cells.2
   have rqb0 : (w2.alloc (.cells #[.bool nb, .slice go gl gc] 25)).cell? ⟨g + 1, 0, none⟩ = some (.bool nb) := by rw [← hW5]; exact qb.cells.1
   have rqb1 : (w2.alloc (.cells #[.bool nb, .slice go gl gc] 25)).cell? ⟨g + 1, 1, none⟩ = some (.slice bo bl bc) := by rw [← hW5]; exact qb.cells.2
   have rqR0 : (w2.alloc (.cells #[.bool nb, .slice go gl gc] 25)).cell? ⟨g + 1 + 1, 0, none⟩ = some (.bool false) := by rw [← hW5]; exact qR.cells.1
   have rqR1 : (w2.alloc (.cells #[.bool nb, .slice go gl gc] 25)).cell? ⟨g + 1 + 1, 1, none⟩ = some (.slice none 0 0) := by rw [← hW5]; exact qR.cells.2.1
   have rqR2 : (w2.alloc (.cells #[.bool nb, .slice go gl gc] 25)).cell? ⟨g + 1 + 1, 2, none⟩ = some (.slice none 0 0) := by rw [← hW5]; exact qR.cells.2.2
   have rqC0 : (w2.alloc (.cells #[.bool nb, .slice go gl gc] 25)).cell? ⟨w2.heap.size, 0, none⟩ = some (.bool nb) := by rw [← hW5]; exact qC.cells.1
   have rqC1 : (w2.alloc (.cells #[.bool nb, .slice go gl gc] 25)).cell? ⟨w2.heap.size, 1, none⟩ = some (.slice go gl gc) := by rw [← hW5]; exact qC.cells.2
   obtain ⟨v5, hv5⟩ : ∃ v, v = w2.heap.size := ⟨_, rfl⟩
   rw [← hv5] at qC
   have HW5 : Hid (W5 = w2.alloc (.cells #[.bool nb, .slice go gl gc] 25)) := hW5
   have Hv5 : Hid (v5 = w2.heap.size) := hv5
   clear hW5 hv5
   go_wp2_with fail
   rw [← HW5.out, ← Hv5.out]
   clear HW5 Hv5 rqa0 rqa1 rqb0 rqb1 rqR0 rqR1 rqR2 rqC0 rqC1
   have ic : INum W5 (.agg #[.bool nb, .slice go gl gc]) (zv nb G) := ⟨_, _, _, _, _, rfl, ug, lG, by rw [val_lim]⟩
   have hordA : W5.heap.size ≤ W5.heap.size := Nat.le_refl _
   have hq1 := c_quo ha ic
   rw [HT.out] at hq1
   generalize errZ (zv nb G).natAbs = er at hq1
   have hszz := hsz
   refine (hq1).mono ?_
   rintro e w6 ⟨mq, mr, rfl, hm, o2, _, b⟩
   clear hq1
   obtain ⟨mo, ml, mc, rfl⟩ := hm.sl
   obtain ⟨uo, ul, uc, rfl⟩ := o2.sl
   obtain ⟨bb, hbb⟩ : ∃ b, b = decide (r.num < 0) := ⟨_, rfl⟩
   have HBB : Hid (bb = decide (r.num < 0)) := hbb
   rw [← hbb]
   generalize decide (rz p (zv nb G) < 0) = tb
   clear o2 hbb
   replace ha := ha.below b
   replace hb' := hb'.below b
   replace ug := ug.below (Nat.le_refl _) b
   replace ic := ic.below b
   replace qa := qa.below b
   replace qb := qb.below b
   replace qR := qR.below b
   replace qC := qC.below b
   replace hb := bstep hb b
   replace hsz := Nat.lt_of_lt_of_le hsz b.size
   replace hordA := Nat.le_trans hordA b.size
   clear b
   obtain ⟨W7, hW7⟩ : ∃ W, W = (w6.alloc (.cells #[.bool bb, .slice mo ml mc] 25)).alloc (.cells #[.bool tb, .slice uo ul uc] 25) := ⟨_, rfl⟩
   have qT : ICell W7 (w6.heap.size) bb (.slice mo ml mc) := by rw [hW7]; exact (icell_step (icell_new _ rfl))
   have qU : ICell W7 (w6.heap.size + 1) tb (.slice uo ul uc) := by rw [hW7]; exact (icell_new _ (by simp))
   have b : Below w6.heap.size w6 W7 := by rw [hW7]; exact bstep (belowA _ _) (belowA _ _)
   replace ha := ha.below b
   replace hb' := hb'.below b
   replace ug := ug.below (Nat.le_refl _) b
   replace ic := ic.below b
   replace hm := hm.below b
   replace qa := qa.below b
   replace qb := qb.below b
   replace qR := qR.below b
   replace qC := qC.below b
   replace hb := bstep hb b
   replace hsz := Nat.lt_of_lt_of_le hsz b.size
   replace hordA := Nat.le_trans hordA b.size
   clear b
   have rqa0 : ((w6.alloc (.cells #[.bool bb, .slice mo ml mc] 25)).alloc (.cells #[.bool tb, .slice uo ul uc] 25)).cell? ⟨g, 0, none⟩ = some (.bool na) := by rw [← hW7]; exact qa.cells.1
   have rqa1 : ((w6.alloc (.cells #[.bool bb, .slice mo ml mc] 25)).alloc (.cells #[.bool tb, .slice uo ul uc] 25)).cell? ⟨g, 1, none⟩ = some (.slice ao al ac) := by rw [← hW7]; exact qa.cells.2
   have rqb0 : ((w6.alloc (.cells #[.bool bb, .slice mo ml mc] 25)).alloc (.cells #[.bool tb, .slice uo ul uc] 25)).cell? ⟨g + 1, 0, none⟩ = some (.bool nb) := by rw [← hW7]; exact qb.cells.1
   have rqb1 : ((w6.alloc (.cells #[.bool bb, .slice mo ml mc] 25)).alloc (.cells #[.bool tb, .slice uo ul uc] 25)).cell? ⟨g + 1, 1, none⟩ = some (.slice bo bl bc) := by rw [← hW7]; exact qb.cells.2
   have rqR0 : ((w6.alloc (.cells #[.bool bb, .slice mo ml mc] 25)).alloc (.cells #[.bool tb, .slice uo ul uc] 25)).cell? ⟨g + 1 + 1, 0, none⟩ = some (.bool false) := by rw [← hW7]; exact qR.cells.1
   have rqR1 : ((w6.alloc (.cells #[.bool bb, .slice mo ml mc] 25)).alloc (.cells #[.bool tb, .slice uo ul uc] 25)).cell? ⟨g + 1 + 1, 1, none⟩ = some (.slice none 0 0) := by rw [← hW7]; exact qR.cells.2.1
   have rqR2 : ((w6.alloc (.cells #[.bool bb, .slice mo ml mc] 25)).alloc (.cells #[.bool tb, .slice uo ul uc] 25)).cell? ⟨g + 1 + 1, 2, none⟩ = some (.slice none 0 0) := by rw [← hW7]; exact qR.cells.2.2
   have rqC0 : ((w6.alloc (.cells #[.bool bb, .slice mo ml mc] 25)).alloc (.cells #[.bool tb, .slice uo ul uc] 25)).cell? ⟨v5, 0, none⟩ = some (.bool nb) := by rw [← hW7]; exact qC.cells.1
   have rqC1 : ((w6.alloc (.cells #[.bool bb, .slice mo ml mc] 25)).alloc (.cells #[.bool tb, .slice uo ul uc] 25)).cell? ⟨v5, 1, none⟩ = some (.slice go gl gc) := by rw [← hW7]; exact qC.cells.2
   have rqT0 : ((w6.alloc (.cells #[.bool bb, .slice mo ml mc] 25)).alloc (.cells #[.bool tb, .slice uo ul uc] 25)).cell? ⟨w6.heap.size, 0, none⟩ = some (.bool bb) := by rw [← hW7]; exact qT.cells.1
   have rqT1 : ((w6.alloc (.cells #[.bool bb, .slice mo ml mc] 25)).alloc (.cells #[.bool tb, .slice uo ul uc] 25)).cell? ⟨w6.heap.size, 1, none⟩ = some (.slice mo ml mc) := by rw [← hW7]; exact qT.cells.2
   have rqU0 : ((w6.alloc (.cells #[.bool bb, .slice mo ml mc] 25)).alloc (.cells #[.bool tb, .slice uo ul uc] 25)).cell? ⟨w6.heap.size + 1, 0, none⟩ = some (.bool tb) := by rw [← hW7]; exact qU.cells.1
   have rqU1 : ((w6.alloc (.cells #[.bool bb, .slice mo ml mc] 25)).alloc (.cells #[.bool tb, .slice uo ul uc] 25)).cell? ⟨w6.heap.size + 1, 1, none⟩ = some (.slice uo ul uc) := by rw [← hW7]; exact qU.cells.2
   obtain ⟨v7, hv7⟩ : ∃ v, v = w6.heap.size := ⟨_, rfl⟩
   rw [← hv7] at qT qU
   have HW7 : Hid (W7 = (w6.alloc (.cells #[.bool bb, .slice mo ml mc] 25)).alloc (.cells #[.bool tb, .slice uo ul uc] 25)) := hW7
   have Hv7 : Hid (v7 = w6.heap.size) := hv7
   clear hW7 hv7
   go_wp2_with fail
   rw [← HW7.out, ← Hv7.out]
   clear HW7 Hv7 rqa0 rqa1 rqb0 rqb1 rqR0 rqR1 rqR2 rqC0 rqC1 rqT0 rqT1 rqU0 rqU1
   have hq1 := c_quo hb' ic
   rw [HD.out] at hq1
   generalize errZ (zv nb G).natAbs = er2 at hq1
   have hord : W5.heap.size ≤ W7.heap.size := hordA
   have HB2 := hm
   refine (hq1).mono ?_
   rintro e w8 ⟨mq, mr, rfl, hd, o2, _, b⟩
   clear hq1
   obtain ⟨mO, mL, mC, rfl⟩ := hd.sl
   obtain ⟨vo, vl, vc, rfl⟩ := o2.sl
   generalize decide ((r.den : Int) < 0) = vb
   generalize decide (rz q (zv nb G) < 0) = xb_
   rw [Int.natAbs_natCast] at hd
   have hap := apart_later HB2 hd (Nat.le_refl _)
   have HSB : Hid (W7.heap.size ≤ W7.heap.size) := Nat.le_trans (Nat.le_refl _) (Nat.le_refl _)
   clear o2 HB2 HSB
   replace ha := ha.below b
   replace hb' := hb'.below b
   replace ug := ug.below (Nat.le_refl _) b
   replace ic := ic.below b
   replace hm := hm.below b
   replace qa := qa.below b
   replace qb := qb.below b
   replace qR := qR.below b
   replace qC := qC.below b
   replace qT := qT.below b
   replace qU := qU.below b
   replace hb := bstep hb b
   replace hsz := Nat.lt_of_lt_of_le hsz b.size
   clear b
   obtain ⟨W, hW⟩ : ∃ W, W = (w8.alloc (.cells #[.bool vb, .slice mO mL mC] 25)).alloc (.cells #[.bool xb_, .slice vo vl vc] 25) := ⟨_, rfl⟩
   have qV : ICell W w8.heap.size vb (.slice mO mL mC) := by rw [hW]; exact icell_step (icell_new _ rfl)
   have b : Below w8.heap.size w8 W := by rw [hW]; exact bstep (belowA _ _) (belowA _ _)
   replace ha := ha.below b
   replace hb' := hb'.below b
   replace ug := ug.below (Nat.le_refl _) b
   replace ic := ic.below b
   replace hm := hm.below b
   replace hd := hd.below b
   replace qa := qa.below b
   replace qb := qb.below b
   replace qR := qR.below b
   replace qC := qC.below b
   replace qT := qT.below b
   replace qU := qU.below b
   replace hb := bstep hb b
   replace hsz := Nat.lt_of_lt_of_le hsz b.size
   clear b
   have qq := qR
   have hd2 := hd.mono hord
   have HE : Hid (REnd w r (.returned (.agg #[.bool bb, .slice mo ml mc, .slice mO mL mC])) (((W.setCell ⟨g + 1 + 1, 0, none⟩ (.bool bb)).setCell ⟨g + 1 + 1, 1, none⟩ (.slice mo ml mc)).setCell ⟨g + 1 + 1, 2, none⟩ (.slice mO mL mC))) := rat_done HBB.out (by rw [HG.out]; omega) hm hd2 hap hszz (hb)
   have HW : Hid (QCell (((W.setCell ⟨g + 1 + 1, 0, none⟩ (.bool bb)).setCell ⟨g + 1 + 1, 1, none⟩ (.slice mo ml mc)).setCell ⟨g + 1 + 1, 2, none⟩ (.slice mO mL mC)) (g + 1 + 1) bb (.slice mo ml mc) (.slice mO mL mC)) := qq.write _ _ _
   obtain ⟨y0, y1, y2⟩ := qq.cells
   have f0 := qq.thaw 0
   have f1 := qq.thaw 1
   have f2 := qq.thaw 2
   clear qq hap
   obtain ⟨cT0, cT1⟩ := qT.cells
   obtain ⟨cV0, cV1⟩ := qV.cells
   clear hb hsz hszz hd2 qV qa qb qR qC qT qU ha hb' ug ic hm hd
   subst hW
   go_wp2_with fail
   (try simp only [Exit.inBlock, Exit.then])
   exact bodyPost_ret (results_cell_row rfl _ _ (g + 1 + 1) 27 _ (0, 0) _ rfl HW.out Tryz.underlying27 rfl (by kernel_rfl)) rfl HE.out
 ·
  go_simp
  have A0 : Below W1.heap.size W1 (W1.alloc (.cells #[.bool false, .slice none 0 0] 25)).drew := bstep (belowA _ _) (below_drew' _)
  replace hHeld := AllL.mv (w' := ((W1.alloc (.cells #[.bool false, .slice none 0 0] 25)).drew)) hHeld ⟨(qb.below A0).cells.1, (qa.below A0).cells.2, (qb.below A0).cells.2, trivial⟩
  refine hK.out _ _ (AllL.kept hHeld) ?_
  clear hK K
  try simp only [pu1, pu2, pu3, pu4]
  obtain ⟨w2, hw2⟩ : ∃ u, u = (W1.alloc (.cells #[.bool false, .slice none 0 0] 25)).drew := ⟨_, rfl⟩
  have qc : ICell w2 W1.heap.size false (.slice none 0 0) := by rw [hw2]; exact (icell_new W1 rfl).below (below_drew' _)
  have hsz2 : W1.heap.size < w2.heap.size := by rw [hw2]; exact Nat.lt_of_lt_of_le (by simp : W1.heap.size < (W1.alloc (.cells #[.bool false, .slice none 0 0] 25)).heap.size) (below_drew' _).size
  rw [← hw2] at A0 hHeld ⊢
  clear hw2
  refine late_st 6 rfl (fun K hK => ?_)
  go_simp
  have hgc := gcd_any _ _ _ _ _ (ua.below (Nat.le_refl _) A0) (ub.below (Nat.le_refl _) A0) (by omega) (by omega)
  rw [HGC.out] at hgc
  refine hgc.mono ?_
  rintro e w3 ⟨v, rfl, hv, b2⟩
  clear hgc
  obtain ⟨go, gl, gc, rfl⟩ := hv.sl
  have B2 : Below W1.heap.size W1 w3 := bstep A0 b2
  replace hHeld := AllL.mv (w' := w3) hHeld ⟨(qb.below B2).cells.1, (qa.below B2).cells.2, (qb.below B2).cells.2, trivial⟩
  go_wp2_with fail
  refine hK.out _ _ (AllL.kept hHeld) ?_
  clear hK K
  try simp only [pu1, pu2, pu3, pu4]
  refine late_st 7 rfl (fun K hK => ?_)
  go_simp
  refine hK.out _ _ ⟨kpt 7, kpt 6, kpt 6, trivial⟩ ?_
  clear hK K
  try simp only [pu1, pu2, pu3, pu4]
  have qc3 := qc.below b2
  obtain ⟨y0, y1⟩ := qc3.cells
  have f0 := qc3.thaw 0
  have f1 := qc3.thaw 1
  refine late_st 9 rfl (fun K hK => ?_)
  go_simp
  refine hK.out _ _ ⟨kpt 7, kpt 6, kpt 6, trivial⟩ ?_
  clear hK K
  try simp only [pu1, pu2, pu3, pu4]
  refine late_done (by kernel_rfl) ?_ _
  clear hHeld y0 y1 f0 f1
  obtain ⟨Y, hY⟩ : ∃ Y, Y = ((w3.setCell ⟨W1.heap.size, 0, none⟩ (.bool nb)).setCell ⟨W1.heap.size, 1, none⟩ (.slice go gl gc)) := ⟨_, rfl⟩
  have qC : ICell Y W1.heap.size nb (.slice go gl gc) := by rw [hY]; exact qc3.write _ _
  have b : Below W1.heap.size W1 Y := by rw [hY]; exact iend2 B2 (Nat.le_refl _)
  have ug : Num Y (.slice go gl gc) (lim G) := by rw [hY]; exact ((hv.other _ (own_ne hv hsz2)).other _ (own_ne hv hsz2)).num
  rw [← hY]
  clear hY hv b2 B2 A0 qc qc3 ua ub hsz2
  replace ha := ha.below b
  replace hb' := hb'.below b
  replace qa := qa.below b
  replace qb := qb.below b
  replace qR := qR.below b
  replace hb := bstep hb b
  replace hsz := Nat.lt_of_lt_of_le hsz b.size
  clear b
  obtain ⟨v5, hv5⟩ : ∃ v, v = W1.heap.size := ⟨_, rfl⟩
  rw [← hv5] at qC ⊢
  clear hv5
  obtain ⟨cqa0, cqa1⟩ := qa.cells
  obtain ⟨cqb0, cqb1⟩ := qb.cells
  obtain ⟨cqR0, cqR1, cqR2⟩ := qR.cells
  obtain ⟨cqC0, cqC1⟩ := qC.cells
  go_wp2_with fail
  clear cqa0 cqa1 cqb0 cqb1 cqR0 cqR1 cqR2 cqC0 cqC1
  have ic : INum Y (.agg #[.bool nb, .slice go gl gc]) (zv nb G) := ⟨_, _, _, _, _, rfl, ug, lG, by rw [val_lim]⟩
  have hordA : Y.heap.size ≤ Y.heap.size := Nat.le_refl _
  have hq1 := c_quo ha ic
  rw [HT.out] at hq1
  generalize errZ (zv nb G).natAbs = er at hq1
  have hszz := hsz
  refine (hq1).mono ?_
  rintro e w5 ⟨mq, mr, rfl, hm, o2, _, b⟩
  clear hq1
  obtain ⟨mo, ml, mc, rfl⟩ := hm.sl
  obtain ⟨uo, ul, uc, rfl⟩ := o2.sl
  obtain ⟨bb, hbb⟩ : ∃ b, b = decide (r.num < 0) := ⟨_, rfl⟩
  have HBB : Hid (bb = decide (r.num < 0)) := hbb
  rw [← hbb]
  generalize decide (rz p (zv nb G) < 0) = tb
  clear o2 hbb
  replace ha := ha.below b
  replace hb' := hb'.below b
  replace ug := ug.below (Nat.le_refl _) b
  replace ic := ic.below b
  replace qa := qa.below b
  replace qb := qb.below b
  replace qR := qR.below b
  replace qC := qC.below b
  replace hb := bstep hb b
  replace hsz := Nat.lt_of_lt_of_le hsz b.size
  replace hordA := Nat.le_trans hordA b.size
  clear b
  obtain ⟨W6, hW6⟩ : ∃ W, W = (w5.alloc (.cells #[.bool bb, .slice mo ml mc] 25)).alloc (.cells #[.bool tb, .slice uo ul uc] 25) := ⟨_, rfl⟩
  have qT : ICell W6 (w5.heap.size) bb (.slice mo ml mc) := by rw [hW6]; exact (icell_step (icell_new _ rfl))
  have qU : ICell W6 (w5.heap.size + 1) tb (.slice uo ul uc) := by rw [hW6]; exact (icell_new _ (by simp))
  have b : Below w5.heap.size w5 W6 := by rw [hW6]; exact bstep (belowA _ _) (belowA _ _)
  replace ha := ha.below b
  replace hb' := hb'.below b
  replace ug := ug.below (Nat.le_refl _) b
  replace ic := ic.below b
  replace hm := hm.below b
  replace qa := qa.below b
  replace qb := qb.below b
  replace qR := qR.below b
  replace qC := qC.below b
  replace hb := bstep hb b
  replace hsz := Nat.lt_of_lt_of_le hsz b.size
  replace hordA := Nat.le_trans hordA b.size
  clear b
  have rqa0 : ((w5.alloc (.cells #[.bool bb, .slice mo ml mc] 25)).alloc (.cells #[.bool tb, .slice uo ul uc] 25)).cell? ⟨g, 0, none⟩ = some (.bool na) := by rw [← hW6]; exact qa.cells.1
  have rqa1 : ((w5.alloc (.cells #[.bool bb, .slice mo ml mc] 25)).alloc (.cells #[.bool tb, .slice uo ul uc] 25)).cell? ⟨g, 1, none⟩ = some (.slice ao al ac) := by rw [← hW6]; exact qa.cells.2
  have rqb0 : ((w5.alloc (.cells #[.bool bb, .slice mo ml mc] 25)).alloc (.cells #[.bool tb, .slice uo ul uc] 25)).cell? ⟨g + 1, 0, none⟩ = some (.bool nb) := by rw [← hW6]; exact qb.cells.1
  have rqb1 : ((w5.alloc (.cells #[.bool bb, .slice mo ml mc] 25)).alloc (.cells #[.bool tb, .slice uo ul uc] 25)).cell? ⟨g + 1, 1, none⟩ = some (.slice bo bl bc) := by rw [← hW6]; exact qb.cells.2
  have rqR0 : ((w5.alloc (.cells #[.bool bb, .slice mo ml mc] 25)).alloc (.cells #[.bool tb, .slice uo ul uc] 25)).cell? ⟨g + 1 + 1, 0, none⟩ = some (.bool false) := by rw [← hW6]; exact qR.cells.1
  have rqR1 : ((w5.alloc (.cells #[.bool bb, .slice mo ml mc] 25)).alloc (.cells #[.bool tb, .slice uo ul uc] 25)).cell? ⟨g + 1 + 1, 1, none⟩ = some (.slice none 0 0) := by rw [← hW6]; exact qR.cells.2.1
  have rqR2 : ((w5.alloc (.cells #[.bool bb, .slice mo ml mc] 25)).alloc (.cells #[.bool tb, .slice uo ul uc] 25)).cell? ⟨g + 1 + 1, 2, none⟩ = some (.slice none 0 0) := by rw [← hW6]; exact qR.cells.2.2
  have rqC0 : ((w5.alloc (.cells #[.bool bb, .slice mo ml mc] 25)).alloc (.cells #[.bool tb, .slice uo ul uc] 25)).cell? ⟨v5, 0, none⟩ = some (.bool nb) := by rw [← hW6]; exact qC.cells.1
  have rqC1 : ((w5.alloc (.cells #[.bool bb, .slice mo ml mc] 25)).alloc (.cells #[.bool tb, .slice uo ul uc] 25)).cell? ⟨v5, 1, none⟩ = some (.slice go gl gc) := by rw [← hW6]; exact qC.cells.2
  have rqT0 : ((w5.alloc (.cells #[.bool bb, .slice mo ml mc] 25)).alloc (.cells #[.bool tb, .slice uo ul uc] 25)).cell? ⟨w5.heap.size, 0, none⟩ = some (.bool bb) := by rw [← hW6]; exact qT.cells.1
  have rqT1 : ((w5.alloc (.cells #[.bool bb, .slice mo ml mc] 25)).alloc (.cells #[.bool tb, .slice uo ul uc] 25)).cell? ⟨w5.heap.size, 1, none⟩ = some (.slice mo ml mc) := by rw [← hW6]; exact qT.cells.2
  have rqU0 : ((w5.alloc (.cells #[.bool bb, .slice mo ml mc] 25)).alloc (.cells #[.bool tb, .slice uo ul uc] 25)).cell? ⟨w5.heap.size + 1, 0, none⟩ = some (.bool tb) := by rw [← hW6]; exact qU.cells.1
  have rqU1 : ((w5.alloc (.cells #[.bool bb, .slice mo ml mc] 25)).alloc (.cells #[.bool tb, .slice uo ul uc] 25)).cell? ⟨w5.heap.size + 1, 1, none⟩ = some (.slice uo ul uc) := by rw [← hW6]; exact qU.cells.2
  obtain ⟨v6, hv6⟩ : ∃ v, v = w5.heap.size := ⟨_, rfl⟩
  rw [← hv6] at qT qU
  have HW6 : Hid (W6 = (w5.alloc (.cells #[.bool bb, .slice mo ml mc] 25)).alloc (.cells #[.bool tb, .slice uo ul uc] 25)) := hW6
  have Hv6 : Hid (v6 = w5.heap.size) := hv6
  clear hW6 hv6
  go_wp2_with fail
  rw [← HW6.out, ← Hv6.out]
  clear HW6 Hv6 rqa0 rqa1 rqb0 rqb1 rqR0 rqR1 rqR2 rqC0 rqC1 rqT0 rqT1 rqU0 rqU1
  have hq1 := c_quo hb' ic
  rw [HD.out] at hq1
  generalize errZ (zv nb G).natAbs = er2 at hq1
  have hord : Y.heap.size ≤ W6.heap.size := hordA
  have HB2 := hm
  refine (hq1).mono ?_
  rintro e w7 ⟨mq, mr, rfl, hd, o2, _, b⟩
  clear hq1
  obtain ⟨mO, mL, mC, rfl⟩ := hd.sl
  obtain ⟨vo, vl, vc, rfl⟩ := o2.sl
  generalize decide ((r.den : Int) < 0) = vb
  generalize decide (rz q (zv nb G) < 0) = xb_
  rw [Int.natAbs_natCast] at hd
  have hap := apart_later HB2 hd (Nat.le_refl _)
  have HSB : Hid (W6.heap.size ≤ W6.heap.size) := Nat.le_trans (Nat.le_refl _) (Nat.le_refl _)
  clear o2 HB2 HSB
  replace ha := ha.below b
  replace hb' := hb'.below b
  replace ug := ug.below (Nat.le_refl _) b
  replace ic := ic.below b
  replace hm := hm.below b
  replace qa := qa.below b
  replace qb := qb.below b
  replace qR := qR.below b
  replace qC := qC.below b
  replace qT := qT.below b
  replace qU := qU.below b
  replace hb := bstep hb b
  replace hsz := Nat.lt_of_lt_of_le hsz b.size
  clear b
  obtain ⟨W, hW⟩ : ∃ W, W = (w7.alloc (.cells #[.bool vb, .slice mO mL mC] 25)).alloc (.cells #[.bool xb_, .slice vo vl vc] 25) := ⟨_, rfl⟩
  have qV : ICell W w7.heap.size vb (.slice mO mL mC) := by rw [hW]; exact icell_step (icell_new _ rfl)
  have b : Below w7.heap.size w7 W := by rw [hW]; exact bstep (belowA _ _) (belowA _ _)
  replace ha := ha.below b
  replace hb' := hb'.below b
  replace ug := ug.below (Nat.le_refl _) b
  replace ic := ic.below b
  replace hm := hm.below b
  replace hd := hd.below b
  replace qa := qa.below b
  replace qb := qb.below b
  replace qR := qR.below b
  replace qC := qC.below b
  replace qT := qT.below b
  replace qU := qU.below b
  replace hb := bstep hb b
  replace hsz := Nat.lt_of_lt_of_le hsz b.size
  clear b
  have qq := qR
  have hd2 := hd.mono hord
  have HE : Hid (REnd w r (.returned (.agg #[.bool bb, .slice mo ml mc, .slice mO mL mC])) (((W.setCell ⟨g + 1 + 1, 0, none⟩ (.bool bb)).setCell ⟨g + 1 + 1, 1, none⟩ (.slice mo ml mc)).setCell ⟨g + 1 + 1, 2, none⟩ (.slice mO mL mC))) := rat_done HBB.out (by rw [HG.out]; omega) hm hd2 hap hszz (hb)
  have HW : Hid (QCell (((W.setCell ⟨g + 1 + 1, 0, none⟩ (.bool bb)).setCell ⟨g + 1 + 1, 1, none⟩ (.slice mo ml mc)).setCell ⟨g + 1 + 1, 2, none⟩ (.slice mO mL mC)) (g + 1 + 1) bb (.slice mo ml mc) (.slice mO mL mC)) := qq.write _ _ _
  obtain ⟨y0, y1, y2⟩ := qq.cells
  have f0 := qq.thaw 0
  have f1 := qq.thaw 1
  have f2 := qq.thaw 2
  clear qq hap
  obtain ⟨cT0, cT1⟩ := qT.cells
  obtain ⟨cV0, cV1⟩ := qV.cells
  clear hb hsz hszz hd2 qV qa qb qR qC qT qU ha hb' ug ic hm hd
  subst hW
  go_wp2_with fail
  (try simp only [Exit.inBlock, Exit.then])
  exact bodyPost_ret (results_cell_row rfl _ _ (g + 1 + 1) 27 _ (0, 0) _ rfl HW.out Tryz.underlying27 rfl (by kernel_rfl)) rfl HE.out
open Go.RowKit

theorem iend3 {w wr : World} {g : Nat} {v0 v1 v2 : Value} (hb : Below w.heap.size w wr) (hg : w.heap.size ≤ g) : Below w.heap.size w (((wr.setCell ⟨g, 0, none⟩ v0).setCell ⟨g, 1, none⟩ v1).setCell ⟨g, 2, none⟩ v2) := ((hb.setCell (p := ⟨g, 0, none⟩) hg _).setCell (p := ⟨g, 1, none⟩) hg _).setCell (p := ⟨g, 2, none⟩) hg _
def RTEnd (w : World) (r : Rat) (e : Ending) (w' : World) : Prop := ∃ v, e = .returned (.tuple #[v, .int .i64 0]) ∧ ROwn w.heap.size w' v r ∧ Below w.heap.size w w'
theorem REnd.t {w w' : World} {r : Rat} {v : Value} (h : REnd w r (.returned v) w') : RTEnd w r (.returned (.tuple #[v, .int .i64 0])) w' := by
 obtain ⟨v', e, h1, h2⟩ := h
 cases e
 exact ⟨v, rfl, h1, h2⟩
theorem und_mul_ne (q k : Nat) : und q * und k ≠ 0 := Int.mul_ne_zero (und_ne _) (und_ne _)
theorem c_new_yes {a b : Value} {p q : Int} {w : World} (ha : INum w a p) (hb' : INum w b q) (hq : q ≠ 0) : Calls Tryz.prog 45 #[a, b] w fun e w' => RTEnd w (Rat.divInt p q) e w' := by
 obtain ⟨Z, hZ⟩ : ∃ Z, Z = Rat.divInt p q := ⟨_, rfl⟩
 have HZ : Hid (Rat.divInt p q = Z) := hZ.symm
 rw [← hZ]
 clear hZ
 obtain ⟨na, ao, al, ac, xa, rfl, ua, la, za⟩ := ha
 have ha : INum w (.agg #[.bool na, .slice ao al ac]) p := ⟨_, _, _, _, _, rfl, ua, la, za⟩
 obtain ⟨nb, bo, bl, bc, xb, rfl, ub, lb, zb⟩ := hb'
 have hb' : INum w (.agg #[.bool nb, .slice bo bl bc]) q := ⟨_, _, _, _, _, rfl, ub, lb, zb⟩
 clear ua la za ub lb zb
 obtain ⟨c, hc⟩ : ∃ c, c = cmpZ q 0 := ⟨_, rfl⟩
 have HC : Hid (cmpZ q 0 = c) := hc.symm
 have hc0 : (c == 0) = false := by rw [hc, cmpZ_eq]; exact decide_eq_false hq
 have HQ : Hid (q ≠ 0) := hq
 clear hq hc
 obtain ⟨W1, hW1⟩ : ∃ W1, W1 = ((w.alloc (.cells #[.bool na, .slice ao al ac] 25)).alloc (.cells #[.bool nb, .slice bo bl bc] 25)).alloc (.cells #[.bool false, .slice none 0 0, .slice none 0 0] 27) := ⟨_, rfl⟩
 have qa : ICell W1 (w.heap.size) na (.slice ao al ac) := by rw [hW1]; exact (icell_step (icell_step (icell_new _ (by simp))))
 have qb : ICell W1 (w.heap.size + 1) nb (.slice bo bl bc) := by rw [hW1]; exact (icell_step (icell_new _ (by simp)))
 have qR : QCell W1 (w.heap.size + 1 + 1) false (.slice none 0 0) (.slice none 0 0) := by rw [hW1]; exact (qcell_new _ (by simp))
 have hb : Below w.heap.size w W1 := by rw [hW1]; exact bstep (bstep (belowA w _) (belowA _ _)) (belowA _ _)
 have hsz : w.heap.size + 1 + 1 < W1.heap.size := by rw [hW1]; simp
 replace ha := ha.below hb
 replace hb' := hb'.below hb
 have HW1 : Hid (W1 = ((w.alloc (.cells #[.bool na, .slice ao al ac] 25)).alloc (.cells #[.bool nb, .slice bo bl bc] 25)).alloc (.cells #[.bool false, .slice none 0 0, .slice none 0 0] 27)) := hW1
 clear hW1
 go_enter Tryz.func45, Tryz.ntmps45
 go_wp2_with fail
 rw [← HW1.out]
 clear HW1
 obtain ⟨g, hg⟩ : ∃ g, g = w.heap.size := ⟨_, rfl⟩
 rw [← hg] at qa qb qR hsz ⊢
 have HG : Hid (g = w.heap.size) := hg
 clear hg
 have hs := c_sign hb'
 rw [HC.out] at hs
 refine (hs).mono ?_
 rintro e w2 ⟨rfl, b⟩
 clear hs
 replace ha := ha.below b
 replace hb' := hb'.below b
 replace qa := qa.below b
 replace qb := qb.below b
 replace qR := qR.below b
 replace hb := bstep hb b
 replace hsz := Nat.lt_of_lt_of_le hsz b.size
 clear b
 obtain ⟨cqa0, cqa1⟩ := qa.cells
 obtain ⟨cqb0, cqb1⟩ := qb.cells
 obtain ⟨cqR0, cqR1, cqR2⟩ := qR.cells
 go_wp2_with fail
 clear cqa0 cqa1 cqb0 cqb1 cqR0 cqR1 cqR2
 have hq := c_lowest ha hb' HQ.out
 rw [HZ.out] at hq
 have hszz := hsz
 refine (hq).mono ?_
 rintro e w3 ⟨v, rfl, hv, b⟩
 clear hq
 obtain ⟨m, d, rfl, hm, hd, hap⟩ := hv
 obtain ⟨mo, ml, mc, rfl⟩ := hm.sl
 obtain ⟨mO, mL, mC, rfl⟩ := hd.sl
 replace ha := ha.below b
 replace hb' := hb'.below b
 replace qa := qa.below b
 replace qb := qb.below b
 replace qR := qR.below b
 replace hb := bstep hb b
 replace hsz := Nat.lt_of_lt_of_le hsz b.size
 clear b
 have qq := qR
 have HE : Hid (REnd w Z (.returned (.agg #[.bool (decide (Z.num < 0)), .slice mo ml mc, .slice mO mL mC])) (((w3.setCell ⟨g + 1 + 1, 0, none⟩ (.bool (decide (Z.num < 0)))).setCell ⟨g + 1 + 1, 1, none⟩ (.slice mo ml mc)).setCell ⟨g + 1 + 1, 2, none⟩ (.slice mO mL mC))) := rat_done rfl (by rw [HG.out]; omega) hm hd hap hszz (hb)
 have HW : Hid (QCell (((w3.setCell ⟨g + 1 + 1, 0, none⟩ (.bool (decide (Z.num < 0)))).setCell ⟨g + 1 + 1, 1, none⟩ (.slice mo ml mc)).setCell ⟨g + 1 + 1, 2, none⟩ (.slice mO mL mC)) (g + 1 + 1) (decide (Z.num < 0)) (.slice mo ml mc) (.slice mO mL mC)) := qq.write _ _ _
 obtain ⟨y0, y1, y2⟩ := qq.cells
 have f0 := qq.thaw 0
 have f1 := qq.thaw 1
 have f2 := qq.thaw 2
 generalize decide (Z.num < 0) = bb at *
 clear qq hap
 clear hb hsz hszz hm hd qa qb qR ha hb'
 go_wp2_with fail
 (try simp only [Exit.inBlock, Exit.then])
 exact bodyPost_ret (results_ct (p := 4) (u := 5) rfl _ _ (g + 1 + 1) 27 _ (0, 0) _ rfl HW.out Tryz.underlying27 rfl (by kernel_rfl)) rfl HE.out.t
theorem c_rcmp {a b : Value} {x y : Rat} {L M : Nat} {w : World} (ha : RNum w a x L) (hb' : RNum w b y M) (hK : L + M ≤ 1000000) : Calls Tryz.prog 21 #[a, b] w fun e w' => e = .returned (.int .i64 (cmpQ x y)) ∧ Below w.heap.size w w' := by
 obtain ⟨c, hc⟩ : ∃ c, c = cmpQ x y := ⟨_, rfl⟩
 rw [← hc]
 obtain ⟨p, q, ha, rfl, sp, sq⟩ := ha
 obtain ⟨r, k, hb', rfl, sr, sk⟩ := hb'
 obtain ⟨na, ao, al, ac, aO, aL, aC, ya, rfl, ia, da, la, ea⟩ := ha
 have ra : RRaw w (.agg #[.bool na, .slice ao al ac, .slice aO aL aC]) p q := ⟨_, _, _, _, _, _, _, _, rfl, ia, da, la, ea⟩
 obtain ⟨nb, bo, bl, bc, bO, bL, bC, yb, rfl, ib, db, lb, eb⟩ := hb'
 have rb : RRaw w (.agg #[.bool nb, .slice bo bl bc, .slice bO bL bC]) r k := ⟨_, _, _, _, _, _, _, _, rfl, ib, db, lb, eb⟩
 clear da la ea db lb eb
 have HC : Hid (cmpZ (p * und k) (r * und q) = c) := by show _ = _; rw [hc]; exact cmp_rq p r q k
 clear hc
 obtain ⟨W1, hW1⟩ : ∃ W1, W1 = (w.alloc (.cells #[.bool na, .slice ao al ac, .slice aO aL aC] 27)).alloc (.cells #[.bool nb, .slice bo bl bc, .slice bO bL bC] 27) := ⟨_, rfl⟩
 have qa : QCell W1 (w.heap.size) na (.slice ao al ac) (.slice aO aL aC) := by rw [hW1]; exact (qcell_step (qcell_new _ (by simp)))
 have qb : QCell W1 (w.heap.size + 1) nb (.slice bo bl bc) (.slice bO bL bC) := by rw [hW1]; exact (qcell_new _ (by simp))
 have hb : Below w.heap.size w W1 := by rw [hW1]; exact bstep (belowA w _) (belowA _ _)
 have hsz : w.heap.size + 1 < W1.heap.size := by rw [hW1]; simp
 replace ra := ra.below hb
 replace rb := rb.below hb
 have HW1 : Hid (W1 = (w.alloc (.cells #[.bool na, .slice ao al ac, .slice aO aL aC] 27)).alloc (.cells #[.bool nb, .slice bo bl bc, .slice bO bL bC] 27)) := hW1
 clear hW1
 go_enter Tryz.func21, Tryz.ntmps21
 go_wp2_with fail
 rw [← HW1.out]
 clear HW1
 obtain ⟨g, hg⟩ : ∃ g, g = w.heap.size := ⟨_, rfl⟩
 rw [← hg] at qa qb hsz ⊢
 have HG : Hid (g = w.heap.size) := hg
 clear hg
 have sm7 : Sz (p * und k) (L + M) := (sp.mul sk).mono (by omega)
 have sm10 : Sz (r * und q) (L + M) := (sr.mul sq).mono (by omega)
 refine region_late [(0, fun w' => w'.cell? ⟨g, 0, none⟩ = some (.bool na) ∧ w'.cell? ⟨g, 1, none⟩ = some (.slice ao al ac) ∧ w'.cell? ⟨g, 2, none⟩ = some (.slice aO aL aC)), (1, fun w' => w'.cell? ⟨g + 1, 0, none⟩ = some (.bool nb) ∧ w'.cell? ⟨g + 1, 1, none⟩ = some (.slice bo bl bc) ∧ w'.cell? ⟨g + 1, 2, none⟩ = some (.slice bO bL bC)), (3, fun w' => w'.cell? ⟨g + 1, 0, none⟩ = some (.bool nb) ∧ w'.cell? ⟨g + 1, 1, none⟩ = some (.slice bo bl bc) ∧ w'.cell? ⟨g + 1, 2, none⟩ = some (.slice bO bL bC)), (4, fun w' => w'.cell? ⟨g, 0, none⟩ = some (.bool na) ∧ w'.cell? ⟨g, 1, none⟩ = some (.slice ao al ac) ∧ w'.cell? ⟨g, 2, none⟩ = some (.slice aO aL aC))] (by kernel_rfl) ?_
 have hHeld : AllL W1.drew [(0, fun w' => w'.cell? ⟨g, 0, none⟩ = some (.bool na) ∧ w'.cell? ⟨g, 1, none⟩ = some (.slice ao al ac) ∧ w'.cell? ⟨g, 2, none⟩ = some (.slice aO aL aC)), (1, fun w' => w'.cell? ⟨g + 1, 0, none⟩ = some (.bool nb) ∧ w'.cell? ⟨g + 1, 1, none⟩ = some (.slice bo bl bc) ∧ w'.cell? ⟨g + 1, 2, none⟩ = some (.slice bO bL bC)), (3, fun w' => w'.cell? ⟨g + 1, 0, none⟩ = some (.bool nb) ∧ w'.cell? ⟨g + 1, 1, none⟩ = some (.slice bo bl bc) ∧ w'.cell? ⟨g + 1, 2, none⟩ = some (.slice bO bL bC)), (4, fun w' => w'.cell? ⟨g, 0, none⟩ = some (.bool na) ∧ w'.cell? ⟨g, 1, none⟩ = some (.slice ao al ac) ∧ w'.cell? ⟨g, 2, none⟩ = some (.slice aO aL aC))] := ⟨(show QCell W1.drew (g) na (.slice ao al ac) (.slice aO aL aC) from qa).cells, (show QCell W1.drew (g + 1) nb (.slice bo bl bc) (.slice bO bL bC) from qb).cells, (show QCell W1.drew (g + 1) nb (.slice bo bl bc) (.slice bO bL bC) from qb).cells, (show QCell W1.drew (g) na (.slice ao al ac) (.slice aO aL aC) from qa).cells, trivial⟩
 refine late_tk 0 (v := .agg #[.bool na, .slice ao al ac, .slice aO aL aC]) rfl (List.Mem.head _) (Or.inl ⟨by rfl, ?_⟩) hHeld ?_
 · (intro u hu; (try dsimp only at hu); go_split_ands; go_simp)
 try simp only [pu1, pu2, pu3, pu4]
 refine late_tk 1 (v := .agg #[.bool nb, .slice bo bl bc, .slice bO bL bC]) rfl (List.Mem.tail _ (List.Mem.head _)) (Or.inl ⟨by rfl, ?_⟩) hHeld ?_
 · (intro u hu; (try dsimp only at hu); go_split_ands; go_simp)
 try simp only [pu1, pu2, pu3, pu4]
 refine late_tk 3 (v := .agg #[.bool nb, .slice bo bl bc, .slice bO bL bC]) rfl (List.Mem.tail _ (List.Mem.tail _ (List.Mem.head _))) (Or.inl ⟨by rfl, ?_⟩) hHeld ?_
 · (intro u hu; (try dsimp only at hu); go_split_ands; go_simp)
 try simp only [pu1, pu2, pu3, pu4]
 refine late_tk 4 (v := .agg #[.bool na, .slice ao al ac, .slice aO aL aC]) rfl (List.Mem.tail _ (List.Mem.tail _ (List.Mem.tail _ (List.Mem.head _)))) (Or.inl ⟨by rfl, ?_⟩) hHeld ?_
 · (intro u hu; (try dsimp only at hu); go_split_ands; go_simp)
 try simp only [pu1, pu2, pu3, pu4]
 refine late_st 2 rfl (fun K hK => ?_)
 go_simp
 refine (c_cross (ra.below (below_drew' _)) (rb.below (below_drew' _))).mono ?_
 rintro e w2 ⟨v, rfl, hv, b2⟩
 obtain ⟨nm7, m7o, m7l, m7c, rfl, im7⟩ := hv.see sm7 (by omega)
 clear hv
 have B2 : Below W1.heap.size W1 w2 := bstep (below_drew' _) b2
 replace hHeld := AllL.mv (w' := w2) hHeld ⟨(qa.below B2).cells, (qb.below B2).cells, (qb.below B2).cells, (qa.below B2).cells, trivial⟩
 go_wp2_with fail
 refine hK.out _ _ (AllL.kept hHeld) ?_
 clear hK K
 try simp only [pu1, pu2, pu3, pu4]
 refine late_st 5 rfl (fun K hK => ?_)
 go_simp
 refine (c_cross ((rb.below (below_drew' _)).below b2) ((ra.below (below_drew' _)).below b2)).mono ?_
 rintro e w3 ⟨v, rfl, hv, b3⟩
 obtain ⟨nm10, m10o, m10l, m10c, rfl, im10⟩ := hv.see sm10 (by omega)
 clear hv
 have B3 : Below W1.heap.size W1 w3 := bstep B2 b3
 replace hHeld := AllL.mv (w' := w3) hHeld ⟨(qa.below B3).cells, (qb.below B3).cells, (qb.below B3).cells, (qa.below B3).cells, trivial⟩
 go_wp2_with fail
 refine hK.out _ _ (AllL.kept hHeld) ?_
 clear hK K
 try simp only [pu1, pu2, pu3, pu4]
 refine late_st 6 rfl (fun K hK => ?_)
 go_simp
 have hq := c_cmp (im7.below b3) im10
 rw [HC.out] at hq
 refine hq.mono ?_
 rintro e w4 ⟨rfl, b4⟩
 clear hq
 have B4 : Below W1.heap.size W1 w4 := bstep B3 b4
 replace hHeld := AllL.mv (w' := w4) hHeld ⟨(qa.below B4).cells, (qb.below B4).cells, (qb.below B4).cells, (qa.below B4).cells, trivial⟩
 go_wp2_with fail
 refine hK.out _ _ (AllL.kept hHeld) ?_
 clear hK K
 try simp only [pu1, pu2, pu3, pu4]
 refine late_st 7 rfl (fun K hK => ?_)
 go_simp
 refine hK.out _ _ ⟨kpt 2, kpt 2, kpt 5, kpt 5, trivial⟩ ?_
 clear hK K
 try simp only [pu1, pu2, pu3, pu4]
 refine late_done (by kernel_rfl) ?_ _
 clear hHeld
 have b := B4
 clear b2 b3 b4 B2 B3 B4
 replace ra := ra.below b
 replace rb := rb.below b
 replace qa := qa.below b
 replace qb := qb.below b
 replace hb := bstep hb b
 replace hsz := Nat.lt_of_lt_of_le hsz b.size
 clear b
 have HE : Hid (Below w.heap.size w w4) := hb
 clear hb hsz qa qb ra rb im7 im10
 go_wp2_with fail
 go_ret
 exact ⟨rfl, HE.out⟩
theorem c_rsign {a : Value} {x : Rat} {L : Nat} {w : World} (ha : RNum w a x L) : Calls Tryz.prog 38 #[a] w fun e w' => e = .returned (.int .i64 (sgnQ x)) ∧ Below w.heap.size w w' := by
 obtain ⟨c, hc⟩ : ∃ c, c = sgnQ x := ⟨_, rfl⟩
 rw [← hc]
 obtain ⟨p, q, ha, rfl, sp, sq⟩ := ha
 obtain ⟨na, ao, al, ac, aO, aL, aC, ya, rfl, ia, da, la, ea⟩ := ha
 have ra : RRaw w (.agg #[.bool na, .slice ao al ac, .slice aO aL aC]) p q := ⟨_, _, _, _, _, _, _, _, rfl, ia, da, la, ea⟩
 clear da la ea
 have HC : Hid (cmpZ p 0 = c) := by show _ = _; rw [hc]; exact sgn_rq p q
 clear hc ra
 obtain ⟨W1, hW1⟩ : ∃ W1, W1 = w.alloc (.cells #[.bool na, .slice ao al ac, .slice aO aL aC] 27) := ⟨_, rfl⟩
 have qa : QCell W1 (w.heap.size) na (.slice ao al ac) (.slice aO aL aC) := by rw [hW1]; exact (qcell_new _ (by simp))
 have hb : Below w.heap.size w W1 := by rw [hW1]; exact belowA w _
 have hsz : w.heap.size < W1.heap.size := by rw [hW1]; simp
 replace ia := ia.below hb
 have HW1 : Hid (W1 = w.alloc (.cells #[.bool na, .slice ao al ac, .slice aO aL aC] 27)) := hW1
 clear hW1
 go_enter Tryz.func38, Tryz.ntmps38
 go_wp2_with fail
 rw [← HW1.out]
 clear HW1
 obtain ⟨g, hg⟩ : ∃ g, g = w.heap.size := ⟨_, rfl⟩
 rw [← hg] at qa hsz ⊢
 have HG : Hid (g = w.heap.size) := hg
 clear hg
 have hs := c_sign ia
 rw [HC.out] at hs
 refine (hs).mono ?_
 rintro e w2 ⟨rfl, b⟩
 clear hs
 replace ia := ia.below b
 replace qa := qa.below b
 replace hb := bstep hb b
 replace hsz := Nat.lt_of_lt_of_le hsz b.size
 clear b
 have HE : Hid (Below w.heap.size w w2) := hb
 clear hb hsz qa ia
 go_wp2_with fail
 go_ret
 exact ⟨rfl, HE.out⟩
theorem c_rneg {a : Value} {x : Rat} {L : Nat} {w : World} (ha : RNum w a x L) (hK : L ≤ 1000000) : Calls Tryz.prog 40 #[a] w fun e w' => REnd w (-x) e w' := by
 obtain ⟨Z, hZ⟩ : ∃ Z, Z = -x := ⟨_, rfl⟩
 rw [← hZ]
 obtain ⟨p, q, ha, rfl, sp, sq⟩ := ha
 obtain ⟨na, ao, al, ac, aO, aL, aC, ya, rfl, ia, da, la, ea⟩ := ha
 have ra : RRaw w (.agg #[.bool na, .slice ao al ac, .slice aO aL aC]) p q := ⟨_, _, _, _, _, _, _, _, rfl, ia, da, la, ea⟩
 clear da la ea
 have HZ : Hid (Rat.divInt (-p) (und q) = Z) := by show _ = _; rw [hZ]; exact rq_neg p q
 clear hZ
 obtain ⟨W1, hW1⟩ : ∃ W1, W1 = (w.alloc (.cells #[.bool na, .slice ao al ac, .slice aO aL aC] 27)).alloc (.cells #[.bool false, .slice none 0 0, .slice none 0 0] 27) := ⟨_, rfl⟩
 have qa : QCell W1 (w.heap.size) na (.slice ao al ac) (.slice aO aL aC) := by rw [hW1]; exact (qcell_step (qcell_new _ (by simp)))
 have qR : QCell W1 (w.heap.size + 1) false (.slice none 0 0) (.slice none 0 0) := by rw [hW1]; exact (qcell_new _ (by simp))
 have hb : Below w.heap.size w W1 := by rw [hW1]; exact bstep (belowA w _) (belowA _ _)
 have hsz : w.heap.size + 1 < W1.heap.size := by rw [hW1]; simp
 replace ia := ia.below hb
 replace ra := ra.below hb
 have HW1 : Hid (W1 = (w.alloc (.cells #[.bool na, .slice ao al ac, .slice aO aL aC] 27)).alloc (.cells #[.bool false, .slice none 0 0, .slice none 0 0] 27)) := hW1
 clear hW1
 go_enter Tryz.func40, Tryz.ntmps40
 go_wp2_with fail
 rw [← HW1.out]
 clear HW1
 obtain ⟨g, hg⟩ : ∃ g, g = w.heap.size := ⟨_, rfl⟩
 rw [← hg] at qa qR hsz ⊢
 have HG : Hid (g = w.heap.size) := hg
 clear hg
 have sm5 : Sz (-p) (L) := sp.neg
 refine region_late [(1, fun w' => w'.cell? ⟨g, 0, none⟩ = some (.bool na) ∧ w'.cell? ⟨g, 1, none⟩ = some (.slice ao al ac)), (3, fun w' => w'.cell? ⟨g, 0, none⟩ = some (.bool na) ∧ w'.cell? ⟨g, 1, none⟩ = some (.slice ao al ac) ∧ w'.cell? ⟨g, 2, none⟩ = some (.slice aO aL aC))] (by kernel_rfl) ?_
 have hHeld : AllL W1.drew [(1, fun w' => w'.cell? ⟨g, 0, none⟩ = some (.bool na) ∧ w'.cell? ⟨g, 1, none⟩ = some (.slice ao al ac)), (3, fun w' => w'.cell? ⟨g, 0, none⟩ = some (.bool na) ∧ w'.cell? ⟨g, 1, none⟩ = some (.slice ao al ac) ∧ w'.cell? ⟨g, 2, none⟩ = some (.slice aO aL aC))] := ⟨⟨(show QCell W1.drew (g) na (.slice ao al ac) (.slice aO aL aC) from qa).cells.1, (show QCell W1.drew (g) na (.slice ao al ac) (.slice aO aL aC) from qa).cells.2.1⟩, (show QCell W1.drew (g) na (.slice ao al ac) (.slice aO aL aC) from qa).cells, trivial⟩
 refine late_fr 0 (v := .pointer (some ⟨g, 0, none⟩)) rfl (Or.inl ⟨by rfl, ?_⟩) hHeld ?_
 · (intro u _; go_simp)
 try simp only [pu1, pu2, pu3, pu4]
 refine late_tk 1 (v := .agg #[.bool na, .slice ao al ac]) rfl (List.Mem.head _) (Or.inl ⟨by rfl, ?_⟩) hHeld ?_
 · (intro u hu; (try dsimp only at hu); go_split_ands; go_simp)
 try simp only [pu1, pu2, pu3, pu4]
 refine late_tk 3 (v := .agg #[.bool na, .slice ao al ac, .slice aO aL aC]) rfl (List.Mem.tail _ (List.Mem.head _)) (Or.inl ⟨by rfl, ?_⟩) hHeld ?_
 · (intro u hu; (try dsimp only at hu); go_split_ands; go_simp)
 try simp only [pu1, pu2, pu3, pu4]
 refine late_st 2 rfl (fun K hK => ?_)
 go_simp
 refine (c_neg (ia.below (below_drew' _))).mono ?_
 rintro e w2 ⟨v, rfl, hv, b2⟩
 obtain ⟨nm5, m5o, m5l, m5c, rfl, im5⟩ := hv.see sm5 (by omega)
 clear hv
 have B2 : Below W1.heap.size W1 w2 := bstep (below_drew' _) b2
 replace hHeld := AllL.mv (w' := w2) hHeld ⟨⟨(qa.below B2).cells.1, (qa.below B2).cells.2.1⟩, (qa.below B2).cells, trivial⟩
 go_wp2_with fail
 refine hK.out _ _ (AllL.kept hHeld) ?_
 clear hK K
 try simp only [pu1, pu2, pu3, pu4]
 refine late_st 4 rfl (fun K hK => ?_)
 go_simp
 refine (c_under ((ra.below (below_drew' _)).below b2)).mono ?_
 rintro e w3 ⟨v, rfl, hv, b3⟩
 obtain ⟨nm7, m7o, m7l, m7c, rfl, im7⟩ := hv.see
 clear hv
 have B3 : Below W1.heap.size W1 w3 := bstep B2 b3
 replace hHeld := AllL.mv (w' := w3) hHeld ⟨⟨(qa.below B3).cells.1, (qa.below B3).cells.2.1⟩, (qa.below B3).cells, trivial⟩
 go_wp2_with fail
 refine hK.out _ _ (AllL.kept hHeld) ?_
 clear hK K
 try simp only [pu1, pu2, pu3, pu4]
 refine late_st 5 rfl (fun K hK => ?_)
 go_simp
 have hq := c_lowest (im5.below b3) im7 (und_ne _)
 rw [HZ.out] at hq
 refine hq.mono ?_
 rintro e w4 ⟨v, rfl, hv, b4⟩
 clear hq
 obtain ⟨m, d, rfl, hm, hd, hap⟩ := hv
 obtain ⟨mo, ml, mc, rfl⟩ := hm.sl
 obtain ⟨mO, mL, mC, rfl⟩ := hd.sl
 have B4 : Below W1.heap.size W1 w4 := bstep B3 b4
 replace hHeld := AllL.mv (w' := w4) hHeld ⟨⟨(qa.below B4).cells.1, (qa.below B4).cells.2.1⟩, (qa.below B4).cells, trivial⟩
 go_wp2_with fail
 refine hK.out _ _ (AllL.kept hHeld) ?_
 clear hK K
 try simp only [pu1, pu2, pu3, pu4]
 have qq := qR.below B4
 have HE : Hid (REnd w Z (.returned (.agg #[.bool (decide (Z.num < 0)), .slice mo ml mc, .slice mO mL mC])) (((w4.setCell ⟨g + 1, 0, none⟩ (.bool (decide (Z.num < 0)))).setCell ⟨g + 1, 1, none⟩ (.slice mo ml mc)).setCell ⟨g + 1, 2, none⟩ (.slice mO mL mC))) := rat_done rfl (by rw [HG.out]; omega) hm hd hap (Nat.lt_of_lt_of_le hsz B3.size) (bstep hb B4)
 have HW : Hid (QCell (((w4.setCell ⟨g + 1, 0, none⟩ (.bool (decide (Z.num < 0)))).setCell ⟨g + 1, 1, none⟩ (.slice mo ml mc)).setCell ⟨g + 1, 2, none⟩ (.slice mO mL mC)) (g + 1) (decide (Z.num < 0)) (.slice mo ml mc) (.slice mO mL mC)) := qq.write _ _ _
 obtain ⟨y0, y1, y2⟩ := qq.cells
 have f0 := qq.thaw 0
 have f1 := qq.thaw 1
 have f2 := qq.thaw 2
 generalize decide (Z.num < 0) = bb at *
 clear qq hap
 clear im5 im7
 refine late_st 6 rfl (fun K hK => ?_)
 go_simp
 refine hK.out _ _ ⟨kpt 2, kpt 4, trivial⟩ ?_
 clear hK K
 try simp only [pu1, pu2, pu3, pu4]
 refine late_done (by kernel_rfl) ?_ _
 clear hHeld
 clear hb hsz hm hd qa qR ra ia b2 b3 b4 B2 B3 B4 
 go_wp2_with fail
 (try simp only [Exit.inBlock, Exit.then])
 exact bodyPost_ret (results_cell_row rfl _ _ (g + 1) 27 _ (0, 0) _ rfl HW.out Tryz.underlying27 rfl (by kernel_rfl)) rfl HE.out
theorem c_radd {a b : Value} {x y : Rat} {L M : Nat} {w : World} (ha : RNum w a x L) (hb' : RNum w b y M) (hK : L + M + 1 ≤ 1000000) : Calls Tryz.prog 18 #[a, b] w fun e w' => REnd w (x + y) e w' := by
 obtain ⟨Z, hZ⟩ : ∃ Z, Z = x + y := ⟨_, rfl⟩
 rw [← hZ]
 obtain ⟨p, q, ha, rfl, sp, sq⟩ := ha
 obtain ⟨r, k, hb', rfl, sr, sk⟩ := hb'
 obtain ⟨na, ao, al, ac, aO, aL, aC, ya, rfl, ia, da, la, ea⟩ := ha
 have ra : RRaw w (.agg #[.bool na, .slice ao al ac, .slice aO aL aC]) p q := ⟨_, _, _, _, _, _, _, _, rfl, ia, da, la, ea⟩
 obtain ⟨nb, bo, bl, bc, bO, bL, bC, yb, rfl, ib, db, lb, eb⟩ := hb'
 have rb : RRaw w (.agg #[.bool nb, .slice bo bl bc, .slice bO bL bC]) r k := ⟨_, _, _, _, _, _, _, _, rfl, ib, db, lb, eb⟩
 clear da la ea db lb eb
 have HZ : Hid (Rat.divInt (p * und k + r * und q) (und q * und k) = Z) := by show _ = _; rw [hZ]; exact rq_add p r q k
 clear hZ
 obtain ⟨W1, hW1⟩ : ∃ W1, W1 = ((w.alloc (.cells #[.bool na, .slice ao al ac, .slice aO aL aC] 27)).alloc (.cells #[.bool nb, .slice bo bl bc, .slice bO bL bC] 27)).alloc (.cells #[.bool false, .slice none 0 0, .slice none 0 0] 27) := ⟨_, rfl⟩
 have qa : QCell W1 (w.heap.size) na (.slice ao al ac) (.slice aO aL aC) := by rw [hW1]; exact (qcell_step (qcell_step (qcell_new _ (by simp))))
 have qb : QCell W1 (w.heap.size + 1) nb (.slice bo bl bc) (.slice bO bL bC) := by rw [hW1]; exact (qcell_step (qcell_new _ (by simp)))
 have qR : QCell W1 (w.heap.size + 1 + 1) false (.slice none 0 0) (.slice none 0 0) := by rw [hW1]; exact (qcell_new _ (by simp))
 have hb : Below w.heap.size w W1 := by rw [hW1]; exact bstep (bstep (belowA w _) (belowA _ _)) (belowA _ _)
 have hsz : w.heap.size + 1 + 1 < W1.heap.size := by rw [hW1]; simp
 replace ib := ib.below hb
 replace ia := ia.below hb
 replace ra := ra.below hb
 replace rb := rb.below hb
 have HW1 : Hid (W1 = ((w.alloc (.cells #[.bool na, .slice ao al ac, .slice aO aL aC] 27)).alloc (.cells #[.bool nb, .slice bo bl bc, .slice bO bL bC] 27)).alloc (.cells #[.bool false, .slice none 0 0, .slice none 0 0] 27)) := hW1
 clear hW1
 go_enter Tryz.func18, Tryz.ntmps18
 go_wp2_with fail
 rw [← HW1.out]
 clear HW1
 obtain ⟨g, hg⟩ : ∃ g, g = w.heap.size := ⟨_, rfl⟩
 rw [← hg] at qa qb qR hsz ⊢
 have HG : Hid (g = w.heap.size) := hg
 clear hg
 have sm7 : Sz (p * und k) (L + M) := (sp.mul sk).mono (by omega)
 have sm10 : Sz (r * und q) (L + M) := (sr.mul sq).mono (by omega)
 have sm11 : Sz (p * und k + r * und q) (L + M + 1) := sm7.add sm10
 have sm16 : Sz (und q * und k) (L + M) := sq.mul sk
 refine region_late [(0, fun w' => w'.cell? ⟨g, 0, none⟩ = some (.bool na) ∧ w'.cell? ⟨g, 1, none⟩ = some (.slice ao al ac) ∧ w'.cell? ⟨g, 2, none⟩ = some (.slice aO aL aC)), (1, fun w' => w'.cell? ⟨g + 1, 0, none⟩ = some (.bool nb) ∧ w'.cell? ⟨g + 1, 1, none⟩ = some (.slice bo bl bc) ∧ w'.cell? ⟨g + 1, 2, none⟩ = some (.slice bO bL bC)), (3, fun w' => w'.cell? ⟨g + 1, 0, none⟩ = some (.bool nb) ∧ w'.cell? ⟨g + 1, 1, none⟩ = some (.slice bo bl bc) ∧ w'.cell? ⟨g + 1, 2, none⟩ = some (.slice bO bL bC)), (4, fun w' => w'.cell? ⟨g, 0, none⟩ = some (.bool na) ∧ w'.cell? ⟨g, 1, none⟩ = some (.slice ao al ac) ∧ w'.cell? ⟨g, 2, none⟩ = some (.slice aO aL aC)), (7, fun w' => w'.cell? ⟨g, 0, none⟩ = some (.bool na) ∧ w'.cell? ⟨g, 1, none⟩ = some (.slice ao al ac) ∧ w'.cell? ⟨g, 2, none⟩ = some (.slice aO aL aC)), (9, fun w' => w'.cell? ⟨g + 1, 0, none⟩ = some (.bool nb) ∧ w'.cell? ⟨g + 1, 1, none⟩ = some (.slice bo bl bc) ∧ w'.cell? ⟨g + 1, 2, none⟩ = some (.slice bO bL bC))] (by kernel_rfl) ?_
 have hHeld : AllL W1.drew [(0, fun w' => w'.cell? ⟨g, 0, none⟩ = some (.bool na) ∧ w'.cell? ⟨g, 1, none⟩ = some (.slice ao al ac) ∧ w'.cell? ⟨g, 2, none⟩ = some (.slice aO aL aC)), (1, fun w' => w'.cell? ⟨g + 1, 0, none⟩ = some (.bool nb) ∧ w'.cell? ⟨g + 1, 1, none⟩ = some (.slice bo bl bc) ∧ w'.cell? ⟨g + 1, 2, none⟩ = some (.slice bO bL bC)), (3, fun w' => w'.cell? ⟨g + 1, 0, none⟩ = some (.bool nb) ∧ w'.cell? ⟨g + 1, 1, none⟩ = some (.slice bo bl bc) ∧ w'.cell? ⟨g + 1, 2, none⟩ = some (.slice bO bL bC)), (4, fun w' => w'.cell? ⟨g, 0, none⟩ = some (.bool na) ∧ w'.cell? ⟨g, 1, none⟩ = some (.slice ao al ac) ∧ w'.cell? ⟨g, 2, none⟩ = some (.slice aO aL aC)), (7, fun w' => w'.cell? ⟨g, 0, none⟩ = some (.bool na) ∧ w'.cell? ⟨g, 1, none⟩ = some (.slice ao al ac) ∧ w'.cell? ⟨g, 2, none⟩ = some (.slice aO aL aC)), (9, fun w' => w'.cell? ⟨g + 1, 0, none⟩ = some (.bool nb) ∧ w'.cell? ⟨g + 1, 1, none⟩ = some (.slice bo bl bc) ∧ w'.cell? ⟨g + 1, 2, none⟩ = some (.slice bO bL bC))] := ⟨(show QCell W1.drew (g) na (.slice ao al ac) (.slice aO aL aC) from qa).cells, (show QCell W1.drew (g + 1) nb (.slice bo bl bc) (.slice bO bL bC) from qb).cells, (show QCell W1.drew (g + 1) nb (.slice bo bl bc) (.slice bO bL bC) from qb).cells, (show QCell W1.drew (g) na (.slice ao al ac) (.slice aO aL aC) from qa).cells, (show QCell W1.drew (g) na (.slice ao al ac) (.slice aO aL aC) from qa).cells, (show QCell W1.drew (g + 1) nb (.slice bo bl bc) (.slice bO bL bC) from qb).cells, trivial⟩
 refine late_tk 0 (v := .agg #[.bool na, .slice ao al ac, .slice aO aL aC]) rfl (List.Mem.head _) (Or.inl ⟨by rfl, ?_⟩) hHeld ?_
 · (intro u hu; (try dsimp only at hu); go_split_ands; go_simp)
 try simp only [pu1, pu2, pu3, pu4]
 refine late_tk 1 (v := .agg #[.bool nb, .slice bo bl bc, .slice bO bL bC]) rfl (List.Mem.tail _ (List.Mem.head _)) (Or.inl ⟨by rfl, ?_⟩) hHeld ?_
 · (intro u hu; (try dsimp only at hu); go_split_ands; go_simp)
 try simp only [pu1, pu2, pu3, pu4]
 refine late_tk 3 (v := .agg #[.bool nb, .slice bo bl bc, .slice bO bL bC]) rfl (List.Mem.tail _ (List.Mem.tail _ (List.Mem.head _))) (Or.inl ⟨by rfl, ?_⟩) hHeld ?_
 · (intro u hu; (try dsimp only at hu); go_split_ands; go_simp)
 try simp only [pu1, pu2, pu3, pu4]
 refine late_tk 4 (v := .agg #[.bool na, .slice ao al ac, .slice aO aL aC]) rfl (List.Mem.tail _ (List.Mem.tail _ (List.Mem.tail _ (List.Mem.head _)))) (Or.inl ⟨by rfl, ?_⟩) hHeld ?_
 · (intro u hu; (try dsimp only at hu); go_split_ands; go_simp)
 try simp only [pu1, pu2, pu3, pu4]
 refine late_tk 7 (v := .agg #[.bool na, .slice ao al ac, .slice aO aL aC]) rfl (List.Mem.tail _ (List.Mem.tail _ (List.Mem.tail _ (List.Mem.tail _ (List.Mem.head _))))) (Or.inl ⟨by rfl, ?_⟩) hHeld ?_
 · (intro u hu; (try dsimp only at hu); go_split_ands; go_simp)
 try simp only [pu1, pu2, pu3, pu4]
 refine late_tk 9 (v := .agg #[.bool nb, .slice bo bl bc, .slice bO bL bC]) rfl (List.Mem.tail _ (List.Mem.tail _ (List.Mem.tail _ (List.Mem.tail _ (List.Mem.tail _ (List.Mem.head _)))))) (Or.inl ⟨by rfl, ?_⟩) hHeld ?_
 · (intro u hu; (try dsimp only at hu); go_split_ands; go_simp)
 try simp only [pu1, pu2, pu3, pu4]
 refine late_st 2 rfl (fun K hK => ?_)
 go_simp
 refine (c_cross (ra.below (below_drew' _)) (rb.below (below_drew' _))).mono ?_
 rintro e w2 ⟨v, rfl, hv, b2⟩
 obtain ⟨nm7, m7o, m7l, m7c, rfl, im7⟩ := hv.see sm7 (by omega)
 clear hv
 have B2 : Below W1.heap.size W1 w2 := bstep (below_drew' _) b2
 replace hHeld := AllL.mv (w' := w2) hHeld ⟨(qa.below B2).cells, (qb.below B2).cells, (qb.below B2).cells, (qa.below B2).cells, (qa.below B2).cells, (qb.below B2).cells, trivial⟩
 go_wp2_with fail
 refine hK.out _ _ (AllL.kept hHeld) ?_
 clear hK K
 try simp only [pu1, pu2, pu3, pu4]
 refine late_st 5 rfl (fun K hK => ?_)
 go_simp
 refine (c_cross ((rb.below (below_drew' _)).below b2) ((ra.below (below_drew' _)).below b2)).mono ?_
 rintro e w3 ⟨v, rfl, hv, b3⟩
 obtain ⟨nm10, m10o, m10l, m10c, rfl, im10⟩ := hv.see sm10 (by omega)
 clear hv
 have B3 : Below W1.heap.size W1 w3 := bstep B2 b3
 replace hHeld := AllL.mv (w' := w3) hHeld ⟨(qa.below B3).cells, (qb.below B3).cells, (qb.below B3).cells, (qa.below B3).cells, (qa.below B3).cells, (qb.below B3).cells, trivial⟩
 go_wp2_with fail
 refine hK.out _ _ (AllL.kept hHeld) ?_
 clear hK K
 try simp only [pu1, pu2, pu3, pu4]
 refine late_st 6 rfl (fun K hK => ?_)
 go_simp
 refine (c_add (im7.below b3) im10).mono ?_
 rintro e w4 ⟨v, rfl, hv, b4⟩
 obtain ⟨nm11, m11o, m11l, m11c, rfl, im11⟩ := hv.see sm11 (by omega)
 clear hv
 have B4 : Below W1.heap.size W1 w4 := bstep B3 b4
 replace hHeld := AllL.mv (w' := w4) hHeld ⟨(qa.below B4).cells, (qb.below B4).cells, (qb.below B4).cells, (qa.below B4).cells, (qa.below B4).cells, (qb.below B4).cells, trivial⟩
 go_wp2_with fail
 refine hK.out _ _ (AllL.kept hHeld) ?_
 clear hK K
 try simp only [pu1, pu2, pu3, pu4]
 refine late_st 8 rfl (fun K hK => ?_)
 go_simp
 refine (c_under ((((ra.below (below_drew' _)).below b2).below b3).below b4)).mono ?_
 rintro e w5 ⟨v, rfl, hv, b5⟩
 obtain ⟨nm13, m13o, m13l, m13c, rfl, im13⟩ := hv.see
 clear hv
 have B5 : Below W1.heap.size W1 w5 := bstep B4 b5
 replace hHeld := AllL.mv (w' := w5) hHeld ⟨(qa.below B5).cells, (qb.below B5).cells, (qb.below B5).cells, (qa.below B5).cells, (qa.below B5).cells, (qb.below B5).cells, trivial⟩
 go_wp2_with fail
 refine hK.out _ _ (AllL.kept hHeld) ?_
 clear hK K
 try simp only [pu1, pu2, pu3, pu4]
 refine late_st 10 rfl (fun K hK => ?_)
 go_simp
 refine (c_under (((((rb.below (below_drew' _)).below b2).below b3).below b4).below b5)).mono ?_
 rintro e w6 ⟨v, rfl, hv, b6⟩
 obtain ⟨nm15, m15o, m15l, m15c, rfl, im15⟩ := hv.see
 clear hv
 have B6 : Below W1.heap.size W1 w6 := bstep B5 b6
 replace hHeld := AllL.mv (w' := w6) hHeld ⟨(qa.below B6).cells, (qb.below B6).cells, (qb.below B6).cells, (qa.below B6).cells, (qa.below B6).cells, (qb.below B6).cells, trivial⟩
 go_wp2_with fail
 refine hK.out _ _ (AllL.kept hHeld) ?_
 clear hK K
 try simp only [pu1, pu2, pu3, pu4]
 refine late_st 11 rfl (fun K hK => ?_)
 go_simp
 refine (c_mul (im13.below b6) im15).mono ?_
 rintro e w7 ⟨v, rfl, hv, b7⟩
 obtain ⟨nm16, m16o, m16l, m16c, rfl, im16⟩ := hv.see sm16 (by omega)
 clear hv
 have B7 : Below W1.heap.size W1 w7 := bstep B6 b7
 replace hHeld := AllL.mv (w' := w7) hHeld ⟨(qa.below B7).cells, (qb.below B7).cells, (qb.below B7).cells, (qa.below B7).cells, (qa.below B7).cells, (qb.below B7).cells, trivial⟩
 go_wp2_with fail
 refine hK.out _ _ (AllL.kept hHeld) ?_
 clear hK K
 try simp only [pu1, pu2, pu3, pu4]
 refine late_st 12 rfl (fun K hK => ?_)
 go_simp
 have hq := c_lowest (((im11.below b5).below b6).below b7) im16 (und_mul_ne _ _)
 rw [HZ.out] at hq
 refine hq.mono ?_
 rintro e w8 ⟨v, rfl, hv, b8⟩
 clear hq
 obtain ⟨m, d, rfl, hm, hd, hap⟩ := hv
 obtain ⟨mo, ml, mc, rfl⟩ := hm.sl
 obtain ⟨mO, mL, mC, rfl⟩ := hd.sl
 have B8 : Below W1.heap.size W1 w8 := bstep B7 b8
 replace hHeld := AllL.mv (w' := w8) hHeld ⟨(qa.below B8).cells, (qb.below B8).cells, (qb.below B8).cells, (qa.below B8).cells, (qa.below B8).cells, (qb.below B8).cells, trivial⟩
 go_wp2_with fail
 refine hK.out _ _ (AllL.kept hHeld) ?_
 clear hK K
 try simp only [pu1, pu2, pu3, pu4]
 have qq := qR.below B8
 have HE : Hid (REnd w Z (.returned (.agg #[.bool (decide (Z.num < 0)), .slice mo ml mc, .slice mO mL mC])) (((w8.setCell ⟨g + 1 + 1, 0, none⟩ (.bool (decide (Z.num < 0)))).setCell ⟨g + 1 + 1, 1, none⟩ (.slice mo ml mc)).setCell ⟨g + 1 + 1, 2, none⟩ (.slice mO mL mC))) := rat_done rfl (by rw [HG.out]; omega) hm hd hap (Nat.lt_of_lt_of_le hsz B7.size) (bstep hb B8)
 have HW : Hid (QCell (((w8.setCell ⟨g + 1 + 1, 0, none⟩ (.bool (decide (Z.num < 0)))).setCell ⟨g + 1 + 1, 1, none⟩ (.slice mo ml mc)).setCell ⟨g + 1 + 1, 2, none⟩ (.slice mO mL mC)) (g + 1 + 1) (decide (Z.num < 0)) (.slice mo ml mc) (.slice mO mL mC)) := qq.write _ _ _
 obtain ⟨y0, y1, y2⟩ := qq.cells
 have f0 := qq.thaw 0
 have f1 := qq.thaw 1
 have f2 := qq.thaw 2
 generalize decide (Z.num < 0) = bb at *
 clear qq hap
 clear im7 im10 im11 im13 im15 im16
 refine late_st 13 rfl (fun K hK => ?_)
 go_simp
 refine hK.out _ _ ⟨kpt 2, kpt 2, kpt 5, kpt 5, kpt 8, kpt 10, trivial⟩ ?_
 clear hK K
 try simp only [pu1, pu2, pu3, pu4]
 refine late_done (by kernel_rfl) ?_ _
 clear hHeld
 clear hb hsz hm hd qa qb qR ra rb ia ib b2 b3 b4 b5 b6 b7 b8 B2 B3 B4 B5 B6 B7 B8 
 go_wp2_with fail
 (try simp only [Exit.inBlock, Exit.then])
 exact bodyPost_ret (results_cell_row rfl _ _ (g + 1 + 1) 27 _ (0, 0) _ rfl HW.out Tryz.underlying27 rfl (by kernel_rfl)) rfl HE.out
end Go.Proofs.YtfnafgjnimfmjaaGreatDoor
