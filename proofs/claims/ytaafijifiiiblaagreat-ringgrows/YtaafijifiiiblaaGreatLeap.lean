/-
  Proved here: what leap answers.
-/
import Derived.Test.YtaafijifiiiblaaGreatWindow
import Derived.Test.YtaafijifiiiblaaGreatPowMathAll
import Derived.Test.YtaafijifiiiblaaGreatSubAll
import Derived.Test.YtaafijifiiiblaaGreatAlive0All
import Derived.Test.YtaafijifiiiblaaGreatBitsAll
namespace Go.Proofs.YtaafijifiiiblaaGreat
open Go.RowKit

theorem keepB9 {w w' : World} {p : Addr} {v : Value} (hb : Below w.heap.size w w') (h : w.cell? p = some v) : w'.cell? p = some v := by
  rw [hb.cell (block_lt_of_cell h), h]
/-- What leap leaves. -/
def LeapEnd (C : Nat) (w : World) (a b : Nat) (e : Ending) (w' : World) : Prop :=
  ∃ vc vd c d, e = .returned (.tuple #[vc, vd]) ∧ Own C 100 w' vc (lim c) ∧ Own C 100 w' vd (lim d) ∧ d ≤ c ∧ c ≤ b ∧ Nat.gcd c d = Nat.gcd a b ∧ c + d < a + b ∧ Below w.heap.size w w'
theorem steps_new (w : World) (u0 v0 u1 v1 : Nat) (ev : Bool) : Steps (w.alloc (.cells #[.int .u64 (u0 : Int), .int .u64 (v0 : Int), .int .u64 (u1 : Int), .int .u64 (v1 : Int), .bool ev] 146)) w.heap.size u0 v0 u1 v1 ev := heap_alloc_new w _
theorem sub_of {p q c : Nat} (h : p + c = q) : p ≤ q ∧ q - p = c := by omega
theorem blend2 {va vb : Value} {w : World} {a b u v c : Nat} (ha : Num w va (lim a)) (hb : Num w vb (lim b)) (hu : u < 4294967296) (hv : v < 4294967296) (la : (lim a).length ≤ 1099511627776) (lb : (lim b).length ≤ 1099511627776) (h : b * v + c = a * u) (hc : c < 4294967296 ^ (max (lim a).length (lim b).length)) :
    Calls Tryz.prog 140 #[va, .int .u64 (u : Int), vb, .int .u64 (v : Int)] w fun e w' => ∃ m, e = .returned m ∧ Own w.heap.size 100 w' m (lim c) ∧ Below w.heap.size w w' := by
  have hk := sub_of h
  have hm := blend_any va vb (lim a) (lim b) (u : Int) (v : Int) w ha hb (by omega) (by omega) (by omega) (by omega) la lb (by rw [val_lim, val_lim, Int.toNat_natCast, Int.toNat_natCast]; exact hk.1) (by rw [val_lim, val_lim, Int.toNat_natCast, Int.toNat_natCast, hk.2]; exact hc)
  rw [val_lim, val_lim, Int.toNat_natCast, Int.toNat_natCast, hk.2] at hm
  exact hm
theorem below_dr (w : World) : Below w.heap.size w w.drew := (Below.refl _ _).drew
theorem win_eq {a n : Nat} (h : a < 2 ^ (n + 64)) : a / 2 ^ n % 18446744073709551616 = a / 2 ^ n := by
  apply Nat.mod_eq_of_lt
  apply Nat.div_lt_of_lt_mul
  rw [Nat.pow_add] at h
  exact h

set_option maxRecDepth 100000 in
set_option maxHeartbeats 12800000 in
theorem leap_any (va vb : Value) (A Bn C : Nat) (w : World) (ha : Own C 100 w va (lim A)) (hb : Own C 100 w vb (lim Bn)) (hC : C ≤ w.heap.size) (hle : Bn ≤ A) (hbig : 2 ^ 64 ≤ Bn) (la : (lim A).length ≤ 30000000) :
    Calls Tryz.prog 133 #[va, vb] w fun e w' => LeapEnd C w A Bn e w' := by
  obtain ⟨ao, ac, rfl, hac, ham⟩ := ha.num.ao
  obtain ⟨bo, bc, rfl, hbc, hbm⟩ := hb.num.ao
  obtain ⟨al, hal⟩ : ∃ l, l = (lim A).length := ⟨_, rfl⟩
  obtain ⟨bl_, hbl⟩ : ∃ l, l = (lim Bn).length := ⟨_, rfl⟩
  rw [← hal] at ha la ⊢
  rw [← hbl] at hb ⊢
  have lb : bl_ ≤ 30000000 := by rw [hbl]; exact Nat.le_trans (lim_len_le (Nat.lt_of_le_of_lt hle (lim_lt_of_len (k := al) (by omega)))) la
  have hA64 : 64 < bl A := bl_gt_iff.2 (Nat.le_trans hbig hle)
  have hblA : bl A ≤ 32 * al := by rw [hal]; exact bl_lim_len
  obtain ⟨n, hn⟩ : ∃ n, bl A = n + 64 := ⟨bl A - 64, by omega⟩
  have hn1 : n ≤ 1000000000 := by omega
  have hA2 : A < 2 ^ (n + 64) := by rw [← hn]; exact bl_lt' A
  have hB2 : Bn < 2 ^ (n + 64) := Nat.lt_of_le_of_lt hle hA2
  obtain ⟨X, hX⟩ : ∃ X, X = A / 2 ^ n := ⟨_, rfl⟩
  obtain ⟨Y, hY⟩ : ∃ Y, Y = Bn / 2 ^ n := ⟨_, rfl⟩
  have HWX : Hid (A / 2 ^ n % 18446744073709551616 = X) := by show _ = _; rw [win_eq hA2, hX]
  have HWY : Hid (Bn / 2 ^ n % 18446744073709551616 = Y) := by show _ = _; rw [win_eq hB2, hY]
  have HX64 : Hid (X < 18446744073709551616) := by show _ < _; rw [← HWX.out]; exact Nat.mod_lt _ (by decide)
  have HYX : Hid (Y ≤ X) := by show _ ≤ _; rw [hX, hY]; exact Nat.div_le_div_right hle
  have HS : Hid (0 < 2 ^ n ∧ X * 2 ^ n ≤ A ∧ A < X * 2 ^ n + 2 ^ n ∧ Y * 2 ^ n ≤ Bn ∧ Bn < Y * 2 ^ n + 2 ^ n) := by
    rw [hX, hY]
    have hp := Nat.two_pow_pos n
    exact ⟨hp, Nat.div_mul_le_self _ _, Nat.lt_div_mul_add hp, Nat.div_mul_le_self _ _, Nat.lt_div_mul_add hp⟩
  have HB0 : Hid (0 < Bn) := Nat.lt_of_lt_of_le (Nat.two_pow_pos 64) hbig
  have HLE : Hid (Bn ≤ A) := hle
  have HNL : Hid (Bn < 4294967296 ^ bl_) := lim_lt_of_len (by rw [hbl]; exact Nat.le_refl _)
  have HBL : Hid (bl A = n + 64) := hn
  have en : ((n + 64 : Nat) : Int) - 64 = (n : Int) := by omega
  have HLA : Hid ((lim A).length = al) := hal.symm
  have HLB : Hid ((lim Bn).length = bl_) := hbl.symm
  have hbw : Below w.heap.size w w := Below.refl _ _
  clear hX hY hA2 hB2 hn hal hbl hbig hle hA64 hblA
  go_enter Tryz.func133, Tryz.ntmps133
  go_wp2_with fail
  refine (bits_any _ _ _ ha.num (by rw [HLA.out]; omega)).mono ?_
  rw [val_lim, HBL.out]
  rintro e w2 ⟨rfl, h2⟩
  rw [h2]
  clear h2
  go_wp2_with fail
  refine (window_any _ _ n _ ha.num hn1).mono ?_
  rw [val_lim, HWX.out]
  rintro e w3 ⟨rfl, k3, h3⟩
  have b := belowK h3
  replace ha := ha.below b
  replace hb := hb.below b
  replace hbw := bstep hbw b
  clear b h3
  go_wp2_with fail
  refine (window_any _ _ n _ hb.num hn1).mono ?_
  rw [val_lim, HWY.out]
  rintro e w4 ⟨rfl, k4, h4⟩
  have b := belowK h4
  replace ha := ha.below b
  replace hb := hb.below b
  replace hbw := bstep hbw b
  clear b h4
  go_wp2_with fail
  refine (foresee_any X Y _ HX64.out HYX.out).mono ?_
  rintro e w5 ⟨u0, v0, u1, v1, ev, rfl, hfo, b⟩
  replace ha := ha.below b
  replace hb := hb.below b
  replace hbw := bstep hbw b
  clear b
  obtain ⟨W6, hW6⟩ : ∃ W, W = w5.alloc (.cells #[.int .u64 (u0 : Int), .int .u64 (v0 : Int), .int .u64 (u1 : Int), .int .u64 (v1 : Int), .bool ev] 146) := ⟨_, rfl⟩
  have st : Steps W6 w5.heap.size u0 v0 u1 v1 ev := by rw [hW6]; exact steps_new _ _ _ _ _ _
  have b : Below w5.heap.size w5 W6 := by rw [hW6]; exact belowA _ _
  replace ha := ha.below b
  replace hb := hb.below b
  replace hbw := bstep hbw b
  clear b
  have cz : (w5.alloc (.cells #[.int .u64 (u0 : Int), .int .u64 (v0 : Int), .int .u64 (u1 : Int), .int .u64 (v1 : Int), .bool ev] 146)).cell? ⟨w5.heap.size, 1, none⟩ = some (.int .u64 (v0 : Int)) := by rw [← hW6]; exact st.cells.2.1
  have cy : (w5.alloc (.cells #[.int .u64 (u0 : Int), .int .u64 (v0 : Int), .int .u64 (u1 : Int), .int .u64 (v1 : Int), .bool ev] 146)).cell? ⟨w5.heap.size, 4, none⟩ = some (.bool ev) := by rw [← hW6]; exact st.cells.2.2.2.2
  have HW6 : Hid (W6 = w5.alloc (.cells #[.int .u64 (u0 : Int), .int .u64 (v0 : Int), .int .u64 (u1 : Int), .int .u64 (v1 : Int), .bool ev] 146)) := hW6
  clear hW6
  by_cases hv0 : v0 = 0
  · have hv00 : ((v0 : Int) == 0) = true := by simp [hv0]
    clear hfo hv0
    go_wp2_with fail
    rw [← HW6.out]
    clear HW6 cz cy
    refine (divMod_any _ _ _ _ _ ha.num hb.num (by rw [HLA.out]; omega)).mono ?_
    rw [val_lim, val_lim]
    rintro e w7 ⟨q, r, rfl, hq, hr, hqr, b⟩
    have hmz : modZ A Bn = A % Bn := by unfold modZ; rw [if_neg (by have := HB0.out; omega)]
    have hml : A % Bn < Bn := Nat.mod_lt _ HB0.out
    have hgc : Nat.gcd Bn (A % Bn) = Nat.gcd A Bn := by rw [Nat.gcd_comm, ← Nat.gcd_rec, Nat.gcd_comm]
    have hle := HLE.out
    rw [hmz] at hr
    have HE : Hid (LeapEnd C w A Bn (.returned (.tuple #[.slice bo bl_ bc, r])) w7) := ⟨_, r, Bn, A % Bn, rfl, hb.below b, hr.mono (Nat.le_trans hC hbw.size), by omega, Nat.le_refl _, hgc, by omega, bstep hbw b⟩
    obtain ⟨ro, rl, rc, rfl⟩ := hr.sl
    obtain ⟨qo, ql, qc, rfl⟩ := hq.sl
    generalize errZ Bn = er
    clear ha hb hq hr hqr b hbw st hmz hml hgc hle
    go_wp2_with fail
    go_ret2
    exact HE.out
  · obtain ⟨z, x, hD⟩ := hfo.resolve_left hv0
    have hv00 : ((v0 : Int) == 0) = false := by simpa using hv0
    obtain ⟨c, d, hcd, hdc, hcb, hgg, hlt⟩ := leap_made HS.out.1 HS.out.2.1 HS.out.2.2.1 HS.out.2.2.2.1 HS.out.2.2.2.2 HB0.out hv0 hD
    obtain ⟨hs_u0, hs_v0, hs_u1, hs_v1⟩ := hD.small
    clear hfo hD hv0
    cases ev
    · simp only [Bool.false_eq_true, if_false] at hcd
      go_wp2_with fail
      rw [← HW6.out]
      clear HW6 cz cy
      obtain ⟨g, hg⟩ : ∃ g, g = w5.heap.size := ⟨_, rfl⟩
      rw [← hg] at st ⊢
      clear hg
      obtain ⟨s0, s1, s2, s3, s4⟩ := st.cells
      refine region_late [(2, fun w' => w'.cell? ⟨g, 1, none⟩ = some (.int .u64 (v0 : Int))), (5, fun w' => w'.cell? ⟨g, 0, none⟩ = some (.int .u64 (u0 : Int))), (9, fun w' => w'.cell? ⟨g, 2, none⟩ = some (.int .u64 (u1 : Int))), (12, fun w' => w'.cell? ⟨g, 3, none⟩ = some (.int .u64 (v1 : Int)))] (by kernel_rfl) ?_
      have hHeld : AllL W6.drew [(2, fun w' => w'.cell? ⟨g, 1, none⟩ = some (.int .u64 (v0 : Int))), (5, fun w' => w'.cell? ⟨g, 0, none⟩ = some (.int .u64 (u0 : Int))), (9, fun w' => w'.cell? ⟨g, 2, none⟩ = some (.int .u64 (u1 : Int))), (12, fun w' => w'.cell? ⟨g, 3, none⟩ = some (.int .u64 (v1 : Int)))] := ⟨s1, s0, s2, s3, trivial⟩
      refine late_free 0 (v := .slice bo bl_ bc) rfl (by kernel_rfl) (by kernel_rfl) (by kernel_rfl) (by kernel_rfl) (by kernel_rfl) (by kernel_rfl) (fun _ _ _ h => h) (Or.inl ⟨by rfl, ?_⟩) hHeld ?_
      · (intro u _; go_simp)
      (try simp only [Act.put, List.setIfInBounds_toArray, List.set_cons_zero, List.set_cons_succ])
      refine late_free 1 (v := .pointer (some ⟨g, 1, none⟩)) rfl (by kernel_rfl) (by kernel_rfl) (by kernel_rfl) (by kernel_rfl) (by kernel_rfl) (by kernel_rfl) (fun _ _ _ h => h) (Or.inl ⟨by rfl, ?_⟩) hHeld ?_
      · (intro u _; go_simp)
      (try simp only [Act.put, List.setIfInBounds_toArray, List.set_cons_zero, List.set_cons_succ])
      refine late_take 2 (v := .int .u64 (v0 : Int)) rfl (by kernel_rfl) (List.Mem.head _) (by kernel_rfl) (by kernel_rfl) (by kernel_rfl) (by kernel_rfl) (fun _ _ _ h => h) (Or.inl ⟨by rfl, ?_⟩) hHeld ?_
      · (intro u hu; (try dsimp only at hu); go_split_ands; go_simp)
      (try simp only [Act.put, List.setIfInBounds_toArray, List.set_cons_zero, List.set_cons_succ])
      refine late_free 3 (v := .slice ao al ac) rfl (by kernel_rfl) (by kernel_rfl) (by kernel_rfl) (by kernel_rfl) (by kernel_rfl) (by kernel_rfl) (fun _ _ _ h => h) (Or.inl ⟨by rfl, ?_⟩) hHeld ?_
      · (intro u _; go_simp)
      (try simp only [Act.put, List.setIfInBounds_toArray, List.set_cons_zero, List.set_cons_succ])
      refine late_free 4 (v := .pointer (some ⟨g, 0, none⟩)) rfl (by kernel_rfl) (by kernel_rfl) (by kernel_rfl) (by kernel_rfl) (by kernel_rfl) (by kernel_rfl) (fun _ _ _ h => h) (Or.inl ⟨by rfl, ?_⟩) hHeld ?_
      · (intro u _; go_simp)
      (try simp only [Act.put, List.setIfInBounds_toArray, List.set_cons_zero, List.set_cons_succ])
      refine late_take 5 (v := .int .u64 (u0 : Int)) rfl (by kernel_rfl) (List.Mem.tail _ (List.Mem.head _)) (by kernel_rfl) (by kernel_rfl) (by kernel_rfl) (by kernel_rfl) (fun _ _ _ h => h) (Or.inl ⟨by rfl, ?_⟩) hHeld ?_
      · (intro u hu; (try dsimp only at hu); go_split_ands; go_simp)
      (try simp only [Act.put, List.setIfInBounds_toArray, List.set_cons_zero, List.set_cons_succ])
      refine late_free 7 (v := .slice ao al ac) rfl (by kernel_rfl) (by kernel_rfl) (by kernel_rfl) (by kernel_rfl) (by kernel_rfl) (by kernel_rfl) (fun _ _ _ h => h) (Or.inl ⟨by rfl, ?_⟩) hHeld ?_
      · (intro u _; go_simp)
      (try simp only [Act.put, List.setIfInBounds_toArray, List.set_cons_zero, List.set_cons_succ])
      refine late_free 8 (v := .pointer (some ⟨g, 2, none⟩)) rfl (by kernel_rfl) (by kernel_rfl) (by kernel_rfl) (by kernel_rfl) (by kernel_rfl) (by kernel_rfl) (fun _ _ _ h => h) (Or.inl ⟨by rfl, ?_⟩) hHeld ?_
      · (intro u _; go_simp)
      (try simp only [Act.put, List.setIfInBounds_toArray, List.set_cons_zero, List.set_cons_succ])
      refine late_take 9 (v := .int .u64 (u1 : Int)) rfl (by kernel_rfl) (List.Mem.tail _ (List.Mem.tail _ (List.Mem.head _))) (by kernel_rfl) (by kernel_rfl) (by kernel_rfl) (by kernel_rfl) (fun _ _ _ h => h) (Or.inl ⟨by rfl, ?_⟩) hHeld ?_
      · (intro u hu; (try dsimp only at hu); go_split_ands; go_simp)
      (try simp only [Act.put, List.setIfInBounds_toArray, List.set_cons_zero, List.set_cons_succ])
      refine late_free 10 (v := .slice bo bl_ bc) rfl (by kernel_rfl) (by kernel_rfl) (by kernel_rfl) (by kernel_rfl) (by kernel_rfl) (by kernel_rfl) (fun _ _ _ h => h) (Or.inl ⟨by rfl, ?_⟩) hHeld ?_
      · (intro u _; go_simp)
      (try simp only [Act.put, List.setIfInBounds_toArray, List.set_cons_zero, List.set_cons_succ])
      refine late_free 11 (v := .pointer (some ⟨g, 3, none⟩)) rfl (by kernel_rfl) (by kernel_rfl) (by kernel_rfl) (by kernel_rfl) (by kernel_rfl) (by kernel_rfl) (fun _ _ _ h => h) (Or.inl ⟨by rfl, ?_⟩) hHeld ?_
      · (intro u _; go_simp)
      (try simp only [Act.put, List.setIfInBounds_toArray, List.set_cons_zero, List.set_cons_succ])
      refine late_take 12 (v := .int .u64 (v1 : Int)) rfl (by kernel_rfl) (List.Mem.tail _ (List.Mem.tail _ (List.Mem.tail _ (List.Mem.head _)))) (by kernel_rfl) (by kernel_rfl) (by kernel_rfl) (by kernel_rfl) (fun _ _ _ h => h) (Or.inl ⟨by rfl, ?_⟩) hHeld ?_
      · (intro u hu; (try dsimp only at hu); go_split_ands; go_simp)
      (try simp only [Act.put, List.setIfInBounds_toArray, List.set_cons_zero, List.set_cons_succ])
      refine late_step 6 (by kernel_rfl) rfl (fun K hK => ?_)
      go_simp
      refine (blend2 (hb.below (below_dr _)).num (ha.below (below_dr _)).num hs_v0 hs_u0 (by rw [HLB.out]; omega) (by rw [HLA.out]; omega) hcd.1 (Nat.lt_of_lt_of_le (Nat.lt_of_le_of_lt hcb HNL.out) (Nat.pow_le_pow_right (Nat.succ_pos _) (by rw [HLA.out, HLB.out]; omega)))).mono ?_
      rintro e w7 ⟨vc, rfl, hvc, b7⟩
      obtain ⟨vco, vcl, vcc, rfl⟩ := hvc.sl
      go_wp2_with fail
      refine hK.out _ _ (AllL.kept ⟨keepB9 (bstep (below_dr _) b7) s1, keepB9 (bstep (below_dr _) b7) s0, keepB9 (bstep (below_dr _) b7) s2, keepB9 (bstep (below_dr _) b7) s3, trivial⟩) ?_
      clear hK K
      (try simp only [Act.put, List.setIfInBounds_toArray, List.set_cons_zero, List.set_cons_succ])
      refine late_step 13 (by kernel_rfl) rfl (fun K hK => ?_)
      go_simp
      refine (blend2 ((ha.below (below_dr _)).below b7).num ((hb.below (below_dr _)).below b7).num hs_u1 hs_v1 (by rw [HLA.out]; omega) (by rw [HLB.out]; omega) hcd.2 (Nat.lt_of_lt_of_le (Nat.lt_of_le_of_lt (Nat.le_trans hdc hcb) HNL.out) (Nat.pow_le_pow_right (Nat.succ_pos _) (by rw [HLA.out, HLB.out]; omega)))).mono ?_
      rintro e w8 ⟨vd, rfl, hvd, b8⟩
      obtain ⟨vdo, vdl, vdc, rfl⟩ := hvd.sl
      go_wp2_with fail
      refine hK.out _ _ (AllL.kept ⟨keepB9 (bstep (below_dr _) (bstep b7 b8)) s1, keepB9 (bstep (below_dr _) (bstep b7 b8)) s0, keepB9 (bstep (below_dr _) (bstep b7 b8)) s2, keepB9 (bstep (below_dr _) (bstep b7 b8)) s3, trivial⟩) ?_
      clear hK K
      (try simp only [Act.put, List.setIfInBounds_toArray, List.set_cons_zero, List.set_cons_succ])
      have HE : Hid (LeapEnd C w A Bn (.returned (.tuple #[.slice vco vcl vcc, .slice vdo vdl vdc])) w8) := ⟨_, _, c, d, rfl, (hvc.below b8).mono (Nat.le_trans hC hbw.size), hvd.mono (Nat.le_trans hC (Nat.le_trans hbw.size b7.size)), hdc, hcb, hgg, hlt, bstep hbw (bstep (below_dr _) (bstep b7 b8))⟩
      clear hHeld ha hb hvc hvd b7 b8 hbw st
      refine late_step 14 (by kernel_rfl) rfl (fun K hK => ?_)
      go_simp
      refine hK.out _ _ ⟨Or.inl ⟨6, by kernel_rfl, by kernel_rfl⟩, Or.inl ⟨6, by kernel_rfl, by kernel_rfl⟩, Or.inl ⟨13, by kernel_rfl, by kernel_rfl⟩, Or.inl ⟨13, by kernel_rfl, by kernel_rfl⟩, trivial⟩ ?_
      clear hK K
      (try simp only [Act.put, List.setIfInBounds_toArray, List.set_cons_zero, List.set_cons_succ])
      refine late_step 15 (by kernel_rfl) rfl (fun K hK => ?_)
      go_simp
      refine hK.out _ _ ⟨Or.inl ⟨6, by kernel_rfl, by kernel_rfl⟩, Or.inl ⟨6, by kernel_rfl, by kernel_rfl⟩, Or.inl ⟨13, by kernel_rfl, by kernel_rfl⟩, Or.inl ⟨13, by kernel_rfl, by kernel_rfl⟩, trivial⟩ ?_
      clear hK K
      (try simp only [Act.put, List.setIfInBounds_toArray, List.set_cons_zero, List.set_cons_succ])
      refine late_done (by kernel_rfl) ?_ _
      go_wp2_with fail
      go_ret2
      exact HE.out
    · simp only [if_true] at hcd
      go_wp2_with fail
      rw [← HW6.out]
      clear HW6 cz cy
      obtain ⟨g, hg⟩ : ∃ g, g = w5.heap.size := ⟨_, rfl⟩
      rw [← hg] at st ⊢
      clear hg
      obtain ⟨s0, s1, s2, s3, s4⟩ := st.cells
      refine region_late [(2, fun w' => w'.cell? ⟨g, 0, none⟩ = some (.int .u64 (u0 : Int))), (5, fun w' => w'.cell? ⟨g, 1, none⟩ = some (.int .u64 (v0 : Int))), (9, fun w' => w'.cell? ⟨g, 3, none⟩ = some (.int .u64 (v1 : Int))), (12, fun w' => w'.cell? ⟨g, 2, none⟩ = some (.int .u64 (u1 : Int)))] (by kernel_rfl) ?_
      have hHeld : AllL W6.drew [(2, fun w' => w'.cell? ⟨g, 0, none⟩ = some (.int .u64 (u0 : Int))), (5, fun w' => w'.cell? ⟨g, 1, none⟩ = some (.int .u64 (v0 : Int))), (9, fun w' => w'.cell? ⟨g, 3, none⟩ = some (.int .u64 (v1 : Int))), (12, fun w' => w'.cell? ⟨g, 2, none⟩ = some (.int .u64 (u1 : Int)))] := ⟨s0, s1, s3, s2, trivial⟩
      refine late_free 0 (v := .slice ao al ac) rfl (by kernel_rfl) (by kernel_rfl) (by kernel_rfl) (by kernel_rfl) (by kernel_rfl) (by kernel_rfl) (fun _ _ _ h => h) (Or.inl ⟨by rfl, ?_⟩) hHeld ?_
      · (intro u _; go_simp)
      (try simp only [Act.put, List.setIfInBounds_toArray, List.set_cons_zero, List.set_cons_succ])
      refine late_free 1 (v := .pointer (some ⟨g, 0, none⟩)) rfl (by kernel_rfl) (by kernel_rfl) (by kernel_rfl) (by kernel_rfl) (by kernel_rfl) (by kernel_rfl) (fun _ _ _ h => h) (Or.inl ⟨by rfl, ?_⟩) hHeld ?_
      · (intro u _; go_simp)
      (try simp only [Act.put, List.setIfInBounds_toArray, List.set_cons_zero, List.set_cons_succ])
      refine late_take 2 (v := .int .u64 (u0 : Int)) rfl (by kernel_rfl) (List.Mem.head _) (by kernel_rfl) (by kernel_rfl) (by kernel_rfl) (by kernel_rfl) (fun _ _ _ h => h) (Or.inl ⟨by rfl, ?_⟩) hHeld ?_
      · (intro u hu; (try dsimp only at hu); go_split_ands; go_simp)
      (try simp only [Act.put, List.setIfInBounds_toArray, List.set_cons_zero, List.set_cons_succ])
      refine late_free 3 (v := .slice bo bl_ bc) rfl (by kernel_rfl) (by kernel_rfl) (by kernel_rfl) (by kernel_rfl) (by kernel_rfl) (by kernel_rfl) (fun _ _ _ h => h) (Or.inl ⟨by rfl, ?_⟩) hHeld ?_
      · (intro u _; go_simp)
      (try simp only [Act.put, List.setIfInBounds_toArray, List.set_cons_zero, List.set_cons_succ])
      refine late_free 4 (v := .pointer (some ⟨g, 1, none⟩)) rfl (by kernel_rfl) (by kernel_rfl) (by kernel_rfl) (by kernel_rfl) (by kernel_rfl) (by kernel_rfl) (fun _ _ _ h => h) (Or.inl ⟨by rfl, ?_⟩) hHeld ?_
      · (intro u _; go_simp)
      (try simp only [Act.put, List.setIfInBounds_toArray, List.set_cons_zero, List.set_cons_succ])
      refine late_take 5 (v := .int .u64 (v0 : Int)) rfl (by kernel_rfl) (List.Mem.tail _ (List.Mem.head _)) (by kernel_rfl) (by kernel_rfl) (by kernel_rfl) (by kernel_rfl) (fun _ _ _ h => h) (Or.inl ⟨by rfl, ?_⟩) hHeld ?_
      · (intro u hu; (try dsimp only at hu); go_split_ands; go_simp)
      (try simp only [Act.put, List.setIfInBounds_toArray, List.set_cons_zero, List.set_cons_succ])
      refine late_free 7 (v := .slice bo bl_ bc) rfl (by kernel_rfl) (by kernel_rfl) (by kernel_rfl) (by kernel_rfl) (by kernel_rfl) (by kernel_rfl) (fun _ _ _ h => h) (Or.inl ⟨by rfl, ?_⟩) hHeld ?_
      · (intro u _; go_simp)
      (try simp only [Act.put, List.setIfInBounds_toArray, List.set_cons_zero, List.set_cons_succ])
      refine late_free 8 (v := .pointer (some ⟨g, 3, none⟩)) rfl (by kernel_rfl) (by kernel_rfl) (by kernel_rfl) (by kernel_rfl) (by kernel_rfl) (by kernel_rfl) (fun _ _ _ h => h) (Or.inl ⟨by rfl, ?_⟩) hHeld ?_
      · (intro u _; go_simp)
      (try simp only [Act.put, List.setIfInBounds_toArray, List.set_cons_zero, List.set_cons_succ])
      refine late_take 9 (v := .int .u64 (v1 : Int)) rfl (by kernel_rfl) (List.Mem.tail _ (List.Mem.tail _ (List.Mem.head _))) (by kernel_rfl) (by kernel_rfl) (by kernel_rfl) (by kernel_rfl) (fun _ _ _ h => h) (Or.inl ⟨by rfl, ?_⟩) hHeld ?_
      · (intro u hu; (try dsimp only at hu); go_split_ands; go_simp)
      (try simp only [Act.put, List.setIfInBounds_toArray, List.set_cons_zero, List.set_cons_succ])
      refine late_free 10 (v := .slice ao al ac) rfl (by kernel_rfl) (by kernel_rfl) (by kernel_rfl) (by kernel_rfl) (by kernel_rfl) (by kernel_rfl) (fun _ _ _ h => h) (Or.inl ⟨by rfl, ?_⟩) hHeld ?_
      · (intro u _; go_simp)
      (try simp only [Act.put, List.setIfInBounds_toArray, List.set_cons_zero, List.set_cons_succ])
      refine late_free 11 (v := .pointer (some ⟨g, 2, none⟩)) rfl (by kernel_rfl) (by kernel_rfl) (by kernel_rfl) (by kernel_rfl) (by kernel_rfl) (by kernel_rfl) (fun _ _ _ h => h) (Or.inl ⟨by rfl, ?_⟩) hHeld ?_
      · (intro u _; go_simp)
      (try simp only [Act.put, List.setIfInBounds_toArray, List.set_cons_zero, List.set_cons_succ])
      refine late_take 12 (v := .int .u64 (u1 : Int)) rfl (by kernel_rfl) (List.Mem.tail _ (List.Mem.tail _ (List.Mem.tail _ (List.Mem.head _)))) (by kernel_rfl) (by kernel_rfl) (by kernel_rfl) (by kernel_rfl) (fun _ _ _ h => h) (Or.inl ⟨by rfl, ?_⟩) hHeld ?_
      · (intro u hu; (try dsimp only at hu); go_split_ands; go_simp)
      (try simp only [Act.put, List.setIfInBounds_toArray, List.set_cons_zero, List.set_cons_succ])
      refine late_step 6 (by kernel_rfl) rfl (fun K hK => ?_)
      go_simp
      refine (blend2 (ha.below (below_dr _)).num (hb.below (below_dr _)).num hs_u0 hs_v0 (by rw [HLA.out]; omega) (by rw [HLB.out]; omega) hcd.1 (Nat.lt_of_lt_of_le (Nat.lt_of_le_of_lt hcb HNL.out) (Nat.pow_le_pow_right (Nat.succ_pos _) (by rw [HLA.out, HLB.out]; omega)))).mono ?_
      rintro e w7 ⟨vc, rfl, hvc, b7⟩
      obtain ⟨vco, vcl, vcc, rfl⟩ := hvc.sl
      go_wp2_with fail
      refine hK.out _ _ (AllL.kept ⟨keepB9 (bstep (below_dr _) b7) s0, keepB9 (bstep (below_dr _) b7) s1, keepB9 (bstep (below_dr _) b7) s3, keepB9 (bstep (below_dr _) b7) s2, trivial⟩) ?_
      clear hK K
      (try simp only [Act.put, List.setIfInBounds_toArray, List.set_cons_zero, List.set_cons_succ])
      refine late_step 13 (by kernel_rfl) rfl (fun K hK => ?_)
      go_simp
      refine (blend2 ((hb.below (below_dr _)).below b7).num ((ha.below (below_dr _)).below b7).num hs_v1 hs_u1 (by rw [HLB.out]; omega) (by rw [HLA.out]; omega) hcd.2 (Nat.lt_of_lt_of_le (Nat.lt_of_le_of_lt (Nat.le_trans hdc hcb) HNL.out) (Nat.pow_le_pow_right (Nat.succ_pos _) (by rw [HLA.out, HLB.out]; omega)))).mono ?_
      rintro e w8 ⟨vd, rfl, hvd, b8⟩
      obtain ⟨vdo, vdl, vdc, rfl⟩ := hvd.sl
      go_wp2_with fail
      refine hK.out _ _ (AllL.kept ⟨keepB9 (bstep (below_dr _) (bstep b7 b8)) s0, keepB9 (bstep (below_dr _) (bstep b7 b8)) s1, keepB9 (bstep (below_dr _) (bstep b7 b8)) s3, keepB9 (bstep (below_dr _) (bstep b7 b8)) s2, trivial⟩) ?_
      clear hK K
      (try simp only [Act.put, List.setIfInBounds_toArray, List.set_cons_zero, List.set_cons_succ])
      have HE : Hid (LeapEnd C w A Bn (.returned (.tuple #[.slice vco vcl vcc, .slice vdo vdl vdc])) w8) := ⟨_, _, c, d, rfl, (hvc.below b8).mono (Nat.le_trans hC hbw.size), hvd.mono (Nat.le_trans hC (Nat.le_trans hbw.size b7.size)), hdc, hcb, hgg, hlt, bstep hbw (bstep (below_dr _) (bstep b7 b8))⟩
      clear hHeld ha hb hvc hvd b7 b8 hbw st
      refine late_step 14 (by kernel_rfl) rfl (fun K hK => ?_)
      go_simp
      refine hK.out _ _ ⟨Or.inl ⟨6, by kernel_rfl, by kernel_rfl⟩, Or.inl ⟨6, by kernel_rfl, by kernel_rfl⟩, Or.inl ⟨13, by kernel_rfl, by kernel_rfl⟩, Or.inl ⟨13, by kernel_rfl, by kernel_rfl⟩, trivial⟩ ?_
      clear hK K
      (try simp only [Act.put, List.setIfInBounds_toArray, List.set_cons_zero, List.set_cons_succ])
      refine late_step 15 (by kernel_rfl) rfl (fun K hK => ?_)
      go_simp
      refine hK.out _ _ ⟨Or.inl ⟨6, by kernel_rfl, by kernel_rfl⟩, Or.inl ⟨6, by kernel_rfl, by kernel_rfl⟩, Or.inl ⟨13, by kernel_rfl, by kernel_rfl⟩, Or.inl ⟨13, by kernel_rfl, by kernel_rfl⟩, trivial⟩ ?_
      clear hK K
      (try simp only [Act.put, List.setIfInBounds_toArray, List.set_cons_zero, List.set_cons_succ])
      refine late_done (by kernel_rfl) ?_ _
      go_wp2_with fail
      go_ret2
      exact HE.out
end Go.Proofs.YtaafijifiiiblaaGreat
