/-
  Proved here: what leap answers. Proved here: what gcdShort and Gcd answer. Proved here: NatGcd of any three numbers returns true, and writes nothing that was there.
-/
import Derived.Test.YtmcnpiajnehnlaaDoorWindow
import Derived.Test.YtmcnpiajnehnlaaDoorFore
import Derived.Test.YtmcnpiajnehnlaaDoorBlendFn
import Derived.Test.YtmcnpiajnehnlaaDoorDivMod
import Derived.Test.YtmcnpiajnehnlaaDoorBits
import Derived.Test.YtmcnpiajnehnlaaDoorAlive0
import Derived.Test.YtmcnpiajnehnlaaDoorPowMath
import Derived.Test.YtmcnpiajnehnlaaDoorPushOwn
import Derived.Test.YtmcnpiajnehnlaaDoorFresh
import Derived.Test.YtmcnpiajnehnlaaDoorCmp
import Derived.Test.YtmcnpiajnehnlaaDoorUint
import Derived.Test.YtmcnpiajnehnlaaDoorSmall
import Derived.Test.YtmcnpiajnehnlaaDoorValAt
import Derived.Test.YtmcnpiajnehnlaaDoorAlive
import Derived.Test.YtmcnpiajnehnlaaDoorBase0
import Derived.Test.YtmcnpiajnehnlaaDoorLawSame
namespace Go.Proofs.YtmcnpiajnehnlaaDoor
open Go.RowKit

theorem keepB9 {w w' : World} {p : Addr} {v : Value} (hb : Below w.heap.size w w') (h : w.cell? p = some v) : w'.cell? p = some v := by
  rw [hb.cell (block_lt_of_cell h), h]
/-- What leap leaves. -/
def LeapEnd (C : Nat) (w : World) (a b : Nat) (e : Ending) (w' : World) : Prop :=
  ∃ vc vd c d, e = .returned (.tuple #[vc, vd]) ∧ Own C 32 w' vc (lim c) ∧ Own C 32 w' vd (lim d) ∧ d ≤ c ∧ c ≤ b ∧ Nat.gcd c d = Nat.gcd a b ∧ c + d < a + b ∧ Below w.heap.size w w'
theorem steps_new (w : World) (u0 v0 u1 v1 : Nat) (ev : Bool) : Steps (w.alloc (.cells #[.int .u64 (u0 : Int), .int .u64 (v0 : Int), .int .u64 (u1 : Int), .int .u64 (v1 : Int), .bool ev] 82)) w.heap.size u0 v0 u1 v1 ev := heap_alloc_new w _
theorem Steps.below {w w' : World} {g u0 v0 u1 v1 : Nat} {ev : Bool} (h : Steps w g u0 v0 u1 v1 ev) (hb : Below w.heap.size w w') : Steps w' g u0 v0 u1 v1 ev := by
  unfold Steps; rw [hb.block _ (Array.getElem?_eq_some_iff.1 h).1]; exact h
theorem sub_of {p q c : Nat} (h : p + c = q) : p ≤ q ∧ q - p = c := by omega
theorem blend2 {va vb : Value} {w : World} {a b u v c : Nat} (ha : Num w va (lim a)) (hb : Num w vb (lim b)) (hu : u < 4294967296) (hv : v < 4294967296) (la : (lim a).length ≤ 1099511627776) (lb : (lim b).length ≤ 1099511627776) (h : b * v + c = a * u) (hc : c < 4294967296 ^ (max (lim a).length (lim b).length)) :
    Calls Tryd.prog 74 #[va, .int .u64 (u : Int), vb, .int .u64 (v : Int)] w fun e w' => ∃ m, e = .returned m ∧ Own w.heap.size 32 w' m (lim c) ∧ Below w.heap.size w w' := by
  have hk := sub_of h
  have hm := blend_any va vb (lim a) (lim b) (u : Int) (v : Int) w ha hb (by omega) (by omega) (by omega) (by omega) la lb (by rw [val_lim, val_lim, Int.toNat_natCast, Int.toNat_natCast]; exact hk.1) (by rw [val_lim, val_lim, Int.toNat_natCast, Int.toNat_natCast, hk.2]; exact hc)
  rw [val_lim, val_lim, Int.toNat_natCast, Int.toNat_natCast, hk.2] at hm
  exact hm
theorem below_dr (w : World) : Below w.heap.size w w.drew := (Below.refl _ _).drew
theorem win_eq {a n : Nat} (h : a < 2 ^ (n + 64)) : a / 2 ^ n % 18446744073709551616 = a / 2 ^ n := by
  apply Nat.mod_eq_of_lt
  apply Nat.div_lt_of_lt_mul
  rw [Nat.pow_add] at h
  exact h

set_option maxRecDepth 100000 in
set_option maxHeartbeats 12800000 in
theorem leap_any (va vb : Value) (A Bn C : Nat) (w : World) (ha : Own C 32 w va (lim A)) (hb : Own C 32 w vb (lim Bn)) (hC : C ≤ w.heap.size) (hle : Bn ≤ A) (hbig : 2 ^ 64 ≤ Bn) (la : (lim A).length ≤ 30000000) :
    Calls Tryd.prog 39 #[va, vb] w fun e w' => LeapEnd C w A Bn e w' := by
  obtain ⟨ao, ac, rfl, hac, ham⟩ := ha.num.ao
  obtain ⟨bo, bc, rfl, hbc, hbm⟩ := hb.num.ao
  obtain ⟨al, hal⟩ : ∃ l, l = (lim A).length := ⟨_, rfl⟩
  obtain ⟨bl_, hbl⟩ : ∃ l, l = (lim Bn).length := ⟨_, rfl⟩
  rw [← hal] at ha la ⊢
  rw [← hbl] at hb ⊢
  have lb : bl_ ≤ 30000000 := by rw [hbl]; exact Nat.le_trans (lim_len_le (Nat.lt_of_le_of_lt hle (lim_lt_of_len (k := al) (by omega)))) la
  have hA64 : 64 < bl A := bl_gt_iff.2 (Nat.le_trans hbig hle)
  have hblA : bl A ≤ 32 * al := by rw [hal]; exact bl_lim_len
  obtain ⟨n, hn⟩ : ∃ n, bl A = n + 64 := ⟨bl A - 64, by omega⟩
  have hn1 : n ≤ 1000000000 := by omega
  have hA2 : A < 2 ^ (n + 64) := by rw [← hn]; exact bl_lt' A
  have hB2 : Bn < 2 ^ (n + 64) := Nat.lt_of_le_of_lt hle hA2
  obtain ⟨X, hX⟩ : ∃ X, X = A / 2 ^ n := ⟨_, rfl⟩
  obtain ⟨Y, hY⟩ : ∃ Y, Y = Bn / 2 ^ n := ⟨_, rfl⟩
  have HWX : Hid (A / 2 ^ n % 18446744073709551616 = X) := by show _ = _; rw [win_eq hA2, hX]
  have HWY : Hid (Bn / 2 ^ n % 18446744073709551616 = Y) := by show _ = _; rw [win_eq hB2, hY]
  have HX64 : Hid (X < 18446744073709551616) := by show _ < _; rw [← HWX.out]; exact Nat.mod_lt _ (by decide)
  have HYX : Hid (Y ≤ X) := by show _ ≤ _; rw [hX, hY]; exact Nat.div_le_div_right hle
  have HS : Hid (0 < 2 ^ n ∧ X * 2 ^ n ≤ A ∧ A < X * 2 ^ n + 2 ^ n ∧ Y * 2 ^ n ≤ Bn ∧ Bn < Y * 2 ^ n + 2 ^ n) := by
    rw [hX, hY]
    have hp := Nat.two_pow_pos n
    exact ⟨hp, Nat.div_mul_le_self _ _, Nat.lt_div_mul_add hp, Nat.div_mul_le_self _ _, Nat.lt_div_mul_add hp⟩
  have HB0 : Hid (0 < Bn) := Nat.lt_of_lt_of_le (Nat.two_pow_pos 64) hbig
  have HLE : Hid (Bn ≤ A) := hle
  have HNL : Hid (Bn < 4294967296 ^ bl_) := lim_lt_of_len (by rw [hbl]; exact Nat.le_refl _)
  have HBL : Hid (bl A = n + 64) := hn
  have en : ((n + 64 : Nat) : Int) - 64 = (n : Int) := by omega
  have HLA : Hid ((lim A).length = al) := hal.symm
  have HLB : Hid ((lim Bn).length = bl_) := hbl.symm
  have hbw : Below w.heap.size w w := Below.refl _ _
  clear hX hY hA2 hB2 hn hal hbl hbig hle hA64 hblA
  go_enter Tryd.func39, Tryd.ntmps39
  go_wp2_with fail
  refine (bits_any _ _ _ ha.num (by rw [HLA.out]; omega)).mono ?_
  rw [val_lim, HBL.out]
  rintro e w2 ⟨rfl, h2⟩
  rw [h2]
  clear h2
  go_wp2_with fail
  refine (window_any _ _ n _ ha.num hn1).mono ?_
  rw [val_lim, HWX.out]
  rintro e w3 ⟨rfl, k3, h3⟩
  have b := belowK h3
  replace ha := ha.below b
  replace hb := hb.below b
  replace hbw := bstep hbw b
  clear b h3
  go_wp2_with fail
  refine (window_any _ _ n _ hb.num hn1).mono ?_
  rw [val_lim, HWY.out]
  rintro e w4 ⟨rfl, k4, h4⟩
  have b := belowK h4
  replace ha := ha.below b
  replace hb := hb.below b
  replace hbw := bstep hbw b
  clear b h4
  go_wp2_with fail
  refine (foresee_any X Y _ HX64.out HYX.out).mono ?_
  rintro e w5 ⟨u0, v0, u1, v1, ev, rfl, hfo, b⟩
  replace ha := ha.below b
  replace hb := hb.below b
  replace hbw := bstep hbw b
  clear b
  obtain ⟨W6, hW6⟩ : ∃ W, W = w5.alloc (.cells #[.int .u64 (u0 : Int), .int .u64 (v0 : Int), .int .u64 (u1 : Int), .int .u64 (v1 : Int), .bool ev] 82) := ⟨_, rfl⟩
  have st : Steps W6 w5.heap.size u0 v0 u1 v1 ev := by rw [hW6]; exact steps_new _ _ _ _ _ _
  have b : Below w5.heap.size w5 W6 := by rw [hW6]; exact belowA _ _
  replace ha := ha.below b
  replace hb := hb.below b
  replace hbw := bstep hbw b
  clear b
  have cz : (w5.alloc (.cells #[.int .u64 (u0 : Int), .int .u64 (v0 : Int), .int .u64 (u1 : Int), .int .u64 (v1 : Int), .bool ev] 82)).cell? ⟨w5.heap.size, 1, none⟩ = some (.int .u64 (v0 : Int)) := by rw [← hW6]; exact st.cells.2.1
  have cy : (w5.alloc (.cells #[.int .u64 (u0 : Int), .int .u64 (v0 : Int), .int .u64 (u1 : Int), .int .u64 (v1 : Int), .bool ev] 82)).cell? ⟨w5.heap.size, 4, none⟩ = some (.bool ev) := by rw [← hW6]; exact st.cells.2.2.2.2
  have HW6 : Hid (W6 = w5.alloc (.cells #[.int .u64 (u0 : Int), .int .u64 (v0 : Int), .int .u64 (u1 : Int), .int .u64 (v1 : Int), .bool ev] 82)) := hW6
  clear hW6
  by_cases hv0 : v0 = 0
  · have hv00 : ((v0 : Int) == 0) = true := by simp [hv0]
    clear hfo hv0
    go_wp2_with fail
    rw [← HW6.out]
    clear HW6 cz cy
    refine (divMod_any _ _ _ _ _ ha.num hb.num (by rw [HLA.out]; omega)).mono ?_
    rw [val_lim, val_lim]
    rintro e w7 ⟨q, r, rfl, hq, hr, hqr, b⟩
    have hmz : modZ A Bn = A % Bn := by unfold modZ; rw [if_neg (by have := HB0.out; omega)]
    have hml : A % Bn < Bn := Nat.mod_lt _ HB0.out
    have hgc : Nat.gcd Bn (A % Bn) = Nat.gcd A Bn := by rw [Nat.gcd_comm, ← Nat.gcd_rec, Nat.gcd_comm]
    have hle := HLE.out
    rw [hmz] at hr
    have HE : Hid (LeapEnd C w A Bn (.returned (.tuple #[.slice bo bl_ bc, r])) w7) := ⟨_, r, Bn, A % Bn, rfl, hb.below b, hr.mono (Nat.le_trans hC hbw.size), by omega, Nat.le_refl _, hgc, by omega, bstep hbw b⟩
    obtain ⟨ro, rl, rc, rfl⟩ := hr.sl
    obtain ⟨qo, ql, qc, rfl⟩ := hq.sl
    generalize errZ Bn = er
    clear ha hb hq hr hqr b hbw st hmz hml hgc hle
    go_wp2_with fail
    go_ret2
    exact HE.out
  · obtain ⟨z, x, hD⟩ := hfo.resolve_left hv0
    have hv00 : ((v0 : Int) == 0) = false := by simpa using hv0
    obtain ⟨c, d, hcd, hdc, hcb, hgg, hlt⟩ := leap_made HS.out.1 HS.out.2.1 HS.out.2.2.1 HS.out.2.2.2.1 HS.out.2.2.2.2 HB0.out hv0 hD
    obtain ⟨hs_u0, hs_v0, hs_u1, hs_v1⟩ := hD.small
    clear hfo hD hv0
    cases ev
    · simp only [Bool.false_eq_true, if_false] at hcd
      go_wp2_with fail
      rw [← HW6.out]
      clear HW6 cz cy
      obtain ⟨g, hg⟩ : ∃ g, g = w5.heap.size := ⟨_, rfl⟩
      rw [← hg] at st ⊢
      clear hg
      obtain ⟨s0, s1, s2, s3, s4⟩ := st.cells
      refine region_late [(2, fun w' => w'.cell? ⟨g, 1, none⟩ = some (.int .u64 (v0 : Int))), (5, fun w' => w'.cell? ⟨g, 0, none⟩ = some (.int .u64 (u0 : Int))), (9, fun w' => w'.cell? ⟨g, 2, none⟩ = some (.int .u64 (u1 : Int))), (12, fun w' => w'.cell? ⟨g, 3, none⟩ = some (.int .u64 (v1 : Int)))] (by kernel_rfl) ?_
      have hHeld : AllL W6.drew [(2, fun w' => w'.cell? ⟨g, 1, none⟩ = some (.int .u64 (v0 : Int))), (5, fun w' => w'.cell? ⟨g, 0, none⟩ = some (.int .u64 (u0 : Int))), (9, fun w' => w'.cell? ⟨g, 2, none⟩ = some (.int .u64 (u1 : Int))), (12, fun w' => w'.cell? ⟨g, 3, none⟩ = some (.int .u64 (v1 : Int)))] := ⟨s1, s0, s2, s3, trivial⟩
      refine late_free 0 (v := .slice bo bl_ bc) rfl (by kernel_rfl) (by kernel_rfl) (by kernel_rfl) (by kernel_rfl) (by kernel_rfl) (by kernel_rfl) (fun _ _ _ h => h) (Or.inl ⟨by rfl, ?_⟩) hHeld ?_
      · (intro u _; go_simp)
      (try simp only [Act.put, List.setIfInBounds_toArray, List.set_cons_zero, List.set_cons_succ])
      refine late_free 1 (v := .pointer (some ⟨g, 1, none⟩)) rfl (by kernel_rfl) (by kernel_rfl) (by kernel_rfl) (by kernel_rfl) (by kernel_rfl) (by kernel_rfl) (fun _ _ _ h => h) (Or.inl ⟨by rfl, ?_⟩) hHeld ?_
      · (intro u _; go_simp)
      (try simp only [Act.put, List.setIfInBounds_toArray, List.set_cons_zero, List.set_cons_succ])
      refine late_take 2 (v := .int .u64 (v0 : Int)) rfl (by kernel_rfl) (List.Mem.head _) (by kernel_rfl) (by kernel_rfl) (by kernel_rfl) (by kernel_rfl) (fun _ _ _ h => h) (Or.inl ⟨by rfl, ?_⟩) hHeld ?_
      · (intro u hu; (try dsimp only at hu); go_split_ands; go_simp)
      (try simp only [Act.put, List.setIfInBounds_toArray, List.set_cons_zero, List.set_cons_succ])
      refine late_free 3 (v := .slice ao al ac) rfl (by kernel_rfl) (by kernel_rfl) (by kernel_rfl) (by kernel_rfl) (by kernel_rfl) (by kernel_rfl) (fun _ _ _ h => h) (Or.inl ⟨by rfl, ?_⟩) hHeld ?_
      · (intro u _; go_simp)
      (try simp only [Act.put, List.setIfInBounds_toArray, List.set_cons_zero, List.set_cons_succ])
      refine late_free 4 (v := .pointer (some ⟨g, 0, none⟩)) rfl (by kernel_rfl) (by kernel_rfl) (by kernel_rfl) (by kernel_rfl) (by kernel_rfl) (by kernel_rfl) (fun _ _ _ h => h) (Or.inl ⟨by rfl, ?_⟩) hHeld ?_
      · (intro u _; go_simp)
      (try simp only [Act.put, List.setIfInBounds_toArray, List.set_cons_zero, List.set_cons_succ])
      refine late_take 5 (v := .int .u64 (u0 : Int)) rfl (by kernel_rfl) (List.Mem.tail _ (List.Mem.head _)) (by kernel_rfl) (by kernel_rfl) (by kernel_rfl) (by kernel_rfl) (fun _ _ _ h => h) (Or.inl ⟨by rfl, ?_⟩) hHeld ?_
      · (intro u hu; (try dsimp only at hu); go_split_ands; go_simp)
      (try simp only [Act.put, List.setIfInBounds_toArray, List.set_cons_zero, List.set_cons_succ])
      refine late_free 7 (v := .slice ao al ac) rfl (by kernel_rfl) (by kernel_rfl) (by kernel_rfl) (by kernel_rfl) (by kernel_rfl) (by kernel_rfl) (fun _ _ _ h => h) (Or.inl ⟨by rfl, ?_⟩) hHeld ?_
      · (intro u _; go_simp)
      (try simp only [Act.put, List.setIfInBounds_toArray, List.set_cons_zero, List.set_cons_succ])
      refine late_free 8 (v := .pointer (some ⟨g, 2, none⟩)) rfl (by kernel_rfl) (by kernel_rfl) (by kernel_rfl) (by kernel_rfl) (by kernel_rfl) (by kernel_rfl) (fun _ _ _ h => h) (Or.inl ⟨by rfl, ?_⟩) hHeld ?_
      · (intro u _; go_simp)
      (try simp only [Act.put, List.setIfInBounds_toArray, List.set_cons_zero, List.set_cons_succ])
      refine late_take 9 (v := .int .u64 (u1 : Int)) rfl (by kernel_rfl) (List.Mem.tail _ (List.Mem.tail _ (List.Mem.head _))) (by kernel_rfl) (by kernel_rfl) (by kernel_rfl) (by kernel_rfl) (fun _ _ _ h => h) (Or.inl ⟨by rfl, ?_⟩) hHeld ?_
      · (intro u hu; (try dsimp only at hu); go_split_ands; go_simp)
      (try simp only [Act.put, List.setIfInBounds_toArray, List.set_cons_zero, List.set_cons_succ])
      refine late_free 10 (v := .slice bo bl_ bc) rfl (by kernel_rfl) (by kernel_rfl) (by kernel_rfl) (by kernel_rfl) (by kernel_rfl) (by kernel_rfl) (fun _ _ _ h => h) (Or.inl ⟨by rfl, ?_⟩) hHeld ?_
      · (intro u _; go_simp)
      (try simp only [Act.put, List.setIfInBounds_toArray, List.set_cons_zero, List.set_cons_succ])
      refine late_free 11 (v := .pointer (some ⟨g, 3, none⟩)) rfl (by kernel_rfl) (by kernel_rfl) (by kernel_rfl) (by kernel_rfl) (by kernel_rfl) (by kernel_rfl) (fun _ _ _ h => h) (Or.inl ⟨by rfl, ?_⟩) hHeld ?_
      · (intro u _; go_simp)
      (try simp only [Act.put, List.setIfInBounds_toArray, List.set_cons_zero, List.set_cons_succ])
      refine late_take 12 (v := .int .u64 (v1 : Int)) rfl (by kernel_rfl) (List.Mem.tail _ (List.Mem.tail _ (List.Mem.tail _ (List.Mem.head _)))) (by kernel_rfl) (by kernel_rfl) (by kernel_rfl) (by kernel_rfl) (fun _ _ _ h => h) (Or.inl ⟨by rfl, ?_⟩) hHeld ?_
      · (intro u hu; (try dsimp only at hu); go_split_ands; go_simp)
      (try simp only [Act.put, List.setIfInBounds_toArray, List.set_cons_zero, List.set_cons_succ])
      refine late_step 6 (by kernel_rfl) rfl (fun K hK => ?_)
      go_simp
      refine (blend2 (hb.below (below_dr _)).num (ha.below (below_dr _)).num hs_v0 hs_u0 (by rw [HLB.out]; omega) (by rw [HLA.out]; omega) hcd.1 (Nat.lt_of_lt_of_le (Nat.lt_of_le_of_lt hcb HNL.out) (Nat.pow_le_pow_right (Nat.succ_pos _) (by rw [HLA.out, HLB.out]; omega)))).mono ?_
      rintro e w7 ⟨vc, rfl, hvc, b7⟩
      obtain ⟨vco, vcl, vcc, rfl⟩ := hvc.sl
      go_wp2_with fail
      refine hK.out _ _ (AllL.kept ⟨keepB9 (bstep (below_dr _) b7) s1, keepB9 (bstep (below_dr _) b7) s0, keepB9 (bstep (below_dr _) b7) s2, keepB9 (bstep (below_dr _) b7) s3, trivial⟩) ?_
      clear hK K
      (try simp only [Act.put, List.setIfInBounds_toArray, List.set_cons_zero, List.set_cons_succ])
      refine late_step 13 (by kernel_rfl) rfl (fun K hK => ?_)
      go_simp
      refine (blend2 ((ha.below (below_dr _)).below b7).num ((hb.below (below_dr _)).below b7).num hs_u1 hs_v1 (by rw [HLA.out]; omega) (by rw [HLB.out]; omega) hcd.2 (Nat.lt_of_lt_of_le (Nat.lt_of_le_of_lt (Nat.le_trans hdc hcb) HNL.out) (Nat.pow_le_pow_right (Nat.succ_pos _) (by rw [HLA.out, HLB.out]; omega)))).mono ?_
      rintro e w8 ⟨vd, rfl, hvd, b8⟩
      obtain ⟨vdo, vdl, vdc, rfl⟩ := hvd.sl
      go_wp2_with fail
      refine hK.out _ _ (AllL.kept ⟨keepB9 (bstep (below_dr _) (bstep b7 b8)) s1, keepB9 (bstep (below_dr _) (bstep b7 b8)) s0, keepB9 (bstep (below_dr _) (bstep b7 b8)) s2, keepB9 (bstep (below_dr _) (bstep b7 b8)) s3, trivial⟩) ?_
      clear hK K
      (try simp only [Act.put, List.setIfInBounds_toArray, List.set_cons_zero, List.set_cons_succ])
      have HE : Hid (LeapEnd C w A Bn (.returned (.tuple #[.slice vco vcl vcc, .slice vdo vdl vdc])) w8) := ⟨_, _, c, d, rfl, (hvc.below b8).mono (Nat.le_trans hC hbw.size), hvd.mono (Nat.le_trans hC (Nat.le_trans hbw.size b7.size)), hdc, hcb, hgg, hlt, bstep hbw (bstep (below_dr _) (bstep b7 b8))⟩
      clear hHeld ha hb hvc hvd b7 b8 hbw st
      refine late_step 14 (by kernel_rfl) rfl (fun K hK => ?_)
      go_simp
      refine hK.out _ _ ⟨Or.inl ⟨6, by kernel_rfl, by kernel_rfl⟩, Or.inl ⟨6, by kernel_rfl, by kernel_rfl⟩, Or.inl ⟨13, by kernel_rfl, by kernel_rfl⟩, Or.inl ⟨13, by kernel_rfl, by kernel_rfl⟩, trivial⟩ ?_
      clear hK K
      (try simp only [Act.put, List.setIfInBounds_toArray, List.set_cons_zero, List.set_cons_succ])
      refine late_step 15 (by kernel_rfl) rfl (fun K hK => ?_)
      go_simp
      refine hK.out _ _ ⟨Or.inl ⟨6, by kernel_rfl, by kernel_rfl⟩, Or.inl ⟨6, by kernel_rfl, by kernel_rfl⟩, Or.inl ⟨13, by kernel_rfl, by kernel_rfl⟩, Or.inl ⟨13, by kernel_rfl, by kernel_rfl⟩, trivial⟩ ?_
      clear hK K
      (try simp only [Act.put, List.setIfInBounds_toArray, List.set_cons_zero, List.set_cons_succ])
      refine late_done (by kernel_rfl) ?_ _
      go_wp2_with fail
      go_ret2
      exact HE.out
    · simp only [if_true] at hcd
      go_wp2_with fail
      rw [← HW6.out]
      clear HW6 cz cy
      obtain ⟨g, hg⟩ : ∃ g, g = w5.heap.size := ⟨_, rfl⟩
      rw [← hg] at st ⊢
      clear hg
      obtain ⟨s0, s1, s2, s3, s4⟩ := st.cells
      refine region_late [(2, fun w' => w'.cell? ⟨g, 0, none⟩ = some (.int .u64 (u0 : Int))), (5, fun w' => w'.cell? ⟨g, 1, none⟩ = some (.int .u64 (v0 : Int))), (9, fun w' => w'.cell? ⟨g, 3, none⟩ = some (.int .u64 (v1 : Int))), (12, fun w' => w'.cell? ⟨g, 2, none⟩ = some (.int .u64 (u1 : Int)))] (by kernel_rfl) ?_
      have hHeld : AllL W6.drew [(2, fun w' => w'.cell? ⟨g, 0, none⟩ = some (.int .u64 (u0 : Int))), (5, fun w' => w'.cell? ⟨g, 1, none⟩ = some (.int .u64 (v0 : Int))), (9, fun w' => w'.cell? ⟨g, 3, none⟩ = some (.int .u64 (v1 : Int))), (12, fun w' => w'.cell? ⟨g, 2, none⟩ = some (.int .u64 (u1 : Int)))] := ⟨s0, s1, s3, s2, trivial⟩
      refine late_free 0 (v := .slice ao al ac) rfl (by kernel_rfl) (by kernel_rfl) (by kernel_rfl) (by kernel_rfl) (by kernel_rfl) (by kernel_rfl) (fun _ _ _ h => h) (Or.inl ⟨by rfl, ?_⟩) hHeld ?_
      · (intro u _; go_simp)
      (try simp only [Act.put, List.setIfInBounds_toArray, List.set_cons_zero, List.set_cons_succ])
      refine late_free 1 (v := .pointer (some ⟨g, 0, none⟩)) rfl (by kernel_rfl) (by kernel_rfl) (by kernel_rfl) (by kernel_rfl) (by kernel_rfl) (by kernel_rfl) (fun _ _ _ h => h) (Or.inl ⟨by rfl, ?_⟩) hHeld ?_
      · (intro u _; go_simp)
      (try simp only [Act.put, List.setIfInBounds_toArray, List.set_cons_zero, List.set_cons_succ])
      refine late_take 2 (v := .int .u64 (u0 : Int)) rfl (by kernel_rfl) (List.Mem.head _) (by kernel_rfl) (by kernel_rfl) (by kernel_rfl) (by kernel_rfl) (fun _ _ _ h => h) (Or.inl ⟨by rfl, ?_⟩) hHeld ?_
      · (intro u hu; (try dsimp only at hu); go_split_ands; go_simp)
      (try simp only [Act.put, List.setIfInBounds_toArray, List.set_cons_zero, List.set_cons_succ])
      refine late_free 3 (v := .slice bo bl_ bc) rfl (by kernel_rfl) (by kernel_rfl) (by kernel_rfl) (by kernel_rfl) (by kernel_rfl) (by kernel_rfl) (fun _ _ _ h => h) (Or.inl ⟨by rfl, ?_⟩) hHeld ?_
      · (intro u _; go_simp)
      (try simp only [Act.put, List.setIfInBounds_toArray, List.set_cons_zero, List.set_cons_succ])
      refine late_free 4 (v := .pointer (some ⟨g, 1, none⟩)) rfl (by kernel_rfl) (by kernel_rfl) (by kernel_rfl) (by kernel_rfl) (by kernel_rfl) (by kernel_rfl) (fun _ _ _ h => h) (Or.inl ⟨by rfl, ?_⟩) hHeld ?_
      · (intro u _; go_simp)
      (try simp only [Act.put, List.setIfInBounds_toArray, List.set_cons_zero, List.set_cons_succ])
      refine late_take 5 (v := .int .u64 (v0 : Int)) rfl (by kernel_rfl) (List.Mem.tail _ (List.Mem.head _)) (by kernel_rfl) (by kernel_rfl) (by kernel_rfl) (by kernel_rfl) (fun _ _ _ h => h) (Or.inl ⟨by rfl, ?_⟩) hHeld ?_
      · (intro u hu; (try dsimp only at hu); go_split_ands; go_simp)
      (try simp only [Act.put, List.setIfInBounds_toArray, List.set_cons_zero, List.set_cons_succ])
      refine late_free 7 (v := .slice bo bl_ bc) rfl (by kernel_rfl) (by kernel_rfl) (by kernel_rfl) (by kernel_rfl) (by kernel_rfl) (by kernel_rfl) (fun _ _ _ h => h) (Or.inl ⟨by rfl, ?_⟩) hHeld ?_
      · (intro u _; go_simp)
      (try simp only [Act.put, List.setIfInBounds_toArray, List.set_cons_zero, List.set_cons_succ])
      refine late_free 8 (v := .pointer (some ⟨g, 3, none⟩)) rfl (by kernel_rfl) (by kernel_rfl) (by kernel_rfl) (by kernel_rfl) (by kernel_rfl) (by kernel_rfl) (fun _ _ _ h => h) (Or.inl ⟨by rfl, ?_⟩) hHeld ?_
      · (intro u _; go_simp)
      (try simp only [Act.put, List.setIfInBounds_toArray, List.set_cons_zero, List.set_cons_succ])
      refine late_take 9 (v := .int .u64 (v1 : Int)) rfl (by kernel_rfl) (List.Mem.tail _ (List.Mem.tail _ (List.Mem.head _))) (by kernel_rfl) (by kernel_rfl) (by kernel_rfl) (by kernel_rfl) (fun _ _ _ h => h) (Or.inl ⟨by rfl, ?_⟩) hHeld ?_
      · (intro u hu; (try dsimp only at hu); go_split_ands; go_simp)
      (try simp only [Act.put, List.setIfInBounds_toArray, List.set_cons_zero, List.set_cons_succ])
      refine late_free 10 (v := .slice ao al ac) rfl (by kernel_rfl) (by kernel_rfl) (by kernel_rfl) (by kernel_rfl) (by kernel_rfl) (by kernel_rfl) (fun _ _ _ h => h) (Or.inl ⟨by rfl, ?_⟩) hHeld ?_
      · (intro u _; go_simp)
      (try simp only [Act.put, List.setIfInBounds_toArray, List.set_cons_zero, List.set_cons_succ])
      refine late_free 11 (v := .pointer (some ⟨g, 2, none⟩)) rfl (by kernel_rfl) (by kernel_rfl) (by kernel_rfl) (by kernel_rfl) (by kernel_rfl) (by kernel_rfl) (fun _ _ _ h => h) (Or.inl ⟨by rfl, ?_⟩) hHeld ?_
      · (intro u _; go_simp)
      (try simp only [Act.put, List.setIfInBounds_toArray, List.set_cons_zero, List.set_cons_succ])
      refine late_take 12 (v := .int .u64 (u1 : Int)) rfl (by kernel_rfl) (List.Mem.tail _ (List.Mem.tail _ (List.Mem.tail _ (List.Mem.head _)))) (by kernel_rfl) (by kernel_rfl) (by kernel_rfl) (by kernel_rfl) (fun _ _ _ h => h) (Or.inl ⟨by rfl, ?_⟩) hHeld ?_
      · (intro u hu; (try dsimp only at hu); go_split_ands; go_simp)
      (try simp only [Act.put, List.setIfInBounds_toArray, List.set_cons_zero, List.set_cons_succ])
      refine late_step 6 (by kernel_rfl) rfl (fun K hK => ?_)
      go_simp
      refine (blend2 (ha.below (below_dr _)).num (hb.below (below_dr _)).num hs_u0 hs_v0 (by rw [HLA.out]; omega) (by rw [HLB.out]; omega) hcd.1 (Nat.lt_of_lt_of_le (Nat.lt_of_le_of_lt hcb HNL.out) (Nat.pow_le_pow_right (Nat.succ_pos _) (by rw [HLA.out, HLB.out]; omega)))).mono ?_
      rintro e w7 ⟨vc, rfl, hvc, b7⟩
      obtain ⟨vco, vcl, vcc, rfl⟩ := hvc.sl
      go_wp2_with fail
      refine hK.out _ _ (AllL.kept ⟨keepB9 (bstep (below_dr _) b7) s0, keepB9 (bstep (below_dr _) b7) s1, keepB9 (bstep (below_dr _) b7) s3, keepB9 (bstep (below_dr _) b7) s2, trivial⟩) ?_
      clear hK K
      (try simp only [Act.put, List.setIfInBounds_toArray, List.set_cons_zero, List.set_cons_succ])
      refine late_step 13 (by kernel_rfl) rfl (fun K hK => ?_)
      go_simp
      refine (blend2 ((hb.below (below_dr _)).below b7).num ((ha.below (below_dr _)).below b7).num hs_v1 hs_u1 (by rw [HLB.out]; omega) (by rw [HLA.out]; omega) hcd.2 (Nat.lt_of_lt_of_le (Nat.lt_of_le_of_lt (Nat.le_trans hdc hcb) HNL.out) (Nat.pow_le_pow_right (Nat.succ_pos _) (by rw [HLA.out, HLB.out]; omega)))).mono ?_
      rintro e w8 ⟨vd, rfl, hvd, b8⟩
      obtain ⟨vdo, vdl, vdc, rfl⟩ := hvd.sl
      go_wp2_with fail
      refine hK.out _ _ (AllL.kept ⟨keepB9 (bstep (below_dr _) (bstep b7 b8)) s0, keepB9 (bstep (below_dr _) (bstep b7 b8)) s1, keepB9 (bstep (below_dr _) (bstep b7 b8)) s3, keepB9 (bstep (below_dr _) (bstep b7 b8)) s2, trivial⟩) ?_
      clear hK K
      (try simp only [Act.put, List.setIfInBounds_toArray, List.set_cons_zero, List.set_cons_succ])
      have HE : Hid (LeapEnd C w A Bn (.returned (.tuple #[.slice vco vcl vcc, .slice vdo vdl vdc])) w8) := ⟨_, _, c, d, rfl, (hvc.below b8).mono (Nat.le_trans hC hbw.size), hvd.mono (Nat.le_trans hC (Nat.le_trans hbw.size b7.size)), hdc, hcb, hgg, hlt, bstep hbw (bstep (below_dr _) (bstep b7 b8))⟩
      clear hHeld ha hb hvc hvd b7 b8 hbw st
      refine late_step 14 (by kernel_rfl) rfl (fun K hK => ?_)
      go_simp
      refine hK.out _ _ ⟨Or.inl ⟨6, by kernel_rfl, by kernel_rfl⟩, Or.inl ⟨6, by kernel_rfl, by kernel_rfl⟩, Or.inl ⟨13, by kernel_rfl, by kernel_rfl⟩, Or.inl ⟨13, by kernel_rfl, by kernel_rfl⟩, trivial⟩ ?_
      clear hK K
      (try simp only [Act.put, List.setIfInBounds_toArray, List.set_cons_zero, List.set_cons_succ])
      refine late_step 15 (by kernel_rfl) rfl (fun K hK => ?_)
      go_simp
      refine hK.out _ _ ⟨Or.inl ⟨6, by kernel_rfl, by kernel_rfl⟩, Or.inl ⟨6, by kernel_rfl, by kernel_rfl⟩, Or.inl ⟨13, by kernel_rfl, by kernel_rfl⟩, Or.inl ⟨13, by kernel_rfl, by kernel_rfl⟩, trivial⟩ ?_
      clear hK K
      (try simp only [Act.put, List.setIfInBounds_toArray, List.set_cons_zero, List.set_cons_succ])
      refine late_done (by kernel_rfl) ?_ _
      go_wp2_with fail
      go_ret2
      exact HE.out
end Go.Proofs.YtmcnpiajnehnlaaDoor

namespace Go.Proofs.YtmcnpiajnehnlaaDoor
open Go.RowKit

theorem gcd_go {x y : Nat} : Nat.gcd y (x % y) = Nat.gcd x y := by rw [Nat.gcd_comm, ← Nat.gcd_rec, Nat.gcd_comm]

set_option maxRecDepth 100000 in
set_option maxHeartbeats 3200000 in
theorem gcdShort_any (x y : Nat) (w : World) (hx : x < 18446744073709551616) (hy : y < 18446744073709551616) :
    Calls Tryd.prog 42 #[.int .u64 (x : Int), .int .u64 (y : Int)] w fun e w' => e = .returned (.int .u64 ((Nat.gcd x y : Nat) : Int)) ∧ Below w.heap.size w w' := by
  obtain ⟨G, hG⟩ : ∃ G, G = Nat.gcd x y := ⟨_, rfl⟩
  have HG : Hid (Nat.gcd x y = G) := hG.symm
  rw [← hG]
  clear hG
  go_enter Tryd.func42, Tryd.ntmps42
  go_wp2
  go_loopw [0, 1] (fun av bv wr => ∃ a b : Nat, av = .int .u64 (a : Int) ∧ bv = .int .u64 (b : Int) ∧ a < 18446744073709551616 ∧ b < 18446744073709551616 ∧ Nat.gcd a b = G ∧ Below w.heap.size w wr) (fun _ bv _ => (intOf bv).toNat)
  case atStart => exact ⟨x, y, rfl, rfl, hx, hy, HG.out, Below.refl _ _⟩
  case round =>
    obtain ⟨a, b, rfl, rfl, ha, hb, hg, hbw⟩ := hrel
    have HBW : Hid (Below w.heap.size w _) := hbw
    clear hbw
    have Hg : Hid (Nat.gcd a b = G) := hg
    clear hg HG hx hy
    by_cases hb0 : b = 0
    · have hbq : ((b : Int) != 0) = false := by simp [hb0]
      have HE : Hid (a = G) := by show _ = _; rw [← Hg.out, hb0, Nat.gcd_zero_right]
      clear hb0
      go_wp2
      go_ret
      exact ⟨by rw [HE.out]; rfl, HBW.out⟩
    · have hbq : ((b : Int) != 0) = true := by simp [hb0]
      have hbz : ((b : Int) == 0) = false := by simp [hb0]
      obtain ⟨r, hr⟩ : ∃ r, r = a % b := ⟨_, rfl⟩
      have er : (a : Int).tmod (b : Int) = (r : Int) := by rw [hr]; exact (Int.tmod_eq_emod_of_nonneg (by omega)).trans (Int.natCast_emod a b).symm
      have hrb : r < b := by rw [hr]; exact Nat.mod_lt _ (by omega)
      have HR : Hid (Nat.gcd b r = G) := by show _ = _; rw [hr, gcd_go]; exact Hg.out
      clear hr
      go_wp2
      refine region_late [] (by kernel_rfl) ?_
      refine late_free 0 (v := .int .u64 (b : Int)) rfl (by kernel_rfl) (by kernel_rfl) (by kernel_rfl) (by kernel_rfl) (by kernel_rfl) (by kernel_rfl) (fun _ _ _ h => h) (Or.inl ⟨by rfl, ?_⟩) (show AllL _ [] from trivial) ?_
      · (intro u _; go_simp)
      (try simp only [Act.put, List.setIfInBounds_toArray, List.set_cons_zero, List.set_cons_succ])
      refine late_free 1 (v := .int .u64 (a : Int)) rfl (by kernel_rfl) (by kernel_rfl) (by kernel_rfl) (by kernel_rfl) (by kernel_rfl) (by kernel_rfl) (fun _ _ _ h => h) (Or.inl ⟨by rfl, ?_⟩) (show AllL _ [] from trivial) ?_
      · (intro u _; go_simp)
      (try simp only [Act.put, List.setIfInBounds_toArray, List.set_cons_zero, List.set_cons_succ])
      refine late_free 2 (v := .int .u64 (b : Int)) rfl (by kernel_rfl) (by kernel_rfl) (by kernel_rfl) (by kernel_rfl) (by kernel_rfl) (by kernel_rfl) (fun _ _ _ h => h) (Or.inl ⟨by rfl, ?_⟩) (show AllL _ [] from trivial) ?_
      · (intro u _; go_simp)
      (try simp only [Act.put, List.setIfInBounds_toArray, List.set_cons_zero, List.set_cons_succ])
      refine late_free 3 (v := .int .u64 (r : Int)) rfl (by kernel_rfl) (by kernel_rfl) (by kernel_rfl) (by kernel_rfl) (by kernel_rfl) (by kernel_rfl) (fun _ _ _ h => h) (Or.inl ⟨by rfl, ?_⟩) (show AllL _ [] from trivial) ?_
      · (intro u _; go_simp)
      (try simp only [Act.put, List.setIfInBounds_toArray, List.set_cons_zero, List.set_cons_succ])
      refine late_step 4 (by kernel_rfl) rfl (fun K hK => ?_)
      go_simp
      refine hK.out _ _ trivial ?_
      clear hK K
      (try simp only [Act.put, List.setIfInBounds_toArray, List.set_cons_zero, List.set_cons_succ])
      refine late_step 5 (by kernel_rfl) rfl (fun K hK => ?_)
      go_simp
      refine hK.out _ _ trivial ?_
      clear hK K
      (try simp only [Act.put, List.setIfInBounds_toArray, List.set_cons_zero, List.set_cons_succ])
      refine late_done (by kernel_rfl) ?_ _
      go_wp2
      go_roundw
      case rel => exact ⟨b, r, rfl, rfl, hb, by omega, HR.out, bstep HBW.out (below_dr _)⟩
      case measure => simp [intOf]; omega

set_option maxRecDepth 100000 in
set_option maxHeartbeats 6400000 in
theorem gcd_any (va vb : Value) (xs ys : List Nat) (w : World) (ha : Num w va xs) (hb : Num w vb ys) (lx : xs.length ≤ 30000000) (ly : ys.length ≤ 30000000) :
    Calls Tryd.prog 9 #[va, vb] w fun e w' => Made' w.heap.size w (lim (Nat.gcd (val xs) (val ys))) e w' := by
  obtain ⟨A, hA⟩ : ∃ A, A = val xs := ⟨_, rfl⟩
  obtain ⟨Bn, hB⟩ : ∃ B, B = val ys := ⟨_, rfl⟩
  have hlA : (lim A).length ≤ 30000000 := by rw [hA]; exact Nat.le_trans (lim_len_le (val_lt ha.1)) lx
  have hlB : (lim Bn).length ≤ 30000000 := by rw [hB]; exact Nat.le_trans (lim_len_le (val_lt hb.1)) ly
  obtain ⟨G, hG⟩ : ∃ G, G = Nat.gcd A Bn := ⟨_, rfl⟩
  rw [← hA, ← hB, ← hG]
  have HG : Hid (Nat.gcd A Bn = G) := hG.symm
  have HA : Hid (val xs = A) := hA.symm
  have HB : Hid (val ys = Bn) := hB.symm
  clear hG hA hB
  go_enter Tryd.func9, Tryd.ntmps9
  go_wp2_with fail
  refine (norm_any _ _ _ ha (by omega)).mono ?_
  rw [HA.out]
  rintro e w2 ⟨a1, rfl, ha1, b2⟩
  replace hb := hb.below (Nat.le_refl _) b2
  obtain ⟨ao, al, ac, rfl⟩ := ha1.sl
  go_wp2_with fail
  refine (norm_any _ _ _ hb (by omega)).mono ?_
  rw [HB.out]
  rintro e w3 ⟨b1, rfl, hb1, b3⟩
  obtain ⟨bo, bl_, bc, rfl⟩ := hb1.sl
  replace ha1 := ha1.below b3
  replace hb1 := hb1.mono (B' := w.heap.size) b2.size
  have hbw := bstep b2 b3
  clear ha hb b2 b3 HA HB lx ly
  go_wp2_with fail
  refine (cmp_any _ _ _ _ _ ha1.num hb1.num).mono ?_
  rw [val_lim, val_lim]
  rintro e w4 ⟨rfl, k4, h4⟩
  have b := belowK h4
  replace ha1 := ha1.below b
  replace hb1 := hb1.below b
  replace hbw := bstep hbw b
  clear b h4
  have HI : Hid (∃ (p q : Value) (c d : Nat), (if A < Bn then p = .slice bo bl_ bc ∧ q = .slice ao al ac else p = .slice ao al ac ∧ q = .slice bo bl_ bc) ∧ Own w.heap.size 32 w4 p (lim c) ∧ Own w.heap.size 32 w4 q (lim d) ∧ d ≤ c ∧ Nat.gcd c d = G ∧ (lim c).length ≤ 30000000 ∧ Below w.heap.size w w4) := by
    by_cases h : A < Bn
    · exact ⟨_, _, Bn, A, by rw [if_pos h]; exact ⟨rfl, rfl⟩, hb1, ha1, by omega, by rw [Nat.gcd_comm]; exact HG.out, hlB, hbw⟩
    · exact ⟨_, _, A, Bn, by rw [if_neg h]; exact ⟨rfl, rfl⟩, ha1, hb1, by omega, HG.out, hlA, hbw⟩
  clear ha1 hb1 hbw hlA hlB HG
  by_cases hc : A < Bn
  · have hcm : cmpN A Bn = -1 := cmpN_lt hc
    rw [hcm]
    simp only [hc, if_true] at HI
    clear hcm hc
    go_wp2_with fail
    go_loopw [0, 1] (fun av bv wr => ∃ (c d : Nat), Own w.heap.size 32 wr av (lim c) ∧ Own w.heap.size 32 wr bv (lim d) ∧ d ≤ c ∧ Nat.gcd c d = G ∧ (lim c).length ≤ 30000000 ∧ Below w.heap.size w wr) (fun av bv wr => valAt wr av + valAt wr bv)
    case atStart =>
      obtain ⟨_, _, c, d, ⟨rfl, rfl⟩, h1, h2, h3⟩ := HI.out
      exact ⟨c, d, h1, h2, h3⟩
    case round =>
      clear HI
      obtain ⟨c, d, hcO, hdO, hdc, hgg, hlc, hbw⟩ := hrel
      obtain ⟨co, cc, rfl, hcc, hcm⟩ := hcO.num.ao
      obtain ⟨do_, dc, rfl, hdd, hdm⟩ := hdO.num.ao
      have HM : Hid (valAt wr (.slice co (lim c).length cc) + valAt wr (.slice do_ (lim d).length dc) = c + d) := by show _ = _; rw [valAt_eq hcO.num, valAt_eq hdO.num, val_lim, val_lim]
      have Hg : Hid (Nat.gcd c d = G) := hgg
      have hld : (lim d).length ≤ 30000000 := Nat.le_trans (lim_len_le (Nat.lt_of_le_of_lt hdc (lim_lt_of_len (Nat.le_refl _)))) hlc
      clear hgg
      obtain ⟨cl, hcl⟩ : ∃ l, l = (lim c).length := ⟨_, rfl⟩
      obtain ⟨dl, hdl⟩ : ∃ l, l = (lim d).length := ⟨_, rfl⟩
      have HCL : Hid (cl = (lim c).length) := hcl
      have HDL : Hid (dl = (lim d).length) := hdl
      rw [← hcl] at hcO hcc hlc HM ⊢
      rw [← hdl] at hdO hdd hld HM ⊢
      clear hcl hdl
      by_cases hbig : 2 < dl
      · have HBIG : Hid (2 ^ 64 ≤ d) := by
          show _ ≤ _
          rcases Nat.lt_or_ge d (2 ^ 64) with h | h
          · have := lim_len_le (k := 2) (n := d) (by exact h)
            rw [← HDL.out] at this
            omega
          · exact h
        have hbi : (2 : Int) < (dl : Int) := by omega
        clear hbig
        go_wp2_with fail
        refine (leap_any _ _ c d w.heap.size _ hcO hdO hbw.size hdc HBIG.out (by rw [← HCL.out]; exact hlc)).mono ?_
        rintro e w6 ⟨vc, vd, c2, d2, rfl, o1, o2, o3, o4, o5, o6, b⟩
        have HNEW : Hid (∃ (c d : Nat), Own w.heap.size 32 w6 vc (lim c) ∧ Own w.heap.size 32 w6 vd (lim d) ∧ d ≤ c ∧ Nat.gcd c d = G ∧ (lim c).length ≤ 30000000 ∧ Below w.heap.size w w6) :=
          ⟨c2, d2, o1, o2, o3, by rw [o5]; exact Hg.out, Nat.le_trans (lim_len_le (Nat.lt_of_le_of_lt (Nat.le_trans o4 hdc) (lim_lt_of_len (Nat.le_refl _)))) (by rw [← HCL.out]; exact hlc), bstep hbw b⟩
        have HLT : Hid (valAt w6 vc + valAt w6 vd < c + d) := by show _ < _; rw [valAt_eq o1.num, valAt_eq o2.num, val_lim, val_lim]; exact o6
        obtain ⟨vco, vcl, vcc, rfl⟩ := o1.sl
        obtain ⟨vdo, vdl, vdc, rfl⟩ := o2.sl
        clear o1 o2 o3 o4 o5 o6 b hbw hcO hdO hdc
        go_wp2_with fail
        go_roundw
        case rel => exact HNEW.out
        case measure => rw [HM.out]; exact HLT.out
      · have hbi : ¬ (2 : Int) < (dl : Int) := by omega
        by_cases hd0 : dl = 0
        · have HD0 : Hid (d = 0) := lim_len_zero (by rw [← HDL.out]; exact hd0)
          have hdz : ((dl : Int) == 0) = true := by simp [hd0]
          have HE : Hid (Made' w.heap.size w (lim G) (.returned (.slice co cl cc)) _) := ⟨_, rfl, by rw [← Hg.out, HD0.out, Nat.gcd_zero_right]; exact hcO, hbw⟩
          clear hd0 hbig hcO hdO hbw hdc
          go_wp2_with fail
          go_ret
          exact HE.out
        · have hdz : ((dl : Int) == 0) = false := by simp [hd0]
          have HD1 : Hid (d < 18446744073709551616 ∧ 0 < d) := by
            refine ⟨lim_lt_of_len (k := 2) (by rw [← HDL.out]; omega), ?_⟩
            rcases Nat.eq_zero_or_pos d with h | h
            · exfalso; apply hd0; rw [HDL.out, h]; rfl
            · exact h
          clear hd0 hbig
          go_wp2_with fail
          refine (divMod_any _ _ _ _ _ hcO.num hdO.num (by rw [← HCL.out]; omega)).mono ?_
          rw [val_lim, val_lim]
          rintro e w6 ⟨q, r, rfl, hq, hr, _, b⟩
          have hmz : modZ c d = c % d := by unfold modZ; rw [if_neg (by have := HD1.out; omega)]
          rw [hmz] at hr
          have hrl : c % d < d := Nat.mod_lt _ HD1.out.2
          replace hdO := hdO.below b
          replace hbw := bstep hbw b
          obtain ⟨qo, ql, qc, rfl⟩ := hq.sl
          obtain ⟨ro, rl, rc, rfl⟩ := hr.sl
          generalize errZ d = er
          clear b hmz hq
          go_wp2_with fail
          refine (uint_yes _ _ _ hdO.num (by rw [val_lim]; exact HD1.out.1)).mono ?_
          rw [val_lim]
          rintro e w7 ⟨rfl, h7⟩
          rw [h7]
          clear h7
          go_wp2_with fail
          refine (uint_yes _ _ _ hr.num (by rw [val_lim]; have := HD1.out.1; omega)).mono ?_
          rw [val_lim]
          rintro e w8 ⟨rfl, h8⟩
          rw [h8]
          clear h8
          obtain ⟨m, hm⟩ : ∃ m, m = c % d := ⟨_, rfl⟩
          have HGM : Hid (Nat.gcd d m = G) := by show _ = _; rw [hm, gcd_go]; exact Hg.out
          have hm64 : m < 18446744073709551616 := by rw [hm]; have := HD1.out.1; omega
          have hd64 : d < 18446744073709551616 := HD1.out.1
          rw [← hm]
          clear hm hrl hr hdO hcO
          go_wp2_with fail
          refine (gcdShort_any d m _ hd64 hm64).mono ?_
          rw [HGM.out]
          rintro e w9 ⟨rfl, b9⟩
          replace hbw := bstep hbw b9
          have hG64 : G < 18446744073709551616 := by
            rw [← HGM.out]
            exact Nat.lt_of_le_of_lt (Nat.gcd_le_left m HD1.out.2) hd64
          clear b9
          go_wp2_with fail
          refine (of_any G _ hG64).mono ?_
          rintro e w10 ⟨v, rfl, hv, b10⟩
          have HE : Hid (Made' w.heap.size w (lim G) (.returned v) w10) := ⟨_, rfl, hv.mono hbw.size, bstep hbw b10⟩
          obtain ⟨vo, vl, vc, rfl⟩ := hv.sl
          clear hv b10 hbw
          go_wp2_with fail
          go_ret
          exact HE.out
  · have hcm : 0 ≤ cmpN A Bn := by
      rcases cmpN_cases A Bn with ⟨h, e⟩ | ⟨h, e⟩ | ⟨h, e⟩ <;> rw [e] <;> omega
    have hcm2 : ¬ cmpN A Bn < 0 := by omega
    simp only [hc, if_false] at HI
    generalize cmpN A Bn = cm at *
    clear hc
    go_wp2_with fail
    go_loopw [0, 1] (fun av bv wr => ∃ (c d : Nat), Own w.heap.size 32 wr av (lim c) ∧ Own w.heap.size 32 wr bv (lim d) ∧ d ≤ c ∧ Nat.gcd c d = G ∧ (lim c).length ≤ 30000000 ∧ Below w.heap.size w wr) (fun av bv wr => valAt wr av + valAt wr bv)
    case atStart =>
      obtain ⟨_, _, c, d, ⟨rfl, rfl⟩, h1, h2, h3⟩ := HI.out
      exact ⟨c, d, h1, h2, h3⟩
    case round =>
      clear HI
      obtain ⟨c, d, hcO, hdO, hdc, hgg, hlc, hbw⟩ := hrel
      obtain ⟨co, cc, rfl, hcc, hcm⟩ := hcO.num.ao
      obtain ⟨do_, dc, rfl, hdd, hdm⟩ := hdO.num.ao
      have HM : Hid (valAt wr (.slice co (lim c).length cc) + valAt wr (.slice do_ (lim d).length dc) = c + d) := by show _ = _; rw [valAt_eq hcO.num, valAt_eq hdO.num, val_lim, val_lim]
      have Hg : Hid (Nat.gcd c d = G) := hgg
      have hld : (lim d).length ≤ 30000000 := Nat.le_trans (lim_len_le (Nat.lt_of_le_of_lt hdc (lim_lt_of_len (Nat.le_refl _)))) hlc
      clear hgg
      obtain ⟨cl, hcl⟩ : ∃ l, l = (lim c).length := ⟨_, rfl⟩
      obtain ⟨dl, hdl⟩ : ∃ l, l = (lim d).length := ⟨_, rfl⟩
      have HCL : Hid (cl = (lim c).length) := hcl
      have HDL : Hid (dl = (lim d).length) := hdl
      rw [← hcl] at hcO hcc hlc HM ⊢
      rw [← hdl] at hdO hdd hld HM ⊢
      clear hcl hdl
      by_cases hbig : 2 < dl
      · have HBIG : Hid (2 ^ 64 ≤ d) := by
          show _ ≤ _
          rcases Nat.lt_or_ge d (2 ^ 64) with h | h
          · have := lim_len_le (k := 2) (n := d) (by exact h)
            rw [← HDL.out] at this
            omega
          · exact h
        have hbi : (2 : Int) < (dl : Int) := by omega
        clear hbig
        go_wp2_with fail
        refine (leap_any _ _ c d w.heap.size _ hcO hdO hbw.size hdc HBIG.out (by rw [← HCL.out]; exact hlc)).mono ?_
        rintro e w6 ⟨vc, vd, c2, d2, rfl, o1, o2, o3, o4, o5, o6, b⟩
        have HNEW : Hid (∃ (c d : Nat), Own w.heap.size 32 w6 vc (lim c) ∧ Own w.heap.size 32 w6 vd (lim d) ∧ d ≤ c ∧ Nat.gcd c d = G ∧ (lim c).length ≤ 30000000 ∧ Below w.heap.size w w6) :=
          ⟨c2, d2, o1, o2, o3, by rw [o5]; exact Hg.out, Nat.le_trans (lim_len_le (Nat.lt_of_le_of_lt (Nat.le_trans o4 hdc) (lim_lt_of_len (Nat.le_refl _)))) (by rw [← HCL.out]; exact hlc), bstep hbw b⟩
        have HLT : Hid (valAt w6 vc + valAt w6 vd < c + d) := by show _ < _; rw [valAt_eq o1.num, valAt_eq o2.num, val_lim, val_lim]; exact o6
        obtain ⟨vco, vcl, vcc, rfl⟩ := o1.sl
        obtain ⟨vdo, vdl, vdc, rfl⟩ := o2.sl
        clear o1 o2 o3 o4 o5 o6 b hbw hcO hdO hdc
        go_wp2_with fail
        go_roundw
        case rel => exact HNEW.out
        case measure => rw [HM.out]; exact HLT.out
      · have hbi : ¬ (2 : Int) < (dl : Int) := by omega
        by_cases hd0 : dl = 0
        · have HD0 : Hid (d = 0) := lim_len_zero (by rw [← HDL.out]; exact hd0)
          have hdz : ((dl : Int) == 0) = true := by simp [hd0]
          have HE : Hid (Made' w.heap.size w (lim G) (.returned (.slice co cl cc)) _) := ⟨_, rfl, by rw [← Hg.out, HD0.out, Nat.gcd_zero_right]; exact hcO, hbw⟩
          clear hd0 hbig hcO hdO hbw hdc
          go_wp2_with fail
          go_ret
          exact HE.out
        · have hdz : ((dl : Int) == 0) = false := by simp [hd0]
          have HD1 : Hid (d < 18446744073709551616 ∧ 0 < d) := by
            refine ⟨lim_lt_of_len (k := 2) (by rw [← HDL.out]; omega), ?_⟩
            rcases Nat.eq_zero_or_pos d with h | h
            · exfalso; apply hd0; rw [HDL.out, h]; rfl
            · exact h
          clear hd0 hbig
          go_wp2_with fail
          refine (divMod_any _ _ _ _ _ hcO.num hdO.num (by rw [← HCL.out]; omega)).mono ?_
          rw [val_lim, val_lim]
          rintro e w6 ⟨q, r, rfl, hq, hr, _, b⟩
          have hmz : modZ c d = c % d := by unfold modZ; rw [if_neg (by have := HD1.out; omega)]
          rw [hmz] at hr
          have hrl : c % d < d := Nat.mod_lt _ HD1.out.2
          replace hdO := hdO.below b
          replace hbw := bstep hbw b
          obtain ⟨qo, ql, qc, rfl⟩ := hq.sl
          obtain ⟨ro, rl, rc, rfl⟩ := hr.sl
          generalize errZ d = er
          clear b hmz hq
          go_wp2_with fail
          refine (uint_yes _ _ _ hdO.num (by rw [val_lim]; exact HD1.out.1)).mono ?_
          rw [val_lim]
          rintro e w7 ⟨rfl, h7⟩
          rw [h7]
          clear h7
          go_wp2_with fail
          refine (uint_yes _ _ _ hr.num (by rw [val_lim]; have := HD1.out.1; omega)).mono ?_
          rw [val_lim]
          rintro e w8 ⟨rfl, h8⟩
          rw [h8]
          clear h8
          obtain ⟨m, hm⟩ : ∃ m, m = c % d := ⟨_, rfl⟩
          have HGM : Hid (Nat.gcd d m = G) := by show _ = _; rw [hm, gcd_go]; exact Hg.out
          have hm64 : m < 18446744073709551616 := by rw [hm]; have := HD1.out.1; omega
          have hd64 : d < 18446744073709551616 := HD1.out.1
          rw [← hm]
          clear hm hrl hr hdO hcO
          go_wp2_with fail
          refine (gcdShort_any d m _ hd64 hm64).mono ?_
          rw [HGM.out]
          rintro e w9 ⟨rfl, b9⟩
          replace hbw := bstep hbw b9
          have hG64 : G < 18446744073709551616 := by
            rw [← HGM.out]
            exact Nat.lt_of_le_of_lt (Nat.gcd_le_left m HD1.out.2) hd64
          clear b9
          go_wp2_with fail
          refine (of_any G _ hG64).mono ?_
          rintro e w10 ⟨v, rfl, hv, b10⟩
          have HE : Hid (Made' w.heap.size w (lim G) (.returned v) w10) := ⟨_, rfl, hv.mono hbw.size, bstep hbw b10⟩
          obtain ⟨vo, vl, vc, rfl⟩ := hv.sl
          clear hv b10 hbw
          go_wp2_with fail
          go_ret
          exact HE.out
end Go.Proofs.YtmcnpiajnehnlaaDoor

namespace Go.Proofs.YtmcnpiajnehnlaaDoor
open Go.RowKit

theorem lim_le_len {a b L : Nat} (h : a ≤ b) (hb : (lim b).length ≤ L) : (lim a).length ≤ L := lim_len_le (Nat.lt_of_le_of_lt h (lim_lt_of_len hb))
theorem len_ne {n : Nat} (h : n ≠ 0) : (((lim n).length : Int) == 0) = false := by
  have h1 : (lim n).length ≠ 0 := fun h0 => h (lim_len_zero h0)
  have h2 : ¬ ((lim n).length : Int) = 0 := by omega
  simpa using h2
theorem gcd_short {A B G L : Nat} (hG : Nat.gcd A B = G) (ha : (lim A).length ≤ L) (hb : (lim B).length ≤ L) : (lim G).length ≤ L := by
  rcases Nat.eq_zero_or_pos A with h0 | h0
  · rw [h0, Nat.gcd_zero_left] at hG
    rw [← hG]; exact hb
  · exact lim_le_len (Nat.le_of_dvd h0 (by rw [← hG]; exact Nat.gcd_dvd_left _ _)) ha

set_option maxRecDepth 100000 in
set_option maxHeartbeats 12800000 in
theorem natGcd_top (vx : Value) (xs : List Nat) (vy : Value) (ys : List Nat) (vz : Value) (zs : List Nat) (w1 : World) (hx : Num w1 vx xs) (hy : Num w1 vy ys) (hz : Num w1 vz zs) :
    Calls Tryd.prog 3 #[vx, vy, vz] w1 fun e w' => e = .returned (.bool true) ∧ Below w1.heap.size w1 w' := by
  have b1 : Below w1.heap.size w1 w1 := Below.refl _ _
  go_enter Tryd.func3, Tryd.ntmps3
  go_wp2_with fail
  refine (alive_yes _).mono ?_
  rintro e w2 ⟨rfl, hb⟩
  replace hx := hx.below (Nat.le_refl _) hb
  replace hy := hy.below (Nat.le_refl _) hb
  replace hz := hz.below (Nat.le_refl _) hb
  replace b1 := bstep b1 hb
  clear hb
  go_wp2_with fail
  refine (cut_any _ _ 30 _ hx (by decide)).mono ?_
  rintro e w3 ⟨rfl, rfl⟩
  have nhx := hx.cut (k := min 30 xs.length) (Nat.min_le_right _ _)
  have lhx : (xs.take (min 30 xs.length)).length ≤ 30 := by simp; omega
  generalize xs.take (min 30 xs.length) = xs_ at *
  generalize cutTo vx (min 30 xs.length) = vx_ at *
  clear hx
  have shhx := lim_short nhx
  go_wp2_with fail
  refine (norm_any _ _ _ nhx (by omega)).mono ?_
  rintro e w4 ⟨a, rfl, na, hb⟩
  replace na := na.num
  obtain ⟨A, hA⟩ : ∃ A, A = val xs_ := ⟨_, rfl⟩
  rw [← hA] at na shhx
  replace hy := hy.below (Nat.le_refl _) hb
  replace hz := hz.below (Nat.le_refl _) hb
  replace b1 := bstep b1 hb
  clear hb nhx
  replace shhx : (lim A).length ≤ 30 := by omega
  clear hA lhx
  go_wp2_with fail
  refine (cut_any _ _ 30 _ hy (by decide)).mono ?_
  rintro e w5 ⟨rfl, rfl⟩
  have nhy := hy.cut (k := min 30 ys.length) (Nat.min_le_right _ _)
  have lhy : (ys.take (min 30 ys.length)).length ≤ 30 := by simp; omega
  generalize ys.take (min 30 ys.length) = ys_ at *
  generalize cutTo vy (min 30 ys.length) = vy_ at *
  clear hy
  have shhy := lim_short nhy
  go_wp2_with fail
  refine (norm_any _ _ _ nhy (by omega)).mono ?_
  rintro e w6 ⟨b, rfl, nb, hb⟩
  replace nb := nb.num
  obtain ⟨B, hB⟩ : ∃ A, A = val ys_ := ⟨_, rfl⟩
  rw [← hB] at nb shhy
  replace hz := hz.below (Nat.le_refl _) hb
  replace na := na.below (Nat.le_refl _) hb
  replace b1 := bstep b1 hb
  clear hb nhy
  replace shhy : (lim B).length ≤ 30 := by omega
  clear hB lhy
  go_wp2_with fail
  refine (cut_any _ _ 10 _ hz (by decide)).mono ?_
  rintro e w7 ⟨rfl, rfl⟩
  have nhz := hz.cut (k := min 10 zs.length) (Nat.min_le_right _ _)
  have lhz : (zs.take (min 10 zs.length)).length ≤ 10 := by simp; omega
  generalize zs.take (min 10 zs.length) = zs_ at *
  generalize cutTo vz (min 10 zs.length) = vz_ at *
  clear hz
  have shhz := lim_short nhz
  go_wp2_with fail
  refine (norm_any _ _ _ nhz (by omega)).mono ?_
  rintro e w8 ⟨c, rfl, nc, hb⟩
  replace nc := nc.num
  obtain ⟨C, hC⟩ : ∃ A, A = val zs_ := ⟨_, rfl⟩
  rw [← hC] at nc shhz
  replace na := na.below (Nat.le_refl _) hb
  replace nb := nb.below (Nat.le_refl _) hb
  replace b1 := bstep b1 hb
  clear hb nhz
  replace shhz : (lim C).length ≤ 10 := by omega
  clear hC lhz
  obtain ⟨G, hG⟩ : ∃ G, G = Nat.gcd A B := ⟨_, rfl⟩
  have HG : Hid (Nat.gcd A B = G) := hG.symm
  clear hG
  have hgc := gcd_any _ _ _ _ _ na nb (by omega) (by omega)
  rw [val_lim, val_lim, HG.out] at hgc
  go_wp2_with fail
  refine (hgc).mono ?_
  rintro e w9 ⟨g, rfl, ng, hb⟩
  clear hgc
  replace ng := ng.num
  replace na := na.below (Nat.le_refl _) hb
  replace nb := nb.below (Nat.le_refl _) hb
  replace nc := nc.below (Nat.le_refl _) hb
  replace b1 := bstep b1 hb
  clear hb
  obtain ⟨ao, ac, rfl, _, _⟩ := na.ao
  obtain ⟨bo, bc, rfl, _, _⟩ := nb.ao
  obtain ⟨go, gc, rfl, _, _⟩ := ng.ao
  by_cases hA0 : A = 0
  · by_cases hB0 : B = 0
    · have ha0 : ((lim A).length : Int) = 0 := by rw [hA0]; rfl
      have hb0 : ((lim B).length : Int) = 0 := by rw [hB0]; rfl
      have hg0 : ((lim G).length : Int) = 0 := by rw [← HG.out, hA0, hB0]; rfl
      have HE : Hid (Below w1.heap.size w1 w9) := b1
      clear b1 na nb nc ng hA0 hB0
      go_wp2_with fail
      go_ret
      exact ⟨rfl, HE.out⟩
    · have HP : Hid (0 < Nat.gcd A B) := Nat.gcd_pos_of_pos_right _ (Nat.pos_of_ne_zero hB0)
      have ha0 : ((lim A).length : Int) = 0 := by rw [hA0]; rfl
      have hb0 := len_ne hB0
      clear hB0 hA0
      have HGp : Hid (0 < G) := by show _ < _; rw [← HG.out]; exact HP.out
      have HGA : Hid (G ∣ A) := by show _ ∣ _; rw [← HG.out]; exact Nat.gcd_dvd_left _ _
      have HGB : Hid (G ∣ B) := by show _ ∣ _; rw [← HG.out]; exact Nat.gcd_dvd_right _ _
      have mA : modZ A G = 0 := by unfold modZ; rw [if_neg (by have := HGp.out; omega)]; exact Nat.mod_eq_zero_of_dvd HGA.out
      have mB : modZ B G = 0 := by unfold modZ; rw [if_neg (by have := HGp.out; omega)]; exact Nat.mod_eq_zero_of_dvd HGB.out
      have eG : errZ G = 0 := by unfold errZ; rw [if_neg (by have := HGp.out; omega)]
      have HMA : Hid (modZ A G = 0) := mA
      have HMB : Hid (modZ B G = 0) := mB
      have HEG : Hid (errZ G = 0) := eG
      clear mA mB eG
      have shG : (lim G).length ≤ 60 := gcd_short HG.out (by omega) (by omega)
      have hdm := divMod_any _ _ _ _ _ na ng (by omega)
      rw [val_lim, val_lim] at hdm
      go_wp2_with fail
      refine (hdm).mono ?_
      rintro e w10 ⟨p, r, rfl, np, nr, _, hb⟩
      clear hdm
      rw [HEG.out]
      rw [HMA.out] at nr
      replace np := np.num
      replace nr := nr.num
      obtain ⟨ro, rc, rfl, _, _⟩ := nr.ao
      have shp : (lim (A / G)).length ≤ 60 := lim_le_len (Nat.div_le_self _ _) (by omega)
      replace na := na.below (Nat.le_refl _) hb
      replace nb := nb.below (Nat.le_refl _) hb
      replace nc := nc.below (Nat.le_refl _) hb
      replace ng := ng.below (Nat.le_refl _) hb
      replace b1 := bstep b1 hb
      clear hb
      have hdm := divMod_any _ _ _ _ _ nb ng (by omega)
      rw [val_lim, val_lim] at hdm
      go_wp2_with fail
      refine (hdm).mono ?_
      rintro e w11 ⟨q, s, rfl, nq, ns, _, hb⟩
      clear hdm
      rw [HEG.out]
      rw [HMB.out] at ns
      replace nq := nq.num
      replace ns := ns.num
      obtain ⟨so, sc, rfl, _, _⟩ := ns.ao
      have shq : (lim (B / G)).length ≤ 60 := lim_le_len (Nat.div_le_self _ _) (by omega)
      replace na := na.below (Nat.le_refl _) hb
      replace nb := nb.below (Nat.le_refl _) hb
      replace nc := nc.below (Nat.le_refl _) hb
      replace ng := ng.below (Nat.le_refl _) hb
      replace np := np.below (Nat.le_refl _) hb
      replace nr := nr.below (Nat.le_refl _) hb
      replace b1 := bstep b1 hb
      clear hb
      simp only [lim_zero, List.length_nil]
      have HCO : Hid (Nat.gcd (A / G) (B / G) = 1) := by show _ = _; rw [Nat.gcd_div HGA.out HGB.out, HG.out]; exact Nat.div_self HGp.out
      have hgc := gcd_any _ _ _ _ _ np nq (by omega) (by omega)
      rw [val_lim, val_lim, HCO.out, lim_one (by decide) (by decide)] at hgc
      go_wp2_with fail
      refine (hgc).mono ?_
      rintro e w12 ⟨k, rfl, nk, hb⟩
      clear hgc
      replace nk := nk.num
      replace na := na.below (Nat.le_refl _) hb
      replace nb := nb.below (Nat.le_refl _) hb
      replace nc := nc.below (Nat.le_refl _) hb
      replace ng := ng.below (Nat.le_refl _) hb
      replace b1 := bstep b1 hb
      clear hb np nq nr ns
      have nl := lit1 w12 1 (by decide)
      have nk2 := nk.below (Nat.le_refl _) (belowA w12 (.cells #[.int .u32 1] 32))
      go_wp2_with fail
      refine (lsame_any _ _ _ _ _ nk2 nl).mono ?_
      rintro e w13 ⟨rfl, kk, hk⟩
      rw [show decide (([1] : List Nat) = [1]) = true from rfl]
      have hb := belowK hk
      replace hb := bstep (belowA w12 (.cells #[.int .u32 1] 32)) hb
      replace na := na.below (Nat.le_refl _) hb
      replace nb := nb.below (Nat.le_refl _) hb
      replace nc := nc.below (Nat.le_refl _) hb
      replace ng := ng.below (Nat.le_refl _) hb
      replace b1 := bstep b1 hb
      clear hb hk nk
      clear nk2 nl
      go_wp2_with fail
      refine (mul_any _ _ _ _ _ nc na (by omega) (by omega)).mono ?_
      rintro e w14 ⟨m1, rfl, nm1, hb⟩
      replace nm1 := nm1.num
      rw [val_lim, val_lim] at nm1
      have sh1 := prod_len shhz shhx
      replace na := na.below (Nat.le_refl _) hb
      replace nb := nb.below (Nat.le_refl _) hb
      replace nc := nc.below (Nat.le_refl _) hb
      replace ng := ng.below (Nat.le_refl _) hb
      replace b1 := bstep b1 hb
      clear hb
      go_wp2_with fail
      refine (mul_any _ _ _ _ _ nc nb (by omega) (by omega)).mono ?_
      rintro e w15 ⟨m2, rfl, nm2, hb⟩
      replace nm2 := nm2.num
      rw [val_lim, val_lim] at nm2
      have sh2 := prod_len shhz shhy
      replace na := na.below (Nat.le_refl _) hb
      replace nb := nb.below (Nat.le_refl _) hb
      replace nc := nc.below (Nat.le_refl _) hb
      replace ng := ng.below (Nat.le_refl _) hb
      replace nm1 := nm1.below (Nat.le_refl _) hb
      replace b1 := bstep b1 hb
      clear hb
      have HCG : Hid (Nat.gcd (C * A) (C * B) = C * G) := by show _ = _; rw [Nat.gcd_mul_left, HG.out]
      have hgc := gcd_any _ _ _ _ _ nm1 nm2 (by omega) (by omega)
      rw [val_lim, val_lim, HCG.out] at hgc
      go_wp2_with fail
      refine (hgc).mono ?_
      rintro e w16 ⟨k1, rfl, nk1, hb⟩
      clear hgc
      replace nk1 := nk1.num
      replace na := na.below (Nat.le_refl _) hb
      replace nb := nb.below (Nat.le_refl _) hb
      replace nc := nc.below (Nat.le_refl _) hb
      replace ng := ng.below (Nat.le_refl _) hb
      replace b1 := bstep b1 hb
      clear hb nm1 nm2
      go_wp2_with fail
      refine (mul_any _ _ _ _ _ nc ng (by omega) (by omega)).mono ?_
      rintro e w17 ⟨m3, rfl, nm3, hb⟩
      replace nm3 := nm3.num
      rw [val_lim, val_lim] at nm3
      have sh3 := prod_len shhz shG
      replace na := na.below (Nat.le_refl _) hb
      replace nb := nb.below (Nat.le_refl _) hb
      replace nc := nc.below (Nat.le_refl _) hb
      replace ng := ng.below (Nat.le_refl _) hb
      replace nk1 := nk1.below (Nat.le_refl _) hb
      replace b1 := bstep b1 hb
      clear hb
      go_wp2_with fail
      refine (lsame_any _ _ _ _ _ nk1 nm3).mono ?_
      rintro e w18 ⟨rfl, kk, hk⟩
      rw [show decide (lim (C * G) = lim (C * G)) = true from decide_eq_true rfl]
      have hb := belowK hk
      replace na := na.below (Nat.le_refl _) hb
      replace nb := nb.below (Nat.le_refl _) hb
      replace nc := nc.below (Nat.le_refl _) hb
      replace ng := ng.below (Nat.le_refl _) hb
      replace b1 := bstep b1 hb
      clear hb hk nk1 nm3
      go_wp2_with fail
      refine (add_any _ _ _ _ _ na nb (by omega) (by omega)).mono ?_
      rintro e w19 ⟨m4, rfl, nm4, hb⟩
      replace nm4 := nm4.num
      rw [val_lim, val_lim] at nm4
      have sh4 := lim_add_len shhx shhy
      replace na := na.below (Nat.le_refl _) hb
      replace nb := nb.below (Nat.le_refl _) hb
      replace nc := nc.below (Nat.le_refl _) hb
      replace ng := ng.below (Nat.le_refl _) hb
      replace b1 := bstep b1 hb
      clear hb
      have HAB : Hid (Nat.gcd A (A + B) = G) := by show _ = _; rw [Nat.gcd_self_add_right, HG.out]
      have hgc := gcd_any _ _ _ _ _ na nm4 (by omega) (by omega)
      rw [val_lim, val_lim, HAB.out] at hgc
      go_wp2_with fail
      refine (hgc).mono ?_
      rintro e w20 ⟨k2, rfl, nk2, hb⟩
      clear hgc
      replace nk2 := nk2.num
      replace na := na.below (Nat.le_refl _) hb
      replace nb := nb.below (Nat.le_refl _) hb
      replace nc := nc.below (Nat.le_refl _) hb
      replace ng := ng.below (Nat.le_refl _) hb
      replace b1 := bstep b1 hb
      clear hb nm4
      go_wp2_with fail
      refine (lsame_any _ _ _ _ _ nk2 ng).mono ?_
      rintro e w21 ⟨rfl, kk, hk⟩
      rw [show decide (lim G = lim G) = true from decide_eq_true rfl]
      have hb := belowK hk
      replace na := na.below (Nat.le_refl _) hb
      replace nb := nb.below (Nat.le_refl _) hb
      replace nc := nc.below (Nat.le_refl _) hb
      replace ng := ng.below (Nat.le_refl _) hb
      replace b1 := bstep b1 hb
      clear hb hk nk2
      have HBA : Hid (Nat.gcd B A = G) := by show _ = _; rw [Nat.gcd_comm, HG.out]
      have hgc := gcd_any _ _ _ _ _ nb na (by omega) (by omega)
      rw [val_lim, val_lim, HBA.out] at hgc
      go_wp2_with fail
      refine (hgc).mono ?_
      rintro e w22 ⟨k3, rfl, nk3, hb⟩
      clear hgc
      replace nk3 := nk3.num
      replace na := na.below (Nat.le_refl _) hb
      replace nb := nb.below (Nat.le_refl _) hb
      replace nc := nc.below (Nat.le_refl _) hb
      replace ng := ng.below (Nat.le_refl _) hb
      replace b1 := bstep b1 hb
      clear hb
      go_wp2_with fail
      refine (lsame_any _ _ _ _ _ nk3 ng).mono ?_
      rintro e w23 ⟨rfl, kk, hk⟩
      rw [show decide (lim G = lim G) = true from decide_eq_true rfl]
      have hb := belowK hk
      replace na := na.below (Nat.le_refl _) hb
      replace nb := nb.below (Nat.le_refl _) hb
      replace nc := nc.below (Nat.le_refl _) hb
      replace ng := ng.below (Nat.le_refl _) hb
      replace b1 := bstep b1 hb
      clear hb hk nk3
      have HE : Hid (Below w1.heap.size w1 w23) := b1
      clear b1 na nb nc ng
      go_wp2_with fail
      go_ret
      exact ⟨rfl, HE.out⟩
  · have HP : Hid (0 < Nat.gcd A B) := Nat.gcd_pos_of_pos_left _ (Nat.pos_of_ne_zero hA0)
    have ha0 := len_ne hA0
    clear hA0
    have HGp : Hid (0 < G) := by show _ < _; rw [← HG.out]; exact HP.out
    have HGA : Hid (G ∣ A) := by show _ ∣ _; rw [← HG.out]; exact Nat.gcd_dvd_left _ _
    have HGB : Hid (G ∣ B) := by show _ ∣ _; rw [← HG.out]; exact Nat.gcd_dvd_right _ _
    have mA : modZ A G = 0 := by unfold modZ; rw [if_neg (by have := HGp.out; omega)]; exact Nat.mod_eq_zero_of_dvd HGA.out
    have mB : modZ B G = 0 := by unfold modZ; rw [if_neg (by have := HGp.out; omega)]; exact Nat.mod_eq_zero_of_dvd HGB.out
    have eG : errZ G = 0 := by unfold errZ; rw [if_neg (by have := HGp.out; omega)]
    have HMA : Hid (modZ A G = 0) := mA
    have HMB : Hid (modZ B G = 0) := mB
    have HEG : Hid (errZ G = 0) := eG
    clear mA mB eG
    have shG : (lim G).length ≤ 60 := gcd_short HG.out (by omega) (by omega)
    have hdm := divMod_any _ _ _ _ _ na ng (by omega)
    rw [val_lim, val_lim] at hdm
    go_wp2_with fail
    refine (hdm).mono ?_
    rintro e w10 ⟨p, r, rfl, np, nr, _, hb⟩
    clear hdm
    rw [HEG.out]
    rw [HMA.out] at nr
    replace np := np.num
    replace nr := nr.num
    obtain ⟨ro, rc, rfl, _, _⟩ := nr.ao
    have shp : (lim (A / G)).length ≤ 60 := lim_le_len (Nat.div_le_self _ _) (by omega)
    replace na := na.below (Nat.le_refl _) hb
    replace nb := nb.below (Nat.le_refl _) hb
    replace nc := nc.below (Nat.le_refl _) hb
    replace ng := ng.below (Nat.le_refl _) hb
    replace b1 := bstep b1 hb
    clear hb
    have hdm := divMod_any _ _ _ _ _ nb ng (by omega)
    rw [val_lim, val_lim] at hdm
    go_wp2_with fail
    refine (hdm).mono ?_
    rintro e w11 ⟨q, s, rfl, nq, ns, _, hb⟩
    clear hdm
    rw [HEG.out]
    rw [HMB.out] at ns
    replace nq := nq.num
    replace ns := ns.num
    obtain ⟨so, sc, rfl, _, _⟩ := ns.ao
    have shq : (lim (B / G)).length ≤ 60 := lim_le_len (Nat.div_le_self _ _) (by omega)
    replace na := na.below (Nat.le_refl _) hb
    replace nb := nb.below (Nat.le_refl _) hb
    replace nc := nc.below (Nat.le_refl _) hb
    replace ng := ng.below (Nat.le_refl _) hb
    replace np := np.below (Nat.le_refl _) hb
    replace nr := nr.below (Nat.le_refl _) hb
    replace b1 := bstep b1 hb
    clear hb
    simp only [lim_zero, List.length_nil]
    have HCO : Hid (Nat.gcd (A / G) (B / G) = 1) := by show _ = _; rw [Nat.gcd_div HGA.out HGB.out, HG.out]; exact Nat.div_self HGp.out
    have hgc := gcd_any _ _ _ _ _ np nq (by omega) (by omega)
    rw [val_lim, val_lim, HCO.out, lim_one (by decide) (by decide)] at hgc
    go_wp2_with fail
    refine (hgc).mono ?_
    rintro e w12 ⟨k, rfl, nk, hb⟩
    clear hgc
    replace nk := nk.num
    replace na := na.below (Nat.le_refl _) hb
    replace nb := nb.below (Nat.le_refl _) hb
    replace nc := nc.below (Nat.le_refl _) hb
    replace ng := ng.below (Nat.le_refl _) hb
    replace b1 := bstep b1 hb
    clear hb np nq nr ns
    have nl := lit1 w12 1 (by decide)
    have nk2 := nk.below (Nat.le_refl _) (belowA w12 (.cells #[.int .u32 1] 32))
    go_wp2_with fail
    refine (lsame_any _ _ _ _ _ nk2 nl).mono ?_
    rintro e w13 ⟨rfl, kk, hk⟩
    rw [show decide (([1] : List Nat) = [1]) = true from rfl]
    have hb := belowK hk
    replace hb := bstep (belowA w12 (.cells #[.int .u32 1] 32)) hb
    replace na := na.below (Nat.le_refl _) hb
    replace nb := nb.below (Nat.le_refl _) hb
    replace nc := nc.below (Nat.le_refl _) hb
    replace ng := ng.below (Nat.le_refl _) hb
    replace b1 := bstep b1 hb
    clear hb hk nk
    clear nk2 nl
    go_wp2_with fail
    refine (mul_any _ _ _ _ _ nc na (by omega) (by omega)).mono ?_
    rintro e w14 ⟨m1, rfl, nm1, hb⟩
    replace nm1 := nm1.num
    rw [val_lim, val_lim] at nm1
    have sh1 := prod_len shhz shhx
    replace na := na.below (Nat.le_refl _) hb
    replace nb := nb.below (Nat.le_refl _) hb
    replace nc := nc.below (Nat.le_refl _) hb
    replace ng := ng.below (Nat.le_refl _) hb
    replace b1 := bstep b1 hb
    clear hb
    go_wp2_with fail
    refine (mul_any _ _ _ _ _ nc nb (by omega) (by omega)).mono ?_
    rintro e w15 ⟨m2, rfl, nm2, hb⟩
    replace nm2 := nm2.num
    rw [val_lim, val_lim] at nm2
    have sh2 := prod_len shhz shhy
    replace na := na.below (Nat.le_refl _) hb
    replace nb := nb.below (Nat.le_refl _) hb
    replace nc := nc.below (Nat.le_refl _) hb
    replace ng := ng.below (Nat.le_refl _) hb
    replace nm1 := nm1.below (Nat.le_refl _) hb
    replace b1 := bstep b1 hb
    clear hb
    have HCG : Hid (Nat.gcd (C * A) (C * B) = C * G) := by show _ = _; rw [Nat.gcd_mul_left, HG.out]
    have hgc := gcd_any _ _ _ _ _ nm1 nm2 (by omega) (by omega)
    rw [val_lim, val_lim, HCG.out] at hgc
    go_wp2_with fail
    refine (hgc).mono ?_
    rintro e w16 ⟨k1, rfl, nk1, hb⟩
    clear hgc
    replace nk1 := nk1.num
    replace na := na.below (Nat.le_refl _) hb
    replace nb := nb.below (Nat.le_refl _) hb
    replace nc := nc.below (Nat.le_refl _) hb
    replace ng := ng.below (Nat.le_refl _) hb
    replace b1 := bstep b1 hb
    clear hb nm1 nm2
    go_wp2_with fail
    refine (mul_any _ _ _ _ _ nc ng (by omega) (by omega)).mono ?_
    rintro e w17 ⟨m3, rfl, nm3, hb⟩
    replace nm3 := nm3.num
    rw [val_lim, val_lim] at nm3
    have sh3 := prod_len shhz shG
    replace na := na.below (Nat.le_refl _) hb
    replace nb := nb.below (Nat.le_refl _) hb
    replace nc := nc.below (Nat.le_refl _) hb
    replace ng := ng.below (Nat.le_refl _) hb
    replace nk1 := nk1.below (Nat.le_refl _) hb
    replace b1 := bstep b1 hb
    clear hb
    go_wp2_with fail
    refine (lsame_any _ _ _ _ _ nk1 nm3).mono ?_
    rintro e w18 ⟨rfl, kk, hk⟩
    rw [show decide (lim (C * G) = lim (C * G)) = true from decide_eq_true rfl]
    have hb := belowK hk
    replace na := na.below (Nat.le_refl _) hb
    replace nb := nb.below (Nat.le_refl _) hb
    replace nc := nc.below (Nat.le_refl _) hb
    replace ng := ng.below (Nat.le_refl _) hb
    replace b1 := bstep b1 hb
    clear hb hk nk1 nm3
    go_wp2_with fail
    refine (add_any _ _ _ _ _ na nb (by omega) (by omega)).mono ?_
    rintro e w19 ⟨m4, rfl, nm4, hb⟩
    replace nm4 := nm4.num
    rw [val_lim, val_lim] at nm4
    have sh4 := lim_add_len shhx shhy
    replace na := na.below (Nat.le_refl _) hb
    replace nb := nb.below (Nat.le_refl _) hb
    replace nc := nc.below (Nat.le_refl _) hb
    replace ng := ng.below (Nat.le_refl _) hb
    replace b1 := bstep b1 hb
    clear hb
    have HAB : Hid (Nat.gcd A (A + B) = G) := by show _ = _; rw [Nat.gcd_self_add_right, HG.out]
    have hgc := gcd_any _ _ _ _ _ na nm4 (by omega) (by omega)
    rw [val_lim, val_lim, HAB.out] at hgc
    go_wp2_with fail
    refine (hgc).mono ?_
    rintro e w20 ⟨k2, rfl, nk2, hb⟩
    clear hgc
    replace nk2 := nk2.num
    replace na := na.below (Nat.le_refl _) hb
    replace nb := nb.below (Nat.le_refl _) hb
    replace nc := nc.below (Nat.le_refl _) hb
    replace ng := ng.below (Nat.le_refl _) hb
    replace b1 := bstep b1 hb
    clear hb nm4
    go_wp2_with fail
    refine (lsame_any _ _ _ _ _ nk2 ng).mono ?_
    rintro e w21 ⟨rfl, kk, hk⟩
    rw [show decide (lim G = lim G) = true from decide_eq_true rfl]
    have hb := belowK hk
    replace na := na.below (Nat.le_refl _) hb
    replace nb := nb.below (Nat.le_refl _) hb
    replace nc := nc.below (Nat.le_refl _) hb
    replace ng := ng.below (Nat.le_refl _) hb
    replace b1 := bstep b1 hb
    clear hb hk nk2
    have HBA : Hid (Nat.gcd B A = G) := by show _ = _; rw [Nat.gcd_comm, HG.out]
    have hgc := gcd_any _ _ _ _ _ nb na (by omega) (by omega)
    rw [val_lim, val_lim, HBA.out] at hgc
    go_wp2_with fail
    refine (hgc).mono ?_
    rintro e w22 ⟨k3, rfl, nk3, hb⟩
    clear hgc
    replace nk3 := nk3.num
    replace na := na.below (Nat.le_refl _) hb
    replace nb := nb.below (Nat.le_refl _) hb
    replace nc := nc.below (Nat.le_refl _) hb
    replace ng := ng.below (Nat.le_refl _) hb
    replace b1 := bstep b1 hb
    clear hb
    go_wp2_with fail
    refine (lsame_any _ _ _ _ _ nk3 ng).mono ?_
    rintro e w23 ⟨rfl, kk, hk⟩
    rw [show decide (lim G = lim G) = true from decide_eq_true rfl]
    have hb := belowK hk
    replace na := na.below (Nat.le_refl _) hb
    replace nb := nb.below (Nat.le_refl _) hb
    replace nc := nc.below (Nat.le_refl _) hb
    replace ng := ng.below (Nat.le_refl _) hb
    replace b1 := bstep b1 hb
    clear hb hk nk3
    have HE : Hid (Below w1.heap.size w1 w23) := b1
    clear b1 na nb nc ng
    go_wp2_with fail
    go_ret
    exact ⟨rfl, HE.out⟩
end Go.Proofs.YtmcnpiajnehnlaaDoor
