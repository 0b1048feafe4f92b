/-
  Proved here: what gcdShort and Gcd answer.
-/
import Derived.Test.YtaafijifiiiblaaGreatLeap
import Derived.Test.YtaafijifiiiblaaGreatSubAll
import Derived.Test.YtaafijifiiiblaaGreatCmpAll
import Derived.Test.YtaafijifiiiblaaGreatWholeBAll
import Derived.Test.YtaafijifiiiblaaGreatSmallAll
import Derived.Test.YtaafijifiiiblaaGreatValAtAll
namespace Go.Proofs.YtaafijifiiiblaaGreat
open Go.RowKit

theorem gcd_go {x y : Nat} : Nat.gcd y (x % y) = Nat.gcd x y := by rw [Nat.gcd_comm, ← Nat.gcd_rec, Nat.gcd_comm]

set_option maxRecDepth 100000 in
set_option maxHeartbeats 3200000 in
theorem gcdShort_any (x y : Nat) (w : World) (hx : x < 18446744073709551616) (hy : y < 18446744073709551616) :
    Calls Tryz.prog 136 #[.int .u64 (x : Int), .int .u64 (y : Int)] w fun e w' => e = .returned (.int .u64 ((Nat.gcd x y : Nat) : Int)) ∧ Below w.heap.size w w' := by
  obtain ⟨G, hG⟩ : ∃ G, G = Nat.gcd x y := ⟨_, rfl⟩
  have HG : Hid (Nat.gcd x y = G) := hG.symm
  rw [← hG]
  clear hG
  go_enter Tryz.func136, Tryz.ntmps136
  go_wp2
  go_loopw [0, 1] (fun av bv wr => ∃ a b : Nat, av = .int .u64 (a : Int) ∧ bv = .int .u64 (b : Int) ∧ a < 18446744073709551616 ∧ b < 18446744073709551616 ∧ Nat.gcd a b = G ∧ Below w.heap.size w wr) (fun _ bv _ => (intOf bv).toNat)
  case atStart => exact ⟨x, y, rfl, rfl, hx, hy, HG.out, Below.refl _ _⟩
  case round =>
    obtain ⟨a, b, rfl, rfl, ha, hb, hg, hbw⟩ := hrel
    have HBW : Hid (Below w.heap.size w _) := hbw
    clear hbw
    have Hg : Hid (Nat.gcd a b = G) := hg
    clear hg HG hx hy
    by_cases hb0 : b = 0
    · have hbq : ((b : Int) != 0) = false := by simp [hb0]
      have HE : Hid (a = G) := by show _ = _; rw [← Hg.out, hb0, Nat.gcd_zero_right]
      clear hb0
      go_wp2
      go_ret
      exact ⟨by rw [HE.out]; rfl, HBW.out⟩
    · have hbq : ((b : Int) != 0) = true := by simp [hb0]
      have hbz : ((b : Int) == 0) = false := by simp [hb0]
      obtain ⟨r, hr⟩ : ∃ r, r = a % b := ⟨_, rfl⟩
      have er : (a : Int).tmod (b : Int) = (r : Int) := by rw [hr]; exact (Int.tmod_eq_emod_of_nonneg (by omega)).trans (Int.natCast_emod a b).symm
      have hrb : r < b := by rw [hr]; exact Nat.mod_lt _ (by omega)
      have HR : Hid (Nat.gcd b r = G) := by show _ = _; rw [hr, gcd_go]; exact Hg.out
      clear hr
      go_wp2
      refine region_late [] (by kernel_rfl) ?_
      refine late_free 0 (v := .int .u64 (b : Int)) rfl (by kernel_rfl) (by kernel_rfl) (by kernel_rfl) (by kernel_rfl) (by kernel_rfl) (by kernel_rfl) (fun _ _ _ h => h) (Or.inl ⟨by rfl, ?_⟩) (show AllL _ [] from trivial) ?_
      · (intro u _; go_simp)
      (try simp only [Act.put, List.setIfInBounds_toArray, List.set_cons_zero, List.set_cons_succ])
      refine late_free 1 (v := .int .u64 (a : Int)) rfl (by kernel_rfl) (by kernel_rfl) (by kernel_rfl) (by kernel_rfl) (by kernel_rfl) (by kernel_rfl) (fun _ _ _ h => h) (Or.inl ⟨by rfl, ?_⟩) (show AllL _ [] from trivial) ?_
      · (intro u _; go_simp)
      (try simp only [Act.put, List.setIfInBounds_toArray, List.set_cons_zero, List.set_cons_succ])
      refine late_free 2 (v := .int .u64 (b : Int)) rfl (by kernel_rfl) (by kernel_rfl) (by kernel_rfl) (by kernel_rfl) (by kernel_rfl) (by kernel_rfl) (fun _ _ _ h => h) (Or.inl ⟨by rfl, ?_⟩) (show AllL _ [] from trivial) ?_
      · (intro u _; go_simp)
      (try simp only [Act.put, List.setIfInBounds_toArray, List.set_cons_zero, List.set_cons_succ])
      refine late_free 3 (v := .int .u64 (r : Int)) rfl (by kernel_rfl) (by kernel_rfl) (by kernel_rfl) (by kernel_rfl) (by kernel_rfl) (by kernel_rfl) (fun _ _ _ h => h) (Or.inl ⟨by rfl, ?_⟩) (show AllL _ [] from trivial) ?_
      · (intro u _; go_simp)
      (try simp only [Act.put, List.setIfInBounds_toArray, List.set_cons_zero, List.set_cons_succ])
      refine late_step 4 (by kernel_rfl) rfl (fun K hK => ?_)
      go_simp
      refine hK.out _ _ trivial ?_
      clear hK K
      (try simp only [Act.put, List.setIfInBounds_toArray, List.set_cons_zero, List.set_cons_succ])
      refine late_step 5 (by kernel_rfl) rfl (fun K hK => ?_)
      go_simp
      refine hK.out _ _ trivial ?_
      clear hK K
      (try simp only [Act.put, List.setIfInBounds_toArray, List.set_cons_zero, List.set_cons_succ])
      refine late_done (by kernel_rfl) ?_ _
      go_wp2
      go_roundw
      case rel => exact ⟨b, r, rfl, rfl, hb, by omega, HR.out, bstep HBW.out (below_dr _)⟩
      case measure => simp [intOf]; omega

set_option maxRecDepth 100000 in
set_option maxHeartbeats 6400000 in
theorem gcd_any (va vb : Value) (xs ys : List Nat) (w : World) (ha : Num w va xs) (hb : Num w vb ys) (lx : xs.length ≤ 30000000) (ly : ys.length ≤ 30000000) :
    Calls Tryz.prog 110 #[va, vb] w fun e w' => Made' w.heap.size w (lim (Nat.gcd (val xs) (val ys))) e w' := by
  obtain ⟨A, hA⟩ : ∃ A, A = val xs := ⟨_, rfl⟩
  obtain ⟨Bn, hB⟩ : ∃ B, B = val ys := ⟨_, rfl⟩
  have hlA : (lim A).length ≤ 30000000 := by rw [hA]; exact Nat.le_trans (lim_len_le (val_lt ha.1)) lx
  have hlB : (lim Bn).length ≤ 30000000 := by rw [hB]; exact Nat.le_trans (lim_len_le (val_lt hb.1)) ly
  obtain ⟨G, hG⟩ : ∃ G, G = Nat.gcd A Bn := ⟨_, rfl⟩
  rw [← hA, ← hB, ← hG]
  have HG : Hid (Nat.gcd A Bn = G) := hG.symm
  have HA : Hid (val xs = A) := hA.symm
  have HB : Hid (val ys = Bn) := hB.symm
  clear hG hA hB
  go_enter Tryz.func110, Tryz.ntmps110
  go_wp2_with fail
  refine (norm_any _ _ _ ha (by omega)).mono ?_
  rw [HA.out]
  rintro e w2 ⟨a1, rfl, ha1, b2⟩
  replace hb := hb.below (Nat.le_refl _) b2
  obtain ⟨ao, al, ac, rfl⟩ := ha1.sl
  go_wp2_with fail
  refine (norm_any _ _ _ hb (by omega)).mono ?_
  rw [HB.out]
  rintro e w3 ⟨b1, rfl, hb1, b3⟩
  obtain ⟨bo, bl_, bc, rfl⟩ := hb1.sl
  replace ha1 := ha1.below b3
  replace hb1 := hb1.mono (B' := w.heap.size) b2.size
  have hbw := bstep b2 b3
  clear ha hb b2 b3 HA HB lx ly
  go_wp2_with fail
  refine (cmp_any _ _ _ _ _ ha1.num hb1.num).mono ?_
  rw [val_lim, val_lim]
  rintro e w4 ⟨rfl, k4, h4⟩
  have b := belowK h4
  replace ha1 := ha1.below b
  replace hb1 := hb1.below b
  replace hbw := bstep hbw b
  clear b h4
  have HI : Hid (∃ (p q : Value) (c d : Nat), (if A < Bn then p = .slice bo bl_ bc ∧ q = .slice ao al ac else p = .slice ao al ac ∧ q = .slice bo bl_ bc) ∧ Own w.heap.size 100 w4 p (lim c) ∧ Own w.heap.size 100 w4 q (lim d) ∧ d ≤ c ∧ Nat.gcd c d = G ∧ (lim c).length ≤ 30000000 ∧ Below w.heap.size w w4) := by
    by_cases h : A < Bn
    · exact ⟨_, _, Bn, A, by rw [if_pos h]; exact ⟨rfl, rfl⟩, hb1, ha1, by omega, by rw [Nat.gcd_comm]; exact HG.out, hlB, hbw⟩
    · exact ⟨_, _, A, Bn, by rw [if_neg h]; exact ⟨rfl, rfl⟩, ha1, hb1, by omega, HG.out, hlA, hbw⟩
  clear ha1 hb1 hbw hlA hlB HG
  by_cases hc : A < Bn
  · have hcm : cmpN A Bn = -1 := cmpN_lt hc
    rw [hcm]
    simp only [hc, if_true] at HI
    clear hcm hc
    go_wp2_with fail
    go_loopw [0, 1] (fun av bv wr => ∃ (c d : Nat), Own w.heap.size 100 wr av (lim c) ∧ Own w.heap.size 100 wr bv (lim d) ∧ d ≤ c ∧ Nat.gcd c d = G ∧ (lim c).length ≤ 30000000 ∧ Below w.heap.size w wr) (fun av bv wr => valAt wr av + valAt wr bv)
    case atStart =>
      obtain ⟨_, _, c, d, ⟨rfl, rfl⟩, h1, h2, h3⟩ := HI.out
      exact ⟨c, d, h1, h2, h3⟩
    case round =>
      clear HI
      obtain ⟨c, d, hcO, hdO, hdc, hgg, hlc, hbw⟩ := hrel
      obtain ⟨co, cc, rfl, hcc, hcm⟩ := hcO.num.ao
      obtain ⟨do_, dc, rfl, hdd, hdm⟩ := hdO.num.ao
      have HM : Hid (valAt wr (.slice co (lim c).length cc) + valAt wr (.slice do_ (lim d).length dc) = c + d) := by show _ = _; rw [valAt_eq hcO.num, valAt_eq hdO.num, val_lim, val_lim]
      have Hg : Hid (Nat.gcd c d = G) := hgg
      have hld : (lim d).length ≤ 30000000 := Nat.le_trans (lim_len_le (Nat.lt_of_le_of_lt hdc (lim_lt_of_len (Nat.le_refl _)))) hlc
      clear hgg
      obtain ⟨cl, hcl⟩ : ∃ l, l = (lim c).length := ⟨_, rfl⟩
      obtain ⟨dl, hdl⟩ : ∃ l, l = (lim d).length := ⟨_, rfl⟩
      have HCL : Hid (cl = (lim c).length) := hcl
      have HDL : Hid (dl = (lim d).length) := hdl
      rw [← hcl] at hcO hcc hlc HM ⊢
      rw [← hdl] at hdO hdd hld HM ⊢
      clear hcl hdl
      by_cases hbig : 2 < dl
      · have HBIG : Hid (2 ^ 64 ≤ d) := by
          show _ ≤ _
          rcases Nat.lt_or_ge d (2 ^ 64) with h | h
          · have := lim_len_le (k := 2) (n := d) (by exact h)
            rw [← HDL.out] at this
            omega
          · exact h
        have hbi : (2 : Int) < (dl : Int) := by omega
        clear hbig
        go_wp2_with fail
        refine (leap_any _ _ c d w.heap.size _ hcO hdO hbw.size hdc HBIG.out (by rw [← HCL.out]; exact hlc)).mono ?_
        rintro e w6 ⟨vc, vd, c2, d2, rfl, o1, o2, o3, o4, o5, o6, b⟩
        have HNEW : Hid (∃ (c d : Nat), Own w.heap.size 100 w6 vc (lim c) ∧ Own w.heap.size 100 w6 vd (lim d) ∧ d ≤ c ∧ Nat.gcd c d = G ∧ (lim c).length ≤ 30000000 ∧ Below w.heap.size w w6) :=
          ⟨c2, d2, o1, o2, o3, by rw [o5]; exact Hg.out, Nat.le_trans (lim_len_le (Nat.lt_of_le_of_lt (Nat.le_trans o4 hdc) (lim_lt_of_len (Nat.le_refl _)))) (by rw [← HCL.out]; exact hlc), bstep hbw b⟩
        have HLT : Hid (valAt w6 vc + valAt w6 vd < c + d) := by show _ < _; rw [valAt_eq o1.num, valAt_eq o2.num, val_lim, val_lim]; exact o6
        obtain ⟨vco, vcl, vcc, rfl⟩ := o1.sl
        obtain ⟨vdo, vdl, vdc, rfl⟩ := o2.sl
        clear o1 o2 o3 o4 o5 o6 b hbw hcO hdO hdc
        go_wp2_with fail
        go_roundw
        case rel => exact HNEW.out
        case measure => rw [HM.out]; exact HLT.out
      · have hbi : ¬ (2 : Int) < (dl : Int) := by omega
        by_cases hd0 : dl = 0
        · have HD0 : Hid (d = 0) := lim_len_zero (by rw [← HDL.out]; exact hd0)
          have hdz : ((dl : Int) == 0) = true := by simp [hd0]
          have HE : Hid (Made' w.heap.size w (lim G) (.returned (.slice co cl cc)) _) := ⟨_, rfl, by rw [← Hg.out, HD0.out, Nat.gcd_zero_right]; exact hcO, hbw⟩
          clear hd0 hbig hcO hdO hbw hdc
          go_wp2_with fail
          go_ret
          exact HE.out
        · have hdz : ((dl : Int) == 0) = false := by simp [hd0]
          have HD1 : Hid (d < 18446744073709551616 ∧ 0 < d) := by
            refine ⟨lim_lt_of_len (k := 2) (by rw [← HDL.out]; omega), ?_⟩
            rcases Nat.eq_zero_or_pos d with h | h
            · exfalso; apply hd0; rw [HDL.out, h]; rfl
            · exact h
          clear hd0 hbig
          go_wp2_with fail
          refine (divMod_any _ _ _ _ _ hcO.num hdO.num (by rw [← HCL.out]; omega)).mono ?_
          rw [val_lim, val_lim]
          rintro e w6 ⟨q, r, rfl, hq, hr, _, b⟩
          have hmz : modZ c d = c % d := by unfold modZ; rw [if_neg (by have := HD1.out; omega)]
          rw [hmz] at hr
          have hrl : c % d < d := Nat.mod_lt _ HD1.out.2
          replace hdO := hdO.below b
          replace hbw := bstep hbw b
          obtain ⟨qo, ql, qc, rfl⟩ := hq.sl
          obtain ⟨ro, rl, rc, rfl⟩ := hr.sl
          generalize errZ d = er
          clear b hmz hq
          go_wp2_with fail
          refine (uint_yes _ _ _ hdO.num (by rw [val_lim]; exact HD1.out.1)).mono ?_
          rw [val_lim]
          rintro e w7 ⟨rfl, h7⟩
          rw [h7]
          clear h7
          go_wp2_with fail
          refine (uint_yes _ _ _ hr.num (by rw [val_lim]; have := HD1.out.1; omega)).mono ?_
          rw [val_lim]
          rintro e w8 ⟨rfl, h8⟩
          rw [h8]
          clear h8
          obtain ⟨m, hm⟩ : ∃ m, m = c % d := ⟨_, rfl⟩
          have HGM : Hid (Nat.gcd d m = G) := by show _ = _; rw [hm, gcd_go]; exact Hg.out
          have hm64 : m < 18446744073709551616 := by rw [hm]; have := HD1.out.1; omega
          have hd64 : d < 18446744073709551616 := HD1.out.1
          rw [← hm]
          clear hm hrl hr hdO hcO
          go_wp2_with fail
          refine (gcdShort_any d m _ hd64 hm64).mono ?_
          rw [HGM.out]
          rintro e w9 ⟨rfl, b9⟩
          replace hbw := bstep hbw b9
          have hG64 : G < 18446744073709551616 := by
            rw [← HGM.out]
            exact Nat.lt_of_le_of_lt (Nat.gcd_le_left m HD1.out.2) hd64
          clear b9
          go_wp2_with fail
          refine (of_any G _ hG64).mono ?_
          rintro e w10 ⟨v, rfl, hv, b10⟩
          have HE : Hid (Made' w.heap.size w (lim G) (.returned v) w10) := ⟨_, rfl, hv.mono hbw.size, bstep hbw b10⟩
          obtain ⟨vo, vl, vc, rfl⟩ := hv.sl
          clear hv b10 hbw
          go_wp2_with fail
          go_ret
          exact HE.out
  · have hcm : 0 ≤ cmpN A Bn := by
      rcases cmpN_cases A Bn with ⟨h, e⟩ | ⟨h, e⟩ | ⟨h, e⟩ <;> rw [e] <;> omega
    have hcm2 : ¬ cmpN A Bn < 0 := by omega
    simp only [hc, if_false] at HI
    generalize cmpN A Bn = cm at *
    clear hc
    go_wp2_with fail
    go_loopw [0, 1] (fun av bv wr => ∃ (c d : Nat), Own w.heap.size 100 wr av (lim c) ∧ Own w.heap.size 100 wr bv (lim d) ∧ d ≤ c ∧ Nat.gcd c d = G ∧ (lim c).length ≤ 30000000 ∧ Below w.heap.size w wr) (fun av bv wr => valAt wr av + valAt wr bv)
    case atStart =>
      obtain ⟨_, _, c, d, ⟨rfl, rfl⟩, h1, h2, h3⟩ := HI.out
      exact ⟨c, d, h1, h2, h3⟩
    case round =>
      clear HI
      obtain ⟨c, d, hcO, hdO, hdc, hgg, hlc, hbw⟩ := hrel
      obtain ⟨co, cc, rfl, hcc, hcm⟩ := hcO.num.ao
      obtain ⟨do_, dc, rfl, hdd, hdm⟩ := hdO.num.ao
      have HM : Hid (valAt wr (.slice co (lim c).length cc) + valAt wr (.slice do_ (lim d).length dc) = c + d) := by show _ = _; rw [valAt_eq hcO.num, valAt_eq hdO.num, val_lim, val_lim]
      have Hg : Hid (Nat.gcd c d = G) := hgg
      have hld : (lim d).length ≤ 30000000 := Nat.le_trans (lim_len_le (Nat.lt_of_le_of_lt hdc (lim_lt_of_len (Nat.le_refl _)))) hlc
      clear hgg
      obtain ⟨cl, hcl⟩ : ∃ l, l = (lim c).length := ⟨_, rfl⟩
      obtain ⟨dl, hdl⟩ : ∃ l, l = (lim d).length := ⟨_, rfl⟩
      have HCL : Hid (cl = (lim c).length) := hcl
      have HDL : Hid (dl = (lim d).length) := hdl
      rw [← hcl] at hcO hcc hlc HM ⊢
      rw [← hdl] at hdO hdd hld HM ⊢
      clear hcl hdl
      by_cases hbig : 2 < dl
      · have HBIG : Hid (2 ^ 64 ≤ d) := by
          show _ ≤ _
          rcases Nat.lt_or_ge d (2 ^ 64) with h | h
          · have := lim_len_le (k := 2) (n := d) (by exact h)
            rw [← HDL.out] at this
            omega
          · exact h
        have hbi : (2 : Int) < (dl : Int) := by omega
        clear hbig
        go_wp2_with fail
        refine (leap_any _ _ c d w.heap.size _ hcO hdO hbw.size hdc HBIG.out (by rw [← HCL.out]; exact hlc)).mono ?_
        rintro e w6 ⟨vc, vd, c2, d2, rfl, o1, o2, o3, o4, o5, o6, b⟩
        have HNEW : Hid (∃ (c d : Nat), Own w.heap.size 100 w6 vc (lim c) ∧ Own w.heap.size 100 w6 vd (lim d) ∧ d ≤ c ∧ Nat.gcd c d = G ∧ (lim c).length ≤ 30000000 ∧ Below w.heap.size w w6) :=
          ⟨c2, d2, o1, o2, o3, by rw [o5]; exact Hg.out, Nat.le_trans (lim_len_le (Nat.lt_of_le_of_lt (Nat.le_trans o4 hdc) (lim_lt_of_len (Nat.le_refl _)))) (by rw [← HCL.out]; exact hlc), bstep hbw b⟩
        have HLT : Hid (valAt w6 vc + valAt w6 vd < c + d) := by show _ < _; rw [valAt_eq o1.num, valAt_eq o2.num, val_lim, val_lim]; exact o6
        obtain ⟨vco, vcl, vcc, rfl⟩ := o1.sl
        obtain ⟨vdo, vdl, vdc, rfl⟩ := o2.sl
        clear o1 o2 o3 o4 o5 o6 b hbw hcO hdO hdc
        go_wp2_with fail
        go_roundw
        case rel => exact HNEW.out
        case measure => rw [HM.out]; exact HLT.out
      · have hbi : ¬ (2 : Int) < (dl : Int) := by omega
        by_cases hd0 : dl = 0
        · have HD0 : Hid (d = 0) := lim_len_zero (by rw [← HDL.out]; exact hd0)
          have hdz : ((dl : Int) == 0) = true := by simp [hd0]
          have HE : Hid (Made' w.heap.size w (lim G) (.returned (.slice co cl cc)) _) := ⟨_, rfl, by rw [← Hg.out, HD0.out, Nat.gcd_zero_right]; exact hcO, hbw⟩
          clear hd0 hbig hcO hdO hbw hdc
          go_wp2_with fail
          go_ret
          exact HE.out
        · have hdz : ((dl : Int) == 0) = false := by simp [hd0]
          have HD1 : Hid (d < 18446744073709551616 ∧ 0 < d) := by
            refine ⟨lim_lt_of_len (k := 2) (by rw [← HDL.out]; omega), ?_⟩
            rcases Nat.eq_zero_or_pos d with h | h
            · exfalso; apply hd0; rw [HDL.out, h]; rfl
            · exact h
          clear hd0 hbig
          go_wp2_with fail
          refine (divMod_any _ _ _ _ _ hcO.num hdO.num (by rw [← HCL.out]; omega)).mono ?_
          rw [val_lim, val_lim]
          rintro e w6 ⟨q, r, rfl, hq, hr, _, b⟩
          have hmz : modZ c d = c % d := by unfold modZ; rw [if_neg (by have := HD1.out; omega)]
          rw [hmz] at hr
          have hrl : c % d < d := Nat.mod_lt _ HD1.out.2
          replace hdO := hdO.below b
          replace hbw := bstep hbw b
          obtain ⟨qo, ql, qc, rfl⟩ := hq.sl
          obtain ⟨ro, rl, rc, rfl⟩ := hr.sl
          generalize errZ d = er
          clear b hmz hq
          go_wp2_with fail
          refine (uint_yes _ _ _ hdO.num (by rw [val_lim]; exact HD1.out.1)).mono ?_
          rw [val_lim]
          rintro e w7 ⟨rfl, h7⟩
          rw [h7]
          clear h7
          go_wp2_with fail
          refine (uint_yes _ _ _ hr.num (by rw [val_lim]; have := HD1.out.1; omega)).mono ?_
          rw [val_lim]
          rintro e w8 ⟨rfl, h8⟩
          rw [h8]
          clear h8
          obtain ⟨m, hm⟩ : ∃ m, m = c % d := ⟨_, rfl⟩
          have HGM : Hid (Nat.gcd d m = G) := by show _ = _; rw [hm, gcd_go]; exact Hg.out
          have hm64 : m < 18446744073709551616 := by rw [hm]; have := HD1.out.1; omega
          have hd64 : d < 18446744073709551616 := HD1.out.1
          rw [← hm]
          clear hm hrl hr hdO hcO
          go_wp2_with fail
          refine (gcdShort_any d m _ hd64 hm64).mono ?_
          rw [HGM.out]
          rintro e w9 ⟨rfl, b9⟩
          replace hbw := bstep hbw b9
          have hG64 : G < 18446744073709551616 := by
            rw [← HGM.out]
            exact Nat.lt_of_le_of_lt (Nat.gcd_le_left m HD1.out.2) hd64
          clear b9
          go_wp2_with fail
          refine (of_any G _ hG64).mono ?_
          rintro e w10 ⟨v, rfl, hv, b10⟩
          have HE : Hid (Made' w.heap.size w (lim G) (.returned v) w10) := ⟨_, rfl, hv.mono hbw.size, bstep hbw b10⟩
          obtain ⟨vo, vl, vc, rfl⟩ := hv.sl
          clear hv b10 hbw
          go_wp2_with fail
          go_ret
          exact HE.out
end Go.Proofs.YtaafijifiiiblaaGreat
