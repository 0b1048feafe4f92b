/-
  Proved here: what gcdShort and Gcd answer.
  Proved here: how fractions lie in memory, and a move for a region of which two operations may come first.
-/
import Derived.Test.YtfnafgjnimfmjaaGreatDoorLeap
import Derived.Test.YtfnafgjnimfmjaaGreatDoorSubAll
import Derived.Test.YtfnafgjnimfmjaaGreatDoorCmpAll
import Derived.Test.YtfnafgjnimfmjaaGreatDoorWholeDAll
import Derived.Test.YtfnafgjnimfmjaaGreatDoorMulMathAll
import Derived.Test.YtfnafgjnimfmjaaGreatDoorValAtAll
import Derived.Test.YtfnafgjnimfmjaaGreatDoorWindowAll
namespace Go.Proofs.YtfnafgjnimfmjaaGreatDoor
open Go.RowKit

theorem gcd_go {x y : Nat} : Nat.gcd y (x % y) = Nat.gcd x y := by rw [Nat.gcd_comm, ← Nat.gcd_rec, Nat.gcd_comm]

set_option maxRecDepth 100000 in
set_option maxHeartbeats 3200000 in
theorem gcdShort_any (x y : Nat) (w : World) (hx : x < 18446744073709551616) (hy : y < 18446744073709551616) :
    Calls Tryz.prog 114 #[.int .u64 (x : Int), .int .u64 (y : Int)] w fun e w' => e = .returned (.int .u64 ((Nat.gcd x y : Nat) : Int)) ∧ Below w.heap.size w w' := by
  obtain ⟨G, hG⟩ : ∃ G, G = Nat.gcd x y := ⟨_, rfl⟩
  have HG : Hid (Nat.gcd x y = G) := hG.symm
  rw [← hG]
  clear hG
  go_enter Tryz.func114, Tryz.ntmps114
  go_wp2
  go_loopw [0, 1] (fun av bv wr => ∃ a b : Nat, av = .int .u64 (a : Int) ∧ bv = .int .u64 (b : Int) ∧ a < 18446744073709551616 ∧ b < 18446744073709551616 ∧ Nat.gcd a b = G ∧ Below w.heap.size w wr) (fun _ bv _ => (intOf bv).toNat)
  case atStart => exact ⟨x, y, rfl, rfl, hx, hy, HG.out, Below.refl _ _⟩
  case round =>
    obtain ⟨a, b, rfl, rfl, ha, hb, hg, hbw⟩ := hrel
    have HBW : Hid (Below w.heap.size w _) := hbw
    clear hbw
    have Hg : Hid (Nat.gcd a b = G) := hg
    clear hg HG hx hy
    by_cases hb0 : b = 0
    · have hbq : ((b : Int) != 0) = false := by simp [hb0]
      have HE : Hid (a = G) := by show _ = _; rw [← Hg.out, hb0, Nat.gcd_zero_right]
      clear hb0
      go_wp2
      go_ret
      exact ⟨by rw [HE.out]; rfl, HBW.out⟩
    · have hbq : ((b : Int) != 0) = true := by simp [hb0]
      have hbz : ((b : Int) == 0) = false := by simp [hb0]
      obtain ⟨r, hr⟩ : ∃ r, r = a % b := ⟨_, rfl⟩
      have er : (a : Int).tmod (b : Int) = (r : Int) := by rw [hr]; exact (Int.tmod_eq_emod_of_nonneg (by omega)).trans (Int.natCast_emod a b).symm
      have hrb : r < b := by rw [hr]; exact Nat.mod_lt _ (by omega)
      have HR : Hid (Nat.gcd b r = G) := by show _ = _; rw [hr, gcd_go]; exact Hg.out
      clear hr
      go_wp2
      refine region_late [] (by kernel_rfl) ?_
      refine late_free 0 (v := .int .u64 (b : Int)) rfl (by kernel_rfl) (by kernel_rfl) (by kernel_rfl) (by kernel_rfl) (by kernel_rfl) (by kernel_rfl) (fun _ _ _ h => h) (Or.inl ⟨by rfl, ?_⟩) (show AllL _ [] from trivial) ?_
      · (intro u _; go_simp)
      (try simp only [Act.put, putA, putB, putC])
      refine late_free 1 (v := .int .u64 (a : Int)) rfl (by kernel_rfl) (by kernel_rfl) (by kernel_rfl) (by kernel_rfl) (by kernel_rfl) (by kernel_rfl) (fun _ _ _ h => h) (Or.inl ⟨by rfl, ?_⟩) (show AllL _ [] from trivial) ?_
      · (intro u _; go_simp)
      (try simp only [Act.put, putA, putB, putC])
      refine late_free 2 (v := .int .u64 (b : Int)) rfl (by kernel_rfl) (by kernel_rfl) (by kernel_rfl) (by kernel_rfl) (by kernel_rfl) (by kernel_rfl) (fun _ _ _ h => h) (Or.inl ⟨by rfl, ?_⟩) (show AllL _ [] from trivial) ?_
      · (intro u _; go_simp)
      (try simp only [Act.put, putA, putB, putC])
      refine late_free 3 (v := .int .u64 (r : Int)) rfl (by kernel_rfl) (by kernel_rfl) (by kernel_rfl) (by kernel_rfl) (by kernel_rfl) (by kernel_rfl) (fun _ _ _ h => h) (Or.inl ⟨by rfl, ?_⟩) (show AllL _ [] from trivial) ?_
      · (intro u _; go_simp)
      (try simp only [Act.put, putA, putB, putC])
      refine late_st 4 rfl (fun K hK => ?_)
      go_simp
      refine hK.out _ _ trivial ?_
      clear hK K
      (try simp only [Act.put, putA, putB, putC])
      refine late_st 5 rfl (fun K hK => ?_)
      go_simp
      refine hK.out _ _ trivial ?_
      clear hK K
      (try simp only [Act.put, putA, putB, putC])
      refine late_done (by kernel_rfl) ?_ _
      go_wp2
      go_roundw
      case rel => exact ⟨b, r, rfl, rfl, hb, by omega, HR.out, bstep HBW.out (below_dr _)⟩
      case measure => simp [intOf]; omega

set_option maxRecDepth 100000 in
set_option maxHeartbeats 6400000 in
theorem gcd_any (va vb : Value) (xs ys : List Nat) (w : World) (ha : Num w va xs) (hb : Num w vb ys) (lx : xs.length ≤ 30000000) (ly : ys.length ≤ 30000000) :
    Calls Tryz.prog 83 #[va, vb] w fun e w' => Made' w.heap.size w (lim (Nat.gcd (val xs) (val ys))) e w' := by
  obtain ⟨A, hA⟩ : ∃ A, A = val xs := ⟨_, rfl⟩
  obtain ⟨Bn, hB⟩ : ∃ B, B = val ys := ⟨_, rfl⟩
  have hlA : (lim A).length ≤ 30000000 := by rw [hA]; exact Nat.le_trans (lim_len_le (val_lt ha.1)) lx
  have hlB : (lim Bn).length ≤ 30000000 := by rw [hB]; exact Nat.le_trans (lim_len_le (val_lt hb.1)) ly
  obtain ⟨G, hG⟩ : ∃ G, G = Nat.gcd A Bn := ⟨_, rfl⟩
  rw [← hA, ← hB, ← hG]
  have HG : Hid (Nat.gcd A Bn = G) := hG.symm
  have HA : Hid (val xs = A) := hA.symm
  have HB : Hid (val ys = Bn) := hB.symm
  clear hG hA hB
  go_enter Tryz.func83, Tryz.ntmps83
  go_wp2_with fail
  refine (norm_any _ _ _ ha (by omega)).mono ?_
  rw [HA.out]
  rintro e w2 ⟨a1, rfl, ha1, b2⟩
  replace hb := hb.below (Nat.le_refl _) b2
  obtain ⟨ao, al, ac, rfl⟩ := ha1.sl
  go_wp2_with fail
  refine (norm_any _ _ _ hb (by omega)).mono ?_
  rw [HB.out]
  rintro e w3 ⟨b1, rfl, hb1, b3⟩
  obtain ⟨bo, bl_, bc, rfl⟩ := hb1.sl
  replace ha1 := ha1.below b3
  replace hb1 := hb1.mono (B' := w.heap.size) b2.size
  have hbw := bstep b2 b3
  clear ha hb b2 b3 HA HB lx ly
  go_wp2_with fail
  refine (cmp_any _ _ _ _ _ ha1.num hb1.num).mono ?_
  rw [val_lim, val_lim]
  rintro e w4 ⟨rfl, k4, h4⟩
  have b := belowK h4
  replace ha1 := ha1.below b
  replace hb1 := hb1.below b
  replace hbw := bstep hbw b
  clear b h4
  have HI : Hid (∃ (p q : Value) (c d : Nat), (if A < Bn then p = .slice bo bl_ bc ∧ q = .slice ao al ac else p = .slice ao al ac ∧ q = .slice bo bl_ bc) ∧ Own w.heap.size 37 w4 p (lim c) ∧ Own w.heap.size 37 w4 q (lim d) ∧ d ≤ c ∧ Nat.gcd c d = G ∧ (lim c).length ≤ 30000000 ∧ Below w.heap.size w w4) := by
    by_cases h : A < Bn
    · exact ⟨_, _, Bn, A, by rw [if_pos h]; exact ⟨rfl, rfl⟩, hb1, ha1, by omega, by rw [Nat.gcd_comm]; exact HG.out, hlB, hbw⟩
    · exact ⟨_, _, A, Bn, by rw [if_neg h]; exact ⟨rfl, rfl⟩, ha1, hb1, by omega, HG.out, hlA, hbw⟩
  clear ha1 hb1 hbw hlA hlB HG
  by_cases hc : A < Bn
  · have hcm : cmpN A Bn = -1 := cmpN_lt hc
    rw [hcm]
    simp only [hc, if_true] at HI
    clear hcm hc
    go_wp2_with fail
    go_loopw [0, 1] (fun av bv wr => ∃ (c d : Nat), Own w.heap.size 37 wr av (lim c) ∧ Own w.heap.size 37 wr bv (lim d) ∧ d ≤ c ∧ Nat.gcd c d = G ∧ (lim c).length ≤ 30000000 ∧ Below w.heap.size w wr) (fun av bv wr => valAt wr av + valAt wr bv)
    case atStart =>
      obtain ⟨_, _, c, d, ⟨rfl, rfl⟩, h1, h2, h3⟩ := HI.out
      exact ⟨c, d, h1, h2, h3⟩
    case round =>
      clear HI
      obtain ⟨c, d, hcO, hdO, hdc, hgg, hlc, hbw⟩ := hrel
      obtain ⟨co, cc, rfl, hcc, hcm⟩ := hcO.num.ao
      obtain ⟨do_, dc, rfl, hdd, hdm⟩ := hdO.num.ao
      have HM : Hid (valAt wr (.slice co (lim c).length cc) + valAt wr (.slice do_ (lim d).length dc) = c + d) := by show _ = _; rw [valAt_eq hcO.num, valAt_eq hdO.num, val_lim, val_lim]
      have Hg : Hid (Nat.gcd c d = G) := hgg
      have hld : (lim d).length ≤ 30000000 := Nat.le_trans (lim_len_le (Nat.lt_of_le_of_lt hdc (lim_lt_of_len (Nat.le_refl _)))) hlc
      clear hgg
      obtain ⟨cl, hcl⟩ : ∃ l, l = (lim c).length := ⟨_, rfl⟩
      obtain ⟨dl, hdl⟩ : ∃ l, l = (lim d).length := ⟨_, rfl⟩
      have HCL : Hid (cl = (lim c).length) := hcl
      have HDL : Hid (dl = (lim d).length) := hdl
      rw [← hcl] at hcO hcc hlc HM ⊢
      rw [← hdl] at hdO hdd hld HM ⊢
      clear hcl hdl
      by_cases hbig : 2 < dl
      · have HBIG : Hid (2 ^ 64 ≤ d) := by
          show _ ≤ _
          rcases Nat.lt_or_ge d (2 ^ 64) with h | h
          · have := lim_len_le (k := 2) (n := d) (by exact h)
            rw [← HDL.out] at this
            omega
          · exact h
        have hbi : (2 : Int) < (dl : Int) := by omega
        clear hbig
        go_wp2_with fail
        refine (leap_any _ _ c d w.heap.size _ hcO hdO hbw.size hdc HBIG.out (by rw [← HCL.out]; exact hlc)).mono ?_
        rintro e w6 ⟨vc, vd, c2, d2, rfl, o1, o2, o3, o4, o5, o6, b⟩
        have HNEW : Hid (∃ (c d : Nat), Own w.heap.size 37 w6 vc (lim c) ∧ Own w.heap.size 37 w6 vd (lim d) ∧ d ≤ c ∧ Nat.gcd c d = G ∧ (lim c).length ≤ 30000000 ∧ Below w.heap.size w w6) :=
          ⟨c2, d2, o1, o2, o3, by rw [o5]; exact Hg.out, Nat.le_trans (lim_len_le (Nat.lt_of_le_of_lt (Nat.le_trans o4 hdc) (lim_lt_of_len (Nat.le_refl _)))) (by rw [← HCL.out]; exact hlc), bstep hbw b⟩
        have HLT : Hid (valAt w6 vc + valAt w6 vd < c + d) := by show _ < _; rw [valAt_eq o1.num, valAt_eq o2.num, val_lim, val_lim]; exact o6
        obtain ⟨vco, vcl, vcc, rfl⟩ := o1.sl
        obtain ⟨vdo, vdl, vdc, rfl⟩ := o2.sl
        clear o1 o2 o3 o4 o5 o6 b hbw hcO hdO hdc
        go_wp2_with fail
        go_roundw
        case rel => exact HNEW.out
        case measure => rw [HM.out]; exact HLT.out
      · have hbi : ¬ (2 : Int) < (dl : Int) := by omega
        by_cases hd0 : dl = 0
        · have HD0 : Hid (d = 0) := lim_len_zero (by rw [← HDL.out]; exact hd0)
          have hdz : ((dl : Int) == 0) = true := by simp [hd0]
          have HE : Hid (Made' w.heap.size w (lim G) (.returned (.slice co cl cc)) _) := ⟨_, rfl, by rw [← Hg.out, HD0.out, Nat.gcd_zero_right]; exact hcO, hbw⟩
          clear hd0 hbig hcO hdO hbw hdc
          go_wp2_with fail
          go_ret
          exact HE.out
        · have hdz : ((dl : Int) == 0) = false := by simp [hd0]
          have HD1 : Hid (d < 18446744073709551616 ∧ 0 < d) := by
            refine ⟨lim_lt_of_len (k := 2) (by rw [← HDL.out]; omega), ?_⟩
            rcases Nat.eq_zero_or_pos d with h | h
            · exfalso; apply hd0; rw [HDL.out, h]; rfl
            · exact h
          clear hd0 hbig
          go_wp2_with fail
          refine (divMod_any _ _ _ _ _ hcO.num hdO.num (by rw [← HCL.out]; omega)).mono ?_
          rw [val_lim, val_lim]
          rintro e w6 ⟨q, r, rfl, hq, hr, _, b⟩
          have hmz : modZ c d = c % d := by unfold modZ; rw [if_neg (by have := HD1.out; omega)]
          rw [hmz] at hr
          have hrl : c % d < d := Nat.mod_lt _ HD1.out.2
          replace hdO := hdO.below b
          replace hbw := bstep hbw b
          obtain ⟨qo, ql, qc, rfl⟩ := hq.sl
          obtain ⟨ro, rl, rc, rfl⟩ := hr.sl
          generalize errZ d = er
          clear b hmz hq
          go_wp2_with fail
          refine (uint_yes _ _ _ hdO.num (by rw [val_lim]; exact HD1.out.1)).mono ?_
          rw [val_lim]
          rintro e w7 ⟨rfl, h7⟩
          rw [h7]
          clear h7
          go_wp2_with fail
          refine (uint_yes _ _ _ hr.num (by rw [val_lim]; have := HD1.out.1; omega)).mono ?_
          rw [val_lim]
          rintro e w8 ⟨rfl, h8⟩
          rw [h8]
          clear h8
          obtain ⟨m, hm⟩ : ∃ m, m = c % d := ⟨_, rfl⟩
          have HGM : Hid (Nat.gcd d m = G) := by show _ = _; rw [hm, gcd_go]; exact Hg.out
          have hm64 : m < 18446744073709551616 := by rw [hm]; have := HD1.out.1; omega
          have hd64 : d < 18446744073709551616 := HD1.out.1
          rw [← hm]
          clear hm hrl hr hdO hcO
          go_wp2_with fail
          refine (gcdShort_any d m _ hd64 hm64).mono ?_
          rw [HGM.out]
          rintro e w9 ⟨rfl, b9⟩
          replace hbw := bstep hbw b9
          have hG64 : G < 18446744073709551616 := by
            rw [← HGM.out]
            exact Nat.lt_of_le_of_lt (Nat.gcd_le_left m HD1.out.2) hd64
          clear b9
          go_wp2_with fail
          refine (of_any G _ hG64).mono ?_
          rintro e w10 ⟨v, rfl, hv, b10⟩
          have HE : Hid (Made' w.heap.size w (lim G) (.returned v) w10) := ⟨_, rfl, hv.mono hbw.size, bstep hbw b10⟩
          obtain ⟨vo, vl, vc, rfl⟩ := hv.sl
          clear hv b10 hbw
          go_wp2_with fail
          go_ret
          exact HE.out
  · have hcm : 0 ≤ cmpN A Bn := by
      rcases cmpN_cases A Bn with ⟨h, e⟩ | ⟨h, e⟩ | ⟨h, e⟩ <;> rw [e] <;> omega
    have hcm2 : ¬ cmpN A Bn < 0 := by omega
    simp only [hc, if_false] at HI
    generalize cmpN A Bn = cm at *
    clear hc
    go_wp2_with fail
    go_loopw [0, 1] (fun av bv wr => ∃ (c d : Nat), Own w.heap.size 37 wr av (lim c) ∧ Own w.heap.size 37 wr bv (lim d) ∧ d ≤ c ∧ Nat.gcd c d = G ∧ (lim c).length ≤ 30000000 ∧ Below w.heap.size w wr) (fun av bv wr => valAt wr av + valAt wr bv)
    case atStart =>
      obtain ⟨_, _, c, d, ⟨rfl, rfl⟩, h1, h2, h3⟩ := HI.out
      exact ⟨c, d, h1, h2, h3⟩
    case round =>
      clear HI
      obtain ⟨c, d, hcO, hdO, hdc, hgg, hlc, hbw⟩ := hrel
      obtain ⟨co, cc, rfl, hcc, hcm⟩ := hcO.num.ao
      obtain ⟨do_, dc, rfl, hdd, hdm⟩ := hdO.num.ao
      have HM : Hid (valAt wr (.slice co (lim c).length cc) + valAt wr (.slice do_ (lim d).length dc) = c + d) := by show _ = _; rw [valAt_eq hcO.num, valAt_eq hdO.num, val_lim, val_lim]
      have Hg : Hid (Nat.gcd c d = G) := hgg
      have hld : (lim d).length ≤ 30000000 := Nat.le_trans (lim_len_le (Nat.lt_of_le_of_lt hdc (lim_lt_of_len (Nat.le_refl _)))) hlc
      clear hgg
      obtain ⟨cl, hcl⟩ : ∃ l, l = (lim c).length := ⟨_, rfl⟩
      obtain ⟨dl, hdl⟩ : ∃ l, l = (lim d).length := ⟨_, rfl⟩
      have HCL : Hid (cl = (lim c).length) := hcl
      have HDL : Hid (dl = (lim d).length) := hdl
      rw [← hcl] at hcO hcc hlc HM ⊢
      rw [← hdl] at hdO hdd hld HM ⊢
      clear hcl hdl
      by_cases hbig : 2 < dl
      · have HBIG : Hid (2 ^ 64 ≤ d) := by
          show _ ≤ _
          rcases Nat.lt_or_ge d (2 ^ 64) with h | h
          · have := lim_len_le (k := 2) (n := d) (by exact h)
            rw [← HDL.out] at this
            omega
          · exact h
        have hbi : (2 : Int) < (dl : Int) := by omega
        clear hbig
        go_wp2_with fail
        refine (leap_any _ _ c d w.heap.size _ hcO hdO hbw.size hdc HBIG.out (by rw [← HCL.out]; exact hlc)).mono ?_
        rintro e w6 ⟨vc, vd, c2, d2, rfl, o1, o2, o3, o4, o5, o6, b⟩
        have HNEW : Hid (∃ (c d : Nat), Own w.heap.size 37 w6 vc (lim c) ∧ Own w.heap.size 37 w6 vd (lim d) ∧ d ≤ c ∧ Nat.gcd c d = G ∧ (lim c).length ≤ 30000000 ∧ Below w.heap.size w w6) :=
          ⟨c2, d2, o1, o2, o3, by rw [o5]; exact Hg.out, Nat.le_trans (lim_len_le (Nat.lt_of_le_of_lt (Nat.le_trans o4 hdc) (lim_lt_of_len (Nat.le_refl _)))) (by rw [← HCL.out]; exact hlc), bstep hbw b⟩
        have HLT : Hid (valAt w6 vc + valAt w6 vd < c + d) := by show _ < _; rw [valAt_eq o1.num, valAt_eq o2.num, val_lim, val_lim]; exact o6
        obtain ⟨vco, vcl, vcc, rfl⟩ := o1.sl
        obtain ⟨vdo, vdl, vdc, rfl⟩ := o2.sl
        clear o1 o2 o3 o4 o5 o6 b hbw hcO hdO hdc
        go_wp2_with fail
        go_roundw
        case rel => exact HNEW.out
        case measure => rw [HM.out]; exact HLT.out
      · have hbi : ¬ (2 : Int) < (dl : Int) := by omega
        by_cases hd0 : dl = 0
        · have HD0 : Hid (d = 0) := lim_len_zero (by rw [← HDL.out]; exact hd0)
          have hdz : ((dl : Int) == 0) = true := by simp [hd0]
          have HE : Hid (Made' w.heap.size w (lim G) (.returned (.slice co cl cc)) _) := ⟨_, rfl, by rw [← Hg.out, HD0.out, Nat.gcd_zero_right]; exact hcO, hbw⟩
          clear hd0 hbig hcO hdO hbw hdc
          go_wp2_with fail
          go_ret
          exact HE.out
        · have hdz : ((dl : Int) == 0) = false := by simp [hd0]
          have HD1 : Hid (d < 18446744073709551616 ∧ 0 < d) := by
            refine ⟨lim_lt_of_len (k := 2) (by rw [← HDL.out]; omega), ?_⟩
            rcases Nat.eq_zero_or_pos d with h | h
            · exfalso; apply hd0; rw [HDL.out, h]; rfl
            · exact h
          clear hd0 hbig
          go_wp2_with fail
          refine (divMod_any _ _ _ _ _ hcO.num hdO.num (by rw [← HCL.out]; omega)).mono ?_
          rw [val_lim, val_lim]
          rintro e w6 ⟨q, r, rfl, hq, hr, _, b⟩
          have hmz : modZ c d = c % d := by unfold modZ; rw [if_neg (by have := HD1.out; omega)]
          rw [hmz] at hr
          have hrl : c % d < d := Nat.mod_lt _ HD1.out.2
          replace hdO := hdO.below b
          replace hbw := bstep hbw b
          obtain ⟨qo, ql, qc, rfl⟩ := hq.sl
          obtain ⟨ro, rl, rc, rfl⟩ := hr.sl
          generalize errZ d = er
          clear b hmz hq
          go_wp2_with fail
          refine (uint_yes _ _ _ hdO.num (by rw [val_lim]; exact HD1.out.1)).mono ?_
          rw [val_lim]
          rintro e w7 ⟨rfl, h7⟩
          rw [h7]
          clear h7
          go_wp2_with fail
          refine (uint_yes _ _ _ hr.num (by rw [val_lim]; have := HD1.out.1; omega)).mono ?_
          rw [val_lim]
          rintro e w8 ⟨rfl, h8⟩
          rw [h8]
          clear h8
          obtain ⟨m, hm⟩ : ∃ m, m = c % d := ⟨_, rfl⟩
          have HGM : Hid (Nat.gcd d m = G) := by show _ = _; rw [hm, gcd_go]; exact Hg.out
          have hm64 : m < 18446744073709551616 := by rw [hm]; have := HD1.out.1; omega
          have hd64 : d < 18446744073709551616 := HD1.out.1
          rw [← hm]
          clear hm hrl hr hdO hcO
          go_wp2_with fail
          refine (gcdShort_any d m _ hd64 hm64).mono ?_
          rw [HGM.out]
          rintro e w9 ⟨rfl, b9⟩
          replace hbw := bstep hbw b9
          have hG64 : G < 18446744073709551616 := by
            rw [← HGM.out]
            exact Nat.lt_of_le_of_lt (Nat.gcd_le_left m HD1.out.2) hd64
          clear b9
          go_wp2_with fail
          refine (of_any G _ hG64).mono ?_
          rintro e w10 ⟨v, rfl, hv, b10⟩
          have HE : Hid (Made' w.heap.size w (lim G) (.returned v) w10) := ⟨_, rfl, hv.mono hbw.size, bstep hbw b10⟩
          obtain ⟨vo, vl, vc, rfl⟩ := hv.sl
          clear hv b10 hbw
          go_wp2_with fail
          go_ret
          exact HE.out
end Go.Proofs.YtfnafgjnimfmjaaGreatDoor

namespace Go.Proofs.YtfnafgjnimfmjaaGreatDoor
open Go.RowKit

/-- The three cells of a fraction. -/
def QCell (w : World) (g : Nat) (neg : Bool) (m d : Value) : Prop := w.heap[g]? = some (.cells #[.bool neg, m, d] 27 (0, 0))
theorem QCell.cells {w : World} {g : Nat} {neg : Bool} {m d : Value} (h : QCell w g neg m d) : w.cell? ⟨g, 0, none⟩ = some (.bool neg) ∧ w.cell? ⟨g, 1, none⟩ = some m ∧ w.cell? ⟨g, 2, none⟩ = some d := by
  refine ⟨?_, ?_, ?_⟩ <;> (rw [cell_of_row w g _ _ _ _ h]; rfl)
theorem QCell.thaw {w : World} {g : Nat} {neg : Bool} {m d : Value} (h : QCell w g neg m d) (k : Nat) : w.frozen? ⟨g, k, none⟩ = false := frozen_of_row w g k _ _ h
theorem QCell.below {w w' : World} {g : Nat} {neg : Bool} {m d : Value} (h : QCell w g neg m d) (hb : Below w.heap.size w w') : QCell w' g neg m d := by
  unfold QCell; rw [hb.block _ (Array.getElem?_eq_some_iff.1 h).1]; exact h
theorem qcell_step {w : World} {o : Obj} {g : Nat} {neg : Bool} {m d : Value} (h : QCell w g neg m d) : QCell (w.alloc o) g neg m d := h.below (belowA _ _)
theorem qcell_new (w : World) {neg : Bool} {m d : Value} {k : Nat} (hk : w.heap.size = k) : QCell (w.alloc (.cells #[.bool neg, m, d] 27)) k neg m d := by subst hk; exact heap_alloc_new w _
theorem QCell.write {w : World} {g : Nat} {neg : Bool} {m d : Value} (h : QCell w g neg m d) (n2 : Bool) (m2 d2 : Value) : QCell (((w.setCell ⟨g, 0, none⟩ (.bool n2)).setCell ⟨g, 1, none⟩ m2).setCell ⟨g, 2, none⟩ d2) g n2 m2 d2 := by
  unfold QCell
  have h1 := heap_setCell_same w g 0 _ _ (.bool n2) h
  have h2 := heap_setCell_same _ g 1 _ _ m2 h1
  have h3 := heap_setCell_same _ g 2 _ _ d2 h2
  rw [h3]
  rfl
theorem QCell.other {w : World} {g : Nat} {neg : Bool} {m d : Value} (h : QCell w g neg m d) {g' : Nat} (hne : g ≠ g') (k : Nat) (v : Value) : QCell (w.setCell ⟨g', k, none⟩ v) g neg m d := by
  unfold QCell
  rw [heap_setCell_other]
  · exact h
  · exact hne
/-- A fraction that can be read: the number above the line, the one below it as it stands. -/
def RRaw (w : World) (v : Value) (p : Int) (q : Nat) : Prop := ∃ n ao al ac bo bl bc ys, v = .agg #[.bool n, .slice ao al ac, .slice bo bl bc] ∧ INum w (.agg #[.bool n, .slice ao al ac]) p ∧ Num w (.slice bo bl bc) ys ∧ ys.length ≤ 1000000 ∧ val ys = q
theorem RRaw.below {w w' : World} {v : Value} {p : Int} {q : Nat} (h : RRaw w v p q) (hb : Below w.heap.size w w') : RRaw w' v p q := by
  obtain ⟨n, ao, al, ac, bo, bl, bc, ys, e, h1, h2, h3, h4⟩ := h
  exact ⟨n, ao, al, ac, bo, bl, bc, ys, e, h1.below hb, h2.below (Nat.le_refl _) hb, h3, h4⟩
/-- A fraction that can be read, of so many limbs. -/
def RNum (w : World) (v : Value) (x : Rat) (L : Nat) : Prop := ∃ p q, RRaw w v p q ∧ x = rq p q ∧ Sz p L ∧ Sz (und q) L
theorem RNum.below {w w' : World} {v : Value} {x : Rat} {L : Nat} (h : RNum w v x L) (hb : Below w.heap.size w w') : RNum w' v x L := by
  obtain ⟨p, q, h1, h2⟩ := h
  exact ⟨p, q, h1.below hb, h2⟩
/-- A fraction as it should be, in rows of the call's own. -/
def ROwn (B : Nat) (w : World) (v : Value) (r : Rat) : Prop := ∃ m d, v = .agg #[.bool (decide (r.num < 0)), m, d] ∧ Own B 37 w m (lim r.num.natAbs) ∧ Own B 37 w d (lim r.den) ∧ (m.ownBlock = none ∨ m.ownBlock ≠ d.ownBlock)
theorem ROwn.below {B : Nat} {w w' : World} {v : Value} {r : Rat} (h : ROwn B w v r) (hb : Below w.heap.size w w') : ROwn B w' v r := by
  obtain ⟨m, d, e, h1, h2, h3⟩ := h
  exact ⟨m, d, e, h1.below hb, h2.below hb, h3⟩
/-- A fraction as it should stand. -/
def RStd (w : World) (v : Value) (r : Rat) : Prop := ∃ n ao al ac bo bl bc, v = .agg #[.bool n, .slice ao al ac, .slice bo bl bc] ∧ n = decide (r.num < 0) ∧ Num w (.slice ao al ac) (lim r.num.natAbs) ∧ Num w (.slice bo bl bc) (lim r.den)
theorem ROwn.std {B : Nat} {w : World} {v : Value} {r : Rat} (h : ROwn B w v r) : RStd w v r := by
  obtain ⟨m, d, rfl, h1, h2, _⟩ := h
  obtain ⟨ao, al, ac, rfl⟩ := h1.sl
  obtain ⟨bo, bl, bc, rfl⟩ := h2.sl
  exact ⟨_, ao, al, ac, bo, bl, bc, rfl, rfl, h1.num, h2.num⟩
theorem RStd.num {w : World} {v : Value} {r : Rat} {L : Nat} (h : RStd w v r) (hs : RSz r L) (hL : L ≤ 1000000) : RNum w v r L := by
  obtain ⟨n, ao, al, ac, bo, bl, bc, rfl, rfl, h1, h2⟩ := h
  refine ⟨r.num, r.den, ⟨_, ao, al, ac, bo, bl, bc, _, rfl, ⟨_, _, _, _, _, rfl, h1, Nat.le_trans hs.num.len hL, ?_⟩, h2, ?_, val_lim _⟩, (rq_std r).symm, hs.num, ?_⟩
  · rw [val_lim]; exact zv_self _
  · have := hs.den.len
    rw [Int.natAbs_natCast] at this
    omega
  · unfold und
    rw [if_neg r.den_nz]
    exact hs.den
/-- What a maker of a fraction leaves. -/
def REnd (w : World) (r : Rat) (e : Ending) (w' : World) : Prop := ∃ v, e = .returned v ∧ ROwn w.heap.size w' v r ∧ Below w.heap.size w w'
theorem rat_done {w w3 : World} {g B : Nat} {r : Rat} {b : Bool} {m d : Value} (hb : b = decide (r.num < 0)) (hg : w.heap.size ≤ g) (hm : Own B 37 w3 m (lim r.num.natAbs)) (hd : Own B 37 w3 d (lim r.den)) (hap : m.ownBlock = none ∨ m.ownBlock ≠ d.ownBlock) (hgB : g < B) (hbel : Below w.heap.size w w3) :
    REnd w r (.returned (.agg #[.bool b, m, d])) (((w3.setCell ⟨g, 0, none⟩ (.bool b)).setCell ⟨g, 1, none⟩ m).setCell ⟨g, 2, none⟩ d) := by
  have hne : ∀ {v : Value} {xs : List Nat}, Own B 37 w3 v xs → v.ownBlock = none ∨ v.ownBlock ≠ some g := by
    intro v xs ho
    cases hm : v.ownBlock with
    | none => exact Or.inl rfl
    | some k =>
      right
      intro e
      rw [Option.some.injEq] at e
      have := (ho.block k hm).1
      omega
  exact ⟨_, rfl, ⟨m, d, by rw [hb], (((hm.other _ (hne hm)).other _ (hne hm)).other _ (hne hm)).mono (by omega), (((hd.other _ (hne hd)).other _ (hne hd)).other _ (hne hd)).mono (by omega), hap⟩, ((hbel.setCell (p := ⟨g, 0, none⟩) hg _).setCell (p := ⟨g, 1, none⟩) hg _).setCell (p := ⟨g, 2, none⟩) hg _⟩
theorem ROwn.rehome {B B' : Nat} {w : World} {v : Value} {r : Rat} (h : ROwn B w v r) (hB : B' ≤ B) : ROwn B' w v r := by
  obtain ⟨m, d, e, h1, h2, h3⟩ := h
  exact ⟨m, d, e, h1.mono hB, h2.mono hB, h3⟩

section
variable {P : Program} {l : List Oper} {Q : Exit → Act → World → Prop} {md : Region.Mode} {L : List (Nat × (World → Prop))}
/-- Number j or number k may come up. -/
theorem late_two (j k : Nat) {o o2 : Oper} {n : Nat} {done : Array Bool} {a : Act} {w : World} (hr : Region.ready md l.toArray done = [j, k]) (ho : l[j]? = some o) (ho2 : l[k]? = some o2)
    (h : ∀ K' : Act → World → Prop, Shut (∀ b u, Kept md l.toArray (done.setIfInBounds j true) u L → wpLate P md l.toArray Q L n (done.setIfInBounds j true) b u → K' b u) → if Region.wanted o (yielded l.toArray a.tmps) = true then Oper.wp P o a w K' Q else K' (a.put o.dst undef) w)
    (h2 : ∀ K' : Act → World → Prop, Shut (∀ b u, Kept md l.toArray (done.setIfInBounds k true) u L → wpLate P md l.toArray Q L n (done.setIfInBounds k true) b u → K' b u) → if Region.wanted o2 (yielded l.toArray a.tmps) = true then Oper.wp P o2 a w K' Q else K' (a.put o2.dst undef) w) :
    wpLate P md l.toArray Q L (n + 1) done a w := by
  constructor
  · intro h0; rw [h0] at hr; cases hr
  · intro i hi
    rw [hr] at hi
    rcases List.mem_cons.1 hi with e | hi
    · subst e
      exact wpOp_step (by rw [List.getElem?_toArray]; exact ho) (fun K' hK => h K' (fun b u h1 h2 => hK b u ⟨h1, h2⟩))
    · rw [List.mem_singleton] at hi
      subst hi
      exact wpOp_step (by rw [List.getElem?_toArray]; exact ho2) (fun K' hK => h2 K' (fun b u h1 h2 => hK b u ⟨h1, h2⟩))
end
end Go.Proofs.YtfnafgjnimfmjaaGreatDoor
