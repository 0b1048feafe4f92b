/-
  Proved here: what divide and find of package near answer: the place of a fraction's size among floats.
-/
import Derived.Test.YtbcddjibgaccpaaGreatDoorNearMAll
import Derived.Test.YtbcddjibgaccpaaGreatDoorUintAll
namespace Go.Proofs.YtbcddjibgaccpaaGreatDoor
open Go.RowKit

theorem lim_le_len9 {a b L : Nat} {ds : List Nat} (h : a ≤ b) (hd : limbs ds) (hv : val ds = b) (hL : ds.length ≤ L) : (lim a).length ≤ L :=
  lim_len_le (Nat.lt_of_le_of_lt h (by rw [← hv]; exact Nat.lt_of_lt_of_le (val_lt hd) (Nat.pow_le_pow_right (by decide) hL)))

set_option maxRecDepth 100000 in
set_option maxHeartbeats 3200000 in
theorem divideD (u v : Value) (xs ys : List Nat) (N D : Nat) (w : World) (hu : Num w u xs) (hv : Num w v ys) (hxv : val xs = N) (hyv : val ys = D) (lx : xs.length ≤ 1000) (ly : ys.length ≤ 1000) (hN : N ≠ 0) (hD : D ≠ 0) (hg1 : (bl N : Int) - bl D ≤ 1024) (hg2 : (-1074) - 1 ≤ (bl N : Int) - bl D) :
    Calls Tryz.prog 47 #[.agg #[.int .i64 53, .int .i64 (-1074), .int .i64 1024], u, v] w fun e w' => PlEnd w (divideF 53 (-1074) 1024 N D) e w' := by
  have hL1 := lead_le N D
  have hL2 := lead_ge N D
  have hle := fun w h1 h2 => lead_any u v xs ys w h1 h2 (by omega) (by omega)
  rw [hxv, hyv] at hle
  obtain ⟨L, hL⟩ : ∃ L, L = leadF N D := ⟨_, rfl⟩
  rw [← hL] at hle hL1 hL2
  obtain ⟨E, hE⟩ : ∃ E : Int, max (L + 1 - 53) (-1074) = E := ⟨_, rfl⟩
  obtain ⟨L1, hL3⟩ : ∃ z : Int, L + 1 = z := ⟨_, rfl⟩
  obtain ⟨M, hM0⟩ : ∃ z : Int, L1 - 53 = z := ⟨_, rfl⟩
  obtain ⟨F0, hF⟩ : ∃ z : Int, -E = z := ⟨_, rfl⟩
  have HEX : Hid (expF 53 (-1074) N D = E) := by show _ = _; unfold expF; rw [← hL, ← hE]; rfl
  obtain ⟨n, hn⟩ : ∃ n : Nat, E = (-1074) + (n : Int) := ⟨(E - (-1074)).toNat, by omega⟩
  have hnb : n ≤ 2046 := by omega
  have HU : Hid (unitsF 53 (-1074) N D < 9007199254740992) := units_lt hN hD
  obtain ⟨U, hU⟩ : ∃ U, U = unitsF 53 (-1074) N D := ⟨_, rfl⟩
  have hUb : U < 9007199254740992 := by rw [hU]; exact HU.out
  have HUB : Hid (U < 9007199254740992) := hUb
  have HUD : Hid (up N F0 / up D E = U) := by show _ = _; rw [hU]; unfold unitsF; rw [HEX.out, hF]
  have HRD : Hid (restF 53 (-1074) N D = up N F0 % up D E) := by show _ = _; unfold restF; rw [HEX.out, hF]
  have HBE : Hid (belowF 53 (-1074) N D = U + n * 2 ^ (53 - 1)) := by show _ = _; unfold belowF; rw [HEX.out, ← hU, hn, show ((-1074) + (n : Int) - (-1074)).toNat = n by omega]
  have hdz : up D E ≠ 0 := by have := up_pos hD E; omega
  have HDZ : Hid (up D E ≠ 0) := hdz
  have hnum : ∀ w, Calls Tryz.prog 67 #[.agg #[.int .i64 53, .int .i64 (-1074), .int .i64 1024], .int .u64 (U : Int), .int .i64 E] w fun e w' => e = .returned (.int .u64 ((U + n * 2 ^ (53 - 1) : Nat) : Int)) ∧ Below w.heap.size w w' := fun w => by rw [hn]; exact number_any 53 n U (-1074) 1024 w (by decide) (by decide) (by decide) (by decide) (by omega) (by omega)
  obtain ⟨B, hB⟩ : ∃ B, B = U + n * 2 ^ (53 - 1) := ⟨_, rfl⟩
  have hBb : B < 18446744073709551615 := by omega
  rw [← hB] at hnum HBE
  have HDV : Hid (divideF 53 (-1074) 1024 N D = if 9218868437227405312 ≤ B then (9218868437227405311, 3) else (B, shareF (up N F0 % up D E) (up D E))) := by
    show _ = _
    unfold divideF
    rw [HBE.out, HEX.out, HRD.out, show infF 53 (-1074) 1024 = 9218868437227405312 by decide]
  have HEB : Hid (-262144 ≤ E ∧ E ≤ 262144 ∧ -262144 ≤ F0 ∧ F0 ≤ 262144) := by refine ⟨?_, ?_, ?_, ?_⟩ <;> omega
  have HXV : Hid (val xs = N) := hxv
  have HYV : Hid (val ys = D) := hyv
  have hLb : -100000 ≤ L ∧ L ≤ 100000 := by omega
  have hL4 : IntKind.i64.wrap L1 = L1 := by rw [IntKind.wrap_i64]; omega
  have hM1 : IntKind.i64.wrap M = M := by rw [IntKind.wrap_i64]; omega
  replace hE : E = max M (-1074) := by omega
  clear hL hU hB hn hnb HBE HRD HEX HU hdz hN hD hg1 hg2 hL1 hL2 hxv hyv hUb
  by_cases hM : M < (-1074)
  · obtain rfl : E = (-1074) := by omega
    obtain rfl : F0 = 1074 := by omega
    clear hE hF
    obtain ⟨W1, hW1⟩ : ∃ W1, W1 = (w.alloc (.cells #[.int .i64 53, .int .i64 (-1074), .int .i64 1024] 55)).alloc (.cells #[.int .u64 0, .int .i64 0] 53) := ⟨_, rfl⟩
    have hk : KCell W1 w.heap.size (.int .i64 53) (.int .i64 (-1074)) (.int .i64 1024) := by rw [hW1]; exact (kcell_new _ rfl).below (belowA _ _)
    have hp : PCell W1 (w.heap.size + 1) (.int .u64 0) (.int .i64 0) := by rw [hW1]; exact pcell_new _ (by simp)
    have hb1 : Below w.heap.size w W1 := by rw [hW1]; exact bstep (belowA w _) (belowA _ _)
    have HW1 : Hid (W1 = (w.alloc (.cells #[.int .i64 53, .int .i64 (-1074), .int .i64 1024] 55)).alloc (.cells #[.int .u64 0, .int .i64 0] 53)) := hW1
    replace hu := hu.below (Nat.le_refl _) hb1
    replace hv := hv.below (Nat.le_refl _) hb1
    clear hW1
    go_enter Tryz.func47, Tryz.ntmps47
    go_wp2_with fail
    rw [← HW1.out]
    obtain ⟨g, hg⟩ : ∃ g, g = w.heap.size := ⟨_, rfl⟩
    rw [← hg] at hk hp ⊢
    have HG : Hid (g = w.heap.size) := hg
    obtain ⟨c0, c1, c2⟩ := hk.cells
    clear hg HW1
    have HK : Hid (KCell W1 g (.int .i64 53) (.int .i64 (-1074)) (.int .i64 1024) ∧ PCell W1 (g + 1) (.int .u64 0) (.int .i64 0)) := ⟨hk, hp⟩
    clear hk hp
    go_region_held3 (fun w' => w'.cell? ⟨g, 0, none⟩ = some (.int .i64 53) ∧ w'.cell? ⟨g, 1, none⟩ = some (.int .i64 (-1074))) (((try dsimp only); go_split_ands; refine ⟨?_, ?_⟩ <;> first | exact keepB1 (by with_reducible assumption) (by with_reducible assumption) | go_keep)) (first
      | (go_at_call 64; refine (hle _ (hu.same (w' := W1.drew) rfl) (hv.same (w' := W1.drew) rfl)).mono ?_; rintro e w3 ⟨rfl, hb3⟩))
    all_goals
      have b0 : Below W1.heap.size W1 w3 := bstep (Below.refl _ _).drew hb3
      have hk := HK.out.1.below b0
      have hp := HK.out.2.below b0
      replace hu := hu.below (Nat.le_refl _) b0
      replace hv := hv.below (Nat.le_refl _) b0
      have hbw := bstep hb1 b0
      clear b0 hb3 hb1 c0 c1 c2 HK hle
      go_wp2_with fail
      refine (raised_any _ ys (-1074) _ hv (by omega) HEB.out.2.1 HEB.out.1).mono ?_
      rw [HYV.out]
      rintro e w4 ⟨do_, dl, dc, ds, rfl, nd, vd, ld, b⟩
      replace hu := hu.below (Nat.le_refl _) b
      replace hk := hk.below b
      replace hp := hp.below b
      replace hbw := bstep hbw b
      clear b hv
      go_wp2_with fail
      refine (raised_any _ xs 1074 _ hu (by omega) HEB.out.2.2.2 HEB.out.2.2.1).mono ?_
      rw [HXV.out]
      rintro e w5 ⟨no, nl, nc, ns, rfl, nn, vn, ln, b⟩
      replace nd := nd.below (Nat.le_refl _) b
      replace hk := hk.below b
      replace hp := hp.below b
      replace hbw := bstep hbw b
      clear b hu
      go_wp2_with fail
      have hq := divMod_any _ _ _ _ w5 nn nd (by omega)
      rw [vn, vd] at hq
      refine hq.mono ?_
      rintro e w6 ⟨q, r, rfl, oq, or_, _, b⟩
      rw [HUD.out] at oq
      have hmz : modZ (up N 1074) (up D (-1074)) = up N 1074 % up D (-1074) := by unfold modZ; rw [if_neg HDZ.out]
      rw [hmz] at or_
      have hez : errZ (up D (-1074)) = 0 := by unfold errZ; rw [if_neg HDZ.out]
      rw [hez]
      replace nd := nd.below (Nat.le_refl _) b
      replace hk := hk.below b
      replace hp := hp.below b
      replace hbw := bstep hbw b
      obtain ⟨qo, ql, qc, rfl⟩ := oq.sl
      obtain ⟨ro, rl, rc, rfl⟩ := or_.sl
      clear b hq hmz hez nn vn ln
      go_wp2_with fail
      refine (uint_yes _ _ _ oq.num (by rw [val_lim]; have := HUB.out; omega)).mono ?_
      rw [val_lim]
      rintro e w6 ⟨rfl, rfl⟩
      obtain ⟨c0, c1, c2⟩ := hk.cells
      clear oq
      go_wp2_with fail
      refine (hnum _).mono ?_
      rintro e w7 ⟨rfl, b⟩
      have nr := (or_.below b).num
      replace nd := nd.below (Nat.le_refl _) b
      replace hk := hk.below b
      replace hp := hp.below b
      replace hbw := bstep hbw b
      clear b or_ c0 c1 c2 hnum
      obtain ⟨c0, c1, c2⟩ := hk.cells
      go_wp2_with fail
      refine (infD _).mono ?_
      rintro e w8 ⟨rfl, b⟩
      replace nr := nr.below (Nat.le_refl _) b
      replace nd := nd.below (Nat.le_refl _) b
      replace hk := hk.below b
      replace hp := hp.below b
      replace hbw := bstep hbw b
      clear b c0 c1 c2
      obtain ⟨c0, c1, c2⟩ := hk.cells
      by_cases hc : 9218868437227405312 ≤ B
      · have hc' : (9218868437227405312 : Int) ≤ (B : Int) := by omega
        have HDV2 := HDV.out
        rw [if_pos hc] at HDV2
        clear HDV
        have HDV : Hid (divideF 53 (-1074) 1024 N D = (9218868437227405311, 3)) := HDV2
        clear HDV2 hc nr nd
        go_wp2_with fail
        refine (beyondD _).mono ?_
        rintro e wz ⟨rfl, b⟩
        replace hp := hp.below b
        replace hbw := bstep hbw b
        clear b c0 c1 c2
        have HE : Hid (PlEnd w (divideF 53 (-1074) 1024 N D) (.returned (.agg #[.int .u64 9218868437227405311, .int .i64 3])) ((wz.setCell ⟨g + 1, 0, none⟩ (.int .u64 9218868437227405311)).setCell ⟨g + 1, 1, none⟩ (.int .i64 3))) := ⟨by rw [HDV.out]; (try rfl), pend _ _ hbw (by rw [HG.out]; omega)⟩
        have HW : Hid (PCell ((wz.setCell ⟨g + 1, 0, none⟩ (.int .u64 9218868437227405311)).setCell ⟨g + 1, 1, none⟩ (.int .i64 3)) (g + 1) (.int .u64 9218868437227405311) (.int .i64 3)) := hp.write _ _
        obtain ⟨y0, y1⟩ := hp.cells
        have f0 := hp.thaw 0
        have f1 := hp.thaw 1
        clear hp hk hbw
        go_wp2_with fail
        (try simp only [Exit.inBlock, Exit.then])
        exact bodyPost_ret (results_cell_row rfl _ _ (g + 1) 53 _ (0, 0) _ rfl HW.out Tryz.underlying53 rfl (by kernel_rfl)) rfl HE.out
      · have hc' : decide ((9218868437227405312 : Int) ≤ (B : Int)) = false := decide_eq_false (by omega)
        have hc3 : decide (9218868437227405312 ≤ B) = false := decide_eq_false hc
        have HDV2 := HDV.out
        rw [if_neg hc] at HDV2
        obtain ⟨S, hS⟩ : ∃ S, S = shareF (up N 1074 % up D (-1074)) (up D (-1074)) := ⟨_, rfl⟩
        rw [← hS] at HDV2
        clear HDV
        have HDV : Hid (divideF 53 (-1074) 1024 N D = (B, S)) := HDV2
        have hsh := share_any _ _ _ _ w8 nr nd (Nat.le_trans (lim_le_len9 (Nat.le_of_lt (Nat.mod_lt _ (Nat.pos_of_ne_zero HDZ.out))) nd.1 vd ld) (by omega))
        rw [val_lim, vd, ← hS] at hsh
        clear HDV2 hS c0 c1 c2 hc
        go_wp2_with fail
        refine hsh.mono ?_
        rintro e wz ⟨rfl, b⟩
        replace hp := hp.below b
        replace hbw := bstep hbw b
        clear b hsh nr nd
        have HE : Hid (PlEnd w (divideF 53 (-1074) 1024 N D) (.returned (.agg #[.int .u64 (B : Int), .int .i64 S])) ((wz.setCell ⟨g + 1, 0, none⟩ (.int .u64 (B : Int))).setCell ⟨g + 1, 1, none⟩ (.int .i64 S))) := ⟨by rw [HDV.out]; (try rfl), pend _ _ hbw (by rw [HG.out]; omega)⟩
        have HW : Hid (PCell ((wz.setCell ⟨g + 1, 0, none⟩ (.int .u64 (B : Int))).setCell ⟨g + 1, 1, none⟩ (.int .i64 S)) (g + 1) (.int .u64 (B : Int)) (.int .i64 S)) := hp.write _ _
        obtain ⟨y0, y1⟩ := hp.cells
        have f0 := hp.thaw 0
        have f1 := hp.thaw 1
        clear hp hk hbw
        go_wp2_with fail
        (try simp only [Exit.inBlock, Exit.then])
        exact bodyPost_ret (results_cell_row rfl _ _ (g + 1) 53 _ (0, 0) _ rfl HW.out Tryz.underlying53 rfl (by kernel_rfl)) rfl HE.out
  · have hM2 : (-1074) ≤ M := by omega
    obtain rfl : E = M := by omega
    clear hE
    obtain ⟨W1, hW1⟩ : ∃ W1, W1 = (w.alloc (.cells #[.int .i64 53, .int .i64 (-1074), .int .i64 1024] 55)).alloc (.cells #[.int .u64 0, .int .i64 0] 53) := ⟨_, rfl⟩
    have hk : KCell W1 w.heap.size (.int .i64 53) (.int .i64 (-1074)) (.int .i64 1024) := by rw [hW1]; exact (kcell_new _ rfl).below (belowA _ _)
    have hp : PCell W1 (w.heap.size + 1) (.int .u64 0) (.int .i64 0) := by rw [hW1]; exact pcell_new _ (by simp)
    have hb1 : Below w.heap.size w W1 := by rw [hW1]; exact bstep (belowA w _) (belowA _ _)
    have HW1 : Hid (W1 = (w.alloc (.cells #[.int .i64 53, .int .i64 (-1074), .int .i64 1024] 55)).alloc (.cells #[.int .u64 0, .int .i64 0] 53)) := hW1
    replace hu := hu.below (Nat.le_refl _) hb1
    replace hv := hv.below (Nat.le_refl _) hb1
    clear hW1
    go_enter Tryz.func47, Tryz.ntmps47
    go_wp2_with fail
    rw [← HW1.out]
    obtain ⟨g, hg⟩ : ∃ g, g = w.heap.size := ⟨_, rfl⟩
    rw [← hg] at hk hp ⊢
    have HG : Hid (g = w.heap.size) := hg
    obtain ⟨c0, c1, c2⟩ := hk.cells
    clear hg HW1
    have HK : Hid (KCell W1 g (.int .i64 53) (.int .i64 (-1074)) (.int .i64 1024) ∧ PCell W1 (g + 1) (.int .u64 0) (.int .i64 0)) := ⟨hk, hp⟩
    clear hk hp
    go_region_held3 (fun w' => w'.cell? ⟨g, 0, none⟩ = some (.int .i64 53) ∧ w'.cell? ⟨g, 1, none⟩ = some (.int .i64 (-1074))) (((try dsimp only); go_split_ands; refine ⟨?_, ?_⟩ <;> first | exact keepB1 (by with_reducible assumption) (by with_reducible assumption) | go_keep)) (first
      | (go_at_call 64; refine (hle _ (hu.same (w' := W1.drew) rfl) (hv.same (w' := W1.drew) rfl)).mono ?_; rintro e w3 ⟨rfl, hb3⟩))
    all_goals
      have b0 : Below W1.heap.size W1 w3 := bstep (Below.refl _ _).drew hb3
      have hk := HK.out.1.below b0
      have hp := HK.out.2.below b0
      replace hu := hu.below (Nat.le_refl _) b0
      replace hv := hv.below (Nat.le_refl _) b0
      have hbw := bstep hb1 b0
      clear b0 hb3 hb1 c0 c1 c2 HK hle
      go_wp2_with fail
      refine (raised_any _ ys E _ hv (by omega) HEB.out.2.1 HEB.out.1).mono ?_
      rw [HYV.out]
      rintro e w4 ⟨do_, dl, dc, ds, rfl, nd, vd, ld, b⟩
      replace hu := hu.below (Nat.le_refl _) b
      replace hk := hk.below b
      replace hp := hp.below b
      replace hbw := bstep hbw b
      clear b hv
      go_wp2_with fail
      refine (raised_any _ xs F0 _ hu (by omega) HEB.out.2.2.2 HEB.out.2.2.1).mono ?_
      rw [HXV.out]
      rintro e w5 ⟨no, nl, nc, ns, rfl, nn, vn, ln, b⟩
      replace nd := nd.below (Nat.le_refl _) b
      replace hk := hk.below b
      replace hp := hp.below b
      replace hbw := bstep hbw b
      clear b hu
      go_wp2_with fail
      have hq := divMod_any _ _ _ _ w5 nn nd (by omega)
      rw [vn, vd] at hq
      refine hq.mono ?_
      rintro e w6 ⟨q, r, rfl, oq, or_, _, b⟩
      rw [HUD.out] at oq
      have hmz : modZ (up N F0) (up D E) = up N F0 % up D E := by unfold modZ; rw [if_neg HDZ.out]
      rw [hmz] at or_
      have hez : errZ (up D E) = 0 := by unfold errZ; rw [if_neg HDZ.out]
      rw [hez]
      replace nd := nd.below (Nat.le_refl _) b
      replace hk := hk.below b
      replace hp := hp.below b
      replace hbw := bstep hbw b
      obtain ⟨qo, ql, qc, rfl⟩ := oq.sl
      obtain ⟨ro, rl, rc, rfl⟩ := or_.sl
      clear b hq hmz hez nn vn ln
      go_wp2_with fail
      refine (uint_yes _ _ _ oq.num (by rw [val_lim]; have := HUB.out; omega)).mono ?_
      rw [val_lim]
      rintro e w6 ⟨rfl, rfl⟩
      obtain ⟨c0, c1, c2⟩ := hk.cells
      clear oq
      go_wp2_with fail
      refine (hnum _).mono ?_
      rintro e w7 ⟨rfl, b⟩
      have nr := (or_.below b).num
      replace nd := nd.below (Nat.le_refl _) b
      replace hk := hk.below b
      replace hp := hp.below b
      replace hbw := bstep hbw b
      clear b or_ c0 c1 c2 hnum
      obtain ⟨c0, c1, c2⟩ := hk.cells
      go_wp2_with fail
      refine (infD _).mono ?_
      rintro e w8 ⟨rfl, b⟩
      replace nr := nr.below (Nat.le_refl _) b
      replace nd := nd.below (Nat.le_refl _) b
      replace hk := hk.below b
      replace hp := hp.below b
      replace hbw := bstep hbw b
      clear b c0 c1 c2
      obtain ⟨c0, c1, c2⟩ := hk.cells
      by_cases hc : 9218868437227405312 ≤ B
      · have hc' : (9218868437227405312 : Int) ≤ (B : Int) := by omega
        have HDV2 := HDV.out
        rw [if_pos hc] at HDV2
        clear HDV
        have HDV : Hid (divideF 53 (-1074) 1024 N D = (9218868437227405311, 3)) := HDV2
        clear HDV2 hc nr nd
        go_wp2_with fail
        refine (beyondD _).mono ?_
        rintro e wz ⟨rfl, b⟩
        replace hp := hp.below b
        replace hbw := bstep hbw b
        clear b c0 c1 c2
        have HE : Hid (PlEnd w (divideF 53 (-1074) 1024 N D) (.returned (.agg #[.int .u64 9218868437227405311, .int .i64 3])) ((wz.setCell ⟨g + 1, 0, none⟩ (.int .u64 9218868437227405311)).setCell ⟨g + 1, 1, none⟩ (.int .i64 3))) := ⟨by rw [HDV.out]; (try rfl), pend _ _ hbw (by rw [HG.out]; omega)⟩
        have HW : Hid (PCell ((wz.setCell ⟨g + 1, 0, none⟩ (.int .u64 9218868437227405311)).setCell ⟨g + 1, 1, none⟩ (.int .i64 3)) (g + 1) (.int .u64 9218868437227405311) (.int .i64 3)) := hp.write _ _
        obtain ⟨y0, y1⟩ := hp.cells
        have f0 := hp.thaw 0
        have f1 := hp.thaw 1
        clear hp hk hbw
        go_wp2_with fail
        (try simp only [Exit.inBlock, Exit.then])
        exact bodyPost_ret (results_cell_row rfl _ _ (g + 1) 53 _ (0, 0) _ rfl HW.out Tryz.underlying53 rfl (by kernel_rfl)) rfl HE.out
      · have hc' : decide ((9218868437227405312 : Int) ≤ (B : Int)) = false := decide_eq_false (by omega)
        have hc3 : decide (9218868437227405312 ≤ B) = false := decide_eq_false hc
        have HDV2 := HDV.out
        rw [if_neg hc] at HDV2
        obtain ⟨S, hS⟩ : ∃ S, S = shareF (up N F0 % up D E) (up D E) := ⟨_, rfl⟩
        rw [← hS] at HDV2
        clear HDV
        have HDV : Hid (divideF 53 (-1074) 1024 N D = (B, S)) := HDV2
        have hsh := share_any _ _ _ _ w8 nr nd (Nat.le_trans (lim_le_len9 (Nat.le_of_lt (Nat.mod_lt _ (Nat.pos_of_ne_zero HDZ.out))) nd.1 vd ld) (by omega))
        rw [val_lim, vd, ← hS] at hsh
        clear HDV2 hS c0 c1 c2 hc
        go_wp2_with fail
        refine hsh.mono ?_
        rintro e wz ⟨rfl, b⟩
        replace hp := hp.below b
        replace hbw := bstep hbw b
        clear b hsh nr nd
        have HE : Hid (PlEnd w (divideF 53 (-1074) 1024 N D) (.returned (.agg #[.int .u64 (B : Int), .int .i64 S])) ((wz.setCell ⟨g + 1, 0, none⟩ (.int .u64 (B : Int))).setCell ⟨g + 1, 1, none⟩ (.int .i64 S))) := ⟨by rw [HDV.out]; (try rfl), pend _ _ hbw (by rw [HG.out]; omega)⟩
        have HW : Hid (PCell ((wz.setCell ⟨g + 1, 0, none⟩ (.int .u64 (B : Int))).setCell ⟨g + 1, 1, none⟩ (.int .i64 S)) (g + 1) (.int .u64 (B : Int)) (.int .i64 S)) := hp.write _ _
        obtain ⟨y0, y1⟩ := hp.cells
        have f0 := hp.thaw 0
        have f1 := hp.thaw 1
        clear hp hk hbw
        go_wp2_with fail
        (try simp only [Exit.inBlock, Exit.then])
        exact bodyPost_ret (results_cell_row rfl _ _ (g + 1) 53 _ (0, 0) _ rfl HW.out Tryz.underlying53 rfl (by kernel_rfl)) rfl HE.out
end Go.Proofs.YtbcddjibgaccpaaGreatDoor
