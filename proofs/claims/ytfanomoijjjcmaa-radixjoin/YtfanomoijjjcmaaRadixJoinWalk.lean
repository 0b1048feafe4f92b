/-
  Proved here: RadixJoin answers true.
-/
import Derived.Test.YtfanomoijjjcmaaRadG
import Derived.Test.YtfanomoijjjcmaaRadJoinM
import Derived.Test.YtfanomoijjjcmaaRadixBackWalk
namespace Go.Proofs.Ytfanomoijjjcmaa
open Go.RowKit Go.Shelf

theorem at_join {ss tt : List Int} {i j : Int} (hs : ∀ z ∈ ss, 1 ≤ z ∧ z ≤ 9) (ht : ∀ z ∈ tt, 1 ≤ z ∧ z ≤ 9) (hl : (ss ++ tt).length ≤ 7) (h0 : 0 ≤ i) (h1 : i < pr ss) (h2 : 0 ≤ j) (h3 : j < pr tt) :
    atE (ss ++ tt) (dgs ss i ++ dgs tt j) = 0 ∧ atN (ss ++ tt) (dgs ss i ++ dgs tt j) = i * pr tt + j := by
  have hst : ∀ z ∈ ss ++ tt, 1 ≤ z ∧ z ≤ 9 := fun z hz => (List.mem_append.1 hz).elim (hs z) (ht z)
  have s1 : ∀ z ∈ ss, 1 ≤ z := fun z hz => (hs z hz).1
  have t1 : ∀ z ∈ tt, 1 ≤ z := fun z hz => (ht z hz).1
  have hbad : bad (ss ++ tt) (dgs ss i ++ dgs tt j) = false := bad_not fun k hk => by
    rw [badAt_eq]
    by_cases hks : k < ss.length
    · have := dig_bd ss i s1 k hks
      rw [getD_left (by rw [dgs_len]; exact hks), getD_left hks, dgs_get ss i k hks, isNeg, decide_eq_false (by omega), decide_eq_false (by omega)]; rfl
    · obtain ⟨m, rfl⟩ : ∃ m, k = ss.length + m := ⟨k - ss.length, by omega⟩
      have hm : m < tt.length := by rw [List.length_append] at hk; omega
      have := dig_bd tt j t1 m hm
      have e : (dgs ss i ++ dgs tt j).getD (ss.length + m) 0 = (dgs tt j).getD m 0 := by
        have := getD_right (a := dgs ss i) (b := dgs tt j) (i := m); rw [dgs_len] at this; exact this
      rw [e, getD_right, dgs_get tt j m hm, isNeg, decide_eq_false (by omega), decide_eq_false (by omega)]; rfl
  obtain ⟨e1, e2⟩ := at_ok (cnt_bs _ hst hl).1 (by simp [dgs_len]) hbad
  refine ⟨e1, ?_⟩
  rw [e2, pl_join ss tt _ _ (dgs_len ss i), pl_back ss i s1 h0 h1, pl_back tt j t1 h2 h3]
theorem take_bs {zs : List Int} (h : ∀ z ∈ zs, 1 ≤ z ∧ z ≤ 9) (m : Nat) : ∀ z ∈ zs.take m, 1 ≤ z ∧ z ≤ 9 := fun z hz => h z (List.mem_of_mem_take hz)
set_option maxRecDepth 100000 in
set_option maxHeartbeats 12800000 in
theorem radixJoin_top (v : Value) (l : List Int) (v2 : Value) (l2 : List Int) (a b : Int) (w : World) (hv : RK .i64 w v l) (hv2 : RK .i64 w v2 l2) (ha : (Lit.int .i64 a).wf = true) (hb : (Lit.int .i64 b).wf = true) :
    Calls Try.prog 8 #[v, v2, .int .i64 a, .int .i64 b] w fun e w' => e = .returned (.bool true) ∧ Below w.heap.size w w' := by
  have ha1 : IntKind.i64.min ≤ a ∧ a ≤ IntKind.i64.max := by simpa [Lit.wf] using ha
  have hb1 : IntKind.i64.min ≤ b ∧ b ≤ IntKind.i64.max := by simpa [Lit.wf] using hb
  rw [min_i64, max_i64] at ha1 hb1
  obtain ⟨ha1, ha2⟩ := ha1
  obtain ⟨hb1, hb2⟩ := hb1
  clear ha hb
  have hal := aliveR w
  have hba := fun w' h => bases_any v l w' (hv.below (Nat.le_refl _) h)
  have hbb := fun w' h => bases_any v2 l2 w' (hv2.below (Nat.le_refl _) h)
  obtain ⟨ao, cap, rfl, -, -, -, -, -⟩ := hv
  obtain ⟨ao2, cap2, rfl, -, -, -, -, -⟩ := hv2
  obtain ⟨i0, hi, hz0, hz1, hz2⟩ := info_parts Try.infoI
  have hs9 := bs_mem l
  have hl7 := (bs_len l).1
  have ht9 := bs_mem l2
  have hm7 := (bs_len l2).1
  generalize bs l = s0 at *
  generalize bs l2 = t0 at *
  obtain ⟨n, hn⟩ : ∃ n, s0.length = n := ⟨_, rfl⟩
  obtain ⟨m, hm⟩ : ∃ m, t0.length = m := ⟨_, rfl⟩
  obtain ⟨n3, hn3⟩ : ∃ n3, min n 3 = n3 := ⟨_, rfl⟩
  obtain ⟨m3, hm3⟩ : ∃ m3, min m 3 = m3 := ⟨_, rfl⟩
  have hs9' := take_bs hs9 n3
  have ht9' := take_bs ht9 m3
  have hsl : (s0.take n3).length = n3 := by rw [List.length_take]; omega
  have htl : (t0.take m3).length = m3 := by rw [List.length_take]; omega
  go_enter Try.func8, Try.ntmps8
  go_wp2_with fail
  refine hal.mono ?_
  rintro e w1 ⟨rfl, b1⟩
  go_wp2_with fail
  refine (hba w1 b1).mono ?_
  rintro e w2 ⟨u, rfl, how, b2⟩
  have B2 := bstepR b1 b2
  go_wp2_with fail
  refine (hbb w2 B2).mono ?_
  rintro e w3 ⟨u2, rfl, how2, b3⟩
  have B3 := bstepR B2 b3
  have hRs0 := (RK.of_own how (ss_inK hs9)).below (Nat.le_refl _) b3
  have hRt0 := RK.of_own how2 (ss_inK ht9)
  obtain ⟨uo, uc, rfl, -, ul, um, un⟩ := how.sl
  obtain ⟨to, tc, rfl, -, tl, tm, tn⟩ := how2.sl
  rw [hn] at hRs0 ul ⊢
  rw [hm] at hRt0 tl ⊢
  have hRs := hRs0.cut (show n3 ≤ n by omega)
  have hRt := hRt0.cut (show m3 ≤ m by omega)
  generalize s0.take n3 = ss at *
  generalize t0.take m3 = tt at *
  have hcut1 := run_cutI uo n uc n3 (by omega) ul un
  have hcut2 := run_cutI to m tc m3 (by omega) tl tn
  have hmin1 : (if (3 : Int) < (n : Int) then (3 : Int) else (n : Int)) = (n3 : Int) := by split <;> omega
  have hmin2 : (if (3 : Int) < (m : Int) then (3 : Int) else (m : Int)) = (m3 : Int) := by split <;> omega
  have HN3 : Hid (n3 ≤ 3 ∧ m3 ≤ 3 ∧ n3 ≤ n ∧ m3 ≤ m ∧ n ≤ 7 ∧ m ≤ 7) := ⟨by omega, by omega, by omega, by omega, by omega, by omega⟩
  have hnu : (n3 : Int) ≤ (uc : Int) := by omega
  have hmu : (m3 : Int) ≤ (tc : Int) := by omega
  have HTL : Hid (ss.length = n3 ∧ tt.length = m3) := ⟨hsl, htl⟩
  unfold maxLen at um tm
  clear hal hba hbb b1 b2 b3 B2 how how2 hRs0 hRt0 hn3 hm3 hs9 ht9 hl7 hm7 hn hm hsl htl ul tl
  go_wp2_with (at_builtin; refine wpList_appK _ rfl _ _ 25 rfl .i64 w3.heap.size 3 i0 8 Try.underlying25 hi hz0 hz1 hz2 _ _ [] ss rfl (OwnK.of_nil _ _ _ _) rfl hRs (by have := HN3.out; have := HTL.out; unfold maxLen; simp; omega) (by have := HN3.out; have := HTL.out; simp; omega) (Nat.le_refl _) ?_)
  intro vb wb hob hgb
  have b4 : Below w3.heap.size w3 wb := (OwnK.of_nil .i64 w3.heap.size 3 w3).grown (Below.refl _ _) (Nat.le_refl _) hgb
  have hRt4 := hRt.below (Nat.le_refl _) b4
  have z4 := b4.size
  clear hgb hmin1 hmin2 hcut1 hcut2
  go_wp2_with (at_builtin; refine wpList_appK _ rfl _ _ 25 rfl .i64 w3.heap.size 3 i0 8 Try.underlying25 hi hz0 hz1 hz2 _ _ ss tt rfl hob rfl hRt4 (by have := HN3.out; have := HTL.out; unfold maxLen; omega) (by have := HN3.out; have := HTL.out; omega) z4 ?_)
  intro vc wc hoc hgc
  have b5 := hob.grown b4 z4 hgc
  have hst9 : ∀ z ∈ ss ++ tt, 1 ≤ z ∧ z ≤ 9 := fun z hz => (List.mem_append.1 hz).elim (hs9' z) (ht9' z)
  have hl6 : (ss ++ tt).length ≤ 7 := by have := HN3.out; have := HTL.out; rw [List.length_append]; omega
  have hls : ss.length ≤ 7 := by have := HN3.out; have := HTL.out; omega
  have hlt : tt.length ≤ 7 := by have := HN3.out; have := HTL.out; omega
  have hRb := RK.of_own hoc (ss_inK hst9)
  have B5 := bstepR B3 b5
  obtain ⟨hA1, hA2⟩ := pr_bs ss hs9' hls
  obtain ⟨hB1, hB2⟩ := pr_bs tt ht9' hlt
  obtain ⟨hC1, hC2⟩ := pr_bs (ss ++ tt) hst9 hl6
  obtain ⟨eA, fA⟩ := cnt_bs ss hs9' hls
  obtain ⟨eB, fB⟩ := cnt_bs tt ht9' hlt
  obtain ⟨eC, fC⟩ := cnt_bs (ss ++ tt) hst9 hl6
  have hprod := pr_append ss tt
  have h1 := fun u w h => countI u ss w h
  have h2 := fun u w h => countI u tt w h
  have h3 := fun u w h => countI u (ss ++ tt) w h
  rw [eA, fA] at h1
  rw [eB, fB] at h2
  rw [eC, fC] at h3
  obtain ⟨A, hA⟩ : ∃ A, pr ss = A := ⟨_, rfl⟩
  obtain ⟨D, hD⟩ : ∃ D, pr tt = D := ⟨_, rfl⟩
  obtain ⟨C, hC⟩ : ∃ C, pr (ss ++ tt) = C := ⟨_, rfl⟩
  rw [hA] at h1 hA1 hA2
  rw [hD] at h2 hB1 hB2
  rw [hC] at h3 hC1 hC2
  rw [hA, hD, hC] at hprod
  have HA : Hid (pr ss = A) := hA
  have HD : Hid (pr tt = D) := hD
  have hADC : A * D = C := hprod.symm
  clear hgc hob z4 hRt4 B3 eA fA eB fB eC fC hA hD hC hprod hoc hnu hmu
  have K1 := hRs.below (Nat.le_refl _) b5
  have K2 := hRt.below (Nat.le_refl _) b5
  clear hRs hRt b4 b5
  go_wp2_with fail
  refine (h1 _ wc K1).mono ?_
  rintro e wd ⟨rfl, q1, rfl⟩
  replace K1 := K1.drewN q1
  replace K2 := K2.drewN q1
  replace hRb := hRb.drewN q1
  replace B5 := below_drewR B5 q1
  clear h1
  generalize wc.drewN q1 = wd at *
  go_wp2_with fail
  refine (h2 _ wd K2).mono ?_
  rintro e we ⟨rfl, q2, rfl⟩
  replace K1 := K1.drewN q2
  replace K2 := K2.drewN q2
  replace hRb := hRb.drewN q2
  replace B5 := below_drewR B5 q2
  clear h2
  generalize wd.drewN q2 = we at *
  go_wp2_with fail
  refine (h3 _ we hRb).mono ?_
  rintro e wf ⟨rfl, q3, rfl⟩
  replace K1 := K1.drewN q3
  replace K2 := K2.drewN q3
  replace hRb := hRb.drewN q3
  replace B5 := below_drewR B5 q3
  clear h3
  generalize we.drewN q3 = wf at *
  obtain ⟨r1, r2, r3, r4⟩ := rem_n a A hA1
  have k0 := Int.emod_nonneg a (show A ≠ 0 by omega)
  have k1 := Int.emod_lt_of_pos a (show 0 < A by omega)
  generalize a % A = i at *
  obtain ⟨s1, s2, s3, s4⟩ := rem_n b D hB1
  have j0 := Int.emod_nonneg b (show D ≠ 0 by omega)
  have j1 := Int.emod_lt_of_pos b (show 0 < D by omega)
  generalize b % D = j at *
  obtain ⟨y, hy⟩ : ∃ y, a.tmod A = y := ⟨_, rfl⟩
  rw [hy] at r1 r2 r3 r4
  obtain ⟨x, hx⟩ : ∃ x, b.tmod D = x := ⟨_, rfl⟩
  rw [hx] at s1 s2 s3 s4
  have HR3 : Hid (y < 0 → y + A = i) := r3
  have HR4 : Hid (0 ≤ y → y = i) := r4
  have HS3 : Hid (x < 0 → x + D = j) := s3
  have HS4 : Hid (0 ≤ x → x = j) := s4
  clear r3 r4 s3 s4
  have hm0 : 0 ≤ i * D := Int.mul_nonneg k0 (by omega)
  have hm1 : (i + 1) * D ≤ A * D := Int.mul_le_mul_of_nonneg_right (by omega) (by omega)
  rw [hADC, Int.add_mul, Int.one_mul] at hm1
  have hatj := at_join hs9' ht9' hl6 k0 (by rw [HA.out]; exact k1) j0 (by rw [HD.out]; exact j1)
  rw [HD.out] at hatj
  obtain ⟨M, hM⟩ : ∃ M, i * D = M := ⟨_, rfl⟩
  rw [hM] at hm0 hm1 hatj
  have h4 := fun u d w h h' => atI u d (ss ++ tt) (dgs ss i ++ dgs tt j) w h h'
  rw [hatj.1, hatj.2] at h4
  have H4 : Hid (∀ u d w, RK .i64 w u (ss ++ tt) → RK .i64 w d (dgs ss i ++ dgs tt j) → Calls Try.prog 11 #[u, d] w fun e w' => e = .returned (.tuple #[.int .i64 (M + j), .int .i64 0]) ∧ ∃ q, w' = w.drewN q) := h4
  have H5 : Hid (∀ u w, RK .i64 w u ss → Calls Try.prog 12 #[u, .int .i64 i] w (DgEnd .i64 3 ss i w)) := fun u w h => digitsI u ss i w h (by omega) (by omega) (by omega)
  have H6 : Hid (∀ u w, RK .i64 w u tt → Calls Try.prog 12 #[u, .int .i64 j] w (DgEnd .i64 3 tt j w)) := fun u w h => digitsI u tt j w h (by omega) (by omega) (by omega)
  have HE5 : Hid (dgE ss i = 0) := dgE_in hs9' hls k0 (by rw [HA.out]; exact k1)
  have HE6 : Hid (dgE tt j = 0) := dgE_in ht9' hlt j0 (by rw [HD.out]; exact j1)
  clear h4 hatj
  have hA0b : (A == 0) = false := beq_eq_false_iff_ne.2 (by omega)
  have hD0b : (D == 0) = false := beq_eq_false_iff_ne.2 (by omega)
  have hAb : ¬ A < 1 := by omega
  have hCC : ((C : Int) != C) = false := by simp
  have hlsn : ss.length = n3 := HTL.out.1
  have hltn : tt.length = m3 := HTL.out.2
  have HS : Hid (∀ z ∈ ss, 1 ≤ z ∧ z ≤ 9) := hs9'
  have HT : Hid (∀ z ∈ tt, 1 ≤ z ∧ z ≤ 9) := ht9'
  have HLS : Hid (ss.length = n3) := hlsn
  have HLT : Hid (tt.length = m3) := hltn
  clear hs9' ht9' hst9 hl6 hls hlt hlsn hltn
  by_cases hneg : y < 0
  case pos =>
    have hyk := HR3.out hneg
    clear HR3 HR4
    by_cases hneg2 : x < 0
    case pos =>
      have hxk := HS3.out hneg2
      clear HS3 HS4
      go_wp2_with fail
      refine (H5.out _ wf K1).mono ?_
      intro e w7 hd5
      obtain ⟨g1, rfl, -, hr1, b7⟩ := hd5.yes HE5.out
      rw [HLS.out]
      have X7 : RK .i64 w7 (.slice (some ⟨g1, 0, none⟩) n3 n3) (dgs ss i) := by
        have := RK.of_row (cap := n3) hr1 (dgs_inK HS.out) (by rw [dgs_len, HLS.out]; exact Nat.le_refl _) (by have := HN3.out; unfold maxLen; omega)
        rw [dgs_len, HLS.out] at this; exact this
      replace K2 := K2.below (Nat.le_refl _) b7
      replace hRb := hRb.below (Nat.le_refl _) b7
      replace B5 := bstepR B5 b7
      clear hd5 hr1 b7 K1 H5
      go_wp2_with fail
      refine (H6.out _ w7 K2).mono ?_
      intro e w8 hd6
      obtain ⟨g2, rfl, -, hr2, b8⟩ := hd6.yes HE6.out
      rw [HLT.out]
      have Y8 : RK .i64 w8 (.slice (some ⟨g2, 0, none⟩) m3 m3) (dgs tt j) := by
        have := RK.of_row (cap := m3) hr2 (dgs_inK HT.out) (by rw [dgs_len, HLT.out]; exact Nat.le_refl _) (by have := HN3.out; unfold maxLen; omega)
        rw [dgs_len, HLT.out] at this; exact this
      replace X7 := X7.below (Nat.le_refl _) b8
      replace hRb := hRb.below (Nat.le_refl _) b8
      replace B5 := bstepR B5 b8
      clear hd6 hr2 b8 K2 H6
      go_wp2_with (at_builtin; refine wpList_appK _ rfl _ _ 25 rfl .i64 w8.heap.size 3 i0 8 Try.underlying25 hi hz0 hz1 hz2 _ _ [] (dgs ss i) rfl (OwnK.of_nil _ _ _ _) rfl X7 (by have := HN3.out; unfold maxLen; rw [dgs_len, HLS.out]; simp; omega) (by have := HN3.out; rw [dgs_len, HLS.out]; simp; omega) (Nat.le_refl _) ?_)
      intro vz w9 hoz hgz
      have b9 : Below w8.heap.size w8 w9 := (OwnK.of_nil .i64 w8.heap.size 3 w8).grown (Below.refl _ _) (Nat.le_refl _) hgz
      have z9 := b9.size
      have Y9 := Y8.below (Nat.le_refl _) b9
      clear hgz X7
      go_wp2_with (at_builtin; refine wpList_appK _ rfl _ _ 25 rfl .i64 w8.heap.size 3 i0 8 Try.underlying25 hi hz0 hz1 hz2 _ _ (dgs ss i) (dgs tt j) rfl hoz rfl Y9 (by have := HN3.out; unfold maxLen; rw [dgs_len, HLS.out, dgs_len, HLT.out]; omega) (by have := HN3.out; rw [dgs_len, HLS.out, dgs_len, HLT.out]; omega) z9 ?_)
      intro vy w10 hoy hgy
      have b10 := hoz.grown b9 z9 hgy
      have hin : inK .i64 (dgs ss i ++ dgs tt j) := fun q hq => by
        by_cases hqs : q < (dgs ss i).length
        · rw [getD_left hqs]; exact dgs_inK HS.out q hqs
        · obtain ⟨p, rfl⟩ : ∃ p, q = (dgs ss i).length + p := ⟨q - (dgs ss i).length, by omega⟩
          rw [getD_right]; exact dgs_inK HT.out p (by rw [List.length_append] at hq; omega)
      have Z10 := RK.of_own hoy hin
      replace hRb := hRb.below (Nat.le_refl _) b10
      replace B5 := bstepR B5 b10
      clear hgy hoy hoz b9 b10 z9 Y8 Y9 hin
      go_wp2_with fail
      refine (H4.out _ _ w10 hRb Z10).mono ?_
      rintro e w11 ⟨rfl, q4, rfl⟩
      have HB : Hid (Below w.heap.size w (w10.drewN q4)) := below_drewR B5 q4
      clear hRb Z10 B5 H4
      generalize w10.drewN q4 = w11 at *
      go_wp2
      go_ret
      exact ⟨rfl, HB.out⟩
    case neg =>
      have hxk := (HS4.out (by omega)).symm
      clear HS3 HS4
      subst hxk
      go_wp2_with fail
      refine (H5.out _ wf K1).mono ?_
      intro e w7 hd5
      obtain ⟨g1, rfl, -, hr1, b7⟩ := hd5.yes HE5.out
      rw [HLS.out]
      have X7 : RK .i64 w7 (.slice (some ⟨g1, 0, none⟩) n3 n3) (dgs ss i) := by
        have := RK.of_row (cap := n3) hr1 (dgs_inK HS.out) (by rw [dgs_len, HLS.out]; exact Nat.le_refl _) (by have := HN3.out; unfold maxLen; omega)
        rw [dgs_len, HLS.out] at this; exact this
      replace K2 := K2.below (Nat.le_refl _) b7
      replace hRb := hRb.below (Nat.le_refl _) b7
      replace B5 := bstepR B5 b7
      clear hd5 hr1 b7 K1 H5
      go_wp2_with fail
      refine (H6.out _ w7 K2).mono ?_
      intro e w8 hd6
      obtain ⟨g2, rfl, -, hr2, b8⟩ := hd6.yes HE6.out
      rw [HLT.out]
      have Y8 : RK .i64 w8 (.slice (some ⟨g2, 0, none⟩) m3 m3) (dgs tt j) := by
        have := RK.of_row (cap := m3) hr2 (dgs_inK HT.out) (by rw [dgs_len, HLT.out]; exact Nat.le_refl _) (by have := HN3.out; unfold maxLen; omega)
        rw [dgs_len, HLT.out] at this; exact this
      replace X7 := X7.below (Nat.le_refl _) b8
      replace hRb := hRb.below (Nat.le_refl _) b8
      replace B5 := bstepR B5 b8
      clear hd6 hr2 b8 K2 H6
      go_wp2_with (at_builtin; refine wpList_appK _ rfl _ _ 25 rfl .i64 w8.heap.size 3 i0 8 Try.underlying25 hi hz0 hz1 hz2 _ _ [] (dgs ss i) rfl (OwnK.of_nil _ _ _ _) rfl X7 (by have := HN3.out; unfold maxLen; rw [dgs_len, HLS.out]; simp; omega) (by have := HN3.out; rw [dgs_len, HLS.out]; simp; omega) (Nat.le_refl _) ?_)
      intro vz w9 hoz hgz
      have b9 : Below w8.heap.size w8 w9 := (OwnK.of_nil .i64 w8.heap.size 3 w8).grown (Below.refl _ _) (Nat.le_refl _) hgz
      have z9 := b9.size
      have Y9 := Y8.below (Nat.le_refl _) b9
      clear hgz X7
      go_wp2_with (at_builtin; refine wpList_appK _ rfl _ _ 25 rfl .i64 w8.heap.size 3 i0 8 Try.underlying25 hi hz0 hz1 hz2 _ _ (dgs ss i) (dgs tt j) rfl hoz rfl Y9 (by have := HN3.out; unfold maxLen; rw [dgs_len, HLS.out, dgs_len, HLT.out]; omega) (by have := HN3.out; rw [dgs_len, HLS.out, dgs_len, HLT.out]; omega) z9 ?_)
      intro vy w10 hoy hgy
      have b10 := hoz.grown b9 z9 hgy
      have hin : inK .i64 (dgs ss i ++ dgs tt j) := fun q hq => by
        by_cases hqs : q < (dgs ss i).length
        · rw [getD_left hqs]; exact dgs_inK HS.out q hqs
        · obtain ⟨p, rfl⟩ : ∃ p, q = (dgs ss i).length + p := ⟨q - (dgs ss i).length, by omega⟩
          rw [getD_right]; exact dgs_inK HT.out p (by rw [List.length_append] at hq; omega)
      have Z10 := RK.of_own hoy hin
      replace hRb := hRb.below (Nat.le_refl _) b10
      replace B5 := bstepR B5 b10
      clear hgy hoy hoz b9 b10 z9 Y8 Y9 hin
      go_wp2_with fail
      refine (H4.out _ _ w10 hRb Z10).mono ?_
      rintro e w11 ⟨rfl, q4, rfl⟩
      have HB : Hid (Below w.heap.size w (w10.drewN q4)) := below_drewR B5 q4
      clear hRb Z10 B5 H4
      generalize w10.drewN q4 = w11 at *
      go_wp2
      go_ret
      exact ⟨rfl, HB.out⟩
  case neg =>
    have hyk := (HR4.out (by omega)).symm
    clear HR3 HR4
    subst hyk
    by_cases hneg2 : x < 0
    case pos =>
      have hxk := HS3.out hneg2
      clear HS3 HS4
      go_wp2_with fail
      refine (H5.out _ wf K1).mono ?_
      intro e w7 hd5
      obtain ⟨g1, rfl, -, hr1, b7⟩ := hd5.yes HE5.out
      rw [HLS.out]
      have X7 : RK .i64 w7 (.slice (some ⟨g1, 0, none⟩) n3 n3) (dgs ss i) := by
        have := RK.of_row (cap := n3) hr1 (dgs_inK HS.out) (by rw [dgs_len, HLS.out]; exact Nat.le_refl _) (by have := HN3.out; unfold maxLen; omega)
        rw [dgs_len, HLS.out] at this; exact this
      replace K2 := K2.below (Nat.le_refl _) b7
      replace hRb := hRb.below (Nat.le_refl _) b7
      replace B5 := bstepR B5 b7
      clear hd5 hr1 b7 K1 H5
      go_wp2_with fail
      refine (H6.out _ w7 K2).mono ?_
      intro e w8 hd6
      obtain ⟨g2, rfl, -, hr2, b8⟩ := hd6.yes HE6.out
      rw [HLT.out]
      have Y8 : RK .i64 w8 (.slice (some ⟨g2, 0, none⟩) m3 m3) (dgs tt j) := by
        have := RK.of_row (cap := m3) hr2 (dgs_inK HT.out) (by rw [dgs_len, HLT.out]; exact Nat.le_refl _) (by have := HN3.out; unfold maxLen; omega)
        rw [dgs_len, HLT.out] at this; exact this
      replace X7 := X7.below (Nat.le_refl _) b8
      replace hRb := hRb.below (Nat.le_refl _) b8
      replace B5 := bstepR B5 b8
      clear hd6 hr2 b8 K2 H6
      go_wp2_with (at_builtin; refine wpList_appK _ rfl _ _ 25 rfl .i64 w8.heap.size 3 i0 8 Try.underlying25 hi hz0 hz1 hz2 _ _ [] (dgs ss i) rfl (OwnK.of_nil _ _ _ _) rfl X7 (by have := HN3.out; unfold maxLen; rw [dgs_len, HLS.out]; simp; omega) (by have := HN3.out; rw [dgs_len, HLS.out]; simp; omega) (Nat.le_refl _) ?_)
      intro vz w9 hoz hgz
      have b9 : Below w8.heap.size w8 w9 := (OwnK.of_nil .i64 w8.heap.size 3 w8).grown (Below.refl _ _) (Nat.le_refl _) hgz
      have z9 := b9.size
      have Y9 := Y8.below (Nat.le_refl _) b9
      clear hgz X7
      go_wp2_with (at_builtin; refine wpList_appK _ rfl _ _ 25 rfl .i64 w8.heap.size 3 i0 8 Try.underlying25 hi hz0 hz1 hz2 _ _ (dgs ss i) (dgs tt j) rfl hoz rfl Y9 (by have := HN3.out; unfold maxLen; rw [dgs_len, HLS.out, dgs_len, HLT.out]; omega) (by have := HN3.out; rw [dgs_len, HLS.out, dgs_len, HLT.out]; omega) z9 ?_)
      intro vy w10 hoy hgy
      have b10 := hoz.grown b9 z9 hgy
      have hin : inK .i64 (dgs ss i ++ dgs tt j) := fun q hq => by
        by_cases hqs : q < (dgs ss i).length
        · rw [getD_left hqs]; exact dgs_inK HS.out q hqs
        · obtain ⟨p, rfl⟩ : ∃ p, q = (dgs ss i).length + p := ⟨q - (dgs ss i).length, by omega⟩
          rw [getD_right]; exact dgs_inK HT.out p (by rw [List.length_append] at hq; omega)
      have Z10 := RK.of_own hoy hin
      replace hRb := hRb.below (Nat.le_refl _) b10
      replace B5 := bstepR B5 b10
      clear hgy hoy hoz b9 b10 z9 Y8 Y9 hin
      go_wp2_with fail
      refine (H4.out _ _ w10 hRb Z10).mono ?_
      rintro e w11 ⟨rfl, q4, rfl⟩
      have HB : Hid (Below w.heap.size w (w10.drewN q4)) := below_drewR B5 q4
      clear hRb Z10 B5 H4
      generalize w10.drewN q4 = w11 at *
      go_wp2
      go_ret
      exact ⟨rfl, HB.out⟩
    case neg =>
      have hxk := (HS4.out (by omega)).symm
      clear HS3 HS4
      subst hxk
      go_wp2_with fail
      refine (H5.out _ wf K1).mono ?_
      intro e w7 hd5
      obtain ⟨g1, rfl, -, hr1, b7⟩ := hd5.yes HE5.out
      rw [HLS.out]
      have X7 : RK .i64 w7 (.slice (some ⟨g1, 0, none⟩) n3 n3) (dgs ss i) := by
        have := RK.of_row (cap := n3) hr1 (dgs_inK HS.out) (by rw [dgs_len, HLS.out]; exact Nat.le_refl _) (by have := HN3.out; unfold maxLen; omega)
        rw [dgs_len, HLS.out] at this; exact this
      replace K2 := K2.below (Nat.le_refl _) b7
      replace hRb := hRb.below (Nat.le_refl _) b7
      replace B5 := bstepR B5 b7
      clear hd5 hr1 b7 K1 H5
      go_wp2_with fail
      refine (H6.out _ w7 K2).mono ?_
      intro e w8 hd6
      obtain ⟨g2, rfl, -, hr2, b8⟩ := hd6.yes HE6.out
      rw [HLT.out]
      have Y8 : RK .i64 w8 (.slice (some ⟨g2, 0, none⟩) m3 m3) (dgs tt j) := by
        have := RK.of_row (cap := m3) hr2 (dgs_inK HT.out) (by rw [dgs_len, HLT.out]; exact Nat.le_refl _) (by have := HN3.out; unfold maxLen; omega)
        rw [dgs_len, HLT.out] at this; exact this
      replace X7 := X7.below (Nat.le_refl _) b8
      replace hRb := hRb.below (Nat.le_refl _) b8
      replace B5 := bstepR B5 b8
      clear hd6 hr2 b8 K2 H6
      go_wp2_with (at_builtin; refine wpList_appK _ rfl _ _ 25 rfl .i64 w8.heap.size 3 i0 8 Try.underlying25 hi hz0 hz1 hz2 _ _ [] (dgs ss i) rfl (OwnK.of_nil _ _ _ _) rfl X7 (by have := HN3.out; unfold maxLen; rw [dgs_len, HLS.out]; simp; omega) (by have := HN3.out; rw [dgs_len, HLS.out]; simp; omega) (Nat.le_refl _) ?_)
      intro vz w9 hoz hgz
      have b9 : Below w8.heap.size w8 w9 := (OwnK.of_nil .i64 w8.heap.size 3 w8).grown (Below.refl _ _) (Nat.le_refl _) hgz
      have z9 := b9.size
      have Y9 := Y8.below (Nat.le_refl _) b9
      clear hgz X7
      go_wp2_with (at_builtin; refine wpList_appK _ rfl _ _ 25 rfl .i64 w8.heap.size 3 i0 8 Try.underlying25 hi hz0 hz1 hz2 _ _ (dgs ss i) (dgs tt j) rfl hoz rfl Y9 (by have := HN3.out; unfold maxLen; rw [dgs_len, HLS.out, dgs_len, HLT.out]; omega) (by have := HN3.out; rw [dgs_len, HLS.out, dgs_len, HLT.out]; omega) z9 ?_)
      intro vy w10 hoy hgy
      have b10 := hoz.grown b9 z9 hgy
      have hin : inK .i64 (dgs ss i ++ dgs tt j) := fun q hq => by
        by_cases hqs : q < (dgs ss i).length
        · rw [getD_left hqs]; exact dgs_inK HS.out q hqs
        · obtain ⟨p, rfl⟩ : ∃ p, q = (dgs ss i).length + p := ⟨q - (dgs ss i).length, by omega⟩
          rw [getD_right]; exact dgs_inK HT.out p (by rw [List.length_append] at hq; omega)
      have Z10 := RK.of_own hoy hin
      replace hRb := hRb.below (Nat.le_refl _) b10
      replace B5 := bstepR B5 b10
      clear hgy hoy hoz b9 b10 z9 Y8 Y9 hin
      go_wp2_with fail
      refine (H4.out _ _ w10 hRb Z10).mono ?_
      rintro e w11 ⟨rfl, q4, rfl⟩
      have HB : Hid (Below w.heap.size w (w10.drewN q4)) := below_drewR B5 q4
      clear hRb Z10 B5 H4
      generalize w10.drewN q4 = w11 at *
      go_wp2
      go_ret
      exact ⟨rfl, HB.out⟩
end Go.Proofs.Ytfanomoijjjcmaa
