/-
  Proved here: RadixBack answers true.
-/
import Derived.Test.YtfanomoijjjcmaaRadF
namespace Go.Proofs.Ytfanomoijjjcmaa
open Go.RowKit Go.Shelf

theorem rem_n (a N : Int) (hN : 1 ≤ N) : -N < a.tmod N ∧ a.tmod N < N ∧ (a.tmod N < 0 → a.tmod N + N = a % N) ∧ (0 ≤ a.tmod N → a.tmod N = a % N) := by
  rcases Int.le_total 0 a with h | h
  · rw [Int.tmod_eq_emod_of_nonneg h]
    have := Int.emod_nonneg a (show N ≠ 0 by omega)
    have := Int.emod_lt_of_pos a (show 0 < N by omega)
    omega
  · obtain ⟨y, rfl⟩ : ∃ y, a = -y := ⟨-a, by omega⟩
    rw [Int.neg_tmod, Int.tmod_eq_emod_of_nonneg (by omega)]
    have h1 := Int.emod_nonneg y (show N ≠ 0 by omega)
    have h2 := Int.emod_lt_of_pos y (show 0 < N by omega)
    have e := Int.mul_ediv_add_emod y N
    by_cases hz : y % N = 0
    · have : (-y) % N = 0 := Int.emod_eq_zero_of_dvd ((Int.dvd_neg).2 (Int.dvd_of_emod_eq_zero hz))
      rw [hz, this]; omega
    · have : (-y) % N = N - y % N := mod_of (q := -(y / N) - 1) (by rw [Int.mul_sub, Int.mul_neg, Int.mul_one]; omega) (by omega) (by omega)
      rw [this]; omega
theorem dgs_inK {ss : List Int} {a : Int} (h : ∀ z ∈ ss, 1 ≤ z ∧ z ≤ 9) : inK .i64 (dgs ss a) := fun i hi => by
  rw [dgs_len] at hi
  have hb := dig_bd ss a (fun z hz => (h z hz).1) i hi
  have hs : ss.getD i 0 ≤ 9 := by rw [List.getD_eq_getElem?_getD, List.getElem?_eq_getElem hi]; exact (h _ (List.getElem_mem hi)).2
  rw [dgs_get ss a i hi, min_i64, max_i64]
  omega
theorem ss_inK {ss : List Int} (h : ∀ z ∈ ss, 1 ≤ z ∧ z ≤ 9) : inK .i64 ss := fun i hi => by
  have hs := h _ (List.getElem_mem hi)
  rw [List.getD_eq_getElem?_getD, List.getElem?_eq_getElem hi, min_i64, max_i64]
  have : (some ss[i]).getD 0 = ss[i] := rfl
  rw [this]; omega
theorem at_back {ss : List Int} {a : Int} (h : ∀ z ∈ ss, 1 ≤ z ∧ z ≤ 9) (hl : ss.length ≤ 7) (h0 : 0 ≤ a) (h1 : a < pr ss) : atE ss (dgs ss a) = 0 ∧ atN ss (dgs ss a) = a := by
  have h9 : ∀ z ∈ ss, 1 ≤ z := fun z hz => (h z hz).1
  have hbad : bad ss (dgs ss a) = false := bad_not fun i hi => by
    have := dig_bd ss a h9 i hi
    rw [badAt_eq, dgs_get ss a i hi]
    rw [isNeg, decide_eq_false (by omega), decide_eq_false (by omega)]; rfl
  obtain ⟨e1, e2⟩ := at_ok (cnt_bs ss h hl).1 (dgs_len ss a) hbad
  exact ⟨e1, by rw [e2, pl_back ss a h9 h0 h1]⟩
theorem dgE_in {ss : List Int} {a : Int} (h : ∀ z ∈ ss, 1 ≤ z ∧ z ≤ 9) (hl : ss.length ≤ 7) (h0 : 0 ≤ a) (h1 : a < pr ss) : dgE ss a = 0 := by
  obtain ⟨e1, e2⟩ := cnt_bs ss h hl
  unfold dgE
  rw [if_neg (by simp [e1]), if_neg (by rw [e2]; omega)]
theorem dgE_out {ss : List Int} {a : Int} (h : ∀ z ∈ ss, 1 ≤ z ∧ z ≤ 9) (hl : ss.length ≤ 7) (h1 : pr ss ≤ a) : dgE ss a = 3 := by
  obtain ⟨e1, e2⟩ := cnt_bs ss h hl
  unfold dgE
  rw [if_neg (by simp [e1]), if_pos (by rw [e2]; omega)]
theorem drew3 (w : World) (a b c : Nat) : ∃ q, ((w.drewN a).drewN b).drewN c = w.drewN q := ⟨a + (b + c), by rw [drewR_add, drewR_add]⟩
theorem RK.at {k : IntKind} {w : World} {ao : Option Addr} {n cap : Nat} {zs : List Int} (h : RK k w (.slice ao n cap) zs) {i : Nat} (hi : i < n) : ∃ g o, ao = some ⟨g, o, none⟩ ∧ w.cell? ⟨g, o + i, none⟩ = some (.int k (zs.getD i 0)) := by
  obtain ⟨ao', cap', e, _, _, _, _, hc⟩ := h
  simp only [Value.slice.injEq] at e
  obtain ⟨rfl, rfl, rfl⟩ := e
  exact hc i hi
theorem RK.len {k : IntKind} {w : World} {ao : Option Addr} {n cap : Nat} {zs : List Int} (h : RK k w (.slice ao n cap) zs) : zs.length = n := by
  obtain ⟨ao', cap', e, _⟩ := h
  simp only [Value.slice.injEq] at e
  exact e.2.1.symm
set_option maxRecDepth 100000 in
set_option maxHeartbeats 6400000 in
theorem radixBack_top (v : Value) (l : List Int) (a : Int) (w : World) (hv : RK .i64 w v l) (ha : (Lit.int .i64 a).wf = true) :
    Calls Try.prog 7 #[v, .int .i64 a] w fun e w' => e = .returned (.bool true) ∧ Below w.heap.size w w' := by
  have ha1 : IntKind.i64.min ≤ a ∧ a ≤ IntKind.i64.max := by simpa [Lit.wf] using ha
  rw [min_i64, max_i64] at ha1
  obtain ⟨ha1, ha2⟩ := ha1
  clear ha
  have hal := aliveR w
  have hba := fun w' h => bases_any v l w' (hv.below (Nat.le_refl _) h)
  obtain ⟨ao, cap, rfl, -, -, -, -, -⟩ := hv
  have hb9 := bs_mem l
  have hl7 := (bs_len l).1
  obtain ⟨hN1, hN2⟩ := pr_bs _ hb9 hl7
  obtain ⟨hcE, hcN⟩ := cnt_bs _ hb9 hl7
  generalize bs l = ss at *
  obtain ⟨N, hN⟩ : ∃ N, pr ss = N := ⟨_, rfl⟩
  rw [hN] at hN1 hN2 hcN
  obtain ⟨r1, r2, r3, r4⟩ := rem_n a N hN1
  have k0 := Int.emod_nonneg a (show N ≠ 0 by omega)
  have k1 := Int.emod_lt_of_pos a (show 0 < N by omega)
  generalize a % N = k at *
  obtain ⟨y, hy⟩ : ∃ y, a.tmod N = y := ⟨_, rfl⟩
  rw [hy] at r1 r2 r3 r4
  have HR3 : Hid (y < 0 → y + N = k) := r3
  have HR4 : Hid (0 ≤ y → y = k) := r4
  have HPN : Hid (pr ss = N) := hN
  clear r3 r4 hN
  have hone : ∀ z ∈ ss, 1 ≤ z := fun z hz => (hb9 z hz).1
  obtain ⟨n, hn⟩ : ∃ n, ss.length = n := ⟨_, rfl⟩
  have HN : Hid (ss.length = n) := hn
  have hcu : ∀ u w, RK .i64 w u ss → _ := fun u w h => countI u ss w h
  rw [hcN, hcE] at hcu
  have HCU : Hid (∀ u w, RK .i64 w u ss → Calls Try.prog 9 #[u] w fun e w' => e = .returned (.tuple #[.int .i64 N, .int .i64 0]) ∧ ∃ q, w' = w.drewN q) := hcu
  have HD1 : Hid (∀ u w, RK .i64 w u ss → Calls Try.prog 12 #[u, .int .i64 k] w (DgEnd .i64 3 ss k w)) := fun u w h => digitsI u ss k w h (by omega) (by omega) (by omega)
  have HD2 : Hid (∀ u w, RK .i64 w u ss → Calls Try.prog 12 #[u, .int .i64 (k + 1)] w (DgEnd .i64 3 ss (k + 1) w)) := fun u w h => digitsI u ss (k + 1) w h (by omega) (by omega) (by omega)
  have HE1 : Hid (dgE ss k = 0) := dgE_in hb9 hl7 k0 (by rw [HPN.out]; exact k1)
  have hab := at_back hb9 hl7 k0 (by rw [HPN.out]; exact k1)
  have HA : Hid (∀ u d w, RK .i64 w u ss → RK .i64 w d (dgs ss k) → Calls Try.prog 11 #[u, d] w fun e w' => e = .returned (.tuple #[.int .i64 k, .int .i64 0]) ∧ ∃ q, w' = w.drewN q) := fun u d w h1 h2 => by
    have := atI u d ss (dgs ss k) w h1 h2
    rw [hab.1, hab.2] at this
    exact this
  clear hcu hab hcN hcE
  have hNb : ¬ N < 1 := by omega
  have hN0 : ¬ N = 0 := by omega
  have hN0b : (N == 0) = false := beq_eq_false_iff_ne.2 hN0
  go_enter Try.func7, Try.ntmps7
  go_wp2_with fail
  refine hal.mono ?_
  rintro e w1 ⟨rfl, b1⟩
  go_wp2_with fail
  refine (hba w1 b1).mono ?_
  rintro e w2 ⟨u, rfl, how, b2⟩
  have B2 := bstepR b1 b2
  have hRu : RK .i64 w2 u ss := RK.of_own how (ss_inK hb9)
  obtain ⟨uo, ucap, rfl, -⟩ := how.sl
  clear hal hba b1 b2 how
  rw [hn] at hRu ⊢
  go_wp2_with fail
  refine (HCU.out _ w2 hRu).mono ?_
  rintro e w3 ⟨rfl, q3, rfl⟩
  have hRu3 := hRu.drewN q3
  have B3 := below_drewR B2 q3
  clear hRu B2 HCU
  generalize w2.drewN q3 = w3 at *
  by_cases hneg : y < 0
  case pos =>
    have hyk := HR3.out hneg
    clear HR3 HR4
    go_wp2_with fail
    refine (HD1.out _ w3 hRu3).mono ?_
    intro e w4 hdg
    obtain ⟨g1, rfl, hg1, hrow1, b4⟩ := hdg.yes HE1.out
    have hRd : RK .i64 w4 (.slice (some ⟨g1, 0, none⟩) n n) (dgs ss k) := by
      have := RK.of_row (cap := n) hrow1 (dgs_inK hb9) (by rw [dgs_len, HN.out]; exact Nat.le_refl _) (by unfold maxLen; omega)
      rw [dgs_len, HN.out] at this; exact this
    rw [HN.out]
    have hRu4 := hRu3.below (Nat.le_refl _) b4
    have B4 := bstepR B3 b4
    clear hdg hg1 hrow1 b4 hRu3 B3 HD1 HE1
    go_wp2_with fail
    refine (HA.out _ _ w4 hRu4 hRd).mono ?_
    rintro e w5 ⟨rfl, q5, rfl⟩
    have hRu5 := hRu4.drewN q5
    have hRd5 := hRd.drewN q5
    have B5 := below_drewR B4 q5
    clear hRu4 hRd B4 HA
    generalize w4.drewN q5 = w5 at *
    go_wp2_with fail
    refine (HD2.out _ w5 hRu5).mono ?_
    intro e w6 hdg2
    by_cases hlast : k + 1 = N
    · have he3 := dgE_out hb9 hl7 (a := k + 1) (by rw [HPN.out]; omega)
      obtain ⟨rfl, b6⟩ := hdg2.no (by rw [he3]; decide)
      rw [he3]
      have hRu6 := hRu5.below (Nat.le_refl _) b6
      have hRd6 := hRd5.below (Nat.le_refl _) b6
      have HB6 : Hid (Below w.heap.size w w6) := bstepR B5 b6
      have HL : Hid (∀ i, i < n → digAt ss k i = ss.getD i 0 - 1) := fun i hi => last_all hone (by rw [HPN.out]; exact hlast) i (by rw [HN.out]; exact hi)
      have HBD : Hid (∀ i, i < n → 0 ≤ digAt ss k i ∧ ss.getD i 0 ≤ 9) := fun i hi => ⟨(dig_bd ss k hone i (by rw [HN.out]; exact hi)).1, by rw [List.getD_eq_getElem?_getD, List.getElem?_eq_getElem (by rw [HN.out]; exact hi)]; exact (hb9 _ (List.getElem_mem (by rw [HN.out]; exact hi))).2⟩
      have HG : Hid (∀ i, i < n → (dgs ss k).getD i 0 = digAt ss k i) := fun i hi => dgs_get ss k i (by rw [HN.out]; exact hi)
      have hlb : (k + 1 == N) = true := by rw [hlast]; simp
      have HLA : Hid (k + 1 = N) := hlast
      clear hdg2 he3 b6 hRu5 hRd5 B5 hlast hone hb9
      go_wp2
      go_loopw [16] (fun t wr => ∃ i : Nat, i ≤ n ∧ t = .int .i64 i ∧ ∃ q, wr = w6.drewN q) (fun t _ => n - (intOf t).toNat)
      case atStart => exact ⟨0, Nat.zero_le _, rfl, 0, rfl⟩
      case round =>
        obtain ⟨i, hin, rfl, q, rfl⟩ := hrel
        by_cases hlt : i < n
        · have hlI : (i : Int) < (n : Int) := by omega
          obtain ⟨b, o, rfl, c0⟩ := hRu6.at hlt
          obtain ⟨b', o', e', c1⟩ := hRd6.at hlt
          simp only [Option.some.injEq, Addr.mk.injEq, and_true] at e'
          obtain ⟨rfl, rfl⟩ := e'
          rw [HG.out i hlt, HL.out i hlt, Nat.zero_add] at c1
          obtain ⟨d1, d2⟩ := HBD.out i hlt
          rw [HL.out i hlt] at d1
          clear hRu6 hRd6
          generalize ss.getD i 0 = x at *
          have hne : ((x - 1 : Int) != x - 1) = false := by simp
          go_wp2
          go_quiet (fail)
          go_wp2
          go_roundw
          case rel => exact ⟨i + 1, by omega, by go_num, _, rfl⟩
          case measure => simp [intOf]; omega
        · have hlI : ¬ (i : Int) < (n : Int) := by omega
          clear hRu6 hRd6
          go_wp2
          go_ret
          exact ⟨rfl, below_drewR HB6.out q⟩
    · have hk2 : k + 1 < N := by omega
      obtain ⟨g2, rfl, hg2, hrow2, b6⟩ := hdg2.yes (dgE_in hb9 hl7 (by omega) (by rw [HPN.out]; exact hk2))
      have hRn : RK .i64 w6 (.slice (some ⟨g2, 0, none⟩) n n) (dgs ss (k + 1)) := by
        have := RK.of_row (cap := n) hrow2 (dgs_inK hb9) (by rw [dgs_len, HN.out]; exact Nat.le_refl _) (by unfold maxLen; omega)
        rw [dgs_len, HN.out] at this; exact this
      rw [HN.out]
      have hRu6 := hRu5.below (Nat.le_refl _) b6
      have hRd6 := hRd5.below (Nat.le_refl _) b6
      have HB6 : Hid (Below w.heap.size w w6) := bstepR B5 b6
      have HG : Hid (∀ i, i < n → (dgs ss k).getD i 0 = digAt ss k i) := fun i hi => dgs_get ss k i (by rw [HN.out]; exact hi)
      have HG2 : Hid (∀ i, i < n → (dgs ss (k + 1)).getD i 0 = digAt ss (k + 1) i) := fun i hi => dgs_get ss (k + 1) i (by rw [HN.out]; exact hi)
      have HBD : Hid (∀ a i, i < n → 0 ≤ digAt ss a i ∧ digAt ss a i ≤ 9 ∧ 1 ≤ ss.getD i 0 ∧ ss.getD i 0 ≤ 9) := fun a i hi => by
        have h1 := dig_bd ss a hone i (by rw [HN.out]; exact hi)
        have h2 := hb9 _ (List.getElem_mem (show i < ss.length by rw [HN.out]; exact hi))
        have h3 : ss.getD i 0 = ss[i]'(by rw [HN.out]; exact hi) := by rw [List.getD_eq_getElem?_getD, List.getElem?_eq_getElem (by rw [HN.out]; exact hi)]; rfl
        rw [h3] at h1 ⊢; omega
      have HD0 : Hid (¬ pr (ss.drop 0) ∣ k + 1) := fun h => by
        rw [List.drop_zero, HPN.out] at h
        have := Int.le_of_dvd (by omega) h
        omega
      have HDN : Hid (pr (ss.drop n) ∣ k + 1) := by have := last_dvd ss k; rw [HN.out] at this; exact this
      have HN9 : Hid (∀ i, i < n → pr (ss.drop (i + 1)) ∣ k + 1 → digAt ss k i = ss.getD i 0 - 1 → pr (ss.drop i) ∣ k + 1 ∧ digAt ss (k + 1) i = 0) := fun i hi h1 h2 => next_nine hone (by rw [HN.out]; exact hi) h1 h2
      have HNM : Hid (∀ i, i < n → pr (ss.drop (i + 1)) ∣ k + 1 → digAt ss k i ≠ ss.getD i 0 - 1 → ¬ pr (ss.drop i) ∣ k + 1 ∧ digAt ss (k + 1) i = digAt ss k i + 1) := fun i hi h1 h2 => next_more hone (by rw [HN.out]; exact hi) h1 h2
      have HNS : Hid (∀ i j, j < i → ¬ pr (ss.drop i) ∣ k + 1 → digAt ss (k + 1) j = digAt ss k j) := fun i j h1 h2 => next_same hone h1 h2
      have hlb : (k + 1 == N) = false := beq_eq_false_iff_ne.2 hlast
      clear hdg2 b6 hRu5 hRd5 B5 hlast hone hb9 hg2 hrow2
      go_wp2
      go_loopw [17] (fun t wr => ∃ j : Nat, j ≤ n ∧ t = .int .i64 ((j : Int) - 1) ∧ Hid (pr (ss.drop j) ∣ k + 1) ∧ ∃ q, wr = w6.drewN q) (fun t _ => (intOf t + 1).toNat)
      case atStart => exact ⟨n, Nat.le_refl _, rfl, HDN, 0, rfl⟩
      case round =>
        obtain ⟨j, hjn, rfl, HJ, q, rfl⟩ := hrel
        cases j with
        | zero => exact absurd HJ.out HD0.out
        | succ i =>
          have hlt : i < n := by omega
          have hii : ((i + 1 : Nat) : Int) - 1 = (i : Int) := by omega
          rw [hii]
          have hge : (0 : Int) ≤ (i : Int) := by omega
          have hng : decide ((i : Int) < 0) = false := decide_eq_false (by omega)
          have hlI : (i : Int) < (n : Int) := by omega
          obtain ⟨b, o, rfl, c0⟩ := hRu6.at hlt
          obtain ⟨b', o', e', c1⟩ := hRd6.at hlt
          simp only [Option.some.injEq, Addr.mk.injEq, and_true] at e'
          obtain ⟨rfl, rfl⟩ := e'
          obtain ⟨b'', o'', e'', c2⟩ := hRn.at hlt
          simp only [Option.some.injEq, Addr.mk.injEq, and_true] at e''
          obtain ⟨rfl, rfl⟩ := e''
          rw [HG.out i hlt, Nat.zero_add] at c1
          rw [HG2.out i hlt, Nat.zero_add] at c2
          obtain ⟨d1, d2, d3, d4⟩ := HBD.out k i hlt
          by_cases h9 : digAt ss k i = ss.getD i 0 - 1
          · obtain ⟨p1, p2⟩ := HN9.out i hlt HJ.out h9
            rw [p2] at c2
            rw [h9] at c1 d1 d2
            have HP : Hid (pr (ss.drop i) ∣ k + 1) := p1
            clear hRu6 hRd6 hRn p1 p2 h9 hii
            generalize ss.getD i 0 = x at *
            have hne : ((x - 1 : Int) == x - 1) = true := by simp
            go_wp2
            go_quiet (fail)
            go_wp2
            go_roundw
            case rel => exact ⟨i, by omega, rfl, HP, _, rfl⟩
            case measure => simp [intOf] <;> omega
          · obtain ⟨p1, p2⟩ := HNM.out i hlt HJ.out h9
            have HS : Hid (∀ j, j < i → digAt ss (k + 1) j = digAt ss k j) := fun j hj => HNS.out i j hj p1
            rw [p2] at c2
            have h9b : (digAt ss k i == ss.getD i 0 - 1) = false := beq_eq_false_iff_ne.2 h9
            clear p1 p2 h9 hii
            generalize ss.getD i 0 = x at *
            generalize digAt ss k i = z at *
            have hne : ((z + 1 : Int) != z + 1) = false := by simp
            have HRd6 : Hid (RK .i64 w6 (.slice (some ⟨g1, 0, none⟩) n n) (dgs ss k)) := hRd6
            have HRn : Hid (RK .i64 w6 (.slice (some ⟨g2, 0, none⟩) n n) (dgs ss (k + 1))) := hRn
            clear hRd6 hRn hRu6
            go_wp2
            go_quiet (fail)
            go_wp2
            go_quiet (fail)
            go_wp2

            go_loopw [18] (fun t wr => ∃ j : Nat, j ≤ i ∧ t = .int .i64 j ∧ ∃ q, wr = w6.drewN q) (fun t _ => i - (intOf t).toNat)
            case atStart => exact ⟨0, Nat.zero_le _, rfl, drew3 _ _ _ _⟩
            case round =>
              obtain ⟨j, hji, rfl, q', rfl⟩ := hrel
              by_cases hlj : j < i
              · have hljI : (j : Int) < (i : Int) := by omega
                have hjn2 : (j : Int) < (n : Int) := by omega
                have hjn3 : j < n := by omega
                clear c0 c1 c2 h9b hne
                obtain ⟨b', o', e', c1⟩ := HRd6.out.at hjn3
                simp only [Option.some.injEq, Addr.mk.injEq, and_true] at e'
                obtain ⟨rfl, rfl⟩ := e'
                obtain ⟨b'', o'', e'', c2⟩ := HRn.out.at hjn3
                simp only [Option.some.injEq, Addr.mk.injEq, and_true] at e''
                obtain ⟨rfl, rfl⟩ := e''
                rw [HG.out j hjn3, Nat.zero_add] at c1
                rw [HG2.out j hjn3, HS.out j hlj, Nat.zero_add] at c2
                generalize digAt ss k j = zz at *
                have hne : ((zz : Int) != zz) = false := by simp
                go_wp2
                go_quiet (fail)
                go_wp2
                go_roundw
                case rel => exact ⟨j + 1, by omega, by go_num, _, rfl⟩
                case measure => simp [intOf]; omega
              · have hljI : ¬ (j : Int) < (i : Int) := by omega
                clear c0 c1 c2 h9b hne
                go_wp2
                go_ret
                exact ⟨rfl, below_drewR HB6.out q'⟩
  case neg =>
    have hyk := (HR4.out (by omega)).symm
    clear HR3 HR4
    subst hyk
    go_wp2_with fail
    refine (HD1.out _ w3 hRu3).mono ?_
    intro e w4 hdg
    obtain ⟨g1, rfl, hg1, hrow1, b4⟩ := hdg.yes HE1.out
    have hRd : RK .i64 w4 (.slice (some ⟨g1, 0, none⟩) n n) (dgs ss k) := by
      have := RK.of_row (cap := n) hrow1 (dgs_inK hb9) (by rw [dgs_len, HN.out]; exact Nat.le_refl _) (by unfold maxLen; omega)
      rw [dgs_len, HN.out] at this; exact this
    rw [HN.out]
    have hRu4 := hRu3.below (Nat.le_refl _) b4
    have B4 := bstepR B3 b4
    clear hdg hg1 hrow1 b4 hRu3 B3 HD1 HE1
    go_wp2_with fail
    refine (HA.out _ _ w4 hRu4 hRd).mono ?_
    rintro e w5 ⟨rfl, q5, rfl⟩
    have hRu5 := hRu4.drewN q5
    have hRd5 := hRd.drewN q5
    have B5 := below_drewR B4 q5
    clear hRu4 hRd B4 HA
    generalize w4.drewN q5 = w5 at *
    go_wp2_with fail
    refine (HD2.out _ w5 hRu5).mono ?_
    intro e w6 hdg2
    by_cases hlast : k + 1 = N
    · have he3 := dgE_out hb9 hl7 (a := k + 1) (by rw [HPN.out]; omega)
      obtain ⟨rfl, b6⟩ := hdg2.no (by rw [he3]; decide)
      rw [he3]
      have hRu6 := hRu5.below (Nat.le_refl _) b6
      have hRd6 := hRd5.below (Nat.le_refl _) b6
      have HB6 : Hid (Below w.heap.size w w6) := bstepR B5 b6
      have HL : Hid (∀ i, i < n → digAt ss k i = ss.getD i 0 - 1) := fun i hi => last_all hone (by rw [HPN.out]; exact hlast) i (by rw [HN.out]; exact hi)
      have HBD : Hid (∀ i, i < n → 0 ≤ digAt ss k i ∧ ss.getD i 0 ≤ 9) := fun i hi => ⟨(dig_bd ss k hone i (by rw [HN.out]; exact hi)).1, by rw [List.getD_eq_getElem?_getD, List.getElem?_eq_getElem (by rw [HN.out]; exact hi)]; exact (hb9 _ (List.getElem_mem (by rw [HN.out]; exact hi))).2⟩
      have HG : Hid (∀ i, i < n → (dgs ss k).getD i 0 = digAt ss k i) := fun i hi => dgs_get ss k i (by rw [HN.out]; exact hi)
      have hlb : (k + 1 == N) = true := by rw [hlast]; simp
      have HLA : Hid (k + 1 = N) := hlast
      clear hdg2 he3 b6 hRu5 hRd5 B5 hlast hone hb9
      go_wp2
      go_loopw [16] (fun t wr => ∃ i : Nat, i ≤ n ∧ t = .int .i64 i ∧ ∃ q, wr = w6.drewN q) (fun t _ => n - (intOf t).toNat)
      case atStart => exact ⟨0, Nat.zero_le _, rfl, 0, rfl⟩
      case round =>
        obtain ⟨i, hin, rfl, q, rfl⟩ := hrel
        by_cases hlt : i < n
        · have hlI : (i : Int) < (n : Int) := by omega
          obtain ⟨b, o, rfl, c0⟩ := hRu6.at hlt
          obtain ⟨b', o', e', c1⟩ := hRd6.at hlt
          simp only [Option.some.injEq, Addr.mk.injEq, and_true] at e'
          obtain ⟨rfl, rfl⟩ := e'
          rw [HG.out i hlt, HL.out i hlt, Nat.zero_add] at c1
          obtain ⟨d1, d2⟩ := HBD.out i hlt
          rw [HL.out i hlt] at d1
          clear hRu6 hRd6
          generalize ss.getD i 0 = x at *
          have hne : ((x - 1 : Int) != x - 1) = false := by simp
          go_wp2
          go_quiet (fail)
          go_wp2
          go_roundw
          case rel => exact ⟨i + 1, by omega, by go_num, _, rfl⟩
          case measure => simp [intOf]; omega
        · have hlI : ¬ (i : Int) < (n : Int) := by omega
          clear hRu6 hRd6
          go_wp2
          go_ret
          exact ⟨rfl, below_drewR HB6.out q⟩
    · have hk2 : k + 1 < N := by omega
      obtain ⟨g2, rfl, hg2, hrow2, b6⟩ := hdg2.yes (dgE_in hb9 hl7 (by omega) (by rw [HPN.out]; exact hk2))
      have hRn : RK .i64 w6 (.slice (some ⟨g2, 0, none⟩) n n) (dgs ss (k + 1)) := by
        have := RK.of_row (cap := n) hrow2 (dgs_inK hb9) (by rw [dgs_len, HN.out]; exact Nat.le_refl _) (by unfold maxLen; omega)
        rw [dgs_len, HN.out] at this; exact this
      rw [HN.out]
      have hRu6 := hRu5.below (Nat.le_refl _) b6
      have hRd6 := hRd5.below (Nat.le_refl _) b6
      have HB6 : Hid (Below w.heap.size w w6) := bstepR B5 b6
      have HG : Hid (∀ i, i < n → (dgs ss k).getD i 0 = digAt ss k i) := fun i hi => dgs_get ss k i (by rw [HN.out]; exact hi)
      have HG2 : Hid (∀ i, i < n → (dgs ss (k + 1)).getD i 0 = digAt ss (k + 1) i) := fun i hi => dgs_get ss (k + 1) i (by rw [HN.out]; exact hi)
      have HBD : Hid (∀ a i, i < n → 0 ≤ digAt ss a i ∧ digAt ss a i ≤ 9 ∧ 1 ≤ ss.getD i 0 ∧ ss.getD i 0 ≤ 9) := fun a i hi => by
        have h1 := dig_bd ss a hone i (by rw [HN.out]; exact hi)
        have h2 := hb9 _ (List.getElem_mem (show i < ss.length by rw [HN.out]; exact hi))
        have h3 : ss.getD i 0 = ss[i]'(by rw [HN.out]; exact hi) := by rw [List.getD_eq_getElem?_getD, List.getElem?_eq_getElem (by rw [HN.out]; exact hi)]; rfl
        rw [h3] at h1 ⊢; omega
      have HD0 : Hid (¬ pr (ss.drop 0) ∣ k + 1) := fun h => by
        rw [List.drop_zero, HPN.out] at h
        have := Int.le_of_dvd (by omega) h
        omega
      have HDN : Hid (pr (ss.drop n) ∣ k + 1) := by have := last_dvd ss k; rw [HN.out] at this; exact this
      have HN9 : Hid (∀ i, i < n → pr (ss.drop (i + 1)) ∣ k + 1 → digAt ss k i = ss.getD i 0 - 1 → pr (ss.drop i) ∣ k + 1 ∧ digAt ss (k + 1) i = 0) := fun i hi h1 h2 => next_nine hone (by rw [HN.out]; exact hi) h1 h2
      have HNM : Hid (∀ i, i < n → pr (ss.drop (i + 1)) ∣ k + 1 → digAt ss k i ≠ ss.getD i 0 - 1 → ¬ pr (ss.drop i) ∣ k + 1 ∧ digAt ss (k + 1) i = digAt ss k i + 1) := fun i hi h1 h2 => next_more hone (by rw [HN.out]; exact hi) h1 h2
      have HNS : Hid (∀ i j, j < i → ¬ pr (ss.drop i) ∣ k + 1 → digAt ss (k + 1) j = digAt ss k j) := fun i j h1 h2 => next_same hone h1 h2
      have hlb : (k + 1 == N) = false := beq_eq_false_iff_ne.2 hlast
      clear hdg2 b6 hRu5 hRd5 B5 hlast hone hb9 hg2 hrow2
      go_wp2
      go_loopw [17] (fun t wr => ∃ j : Nat, j ≤ n ∧ t = .int .i64 ((j : Int) - 1) ∧ Hid (pr (ss.drop j) ∣ k + 1) ∧ ∃ q, wr = w6.drewN q) (fun t _ => (intOf t + 1).toNat)
      case atStart => exact ⟨n, Nat.le_refl _, rfl, HDN, 0, rfl⟩
      case round =>
        obtain ⟨j, hjn, rfl, HJ, q, rfl⟩ := hrel
        cases j with
        | zero => exact absurd HJ.out HD0.out
        | succ i =>
          have hlt : i < n := by omega
          have hii : ((i + 1 : Nat) : Int) - 1 = (i : Int) := by omega
          rw [hii]
          have hge : (0 : Int) ≤ (i : Int) := by omega
          have hng : decide ((i : Int) < 0) = false := decide_eq_false (by omega)
          have hlI : (i : Int) < (n : Int) := by omega
          obtain ⟨b, o, rfl, c0⟩ := hRu6.at hlt
          obtain ⟨b', o', e', c1⟩ := hRd6.at hlt
          simp only [Option.some.injEq, Addr.mk.injEq, and_true] at e'
          obtain ⟨rfl, rfl⟩ := e'
          obtain ⟨b'', o'', e'', c2⟩ := hRn.at hlt
          simp only [Option.some.injEq, Addr.mk.injEq, and_true] at e''
          obtain ⟨rfl, rfl⟩ := e''
          rw [HG.out i hlt, Nat.zero_add] at c1
          rw [HG2.out i hlt, Nat.zero_add] at c2
          obtain ⟨d1, d2, d3, d4⟩ := HBD.out k i hlt
          by_cases h9 : digAt ss k i = ss.getD i 0 - 1
          · obtain ⟨p1, p2⟩ := HN9.out i hlt HJ.out h9
            rw [p2] at c2
            rw [h9] at c1 d1 d2
            have HP : Hid (pr (ss.drop i) ∣ k + 1) := p1
            clear hRu6 hRd6 hRn p1 p2 h9 hii
            generalize ss.getD i 0 = x at *
            have hne : ((x - 1 : Int) == x - 1) = true := by simp
            go_wp2
            go_quiet (fail)
            go_wp2
            go_roundw
            case rel => exact ⟨i, by omega, rfl, HP, _, rfl⟩
            case measure => simp [intOf] <;> omega
          · obtain ⟨p1, p2⟩ := HNM.out i hlt HJ.out h9
            have HS : Hid (∀ j, j < i → digAt ss (k + 1) j = digAt ss k j) := fun j hj => HNS.out i j hj p1
            rw [p2] at c2
            have h9b : (digAt ss k i == ss.getD i 0 - 1) = false := beq_eq_false_iff_ne.2 h9
            clear p1 p2 h9 hii
            generalize ss.getD i 0 = x at *
            generalize digAt ss k i = z at *
            have hne : ((z + 1 : Int) != z + 1) = false := by simp
            have HRd6 : Hid (RK .i64 w6 (.slice (some ⟨g1, 0, none⟩) n n) (dgs ss k)) := hRd6
            have HRn : Hid (RK .i64 w6 (.slice (some ⟨g2, 0, none⟩) n n) (dgs ss (k + 1))) := hRn
            clear hRd6 hRn hRu6
            go_wp2
            go_quiet (fail)
            go_wp2
            go_quiet (fail)
            go_wp2

            go_loopw [18] (fun t wr => ∃ j : Nat, j ≤ i ∧ t = .int .i64 j ∧ ∃ q, wr = w6.drewN q) (fun t _ => i - (intOf t).toNat)
            case atStart => exact ⟨0, Nat.zero_le _, rfl, drew3 _ _ _ _⟩
            case round =>
              obtain ⟨j, hji, rfl, q', rfl⟩ := hrel
              by_cases hlj : j < i
              · have hljI : (j : Int) < (i : Int) := by omega
                have hjn2 : (j : Int) < (n : Int) := by omega
                have hjn3 : j < n := by omega
                clear c0 c1 c2 h9b hne
                obtain ⟨b', o', e', c1⟩ := HRd6.out.at hjn3
                simp only [Option.some.injEq, Addr.mk.injEq, and_true] at e'
                obtain ⟨rfl, rfl⟩ := e'
                obtain ⟨b'', o'', e'', c2⟩ := HRn.out.at hjn3
                simp only [Option.some.injEq, Addr.mk.injEq, and_true] at e''
                obtain ⟨rfl, rfl⟩ := e''
                rw [HG.out j hjn3, Nat.zero_add] at c1
                rw [HG2.out j hjn3, HS.out j hlj, Nat.zero_add] at c2
                generalize digAt ss k j = zz at *
                have hne : ((zz : Int) != zz) = false := by simp
                go_wp2
                go_quiet (fail)
                go_wp2
                go_roundw
                case rel => exact ⟨j + 1, by omega, by go_num, _, rfl⟩
                case measure => simp [intOf]; omega
              · have hljI : ¬ (j : Int) < (i : Int) := by omega
                clear c0 c1 c2 h9b hne
                go_wp2
                go_ret
                exact ⟨rfl, below_drewR HB6.out q'⟩
end Go.Proofs.Ytfanomoijjjcmaa
