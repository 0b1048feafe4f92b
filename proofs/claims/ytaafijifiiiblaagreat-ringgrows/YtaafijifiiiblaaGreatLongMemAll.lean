/-
  Proved here: a guessed limb of a quotient is the true one or one more.
  Proved here: plain facts on a division limb by limb. No condition.
  Proved here: facts on rows beside one another, and what LeadingZeros32 answers.
-/
import Derived.Test.YtaafijifiiiblaaGreatTake
import Derived.Test.YtaafijifiiiblaaGreatCmpAll
import Derived.Test.YtaafijifiiiblaaGreatDivMathAll
import Derived.Test.YtaafijifiiiblaaGreatBitsAll
import Derived.Test.YtaafijifiiiblaaGreatLiftAll
namespace Go.Proofs.YtaafijifiiiblaaGreat
open Go.RowKit

theorem mul_pair (Q hi nx : Nat) : Q * (hi * 4294967296 + nx) = 4294967296 * (Q * hi) + Q * nx := by rw [Nat.mul_add, ← Nat.mul_assoc, Nat.mul_comm (Q * hi)]
theorem g_dec {QT Q L hi nx T p2 : Nat} (h1 : QT * (hi * 4294967296 + nx) ≤ T * 4294967296 + p2) (h2 : Q * hi + L = T) (h3 : L * 4294967296 + p2 < Q * nx) : QT + 1 ≤ Q := by
  rcases Nat.lt_or_ge QT Q with h | h
  · exact h
  · have h4 : Q * (hi * 4294967296 + nx) ≤ QT * (hi * 4294967296 + nx) := Nat.mul_le_mul_right _ h
    rw [mul_pair Q] at h4
    omega
theorem g_fit {Q L hi nx T p2 : Nat} (h2 : Q * hi + L = T) (h3 : Q * nx ≤ L * 4294967296 + p2) : Q * (hi * 4294967296 + nx) ≤ T * 4294967296 + p2 := by
  rw [mul_pair]; omega
theorem g_pred {Q L hi T : Nat} (h : Q * hi + L = T) (hQ : 1 ≤ Q) : (Q - 1) * hi + (L + hi) = T := by
  obtain ⟨k, rfl⟩ : ∃ k, Q = k + 1 := ⟨Q - 1, by omega⟩
  rw [Nat.add_mul, Nat.one_mul] at h
  rw [Nat.add_sub_cancel]; omega
/-- A guess that was lessened to where what is left outweighs all is a limb. -/
theorem g_limb {Q L hi T p0 p1 : Nat} (h : Q * hi + L = T) (hT : T = p0 * 4294967296 + p1) (hp0 : p0 ≤ hi) (hp1 : p1 < 4294967296) (hL : 4294967296 ≤ L) : Q < 4294967296 := by
  rcases Nat.lt_or_ge Q 4294967296 with h1 | h1
  · exact h1
  · have h2 : 4294967296 * hi ≤ Q * hi := Nat.mul_le_mul_right _ h1
    omega

theorem ret_int {k : IntKind} {a b : Int} (h : a = b) : Ending.returned (.int k a) = .returned (.int k b) := by rw [h]
/-- The guess lies right. -/
def GuessOk (p b q : Nat) : Prop := q < 4294967296 ∧ (q - 1) * b ≤ p ∧ p < (q + 1) * b
theorem guess_done {p b : List Nat} {n q : Nat} (hp : limbs p) (hb : limbs b) (hpl : p.length = n + 3) (hbl : b.length = n + 2) (hhi : 2147483648 ≤ b.getD (n + 1) 0) (hq : q < 4294967296) (hge : val p / val b ≤ q)
    (hfit : q * (b.getD (n + 1) 0 * 4294967296 + b.getD n 0) ≤ (p.getD (n + 2) 0 * 4294967296 + p.getD (n + 1) 0) * 4294967296 + p.getD n 0) : GuessOk (val p) (val b) q := by
  have h1 := top_two hb hbl
  have h2 := top_three hp hpl
  have hbp : 0 < val b := by
    have : 0 < 4294967296 ^ n := Nat.pow_pos (by decide)
    have h3 : 1 * 4294967296 ^ n ≤ (b.getD (n + 1) 0 * 4294967296 + b.getD n 0) * 4294967296 ^ n := Nat.mul_le_mul_right _ (by omega)
    omega
  refine ⟨hq, guess_high h1.2 h2.1 hfit (by omega), ?_⟩
  have h4 := Nat.lt_mul_div_succ (val p) hbp
  have h5 : (val p / val b + 1) * val b ≤ (q + 1) * val b := Nat.mul_le_mul_right _ (by omega)
  rw [Nat.mul_comm] at h4
  omega
theorem quo_low {p b : List Nat} {n : Nat} (hp : limbs p) (hb : limbs b) (hpl : p.length = n + 3) (hbl : b.length = n + 2) :
    val p / val b * (b.getD (n + 1) 0 * 4294967296 + b.getD n 0) ≤ (p.getD (n + 2) 0 * 4294967296 + p.getD (n + 1) 0) * 4294967296 + p.getD n 0 :=
  guess_low (top_two hb hbl).1 (top_three hp hpl).2 (Nat.div_mul_le_self _ _)
theorem top_le {p b : List Nat} {n : Nat} (hb : limbs b) (hpl : p.length = n + 3) (hbl : b.length = n + 2) (h : val p < 4294967296 * val b) : p.getD (n + 2) 0 ≤ b.getD (n + 1) 0 := by
  have e1 := low_succ p (n + 2)
  have e2 := low_succ b (n + 1)
  have l2 := low_lt hb (n + 1)
  rw [low_all (by omega)] at e1 e2
  have hp1 : (4294967296 : Nat) ^ (n + 2) = 4294967296 * 4294967296 ^ (n + 1) := by rw [Nat.pow_succ _ (n + 1), Nat.mul_comm]
  rw [hp1] at e1
  generalize 4294967296 ^ (n + 1) = P at *
  rcases Nat.lt_or_ge (b.getD (n + 1) 0) (p.getD (n + 2) 0) with hlt | hge
  · have h3 : 4294967296 * P * (b.getD (n + 1) 0 + 1) ≤ 4294967296 * P * p.getD (n + 2) 0 := Nat.mul_le_mul_left _ hlt
    rw [Nat.mul_add, Nat.mul_one, Nat.mul_assoc] at h3
    have h4 : 4294967296 * P * p.getD (n + 2) 0 ≤ val p := by omega
    omega
  · exact hge

set_option maxRecDepth 100000 in
set_option maxHeartbeats 3200000 in
theorem guess_any (pa ba : Option Addr) (n pcap bcap : Nat) (p b : List Nat) (w : World) (hp : Num w (.slice pa (n + 3) pcap) p) (hb : Num w (.slice ba (n + 2) bcap) b) (hpl : p.length = n + 3) (hbl : b.length = n + 2) (hn : n ≤ 1099511627776)
    (hhi : 2147483648 ≤ b.getD (n + 1) 0) (hlt : val p < 4294967296 * val b) :
    Calls Tryz.prog 152 #[.slice pa (n + 3) pcap, .slice ba (n + 2) bcap] w fun e w' => (∃ q : Nat, e = .returned (.int .u32 (q : Int)) ∧ GuessOk (val p) (val b) q) ∧ ∃ k, w' = w.drewN k := by
  have HQL : Hid (val p / val b * (b.getD (n + 1) 0 * 4294967296 + b.getD n 0) ≤ (p.getD (n + 2) 0 * 4294967296 + p.getD (n + 1) 0) * 4294967296 + p.getD n 0) := quo_low hp.1 hb.1 hpl hbl
  have htl := top_le hb.1 hpl hbl hlt
  have hQT : val p / val b < 4294967296 := Nat.div_lt_of_lt_mul (by rw [Nat.mul_comm]; exact hlt)
  have HFIN : Hid (∀ q, q < 4294967296 → val p / val b ≤ q → q * (b.getD (n + 1) 0 * 4294967296 + b.getD n 0) ≤ (p.getD (n + 2) 0 * 4294967296 + p.getD (n + 1) 0) * 4294967296 + p.getD n 0 → GuessOk (val p) (val b) q) := fun q h1 h2 h3 => guess_done hp.1 hb.1 hpl hbl hhi h1 h2 h3
  obtain ⟨_, pa', pc', ep, hpc, hpm, _, cp⟩ := hp.open_
  obtain ⟨_, ba', bc', eb, hbc, hbm, _, cb⟩ := hb.open_
  simp only [Value.slice.injEq] at ep eb
  obtain ⟨rfl, q1, rfl⟩ := ep
  obtain ⟨rfl, q2, rfl⟩ := eb
  obtain ⟨bb, bo, rfl, c1⟩ := cb (n + 1) (by omega)
  obtain ⟨bb', bo', eb', c0⟩ := cb n (by omega)
  simp only [Option.some.injEq, Addr.mk.injEq, and_true] at eb'
  obtain ⟨rfl, rfl⟩ := eb'
  obtain ⟨pb, po, rfl, d2⟩ := cp (n + 2) (by omega)
  obtain ⟨pb', po', ep', d1⟩ := cp (n + 1) (by omega)
  simp only [Option.some.injEq, Addr.mk.injEq, and_true] at ep'
  obtain ⟨rfl, rfl⟩ := ep'
  obtain ⟨pb', po', ep', d0⟩ := cp n (by omega)
  simp only [Option.some.injEq, Addr.mk.injEq, and_true] at ep'
  obtain ⟨rfl, rfl⟩ := ep'
  have l1 := limb_lt hb.1 (n + 1)
  have l0 := limb_lt hb.1 n
  have k2 := limb_lt hp.1 (n + 2)
  have k1 := limb_lt hp.1 (n + 1)
  have k0 := limb_lt hp.1 n
  rw [hpl] at hpc
  rw [hbl] at hbc
  generalize b.getD (n + 1) 0 = hi at *
  generalize b.getD n 0 = nx at *
  generalize p.getD (n + 2) 0 = p0 at *
  generalize p.getD (n + 1) 0 = p1 at *
  generalize p.getD n 0 = p2 at *
  clear cp cb hp hb q1 q2 hpl hbl hlt
  generalize val p / val b = QT at *
  have eor := or_low k1 k2
  obtain ⟨T, hT⟩ : ∃ T, T = p0 * 4294967296 + p1 := ⟨_, rfl⟩
  rw [← hT] at eor
  have HT : Hid (T = p0 * 4294967296 + p1) := hT
  have hT1 : T ≤ 18446744073709551615 := by omega
  have hi1 : 1 ≤ (hi : Int) := by omega
  have hiz : ((hi : Int) == 0) = false := by simp; omega
  obtain ⟨Q0, hQ0⟩ : ∃ Q, Q = T / hi := ⟨_, rfl⟩
  obtain ⟨L0, hL0⟩ : ∃ L, L = T % hi := ⟨_, rfl⟩
  have eq0 : (T : Int) / (hi : Int) = (Q0 : Int) := by rw [hQ0]; exact (Int.natCast_ediv T hi).symm
  have el0 : (T : Int) % (hi : Int) = (L0 : Int) := by rw [hL0]; exact (Int.natCast_emod T hi).symm
  have hst : Q0 * hi + L0 = T := by rw [hQ0, hL0, Nat.mul_comm]; exact Nat.div_add_mod T hi
  have hL1 : L0 < 4294967296 := by have := Nat.mod_lt T (show 0 < hi by omega); omega
  have hQ1 : QT ≤ Q0 := by
    have h1 := HQL.out
    rw [hQ0, Nat.le_div_iff_mul_le (by omega)]
    rw [mul_pair, ← HT.out] at h1
    omega
  have hQ2 : Q0 ≤ 18446744073709551615 := by rw [hQ0]; exact Nat.le_trans (Nat.div_le_self _ _) hT1
  have HST : Hid (Q0 * hi + L0 = T) := hst
  clear hQ0 hL0 hT hst
  go_enter Tryz.func152, Tryz.ntmps152
  go_wp2
  go_quiet (fail)
  have cv : ∀ (a : Addr) (v : Value), w.cell? a = some v → (w.drewN nq).cell? a = some v := fun a v h => by rw [← h]; exact World.cell?_of_block (by rw [heap_drewN])
  replace c1 := cv _ _ c1
  replace c0 := cv _ _ c0
  replace d2 := cv _ _ d2
  replace d1 := cv _ _ d1
  replace d0 := cv _ _ d0
  have HW : Hid (∃ k, w.drewN nq = w.drewN k) := ⟨_, rfl⟩
  clear cv
  generalize hW1 : w.drewN nq = W1 at c1 c0 d2 d1 d0 HW ⊢
  clear hW1
  go_wp2
  go_quiet (fail)
  have cv : ∀ (a : Addr) (v : Value), W1.cell? a = some v → (W1.drewN nq).cell? a = some v := fun a v h => by rw [← h]; exact World.cell?_of_block (by rw [heap_drewN])
  replace c1 := cv _ _ c1
  replace c0 := cv _ _ c0
  replace d2 := cv _ _ d2
  replace d1 := cv _ _ d1
  replace d0 := cv _ _ d0
  replace HW : Hid (∃ k, W1.drewN nq = w.drewN k) := by obtain ⟨k, hk⟩ := HW.out; exact ⟨_, by rw [hk, World.drewN_drewN]⟩
  clear cv
  generalize hW2 : W1.drewN nq = W2 at c1 c0 d2 d1 d0 HW ⊢
  clear hW2
  go_wp2
  go_quiet (fail)
  have cv : ∀ (a : Addr) (v : Value), W2.cell? a = some v → (W2.drewN nq).cell? a = some v := fun a v h => by rw [← h]; exact World.cell?_of_block (by rw [heap_drewN])
  replace c1 := cv _ _ c1
  replace c0 := cv _ _ c0
  replace d2 := cv _ _ d2
  replace d1 := cv _ _ d1
  replace d0 := cv _ _ d0
  replace HW : Hid (∃ k, W2.drewN nq = w.drewN k) := by obtain ⟨k, hk⟩ := HW.out; exact ⟨_, by rw [hk, World.drewN_drewN]⟩
  clear cv
  generalize hW3 : W2.drewN nq = W3 at c1 c0 d2 d1 d0 HW ⊢
  clear hW3
  go_wp2
  go_loop [9, 10] (fun qv lv => ∃ (Q L : Nat), qv = .int .u64 Q ∧ lv = .int .u64 L ∧ Q * hi + L = T ∧ L < 4294967296 ∧ QT ≤ Q ∧ Q ≤ 18446744073709551615) (fun qv _ => (intOf qv).toNat)
  case atStart => exact ⟨Q0, L0, by first | rfl | rw [eq0], by first | rfl | rw [el0], HST.out, hL1, hQ1, hQ2⟩
  case round =>
    clear hL1 hQ1 hQ2 HST eq0 el0
    obtain ⟨Q, L, rfl, rfl, hst, hL, hQT1, hQm⟩ := hrel
    have HST : Hid (Q * hi + L = T) := hst
    clear hst
    by_cases hbig : 4294967295 < Q
    · have hbig' : (4294967295 : Int) < (Q : Int) := by omega
      have hQ1' : (1 : Int) ≤ (Q : Int) := by omega
      have HP : Hid ((Q - 1) * hi + (L + hi) = T) := g_pred HST.out (by omega)
      by_cases hbr : 4294967295 < L + hi
      · have hbr' : (4294967295 : Int) < (L : Int) + (hi : Int) := by omega
        have hlim : Q - 1 < 4294967296 := g_limb HP.out HT.out htl k1 (by omega)
        have HG : Hid (GuessOk (val p) (val b) (Q - 1)) := HFIN.out _ hlim (by omega) (by
          rw [← HT.out]
          refine g_fit HP.out ?_
          have := mul_bound hlim l0
          omega)
        go_wp2
        go_ret
        exact ⟨⟨Q - 1, ret_int (by omega), HG.out⟩, HW.out⟩
      · have hbr' : ¬ (4294967295 : Int) < (L : Int) + (hi : Int) := by omega
        go_wp2
        go_round
        case rel => exact ⟨Q - 1, L + hi, by congr 1; omega, by go_num, HP.out, by omega, by omega, by omega⟩
        case measure => simp [intOf]; omega
    · have hbig' : ¬ (4294967295 : Int) < (Q : Int) := by omega
      have hQ32 : Q < 4294967296 := by omega
      have mb := mul_bound hQ32 l0
      obtain ⟨M, hM⟩ : ∃ M, M = Q * nx := ⟨_, rfl⟩
      rw [← hM] at mb
      have eM : (Q : Int) * (nx : Int) = (M : Int) := by rw [hM]; exact (Int.natCast_mul Q nx).symm
      have eor2 := or_low k0 hL
      obtain ⟨S, hS⟩ : ∃ S, S = L * 4294967296 + p2 := ⟨_, rfl⟩
      rw [← hS] at eor2
      have hS1 : S ≤ 18446744073709551615 := by omega
      have HM : Hid (M = Q * nx) := hM
      have HS : Hid (S = L * 4294967296 + p2) := hS
      clear hM hS
      by_cases hgt : S < M
      · have hgt' : (S : Int) < (M : Int) := by omega
        have hQS : QT + 1 ≤ Q := g_dec (by have h1 := HQL.out; rw [← HT.out] at h1; exact h1) HST.out (by rw [← HS.out, ← HM.out]; exact hgt)
        have hQ1' : (1 : Int) ≤ (Q : Int) := by omega
        have HP : Hid ((Q - 1) * hi + (L + hi) = T) := g_pred HST.out (by omega)
        by_cases hbr : 4294967295 < L + hi
        · have hbr' : (4294967295 : Int) < (L : Int) + (hi : Int) := by omega
          have hlim : Q - 1 < 4294967296 := g_limb HP.out HT.out htl k1 (by omega)
          have HG : Hid (GuessOk (val p) (val b) (Q - 1)) := HFIN.out _ hlim (by omega) (by
            rw [← HT.out]
            refine g_fit HP.out ?_
            have := mul_bound hlim l0
            omega)
          go_wp2
          go_ret
          exact ⟨⟨Q - 1, ret_int (by omega), HG.out⟩, HW.out⟩
        · have hbr' : ¬ (4294967295 : Int) < (L : Int) + (hi : Int) := by omega
          go_wp2
          go_round
          case rel => exact ⟨Q - 1, L + hi, by congr 1; omega, by go_num, HP.out, by omega, by omega, by omega⟩
          case measure => simp [intOf]; omega
      · have hgt' : ¬ (S : Int) < (M : Int) := by omega
        have HG : Hid (GuessOk (val p) (val b) Q) := HFIN.out _ hQ32 hQT1 (by
          rw [← HT.out]
          refine g_fit HST.out ?_
          rw [← HM.out, ← HS.out]
          omega)
        go_wp2
        go_ret
        exact ⟨⟨Q, rfl, HG.out⟩, HW.out⟩
end Go.Proofs.YtaafijifiiiblaaGreat

namespace Go.Proofs.YtaafijifiiiblaaGreat

/-- A limb of a quotient is taken off: what is left of the higher limbs, and of all. -/
theorem long_val {zs zs' : List Nat} {i : Nat} (hi : i ≤ zs.length) (hl : zs'.length = zs.length) (hlo : ∀ j, j < i → zs'.getD j 0 = zs.getD j 0) : val zs' + 4294967296 ^ i * val (zs.drop i) = val zs + 4294967296 ^ i * val (zs'.drop i) := by
  have e1 := val_split zs i hi
  have e2 := val_split zs' i (by omega)
  rw [low_congr hlo] at e2
  omega
/-- The higher limbs of a number that is small are noughts. -/
theorem low_small {xs : List Nat} (hx : limbs xs) {n : Nat} (h : val xs < 4294967296 ^ n) : low xs n = val xs := by
  have h1 := low_lt hx n
  rcases Nat.lt_or_ge n xs.length with hn | hn
  · have e := val_split xs n (by omega)
    rcases Nat.eq_zero_or_pos (val (xs.drop n)) with h0 | h0
    · rw [h0, Nat.mul_zero, Nat.add_zero] at e; exact e.symm
    · have := Nat.mul_le_mul_left (4294967296 ^ n) h0
      omega
  · exact low_all hn
/-- The limbs behind a segment are as they were, noughts: so the segment is all. -/
theorem seg_high {zs zs' : List Nat} {j m : Nat} (hz : limbs zs) (hj : j + m ≤ zs.length) (hl : zs'.length = zs.length) (hs : ∀ k, k < j ∨ j + m ≤ k → zs'.getD k 0 = zs.getD k 0) (h : val (zs.drop j) < 4294967296 ^ m) : val (zs'.drop j) = low (zs'.drop j) m := by
  have e1 := val_split (zs.drop j) m (by simp; omega)
  have e2 := val_split (zs'.drop j) m (by simp; omega)
  rw [low_small (limbs_drop hz j) h] at e1
  have h0 : val ((zs.drop j).drop m) = 0 := by
    rcases Nat.eq_zero_or_pos (val ((zs.drop j).drop m)) with h1 | h1
    · exact h1
    · have := Nat.mul_pos (Nat.pow_pos (n := m) (show 0 < 4294967296 by decide)) h1
      omega
  have h1 : val ((zs'.drop j).drop m) = val ((zs.drop j).drop m) := val_congr zs.length (by simp only [List.length_drop]; omega) (by simp only [List.length_drop]; omega) fun k => by
    rw [getD_drop, getD_drop, getD_drop, getD_drop]
    exact hs _ (Or.inr (by omega))
  rw [h1, h0, Nat.mul_zero, Nat.add_zero] at e2
  exact e2
/-- The guess was right. -/
theorem take_right {r r' b q M : Nat} (h : r' + b * q = r + M * 0) (hq : r < (q + 1) * b) : r' < b ∧ r' + q * b = r := by
  rw [Nat.mul_zero, Nat.add_zero, Nat.mul_comm b q] at h
  rw [Nat.add_mul, Nat.one_mul] at hq
  omega
/-- The guess was one too great. -/
theorem take_back {r r' r2 b q M c : Nat} (h : r' + b * q = r + M * 1) (hr' : r' < M) (h2 : r2 + M * c = r' + b) (hr2 : r2 < M) (hq : (q - 1) * b ≤ r) (hbM : b < M) : 1 ≤ q ∧ r2 < b ∧ r2 + (q - 1) * b = r := by
  have hq1 : 1 ≤ q := by
    rcases Nat.eq_zero_or_pos q with h0 | h0
    · subst h0; rw [Nat.mul_zero] at h; omega
    · exact h0
  obtain ⟨k, rfl⟩ : ∃ k, q = k + 1 := ⟨q - 1, by omega⟩
  rw [Nat.add_sub_cancel] at hq ⊢
  rw [Nat.mul_add, Nat.mul_one, Nat.mul_comm b k, Nat.mul_one] at h
  have hc : c = 1 := by
    rcases Nat.lt_or_ge c 1 with h3 | h3
    · have : c = 0 := by omega
      subst this
      rw [Nat.mul_zero, Nat.add_zero] at h2
      omega
    · rcases Nat.lt_or_ge 1 c with h4 | h4
      · have := Nat.mul_le_mul_left M h4
        omega
      · omega
  subst hc
  rw [Nat.mul_one] at h2
  omega
/-- One limb of the quotient more. -/
theorem long_quo {qs : List Nat} {i q : Nat} (hi : i < qs.length) : val ((qs.set i q).drop i) = q + 4294967296 * val (qs.drop (i + 1)) := by
  rw [val_tail ((qs.set i q).drop i), getD_drop, Nat.add_zero, getD_set_eq _ _ _ hi, List.tail_drop]
  congr 3
  exact List.drop_set_of_lt (by omega)
theorem long_inv {A P b r r' s s' q h : Nat} (h1 : A = h * (P * 4294967296) * b + s) (h2 : s' + P * r = s + P * r') (h3 : r' + q * b = r) : A = (q + 4294967296 * h) * P * b + s' := by
  have e1 : P * r = P * r' + P * (q * b) := by rw [← h3, Nat.mul_add]
  have e2 : (q + 4294967296 * h) * P * b = P * (q * b) + h * (P * 4294967296) * b := by
    rw [Nat.add_mul, Nat.add_mul]
    congr 1
    · rw [Nat.mul_comm q P, Nat.mul_assoc]
    · rw [Nat.mul_comm 4294967296 h, Nat.mul_assoc h, Nat.mul_comm 4294967296 P]
  omega
/-- Quotient and rest, in one way alone. -/
theorem long_end {A b q s : Nat} (h : A = q * b + s) (hs : s < b) : q = A / b ∧ s = A % b := by
  have hb : 0 < b := by omega
  constructor
  · rw [h, Nat.add_comm, Nat.add_mul_div_right _ _ hb, Nat.div_eq_of_lt hs, Nat.zero_add]
  · rw [h, Nat.add_comm, Nat.add_mul_mod_self_right, Nat.mod_eq_of_lt hs]
end Go.Proofs.YtaafijifiiiblaaGreat

namespace Go.Proofs.YtaafijifiiiblaaGreat
open Go.RowKit

theorem Cells.grown {g g' : Nat} {w w' : World} {zs : List Nat} (h : Cells w g zs) (hg : w.grownBy w' (some g')) (hne : g ≠ g') : Cells w' g zs :=
  ⟨h.1, by rw [hg.block g (Array.getElem?_eq_some_iff.1 h.2).1 (by simp only [ne_eq, Option.some.injEq]; exact hne)]; exact h.2⟩
theorem grownBy_one (w : World) (g k : Nat) (u : Value) : w.grownBy (w.setCell ⟨g, k, none⟩ u) (some g) := grownBy_set (World.grownBy.refl w _) k u
theorem Cells.seg {g off m cap : Nat} {w : World} {zs : List Nat} (h : Cells w g zs) (ho : off + m ≤ zs.length) (hm : m ≤ cap) (hc : cap ≤ 9223372036854775807) : Num w (.slice (some ⟨g, off, none⟩) m cap) ((zs.drop off).take m) := by
  have hl : ((zs.drop off).take m).length = m := by simp; omega
  refine ⟨limbs_take (limbs_drop h.1 off) m, some ⟨g, off, none⟩, cap, by rw [hl], by rw [hl]; exact hm, hc, fun e => by simp at e, fun j hj => ?_⟩
  rw [hl] at hj
  refine ⟨g, off, rfl, ?_⟩
  have := (h.cell (k := off + j) (by omega)).1
  rw [this]
  have e : ((zs.drop off).take m).getD j 0 = zs.getD (off + j) 0 := by
    rw [List.getD_eq_getElem?_getD, List.getElem?_take_of_lt hj, ← List.getD_eq_getElem?_getD, getD_drop]
  rw [e]; rfl
theorem seg_val {zs : List Nat} {off m : Nat} : val ((zs.drop off).take m) = low (zs.drop off) m := rfl

theorem lz_any (x : Int) (w : World) (h0 : 0 ≤ x) (h1 : x ≤ 4294967295) :
    Calls Tryz.prog 150 #[.int .u32 x] w fun e w' => e = .returned (.int .i64 ((32 - bl x.toNat : Nat) : Int)) ∧ w' = w := by
  have hb := bl_le32 (x := x.toNat) (by omega)
  go_enter Tryz.func150, Tryz.ntmps150
  go_wp2_with fail
  refine (len32_any _ _ h0 h1).mono ?_
  rintro e w1 ⟨rfl, rfl⟩
  obtain ⟨b, hbb⟩ : ∃ b, b = bl x.toNat := ⟨_, rfl⟩
  rw [← hbb] at hb ⊢
  have HB : Hid (b = bl x.toNat) := hbb
  clear hbb
  go_wp2
  go_ret
  exact ⟨ret_int (by rw [← HB.out]; omega), rfl⟩

/-- A divisor that was shifted so that its highest bit is set. -/
theorem norm_top {b : List Nat} {n v : Nat} (hb : limbs b) (hl : b.length = n + 1) (hv : val b = v) (h : 2 ^ (32 * n + 31) ≤ v) : 2147483648 ≤ b.getD n 0 := by
  have e := low_succ b n
  have hlo := low_lt hb n
  rw [low_all (by omega), hv] at e
  rcases Nat.lt_or_ge (b.getD n 0) 2147483648 with h1 | h1
  · have h2 : 4294967296 ^ n * (b.getD n 0 + 1) ≤ 4294967296 ^ n * 2147483648 := Nat.mul_le_mul_left _ h1
    rw [Nat.mul_add, Nat.mul_one] at h2
    have h3 : 2 ^ (32 * n + 31) = 4294967296 ^ n * 2147483648 := by rw [Nat.pow_add, ← pow_limb]
    omega
  · exact h1
theorem norm_big {v : Nat} (hv : v ≠ 0) {n t : Nat} (h : bl v = 32 * n + bl t) (ht : bl t ≤ 32) (ht0 : t ≠ 0) : 2 ^ (32 * n + 31) ≤ v * 2 ^ (32 - bl t) ∧ v * 2 ^ (32 - bl t) < 4294967296 ^ (n + 1) := by
  obtain ⟨m, e, h1, h2⟩ := bl_bounds hv
  obtain ⟨k, e2, _, _⟩ := bl_bounds ht0
  have hm : m + (32 - bl t) = 32 * n + 31 := by omega
  constructor
  · rw [← hm, Nat.pow_add]
    exact Nat.mul_le_mul_right _ h1
  · rw [pow_limb, show 32 * (n + 1) = (m + 1) + (32 - bl t) by omega, Nat.pow_add]
    exact Nat.mul_lt_mul_of_pos_right h2 (Nat.two_pow_pos _)
end Go.Proofs.YtaafijifiiiblaaGreat
