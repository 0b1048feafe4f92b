/-
  Proved here: what divideBy answers.
  Proved here: plain facts on a quotient's limb that is guessed out of the highest limbs. No condition.
-/
import Derived.Test.YtjickncdhajdgaaGreatMul
import Derived.Test.YtjickncdhajdgaaGreatLiftAll
namespace Go.Proofs.YtjickncdhajdgaaGreat
open Go.RowKit

theorem val_drop_step (zs : List Nat) (j : Nat) : val (zs.drop j) = zs.getD j 0 + 4294967296 * val (zs.drop (j + 1)) := by
  rw [val_tail (zs.drop j), getD_drop, Nat.add_zero, List.tail_drop]
theorem or_low {x y : Nat} (hx : x < 4294967296) (hy : y < 4294967296) : bits BinOp.or IntKind.u64 ((y : Int) * 4294967296) (x : Int) = ((y * 4294967296 + x : Nat) : Int) := by
  have h := bits_or_u64_nat (y * 4294967296) x (by omega) (by omega)
  rw [show ((y : Int) * 4294967296) = ((y * 4294967296 : Nat) : Int) by omega, h]
  congr 1
  have h2 := Nat.shiftLeft_add_eq_or_of_lt (i := 32) (b := x) (by simpa using hx) y
  rw [Nat.shiftLeft_eq, show (2 ^ 32 : Nat) = 4294967296 from rfl] at h2
  rw [← h2]
theorem div_by_step {zs ys : List Nat} {j l b d r : Nat} (hj : j < ys.length) (h : val (ys.drop (j + 1)) * b + l = val (zs.drop (j + 1))) (hd : (l * 4294967296 + zs.getD j 0) = d * b + r) :
    val ((ys.set j d).drop j) * b + r = val (zs.drop j) := by
  have e1 := val_drop_step (ys.set j d) j
  have e2 : (ys.set j d).drop (j + 1) = ys.drop (j + 1) := List.drop_set_of_lt (by omega)
  rw [getD_set_eq _ _ _ hj, e2] at e1
  rw [e1, val_drop_step zs j, ← h, Nat.add_mul, Nat.mul_add, Nat.mul_assoc]
  omega

theorem grownBy_set {w0 w : World} {g : Nat} (h : w0.grownBy w (some g)) (k : Nat) (u : Value) : w0.grownBy (w.setCell ⟨g, k, none⟩ u) (some g) :=
  ⟨h.os, h.tape, h.output, by simp [World.setCell]; exact h.size, fun j hj hne => by
    rw [heap_setCell_other]
    · exact h.block j hj hne
    · intro e; exact hne (by rw [e])⟩

/-- What divideBy leaves. -/
def ByEnd (B : Nat) (w0 : World) (g cap : Nat) (zs : List Nat) (b : Nat) (e : Ending) (w' : World) : Prop :=
  ∃ ys : List Nat, e = .returned (.int .u32 ((val zs % b : Nat) : Int)) ∧ ys.length = zs.length ∧ Own B 95 w' (.slice (some ⟨g, 0, none⟩) zs.length cap) ys ∧ val ys = val zs / b ∧ w0.grownBy w' (some g)

set_option maxRecDepth 100000 in
set_option maxHeartbeats 1600000 in
theorem divideBy_any (zs : List Nat) (B g n cap : Nat) (bI : Int) (w : World) (hc : Own B 95 w (.slice (some ⟨g, 0, none⟩) n cap) zs) (hn : zs.length = n) (hnc : n ≤ cap) (hcm : cap ≤ 9223372036854775807) (hb0 : 0 < bI) (hb1 : bI < 4294967296) :
    Calls Tryz.prog 71 #[.slice (some ⟨g, 0, none⟩) n cap, .int .u32 bI] w fun e w' => ByEnd B w g cap zs bI.toNat e w' := by
  obtain ⟨b, rfl⟩ := Int.eq_ofNat_of_zero_le (Int.le_of_lt hb0)
  rw [Int.toNat_natCast]
  have hbp : 0 < b := by omega
  have hb1' : 1 ≤ (b : Int) := by omega
  have HN : Hid (zs.length = n) := hn
  have HC0 : Hid (Own B 95 w (.slice (some ⟨g, 0, none⟩) n cap) zs) := hc
  have HZ0 : Hid (limbs zs) := hc.1
  clear hn hc
  go_enter Tryz.func71, Tryz.ntmps71
  go_wp2
  go_loopw [5, 6] (fun lv t wr => ∃ (i l : Nat) (ys : List Nat), i ≤ n ∧ t = .int .i64 ((i : Int) - 1) ∧ lv = .int .u64 l ∧ l < b ∧ ys.length = n ∧ Own B 95 wr (.slice (some ⟨g, 0, none⟩) n cap) ys ∧ w.grownBy wr (some g) ∧ (∀ j, j < i → ys.getD j 0 = zs.getD j 0) ∧ val (ys.drop i) * b + l = val (zs.drop i)) (fun _ t _ => (intOf t + 1).toNat)
  case atStart =>
    refine ⟨n, 0, zs, Nat.le_refl _, rfl, rfl, hbp, HN.out, HC0.out, World.grownBy.refl _ _, fun _ _ => rfl, ?_⟩
    rw [List.drop_of_length_le (by rw [HN.out]; exact Nat.le_refl _)]
    simp [val]
  case round =>
    clear HC0
    obtain ⟨i, l, ys, hin, rfl, rfl, hlb, hyl, hcs, hbel, hsame, hinv⟩ := hrel
    have HY : Hid (ys.length = n) := hyl
    have HS : Hid (∀ j, j < i → ys.getD j 0 = zs.getD j 0) := hsame
    have HI : Hid (val (ys.drop i) * b + l = val (zs.drop i)) := hinv
    clear hyl hsame hinv
    by_cases hi0 : 0 < i
    · obtain ⟨j, rfl⟩ : ∃ j, i = j + 1 := ⟨i - 1, by omega⟩
      have ej : ((j + 1 : Nat) : Int) - 1 = (j : Int) := by omega
      rw [ej]
      have hge : (0 : Int) ≤ (j : Int) := by omega
      have hjn : (j : Int) < (n : Int) := by omega
      obtain ⟨cz, hfz⟩ := hcs.cell (k := j) (by rw [HY.out]; omega)
      rw [HS.out j (by omega)] at cz
      have hz0 := limb_lt HZ0.out j
      obtain ⟨z, hz⟩ : ∃ z, z = zs.getD j 0 := ⟨_, rfl⟩
      rw [← hz] at cz hz0
      have HZ : Hid (z = zs.getD j 0) := hz
      have hl32 : l < 4294967296 := by omega
      have eor := or_low hz0 hl32
      obtain ⟨T, hT⟩ : ∃ T, T = l * 4294967296 + z := ⟨_, rfl⟩
      rw [← hT] at eor
      have hT1 : T < 18446744073709551616 := by omega
      have HT : Hid (T = l * 4294967296 + z) := hT
      have hTb : T < b * 4294967296 := by
        have : (l + 1) * 4294967296 ≤ b * 4294967296 := Nat.mul_le_mul_right _ hlb
        omega
      have hd0 : T / b < 4294967296 := Nat.div_lt_of_lt_mul hTb
      have hr0 : T % b < b := Nat.mod_lt _ hbp
      obtain ⟨d, hd⟩ : ∃ d, d = T / b := ⟨_, rfl⟩
      obtain ⟨r, hr⟩ : ∃ r, r = T % b := ⟨_, rfl⟩
      have ed : (T : Int) / (b : Int) = (d : Int) := by rw [hd]; exact (Int.natCast_ediv T b).symm
      have er : (T : Int) % (b : Int) = (r : Int) := by rw [hr]; exact (Int.natCast_emod T b).symm
      have HDR : Hid (T = d * b + r) := by show _ = _; rw [hd, hr, Nat.mul_comm]; exact (Nat.div_add_mod T b).symm
      rw [← hd] at hd0
      rw [← hr] at hr0
      have hset := hcs.set HY.out j d hd0
      have hbel2 := grownBy_set hbel j (U d)
      rw [show U d = .int .u32 (d : Int) from rfl] at hset hbel2
      clear hz hT hTb hd hr hcs hbel
      go_wp2
      go_roundw
      case rel =>
        refine ⟨j, r, _, by omega, by go_num, by go_num, hr0, by rw [List.length_set]; exact HY.out, hset, hbel2, fun q hq => ?_, ?_⟩
        · rw [getD_set_off _ _ _ _ (by omega)]; exact HS.out q (by omega)
        · exact div_by_step (by rw [HY.out]; omega) HI.out (by rw [← HZ.out, ← HT.out]; exact HDR.out)
      case measure => simp [intOf]
    · have hi1 : i = 0 := by omega
      subst hi1
      have hfin := HI.out
      rw [List.drop_zero, List.drop_zero] at hfin
      have h1 : val zs % b = l := by rw [← hfin, Nat.add_comm, Nat.add_mul_mod_self_right, Nat.mod_eq_of_lt hlb]
      have h2 : val ys = val zs / b := by rw [← hfin, Nat.add_comm, Nat.add_mul_div_right _ _ hbp, Nat.div_eq_of_lt hlb, Nat.zero_add]
      have HE : Hid (ByEnd B w g cap zs b (.returned (.int .u32 (l : Int))) wr) := ⟨ys, by rw [h1], by rw [HY.out, HN.out], by rw [HN.out]; exact hcs, h2, hbel⟩
      clear hfin h1 h2 hcs hbel HI
      go_wp2
      go_ret
      exact HE.out
end Go.Proofs.YtjickncdhajdgaaGreat

namespace Go.Proofs.YtjickncdhajdgaaGreat

/-- Whatever the guess is above the quotient of the highest limbs, the true one is not above that. -/
theorem guess_low {part b D N P q : Nat} (hb : D * P ≤ b) (hp : part < (N + 1) * P) (h : q * b ≤ part) : q * D ≤ N := by
  have h1 : q * (D * P) ≤ q * b := Nat.mul_le_mul_left _ hb
  rw [← Nat.mul_assoc] at h1
  have h2 : q * D * P < (N + 1) * P := Nat.lt_of_le_of_lt (Nat.le_trans h1 h) hp
  have := Nat.lt_of_mul_lt_mul_right h2
  omega
theorem guess_high {part b D N P q : Nat} (hb : b < (D + 1) * P) (hp : N * P ≤ part) (h : q * D ≤ N) (hq : q ≤ D + 1) : (q - 1) * b ≤ part := by
  rcases Nat.eq_zero_or_pos q with h0 | h0
  · subst h0; simp
  · obtain ⟨k, rfl⟩ : ∃ k, q = k + 1 := ⟨q - 1, by omega⟩
    rw [Nat.add_sub_cancel]
    have h1 : k * b ≤ k * ((D + 1) * P) := Nat.mul_le_mul_left _ (Nat.le_of_lt hb)
    have h2 : k * (D + 1) ≤ N := by
      rw [Nat.mul_add, Nat.mul_one]
      rw [Nat.add_mul, Nat.one_mul] at h
      omega
    rw [← Nat.mul_assoc] at h1
    exact Nat.le_trans h1 (Nat.le_trans (Nat.mul_le_mul_right _ h2) hp)
theorem out_lit (P x : Nat) : P * 4294967296 * x = 4294967296 * (P * x) := by rw [Nat.mul_right_comm, Nat.mul_comm]
theorem out_lit2 (P x : Nat) : x * 4294967296 * P = 4294967296 * (P * x) := by rw [Nat.mul_right_comm, Nat.mul_comm, Nat.mul_comm x P]
/-- The highest limbs of a number. -/
theorem top_two {b : List Nat} {n : Nat} (hb : limbs b) (hl : b.length = n + 2) : (b.getD (n + 1) 0 * 4294967296 + b.getD n 0) * 4294967296 ^ n ≤ val b ∧ val b < (b.getD (n + 1) 0 * 4294967296 + b.getD n 0 + 1) * 4294967296 ^ n := by
  have e1 := low_succ b n
  have e2 := low_succ b (n + 1)
  rw [low_all (by omega), e1, Nat.pow_succ, out_lit] at e2
  have h := low_lt hb n
  generalize 4294967296 ^ n = P at *
  generalize b.getD (n + 1) 0 = x at *
  generalize b.getD n 0 = y at *
  rw [Nat.add_mul (x * 4294967296 + y) 1 P, Nat.one_mul, Nat.add_mul, out_lit2, Nat.mul_comm y P]
  omega
theorem top_three {p : List Nat} {n : Nat} (hp : limbs p) (hl : p.length = n + 3) : ((p.getD (n + 2) 0 * 4294967296 + p.getD (n + 1) 0) * 4294967296 + p.getD n 0) * 4294967296 ^ n ≤ val p ∧ val p < ((p.getD (n + 2) 0 * 4294967296 + p.getD (n + 1) 0) * 4294967296 + p.getD n 0 + 1) * 4294967296 ^ n := by
  have e1 := low_succ p n
  have e2 := low_succ p (n + 1)
  have e3 := low_succ p (n + 2)
  have hp1 : 4294967296 ^ (n + 1) = 4294967296 ^ n * 4294967296 := Nat.pow_succ ..
  have hp2 : 4294967296 ^ (n + 2) = 4294967296 ^ n * 4294967296 * 4294967296 := by rw [Nat.pow_succ, Nat.pow_succ]
  rw [show n + 2 + 1 = n + 3 from rfl, low_all (by omega), show n + 2 = n + 1 + 1 from rfl, e2, e1, show n + 1 + 1 = n + 2 from rfl, hp1, hp2, out_lit, out_lit (4294967296 ^ n * 4294967296), out_lit] at e3
  have h := low_lt hp n
  generalize 4294967296 ^ n = P at *
  generalize p.getD (n + 2) 0 = x at *
  generalize p.getD (n + 1) 0 = y at *
  generalize p.getD n 0 = z at *
  rw [Nat.add_mul ((x * 4294967296 + y) * 4294967296 + z) 1 P, Nat.one_mul, Nat.add_mul, out_lit2, Nat.mul_comm z P, Nat.mul_add P, Nat.mul_comm P (x * 4294967296), out_lit2]
  omega
/-- What the multiple carries on. -/
theorem carry_step {b : List Nat} {q i m : Nat} (h : m = low b i * q / 4294967296 ^ i) : (m + b.getD i 0 * q) / 4294967296 = low b (i + 1) * q / 4294967296 ^ (i + 1) := by
  rw [low_succ, Nat.add_mul, Nat.pow_succ, ← Nat.div_div_eq_div_mul, Nat.mul_assoc, Nat.add_mul_div_left _ _ (Nat.pow_pos (by decide)), ← h]
theorem carry_lt {b : List Nat} (hb : limbs b) {q : Nat} (hq : q < 4294967296) (i : Nat) : low b i * q / 4294967296 ^ i < 4294967296 := by
  apply Nat.div_lt_of_lt_mul
  exact Nat.mul_lt_mul'' (low_lt hb i) hq
theorem carry_end {b : List Nat} (hb : limbs b) {q : Nat} (hq : q < 4294967296) : low b (b.length + 1) * q / 4294967296 ^ (b.length + 1) = 0 := by
  rw [low_all (by omega)]
  apply Nat.div_eq_of_lt
  rw [Nat.pow_succ]
  exact Nat.mul_lt_mul'' (val_lt hb) hq
end Go.Proofs.YtjickncdhajdgaaGreat
