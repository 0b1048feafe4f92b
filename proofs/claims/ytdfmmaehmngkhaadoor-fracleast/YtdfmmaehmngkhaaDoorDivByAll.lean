/-
  Proved here: plain facts on shifts of numbers and of their limbs. No condition.
  Proved here: what divideBy answers.
-/
import Derived.Test.YtdfmmaehmngkhaaDoorTrimAll
import Derived.Test.YtdfmmaehmngkhaaDoorMul
namespace Go.Proofs.YtdfmmaehmngkhaaDoor

theorem B_split {r : Nat} (hr : r ≤ 32) : 4294967296 = 2 ^ r * 2 ^ (32 - r) := by
  rw [← Nat.pow_add, show r + (32 - r) = 32 by omega]
theorem val_drop (X : List Nat) (hX : limbs X) (k : Nat) (hk : k ≤ X.length) : val (X.drop k) = val X / 4294967296 ^ k := by
  rw [val_split X k hk, Nat.add_mul_div_left _ _ (Nat.pow_pos (by decide)), Nat.div_eq_of_lt (low_lt hX k), Nat.zero_add]
/-- A limb is a digit. -/
theorem limb_digit {X : List Nat} (hX : limbs X) (k : Nat) : X.getD k 0 = val X / 4294967296 ^ k % 4294967296 := by
  rcases Nat.lt_or_ge k X.length with hk | hk
  · rw [← val_drop X hX k (by omega), val_tail, getD_drop, Nat.add_zero, Nat.add_mul_mod_self_left, Nat.mod_eq_of_lt (limb_lt hX k)]
  · rw [getD_ge hk, Nat.div_eq_of_lt (Nat.lt_of_lt_of_le (val_lt hX) (Nat.pow_le_pow_right (by decide) hk))]
theorem two_limbs {X : List Nat} (hX : limbs X) (k : Nat) : ∃ R, val X / 4294967296 ^ k = X.getD k 0 + 4294967296 * X.getD (k + 1) 0 + 4294967296 * 4294967296 * R := by
  refine ⟨val X / 4294967296 ^ (k + 1 + 1), ?_⟩
  have h1 := limb_digit hX k
  have h2 := limb_digit hX (k + 1)
  have e1 : val X / 4294967296 ^ (k + 1) = val X / 4294967296 ^ k / 4294967296 := by rw [Nat.pow_succ, Nat.div_div_eq_div_mul]
  have e2 : val X / 4294967296 ^ (k + 1 + 1) = val X / 4294967296 ^ (k + 1) / 4294967296 := by rw [Nat.pow_succ _ (k + 1), Nat.div_div_eq_div_mul]
  rw [h1, h2, e2, e1]
  omega
/-- A limb of a quotient by a small power of two. -/
theorem drop_digit {X : List Nat} (hX : limbs X) (k off : Nat) (ho : off ≤ 32) : (X.getD k 0 + 4294967296 * X.getD (k + 1) 0) / 2 ^ off % 4294967296 = val X / 4294967296 ^ k / 2 ^ off % 4294967296 := by
  obtain ⟨R, hR⟩ := two_limbs hX k
  have hp : 0 < 2 ^ off := Nat.two_pow_pos off
  rw [hR]
  have e : 4294967296 * 4294967296 * R = 2 ^ off * (4294967296 * (2 ^ (32 - off) * R)) := by
    conv => lhs; rw [B_split ho]
    conv => rhs; rw [B_split ho]
    simp only [Nat.mul_comm, Nat.mul_left_comm]
  rw [e, Nat.add_mul_div_left _ _ hp, Nat.add_mul_mod_self_left]
theorem drop_step {Z zs : List Nat} {i off : Nat} (hZ : limbs Z) (ho : off ≤ 32) (hi : i < zs.length) (h : low zs i = val Z / 2 ^ off % 4294967296 ^ i) :
    low (zs.set i ((Z.getD i 0 + 4294967296 * Z.getD (i + 1) 0) / 2 ^ off % 4294967296)) (i + 1) = val Z / 2 ^ off % 4294967296 ^ (i + 1) := by
  rw [low_set_succ _ _ _ hi, h, drop_digit hZ i off ho, Nat.mod_pow_succ]
  congr 2
  rw [Nat.div_div_eq_div_mul, Nat.div_div_eq_div_mul, Nat.mul_comm]
theorem drop_done {Z zs : List Nat} {off : Nat} (hZ : limbs Z) (hl : zs.length = Z.length) (h : low zs zs.length = val Z / 2 ^ off % 4294967296 ^ zs.length) : val zs = val Z / 2 ^ off := by
  rw [low_all (Nat.le_refl _)] at h
  rw [h]
  apply Nat.mod_eq_of_lt
  rw [hl]
  exact Nat.lt_of_le_of_lt (Nat.div_le_self _ _) (val_lt hZ)

theorem or_lift {c t off : Nat} (ho : off ≤ 32) (hc : c < 2 ^ off) : c ||| (t * 2 ^ off % 4294967296) = c + t * 2 ^ off % 4294967296 := by
  have e : t * 2 ^ off % 4294967296 = t % 2 ^ (32 - off) * 2 ^ off := by
    conv => lhs; rw [B_split ho, Nat.mul_comm t]
    rw [Nat.mul_mod_mul_left, Nat.mul_comm]
  rw [e, Nat.or_comm]
  have := Nat.shiftLeft_add_eq_or_of_lt hc (t % 2 ^ (32 - off))
  rw [Nat.shiftLeft_eq] at this
  omega
theorem lift_fits {c x off : Nat} (ho : off ≤ 32) (hc : c < 2 ^ off) : c + x * 2 ^ off % 4294967296 < 4294967296 := by
  have e : x * 2 ^ off % 4294967296 = x % 2 ^ (32 - off) * 2 ^ off := by
    conv => lhs; rw [B_split ho, Nat.mul_comm x]
    rw [Nat.mul_mod_mul_left, Nat.mul_comm]
  rw [e]
  have h1 : x % 2 ^ (32 - off) < 2 ^ (32 - off) := Nat.mod_lt _ (Nat.two_pow_pos _)
  have h2 : (x % 2 ^ (32 - off) + 1) * 2 ^ off ≤ 2 ^ (32 - off) * 2 ^ off := Nat.mul_le_mul_right _ h1
  rw [Nat.mul_comm (2 ^ (32 - off)), ← B_split ho, Nat.add_mul] at h2
  omega
theorem lift_high {x off : Nat} (hx : x < 4294967296) : x * 2 ^ off / 4294967296 < 2 ^ off := by
  apply Nat.div_lt_of_lt_mul
  exact Nat.mul_lt_mul_of_pos_right hx (Nat.two_pow_pos off)
theorem lift_step {X zs : List Nat} {i s off c : Nat} (hi : i + s + 1 < zs.length) (h : low zs (i + s) + 4294967296 ^ (i + s) * c = 4294967296 ^ s * (low X i * 2 ^ off)) (y : Nat) :
    low ((zs.set (i + s) (c + X.getD i 0 * 2 ^ off % 4294967296)).set (i + s + 1) y) (i + 1 + s) + 4294967296 ^ (i + 1 + s) * (X.getD i 0 * 2 ^ off / 4294967296) = 4294967296 ^ s * (low X (i + 1) * 2 ^ off) := by
  rw [show i + 1 + s = i + s + 1 by omega, low_set_ge _ _ _ _ (Nat.le_refl _), low_set_succ _ _ _ (by omega), low_succ, Nat.pow_succ]
  have e := carry_eq (4294967296 ^ (i + s)) (X.getD i 0 * 2 ^ off)
  have e2 : 4294967296 ^ (i + s) * (X.getD i 0 * 2 ^ off) = 4294967296 ^ s * (4294967296 ^ i * X.getD i 0 * 2 ^ off) := by
    rw [Nat.pow_add]
    simp only [Nat.mul_assoc, Nat.mul_comm, Nat.mul_left_comm]
  rw [Nat.mul_add, Nat.add_mul, Nat.mul_add]
  omega
theorem lift_done {X zs : List Nat} {k s off c : Nat} (hk : k = X.length) (hl : zs.length = k + s + 1) (hc : zs.getD (k + s) 0 = c) (h : low zs (k + s) + 4294967296 ^ (k + s) * c = 4294967296 ^ s * (low X k * 2 ^ off)) : val zs = val X * 2 ^ (32 * s + off) := by
  have e := low_succ zs (k + s)
  rw [low_all (by omega), hc, h, low_all (by omega)] at e
  rw [e, Nat.pow_add, show 2 ^ (32 * s) = 4294967296 ^ s by rw [Nat.pow_mul]]
  simp only [Nat.mul_assoc, Nat.mul_comm, Nat.mul_left_comm]

/-- A number, shifted. -/
def shl (v : Nat) (n : Int) : Nat := if 0 ≤ n then v * 2 ^ n.toNat else v / 2 ^ (-n).toNat
end Go.Proofs.YtdfmmaehmngkhaaDoor

namespace Go.Proofs.YtdfmmaehmngkhaaDoor
open Go.RowKit

theorem val_drop_step (zs : List Nat) (j : Nat) : val (zs.drop j) = zs.getD j 0 + 4294967296 * val (zs.drop (j + 1)) := by
  rw [val_tail (zs.drop j), getD_drop, Nat.add_zero, List.tail_drop]
theorem or_low {x y : Nat} (hx : x < 4294967296) (hy : y < 4294967296) : bits BinOp.or IntKind.u64 ((y : Int) * 4294967296) (x : Int) = ((y * 4294967296 + x : Nat) : Int) := by
  have h := bits_or_u64_nat (y * 4294967296) x (by omega) (by omega)
  rw [show ((y : Int) * 4294967296) = ((y * 4294967296 : Nat) : Int) by omega, h]
  congr 1
  have h2 := Nat.shiftLeft_add_eq_or_of_lt (i := 32) (b := x) (by simpa using hx) y
  rw [Nat.shiftLeft_eq, show (2 ^ 32 : Nat) = 4294967296 from rfl] at h2
  rw [← h2]
theorem div_by_step {zs ys : List Nat} {j l b d r : Nat} (hj : j < ys.length) (h : val (ys.drop (j + 1)) * b + l = val (zs.drop (j + 1))) (hd : (l * 4294967296 + zs.getD j 0) = d * b + r) :
    val ((ys.set j d).drop j) * b + r = val (zs.drop j) := by
  have e1 := val_drop_step (ys.set j d) j
  have e2 : (ys.set j d).drop (j + 1) = ys.drop (j + 1) := List.drop_set_of_lt (by omega)
  rw [getD_set_eq _ _ _ hj, e2] at e1
  rw [e1, val_drop_step zs j, ← h, Nat.add_mul, Nat.mul_add, Nat.mul_assoc]
  omega

theorem grownBy_set {w0 w : World} {g : Nat} (h : w0.grownBy w (some g)) (k : Nat) (u : Value) : w0.grownBy (w.setCell ⟨g, k, none⟩ u) (some g) :=
  ⟨h.os, h.tape, h.output, by simp [World.setCell]; exact h.size, fun j hj hne => by
    rw [heap_setCell_other]
    · exact h.block j hj hne
    · intro e; exact hne (by rw [e])⟩

/-- What divideBy leaves. -/
def ByEnd (B : Nat) (w0 : World) (g cap : Nat) (zs : List Nat) (b : Nat) (e : Ending) (w' : World) : Prop :=
  ∃ ys : List Nat, e = .returned (.int .u32 ((val zs % b : Nat) : Int)) ∧ ys.length = zs.length ∧ Own B 68 w' (.slice (some ⟨g, 0, none⟩) zs.length cap) ys ∧ val ys = val zs / b ∧ w0.grownBy w' (some g)

set_option maxRecDepth 100000 in
set_option maxHeartbeats 1600000 in
theorem divideBy_any (zs : List Nat) (B g n cap : Nat) (bI : Int) (w : World) (hc : Own B 68 w (.slice (some ⟨g, 0, none⟩) n cap) zs) (hn : zs.length = n) (hnc : n ≤ cap) (hcm : cap ≤ 9223372036854775807) (hb0 : 0 < bI) (hb1 : bI < 4294967296) :
    Calls Tryd.prog 68 #[.slice (some ⟨g, 0, none⟩) n cap, .int .u32 bI] w fun e w' => ByEnd B w g cap zs bI.toNat e w' := by
  obtain ⟨b, rfl⟩ := Int.eq_ofNat_of_zero_le (Int.le_of_lt hb0)
  rw [Int.toNat_natCast]
  have hbp : 0 < b := by omega
  have hb1' : 1 ≤ (b : Int) := by omega
  have HN : Hid (zs.length = n) := hn
  have HC0 : Hid (Own B 68 w (.slice (some ⟨g, 0, none⟩) n cap) zs) := hc
  have HZ0 : Hid (limbs zs) := hc.1
  clear hn hc
  go_enter Tryd.func68, Tryd.ntmps68
  go_wp2
  go_loopw [5, 6] (fun lv t wr => ∃ (i l : Nat) (ys : List Nat), i ≤ n ∧ t = .int .i64 ((i : Int) - 1) ∧ lv = .int .u64 l ∧ l < b ∧ ys.length = n ∧ Own B 68 wr (.slice (some ⟨g, 0, none⟩) n cap) ys ∧ w.grownBy wr (some g) ∧ (∀ j, j < i → ys.getD j 0 = zs.getD j 0) ∧ val (ys.drop i) * b + l = val (zs.drop i)) (fun _ t _ => (intOf t + 1).toNat)
  case atStart =>
    refine ⟨n, 0, zs, Nat.le_refl _, rfl, rfl, hbp, HN.out, HC0.out, World.grownBy.refl _ _, fun _ _ => rfl, ?_⟩
    rw [List.drop_of_length_le (by rw [HN.out]; exact Nat.le_refl _)]
    simp [val]
  case round =>
    clear HC0
    obtain ⟨i, l, ys, hin, rfl, rfl, hlb, hyl, hcs, hbel, hsame, hinv⟩ := hrel
    have HY : Hid (ys.length = n) := hyl
    have HS : Hid (∀ j, j < i → ys.getD j 0 = zs.getD j 0) := hsame
    have HI : Hid (val (ys.drop i) * b + l = val (zs.drop i)) := hinv
    clear hyl hsame hinv
    by_cases hi0 : 0 < i
    · obtain ⟨j, rfl⟩ : ∃ j, i = j + 1 := ⟨i - 1, by omega⟩
      have ej : ((j + 1 : Nat) : Int) - 1 = (j : Int) := by omega
      rw [ej]
      have hge : (0 : Int) ≤ (j : Int) := by omega
      have hjn : (j : Int) < (n : Int) := by omega
      obtain ⟨cz, hfz⟩ := hcs.cell (k := j) (by rw [HY.out]; omega)
      rw [HS.out j (by omega)] at cz
      have hz0 := limb_lt HZ0.out j
      obtain ⟨z, hz⟩ : ∃ z, z = zs.getD j 0 := ⟨_, rfl⟩
      rw [← hz] at cz hz0
      have HZ : Hid (z = zs.getD j 0) := hz
      have hl32 : l < 4294967296 := by omega
      have eor := or_low hz0 hl32
      obtain ⟨T, hT⟩ : ∃ T, T = l * 4294967296 + z := ⟨_, rfl⟩
      rw [← hT] at eor
      have hT1 : T < 18446744073709551616 := by omega
      have HT : Hid (T = l * 4294967296 + z) := hT
      have hTb : T < b * 4294967296 := by
        have : (l + 1) * 4294967296 ≤ b * 4294967296 := Nat.mul_le_mul_right _ hlb
        omega
      have hd0 : T / b < 4294967296 := Nat.div_lt_of_lt_mul hTb
      have hr0 : T % b < b := Nat.mod_lt _ hbp
      obtain ⟨d, hd⟩ : ∃ d, d = T / b := ⟨_, rfl⟩
      obtain ⟨r, hr⟩ : ∃ r, r = T % b := ⟨_, rfl⟩
      have ed : (T : Int) / (b : Int) = (d : Int) := by rw [hd]; exact (Int.natCast_ediv T b).symm
      have er : (T : Int) % (b : Int) = (r : Int) := by rw [hr]; exact (Int.natCast_emod T b).symm
      have HDR : Hid (T = d * b + r) := by show _ = _; rw [hd, hr, Nat.mul_comm]; exact (Nat.div_add_mod T b).symm
      rw [← hd] at hd0
      rw [← hr] at hr0
      have hset := hcs.set HY.out j d hd0
      have hbel2 := grownBy_set hbel j (U d)
      rw [show U d = .int .u32 (d : Int) from rfl] at hset hbel2
      clear hz hT hTb hd hr hcs hbel
      go_wp2
      go_roundw
      case rel =>
        refine ⟨j, r, _, by omega, by go_num, by go_num, hr0, by rw [List.length_set]; exact HY.out, hset, hbel2, fun q hq => ?_, ?_⟩
        · rw [getD_set_off _ _ _ _ (by omega)]; exact HS.out q (by omega)
        · exact div_by_step (by rw [HY.out]; omega) HI.out (by rw [← HZ.out, ← HT.out]; exact HDR.out)
      case measure => simp [intOf]
    · have hi1 : i = 0 := by omega
      subst hi1
      have hfin := HI.out
      rw [List.drop_zero, List.drop_zero] at hfin
      have h1 : val zs % b = l := by rw [← hfin, Nat.add_comm, Nat.add_mul_mod_self_right, Nat.mod_eq_of_lt hlb]
      have h2 : val ys = val zs / b := by rw [← hfin, Nat.add_comm, Nat.add_mul_div_right _ _ hbp, Nat.div_eq_of_lt hlb, Nat.zero_add]
      have HE : Hid (ByEnd B w g cap zs b (.returned (.int .u32 (l : Int))) wr) := ⟨ys, by rw [h1], by rw [HY.out, HN.out], by rw [HN.out]; exact hcs, h2, hbel⟩
      clear hfin h1 h2 hcs hbel HI
      go_wp2
      go_ret
      exact HE.out
end Go.Proofs.YtdfmmaehmngkhaaDoor
