/-
  Proved here: what the small makers of numbers answer.
  Proved here: what Add answers.
  Proved here: what blend and Sub answer.
  Proved here: plain facts on a row of a product. No condition.
  Proved here: what addTimes and Mul answer.
  Proved here: plain facts on shifts of numbers and of their limbs. No condition.
-/
import Derived.Test.YtaekaikkldnikaaTrimAll
import Derived.Laws.Bits64b
import Derived.Test.YtaekaikkldnikaaCmpAll
import Derived.Test.YtaekaikkldnikaaLong
namespace Go.Proofs.Ytaekaikkldnikaa
open Go.RowKit

theorem Try.infoU : (Try.prog.info? 39).map (fun i => (i.zero, i.size, i.bytes)) = some (some (.int .u32 0), 1, 4) := by kernel_rfl

theorem val_two (u : Nat) : val [u % 4294967296, u / 4294967296] = u := by simp [val]; omega

set_option maxHeartbeats 400000 in
theorem of_any (u : Nat) (w : World) (hu : u < 18446744073709551616) :
    Calls Try.prog 22 #[.int .u64 (u : Int)] w fun e w' => ∃ v, e = .returned v ∧ Own w.heap.size 39 w' v (lim u) ∧ Below w.heap.size w w' := by
  have hb : limbs [u % 4294967296, u / 4294967296] := by
    intro x hx
    simp at hx
    omega
  have how := Own.lit (B := w.heap.size) 39 w #[.int .u32 ((u : Int) % 4294967296), .int .u32 ((u : Int) / 4294967296)] [u % 4294967296, u / 4294967296] hb (Nat.le_refl _) (by simp [maxLen]) (by simp [U])
  have hbel : Below w.heap.size w (w.alloc (.cells #[.int .u32 ((u : Int) % 4294967296), .int .u32 ((u : Int) / 4294967296)] 39)) := (Below.refl _ _).alloc (Nat.le_refl _) _
  go_enter Try.func22, Try.ntmps22
  go_wp2_with fail
  refine (trim_any _ _ _ how.num).mono ?_
  rintro e w' ⟨⟨k, hk, hk2, rfl⟩, rfl⟩
  have how2 := how.cut hk
  rw [hk2, val_two] at how2
  clear how hk2 hb
  go_wp2
  go_ret
  exact ⟨_, rfl, how2, hbel⟩

theorem or_high (x y : Nat) (hx : x < 4294967296) (hy : y < 4294967296) : bits BinOp.or IntKind.u64 (x : Int) ((y : Int) * 4294967296) = ((x + 4294967296 * y : Nat) : Int) := by
  have h := bits_or_u64_nat x (y * 4294967296) (by omega) (by omega)
  rw [show ((y : Int) * 4294967296) = ((y * 4294967296 : Nat) : Int) by omega, h]
  congr 1
  have h2 := Nat.shiftLeft_add_eq_or_of_lt (i := 32) (b := x) (by simpa using hx) y
  rw [Nat.shiftLeft_eq, show (2 ^ 32 : Nat) = 4294967296 from rfl] at h2
  rw [Nat.or_comm, ← h2]; omega

theorem or_halves (V : Nat) (h : V < 18446744073709551616) : bits BinOp.or IntKind.u64 ((V : Int) % 4294967296) ((V : Int) / 4294967296 * 4294967296) = (V : Int) := by
  have hor := or_high (V % 4294967296) (V / 4294967296) (by omega) (by omega)
  rw [Int.natCast_emod, Int.natCast_ediv] at hor
  refine hor.trans ?_
  omega

end Go.Proofs.Ytaekaikkldnikaa

namespace Go.Proofs.Ytaekaikkldnikaa
open Go.RowKit

theorem own_made {B e n : Nat} {w : World} {v : Value} (h : w.ownsRow B e 1 v n (madeCells #[Value.int .u32 0] n).toList) : Own B e w v (List.replicate n 0) := by
  refine ⟨fun x hx => by have := List.eq_of_mem_replicate hx; omega, ?_⟩
  rw [toList_madeCells_one] at h
  rw [List.map_replicate, List.length_replicate]
  exact h

/-- What a maker of a number leaves. -/
def Made' (B : Nat) (w : World) (xs : List Nat) (en : Ending) (w' : World) : Prop := ∃ v, en = .returned v ∧ Own B 39 w' v xs ∧ Below B w w'

end Go.Proofs.Ytaekaikkldnikaa

namespace Go.Proofs.Ytaekaikkldnikaa
open Go.RowKit

theorem and_mask (a : Nat) (h : a < 18446744073709551616) : bits BinOp.and IntKind.u64 (a : Int) 4294967295 = ((a % 4294967296 : Nat) : Int) := by
  have := bits_and_u64_nat a 4294967295 h (by decide)
  rw [show ((4294967295 : Nat) : Int) = 4294967295 from rfl] at this
  rw [this]
  congr 1
  exact Nat.and_two_pow_sub_one_eq_mod a 32

theorem sub_wrap (P M b : Nat) (hP : P < 4294967296) (hM : M < 4294967296) (hb : b ≤ 1) : ∃ D1 D b' dl : Nat, IntKind.u64.wrap ((P : Int) - (M : Int)) = (D1 : Int) ∧ IntKind.u64.wrap ((D1 : Int) - (b : Int)) = (D : Int) ∧ D < 18446744073709551616 ∧
    ((D : Int) % 4294967296) = (dl : Int) ∧ ((D : Int) / 9223372036854775808) = (b' : Int) ∧ b' ≤ 1 ∧ dl < 4294967296 ∧ P + 4294967296 * b' = M + b + dl := by
  by_cases h1 : M ≤ P
  · by_cases h2 : M + b ≤ P
    · exact ⟨P - M, P - M - b, 0, P - M - b, by rw [IntKind.wrap_u64]; omega, by rw [IntKind.wrap_u64]; omega, by omega, by omega, by omega, by omega, by omega, by omega⟩
    · refine ⟨0, 18446744073709551615, 1, 4294967295, by rw [IntKind.wrap_u64]; omega, by rw [IntKind.wrap_u64]; omega, by omega, by omega, by omega, by omega, by omega, by omega⟩
  · exact ⟨18446744073709551616 + P - M, 18446744073709551616 + P - M - b, 1, 4294967296 + P - M - b, by rw [IntKind.wrap_u64]; omega, by rw [IntKind.wrap_u64]; omega, by omega, by omega, by omega, by omega, by omega, by omega⟩

theorem mul_bound {x u : Nat} (hx : x < 4294967296) (hu : u < 4294967296) : x * u ≤ 18446744065119617025 := by
  have : x * u ≤ 4294967295 * 4294967295 := Nat.mul_le_mul (by omega) (by omega)
  omega

end Go.Proofs.Ytaekaikkldnikaa

namespace Go.Proofs.Ytaekaikkldnikaa

theorem val_zero_of {zs : List Nat} (h : ∀ j, zs.getD j 0 = 0) : val zs = 0 := by
  rw [val_congr zs.length (ys := []) (Nat.le_refl _) (by simp) (fun j => by rw [h j]; simp)]
  rfl
theorem mul_step {zs zs' X : List Nat} {i k c b : Nat} (hl : zs'.length = zs.length) (hik : i + k < zs.length) (hz : ∀ j, i + k ≤ j → zs.getD j 0 = 0) (hs : ∀ j, j < i ∨ i + k ≤ j → zs'.getD j 0 = zs.getD j 0)
    (h : low (zs'.drop i) k + 4294967296 ^ k * c = low (zs.drop i) k + val X * b) : val (zs'.set (i + k) c) = val zs + 4294967296 ^ i * (val X * b) := by
  have e1 : low (zs'.set (i + k) c) i = low zs i := by
    rw [low_set_ge _ _ _ _ (by omega)]
    exact low_congr fun j hj => hs j (Or.inl hj)
  have e2 : val ((zs'.set (i + k) c).drop i) = low (zs'.drop i) k + 4294967296 ^ k * c := by
    rw [drop_set_add, val_split _ k (by simp; omega), low_set_ge _ _ _ _ (Nat.le_refl _)]
    congr 2
    rw [List.drop_set, if_neg (by omega), Nat.sub_self, List.drop_drop, val_tail, getD_set_eq _ _ _ (by simp; omega)]
    rw [val_zero_of (zs := ((zs'.drop (i + k)).set 0 c).tail)]
    · simp
    · intro j
      rw [getD_tail, getD_set_off _ _ _ _ (by omega), getD_drop, hs _ (Or.inr (by omega)), hz _ (by omega)]
  have e3 : val (zs.drop i) = low (zs.drop i) k := by
    rw [val_split _ k (by simp; omega), val_zero_of (zs := (zs.drop i).drop k), Nat.mul_zero, Nat.add_zero]
    intro j
    rw [getD_drop, getD_drop]
    exact hz _ (by omega)
  rw [val_split (zs'.set (i + k) c) i (by simp; omega), e1, e2, h, val_split zs i (by omega), e3, Nat.mul_add, Nat.add_assoc]
theorem mul_row {X Y : List Nat} {i v : Nat} (h : v = val X * low Y i) : v + 4294967296 ^ i * (val X * Y.getD i 0) = val X * low Y (i + 1) := by
  rw [h, low_succ, Nat.mul_add]
  congr 1
  rw [← Nat.mul_assoc, ← Nat.mul_assoc, Nat.mul_comm (4294967296 ^ i)]
theorem mul_zeros {zs zs' : List Nat} {i k c : Nat} (hz : ∀ j, i + k ≤ j → zs.getD j 0 = 0) (hs : ∀ j, j < i ∨ i + k ≤ j → zs'.getD j 0 = zs.getD j 0) : ∀ j, i + 1 + k ≤ j → (zs'.set (i + k) c).getD j 0 = 0 := fun j hj => by
  rw [getD_set_off _ _ _ _ (by omega), hs j (Or.inr (by omega)), hz j (by omega)]
end Go.Proofs.Ytaekaikkldnikaa

namespace Go.Proofs.Ytaekaikkldnikaa
open Go.RowKit

/-- A row that holds just these limbs. -/
def Cells (w : World) (g : Nat) (zs : List Nat) : Prop := limbs zs ∧ w.heap[g]? = some (.cells (zs.map U).toArray 39 (0, 0))
theorem Own.cells {B g n : Nat} {w : World} {zs : List Nat} (h : Own B 39 w (.slice (some ⟨g, 0, none⟩) n n) zs) : Cells w g zs := by
  obtain ⟨_, hn, cur, h1, h2, h3, h4⟩ := h.heap
  refine ⟨h.1, ?_⟩
  rw [h1]
  congr 2
  rw [← h4, List.take_of_length_le (by rw [Array.length_toList]; omega)]
theorem Cells.own {B g : Nat} {w : World} {zs : List Nat} (h : Cells w g zs) (hB : B ≤ g) (hm : zs.length ≤ 9223372036854775807) : Own B 39 w (.slice (some ⟨g, 0, none⟩) zs.length zs.length) zs :=
  ⟨h.1, by simp, Or.inr ⟨g, zs.length, _, rfl, hB, h.2, Nat.le_refl _, hm, by simp, by simp only [Nat.mul_one]; exact List.take_of_length_le (by simp)⟩⟩
theorem Cells.cell {g k : Nat} {w : World} {zs : List Nat} (h : Cells w g zs) (hk : k < zs.length) : w.cell? ⟨g, k, none⟩ = some (.int .u32 ((zs.getD k 0 : Nat) : Int)) ∧ w.frozen? ⟨g, k, none⟩ = false := by
  refine ⟨?_, frozen_of_row w g k _ _ h.2⟩
  rw [cell_of_row w g k _ _ _ h.2]
  simp [List.getD, hk, U]
theorem Cells.set {g : Nat} {w : World} {zs : List Nat} (h : Cells w g zs) (k x : Nat) (hx : x < 4294967296) : Cells (w.setCell ⟨g, k, none⟩ (U x)) g (zs.set k x) := by
  refine ⟨limbs_set h.1 k x hx, ?_⟩
  rw [heap_setCell_same w g k _ _ _ h.2, List.map_set]
  simp

/-- What addTimes leaves. -/
def TimesEnd (w0 : World) (g off n : Nat) (zs X : List Nat) (b : Nat) (e : Ending) (w' : World) : Prop :=
  ∃ (zs' : List Nat) (c : Nat), e = .returned (.int .u32 (c : Int)) ∧ c < 4294967296 ∧ zs'.length = zs.length ∧ Cells w' g zs' ∧ Below w0.heap.size w0 w' ∧
    (∀ j, j < off ∨ off + n ≤ j → zs'.getD j 0 = zs.getD j 0) ∧ low (zs'.drop off) n + 4294967296 ^ n * c = low (zs.drop off) n + val X * b

theorem top_sum {t c z : Nat} (ht : t ≤ 18446744065119617025) (hc : c < 4294967296) (hz : z < 4294967296) : c + (t + z) ≤ 18446744073709551615 := by omega

end Go.Proofs.Ytaekaikkldnikaa

namespace Go.Proofs.Ytaekaikkldnikaa

theorem B_split {r : Nat} (hr : r ≤ 32) : 4294967296 = 2 ^ r * 2 ^ (32 - r) := by
  rw [← Nat.pow_add, show r + (32 - r) = 32 by omega]
theorem val_drop (X : List Nat) (hX : limbs X) (k : Nat) (hk : k ≤ X.length) : val (X.drop k) = val X / 4294967296 ^ k := by
  rw [val_split X k hk, Nat.add_mul_div_left _ _ (Nat.pow_pos (by decide)), Nat.div_eq_of_lt (low_lt hX k), Nat.zero_add]
/-- A limb is a digit. -/
theorem limb_digit {X : List Nat} (hX : limbs X) (k : Nat) : X.getD k 0 = val X / 4294967296 ^ k % 4294967296 := by
  rcases Nat.lt_or_ge k X.length with hk | hk
  · rw [← val_drop X hX k (by omega), val_tail, getD_drop, Nat.add_zero, Nat.add_mul_mod_self_left, Nat.mod_eq_of_lt (limb_lt hX k)]
  · rw [getD_ge hk, Nat.div_eq_of_lt (Nat.lt_of_lt_of_le (val_lt hX) (Nat.pow_le_pow_right (by decide) hk))]
theorem two_limbs {X : List Nat} (hX : limbs X) (k : Nat) : ∃ R, val X / 4294967296 ^ k = X.getD k 0 + 4294967296 * X.getD (k + 1) 0 + 4294967296 * 4294967296 * R := by
  refine ⟨val X / 4294967296 ^ (k + 1 + 1), ?_⟩
  have h1 := limb_digit hX k
  have h2 := limb_digit hX (k + 1)
  have e1 : val X / 4294967296 ^ (k + 1) = val X / 4294967296 ^ k / 4294967296 := by rw [Nat.pow_succ, Nat.div_div_eq_div_mul]
  have e2 : val X / 4294967296 ^ (k + 1 + 1) = val X / 4294967296 ^ (k + 1) / 4294967296 := by rw [Nat.pow_succ _ (k + 1), Nat.div_div_eq_div_mul]
  rw [h1, h2, e2, e1]
  omega
/-- A limb of a quotient by a small power of two. -/
theorem drop_digit {X : List Nat} (hX : limbs X) (k off : Nat) (ho : off ≤ 32) : (X.getD k 0 + 4294967296 * X.getD (k + 1) 0) / 2 ^ off % 4294967296 = val X / 4294967296 ^ k / 2 ^ off % 4294967296 := by
  obtain ⟨R, hR⟩ := two_limbs hX k
  have hp : 0 < 2 ^ off := Nat.two_pow_pos off
  rw [hR]
  have e : 4294967296 * 4294967296 * R = 2 ^ off * (4294967296 * (2 ^ (32 - off) * R)) := by
    conv => lhs; rw [B_split ho]
    conv => rhs; rw [B_split ho]
    simp only [Nat.mul_comm, Nat.mul_left_comm]
  rw [e, Nat.add_mul_div_left _ _ hp, Nat.add_mul_mod_self_left]
theorem drop_step {Z zs : List Nat} {i off : Nat} (hZ : limbs Z) (ho : off ≤ 32) (hi : i < zs.length) (h : low zs i = val Z / 2 ^ off % 4294967296 ^ i) :
    low (zs.set i ((Z.getD i 0 + 4294967296 * Z.getD (i + 1) 0) / 2 ^ off % 4294967296)) (i + 1) = val Z / 2 ^ off % 4294967296 ^ (i + 1) := by
  rw [low_set_succ _ _ _ hi, h, drop_digit hZ i off ho, Nat.mod_pow_succ]
  congr 2
  rw [Nat.div_div_eq_div_mul, Nat.div_div_eq_div_mul, Nat.mul_comm]
theorem drop_done {Z zs : List Nat} {off : Nat} (hZ : limbs Z) (hl : zs.length = Z.length) (h : low zs zs.length = val Z / 2 ^ off % 4294967296 ^ zs.length) : val zs = val Z / 2 ^ off := by
  rw [low_all (Nat.le_refl _)] at h
  rw [h]
  apply Nat.mod_eq_of_lt
  rw [hl]
  exact Nat.lt_of_le_of_lt (Nat.div_le_self _ _) (val_lt hZ)

theorem or_lift {c t off : Nat} (ho : off ≤ 32) (hc : c < 2 ^ off) : c ||| (t * 2 ^ off % 4294967296) = c + t * 2 ^ off % 4294967296 := by
  have e : t * 2 ^ off % 4294967296 = t % 2 ^ (32 - off) * 2 ^ off := by
    conv => lhs; rw [B_split ho, Nat.mul_comm t]
    rw [Nat.mul_mod_mul_left, Nat.mul_comm]
  rw [e, Nat.or_comm]
  have := Nat.shiftLeft_add_eq_or_of_lt hc (t % 2 ^ (32 - off))
  rw [Nat.shiftLeft_eq] at this
  omega
theorem lift_fits {c x off : Nat} (ho : off ≤ 32) (hc : c < 2 ^ off) : c + x * 2 ^ off % 4294967296 < 4294967296 := by
  have e : x * 2 ^ off % 4294967296 = x % 2 ^ (32 - off) * 2 ^ off := by
    conv => lhs; rw [B_split ho, Nat.mul_comm x]
    rw [Nat.mul_mod_mul_left, Nat.mul_comm]
  rw [e]
  have h1 : x % 2 ^ (32 - off) < 2 ^ (32 - off) := Nat.mod_lt _ (Nat.two_pow_pos _)
  have h2 : (x % 2 ^ (32 - off) + 1) * 2 ^ off ≤ 2 ^ (32 - off) * 2 ^ off := Nat.mul_le_mul_right _ h1
  rw [Nat.mul_comm (2 ^ (32 - off)), ← B_split ho, Nat.add_mul] at h2
  omega
theorem lift_high {x off : Nat} (hx : x < 4294967296) : x * 2 ^ off / 4294967296 < 2 ^ off := by
  apply Nat.div_lt_of_lt_mul
  exact Nat.mul_lt_mul_of_pos_right hx (Nat.two_pow_pos off)
theorem lift_step {X zs : List Nat} {i s off c : Nat} (hi : i + s + 1 < zs.length) (h : low zs (i + s) + 4294967296 ^ (i + s) * c = 4294967296 ^ s * (low X i * 2 ^ off)) (y : Nat) :
    low ((zs.set (i + s) (c + X.getD i 0 * 2 ^ off % 4294967296)).set (i + s + 1) y) (i + 1 + s) + 4294967296 ^ (i + 1 + s) * (X.getD i 0 * 2 ^ off / 4294967296) = 4294967296 ^ s * (low X (i + 1) * 2 ^ off) := by
  rw [show i + 1 + s = i + s + 1 by omega, low_set_ge _ _ _ _ (Nat.le_refl _), low_set_succ _ _ _ (by omega), low_succ, Nat.pow_succ]
  have e := carry_eq (4294967296 ^ (i + s)) (X.getD i 0 * 2 ^ off)
  have e2 : 4294967296 ^ (i + s) * (X.getD i 0 * 2 ^ off) = 4294967296 ^ s * (4294967296 ^ i * X.getD i 0 * 2 ^ off) := by
    rw [Nat.pow_add]
    simp only [Nat.mul_assoc, Nat.mul_comm, Nat.mul_left_comm]
  rw [Nat.mul_add, Nat.add_mul, Nat.mul_add]
  omega
theorem lift_done {X zs : List Nat} {k s off c : Nat} (hk : k = X.length) (hl : zs.length = k + s + 1) (hc : zs.getD (k + s) 0 = c) (h : low zs (k + s) + 4294967296 ^ (k + s) * c = 4294967296 ^ s * (low X k * 2 ^ off)) : val zs = val X * 2 ^ (32 * s + off) := by
  have e := low_succ zs (k + s)
  rw [low_all (by omega), hc, h, low_all (by omega)] at e
  rw [e, Nat.pow_add, show 2 ^ (32 * s) = 4294967296 ^ s by rw [Nat.pow_mul]]
  simp only [Nat.mul_assoc, Nat.mul_comm, Nat.mul_left_comm]

theorem val_set_add (zs : List Nat) (k d : Nat) (hk : k < zs.length) : val (zs.set k (zs.getD k 0 + d)) = val zs + 4294967296 ^ k * d := by
  have e1 := val_split (zs.set k (zs.getD k 0 + d)) (k + 1) (by simp; omega)
  have e2 := val_split zs (k + 1) (by omega)
  rw [low_set_succ _ _ _ hk, List.drop_set_of_lt (by omega)] at e1
  rw [low_succ] at e2
  rw [e1, e2, Nat.mul_add]
  omega
theorem limb_small {zs : List Nat} (hz : limbs zs) {k r : Nat} (h : val zs < 4294967296 ^ k * 2 ^ r) : zs.getD k 0 < 2 ^ r := by
  rw [limb_digit hz k]
  exact Nat.lt_of_le_of_lt (Nat.mod_le _ _) (Nat.div_lt_of_lt_mul h)
/-- A number, shifted. -/
def shl (v : Nat) (n : Int) : Nat := if 0 ≤ n then v * 2 ^ n.toNat else v / 2 ^ (-n).toNat
theorem bit_digit {xs : List Nat} (hx : limbs xs) (k r : Nat) (hr : r < 32) : xs.getD k 0 / 2 ^ r % 2 = val xs / 2 ^ (32 * k + r) % 2 := by
  rw [limb_digit hx k, Nat.pow_add, Nat.pow_mul, show (2 : Nat) ^ 32 = 4294967296 from rfl, ← Nat.div_div_eq_div_mul]
  generalize val xs / 4294967296 ^ k = Y
  have hd := Nat.div_add_mod Y 4294967296
  conv => rhs; rw [← hd]
  generalize Y / 4294967296 = q
  rw [show 4294967296 * q = 2 ^ r * (2 * (2 ^ (31 - r) * q)) by
    conv => lhs; rw [show (4294967296 : Nat) = 2 ^ r * (2 * 2 ^ (31 - r)) by rw [← Nat.pow_succ', ← Nat.pow_add, show r + (31 - r + 1) = 32 by omega]]
    simp only [Nat.mul_assoc]]
  rw [Nat.add_comm, Nat.add_mul_div_left _ _ (Nat.two_pow_pos r), Nat.add_mul_mod_self_left]
theorem shl_bit {v : Nat} {n : Int} {i : Nat} : shl v n / 2 ^ i % 2 = if n ≤ (i : Int) then v / 2 ^ ((i : Int) - n).toNat % 2 else 0 := by
  unfold shl
  by_cases h0 : 0 ≤ n
  · rw [if_pos h0]
    obtain ⟨m, rfl⟩ := Int.eq_ofNat_of_zero_le h0
    rw [Int.toNat_natCast]
    by_cases h1 : m ≤ i
    · rw [if_pos (by omega), show ((i : Int) - (m : Int)).toNat = i - m by omega]
      congr 1
      conv => lhs; rw [show i = m + (i - m) by omega, Nat.pow_add, ← Nat.div_div_eq_div_mul, Nat.mul_div_cancel _ (Nat.two_pow_pos m)]
    · rw [if_neg (by omega), show m = i + (1 + (m - i - 1)) by omega, Nat.pow_add, Nat.pow_add, Nat.mul_left_comm, Nat.mul_div_cancel_left _ (Nat.two_pow_pos i), Nat.pow_one, Nat.mul_left_comm, Nat.mul_mod_right]
  · rw [if_neg h0, if_pos (by omega), Nat.div_div_eq_div_mul, ← Nat.pow_add]
    congr 3
    omega
theorem shl_step {v : Nat} {n : Int} {i : Nat} : shl v n % 2 ^ (i + 1) = shl v n % 2 ^ i + 2 ^ i * (shl v n / 2 ^ i % 2) := Nat.mod_pow_succ
theorem pow_place (i : Nat) : 2 ^ i = 4294967296 ^ (i / 32) * 2 ^ (i % 32) := by
  rw [show (4294967296 : Nat) = 2 ^ 32 from rfl, ← Nat.pow_mul, ← Nat.pow_add]
  congr 1
  omega
end Go.Proofs.Ytaekaikkldnikaa
