/-
  Proved here: plain facts on shifts of numbers and of their limbs. No condition.
  Proved here: what lift and drop answer.
-/
import Derived.Test.YtaafijifiiiblaaGreatCmpAll
import Derived.Test.YtaafijifiiiblaaGreatMul
import Derived.Laws.BitsAllLaws
namespace Go.Proofs.YtaafijifiiiblaaGreat

theorem B_split {r : Nat} (hr : r ≤ 32) : 4294967296 = 2 ^ r * 2 ^ (32 - r) := by
  rw [← Nat.pow_add, show r + (32 - r) = 32 by omega]
theorem val_drop (X : List Nat) (hX : limbs X) (k : Nat) (hk : k ≤ X.length) : val (X.drop k) = val X / 4294967296 ^ k := by
  rw [val_split X k hk, Nat.add_mul_div_left _ _ (Nat.pow_pos (by decide)), Nat.div_eq_of_lt (low_lt hX k), Nat.zero_add]
/-- A limb is a digit. -/
theorem limb_digit {X : List Nat} (hX : limbs X) (k : Nat) : X.getD k 0 = val X / 4294967296 ^ k % 4294967296 := by
  rcases Nat.lt_or_ge k X.length with hk | hk
  · rw [← val_drop X hX k (by omega), val_tail, getD_drop, Nat.add_zero, Nat.add_mul_mod_self_left, Nat.mod_eq_of_lt (limb_lt hX k)]
  · rw [getD_ge hk, Nat.div_eq_of_lt (Nat.lt_of_lt_of_le (val_lt hX) (Nat.pow_le_pow_right (by decide) hk))]
theorem two_limbs {X : List Nat} (hX : limbs X) (k : Nat) : ∃ R, val X / 4294967296 ^ k = X.getD k 0 + 4294967296 * X.getD (k + 1) 0 + 4294967296 * 4294967296 * R := by
  refine ⟨val X / 4294967296 ^ (k + 1 + 1), ?_⟩
  have h1 := limb_digit hX k
  have h2 := limb_digit hX (k + 1)
  have e1 : val X / 4294967296 ^ (k + 1) = val X / 4294967296 ^ k / 4294967296 := by rw [Nat.pow_succ, Nat.div_div_eq_div_mul]
  have e2 : val X / 4294967296 ^ (k + 1 + 1) = val X / 4294967296 ^ (k + 1) / 4294967296 := by rw [Nat.pow_succ _ (k + 1), Nat.div_div_eq_div_mul]
  rw [h1, h2, e2, e1]
  omega
/-- A limb of a quotient by a small power of two. -/
theorem drop_digit {X : List Nat} (hX : limbs X) (k off : Nat) (ho : off ≤ 32) : (X.getD k 0 + 4294967296 * X.getD (k + 1) 0) / 2 ^ off % 4294967296 = val X / 4294967296 ^ k / 2 ^ off % 4294967296 := by
  obtain ⟨R, hR⟩ := two_limbs hX k
  have hp : 0 < 2 ^ off := Nat.two_pow_pos off
  rw [hR]
  have e : 4294967296 * 4294967296 * R = 2 ^ off * (4294967296 * (2 ^ (32 - off) * R)) := by
    conv => lhs; rw [B_split ho]
    conv => rhs; rw [B_split ho]
    simp only [Nat.mul_comm, Nat.mul_left_comm]
  rw [e, Nat.add_mul_div_left _ _ hp, Nat.add_mul_mod_self_left]
theorem drop_step {Z zs : List Nat} {i off : Nat} (hZ : limbs Z) (ho : off ≤ 32) (hi : i < zs.length) (h : low zs i = val Z / 2 ^ off % 4294967296 ^ i) :
    low (zs.set i ((Z.getD i 0 + 4294967296 * Z.getD (i + 1) 0) / 2 ^ off % 4294967296)) (i + 1) = val Z / 2 ^ off % 4294967296 ^ (i + 1) := by
  rw [low_set_succ _ _ _ hi, h, drop_digit hZ i off ho, Nat.mod_pow_succ]
  congr 2
  rw [Nat.div_div_eq_div_mul, Nat.div_div_eq_div_mul, Nat.mul_comm]
theorem drop_done {Z zs : List Nat} {off : Nat} (hZ : limbs Z) (hl : zs.length = Z.length) (h : low zs zs.length = val Z / 2 ^ off % 4294967296 ^ zs.length) : val zs = val Z / 2 ^ off := by
  rw [low_all (Nat.le_refl _)] at h
  rw [h]
  apply Nat.mod_eq_of_lt
  rw [hl]
  exact Nat.lt_of_le_of_lt (Nat.div_le_self _ _) (val_lt hZ)

theorem or_lift {c t off : Nat} (ho : off ≤ 32) (hc : c < 2 ^ off) : c ||| (t * 2 ^ off % 4294967296) = c + t * 2 ^ off % 4294967296 := by
  have e : t * 2 ^ off % 4294967296 = t % 2 ^ (32 - off) * 2 ^ off := by
    conv => lhs; rw [B_split ho, Nat.mul_comm t]
    rw [Nat.mul_mod_mul_left, Nat.mul_comm]
  rw [e, Nat.or_comm]
  have := Nat.shiftLeft_add_eq_or_of_lt hc (t % 2 ^ (32 - off))
  rw [Nat.shiftLeft_eq] at this
  omega
theorem lift_fits {c x off : Nat} (ho : off ≤ 32) (hc : c < 2 ^ off) : c + x * 2 ^ off % 4294967296 < 4294967296 := by
  have e : x * 2 ^ off % 4294967296 = x % 2 ^ (32 - off) * 2 ^ off := by
    conv => lhs; rw [B_split ho, Nat.mul_comm x]
    rw [Nat.mul_mod_mul_left, Nat.mul_comm]
  rw [e]
  have h1 : x % 2 ^ (32 - off) < 2 ^ (32 - off) := Nat.mod_lt _ (Nat.two_pow_pos _)
  have h2 : (x % 2 ^ (32 - off) + 1) * 2 ^ off ≤ 2 ^ (32 - off) * 2 ^ off := Nat.mul_le_mul_right _ h1
  rw [Nat.mul_comm (2 ^ (32 - off)), ← B_split ho, Nat.add_mul] at h2
  omega
theorem lift_high {x off : Nat} (hx : x < 4294967296) : x * 2 ^ off / 4294967296 < 2 ^ off := by
  apply Nat.div_lt_of_lt_mul
  exact Nat.mul_lt_mul_of_pos_right hx (Nat.two_pow_pos off)
theorem lift_step {X zs : List Nat} {i s off c : Nat} (hi : i + s + 1 < zs.length) (h : low zs (i + s) + 4294967296 ^ (i + s) * c = 4294967296 ^ s * (low X i * 2 ^ off)) (y : Nat) :
    low ((zs.set (i + s) (c + X.getD i 0 * 2 ^ off % 4294967296)).set (i + s + 1) y) (i + 1 + s) + 4294967296 ^ (i + 1 + s) * (X.getD i 0 * 2 ^ off / 4294967296) = 4294967296 ^ s * (low X (i + 1) * 2 ^ off) := by
  rw [show i + 1 + s = i + s + 1 by omega, low_set_ge _ _ _ _ (Nat.le_refl _), low_set_succ _ _ _ (by omega), low_succ, Nat.pow_succ]
  have e := carry_eq (4294967296 ^ (i + s)) (X.getD i 0 * 2 ^ off)
  have e2 : 4294967296 ^ (i + s) * (X.getD i 0 * 2 ^ off) = 4294967296 ^ s * (4294967296 ^ i * X.getD i 0 * 2 ^ off) := by
    rw [Nat.pow_add]
    simp only [Nat.mul_assoc, Nat.mul_comm, Nat.mul_left_comm]
  rw [Nat.mul_add, Nat.add_mul, Nat.mul_add]
  omega
theorem lift_done {X zs : List Nat} {k s off c : Nat} (hk : k = X.length) (hl : zs.length = k + s + 1) (hc : zs.getD (k + s) 0 = c) (h : low zs (k + s) + 4294967296 ^ (k + s) * c = 4294967296 ^ s * (low X k * 2 ^ off)) : val zs = val X * 2 ^ (32 * s + off) := by
  have e := low_succ zs (k + s)
  rw [low_all (by omega), hc, h, low_all (by omega)] at e
  rw [e, Nat.pow_add, show 2 ^ (32 * s) = 4294967296 ^ s by rw [Nat.pow_mul]]
  simp only [Nat.mul_assoc, Nat.mul_comm, Nat.mul_left_comm]

theorem val_set_add (zs : List Nat) (k d : Nat) (hk : k < zs.length) : val (zs.set k (zs.getD k 0 + d)) = val zs + 4294967296 ^ k * d := by
  have e1 := val_split (zs.set k (zs.getD k 0 + d)) (k + 1) (by simp; omega)
  have e2 := val_split zs (k + 1) (by omega)
  rw [low_set_succ _ _ _ hk, List.drop_set_of_lt (by omega)] at e1
  rw [low_succ] at e2
  rw [e1, e2, Nat.mul_add]
  omega
/-- A number, shifted. -/
def shl (v : Nat) (n : Int) : Nat := if 0 ≤ n then v * 2 ^ n.toNat else v / 2 ^ (-n).toNat
theorem bit_digit {xs : List Nat} (hx : limbs xs) (k r : Nat) (hr : r < 32) : xs.getD k 0 / 2 ^ r % 2 = val xs / 2 ^ (32 * k + r) % 2 := by
  rw [limb_digit hx k, Nat.pow_add, Nat.pow_mul, show (2 : Nat) ^ 32 = 4294967296 from rfl, ← Nat.div_div_eq_div_mul]
  generalize val xs / 4294967296 ^ k = Y
  have hd := Nat.div_add_mod Y 4294967296
  conv => rhs; rw [← hd]
  generalize Y / 4294967296 = q
  rw [show 4294967296 * q = 2 ^ r * (2 * (2 ^ (31 - r) * q)) by
    conv => lhs; rw [show (4294967296 : Nat) = 2 ^ r * (2 * 2 ^ (31 - r)) by rw [← Nat.pow_succ', ← Nat.pow_add, show r + (31 - r + 1) = 32 by omega]]
    simp only [Nat.mul_assoc]]
  rw [Nat.add_comm, Nat.add_mul_div_left _ _ (Nat.two_pow_pos r), Nat.add_mul_mod_self_left]
theorem pow_place (i : Nat) : 2 ^ i = 4294967296 ^ (i / 32) * 2 ^ (i % 32) := by
  rw [show (4294967296 : Nat) = 2 ^ 32 from rfl, ← Nat.pow_mul, ← Nat.pow_add]
  congr 1
  omega
end Go.Proofs.YtaafijifiiiblaaGreat

namespace Go.Proofs.YtaafijifiiiblaaGreat
open Go.RowKit

/-- What lift leaves: a row with one limb more than it may need. -/
def LiftEnd (w : World) (L v : Nat) (en : Ending) (w' : World) : Prop :=
  ∃ zs : List Nat, en = .returned (.slice (some ⟨w.heap.size, 0, none⟩) L L) ∧ zs.length = L ∧ Cells w' w.heap.size zs ∧ val zs = v ∧ Below w.heap.size w w'

theorem getD_zeros (n j : Nat) : (List.replicate n 0).getD j 0 = 0 := by rw [List.getD_eq_getElem?_getD, List.getElem?_replicate]; split <;> rfl

set_option maxRecDepth 100000 in
set_option maxHeartbeats 1600000 in
theorem lift_any (v : Value) (X : List Nat) (n : Nat) (w : World) (h : Num w v X) (hlen : X.length ≤ 549755813888) (hn : n ≤ 1000000) :
    Calls Tryz.prog 151 #[v, .int .i64 (n : Int)] w fun e w' => LiftEnd w (X.length + n / 32 + 1) (val X * 2 ^ n) e w' := by
  obtain ⟨hbx, ao, cap, rfl, hca, hma, _, hcell⟩ := h.open_
  obtain ⟨i0, hi, hz0, hz1, hz2⟩ := info_parts Tryz.infoU
  obtain ⟨k, hk⟩ : ∃ k, k = X.length := ⟨_, rfl⟩
  obtain ⟨s, hs⟩ : ∃ s, s = n / 32 := ⟨_, rfl⟩
  obtain ⟨off, ho⟩ : ∃ off, off = n % 32 := ⟨_, rfl⟩
  have e1 : (n : Int) / 32 = (s : Int) := by omega
  have e2 : (n : Int) % 32 = (off : Int) := by omega
  have hs1 : s ≤ 31250 := by omega
  have ho1 : off ≤ 31 := by omega
  have HE : Hid (val X * 2 ^ n = val X * 2 ^ (32 * s + off)) := by show _ = _; rw [show n = 32 * s + off by omega]
  rw [← hs]
  rw [← hk] at hlen hca ⊢
  have HK : Hid (k = X.length) := hk
  clear hk hs ho h
  obtain ⟨L, hL⟩ : ∃ L, L = k + s + 1 := ⟨_, rfl⟩
  have HL : Hid (L = k + s + 1) := hL
  have hL1 : k + s < L := by omega
  have hL2 : L ≤ 1099511627776 := by omega
  rw [← hL]
  clear hL
  go_enter Tryz.func151, Tryz.ntmps151
  go_wp2_with (at_make; refine wpList_make_full _ rfl _ _ 23 rfl w.heap.size 100 i0 (.int .u32 0) 1 Tryz.underlying23 hi hz0 hz1 _ _ _ _ L rfl rfl (by have := HL.out; omega) (by have := HL.out; omega) (by rw [hz2]; omega) (by unfold maxLen; omega) (Nat.le_refl _) ?_)
  intro w2 ho2 hg2
  have how := own_made ho2
  have hbel : Below w.heap.size w w2 := (Below.refl w.heap.size w).grown hg2 (Nat.le_refl _) (by intro k hk; simp at hk)
  obtain ⟨g, hg⟩ : ∃ g, g = w.heap.size := ⟨_, rfl⟩
  have HB : Hid (Below w.heap.size w w2 ∧ Cells w2 g (List.replicate L 0)) := by rw [hg]; exact ⟨hbel, how.cells⟩
  have HG : Hid (g = w.heap.size) := hg
  rw [← hg]
  clear hg hbel how ho2 hg2
  go_wp2
  go_loopw [23] (fun t wr => ∃ (i : Nat) (zs : List Nat), i ≤ k ∧ t = .int .i64 i ∧ zs.length = L ∧ Cells wr g zs ∧ Below w.heap.size w wr ∧ zs.getD (i + s) 0 < 2 ^ off ∧ (∀ j, i + s < j → zs.getD j 0 = 0) ∧ low zs (i + s) + 4294967296 ^ (i + s) * zs.getD (i + s) 0 = 4294967296 ^ s * (low X i * 2 ^ off)) (fun t _ => k - (intOf t).toNat)
  case atStart =>
    refine ⟨0, List.replicate L 0, Nat.zero_le _, rfl, by simp, HB.out.2, HB.out.1, by rw [getD_zeros]; exact Nat.two_pow_pos _, fun j _ => getD_zeros _ _, ?_⟩
    rw [getD_zeros, low_zero]
    simp only [Nat.zero_mul, Nat.mul_zero, Nat.add_zero]
    exact val_zeros fun x hx => List.eq_of_mem_replicate (List.mem_of_mem_take hx)
  case round =>
    clear HB
    obtain ⟨i, zs, hin, rfl, hzl, hcs, hbel, hc, hzero, hinv⟩ := hrel
    have HZ : Hid (zs.length = L) := hzl
    have HZZ : Hid (∀ j, i + s < j → zs.getD j 0 = 0) := hzero
    have HI : Hid (low zs (i + s) + 4294967296 ^ (i + s) * zs.getD (i + s) 0 = 4294967296 ^ s * (low X i * 2 ^ off)) := hinv
    clear hzl hzero hinv
    by_cases hlt : i < k
    · have hlt' : (i : Int) < (k : Int) := by omega
      have hi1 : i + s < L := by omega
      have hi2 : i + s + 1 < L := by omega
      obtain ⟨bb, bo, rfl, hx1⟩ := hcell i (by rw [← HK.out]; exact hlt)
      have cx : wr.cell? ⟨bb, bo + i, none⟩ = some (.int .u32 ((X.getD i 0 : Nat) : Int)) := by rw [hbel.cell (p := ⟨bb, bo + i, none⟩) (block_lt_of_cell hx1)]; exact hx1
      have hx0 := limb_lt hbx i
      obtain ⟨x, hx⟩ : ∃ x, x = X.getD i 0 := ⟨_, rfl⟩
      rw [← hx] at cx hx0
      have HX : Hid (x = X.getD i 0) := hx
      obtain ⟨c0, hf0⟩ := hcs.cell (k := i + s) (by rw [HZ.out]; exact hi1)
      obtain ⟨c1, hf1⟩ := hcs.cell (k := i + s + 1) (by rw [HZ.out]; exact hi2)
      rw [HZZ.out (i + s + 1) (by omega)] at c1
      obtain ⟨c, hcc⟩ : ∃ c, c = zs.getD (i + s) 0 := ⟨_, rfl⟩
      rw [← hcc] at c0 hc
      have HC : Hid (c = zs.getD (i + s) 0) := hcc
      have tb : x * 2 ^ off ≤ 18446744065119617025 := mul_bound hx0 (Nat.lt_of_le_of_lt (Nat.pow_le_pow_right (by decide) ho1) (by decide))
      have ho32 : off ≤ 32 := by omega
      have hor := or_lift (t := x) ho32 hc
      have hfit := lift_fits (x := x) ho32 hc
      have hhi := lift_high (off := off) hx0
      obtain ⟨t, ht⟩ : ∃ t, t = x * 2 ^ off := ⟨_, rfl⟩
      have et : (x : Int) * 2 ^ off = (t : Int) := by rw [ht]; simp
      have HT : Hid (t = x * 2 ^ off) := ht
      rw [← ht] at tb hor hfit hhi
      have hc32 : c < 4294967296 := by omega
      have eor : bits BinOp.or IntKind.u32 (c : Int) ((t : Int) % 4294967296) = ((c + t % 4294967296 : Nat) : Int) := by
        have := u32_or_nat c (t % 4294967296) hc32 (by omega)
        rw [hor] at this
        exact this
      have hset := (hcs.set (i + s) (c + t % 4294967296) hfit).set (i + s + 1) (t / 4294967296) (by omega)
      have hbel2 := (hbel.setCell (p := ⟨g, i + s, none⟩) (by show _ ≤ g; rw [HG.out]; exact Nat.le_refl _) (U (c + t % 4294967296))).setCell (p := ⟨g, i + s + 1, none⟩) (by show _ ≤ g; rw [HG.out]; exact Nat.le_refl _) (U (t / 4294967296))
      have HHI : Hid (t / 4294967296 < 2 ^ off) := hhi
      have HCL : Hid (c < 2 ^ off) := hc
      clear hx hcc ht hcs hbel hx1 hcell hor hhi hc
      rw [show U (t / 4294967296) = .int .u32 ((t : Int) / 4294967296) by simp [U], show U (c + t % 4294967296) = .int .u32 ((c : Int) + (t : Int) % 4294967296) by simp [U]] at hset hbel2
      rw [Int.natCast_add, Int.natCast_emod] at eor
      go_wp2
      go_roundw
      case rel =>
        refine ⟨i + 1, _, by omega, by go_num, by rw [List.length_set, List.length_set]; exact HZ.out, hset, hbel2, ?_, fun j hj => ?_, ?_⟩
        · rw [show i + 1 + s = i + s + 1 by omega, getD_set_eq _ _ _ (by rw [List.length_set, HZ.out]; exact hi2)]; exact HHI.out
        · rw [getD_set_off _ _ _ _ (by omega), getD_set_off _ _ _ _ (by omega)]; exact HZZ.out j (by omega)
        · conv => lhs; rw [show i + 1 + s = i + s + 1 by omega]
          rw [getD_set_eq _ _ _ (by rw [List.length_set, HZ.out]; exact hi2), HT.out, HX.out, show i + s + 1 = i + 1 + s by omega]
          have := lift_step (X := X) (off := off) (c := c) (by rw [HZ.out]; exact hi2) (by rw [HC.out]; exact HI.out) (X.getD i 0 * 2 ^ off / 4294967296)
          rw [show i + s + 1 = i + 1 + s by omega] at this
          exact this
      case measure => simp [intOf]; omega
    · have hlt' : ¬ (i : Int) < (k : Int) := by omega
      have hik : i = k := by omega
      have HR : Hid (LiftEnd w L (val X * 2 ^ n) (.returned (.slice (some ⟨g, 0, none⟩) L L)) wr) := by
        have hI := HI.out
        rw [hik] at hI
        exact ⟨zs, by rw [HG.out], HZ.out, by rw [← HG.out]; exact hcs, by rw [HE.out]; exact lift_done HK.out (by rw [HZ.out]; exact HL.out) rfl hI, hbel⟩
      clear hik hcs hbel hc hcell
      go_wp2
      go_ret
      exact HR.out

theorem or_limbs {x y : Nat} (hx : x < 4294967296) (hy : y < 4294967296) : bits BinOp.or IntKind.u64 (x : Int) ((y : Int) * 4294967296) = ((x + 4294967296 * y : Nat) : Int) := or_high x y hx hy

set_option maxRecDepth 100000 in
set_option maxHeartbeats 1600000 in
theorem drop_any (v : Value) (X : List Nat) (n : Nat) (w : World) (h : Num w v X) (hlen : X.length ≤ 549755813888) (hn : n ≤ 1000000) :
    Calls Tryz.prog 155 #[v, .int .i64 (n : Int)] w fun e w' => Made' w.heap.size w (lim (val X / 2 ^ n)) e w' := by
  obtain ⟨hbx, ao, cap, rfl, hca, hma, _, _⟩ := h.open_
  obtain ⟨i0, hi, hz0, hz1, hz2⟩ := info_parts Tryz.infoU
  obtain ⟨k, hk⟩ : ∃ k, k = X.length := ⟨_, rfl⟩
  obtain ⟨s, hs⟩ : ∃ s, s = n / 32 := ⟨_, rfl⟩
  obtain ⟨off, ho⟩ : ∃ off, off = n % 32 := ⟨_, rfl⟩
  have e1 : (n : Int) / 32 = (s : Int) := by omega
  have e2 : (n : Int) % 32 = (off : Int) := by omega
  have hs1 : s ≤ 31250 := by omega
  have ho1 : off ≤ 31 := by omega
  have HE : Hid (val X / 2 ^ n = val X / 4294967296 ^ s / 2 ^ off) := by
    show _ = _
    rw [Nat.div_div_eq_div_mul, show n = 32 * s + off by omega, Nat.pow_add, Nat.pow_mul]
  rw [← hk] at hlen hca h ⊢
  have HK : Hid (k = X.length) := hk
  clear hk hs ho
  by_cases hsk : k ≤ s
  · have hge : (k : Int) ≤ (s : Int) := by omega
    have HR : Hid (Made' w.heap.size w (lim (val X / 2 ^ n)) (.returned (.slice none 0 0)) w) := by
      refine ⟨_, rfl, ?_, Below.refl _ _⟩
      rw [HE.out, Nat.div_eq_of_lt (Nat.lt_of_lt_of_le (val_lt hbx) (Nat.pow_le_pow_right (by decide) (by rw [← HK.out]; exact hsk))), Nat.zero_div]
      exact Own.of_nil _ _ _
    clear h
    go_enter Tryz.func155, Tryz.ntmps155
    go_wp2
    go_ret
    exact HR.out
  · have hge : ¬ (k : Int) ≤ (s : Int) := by omega
    obtain ⟨L, hL⟩ : ∃ L, L = k - s := ⟨_, rfl⟩
    have HL : Hid (L = k - s) := hL
    have hL2 : L ≤ 1099511627776 := by omega
    have hLs : L + s = k := by omega
    have HLS : Hid (L + s = k) := hLs
    clear hL hLs
    go_enter Tryz.func155, Tryz.ntmps155
    go_wp2_with (at_make; refine wpList_make_full _ rfl _ _ 23 rfl w.heap.size 100 i0 (.int .u32 0) 1 Tryz.underlying23 hi hz0 hz1 _ _ _ _ L rfl rfl (by have := HL.out; omega) (by have := HL.out; omega) (by rw [hz2]; omega) (by unfold maxLen; omega) (Nat.le_refl _) ?_)
    intro w2 ho2 hg2
    have how := own_made ho2
    have hbel : Below w.heap.size w w2 := (Below.refl w.heap.size w).grown hg2 (Nat.le_refl _) (by intro k hk; simp at hk)
    obtain ⟨g, hg⟩ : ∃ g, g = w.heap.size := ⟨_, rfl⟩
    have HB : Hid (Below w.heap.size w w2 ∧ Cells w2 g (List.replicate L 0)) := by rw [hg]; exact ⟨hbel, how.cells⟩
    have HG : Hid (g = w.heap.size) := hg
    rw [← hg]
    clear hg hbel how ho2 hg2
    go_wp2
    go_loopw [25] (fun t wr => ∃ (i : Nat) (zs : List Nat), i ≤ L ∧ t = .int .i64 i ∧ zs.length = L ∧ Cells wr g zs ∧ Below w.heap.size w wr ∧ low zs i = val (X.drop s) / 2 ^ off % 4294967296 ^ i) (fun t _ => L - (intOf t).toNat)
    case atStart => exact ⟨0, List.replicate L 0, Nat.zero_le _, rfl, by simp, HB.out.2, HB.out.1, by rw [low_zero, Nat.pow_zero, Nat.mod_one]⟩
    case round =>
      clear HB
      obtain ⟨i, zs, hin, rfl, hzl, hcs, hbel, hinv⟩ := hrel
      have HZ : Hid (zs.length = L) := hzl
      have HI : Hid (low zs i = val (X.drop s) / 2 ^ off % 4294967296 ^ i) := hinv
      clear hzl hinv
      by_cases hlt : i < L
      · have hlt' : (i : Int) < (L : Int) := by omega
        have nu2 := h.below (Nat.le_refl _) hbel
        have hx0 := limb_lt hbx (i + s)
        have hy0 := limb_lt hbx (i + s + 1)
        obtain ⟨x, hx⟩ : ∃ x, x = X.getD (i + s) 0 := ⟨_, rfl⟩
        obtain ⟨y, hy⟩ : ∃ y, y = X.getD (i + s + 1) 0 := ⟨_, rfl⟩
        have HX : Hid (x = X.getD (i + s) 0) := hx
        have HY : Hid (y = X.getD (i + s + 1) 0) := hy
        have EX : Hid (X.getD ((i : Int) + (s : Int)).toNat 0 = x) := by show _ = _; rw [hx]; congr 1
        have EY : Hid (X.getD ((i : Int) + (s : Int) + 1).toNat 0 = y) := by show _ = _; rw [hy]; congr 1
        rw [← hx] at hx0
        rw [← hy] at hy0
        obtain ⟨cz, hfz⟩ := hcs.cell (k := i) (by rw [HZ.out]; exact hlt)
        obtain ⟨z, hz⟩ : ∃ z, z = zs.getD i 0 := ⟨_, rfl⟩
        rw [← hz] at cz
        have eor := or_limbs hx0 hy0
        obtain ⟨T, hT⟩ : ∃ T, T = x + 4294967296 * y := ⟨_, rfl⟩
        rw [← hT] at eor
        have hT1 : T < 18446744073709551616 := by omega
        obtain ⟨D, hD⟩ : ∃ D, D = T / 2 ^ off := ⟨_, rfl⟩
        have eD : (T : Int) / 2 ^ off = (D : Int) := by rw [hD]; simp
        have hD1 : D < 18446744073709551616 := by rw [hD]; exact Nat.lt_of_le_of_lt (Nat.div_le_self _ _) hT1
        have HD : Hid (D = (X.getD (i + s) 0 + 4294967296 * X.getD (i + s + 1) 0) / 2 ^ off) := by show _ = _; rw [hD, hT, hx, hy]
        have hset := hcs.set i (D % 4294967296) (by omega)
        have hbel2 := hbel.setCell (p := ⟨g, i, none⟩) (by show _ ≤ g; rw [HG.out]; exact Nat.le_refl _) (U (D % 4294967296))
        rw [show U (D % 4294967296) = .int .u32 ((D : Int) % 4294967296) by simp [U]] at hset hbel2
        clear hx hy hz hT hD hcs hbel
        go_wp2_with fail
        refine (limb_any _ _ _ _ nu2 (by omega)).mono ?_
        rintro e w3 ⟨rfl, rfl⟩
        rw [EX.out]
        go_wp2_with fail
        refine (limb_any _ _ _ _ nu2 (by omega)).mono ?_
        rintro e w4 ⟨rfl, rfl⟩
        rw [EY.out]
        clear nu2
        go_wp2
        go_roundw
        case rel =>
          refine ⟨i + 1, _, by omega, by go_num, by rw [List.length_set]; exact HZ.out, hset, hbel2, ?_⟩
          have := drop_step (limbs_drop hbx s) (show off ≤ 32 by omega) (by rw [HZ.out]; exact hlt) HI.out
          rw [getD_drop, getD_drop, show s + i = i + s by omega, show s + (i + 1) = i + s + 1 by omega, ← HD.out] at this
          exact this
        case measure => simp [intOf]; omega
      · have hlt' : ¬ (i : Int) < (L : Int) := by omega
        have hiL : i = L := by omega
        have how : Own w.heap.size 100 wr (.slice (some ⟨g, 0, none⟩) L L) zs := by
          have := hcs.own (B := w.heap.size) (by rw [HG.out]; exact Nat.le_refl _) (by rw [HZ.out]; omega)
          rw [HZ.out] at this
          exact this
        have HV : Hid (val zs = val X / 2 ^ n) := by
          show _ = _
          have hI := HI.out
          rw [hiL, ← HZ.out] at hI
          rw [HE.out, ← val_drop X hbx s (by rw [← HK.out]; omega)]
          exact drop_done (limbs_drop hbx s) (by rw [HZ.out, List.length_drop, ← HK.out]; exact HL.out) hI
        clear hiL hcs
        go_wp2_with fail
        refine (trim_any _ _ _ how.num).mono ?_
        rintro e w3 ⟨⟨k3, hk3, hk4, rfl⟩, rfl⟩
        have how2 := how.cut hk3
        rw [hk4, HV.out] at how2
        clear how hk4
        go_wp2
        go_ret
        exact ⟨_, rfl, how2, hbel⟩
end Go.Proofs.YtaafijifiiiblaaGreat
