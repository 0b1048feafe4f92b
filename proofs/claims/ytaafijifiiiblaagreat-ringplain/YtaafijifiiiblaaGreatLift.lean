/-
  Proved here: what lift and drop answer.
-/
import Derived.Test.YtaafijifiiiblaaGreatMul
import Derived.Test.YtaafijifiiiblaaGreatShiftMath
import Derived.Laws.BitsAllLaws
namespace Go.Proofs.YtaafijifiiiblaaGreat
open Go.RowKit

/-- What lift leaves: a row with one limb more than it may need. -/
def LiftEnd (w : World) (L v : Nat) (en : Ending) (w' : World) : Prop :=
  ∃ zs : List Nat, en = .returned (.slice (some ⟨w.heap.size, 0, none⟩) L L) ∧ zs.length = L ∧ Cells w' w.heap.size zs ∧ val zs = v ∧ Below w.heap.size w w'

theorem getD_zeros (n j : Nat) : (List.replicate n 0).getD j 0 = 0 := by rw [List.getD_eq_getElem?_getD, List.getElem?_replicate]; split <;> rfl

set_option maxRecDepth 100000 in
set_option maxHeartbeats 1600000 in
theorem lift_any (v : Value) (X : List Nat) (n : Nat) (w : World) (h : Num w v X) (hlen : X.length ≤ 549755813888) (hn : n ≤ 1000000) :
    Calls Tryz.prog 151 #[v, .int .i64 (n : Int)] w fun e w' => LiftEnd w (X.length + n / 32 + 1) (val X * 2 ^ n) e w' := by
  obtain ⟨hbx, ao, cap, rfl, hca, hma, _, hcell⟩ := h.open_
  obtain ⟨i0, hi, hz0, hz1, hz2⟩ := info_parts Tryz.infoU
  obtain ⟨k, hk⟩ : ∃ k, k = X.length := ⟨_, rfl⟩
  obtain ⟨s, hs⟩ : ∃ s, s = n / 32 := ⟨_, rfl⟩
  obtain ⟨off, ho⟩ : ∃ off, off = n % 32 := ⟨_, rfl⟩
  have e1 : (n : Int) / 32 = (s : Int) := by omega
  have e2 : (n : Int) % 32 = (off : Int) := by omega
  have hs1 : s ≤ 31250 := by omega
  have ho1 : off ≤ 31 := by omega
  have HE : Hid (val X * 2 ^ n = val X * 2 ^ (32 * s + off)) := by show _ = _; rw [show n = 32 * s + off by omega]
  rw [← hs]
  rw [← hk] at hlen hca ⊢
  have HK : Hid (k = X.length) := hk
  clear hk hs ho h
  obtain ⟨L, hL⟩ : ∃ L, L = k + s + 1 := ⟨_, rfl⟩
  have HL : Hid (L = k + s + 1) := hL
  have hL1 : k + s < L := by omega
  have hL2 : L ≤ 1099511627776 := by omega
  rw [← hL]
  clear hL
  go_enter Tryz.func151, Tryz.ntmps151
  go_wp2_with (at_make; refine wpList_make_full _ rfl _ _ 23 rfl w.heap.size 100 i0 (.int .u32 0) 1 Tryz.underlying23 hi hz0 hz1 _ _ _ _ L rfl rfl (by have := HL.out; omega) (by have := HL.out; omega) (by rw [hz2]; omega) (by unfold maxLen; omega) (Nat.le_refl _) ?_)
  intro w2 ho2 hg2
  have how := own_made ho2
  have hbel : Below w.heap.size w w2 := (Below.refl w.heap.size w).grown hg2 (Nat.le_refl _) (by intro k hk; simp at hk)
  obtain ⟨g, hg⟩ : ∃ g, g = w.heap.size := ⟨_, rfl⟩
  have HB : Hid (Below w.heap.size w w2 ∧ Cells w2 g (List.replicate L 0)) := by rw [hg]; exact ⟨hbel, how.cells⟩
  have HG : Hid (g = w.heap.size) := hg
  rw [← hg]
  clear hg hbel how ho2 hg2
  go_wp2
  go_loopw [23] (fun t wr => ∃ (i : Nat) (zs : List Nat), i ≤ k ∧ t = .int .i64 i ∧ zs.length = L ∧ Cells wr g zs ∧ Below w.heap.size w wr ∧ zs.getD (i + s) 0 < 2 ^ off ∧ (∀ j, i + s < j → zs.getD j 0 = 0) ∧ low zs (i + s) + 4294967296 ^ (i + s) * zs.getD (i + s) 0 = 4294967296 ^ s * (low X i * 2 ^ off)) (fun t _ => k - (intOf t).toNat)
  case atStart =>
    refine ⟨0, List.replicate L 0, Nat.zero_le _, rfl, by simp, HB.out.2, HB.out.1, by rw [getD_zeros]; exact Nat.two_pow_pos _, fun j _ => getD_zeros _ _, ?_⟩
    rw [getD_zeros, low_zero]
    simp only [Nat.zero_mul, Nat.mul_zero, Nat.add_zero]
    exact val_zeros fun x hx => List.eq_of_mem_replicate (List.mem_of_mem_take hx)
  case round =>
    clear HB
    obtain ⟨i, zs, hin, rfl, hzl, hcs, hbel, hc, hzero, hinv⟩ := hrel
    have HZ : Hid (zs.length = L) := hzl
    have HZZ : Hid (∀ j, i + s < j → zs.getD j 0 = 0) := hzero
    have HI : Hid (low zs (i + s) + 4294967296 ^ (i + s) * zs.getD (i + s) 0 = 4294967296 ^ s * (low X i * 2 ^ off)) := hinv
    clear hzl hzero hinv
    by_cases hlt : i < k
    · have hlt' : (i : Int) < (k : Int) := by omega
      have hi1 : i + s < L := by omega
      have hi2 : i + s + 1 < L := by omega
      obtain ⟨bb, bo, rfl, hx1⟩ := hcell i (by rw [← HK.out]; exact hlt)
      have cx : wr.cell? ⟨bb, bo + i, none⟩ = some (.int .u32 ((X.getD i 0 : Nat) : Int)) := by rw [hbel.cell (p := ⟨bb, bo + i, none⟩) (block_lt_of_cell hx1)]; exact hx1
      have hx0 := limb_lt hbx i
      obtain ⟨x, hx⟩ : ∃ x, x = X.getD i 0 := ⟨_, rfl⟩
      rw [← hx] at cx hx0
      have HX : Hid (x = X.getD i 0) := hx
      obtain ⟨c0, hf0⟩ := hcs.cell (k := i + s) (by rw [HZ.out]; exact hi1)
      obtain ⟨c1, hf1⟩ := hcs.cell (k := i + s + 1) (by rw [HZ.out]; exact hi2)
      rw [HZZ.out (i + s + 1) (by omega)] at c1
      obtain ⟨c, hcc⟩ : ∃ c, c = zs.getD (i + s) 0 := ⟨_, rfl⟩
      rw [← hcc] at c0 hc
      have HC : Hid (c = zs.getD (i + s) 0) := hcc
      have tb : x * 2 ^ off ≤ 18446744065119617025 := mul_bound hx0 (Nat.lt_of_le_of_lt (Nat.pow_le_pow_right (by decide) ho1) (by decide))
      have ho32 : off ≤ 32 := by omega
      have hor := or_lift (t := x) ho32 hc
      have hfit := lift_fits (x := x) ho32 hc
      have hhi := lift_high (off := off) hx0
      obtain ⟨t, ht⟩ : ∃ t, t = x * 2 ^ off := ⟨_, rfl⟩
      have et : (x : Int) * 2 ^ off = (t : Int) := by rw [ht]; simp
      have HT : Hid (t = x * 2 ^ off) := ht
      rw [← ht] at tb hor hfit hhi
      have hc32 : c < 4294967296 := by omega
      have eor : bits BinOp.or IntKind.u32 (c : Int) ((t : Int) % 4294967296) = ((c + t % 4294967296 : Nat) : Int) := by
        have := u32_or_nat c (t % 4294967296) hc32 (by omega)
        rw [hor] at this
        exact this
      have hset := (hcs.set (i + s) (c + t % 4294967296) hfit).set (i + s + 1) (t / 4294967296) (by omega)
      have hbel2 := (hbel.setCell (p := ⟨g, i + s, none⟩) (by show _ ≤ g; rw [HG.out]; exact Nat.le_refl _) (U (c + t % 4294967296))).setCell (p := ⟨g, i + s + 1, none⟩) (by show _ ≤ g; rw [HG.out]; exact Nat.le_refl _) (U (t / 4294967296))
      have HHI : Hid (t / 4294967296 < 2 ^ off) := hhi
      have HCL : Hid (c < 2 ^ off) := hc
      clear hx hcc ht hcs hbel hx1 hcell hor hhi hc
      rw [show U (t / 4294967296) = .int .u32 ((t : Int) / 4294967296) by simp [U], show U (c + t % 4294967296) = .int .u32 ((c : Int) + (t : Int) % 4294967296) by simp [U]] at hset hbel2
      rw [Int.natCast_add, Int.natCast_emod] at eor
      go_wp2
      go_roundw
      case rel =>
        refine ⟨i + 1, _, by omega, by go_num, by rw [List.length_set, List.length_set]; exact HZ.out, hset, hbel2, ?_, fun j hj => ?_, ?_⟩
        · rw [show i + 1 + s = i + s + 1 by omega, getD_set_eq _ _ _ (by rw [List.length_set, HZ.out]; exact hi2)]; exact HHI.out
        · rw [getD_set_off _ _ _ _ (by omega), getD_set_off _ _ _ _ (by omega)]; exact HZZ.out j (by omega)
        · conv => lhs; rw [show i + 1 + s = i + s + 1 by omega]
          rw [getD_set_eq _ _ _ (by rw [List.length_set, HZ.out]; exact hi2), HT.out, HX.out, show i + s + 1 = i + 1 + s by omega]
          have := lift_step (X := X) (off := off) (c := c) (by rw [HZ.out]; exact hi2) (by rw [HC.out]; exact HI.out) (X.getD i 0 * 2 ^ off / 4294967296)
          rw [show i + s + 1 = i + 1 + s by omega] at this
          exact this
      case measure => simp [intOf]; omega
    · have hlt' : ¬ (i : Int) < (k : Int) := by omega
      have hik : i = k := by omega
      have HR : Hid (LiftEnd w L (val X * 2 ^ n) (.returned (.slice (some ⟨g, 0, none⟩) L L)) wr) := by
        have hI := HI.out
        rw [hik] at hI
        exact ⟨zs, by rw [HG.out], HZ.out, by rw [← HG.out]; exact hcs, by rw [HE.out]; exact lift_done HK.out (by rw [HZ.out]; exact HL.out) rfl hI, hbel⟩
      clear hik hcs hbel hc hcell
      go_wp2
      go_ret
      exact HR.out

theorem or_limbs {x y : Nat} (hx : x < 4294967296) (hy : y < 4294967296) : bits BinOp.or IntKind.u64 (x : Int) ((y : Int) * 4294967296) = ((x + 4294967296 * y : Nat) : Int) := or_high x y hx hy

set_option maxRecDepth 100000 in
set_option maxHeartbeats 1600000 in
theorem drop_any (v : Value) (X : List Nat) (n : Nat) (w : World) (h : Num w v X) (hlen : X.length ≤ 549755813888) (hn : n ≤ 1000000) :
    Calls Tryz.prog 155 #[v, .int .i64 (n : Int)] w fun e w' => Made' w.heap.size w (lim (val X / 2 ^ n)) e w' := by
  obtain ⟨hbx, ao, cap, rfl, hca, hma, _, _⟩ := h.open_
  obtain ⟨i0, hi, hz0, hz1, hz2⟩ := info_parts Tryz.infoU
  obtain ⟨k, hk⟩ : ∃ k, k = X.length := ⟨_, rfl⟩
  obtain ⟨s, hs⟩ : ∃ s, s = n / 32 := ⟨_, rfl⟩
  obtain ⟨off, ho⟩ : ∃ off, off = n % 32 := ⟨_, rfl⟩
  have e1 : (n : Int) / 32 = (s : Int) := by omega
  have e2 : (n : Int) % 32 = (off : Int) := by omega
  have hs1 : s ≤ 31250 := by omega
  have ho1 : off ≤ 31 := by omega
  have HE : Hid (val X / 2 ^ n = val X / 4294967296 ^ s / 2 ^ off) := by
    show _ = _
    rw [Nat.div_div_eq_div_mul, show n = 32 * s + off by omega, Nat.pow_add, Nat.pow_mul]
  rw [← hk] at hlen hca h ⊢
  have HK : Hid (k = X.length) := hk
  clear hk hs ho
  by_cases hsk : k ≤ s
  · have hge : (k : Int) ≤ (s : Int) := by omega
    have HR : Hid (Made' w.heap.size w (lim (val X / 2 ^ n)) (.returned (.slice none 0 0)) w) := by
      refine ⟨_, rfl, ?_, Below.refl _ _⟩
      rw [HE.out, Nat.div_eq_of_lt (Nat.lt_of_lt_of_le (val_lt hbx) (Nat.pow_le_pow_right (by decide) (by rw [← HK.out]; exact hsk))), Nat.zero_div]
      exact Own.of_nil _ _ _
    clear h
    go_enter Tryz.func155, Tryz.ntmps155
    go_wp2
    go_ret
    exact HR.out
  · have hge : ¬ (k : Int) ≤ (s : Int) := by omega
    obtain ⟨L, hL⟩ : ∃ L, L = k - s := ⟨_, rfl⟩
    have HL : Hid (L = k - s) := hL
    have hL2 : L ≤ 1099511627776 := by omega
    have hLs : L + s = k := by omega
    have HLS : Hid (L + s = k) := hLs
    clear hL hLs
    go_enter Tryz.func155, Tryz.ntmps155
    go_wp2_with (at_make; refine wpList_make_full _ rfl _ _ 23 rfl w.heap.size 100 i0 (.int .u32 0) 1 Tryz.underlying23 hi hz0 hz1 _ _ _ _ L rfl rfl (by have := HL.out; omega) (by have := HL.out; omega) (by rw [hz2]; omega) (by unfold maxLen; omega) (Nat.le_refl _) ?_)
    intro w2 ho2 hg2
    have how := own_made ho2
    have hbel : Below w.heap.size w w2 := (Below.refl w.heap.size w).grown hg2 (Nat.le_refl _) (by intro k hk; simp at hk)
    obtain ⟨g, hg⟩ : ∃ g, g = w.heap.size := ⟨_, rfl⟩
    have HB : Hid (Below w.heap.size w w2 ∧ Cells w2 g (List.replicate L 0)) := by rw [hg]; exact ⟨hbel, how.cells⟩
    have HG : Hid (g = w.heap.size) := hg
    rw [← hg]
    clear hg hbel how ho2 hg2
    go_wp2
    go_loopw [25] (fun t wr => ∃ (i : Nat) (zs : List Nat), i ≤ L ∧ t = .int .i64 i ∧ zs.length = L ∧ Cells wr g zs ∧ Below w.heap.size w wr ∧ low zs i = val (X.drop s) / 2 ^ off % 4294967296 ^ i) (fun t _ => L - (intOf t).toNat)
    case atStart => exact ⟨0, List.replicate L 0, Nat.zero_le _, rfl, by simp, HB.out.2, HB.out.1, by rw [low_zero, Nat.pow_zero, Nat.mod_one]⟩
    case round =>
      clear HB
      obtain ⟨i, zs, hin, rfl, hzl, hcs, hbel, hinv⟩ := hrel
      have HZ : Hid (zs.length = L) := hzl
      have HI : Hid (low zs i = val (X.drop s) / 2 ^ off % 4294967296 ^ i) := hinv
      clear hzl hinv
      by_cases hlt : i < L
      · have hlt' : (i : Int) < (L : Int) := by omega
        have nu2 := h.below (Nat.le_refl _) hbel
        have hx0 := limb_lt hbx (i + s)
        have hy0 := limb_lt hbx (i + s + 1)
        obtain ⟨x, hx⟩ : ∃ x, x = X.getD (i + s) 0 := ⟨_, rfl⟩
        obtain ⟨y, hy⟩ : ∃ y, y = X.getD (i + s + 1) 0 := ⟨_, rfl⟩
        have HX : Hid (x = X.getD (i + s) 0) := hx
        have HY : Hid (y = X.getD (i + s + 1) 0) := hy
        have EX : Hid (X.getD ((i : Int) + (s : Int)).toNat 0 = x) := by show _ = _; rw [hx]; congr 1
        have EY : Hid (X.getD ((i : Int) + (s : Int) + 1).toNat 0 = y) := by show _ = _; rw [hy]; congr 1
        rw [← hx] at hx0
        rw [← hy] at hy0
        obtain ⟨cz, hfz⟩ := hcs.cell (k := i) (by rw [HZ.out]; exact hlt)
        obtain ⟨z, hz⟩ : ∃ z, z = zs.getD i 0 := ⟨_, rfl⟩
        rw [← hz] at cz
        have eor := or_limbs hx0 hy0
        obtain ⟨T, hT⟩ : ∃ T, T = x + 4294967296 * y := ⟨_, rfl⟩
        rw [← hT] at eor
        have hT1 : T < 18446744073709551616 := by omega
        obtain ⟨D, hD⟩ : ∃ D, D = T / 2 ^ off := ⟨_, rfl⟩
        have eD : (T : Int) / 2 ^ off = (D : Int) := by rw [hD]; simp
        have hD1 : D < 18446744073709551616 := by rw [hD]; exact Nat.lt_of_le_of_lt (Nat.div_le_self _ _) hT1
        have HD : Hid (D = (X.getD (i + s) 0 + 4294967296 * X.getD (i + s + 1) 0) / 2 ^ off) := by show _ = _; rw [hD, hT, hx, hy]
        have hset := hcs.set i (D % 4294967296) (by omega)
        have hbel2 := hbel.setCell (p := ⟨g, i, none⟩) (by show _ ≤ g; rw [HG.out]; exact Nat.le_refl _) (U (D % 4294967296))
        rw [show U (D % 4294967296) = .int .u32 ((D : Int) % 4294967296) by simp [U]] at hset hbel2
        clear hx hy hz hT hD hcs hbel
        go_wp2_with fail
        refine (limb_any _ _ _ _ nu2 (by omega)).mono ?_
        rintro e w3 ⟨rfl, rfl⟩
        rw [EX.out]
        go_wp2_with fail
        refine (limb_any _ _ _ _ nu2 (by omega)).mono ?_
        rintro e w4 ⟨rfl, rfl⟩
        rw [EY.out]
        clear nu2
        go_wp2
        go_roundw
        case rel =>
          refine ⟨i + 1, _, by omega, by go_num, by rw [List.length_set]; exact HZ.out, hset, hbel2, ?_⟩
          have := drop_step (limbs_drop hbx s) (show off ≤ 32 by omega) (by rw [HZ.out]; exact hlt) HI.out
          rw [getD_drop, getD_drop, show s + i = i + s by omega, show s + (i + 1) = i + s + 1 by omega, ← HD.out] at this
          exact this
        case measure => simp [intOf]; omega
      · have hlt' : ¬ (i : Int) < (L : Int) := by omega
        have hiL : i = L := by omega
        have how : Own w.heap.size 100 wr (.slice (some ⟨g, 0, none⟩) L L) zs := by
          have := hcs.own (B := w.heap.size) (by rw [HG.out]; exact Nat.le_refl _) (by rw [HZ.out]; omega)
          rw [HZ.out] at this
          exact this
        have HV : Hid (val zs = val X / 2 ^ n) := by
          show _ = _
          have hI := HI.out
          rw [hiL, ← HZ.out] at hI
          rw [HE.out, ← val_drop X hbx s (by rw [← HK.out]; omega)]
          exact drop_done (limbs_drop hbx s) (by rw [HZ.out, List.length_drop, ← HK.out]; exact HL.out) hI
        clear hiL hcs
        go_wp2_with fail
        refine (trim_any _ _ _ how.num).mono ?_
        rintro e w3 ⟨⟨k3, hk3, hk4, rfl⟩, rfl⟩
        have how2 := how.cut hk3
        rw [hk4, HV.out] at how2
        clear how hk4
        go_wp2
        go_ret
        exact ⟨_, rfl, how2, hbel⟩
end Go.Proofs.YtaafijifiiiblaaGreat
