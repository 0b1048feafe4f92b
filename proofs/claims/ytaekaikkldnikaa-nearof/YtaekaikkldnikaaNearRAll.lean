/-
  Proved here: what the plain way's Shift answers.
  Proved here: what the plain way's Of answers.
  Proved here: what the document's own functions of floats answer: Long, Short, Value, Scaled.
-/
import Derived.Test.YtaekaikkldnikaaRefBitAll
import Derived.Deep.RegionHeld3
import Derived.Test.YtaekaikkldnikaaNormAll
import Derived.Test.YtaekaikkldnikaaPushAll
namespace Go.Proofs.Ytaekaikkldnikaa
open Go.RowKit

theorem bl_lt (v : Nat) : v < 2 ^ bl v := by
  by_cases h : v = 0
  · subst h; decide
  · obtain ⟨m, e, _, h2⟩ := bl_bounds h
    rw [e]; exact h2
theorem shl_zero {v : Nat} {n : Int} (h : (bl v : Int) + n ≤ 0) : shl v n = 0 := by
  have hv := bl_lt v
  unfold shl
  by_cases h0 : 0 ≤ n
  · have hb : bl v = 0 := by omega
    rw [hb] at hv
    have : v = 0 := by simpa using hv
    rw [if_pos h0, this, Nat.zero_mul]
  · rw [if_neg h0]
    exact Nat.div_eq_of_lt (Nat.lt_of_lt_of_le hv (Nat.pow_le_pow_right (by decide) (by omega)))
theorem shl_lt {v : Nat} {n : Int} {s : Nat} (h : (bl v : Int) + n = (s : Int)) : shl v n < 2 ^ s := by
  have hv := bl_lt v
  unfold shl
  by_cases h0 : 0 ≤ n
  · rw [if_pos h0, show s = bl v + n.toNat by omega, Nat.pow_add]
    exact Nat.mul_lt_mul_of_pos_right hv (Nat.two_pow_pos _)
  · rw [if_neg h0]
    apply Nat.div_lt_of_lt_mul
    rw [← Nat.pow_add, show (-n).toNat + s = bl v by omega]
    exact hv

set_option maxRecDepth 100000 in
theorem shift_ref_bad (v : Value) (n : Int) (w : World) (hn : n < -262144 ∨ 262144 < n) :
    Calls Try.prog 30 #[v, .int .i64 n] w fun e w' => e = .returned (.tuple #[.slice none 0 0, .int .i64 3]) ∧ w' = w := by
  rcases hn with hn | hn
  · have d1 : decide (n < -262144) = true := decide_eq_true hn
    go_enter Try.func30, Try.ntmps30
    go_wp2
    go_ret2
    exact ⟨rfl, rfl⟩
  · have h1 : ¬ n < -262144 := by omega
    have d1 : decide (n < -262144) = false := decide_eq_false h1
    go_enter Try.func30, Try.ntmps30
    go_wp2
    go_ret2
    exact ⟨rfl, rfl⟩

set_option maxRecDepth 100000 in
set_option maxHeartbeats 3200000 in
theorem shift_ref (v : Value) (xs : List Nat) (n : Int) (w : World) (h : Num w v xs) (hlen : xs.length ≤ 1000) (hn1 : -262144 ≤ n) (hn2 : n ≤ 262144) :
    Calls Try.prog 30 #[v, .int .i64 n] w fun e w' => MadeOk w.heap.size w (lim (shl (val xs) n)) e w' := by
  have h1 : ¬ n < -262144 := by omega
  have h2 : ¬ 262144 < n := by omega
  have hbl : bl (val xs) ≤ 32000 := by
    by_cases h0 : val xs = 0
    · rw [h0]; decide
    · obtain ⟨m, e, h3, h4⟩ := bl_bounds h0
      have h5 := val_lt h.1
      have h6 : (4294967296 : Nat) ^ xs.length = 2 ^ (32 * xs.length) := by rw [Nat.pow_mul]
      rw [h6] at h5
      have := (Nat.pow_lt_pow_iff_right (by decide : 1 < 2)).1 (Nat.lt_of_le_of_lt h3 h5)
      omega
  obtain ⟨i0, hi, hz0, hz1, hz2⟩ := info_parts Try.infoU
  obtain ⟨ao, cap, rfl, hl1, hm1⟩ := h.ao
  go_enter Try.func30, Try.ntmps30
  go_wp2_with fail
  refine (bits_ref _ _ _ h (by omega)).mono ?_
  rintro e w1 ⟨rfl, hb1⟩
  have hS1 := hb1.size
  have nu := h.below (Nat.le_refl _) hb1
  obtain ⟨b, hb⟩ : ∃ b, b = bl (val xs) := ⟨_, rfl⟩
  rw [← hb] at hbl ⊢
  by_cases hsz : (b : Int) + n ≤ 0
  · have HR : Hid (MadeOk w.heap.size w (lim (shl (val xs) n)) (.returned (.tuple #[.slice none 0 0, .int .i64 0])) w1) := ⟨_, rfl, by rw [shl_zero (by rw [← hb]; exact hsz)]; exact Own.of_nil _ _ _, hb1⟩
    clear nu h hb
    go_wp2
    go_ret2
    exact HR.out
  · obtain ⟨S, hS⟩ : ∃ S : Nat, (b : Int) + n = (S : Int) := ⟨((b : Int) + n).toNat, by omega⟩
    have HLT : Hid (shl (val xs) n < 2 ^ S) := shl_lt (by rw [← hb]; exact hS)
    have hS0 : 0 < S := by omega
    have hS2 : S ≤ 300000 := by omega
    have hnS : n ≤ (S : Int) := by omega
    obtain ⟨L, hL⟩ : ∃ L, L = S / 32 + 1 := ⟨_, rfl⟩
    have HL : Hid (L = S / 32 + 1) := hL
    have hL2 : L ≤ 10000 := by omega
    clear hL hb h
    go_wp2_with (at_make; refine wpList_make_full _ rfl _ _ 25 rfl w.heap.size 39 i0 (.int .u32 0) 1 Try.underlying25 hi hz0 hz1 _ _ _ _ L rfl rfl (by have := HL.out; omega) (by have := HL.out; omega) (by rw [hz2]; omega) (by unfold maxLen; omega) hS1 ?_)
    intro w2 ho2 hg2
    have how := own_made ho2
    have hbel : Below w1.heap.size w1 w2 := (Below.refl w1.heap.size w1).grown hg2 (Nat.le_refl _) (by intro k hk; simp at hk)
    obtain ⟨g, hg⟩ : ∃ g, g = w1.heap.size := ⟨_, rfl⟩
    have HB : Hid (Below w1.heap.size w1 w2 ∧ Cells w2 g (List.replicate L 0)) := by rw [hg]; exact ⟨hbel, how.cells⟩
    have HG : Hid (w1.heap.size ≤ g) := by show _ ≤ _; omega
    rw [← hg]
    clear hg hbel how ho2 hg2
    go_wp2
    go_loopw [8] (fun t wr => ∃ (i : Nat) (zs : List Nat), i ≤ S ∧ t = .int .i64 i ∧ zs.length = L ∧ Cells wr g zs ∧ Below w1.heap.size w1 wr ∧ val zs = shl (val xs) n % 2 ^ i) (fun t _ => S - (intOf t).toNat)
    case atStart => exact ⟨0, List.replicate L 0, Nat.zero_le _, rfl, by simp, HB.out.2, HB.out.1, by rw [Nat.pow_zero, Nat.mod_one]; exact val_zeros fun x hx => List.eq_of_mem_replicate hx⟩
    case round =>
      clear HB
      obtain ⟨i, zs, hin, rfl, hzl, hcs, hbel, hinv⟩ := hrel
      have HZ : Hid (zs.length = L) := hzl
      have HI : Hid (val zs = shl (val xs) n % 2 ^ i) := hinv
      clear hzl hinv
      by_cases hlt : i < S
      · have hlt' : (i : Int) < (S : Int) := by omega
        by_cases hni : n ≤ (i : Int)
        · obtain ⟨q, hq⟩ : ∃ q, q = i / 32 := ⟨_, rfl⟩
          obtain ⟨r, hr⟩ : ∃ r, r = i % 32 := ⟨_, rfl⟩
          have e1 : (i : Int) / 32 = (q : Int) := by omega
          have e2 : (i : Int) % 32 = (r : Int) := by omega
          have e3 : (i : Int).tdiv 32 = (q : Int) := by rw [Int.tdiv_eq_ediv_of_nonneg (by omega)]; exact e1
          have e4 : (i : Int).tmod 32 = (r : Int) := by rw [Int.tmod_eq_emod_of_nonneg (by omega)]; exact e2
          have hr1 : r ≤ 31 := by omega
          have hqL : q < L := by have := HL.out; omega
          have hqL' : (q : Int) < (L : Int) := by omega
          have hq0 : (0 : Int) ≤ (q : Int) := by omega
          have hpl := pow_place i
          rw [← hq, ← hr] at hpl
          have hsm : zs.getD q 0 < 2 ^ r := by
            refine limb_small hcs.1 ?_
            rw [← hpl, HI.out]
            exact Nat.mod_lt _ (Nat.two_pow_pos _)
          obtain ⟨cz, hfz⟩ := hcs.cell (k := q) (by rw [HZ.out]; exact hqL)
          obtain ⟨z, hz⟩ : ∃ z, z = zs.getD q 0 := ⟨_, rfl⟩
          rw [← hz] at cz hsm
          have hbt : ∀ W, Below w1.heap.size w1 W → Calls Try.prog 42 #[.slice ao xs.length cap, .int .i64 ((i : Int) - n)] W fun e w' => e = .returned (.int .u32 ((val xs / 2 ^ ((i : Int) - n).toNat % 2 : Nat) : Int)) ∧ w' = W := fun W hW => bit_ref _ xs _ W (nu.below (Nat.le_refl _) hW) (by omega) (by omega)
          obtain ⟨t, ht⟩ : ∃ t, t = val xs / 2 ^ ((i : Int) - n).toNat % 2 := ⟨_, rfl⟩
          rw [← ht] at hbt
          have ht1 : t ≤ 1 := by omega
          obtain ⟨T, hT⟩ : ∃ T, T = t * 2 ^ r := ⟨_, rfl⟩
          have eT : (t : Int) * 2 ^ r = (T : Int) := by rw [hT]; simp
          have hTb : T ≤ 2 ^ r := by rw [hT]; exact Nat.le_trans (Nat.mul_le_mul_right _ ht1) (by omega)
          have hp31 : 2 ^ r ≤ 2147483648 := Nat.le_trans (Nat.pow_le_pow_right (by decide) hr1) (by decide)
          have hT31 : T ≤ 2147483648 := by omega
          have hz31 : z < 2147483648 := by omega
          have k1 : IntKind.i64.wrap (q : Int) = (q : Int) := by rw [IntKind.wrap_i64]; omega
          have k2 : IntKind.i64.wrap ((i : Int) - n) = (i : Int) - n := by rw [IntKind.wrap_i64]; omega
          have k3 : IntKind.u32.wrap (T : Int) = (T : Int) := by rw [IntKind.wrap_u32]; omega
          have k4 : IntKind.u32.wrap ((z : Int) + (T : Int)) = (z : Int) + (T : Int) := by rw [IntKind.wrap_u32]; omega
          have k5 : (r : Int) ≤ 32 := by omega
          have hset := hcs.set q (z + T) (by omega)
          have hbel2 := hbel.setCell (p := ⟨g, q, none⟩) (by exact HG.out) (U (z + T))
          rw [show U (z + T) = .int .u32 ((z : Int) + (T : Int)) by simp [U]] at hset hbel2
          have HR : Hid (val (zs.set q (z + T)) = shl (val xs) n % 2 ^ (i + 1)) := by
            show _ = _
            rw [hz, val_set_add _ _ _ (by rw [HZ.out]; exact hqL), HI.out, shl_step, shl_bit, if_pos hni, ← ht, hT, hpl]
            congr 1
            rw [Nat.mul_comm t, Nat.mul_assoc]
          have HBT : Hid (∀ W, Below w1.heap.size w1 W → Calls Try.prog 42 #[.slice ao xs.length cap, .int .i64 ((i : Int) - n)] W fun e w' => e = .returned (.int .u32 (t : Int)) ∧ w' = W) := hbt
          have HBL : Hid (Below w1.heap.size w1 wr) := hbel
          clear hq hr hpl hsm hz hbt ht hT hTb hp31 hcs hbel
          go_wp2
          go_region_with (go_at_call 42; refine (HBT.out _ ?_).mono ?_; (first | exact HBL.out | exact HBL.out.drew); rintro e w9 ⟨rfl, rfl⟩)
          all_goals
            go_wp2
            go_roundw
            case rel => exact ⟨i + 1, _, by omega, by go_num, by rw [List.length_set]; exact HZ.out, ⟨hset.1, hset.2⟩, hbel2.drew, HR.out⟩
            case measure => simp [intOf]; omega
        · have HR : Hid (val zs = shl (val xs) n % 2 ^ (i + 1)) := by
            show _ = _
            rw [shl_step, shl_bit, if_neg hni, Nat.mul_zero, Nat.add_zero]
            exact HI.out
          have hni' : (i : Int) < n := by omega
          have hnd : decide (n ≤ (i : Int)) = false := decide_eq_false hni
          go_wp2
          go_roundw
          case rel => exact ⟨i + 1, zs, by omega, by go_num, HZ.out, hcs, hbel, HR.out⟩
          case measure => simp [intOf]; omega
      · have hlt' : ¬ (i : Int) < (S : Int) := by omega
        have hiS : i = S := by omega
        have HV : Hid (val zs = shl (val xs) n) := by
          show _ = _
          rw [HI.out, hiS]
          exact Nat.mod_eq_of_lt HLT.out
        have how : Own w1.heap.size 39 wr (.slice (some ⟨g, 0, none⟩) L L) zs := by
          have := hcs.own (B := w1.heap.size) HG.out (by rw [HZ.out]; omega)
          rw [HZ.out] at this
          exact this
        have hBW : Below w.heap.size w wr := hb1.trans (hbel.mono hS1)
        have hsW := hBW.size
        clear hiS hcs hbel
        go_wp2_with fail
        refine (norm_ref _ _ _ how.num (by rw [HZ.out]; omega)).mono ?_
        rintro e w4 ⟨v4, rfl, ho4, hb4⟩
        rw [HV.out] at ho4
        have ho5 := ho4.mono hsW
        have hb5 := hBW.trans (hb4.mono hsW)
        clear how ho4 hb4 hBW
        go_wp2
        go_ret2
        exact ⟨_, rfl, ho5, hb5⟩
end Go.Proofs.Ytaekaikkldnikaa

namespace Go.Proofs.Ytaekaikkldnikaa
open Go.RowKit

set_option maxHeartbeats 400000 in
theorem of_ref (u : Nat) (w : World) (hu : u < 18446744073709551616) :
    Calls Try.prog 29 #[.int .u64 (u : Int)] w fun e w' => Made w.heap.size 39 w (lim u) e w' := by
  have hb : limbs [u % 4294967296, u / 4294967296] := by
    intro x hx
    simp at hx
    omega
  have how := Own.lit (B := w.heap.size) 39 w #[.int .u32 ((u : Int) % 4294967296), .int .u32 ((u : Int) / 4294967296)] [u % 4294967296, u / 4294967296] hb (Nat.le_refl _) (by simp [maxLen]) (by simp [U])
  have hbel : Below w.heap.size w (w.alloc (.cells #[.int .u32 ((u : Int) % 4294967296), .int .u32 ((u : Int) / 4294967296)] 39)) := (Below.refl _ _).alloc (Nat.le_refl _) _
  go_enter Try.func29, Try.ntmps29
  go_wp2_with fail
  refine (norm_ref _ _ _ how.num (by simp)).mono ?_
  rintro e w' ⟨v, rfl, how2, hbel2⟩
  rw [val_two] at how2
  have hw : w.heap.size ≤ (w.alloc (.cells #[.int .u32 ((u : Int) % 4294967296), .int .u32 ((u : Int) / 4294967296)] 39)).heap.size := by simp
  have hm := how2.mono hw
  have hbb := hbel.trans (hbel2.mono hw)
  clear how hb how2 hbel hbel2 hw
  go_wp2
  go_ret
  exact ⟨_, rfl, hm, hbb⟩

end Go.Proofs.Ytaekaikkldnikaa

namespace Go.Proofs.Ytaekaikkldnikaa
open Go.RowKit

/-- The three cells of the document's kind. -/
def LCell (w : World) (g : Nat) (a b c : Value) : Prop := w.heap[g]? = some (.cells #[a, b, c] 43 (0, 0))
theorem LCell.cells {w : World} {g : Nat} {a b c : Value} (h : LCell w g a b c) : w.cell? ⟨g, 0, none⟩ = some a ∧ w.cell? ⟨g, 1, none⟩ = some b ∧ w.cell? ⟨g, 2, none⟩ = some c := by
  simp only [World.cell?, LCell] at h ⊢
  rw [h]
  simp
theorem LCell.below {w w' : World} {g : Nat} {a b c : Value} (h : LCell w g a b c) (hb : Below w.heap.size w w') : LCell w' g a b c := by
  unfold LCell; rw [hb.block _ (Array.getElem?_eq_some_iff.1 h).1]; exact h
theorem lcell_new (w : World) {a b c : Value} {k : Nat} (hk : w.heap.size = k) : LCell (w.alloc (.cells #[a, b, c] 43)) k a b c := by subst hk; exact heap_alloc_new w _

set_option maxRecDepth 100000 in
set_option maxHeartbeats 1600000 in
theorem kindRD (w : World) :
    Calls Try.prog 10 #[] w fun e w' => e = .returned (.agg #[.int .i64 52, .int .u64 9218868437227405312, .int .i64 (-1074)]) ∧ Below w.heap.size w w' := by
  have HW : Hid (LCell (w.alloc (.cells #[.int .i64 52, .int .u64 9218868437227405312, .int .i64 (-1074)] 43)) w.heap.size (.int .i64 52) (.int .u64 9218868437227405312) (.int .i64 (-1074))) := lcell_new _ rfl
  go_enter Try.func10, Try.ntmps10
  go_wp2
  exact bodyPost_ret (results_cell_row rfl _ _ w.heap.size 43 _ (0, 0) _ rfl HW.out Try.underlying43 rfl (by kernel_rfl)) rfl ⟨rfl, belowA _ _⟩

set_option maxRecDepth 100000 in
set_option maxHeartbeats 1600000 in
theorem valRD (b : Nat) (w : World) (hb : b ≤ 9218868437227405313) :
    Calls Try.prog 13 #[.agg #[.int .i64 52, .int .u64 9218868437227405312, .int .i64 (-1074)], .int .u64 (b : Int)] w fun e w' => Made' w.heap.size w (lim (fval 52 b)) e w' := by
  obtain ⟨q, hq⟩ : ∃ q, q = b / 4503599627370496 := ⟨_, rfl⟩
  obtain ⟨m, hm⟩ : ∃ m, m = b % 4503599627370496 := ⟨_, rfl⟩
  have e1 : (b : Int) / 4503599627370496 = (q : Int) := by omega
  have e2 : (b : Int).tdiv 4503599627370496 = (q : Int) := by rw [Int.tdiv_eq_ediv_of_nonneg (by omega)]; exact e1
  have e3 : (b : Int) % 4503599627370496 = (m : Int) := by omega
  have e4 : (b : Int).tmod 4503599627370496 = (m : Int) := by rw [Int.tmod_eq_emod_of_nonneg (by omega)]; exact e3
  have hq1 : q ≤ 4000 := by omega
  have hm1 : m < 4503599627370496 := by omega
  have HV : Hid (fval 52 b = if q = 0 then m else (m + 4503599627370496) * 2 ^ (q - 1)) := by show _ = _; rw [hq, hm]; rfl
  obtain ⟨W1, hW1⟩ : ∃ W1, W1 = w.alloc (.cells #[.int .i64 52, .int .u64 9218868437227405312, .int .i64 (-1074)] 43) := ⟨_, rfl⟩
  have hb1 : Below w.heap.size w W1 := by rw [hW1]; exact belowA w _
  have HW1 : Hid (W1 = w.alloc (.cells #[.int .i64 52, .int .u64 9218868437227405312, .int .i64 (-1074)] 43)) := hW1
  clear hq hm hW1
  by_cases h0 : q = 0
  · have HF : Hid (fval 52 b = m) := by show _ = _; rw [HV.out, if_pos h0]
    subst h0
    rw [HF.out]
    clear HV HF
    go_enter Try.func13, Try.ntmps13
    go_wp2_with fail
    rw [← HW1.out]
    refine (of_ref m _ (by omega)).mono ?_
    rintro e w2 ⟨v, rfl, ho, b2⟩
    obtain ⟨vo, vl, vc, rfl⟩ := ho.sl
    have HE : Hid (Made' w.heap.size w (lim m) (.returned (.slice vo vl vc)) w2) := ⟨_, rfl, ho.mono hb1.size, bstep hb1 b2⟩
    clear ho b2 hb1 HW1
    go_wp2
    go_ret
    exact HE.out
  · have h0' : ((q : Int) == 0) = false := by simp; omega
    obtain ⟨s, rfl⟩ : ∃ s, q = s + 1 := ⟨q - 1, by omega⟩
    have HF : Hid (fval 52 b = (m + 4503599627370496) * 2 ^ s) := by show _ = _; rw [HV.out, if_neg h0, show s + 1 - 1 = s by omega]
    have e5 : ((s + 1 : Nat) : Int) - 1 = (s : Int) := by omega
    rw [HF.out]
    clear HV HF h0
    go_enter Try.func13, Try.ntmps13
    go_wp2_with fail
    rw [← HW1.out]
    refine (of_ref (m + 4503599627370496) _ (by omega)).mono ?_
    rintro e w2 ⟨v, rfl, ho, b2⟩
    obtain ⟨vo, vl, vc, rfl⟩ := ho.sl
    replace hb1 := bstep hb1 b2
    have hsh := shift_ref _ _ (s : Int) w2 ho.num (Nat.le_trans (lim_len_le (k := 2) (show m + 4503599627370496 < 4294967296 ^ 2 by omega)) (by decide)) (by omega) (by omega)
    rw [val_lim, show shl (m + 4503599627370496) (s : Int) = (m + 4503599627370496) * 2 ^ s by unfold shl; rw [if_pos (by omega), Int.toNat_natCast]] at hsh
    clear ho b2 HW1
    go_wp2_with fail
    refine hsh.mono ?_
    rintro e w3 ⟨v, rfl, ho, b3⟩
    obtain ⟨zo, zl, zc, rfl⟩ := ho.sl
    have HE : Hid (Made' w.heap.size w (lim ((m + 4503599627370496) * 2 ^ s)) (.returned (.slice zo zl zc)) w3) := ⟨_, rfl, ho.mono hb1.size, bstep hb1 b3⟩
    clear ho b3 hb1 hsh
    go_wp2
    go_ret
    exact HE.out

set_option maxRecDepth 100000 in
set_option maxHeartbeats 1600000 in
theorem valRS (b : Nat) (w : World) (hb : b ≤ 2139095041) :
    Calls Try.prog 13 #[.agg #[.int .i64 23, .int .u64 2139095040, .int .i64 (-149)], .int .u64 (b : Int)] w fun e w' => Made' w.heap.size w (lim (fval 23 b)) e w' := by
  obtain ⟨q, hq⟩ : ∃ q, q = b / 8388608 := ⟨_, rfl⟩
  obtain ⟨m, hm⟩ : ∃ m, m = b % 8388608 := ⟨_, rfl⟩
  have e1 : (b : Int) / 8388608 = (q : Int) := by omega
  have e2 : (b : Int).tdiv 8388608 = (q : Int) := by rw [Int.tdiv_eq_ediv_of_nonneg (by omega)]; exact e1
  have e3 : (b : Int) % 8388608 = (m : Int) := by omega
  have e4 : (b : Int).tmod 8388608 = (m : Int) := by rw [Int.tmod_eq_emod_of_nonneg (by omega)]; exact e3
  have hq1 : q ≤ 4000 := by omega
  have hm1 : m < 8388608 := by omega
  have HV : Hid (fval 23 b = if q = 0 then m else (m + 8388608) * 2 ^ (q - 1)) := by show _ = _; rw [hq, hm]; rfl
  obtain ⟨W1, hW1⟩ : ∃ W1, W1 = w.alloc (.cells #[.int .i64 23, .int .u64 2139095040, .int .i64 (-149)] 43) := ⟨_, rfl⟩
  have hb1 : Below w.heap.size w W1 := by rw [hW1]; exact belowA w _
  have HW1 : Hid (W1 = w.alloc (.cells #[.int .i64 23, .int .u64 2139095040, .int .i64 (-149)] 43)) := hW1
  clear hq hm hW1
  by_cases h0 : q = 0
  · have HF : Hid (fval 23 b = m) := by show _ = _; rw [HV.out, if_pos h0]
    subst h0
    rw [HF.out]
    clear HV HF
    go_enter Try.func13, Try.ntmps13
    go_wp2_with fail
    rw [← HW1.out]
    refine (of_ref m _ (by omega)).mono ?_
    rintro e w2 ⟨v, rfl, ho, b2⟩
    obtain ⟨vo, vl, vc, rfl⟩ := ho.sl
    have HE : Hid (Made' w.heap.size w (lim m) (.returned (.slice vo vl vc)) w2) := ⟨_, rfl, ho.mono hb1.size, bstep hb1 b2⟩
    clear ho b2 hb1 HW1
    go_wp2
    go_ret
    exact HE.out
  · have h0' : ((q : Int) == 0) = false := by simp; omega
    obtain ⟨s, rfl⟩ : ∃ s, q = s + 1 := ⟨q - 1, by omega⟩
    have HF : Hid (fval 23 b = (m + 8388608) * 2 ^ s) := by show _ = _; rw [HV.out, if_neg h0, show s + 1 - 1 = s by omega]
    have e5 : ((s + 1 : Nat) : Int) - 1 = (s : Int) := by omega
    rw [HF.out]
    clear HV HF h0
    go_enter Try.func13, Try.ntmps13
    go_wp2_with fail
    rw [← HW1.out]
    refine (of_ref (m + 8388608) _ (by omega)).mono ?_
    rintro e w2 ⟨v, rfl, ho, b2⟩
    obtain ⟨vo, vl, vc, rfl⟩ := ho.sl
    replace hb1 := bstep hb1 b2
    have hsh := shift_ref _ _ (s : Int) w2 ho.num (Nat.le_trans (lim_len_le (k := 2) (show m + 8388608 < 4294967296 ^ 2 by omega)) (by decide)) (by omega) (by omega)
    rw [val_lim, show shl (m + 8388608) (s : Int) = (m + 8388608) * 2 ^ s by unfold shl; rw [if_pos (by omega), Int.toNat_natCast]] at hsh
    clear ho b2 HW1
    go_wp2_with fail
    refine hsh.mono ?_
    rintro e w3 ⟨v, rfl, ho, b3⟩
    obtain ⟨zo, zl, zc, rfl⟩ := ho.sl
    have HE : Hid (Made' w.heap.size w (lim ((m + 8388608) * 2 ^ s)) (.returned (.slice zo zl zc)) w3) := ⟨_, rfl, ho.mono hb1.size, bstep hb1 b3⟩
    clear ho b3 hb1 hsh
    go_wp2
    go_ret
    exact HE.out

end Go.Proofs.Ytaekaikkldnikaa
