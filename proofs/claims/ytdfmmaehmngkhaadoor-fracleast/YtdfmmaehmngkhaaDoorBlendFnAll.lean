/-
  Proved here: how many bits a number has, by either way.
  Proved here: what the small functions of package whole answer.
  Proved here: what blend answers.
-/
import Derived.Test.YtdfmmaehmngkhaaDoorLimMathAll
import Derived.Lib.BitFns
import Derived.Test.YtdfmmaehmngkhaaDoorText
import Derived.Test.YtdfmmaehmngkhaaDoorSmallAll
import Derived.Test.YtdfmmaehmngkhaaDoorMulMathAll
namespace Go.Proofs.YtdfmmaehmngkhaaDoor
open Go.RowKit

/-- How many bits a number has. -/
def bl (n : Nat) : Nat := if n = 0 then 0 else n.log2 + 1
theorem bl_zero : bl 0 = 0 := rfl
theorem bl_unique {n m : Nat} (h1 : 2 ^ m ≤ n) (h2 : n < 2 ^ (m + 1)) : bl n = m + 1 := by
  have h0 : n ≠ 0 := by have := Nat.two_pow_pos m; omega
  have a := (Nat.le_log2 h0).2 h1
  have b := (Nat.log2_lt h0).2 h2
  unfold bl
  rw [if_neg h0]
  omega
theorem bl_bounds {n : Nat} (h : n ≠ 0) : ∃ m, bl n = m + 1 ∧ 2 ^ m ≤ n ∧ n < 2 ^ (m + 1) :=
  ⟨n.log2, by unfold bl; rw [if_neg h], (Nat.le_log2 h).1 (Nat.le_refl _), (Nat.log2_lt h).1 (Nat.lt_succ_self _)⟩
theorem bl_half {t : Nat} (h : t ≠ 0) : bl t = 1 + bl (t / 2) := by
  by_cases h1 : t = 1
  · subst h1; decide
  · obtain ⟨m, e, h2, h3⟩ := bl_bounds (n := t / 2) (by omega)
    rw [e, bl_unique (m := m + 1)]
    · omega
    · rw [Nat.pow_succ]; omega
    · rw [Nat.pow_succ]; omega
theorem pow_limb (k : Nat) : 4294967296 ^ k = 2 ^ (32 * k) := by rw [Nat.pow_mul]
theorem bl_top {r k t : Nat} (hr : r < 4294967296 ^ k) (ht : t ≠ 0) : bl (r + 4294967296 ^ k * t) = 32 * k + bl t := by
  obtain ⟨m, e, h2, h3⟩ := bl_bounds ht
  rw [e]
  refine bl_unique (m := 32 * k + m) ?_ ?_
  · rw [Nat.pow_add, ← pow_limb]
    have := Nat.mul_le_mul_left (4294967296 ^ k) h2
    omega
  · rw [show 32 * k + m + 1 = 32 * k + (m + 1) by omega, Nat.pow_add, ← pow_limb]
    have h4 : t + 1 ≤ 2 ^ (m + 1) := h3
    have := Nat.mul_le_mul_left (4294967296 ^ k) h4
    rw [Nat.mul_add, Nat.mul_one] at this
    omega
theorem bl_bitLen : ∀ (x : Nat), x < 18446744073709551616 → Lib.bitLen x = bl x := by
  intro x
  induction x using Nat.strongRecOn with
  | ind x ih =>
    intro hx
    by_cases h0 : x = 0
    · subst h0; rfl
    · rw [Lib.bitLen_half x h0 hx, ih (x / 2) (by omega) (by omega), bl_half h0]
theorem bl_le32 {x : Nat} (h : x < 4294967296) : bl x ≤ 32 := by
  rw [← bl_bitLen x (by omega)]
  exact Lib.bitLen_le x 32 (by omega) h
theorem lim_last {n : Nat} (h : n ≠ 0) : ∃ k t, (lim n).length = k + 1 ∧ (lim n).getD k 0 = t ∧ t ≠ 0 ∧ t < 4294967296 ∧ bl n = 32 * k + bl t := by
  have hne : lim n ≠ [] := by rw [lim_pos h]; simp
  obtain ⟨k, hk⟩ : ∃ k, (lim n).length = k + 1 := ⟨(lim n).length - 1, by have := List.length_pos_iff.2 hne; omega⟩
  have hs := low_succ (lim n) k
  rw [low_all (by omega), val_lim] at hs
  have hlo := low_lt (limbs_lim n) k
  have ht : (lim n).getD k 0 ≠ 0 := by
    intro h0
    rw [h0, Nat.mul_zero, Nat.add_zero] at hs
    have := lim_len_le (k := k) (n := n) (by omega)
    omega
  refine ⟨k, _, hk, rfl, ht, limb_lt (limbs_lim n) k, ?_⟩
  conv => lhs; rw [hs]
  exact bl_top hlo ht

set_option maxHeartbeats 4000000 in
set_option maxRecDepth 100000 in
theorem len32_any (x : Int) (w : World) (h0 : 0 ≤ x) (h1 : x ≤ 4294967295) :
    Calls Tryd.prog 72 #[.int .u32 x] w fun e w' => e = .returned (.int .i64 (bl x.toNat : Nat)) ∧ w' = w := by
  rw [← bl_bitLen x.toNat (by omega)]
  by_cases c1 : x < 256
  · have i0 : 0 ≤ x := by omega
    have i1 : x ≤ 255 := by omega
    have c2 : x < 65536 := by omega
    have hl := Lib.len8_of x i0 i1
    have hb := Lib.bitLen_le8' x i0 i1
    go_enter Tryd.func72, Tryd.ntmps72
    go_wp2
    go_ret
    refine ⟨congrArg Ending.returned (congrArg (Value.int IntKind.i64) ?_), rfl⟩
    rfl
  · by_cases c2 : x < 65536
    · have i0 : 0 ≤ x / 256 := by omega
      have i1 : x / 256 ≤ 255 := by omega
      have hl := Lib.len8_of (x / 256) i0 i1
      have hb := Lib.bitLen_le8' (x / 256) i0 i1
      have HE : Hid ((Lib.bitLen x.toNat : Int) = 8 + (Lib.bitLen (x / 256).toNat : Int)) := by
        show _ = _
        rw [Lib.bitLen_shift8 x.toNat (by omega) (by omega), show (x / 256).toNat = x.toNat / 256 by omega]
        omega
      obtain ⟨r, hr⟩ : ∃ r, r = Lib.bitLen (x / 256).toNat := ⟨_, rfl⟩
      rw [← hr] at hl hb
      have HR : Hid (r = Lib.bitLen (x / 256).toNat) := hr
      clear hr
      go_enter Tryd.func72, Tryd.ntmps72
      go_wp2
      go_ret
      refine ⟨congrArg Ending.returned (congrArg (Value.int IntKind.i64) ?_), rfl⟩
      rw [HE.out, ← HR.out]
    · by_cases c3 : x / 65536 < 256
      · have i0 : 0 ≤ x / 65536 := by omega
        have i1 : x / 65536 ≤ 255 := by omega
        have hl := Lib.len8_of (x / 65536) i0 i1
        have hb := Lib.bitLen_le8' (x / 65536) i0 i1
        have HE : Hid ((Lib.bitLen x.toNat : Int) = 16 + (Lib.bitLen (x / 65536).toNat : Int)) := by
          show _ = _
          rw [Lib.bitLen_shift16 x.toNat (by omega) (by omega), show (x / 65536).toNat = x.toNat / 65536 by omega]
          omega
        obtain ⟨r, hr⟩ : ∃ r, r = Lib.bitLen (x / 65536).toNat := ⟨_, rfl⟩
        rw [← hr] at hl hb
        have HR : Hid (r = Lib.bitLen (x / 65536).toNat) := hr
        clear hr
        go_enter Tryd.func72, Tryd.ntmps72
        go_wp2
        go_ret
        refine ⟨congrArg Ending.returned (congrArg (Value.int IntKind.i64) ?_), rfl⟩
        rw [HE.out, ← HR.out]
      · have i0 : 0 ≤ x / 65536 / 256 := by omega
        have i1 : x / 65536 / 256 ≤ 255 := by omega
        have hl := Lib.len8_of (x / 65536 / 256) i0 i1
        have hb := Lib.bitLen_le8' (x / 65536 / 256) i0 i1
        have HE : Hid ((Lib.bitLen x.toNat : Int) = 24 + (Lib.bitLen (x / 65536 / 256).toNat : Int)) := by
          show _ = _
          rw [Lib.bitLen_shift24 x.toNat (by omega) (by omega), show (x / 65536 / 256).toNat = x.toNat / 16777216 by omega]
          omega
        obtain ⟨r, hr⟩ : ∃ r, r = Lib.bitLen (x / 65536 / 256).toNat := ⟨_, rfl⟩
        rw [← hr] at hl hb
        have HR : Hid (r = Lib.bitLen (x / 65536 / 256).toNat) := hr
        clear hr
        go_enter Tryd.func72, Tryd.ntmps72
        go_wp2
        go_ret
        refine ⟨congrArg Ending.returned (congrArg (Value.int IntKind.i64) ?_), rfl⟩
        rw [HE.out, ← HR.out]

set_option maxRecDepth 100000 in
set_option maxHeartbeats 800000 in
theorem bits_any (v : Value) (xs : List Nat) (w : World) (h : Num w v xs) (hlen : xs.length ≤ 1099511627776) :
    Calls Tryd.prog 53 #[v] w fun e w' => e = .returned (.int .i64 (bl (val xs) : Nat)) ∧ w' = w := by
  obtain ⟨ao, cap, rfl, hl1, hm1⟩ := h.ao
  go_enter Tryd.func53, Tryd.ntmps53
  go_wp2_with fail
  refine (trim_any _ _ _ h).mono ?_
  rintro e w1 ⟨⟨k, hk, hk2, rfl⟩, rfl⟩
  simp only [cutTo]
  have hkl : k = (lim (val xs)).length := by rw [← hk2, List.length_take, Nat.min_eq_left hk]
  have nu := h.cut hk
  rw [hk2] at nu
  simp only [cutTo] at nu
  have hle1 : k ≤ 1099511627776 := by omega
  clear h hk2
  by_cases h0 : val xs = 0
  · rw [h0, lim_zero] at hkl
    have hk0 : ((k : Int) == 0) = true := by simp [hkl]
    have HB : Hid (bl (val xs) = 0) := by show _ = _; rw [h0]; rfl
    clear hkl nu h0
    go_wp2
    go_ret
    exact ⟨by rw [HB.out]; rfl, rfl⟩
  · obtain ⟨m, t, e1, e2, ht, ht2, e3⟩ := lim_last h0
    have hkm : k = m + 1 := by omega
    have hk0 : ((k : Int) == 0) = false := by simp; omega
    obtain ⟨_, aox, capx, ex, _, _, _, cx⟩ := nu.open_
    simp only [Value.slice.injEq] at ex
    obtain ⟨rfl, hq1, rfl⟩ := ex
    obtain ⟨b, off, rfl, hc0⟩ := cx m (by omega)
    rw [e2] at hc0
    have HB : Hid (bl (val xs) = 32 * m + bl t) := e3
    have hb32 := bl_le32 ht2
    have HKM : Hid (k = m + 1) := hkm
    subst hkm
    clear e1 e2 e3 hkl hq1 cx nu h0
    go_wp2_with fail
    refine (len32_any _ _ (by omega) (by omega)).mono ?_
    rintro e w2 ⟨rfl, rfl⟩
    rw [Int.toNat_natCast]
    obtain ⟨bt, hbt⟩ : ∃ bt, bt = bl t := ⟨_, rfl⟩
    rw [← hbt] at hb32 ⊢
    have HBT : Hid (bt = bl t) := hbt
    clear hbt
    go_wp2
    go_ret
    refine ⟨congrArg Ending.returned (congrArg (Value.int IntKind.i64) ?_), rfl⟩
    rw [HB.out, ← HBT.out]
    omega

end Go.Proofs.YtdfmmaehmngkhaaDoor

namespace Go.Proofs.YtdfmmaehmngkhaaDoor
open Go.RowKit

/-- The two cells of a whole number. -/
def ICell (w : World) (g : Nat) (neg : Bool) (m : Value) : Prop := w.heap[g]? = some (.cells #[.bool neg, m] 25 (0, 0))
theorem ICell.cells {w : World} {g : Nat} {neg : Bool} {m : Value} (h : ICell w g neg m) : w.cell? ⟨g, 0, none⟩ = some (.bool neg) ∧ w.cell? ⟨g, 1, none⟩ = some m := by
  refine ⟨?_, ?_⟩ <;> (rw [cell_of_row w g _ _ _ _ h]; rfl)
theorem ICell.thaw {w : World} {g : Nat} {neg : Bool} {m : Value} (h : ICell w g neg m) (k : Nat) : w.frozen? ⟨g, k, none⟩ = false := frozen_of_row w g k _ _ h
theorem ICell.below {w w' : World} {g : Nat} {neg : Bool} {m : Value} (h : ICell w g neg m) (hb : Below w.heap.size w w') : ICell w' g neg m := by
  unfold ICell; rw [hb.block _ (Array.getElem?_eq_some_iff.1 h).1]; exact h
theorem ICell.new (w : World) (neg : Bool) (m : Value) : ICell (w.alloc (.cells #[.bool neg, m] 25)) w.heap.size neg m := heap_alloc_new w _
theorem ICell.write {w : World} {g : Nat} {neg : Bool} {m : Value} (h : ICell w g neg m) (n2 : Bool) (m2 : Value) : ICell ((w.setCell ⟨g, 0, none⟩ (.bool n2)).setCell ⟨g, 1, none⟩ m2) g n2 m2 := by
  unfold ICell
  have h1 := heap_setCell_same w g 0 _ _ (.bool n2) h
  have h2 := heap_setCell_same _ g 1 _ _ m2 h1
  rw [h2]
  rfl
theorem ICell.other {w : World} {g : Nat} {neg : Bool} {m : Value} (h : ICell w g neg m) {g' : Nat} (hne : g ≠ g') (k : Nat) (v : Value) : ICell (w.setCell ⟨g', k, none⟩ v) g neg m := by
  unfold ICell
  rw [heap_setCell_other]
  · exact h
  · exact hne

/-- What signed leaves. -/
def SignEnd (w : World) (neg : Bool) (m : Value) (e : Ending) (w' : World) : Prop := e = .returned (.agg #[.bool neg, m]) ∧ Below w.heap.size w w'

set_option maxRecDepth 100000 in
set_option maxHeartbeats 1600000 in
theorem signed_any (neg : Bool) (m : Value) (xs : List Nat) (w : World) (h : Num w m xs) :
    Calls Tryd.prog 35 #[.bool neg, m] w fun e w' => SignEnd w (neg && decide (0 < xs.length)) m e w' := by
  obtain ⟨ao, cap, rfl, hac, ham⟩ := h.ao
  obtain ⟨n, hn⟩ : ∃ n, n = xs.length := ⟨_, rfl⟩
  rw [← hn] at hac ⊢
  clear hn h
  cases neg
  · go_enter Tryd.func35, Tryd.ntmps35
    go_wp2
    (try simp only [Exit.inBlock, Exit.then])
    exact bodyPost_ret (v := .agg #[.bool false, .slice ao n cap]) (results_cell_row rfl _ _ w.heap.size 25 _ (0, 0) _ rfl (ICell.new w _ _) Tryd.underlying25 rfl (by kernel_rfl)) rfl ⟨rfl, (Below.refl _ _).alloc (Nat.le_refl _) _⟩
  · go_enter Tryd.func35, Tryd.ntmps35
    go_wp2
    (try simp only [Exit.inBlock, Exit.then])
    exact bodyPost_ret (v := .agg #[.bool (decide (0 < n)), .slice ao n cap]) (results_cell_row rfl _ _ w.heap.size 25 _ (0, 0) _ rfl (ICell.new w _ _) Tryd.underlying25 rfl (by kernel_rfl)) rfl ⟨rfl, (Below.refl _ _).alloc (Nat.le_refl _) _⟩

set_option maxRecDepth 100000 in
set_option maxHeartbeats 1600000 in
theorem opposite_any (neg : Bool) (ao : Option Addr) (n cap : Nat) (w : World) :
    Calls Tryd.prog 45 #[.agg #[.bool neg, .slice ao n cap]] w fun e w' => SignEnd w (!neg) (.slice ao n cap) e w' := by
  go_enter Tryd.func45, Tryd.ntmps45
  go_wp2
  (try simp only [Exit.inBlock, Exit.then])
  exact bodyPost_ret (v := .agg #[.bool (!neg), .slice ao n cap]) (results_cell_row rfl _ _ (w.heap.size + 1) 25 _ (0, 0) _ rfl (heap_alloc2_new w _ _) Tryd.underlying25 rfl (by kernel_rfl)) rfl ⟨rfl, ((Below.refl _ _).alloc (Nat.le_refl _) _).alloc (by simp) _⟩

set_option maxRecDepth 100000 in
set_option maxHeartbeats 1600000 in
theorem below_any (neg : Bool) (ao : Option Addr) (n cap : Nat) (xs : List Nat) (w : World) (h : Num w (.slice ao n cap) xs) (hl : xs.length ≤ 1000000) :
    Calls Tryd.prog 34 #[.agg #[.bool neg, .slice ao n cap]] w fun e w' => e = .returned (.bool (neg && decide (0 < bl (val xs)))) ∧ Below w.heap.size w w' := by
  cases neg
  · go_enter Tryd.func34, Tryd.ntmps34
    go_wp2_with fail
    go_ret
    exact ⟨rfl, (Below.refl _ _).alloc (Nat.le_refl _) _⟩
  · go_enter Tryd.func34, Tryd.ntmps34
    go_wp2_with fail
    refine (bits_any _ _ _ (h.alloc _) (by omega)).mono ?_
    rintro e w2 ⟨rfl, rfl⟩
    obtain ⟨b, hb⟩ : ∃ b, b = bl (val xs) := ⟨_, rfl⟩
    rw [← hb]
    have HB : Hid (b = bl (val xs)) := hb
    clear hb h
    go_wp2_with fail
    go_ret
    exact ⟨by rw [← HB.out]; rfl, (Below.refl _ _).alloc (Nat.le_refl _) _⟩
end Go.Proofs.YtdfmmaehmngkhaaDoor

namespace Go.Proofs.YtdfmmaehmngkhaaDoor
open Go.RowKit

set_option maxRecDepth 100000 in
set_option maxHeartbeats 1600000 in
theorem blend_any (a b : Value) (xs ys : List Nat) (uI vI : Int) (w : World) (ha : Num w a xs) (hb : Num w b ys) (hu0 : 0 ≤ uI) (hu1 : uI < 4294967296) (hv0 : 0 ≤ vI) (hv1 : vI < 4294967296)
    (hbx : xs.length ≤ 1099511627776) (hby : ys.length ≤ 1099511627776) (h1 : val ys * vI.toNat ≤ val xs * uI.toNat) (h2 : val xs * uI.toNat - val ys * vI.toNat < 4294967296 ^ (max xs.length ys.length)) :
    Calls Tryd.prog 74 #[a, .int .u64 uI, b, .int .u64 vI] w fun e w' => Made' w.heap.size w (lim (val xs * uI.toNat - val ys * vI.toNat)) e w' := by
  obtain ⟨u, rfl⟩ := Int.eq_ofNat_of_zero_le hu0
  obtain ⟨v, rfl⟩ := Int.eq_ofNat_of_zero_le hv0
  rw [Int.toNat_natCast, Int.toNat_natCast] at h1 h2 ⊢
  obtain ⟨ao, cap, rfl, hl1, hm1⟩ := ha.ao
  obtain ⟨bo, dap, rfl, hl2, hm2⟩ := hb.ao
  obtain ⟨i0, hi, hz0, hz1, hz2⟩ := info_parts Tryd.infoU
  obtain ⟨k, hk⟩ : ∃ k, k = xs.length := ⟨_, rfl⟩
  obtain ⟨m, hm⟩ : ∃ m, m = ys.length := ⟨_, rfl⟩
  have pre : ∃ n : Nat, n = max xs.length ys.length ∧ k ≤ n ∧ m ≤ n ∧ n ≤ 1099511627776 ∧ ((k < m ∧ n = m) ∨ (¬ k < m ∧ n = k)) := by
    by_cases h : k < m
    · exact ⟨m, by omega, by omega, by omega, by omega, Or.inl ⟨h, rfl⟩⟩
    · exact ⟨k, by omega, by omega, by omega, by omega, Or.inr ⟨h, rfl⟩⟩
  obtain ⟨n, hnm, hn1, hn2, hn3, hcase⟩ := pre
  rw [← hnm] at h2
  rw [← hk] at ha hl1 hbx ⊢
  rw [← hm] at hb hl2 hby ⊢
  have HKL : Hid (k = xs.length) := hk
  have HML : Hid (m = ys.length) := hm
  have H1 : Hid (val ys * v ≤ val xs * u) := h1
  have H2 : Hid (val xs * u - val ys * v < 4294967296 ^ n) := h2
  clear hk hm h1 h2 hnm hu0 hv0
  rcases hcase with ⟨hkm, hn⟩ | ⟨hkm, hn⟩
  all_goals
    have HNN : Hid (n = _) := hn
    clear hn
    go_enter Tryd.func74, Tryd.ntmps74
    go_wp2_with (at_make; refine wpList_make_full _ rfl _ _ 23 rfl w.heap.size 68 i0 (.int .u32 0) 1 Tryd.underlying23 hi hz0 hz1 _ _ _ _ n rfl rfl (by have := HNN.out; omega) (by have := HNN.out; omega) (by rw [hz2]; omega) (by unfold maxLen; omega) (Nat.le_refl _) ?_)
    intro w2 ho2 hg2
    have how := own_made ho2
    have hbel : Below w.heap.size w w2 := (Below.refl w.heap.size w).grown hg2 (Nat.le_refl _) (by intro k hk; simp at hk)
    clear ho2 hg2 HNN
    obtain ⟨g, hg⟩ : ∃ g, g = w.heap.size := ⟨_, rfl⟩
    have HB : Hid (Below w.heap.size w w2 ∧ Own w.heap.size 68 w2 (.slice (some ⟨g, 0, none⟩) n n) (List.replicate n 0)) := by rw [hg]; exact ⟨hbel, how⟩
    rw [← hg]
    clear hg hbel how
    go_wp2
    go_loopw [10, 11, 12, 23] (fun pv mv bv t wr => ∃ (i p m b : Nat) (zs : List Nat), i ≤ n ∧ t = .int .i64 i ∧ pv = .int .u64 p ∧ mv = .int .u64 m ∧ bv = .int .u64 b ∧ p < 4294967296 ∧ m < 4294967296 ∧ b ≤ 1 ∧ zs.length = n ∧ Own w.heap.size 68 wr (.slice (some ⟨g, 0, none⟩) n n) zs ∧ low xs i * u + 4294967296 ^ i * (m + b) = low ys i * v + low zs i + 4294967296 ^ i * p ∧ Below w.heap.size w wr) (fun _ _ _ t _ => n - (intOf t).toNat)
    case atStart => exact ⟨0, 0, 0, 0, List.replicate n 0, Nat.zero_le _, rfl, rfl, rfl, rfl, by omega, by omega, by omega, by simp, HB.out.2, by simp [low_zero], HB.out.1⟩
    case round =>
      obtain ⟨i, p, mm, bb, zs, hin, rfl, rfl, rfl, rfl, hp, hmm, hbb, hzl, how, hinv, hbel⟩ := hrel
      have HZ : Hid (zs.length = n) := hzl
      have HI : Hid (low xs i * u + 4294967296 ^ i * (mm + bb) = low ys i * v + low zs i + 4294967296 ^ i * p) := hinv
      clear hzl hinv HB
      have nu2 := ha.below (Nat.le_refl _) hbel
      have nv2 := hb.below (Nat.le_refl _) hbel
      by_cases hlt : i < n
      · have hlt' : (i : Int) < (n : Int) := by omega
        have hx0 := limb_lt ha.1 i
        have hy0 := limb_lt hb.1 i
        obtain ⟨x, hx⟩ : ∃ x, x = xs.getD i 0 := ⟨_, rfl⟩
        obtain ⟨y, hy⟩ : ∃ y, y = ys.getD i 0 := ⟨_, rfl⟩
        have HX : Hid (x = xs.getD i 0) := hx
        have HY : Hid (y = ys.getD i 0) := hy
        rw [← hx] at hx0
        rw [← hy] at hy0
        have tb := mul_bound hx0 (show u < 4294967296 by omega)
        have sb := mul_bound hy0 (show v < 4294967296 by omega)
        obtain ⟨t, ht⟩ : ∃ t, t = x * u := ⟨_, rfl⟩
        obtain ⟨s, hs⟩ : ∃ s, s = y * v := ⟨_, rfl⟩
        rw [← ht] at tb
        rw [← hs] at sb
        have et : (x : Int) * (u : Int) = (t : Int) := by rw [ht]; exact (Int.natCast_mul x u).symm
        have es : (y : Int) * (v : Int) = (s : Int) := by rw [hs]; exact (Int.natCast_mul y v).symm
        have HT : Hid (t = x * u) := ht
        have HS : Hid (s = y * v) := hs
        have ep := and_mask (p + t) (by omega)
        have em := and_mask (mm + s) (by omega)
        obtain ⟨PP, hPP⟩ : ∃ PP, PP = (p + t) % 4294967296 := ⟨_, rfl⟩
        obtain ⟨MM, hMM⟩ : ∃ MM, MM = (mm + s) % 4294967296 := ⟨_, rfl⟩
        rw [← hPP, Int.natCast_add] at ep
        rw [← hMM, Int.natCast_add] at em
        obtain ⟨D1, D, b', dl, e1, e2, hD, e3, e4, hb', hdl, heq⟩ := sub_wrap PP MM bb (by omega) (by omega) hbb
        have HPP : Hid (PP = (p + t) % 4294967296) := hPP
        have HMM : Hid (MM = (mm + s) % 4294967296) := hMM
        have HEQ : Hid (PP + 4294967296 * b' = MM + bb + dl) := heq
        obtain ⟨hcz, hfz⟩ := how.cell (k := i) (by rw [HZ.out]; exact hlt)
        obtain ⟨z, hz⟩ : ∃ z, z = zs.getD i 0 := ⟨_, rfl⟩
        rw [← hz] at hcz
        have hset := how.set HZ.out i dl hdl
        have hbel2 : Below w.heap.size w (wr.setCell ⟨g, i, none⟩ (U dl)) := hbel.setCell (by exact how.heap.1) _
        rw [show U dl = .int .u32 (dl : Int) from rfl] at hset hbel2
        clear hx hy hz how hbel ht hs hPP hMM heq
        go_wp2_with fail
        refine (limb_any _ _ _ _ nu2 (by omega)).mono ?_
        rintro e w3 ⟨rfl, rfl⟩
        rw [Int.toNat_natCast, ← HX.out]
        go_wp2_with fail
        refine (limb_any _ _ _ _ nv2 (by omega)).mono ?_
        rintro e w4 ⟨rfl, rfl⟩
        rw [Int.toNat_natCast, ← HY.out]
        clear nu2 nv2
        go_wp2
        go_roundw
        case rel => exact ⟨i + 1, (p + t) / 4294967296, (mm + s) / 4294967296, b', _, by omega, by go_num, by go_num, by go_num, by go_num, by omega, by omega, hb', by rw [List.length_set]; exact HZ.out, hset, by rw [HT.out, HS.out, HX.out, HY.out]; exact blend_step (by rw [HZ.out]; exact hlt) HI.out b' (by rw [← HX.out, ← HY.out, ← HT.out, ← HS.out, ← HPP.out, ← HMM.out]; exact HEQ.out), hbel2⟩
        case measure => simp [intOf]; omega
      · have hlt' : ¬ (i : Int) < (n : Int) := by omega
        have hin' : i = n := by omega
        have HV : Hid (val zs = val xs * u - val ys * v) := blend_done how.1 HZ.out (by rw [← HKL.out]; omega) (by rw [← HML.out]; omega) H1.out H2.out (by rw [← hin']; exact HI.out)
        clear hin' nu2 nv2
        go_wp2_with fail
        refine (trim_any _ _ _ how.num).mono ?_
        rintro e w3 ⟨⟨k3, hk3, hk4, rfl⟩, rfl⟩
        have how2 := how.cut hk3
        rw [hk4, HV.out] at how2
        clear how hk4
        go_wp2
        go_ret
        exact ⟨_, rfl, how2, hbel⟩
end Go.Proofs.YtdfmmaehmngkhaaDoor
