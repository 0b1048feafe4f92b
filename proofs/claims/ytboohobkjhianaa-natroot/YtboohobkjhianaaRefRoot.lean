/-
  Proved here: what the plain way's Root answers.
-/
import Derived.Test.YtboohobkjhianaaRoot
import Derived.Test.YtboohobkjhianaaRefD
import Derived.Test.YtboohobkjhianaaRefShift
import Derived.Test.YtboohobkjhianaaRefPow
namespace Go.Proofs.Ytboohobkjhianaa
open Go.RowKit

theorem shl_one (i : Nat) : shl 1 (i : Int) = 2 ^ i := by
  unfold shl
  rw [if_pos (by omega), Nat.one_mul, Int.toNat_natCast]
theorem bl_pow (i : Nat) : bl (2 ^ i) = i + 1 := bl_unique (Nat.le_refl _) (Nat.pow_lt_pow_right (by decide) (by omega))

set_option maxRecDepth 100000 in
set_option maxHeartbeats 1600000 in
theorem root_ref (v : Value) (xs : List Nat) (w : World) (h : Num w v xs) (hlen : xs.length ≤ 1000) :
    Calls Try.prog 36 #[v] w fun e w' => RootEnd w (val xs) e w' := by
  obtain ⟨a, ha⟩ : ∃ a, a = val xs := ⟨_, rfl⟩
  rw [← ha]
  have hba : bl a ≤ 32 * xs.length := by rw [ha]; exact bl_len h.1
  have hls := lim_short h
  rw [← ha] at hls
  have HA : Hid (a = val xs) := ha
  obtain ⟨n, hn⟩ : ∃ n, n = bl a := ⟨_, rfl⟩
  have HLT : Hid (a < 2 ^ n) := by rw [hn]; exact bl_lt' a
  have HN : Hid (n = bl a) := hn
  rw [← hn] at hba
  clear hn ha
  obtain ⟨q, hq⟩ : ∃ q, q = (n + 1) / 2 := ⟨_, rfl⟩
  have eq : ((n : Int) + 1) / 2 = (q : Int) := by omega
  have HQ : Hid (q = (n + 1) / 2) := hq
  have hq2 : q ≤ 16000 := by omega
  clear hq
  go_enter Try.func36, Try.ntmps36
  go_wp2_with fail
  refine (bits_ref _ _ _ h (by omega)).mono ?_
  rintro e w1 ⟨rfl, hb1⟩
  rw [← HA.out, ← HN.out]
  have HB1 : Hid (Below w.heap.size w w1) := hb1
  clear hb1
  go_wp2_with fail
  rw [eq]
  clear eq
  go_loopw [3, 4] (fun t iv wr => ∃ (i r : Nat), i ≤ q + 1 ∧ iv = .int .i64 ((i : Int) - 1) ∧ r * r ≤ a ∧ a < (r + 2 ^ i) * (r + 2 ^ i) ∧ Own w.heap.size 34 wr t (lim r) ∧ Below w.heap.size w wr) (fun _ iv _ => (intOf iv + 1).toNat)
  case atStart =>
    refine ⟨q + 1, 0, by omega, by go_num, by omega, ?_, Own.of_nil _ _ _, HB1.out⟩
    rw [HQ.out]; exact bit_start HLT.out
  case round =>
    clear HB1
    obtain ⟨i, r, hi, rfl, hr1, hr2, hor, hbel⟩ := hrel
    have HR1 : Hid (r * r ≤ a) := hr1
    have HR2 : Hid (a < (r + 2 ^ i) * (r + 2 ^ i)) := hr2
    have hrl : (lim r).length ≤ 1000 := by have := lim_len_of_lt (root_le hr1); omega
    clear hr1 hr2
    by_cases hi0 : 0 < i
    · obtain ⟨j, rfl⟩ : ∃ j, i = j + 1 := ⟨i - 1, by omega⟩
      rw [show ((j + 1 : Nat) : Int) - 1 = (j : Int) by omega]
      have hge : (0 : Int) ≤ (j : Int) := by omega
      go_wp2_with fail
      have hone : Own w.heap.size 34 (wr.alloc (.cells #[.int .u32 1] 34)) (.slice (some ⟨wr.heap.size, 0, none⟩) 1 1) [1] := Own.lit (B := w.heap.size) 34 wr #[.int .u32 1] [1] (by intro x hx; simp at hx; omega) hbel.size (by simp [maxLen]) (by simp [U])
      have hb2 : Below wr.heap.size wr (wr.alloc (.cells #[.int .u32 1] 34)) := (Below.refl _ _).alloc (Nat.le_refl _) _
      generalize wr.alloc (.cells #[.int .u32 1] 34) = w2 at *
      refine (shift_ref _ _ (j : Int) _ hone.num (by simp) (by omega) (by omega)).mono ?_
      rintro e w3 ⟨o, rfl, hoo, hb3⟩
      rw [show val [1] = 1 from rfl, shl_one] at hoo
      have hol : (lim (2 ^ j)).length ≤ 1000 := len_of_bl (by rw [bl_pow]; omega)
      have hor3 := (hor.below hb2).below hb3
      have hbel3 := (hbel.trans (hb2.mono hbel.size)).trans (hb3.mono (Nat.le_trans hbel.size hb2.size))
      clear hone hor hb2 hb3
      go_wp2_with fail
      refine (add_ref _ _ _ _ _ hor3.num hoo.num (by omega) (by omega)).mono ?_
      rw [val_lim, val_lim]
      rintro e w4 ⟨s, rfl, hos, hb4⟩
      have hsl := lim_add_len hrl hol
      have hor4 := hor3.below hb4
      have hos4 := hos.mono hbel3.size
      have hbel4 := hbel3.trans (hb4.mono hbel3.size)
      clear hoo hor3 hos hb4
      go_wp2_with fail
      refine (mul_ref _ _ _ _ _ hos4.num hos4.num (by omega) (by omega)).mono ?_
      rw [val_lim]
      rintro e w5 ⟨p, rfl, hop, hb5⟩
      have hpl := prod_len hsl hsl
      have hnx := h.below (Nat.le_refl _) (hbel4.trans (hb5.mono hbel4.size))
      go_wp2_with fail
      refine (cmp_ref _ _ _ _ _ hop.num hnx (by omega) (by omega)).mono ?_
      rw [val_lim, ← HA.out]
      rintro e w6 ⟨rfl, rfl⟩
      have hor5 := hor4.below hb5
      have hos5 := hos4.below hb5
      have hbel5 := hbel4.trans (hb5.mono hbel4.size)
      clear hop hnx hb5 hor4 hos4 hbel4
      by_cases hle : (r + 2 ^ j) * (r + 2 ^ j) ≤ a
      · have hc : cmpN ((r + 2 ^ j) * (r + 2 ^ j)) a = -1 ∨ cmpN ((r + 2 ^ j) * (r + 2 ^ j)) a = 0 := by
          rcases cmpN_cases ((r + 2 ^ j) * (r + 2 ^ j)) a with h | h | h
          · exact Or.inl h.2
          · exact Or.inr h.2
          · omega
        obtain ⟨c, hcc⟩ : ∃ c, c = cmpN ((r + 2 ^ j) * (r + 2 ^ j)) a := ⟨_, rfl⟩
        rw [← hcc] at hc ⊢
        have hc0 : c ≤ 0 := by omega
        have HLE : Hid ((r + 2 ^ j) * (r + 2 ^ j) ≤ a) := hle
        clear hcc hc hle
        go_wp2_with fail
        go_roundw
        case rel => exact ⟨j, r + 2 ^ j, by omega, by go_num, HLE.out, bit_on HR2.out, hos5, hbel5⟩
        case measure => simp [intOf]
      · have hc : cmpN ((r + 2 ^ j) * (r + 2 ^ j)) a = 1 := cmpN_gt (by omega)
        rw [hc]
        have HLE : Hid (¬ (r + 2 ^ j) * (r + 2 ^ j) ≤ a) := hle
        clear hc hle
        go_wp2_with fail
        go_roundw
        case rel => exact ⟨j, r, by omega, by go_num, HR1.out, bit_off HLE.out, hor5, hbel5⟩
        case measure => simp [intOf]
    · have hi1 : i = 0 := by omega
      subst hi1
      have hge : ¬ (0 : Int) ≤ ((0 : Nat) : Int) - 1 := by omega
      have HE : Hid (RootEnd w a (.returned u3) wr) := ⟨r, u3, rfl, ⟨HR1.out, by have := HR2.out; rw [Nat.pow_zero] at this; exact this⟩, hor, hbel⟩
      clear hor hbel
      go_wp2_with fail
      go_ret
      exact HE.out
end Go.Proofs.Ytboohobkjhianaa
