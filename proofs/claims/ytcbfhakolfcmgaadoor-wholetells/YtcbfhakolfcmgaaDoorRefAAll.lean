/-
  Proved here: what the plain way's Of answers.
  Proved here: what the plain way's limb, Uint, Bits, Cmp and Sub answer.
-/
import Derived.Test.YtcbfhakolfcmgaaDoorRefParseAll
import Derived.Test.YtcbfhakolfcmgaaDoorLimMathAll
import Derived.Test.YtcbfhakolfcmgaaDoorBits
import Derived.Test.YtcbfhakolfcmgaaDoorAlive0All
namespace Go.Proofs.YtcbfhakolfcmgaaDoor
open Go.RowKit

set_option maxHeartbeats 400000 in
theorem of_ref (u : Nat) (w : World) (hu : u < 18446744073709551616) :
    Calls Tryd.prog 46 #[.int .u64 (u : Int)] w fun e w' => Made w.heap.size 64 w (lim u) e w' := by
  have hb : limbs [u % 4294967296, u / 4294967296] := by
    intro x hx
    simp at hx
    omega
  have how := Own.lit (B := w.heap.size) 64 w #[.int .u32 ((u : Int) % 4294967296), .int .u32 ((u : Int) / 4294967296)] [u % 4294967296, u / 4294967296] hb (Nat.le_refl _) (by simp [maxLen]) (by simp [U])
  have hbel : Below w.heap.size w (w.alloc (.cells #[.int .u32 ((u : Int) % 4294967296), .int .u32 ((u : Int) / 4294967296)] 64)) := (Below.refl _ _).alloc (Nat.le_refl _) _
  go_enter Tryd.func46, Tryd.ntmps46
  go_wp2_with fail
  refine (norm_ref _ _ _ how.num (by simp)).mono ?_
  rintro e w' ⟨v, rfl, how2, hbel2⟩
  rw [val_two] at how2
  have hw : w.heap.size ≤ (w.alloc (.cells #[.int .u32 ((u : Int) % 4294967296), .int .u32 ((u : Int) / 4294967296)] 64)).heap.size := by simp
  have hm := how2.mono hw
  have hbb := hbel.trans (hbel2.mono hw)
  clear how hb how2 hbel hbel2 hw
  go_wp2
  go_ret
  exact ⟨_, rfl, hm, hbb⟩

end Go.Proofs.YtcbfhakolfcmgaaDoor

namespace Go.Proofs.YtcbfhakolfcmgaaDoor
open Go.RowKit

theorem limb_ref (v : Value) (xs : List Nat) (i : Int) (w : World) (h : Num w v xs) (hi : 0 ≤ i) :
    Calls Tryd.prog 76 #[v, .int .i64 i] w fun e w' => e = .returned (.int .u64 ((xs.getD i.toNat 0 : Nat) : Int)) ∧ w' = w := by
  obtain ⟨hb, ao, cap, rfl, hc, hm, hnil, hcell⟩ := h.open_
  clear h
  obtain ⟨k, rfl⟩ := Int.eq_ofNat_of_zero_le hi
  have hlt := limb_lt hb k
  by_cases hk : k < xs.length
  · obtain ⟨b, off, rfl, hc0⟩ := hcell k hk
    rw [Int.toNat_natCast]
    obtain ⟨x, hx⟩ : ∃ x, x = xs.getD k 0 := ⟨_, rfl⟩
    rw [← hx] at hc0 hlt ⊢
    clear hx hcell hnil hb
    go_enter Tryd.func76, Tryd.ntmps76
    go_wp2
    go_ret
    exact ⟨rfl, rfl⟩
  · have hg : xs.getD k 0 = 0 := by rw [List.getD_eq_getElem?_getD, List.getElem?_eq_none (by omega)]; rfl
    rw [Int.toNat_natCast, hg]
    clear hcell hnil hb hlt hg
    have hge : ¬ (k : Int) < ((xs.length : Nat) : Int) := by omega
    go_enter Tryd.func76, Tryd.ntmps76
    go_wp2
    go_ret
    exact ⟨rfl, rfl⟩

/-- What a teller that makes memory leaves. -/
def Told (B : Nat) (w : World) (v : Value) (en : Ending) (w' : World) : Prop := en = .returned v ∧ Below B w w'


set_option maxRecDepth 100000 in
set_option maxHeartbeats 800000 in
theorem uint_ref_yes (v : Value) (xs : List Nat) (w : World) (h : Num w v xs) (hlen : xs.length ≤ 1099511627776) (hsm : val xs < 18446744073709551616) :
    Calls Tryd.prog 35 #[v] w fun e w' => Told w.heap.size w (.tuple #[.int .u64 (val xs : Nat), .bool true]) e w' := by
  go_enter Tryd.func35, Tryd.ntmps35
  go_wp2_with fail
  refine (norm_ref _ _ _ h hlen).mono ?_
  rintro e w1 ⟨v1, rfl, ho, hb⟩
  have hl2 : (lim (val xs)).length ≤ 2 := lim_len_le hsm
  have hg := getD_lim_two (val xs) hsm
  obtain ⟨ao, cap, rfl, hao, hl1, hm1⟩ := ho.ao
  obtain ⟨_, aox, capx, ex, _, _, _, cx⟩ := ho.num.open_
  simp only [Value.slice.injEq] at ex
  obtain ⟨rfl, hq1, rfl⟩ := ex
  clear hq1 hao h
  generalize hV : val xs = V at *
  obtain ⟨k, hk⟩ : ∃ k, k = (lim V).length := ⟨_, rfl⟩
  have HVL : Hid (val (lim V) = V) := val_lim V
  have HLL : Hid (limbs (lim V)) := limbs_lim V
  rw [← hk] at hl1 hl2 cx ⊢
  generalize hL : lim V = L at *
  have HK : Hid (k = L.length) := hk
  have HV : Hid (val xs = V) := hV
  clear hk hV ho hg hL
  have hk2 : ¬ (2 : Int) < (k : Int) := by omega
  go_wp2
  go_loop [5, 6] (fun u t => ∃ (i U : Nat), i ≤ k ∧ t = .int .i64 ((i : Int) - 1) ∧ u = .int .u64 U ∧ low L i + 4294967296 ^ i * U = V) (fun _ t => (intOf t + 1).toNat)
  case atStart => exact ⟨k, 0, Nat.le_refl _, rfl, rfl, by rw [low_all (by rw [← HK.out]; omega)]; simpa using HVL.out⟩
  case round =>
    obtain ⟨i, U', hi, rfl, rfl, hinv⟩ := hrel
    have HI : Hid (low L i + 4294967296 ^ i * U' = V) := hinv
    clear hinv
    by_cases hi0 : 0 < i
    · have hge : (0 : Int) ≤ (i : Int) - 1 := by omega
      obtain ⟨b, off, rfl, hc0⟩ := cx (i - 1) (by omega)
      have hx0 := limb_lt HLL.out (i - 1)
      obtain ⟨x, hx⟩ : ∃ x, x = L.getD (i - 1) 0 := ⟨_, rfl⟩
      rw [← hx] at hc0 hx0
      have hs := low_succ L (i - 1)
      rw [Nat.sub_add_cancel hi0, ← hx] at hs
      have hp : 4294967296 ^ i = 4294967296 ^ (i - 1) * 4294967296 := by rw [← Nat.pow_succ]; congr 1; omega
      have HN : Hid (low L (i - 1) + 4294967296 ^ (i - 1) * (U' * 4294967296 + x) = V) := by
        show _ = _
        have := HI.out
        rw [hs, hp, Nat.mul_assoc] at this
        rw [Nat.mul_add, Nat.mul_comm U' 4294967296]
        omega
      have hU : U' * 4294967296 + x < 18446744073709551616 := by
        have h1 := HN.out
        have h2 : 1 ≤ 4294967296 ^ (i - 1) := Nat.one_le_pow _ _ (by decide)
        have h3 := Nat.mul_le_mul_right (U' * 4294967296 + x) h2
        omega
      clear hx hs hp cx
      go_wp2
      go_round
      case rel => exact ⟨i - 1, U' * 4294967296 + x, by omega, by congr 1; omega, by go_num, HN.out⟩
      case measure => simp [intOf]; omega
    · have hi1 : i = 0 := by omega
      subst hi1
      have HU : Hid (U' = val xs) := by
        show _ = _
        rw [HV.out, ← HI.out, low_zero]; simp
      clear cx
      go_wp2
      go_ret2
      exact ⟨by rw [HU.out]; rfl, hb⟩

set_option maxRecDepth 100000 in
theorem uint_ref_no (v : Value) (xs : List Nat) (w : World) (h : Num w v xs) (hlen : xs.length ≤ 1099511627776) (hbig : 18446744073709551616 ≤ val xs) :
    Calls Tryd.prog 35 #[v] w fun e w' => Told w.heap.size w (.tuple #[.int .u64 0, .bool false]) e w' := by
  go_enter Tryd.func35, Tryd.ntmps35
  go_wp2_with fail
  refine (norm_ref _ _ _ h hlen).mono ?_
  rintro e w1 ⟨v1, rfl, ho, hb⟩
  obtain ⟨ao, cap, rfl, hao, hl1, hm1⟩ := ho.ao
  have hl2 : (2 : Int) < ((lim (val xs)).length : Nat) := by
    rcases Nat.lt_or_ge 2 (lim (val xs)).length with h | h
    · omega
    · have := lim_lt_of_len h
      omega
  have hlz : (lim (val xs)).length ≤ 9223372036854775807 := by omega
  generalize (lim (val xs)).length = k at *
  clear ho h hbig hao
  go_wp2
  go_ret2
  exact ⟨rfl, hb⟩

end Go.Proofs.YtcbfhakolfcmgaaDoor
