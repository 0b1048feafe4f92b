/-
  Proved here: what strings.TrimLeft answers at the cutset 0.
-/
import Derived.Test.YtcbfhakolfcmgaaDoorParse
namespace Go.Proofs.YtcbfhakolfcmgaaDoor
open Go.RowKit

/-- What is left of a text without its noughts ahead. -/
def TrimEnd (s : ByteArray) (w : World) (e : Ending) (w' : World) : Prop :=
  ∃ (k : Nat) (r : ByteArray), e = .returned (.string r) ∧ w' = w ∧ k ≤ s.size ∧ r.data.toList = s.data.toList.drop k ∧ (∀ j, j < k → bt s j = 48) ∧ (k < s.size → bt s k ≠ 48)

set_option maxRecDepth 100000 in
set_option maxHeartbeats 1600000 in
theorem trimByte_any (s : ByteArray) (w : World) :
    Calls Tryd.prog 96 #[.string s, .int .u8 48] w fun e w' => TrimEnd s w e w' := by
  go_enter Tryd.func96, Tryd.ntmps96
  go_wp2
  go_loop [0] (fun sv => ∃ (k : Nat) (r : ByteArray), k ≤ s.size ∧ sv = .string r ∧ r.data.toList = s.data.toList.drop k ∧ (∀ j, j < k → bt s j = 48)) (fun sv => szOf sv)
  case atStart => exact ⟨0, s, Nat.zero_le _, rfl, rfl, fun j hj => by omega⟩
  case round =>
    obtain ⟨k, r, hk, rfl, hr, hz⟩ := hrel
    have HRR : Hid (r.data.toList = s.data.toList.drop k) := hr
    have HZ : Hid (∀ j, j < k → bt s j = 48) := hz
    have HRS : Hid (r.size = s.size - k) := by
      have h1 : r.data.toList.length = s.size - k := by rw [hr, List.length_drop, Array.length_toList]; rfl
      rw [Array.length_toList] at h1; exact h1
    clear hr hz
    by_cases hlt : 0 < r.size
    · have hlt' : (0 : Int) < (r.size : Int) := by omega
      have hg := bt_get hlt
      have hbk : bt r 0 = bt s k := by
        unfold bt
        rw [HRR.out, List.getD_eq_getElem?_getD, List.getElem?_drop, Nat.add_zero, ← List.getD_eq_getElem?_getD]
      rw [hbk] at hg
      obtain ⟨c, hc⟩ : ∃ c, c = bt s k := ⟨_, rfl⟩
      rw [← hc] at hg
      have HC : Hid (c = bt s k) := hc
      clear hc hbk
      have hks : k < s.size := by have := HRS.out; omega
      by_cases h48 : c = 48
      · subst h48
        go_wp2
        go_round
        case rel =>
          have hrs := HRS.out
          refine ⟨k + 1, _, by omega, rfl, ?_, fun j hj => ?_⟩
          · rw [extract_list, HRR.out, List.drop_drop, List.take_of_length_le (by rw [List.length_drop, Array.length_toList]; show s.size - (k + 1) ≤ _; omega)]
          · by_cases hjk : j = k
            · rw [hjk]; exact HC.out.symm
            · exact HZ.out j (by omega)
        case measure => simp [szOf]; omega
      · have h48' : ¬ (c : Int) = 48 := by omega
        have HE : Hid (TrimEnd s w (.returned (.string r)) w) := ⟨k, r, rfl, rfl, hk, HRR.out, HZ.out, fun _ => by rw [← HC.out]; exact h48⟩
        go_wp2
        go_ret
        exact HE.out
    · have hlt' : ¬ (0 : Int) < (r.size : Int) := by omega
      have HE : Hid (TrimEnd s w (.returned (.string r)) w) := ⟨k, r, rfl, rfl, hk, HRR.out, HZ.out, fun h => by have := HRS.out; omega⟩
      go_wp2
      go_ret
      exact HE.out

set_option maxRecDepth 100000 in
set_option maxHeartbeats 1600000 in
theorem trimLeft_any (s : ByteArray) (w : World) (h0 : 0 < s.size) :
    Calls Tryd.prog 74 #[.string s, .string ⟨#[48]⟩] w fun e w' => TrimEnd s w e w' := by
  have hne : ¬ s.toList = [] := by
    intro h
    have h1 : s.toList = s.data.toList := ByteArray.toList_eq s
    rw [h1] at h
    have h2 : s.data.toList.length = 0 := by rw [h]; rfl
    rw [Array.length_toList] at h2
    have : s.size = s.data.size := rfl
    omega
  have hie : s.toList.isEmpty = false := by rw [List.isEmpty_eq_false_iff]; exact hne
  have h48 : (({ data := #[48] } : ByteArray)[0]'(by decide)).toNat = 48 := rfl
  go_enter Tryd.func74, Tryd.ntmps74
  go_wp2_with fail
  refine (trimByte_any s w).mono ?_
  rintro e w1 ⟨k, r, rfl, rfl, h1, h2, h3, h4⟩
  have HE : Hid (TrimEnd s w1 (.returned (.string r)) w1) := ⟨k, r, rfl, rfl, h1, h2, h3, h4⟩
  clear h1 h2 h3 h4
  go_wp2
  go_ret
  exact HE.out
end Go.Proofs.YtcbfhakolfcmgaaDoor
