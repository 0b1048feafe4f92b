/-
  Proved here: what digitsAlone answers.
-/
import Derived.Test.YtcbfhakolfcmgaaTrim
import Derived.Test.YtcbfhakolfcmgaaDecMath
namespace Go.Proofs.Ytcbfhakolfcmgaa
open Go.RowKit

/-- A byte of a text. -/
def bt (s : ByteArray) (i : Nat) : Nat := (s.data.toList.getD i 0).toNat
theorem bt_get {s : ByteArray} {i : Nat} (h : i < s.size) : s[i].toNat = bt s i := by
  unfold bt
  rw [List.getD_eq_getElem?_getD, Array.getElem?_toList, Array.getElem?_eq_getElem h]
  rfl
theorem bt_lt (s : ByteArray) (i : Nat) : bt s i < 256 := UInt8.toNat_lt _
/-- The digits of a text. -/
def dgs (s : ByteArray) : List Nat := s.data.toList.map fun b => b.toNat - 48
theorem dgs_len (s : ByteArray) : (dgs s).length = s.size := by unfold dgs; rw [List.length_map]; exact Array.length_toList
theorem dgs_at {s : ByteArray} {i : Nat} (h : i < s.size) : (dgs s).getD i 0 = bt s i - 48 := by
  unfold dgs bt
  rw [List.getD_eq_getElem?_getD, List.getElem?_map, List.getD_eq_getElem?_getD]
  have : i < s.data.toList.length := by simpa using h
  rw [List.getElem?_eq_getElem this]; rfl
/-- All bytes are digits. -/
def DigOk (s : ByteArray) : Prop := ∀ i, i < s.size → 48 ≤ bt s i ∧ bt s i ≤ 57
theorem DigOk.decs {s : ByteArray} (h : DigOk s) : decs (dgs s) := fun x hx => by
  obtain ⟨i, hi, rfl⟩ := List.getElem_of_mem hx
  rw [dgs_len] at hi
  have h1 := dgs_at hi
  rw [List.getD_eq_getElem?_getD, List.getElem?_eq_getElem (by rw [dgs_len]; exact hi)] at h1
  have h2 := h i hi
  simp at h1
  omega
theorem ret_bool {a b : Bool} (h : a = b) : Ending.returned (.bool a) = .returned (.bool b) := by rw [h]
instance (s : ByteArray) : Decidable (DigOk s) := inferInstanceAs (Decidable (∀ i, i < s.size → _))

set_option maxRecDepth 100000 in
set_option maxHeartbeats 1600000 in
theorem digitsAlone_any (s : ByteArray) (w : World) (hs : s.size ≤ 9223372036854775807) :
    Calls Try.prog 15 #[.string s] w fun e w' => e = .returned (.bool (decide (DigOk s ∧ 0 < s.size))) ∧ w' = w := by
  obtain ⟨n, hn⟩ : ∃ n, n = s.size := ⟨_, rfl⟩
  obtain ⟨R, hR⟩ : ∃ R, R = decide (DigOk s ∧ 0 < s.size) := ⟨_, rfl⟩
  rw [← hR]
  have HR : Hid (R = decide (DigOk s ∧ 0 < s.size)) := hR
  clear hR
  go_enter Try.func15, Try.ntmps15
  go_wp2
  go_loop [6] (fun t => ∃ i : Nat, i ≤ s.size ∧ t = .int .i64 i ∧ ∀ j, j < i → 48 ≤ bt s j ∧ bt s j ≤ 57) (fun t => s.size - (intOf t).toNat)
  case atStart => exact ⟨0, Nat.zero_le _, rfl, fun j hj => by omega⟩
  case round =>
    obtain ⟨i, hi, rfl, hd⟩ := hrel
    have HD : Hid (∀ j, j < i → 48 ≤ bt s j ∧ bt s j ≤ 57) := hd
    clear hd
    by_cases hlt : i < s.size
    · have hlt' : (i : Int) < (s.size : Int) := by omega
      have hg := bt_get hlt
      have hb := bt_lt s i
      obtain ⟨c, hc⟩ : ∃ c, c = bt s i := ⟨_, rfl⟩
      rw [← hc] at hg hb
      have HC : Hid (c = bt s i) := hc
      clear hc
      by_cases h1 : c < 48
      · have h1' : (c : Int) < 48 := by omega
        have HF : Hid (R = false) := by
          show _ = _
          rw [HR.out]
          refine decide_eq_false fun h => ?_
          have := h.1 i hlt
          rw [← HC.out] at this; omega
        go_wp2
        go_ret
        exact ⟨(ret_bool HF.out).symm, rfl⟩
      · have h1' : ¬ (c : Int) < 48 := by omega
        by_cases h2 : 57 < c
        · have h2' : (57 : Int) < (c : Int) := by omega
          have HF : Hid (R = false) := by
            show _ = _
            rw [HR.out]
            refine decide_eq_false fun h => ?_
            have := h.1 i hlt
            rw [← HC.out] at this; omega
          go_wp2
          go_ret
          exact ⟨(ret_bool HF.out).symm, rfl⟩
        · have h2' : ¬ (57 : Int) < (c : Int) := by omega
          go_wp2
          go_round
          case rel =>
            refine ⟨i + 1, by omega, by go_num, fun j hj => ?_⟩
            by_cases hji : j = i
            · rw [hji, ← HC.out]; omega
            · exact HD.out j (by omega)
          case measure => simp [intOf]; omega
    · have hlt' : ¬ (i : Int) < (s.size : Int) := by omega
      have hin : i = s.size := by omega
      have HF : Hid (R = decide (0 < s.size)) := by
        show _ = _
        rw [HR.out]
        by_cases h0 : 0 < s.size
        · rw [decide_eq_true h0]
          exact decide_eq_true ⟨fun j hj => HD.out j (by omega), h0⟩
        · rw [decide_eq_false h0]
          exact decide_eq_false fun h => h0 h.2
      go_wp2
      go_ret
      exact ⟨(ret_bool HF.out).symm, rfl⟩
end Go.Proofs.Ytcbfhakolfcmgaa
