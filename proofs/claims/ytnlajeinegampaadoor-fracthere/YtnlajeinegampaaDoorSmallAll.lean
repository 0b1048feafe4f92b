/-
  Proved here: what digitsAlone answers.
  Proved here: what the small makers of numbers answer.
-/
import Derived.Test.YtnlajeinegampaaDoorTrim
import Derived.Test.YtnlajeinegampaaDoorDecMath
import Derived.Laws.Bits64b
namespace Go.Proofs.YtnlajeinegampaaDoor
open Go.RowKit

/-- A byte of a text. -/
def bt (s : ByteArray) (i : Nat) : Nat := (s.data.toList.getD i 0).toNat
theorem bt_get {s : ByteArray} {i : Nat} (h : i < s.size) : s[i].toNat = bt s i := by
  unfold bt
  rw [List.getD_eq_getElem?_getD, Array.getElem?_toList, Array.getElem?_eq_getElem h]
  rfl
theorem bt_lt (s : ByteArray) (i : Nat) : bt s i < 256 := UInt8.toNat_lt _
/-- The digits of a text. -/
def dgs (s : ByteArray) : List Nat := s.data.toList.map fun b => b.toNat - 48
theorem dgs_len (s : ByteArray) : (dgs s).length = s.size := by unfold dgs; rw [List.length_map]; exact Array.length_toList
theorem dgs_at {s : ByteArray} {i : Nat} (h : i < s.size) : (dgs s).getD i 0 = bt s i - 48 := by
  unfold dgs bt
  rw [List.getD_eq_getElem?_getD, List.getElem?_map, List.getD_eq_getElem?_getD]
  have : i < s.data.toList.length := by simpa using h
  rw [List.getElem?_eq_getElem this]; rfl
/-- All bytes are digits. -/
def DigOk (s : ByteArray) : Prop := ∀ i, i < s.size → 48 ≤ bt s i ∧ bt s i ≤ 57
theorem DigOk.decs {s : ByteArray} (h : DigOk s) : decs (dgs s) := fun x hx => by
  obtain ⟨i, hi, rfl⟩ := List.getElem_of_mem hx
  rw [dgs_len] at hi
  have h1 := dgs_at hi
  rw [List.getD_eq_getElem?_getD, List.getElem?_eq_getElem (by rw [dgs_len]; exact hi)] at h1
  have h2 := h i hi
  simp at h1
  omega
theorem ret_bool {a b : Bool} (h : a = b) : Ending.returned (.bool a) = .returned (.bool b) := by rw [h]
instance (s : ByteArray) : Decidable (DigOk s) := inferInstanceAs (Decidable (∀ i, i < s.size → _))

set_option maxRecDepth 100000 in
set_option maxHeartbeats 1600000 in
theorem digitsAlone_any (s : ByteArray) (w : World) (hs : s.size ≤ 9223372036854775807) :
    Calls Tryd.prog 58 #[.string s] w fun e w' => e = .returned (.bool (decide (DigOk s ∧ 0 < s.size))) ∧ w' = w := by
  obtain ⟨n, hn⟩ : ∃ n, n = s.size := ⟨_, rfl⟩
  obtain ⟨R, hR⟩ : ∃ R, R = decide (DigOk s ∧ 0 < s.size) := ⟨_, rfl⟩
  rw [← hR]
  have HR : Hid (R = decide (DigOk s ∧ 0 < s.size)) := hR
  clear hR
  go_enter Tryd.func58, Tryd.ntmps58
  go_wp2
  go_loop [6] (fun t => ∃ i : Nat, i ≤ s.size ∧ t = .int .i64 i ∧ ∀ j, j < i → 48 ≤ bt s j ∧ bt s j ≤ 57) (fun t => s.size - (intOf t).toNat)
  case atStart => exact ⟨0, Nat.zero_le _, rfl, fun j hj => by omega⟩
  case round =>
    obtain ⟨i, hi, rfl, hd⟩ := hrel
    have HD : Hid (∀ j, j < i → 48 ≤ bt s j ∧ bt s j ≤ 57) := hd
    clear hd
    by_cases hlt : i < s.size
    · have hlt' : (i : Int) < (s.size : Int) := by omega
      have hg := bt_get hlt
      have hb := bt_lt s i
      obtain ⟨c, hc⟩ : ∃ c, c = bt s i := ⟨_, rfl⟩
      rw [← hc] at hg hb
      have HC : Hid (c = bt s i) := hc
      clear hc
      by_cases h1 : c < 48
      · have h1' : (c : Int) < 48 := by omega
        have HF : Hid (R = false) := by
          show _ = _
          rw [HR.out]
          refine decide_eq_false fun h => ?_
          have := h.1 i hlt
          rw [← HC.out] at this; omega
        go_wp2
        go_ret
        exact ⟨(ret_bool HF.out).symm, rfl⟩
      · have h1' : ¬ (c : Int) < 48 := by omega
        by_cases h2 : 57 < c
        · have h2' : (57 : Int) < (c : Int) := by omega
          have HF : Hid (R = false) := by
            show _ = _
            rw [HR.out]
            refine decide_eq_false fun h => ?_
            have := h.1 i hlt
            rw [← HC.out] at this; omega
          go_wp2
          go_ret
          exact ⟨(ret_bool HF.out).symm, rfl⟩
        · have h2' : ¬ (57 : Int) < (c : Int) := by omega
          go_wp2
          go_round
          case rel =>
            refine ⟨i + 1, by omega, by go_num, fun j hj => ?_⟩
            by_cases hji : j = i
            · rw [hji, ← HC.out]; omega
            · exact HD.out j (by omega)
          case measure => simp [intOf]; omega
    · have hlt' : ¬ (i : Int) < (s.size : Int) := by omega
      have hin : i = s.size := by omega
      have HF : Hid (R = decide (0 < s.size)) := by
        show _ = _
        rw [HR.out]
        by_cases h0 : 0 < s.size
        · rw [decide_eq_true h0]
          exact decide_eq_true ⟨fun j hj => HD.out j (by omega), h0⟩
        · rw [decide_eq_false h0]
          exact decide_eq_false fun h => h0 h.2
      go_wp2
      go_ret
      exact ⟨(ret_bool HF.out).symm, rfl⟩
end Go.Proofs.YtnlajeinegampaaDoor

namespace Go.Proofs.YtnlajeinegampaaDoor
open Go.RowKit

theorem Tryd.infoU : (Tryd.prog.info? 77).map (fun i => (i.zero, i.size, i.bytes)) = some (some (.int .u32 0), 1, 4) := by kernel_rfl

theorem val_two (u : Nat) : val [u % 4294967296, u / 4294967296] = u := by simp [val]; omega

set_option maxHeartbeats 400000 in
theorem of_any (u : Nat) (w : World) (hu : u < 18446744073709551616) :
    Calls Tryd.prog 33 #[.int .u64 (u : Int)] w fun e w' => ∃ v, e = .returned v ∧ Own w.heap.size 77 w' v (lim u) ∧ Below w.heap.size w w' := by
  have hb : limbs [u % 4294967296, u / 4294967296] := by
    intro x hx
    simp at hx
    omega
  have how := Own.lit (B := w.heap.size) 77 w #[.int .u32 ((u : Int) % 4294967296), .int .u32 ((u : Int) / 4294967296)] [u % 4294967296, u / 4294967296] hb (Nat.le_refl _) (by simp [maxLen]) (by simp [U])
  have hbel : Below w.heap.size w (w.alloc (.cells #[.int .u32 ((u : Int) % 4294967296), .int .u32 ((u : Int) / 4294967296)] 77)) := (Below.refl _ _).alloc (Nat.le_refl _) _
  go_enter Tryd.func33, Tryd.ntmps33
  go_wp2_with fail
  refine (trim_any _ _ _ how.num).mono ?_
  rintro e w' ⟨⟨k, hk, hk2, rfl⟩, rfl⟩
  have how2 := how.cut hk
  rw [hk2, val_two] at how2
  clear how hk2 hb
  go_wp2
  go_ret
  exact ⟨_, rfl, how2, hbel⟩

theorem or_high (x y : Nat) (hx : x < 4294967296) (hy : y < 4294967296) : bits BinOp.or IntKind.u64 (x : Int) ((y : Int) * 4294967296) = ((x + 4294967296 * y : Nat) : Int) := by
  have h := bits_or_u64_nat x (y * 4294967296) (by omega) (by omega)
  rw [show ((y : Int) * 4294967296) = ((y * 4294967296 : Nat) : Int) by omega, h]
  congr 1
  have h2 := Nat.shiftLeft_add_eq_or_of_lt (i := 32) (b := x) (by simpa using hx) y
  rw [Nat.shiftLeft_eq, show (2 ^ 32 : Nat) = 4294967296 from rfl] at h2
  rw [Nat.or_comm, ← h2]; omega

theorem or_halves (V : Nat) (h : V < 18446744073709551616) : bits BinOp.or IntKind.u64 ((V : Int) % 4294967296) ((V : Int) / 4294967296 * 4294967296) = (V : Int) := by
  have hor := or_high (V % 4294967296) (V / 4294967296) (by omega) (by omega)
  rw [Int.natCast_emod, Int.natCast_ediv] at hor
  refine hor.trans ?_
  omega

end Go.Proofs.YtnlajeinegampaaDoor
