/-
  Proved here: what Parse answers.
  Proved here: what strings.TrimLeft answers at the cutset 0.
-/
import Derived.Test.YtdfmmaehmngkhaaDoorDigits
namespace Go.Proofs.YtdfmmaehmngkhaaDoor
open Go.RowKit

def szOf : Value → Nat
  | .string r => r.size
  | _ => 0
/-- What Parse leaves. -/
def ParseEnd (w : World) (s : ByteArray) (e : Ending) (w' : World) : Prop :=
  ∃ u, e = .returned (.tuple #[u, .int .i64 (if DigOk s ∧ 0 < s.size then 0 else 10)]) ∧ Own w.heap.size 68 w' u (if DigOk s ∧ 0 < s.size then lim (bval (dgs s)) else []) ∧ Below w.heap.size w w'

theorem extract_list (r : ByteArray) (a b : Nat) : (r.extract a b).data.toList = (r.data.toList.drop a).take (b - a) := by
  rw [ByteArray.data_extract, Array.toList_extract]
theorem dgs_part {s c : ByteArray} {k m : Nat} (h : c.data.toList = (s.data.toList.drop k).take m) : dgs c = ((dgs s).drop k).take m := by
  unfold dgs; rw [h, List.map_take, List.map_drop]
theorem size_part {s c : ByteArray} {k m : Nat} (h : c.data.toList = (s.data.toList.drop k).take m) : c.size = min m (s.size - k) := by
  have : c.data.toList.length = min m (s.size - k) := by rw [h, List.length_take, List.length_drop, Array.length_toList]; rfl
  rw [Array.length_toList] at this; exact this
theorem bt_part {s c : ByteArray} {k m i : Nat} (h : c.data.toList = (s.data.toList.drop k).take m) (hi : i < m) : bt c i = bt s (k + i) := by
  unfold bt
  rw [h, List.getD_eq_getElem?_getD, List.getElem?_take_of_lt hi, List.getElem?_drop, ← List.getD_eq_getElem?_getD]
theorem DigOk.part {s c : ByteArray} {k m : Nat} (hd : DigOk s) (h : c.data.toList = (s.data.toList.drop k).take m) : DigOk c := fun i hi => by
  have hs := size_part h
  rw [bt_part h (by omega)]
  exact hd _ (by omega)
theorem bval_chunk {s c : ByteArray} {k m : Nat} (h : c.data.toList = (s.data.toList.drop k).take m) : bval ((dgs s).take (k + m)) = bval ((dgs s).take k) * 10 ^ c.size + bval (dgs c) := by
  rw [List.take_add, bval_append, ← dgs_part h, dgs_len]

set_option maxRecDepth 100000 in
set_option maxHeartbeats 3200000 in
theorem parse_any (s : ByteArray) (w : World) (hs : s.size ≤ 1000000) :
    Calls Tryd.prog 49 #[.string s] w fun e w' => ParseEnd w s e w' := by
  go_enter Tryd.func49, Tryd.ntmps49
  go_wp2_with fail
  refine (digitsAlone_any _ _ (by omega)).mono ?_
  rintro e w1 ⟨rfl, rfl⟩
  by_cases hd : DigOk s ∧ 0 < s.size
  · rw [decide_eq_true hd]
    have HD : Hid (DigOk s) := hd.1
    have HDD : Hid (DigOk s ∧ 0 < s.size) := hd
    clear hd
    go_wp2_with fail
    go_loopw [0, 4] (fun sv t wr => ∃ (k : Nat) (r : ByteArray), k ≤ s.size ∧ sv = .string r ∧ r.data.toList = s.data.toList.drop k ∧ Own w1.heap.size 68 wr t (lim (bval ((dgs s).take k))) ∧ Below w1.heap.size w1 wr) (fun sv _ _ => szOf sv)
    case atStart => exact ⟨0, s, Nat.zero_le _, rfl, rfl, Own.of_nil _ _ _, Below.refl _ _⟩
    case round =>
      obtain ⟨k, r, hk, rfl, hr, how, hbel⟩ := hrel
      have HRR : Hid (r.data.toList = s.data.toList.drop k) := hr
      clear hr
      have hrs : r.size = s.size - k := by
        have h1 : r.data.toList.length = s.size - k := by rw [HRR.out, List.length_drop, Array.length_toList]; rfl
        rw [Array.length_toList] at h1; exact h1
      have HRS : Hid (r.size = s.size - k) := hrs
      have hll : (lim (bval ((dgs s).take k))).length ≤ 1000000 := by
        have h2 : (lim (bval ((dgs s).take k))).length ≤ k := by
          apply lim_len_le
          have h1 := dval_lt (decs_rev (decs_take HD.out.decs k))
          rw [List.length_reverse, List.length_take, dgs_len, Nat.min_eq_left hk] at h1
          exact Nat.lt_of_lt_of_le h1 (Nat.pow_le_pow_left (by decide : 10 ≤ 4294967296) k)
        omega
      have hbw : w1.heap.size ≤ wr.heap.size := hbel.size
      clear hrs
      by_cases hlt : 0 < r.size
      · have hlt' : (0 : Int) < (r.size : Int) := by omega
        by_cases h9 : r.size ≤ 9
        · have h9' : (r.size : Int) ≤ 9 := by omega
          have hc : r.data.toList = (s.data.toList.drop k).take r.size := by
            rw [← HRR.out, List.take_of_length_le (by rw [Array.length_toList]; exact Nat.le_refl _)]
          have HBV : Hid (bval ((dgs s).take (k + r.size)) = bval ((dgs s).take k) * 10 ^ r.size + bval (dgs r)) := bval_chunk hc
          have HDR : Hid (DigOk r) := HD.out.part hc
          clear hc
          go_wp2_with fail
          refine (appendDigits_any w1.heap.size _ _ r wr how hbw hll h9 HDR.out).mono ?_
          rintro e w2 ⟨u, rfl, hou, hb2⟩
          rw [← HBV.out] at hou
          have hbel2 := hbel.trans hb2
          clear how hbel hb2 HBV
          go_wp2_with fail
          go_roundw
          case rel =>
            have hrs := HRS.out
            refine ⟨k + r.size, _, by omega, rfl, ?_, hou, hbel2⟩
            rw [List.drop_of_length_le (by rw [Array.length_toList]; show s.size ≤ _; omega)]; rfl
          case measure => simp [szOf]; omega
        · have h9' : ¬ (r.size : Int) ≤ 9 := by omega
          have h9'' : (9 : Int) ≤ (r.size : Int) := by omega
          have h9n : 9 ≤ r.size := by omega
          have hc : (r.extract 0 9).data.toList = (s.data.toList.drop k).take 9 := by rw [extract_list, HRR.out, List.drop_zero]
          have HBV : Hid (bval ((dgs s).take (k + 9)) = bval ((dgs s).take k) * 10 ^ (r.extract 0 9).size + bval (dgs (r.extract 0 9))) := bval_chunk hc
          have HDR : Hid (DigOk (r.extract 0 9)) := HD.out.part hc
          have hsz9 : (r.extract 0 9).size ≤ 9 := by rw [size_part hc]; omega
          clear hc
          go_wp2_with fail
          refine (appendDigits_any w1.heap.size _ _ (r.extract 0 9) wr how hbw hll hsz9 HDR.out).mono ?_
          rintro e w2 ⟨u, rfl, hou, hb2⟩
          rw [← HBV.out] at hou
          have hbel2 := hbel.trans hb2
          clear how hbel hb2 HBV
          go_wp2_with fail
          go_roundw
          case rel =>
            have hrs := HRS.out
            refine ⟨k + 9, _, by omega, rfl, ?_, hou, hbel2⟩
            rw [extract_list, HRR.out, List.drop_drop, List.take_of_length_le (by rw [List.length_drop, Array.length_toList]; show s.size - (k + 9) ≤ _; omega)]
          case measure => simp [szOf]; omega
      · have hlt' : ¬ (0 : Int) < (r.size : Int) := by omega
        have hks : k = s.size := by have := HRS.out; omega
        have HE : Hid (ParseEnd w1 s (.returned (.tuple #[u4, .int .i64 0])) wr) := by
          refine ⟨_, by rw [if_pos HDD.out], ?_, hbel⟩
          rw [if_pos HDD.out]
          rw [hks, List.take_of_length_le (by rw [dgs_len]; exact Nat.le_refl _)] at how
          exact how
        clear how hbel hks
        go_wp2_with fail
        go_ret2
        exact HE.out
  · rw [decide_eq_false hd]
    have HE : Hid (ParseEnd w1 s (.returned (.tuple #[.slice none 0 0, .int .i64 10])) w1) := by
      refine ⟨_, by rw [if_neg hd], ?_, Below.refl _ _⟩
      rw [if_neg hd]
      exact Own.of_nil _ _ _
    go_wp2_with fail
    go_ret2
    exact HE.out
end Go.Proofs.YtdfmmaehmngkhaaDoor

namespace Go.Proofs.YtdfmmaehmngkhaaDoor
open Go.RowKit

/-- What is left of a text without its noughts ahead. -/
def TrimEnd (s : ByteArray) (w : World) (e : Ending) (w' : World) : Prop :=
  ∃ (k : Nat) (r : ByteArray), e = .returned (.string r) ∧ w' = w ∧ k ≤ s.size ∧ r.data.toList = s.data.toList.drop k ∧ (∀ j, j < k → bt s j = 48) ∧ (k < s.size → bt s k ≠ 48)

set_option maxRecDepth 100000 in
set_option maxHeartbeats 1600000 in
theorem trimByte_any (s : ByteArray) (w : World) :
    Calls Tryd.prog 81 #[.string s, .int .u8 48] w fun e w' => TrimEnd s w e w' := by
  go_enter Tryd.func81, Tryd.ntmps81
  go_wp2
  go_loop [0] (fun sv => ∃ (k : Nat) (r : ByteArray), k ≤ s.size ∧ sv = .string r ∧ r.data.toList = s.data.toList.drop k ∧ (∀ j, j < k → bt s j = 48)) (fun sv => szOf sv)
  case atStart => exact ⟨0, s, Nat.zero_le _, rfl, rfl, fun j hj => by omega⟩
  case round =>
    obtain ⟨k, r, hk, rfl, hr, hz⟩ := hrel
    have HRR : Hid (r.data.toList = s.data.toList.drop k) := hr
    have HZ : Hid (∀ j, j < k → bt s j = 48) := hz
    have HRS : Hid (r.size = s.size - k) := by
      have h1 : r.data.toList.length = s.size - k := by rw [hr, List.length_drop, Array.length_toList]; rfl
      rw [Array.length_toList] at h1; exact h1
    clear hr hz
    by_cases hlt : 0 < r.size
    · have hlt' : (0 : Int) < (r.size : Int) := by omega
      have hg := bt_get hlt
      have hbk : bt r 0 = bt s k := by
        unfold bt
        rw [HRR.out, List.getD_eq_getElem?_getD, List.getElem?_drop, Nat.add_zero, ← List.getD_eq_getElem?_getD]
      rw [hbk] at hg
      obtain ⟨c, hc⟩ : ∃ c, c = bt s k := ⟨_, rfl⟩
      rw [← hc] at hg
      have HC : Hid (c = bt s k) := hc
      clear hc hbk
      have hks : k < s.size := by have := HRS.out; omega
      by_cases h48 : c = 48
      · subst h48
        go_wp2
        go_round
        case rel =>
          have hrs := HRS.out
          refine ⟨k + 1, _, by omega, rfl, ?_, fun j hj => ?_⟩
          · rw [extract_list, HRR.out, List.drop_drop, List.take_of_length_le (by rw [List.length_drop, Array.length_toList]; show s.size - (k + 1) ≤ _; omega)]
          · by_cases hjk : j = k
            · rw [hjk]; exact HC.out.symm
            · exact HZ.out j (by omega)
        case measure => simp [szOf]; omega
      · have h48' : ¬ (c : Int) = 48 := by omega
        have HE : Hid (TrimEnd s w (.returned (.string r)) w) := ⟨k, r, rfl, rfl, hk, HRR.out, HZ.out, fun _ => by rw [← HC.out]; exact h48⟩
        go_wp2
        go_ret
        exact HE.out
    · have hlt' : ¬ (0 : Int) < (r.size : Int) := by omega
      have HE : Hid (TrimEnd s w (.returned (.string r)) w) := ⟨k, r, rfl, rfl, hk, HRR.out, HZ.out, fun h => by have := HRS.out; omega⟩
      go_wp2
      go_ret
      exact HE.out

set_option maxRecDepth 100000 in
set_option maxHeartbeats 1600000 in
theorem trimLeft_any (s : ByteArray) (w : World) (h0 : 0 < s.size) :
    Calls Tryd.prog 70 #[.string s, .string ⟨#[48]⟩] w fun e w' => TrimEnd s w e w' := by
  have hne : ¬ s.toList = [] := by
    intro h
    have h1 : s.toList = s.data.toList := ByteArray.toList_eq s
    rw [h1] at h
    have h2 : s.data.toList.length = 0 := by rw [h]; rfl
    rw [Array.length_toList] at h2
    have : s.size = s.data.size := rfl
    omega
  have hie : s.toList.isEmpty = false := by rw [List.isEmpty_eq_false_iff]; exact hne
  have h48 : (({ data := #[48] } : ByteArray)[0]'(by decide)).toNat = 48 := rfl
  go_enter Tryd.func70, Tryd.ntmps70
  go_wp2_with fail
  refine (trimByte_any s w).mono ?_
  rintro e w1 ⟨k, r, rfl, rfl, h1, h2, h3, h4⟩
  have HE : Hid (TrimEnd s w1 (.returned (.string r)) w1) := ⟨k, r, rfl, rfl, h1, h2, h3, h4⟩
  clear h1 h2 h3 h4
  go_wp2
  go_ret
  exact HE.out
end Go.Proofs.YtdfmmaehmngkhaaDoor
