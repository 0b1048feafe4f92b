/-
  Proved here: lines and columns of places; what LastIndexByte and Count answer of a line's end.
-/
import Derived.Test.YtlemnbegblpllaaDoorLexC
import Derived.Laws.Externs
import Derived.Lib.Bytealg
namespace Go.Proofs.YtlemnbegblpllaaDoor
open Go.RowKit

/-- A place's line, and where it begins. -/
def lineOf (s : ByteArray) : Nat → Nat
  | 0 => 1
  | i + 1 => lineOf s i + (if atB s i = 10 then 1 else 0)
def startOf (s : ByteArray) : Nat → Nat
  | 0 => 0
  | i + 1 => if atB s i = 10 then i + 1 else startOf s i
/-- The last byte of a kind ahead of a place. -/
def lastTo (s : ByteArray) (c : Nat) : Nat → Int
  | 0 => -1
  | i + 1 => if atB s i = c then (i : Int) else lastTo s c i
def countTo (s : ByteArray) (c : Nat) : Nat → Nat
  | 0 => 0
  | i + 1 => countTo s c i + (if atB s i = c then 1 else 0)
theorem atB_extract {s : ByteArray} {i c k : Nat} (h : i + c ≤ s.size) (hk : k < c) : atB (s.extract i (i + c)) k = atB s (i + k) := by
  have hz : (s.extract i (i + c)).size = c := by rw [ByteArray.size_extract]; omega
  unfold atB
  rw [dif_pos (by omega), dif_pos (by omega)]
  show ((s.extract i (i + c))[k]'(by omega)).toNat = (s[i + k]'(by omega)).toNat
  rw [ByteArray.getElem_extract]
theorem line_add {s : ByteArray} {i c : Nat} (h : i + c ≤ s.size) : ∀ k, k ≤ c → lineOf s (i + k) = lineOf s i + countTo (s.extract i (i + c)) 10 k
  | 0, _ => rfl
  | k + 1, hk => by
    show lineOf s (i + k) + (if atB s (i + k) = 10 then 1 else 0) = lineOf s i + (countTo (s.extract i (i + c)) 10 k + (if atB (s.extract i (i + c)) k = 10 then 1 else 0))
    rw [line_add h k (by omega), atB_extract h (by omega)]
    omega
theorem start_add {s : ByteArray} {i c : Nat} (h : i + c ≤ s.size) : ∀ k, k ≤ c → (startOf s (i + k) : Int) = if lastTo (s.extract i (i + c)) 10 k < 0 then (startOf s i : Int) else (i : Int) + lastTo (s.extract i (i + c)) 10 k + 1
  | 0, _ => rfl
  | k + 1, hk => by
    have e1 : startOf s (i + (k + 1)) = if atB s (i + k) = 10 then i + k + 1 else startOf s (i + k) := rfl
    have e2 : lastTo (s.extract i (i + c)) 10 (k + 1) = if atB s (i + k) = 10 then (k : Int) else lastTo (s.extract i (i + c)) 10 k := by rw [← atB_extract h (by omega)]; rfl
    rw [e1, e2]
    by_cases h1 : atB s (i + k) = 10
    · rw [if_pos h1, if_pos h1, if_neg (by omega)]; omega
    · rw [if_neg h1, if_neg h1]; exact start_add h k (by omega)
theorem start_le (s : ByteArray) : ∀ i, startOf s i ≤ i
  | 0 => Nat.le_refl _
  | i + 1 => by
    show (if atB s i = 10 then i + 1 else startOf s i) ≤ i + 1
    have := start_le s i
    split <;> omega
theorem line_le (s : ByteArray) : ∀ i, lineOf s i ≤ i + 1 ∧ 1 ≤ lineOf s i
  | 0 => ⟨Nat.le_refl _, Nat.le_refl _⟩
  | i + 1 => by
    show lineOf s i + (if atB s i = 10 then 1 else 0) ≤ i + 2 ∧ 1 ≤ lineOf s i + (if atB s i = 10 then 1 else 0)
    have := line_le s i
    split <;> omega
theorem last_bd (s : ByteArray) (c : Nat) : ∀ n, -1 ≤ lastTo s c n ∧ lastTo s c n < n
  | 0 => ⟨by show (-1 : Int) ≤ -1; omega, by show (-1 : Int) < ((0 : Nat) : Int); omega⟩
  | n + 1 => by
    show -1 ≤ (if atB s n = c then (n : Int) else lastTo s c n) ∧ (if atB s n = c then (n : Int) else lastTo s c n) < ((n + 1 : Nat) : Int)
    have := last_bd s c n
    split <;> omega

set_option maxRecDepth 100000 in
set_option maxHeartbeats 1600000 in
theorem lastByteString_any (s : ByteArray) (c : Nat) (w : World) (hs : s.size < 4611686018427387904) :
    Calls Tryd.prog 77 #[.string s, .int .u8 (c : Int)] w fun e w' => e = .returned (.int .i64 (lastTo s c s.size)) ∧ w' = w := by
  obtain ⟨r, hr⟩ : ∃ r, r = lastTo s c s.size := ⟨_, rfl⟩
  rw [← hr]
  go_enter Tryd.func77, Tryd.ntmps77
  go_wp2_with fail
  go_loopw [5] (fun t wr => ∃ k : Nat, k ≤ s.size ∧ t = .int .i64 ((k : Int) - 1) ∧ lastTo s c k = r ∧ wr = w) (fun t _ => (intOf t + 1).toNat)
  case atStart => exact ⟨s.size, Nat.le_refl _, by go_num, hr.symm, rfl⟩
  case round =>
    clear hr
    obtain ⟨k, hk, rfl, hkr, hw⟩ := hrel
    obtain rfl : w = wr := hw.symm
    cases k with
    | zero =>
      have HR : Hid ((-1 : Int) = r) := hkr
      clear hkr
      go_wp2
      go_ret
      exact ⟨by rw [← HR.out]; rfl, by first | trivial | rfl⟩
    | succ k =>
      have e0 : ((k + 1 : Nat) : Int) - 1 = (k : Int) := by omega
      rw [e0]
      have hks : k < s.size := by omega
      have hb : s[k].toNat = atB s k := by unfold atB; rw [dif_pos hks]; rfl
      have hge : (0 : Int) ≤ (k : Int) := by omega
      have hst : lastTo s c (k + 1) = if atB s k = c then (k : Int) else lastTo s c k := rfl
      rw [hst] at hkr
      by_cases hc : atB s k = c
      · rw [if_pos hc] at hkr
        have HR : Hid ((k : Int) = r) := hkr
        have hcc : ((s[k].toNat : Int) == (c : Int)) = true := by rw [hb, hc]; simp
        clear hkr hst hb hc e0
        go_wp2
        go_ret
        exact ⟨by rw [← HR.out]; rfl, by first | trivial | rfl⟩
      · rw [if_neg hc] at hkr
        have HR : Hid (lastTo s c k = r) := hkr
        have hcc : ((s[k].toNat : Int) == (c : Int)) = false := by rw [hb]; exact nat_beq hc
        clear hkr hst hb hc e0
        go_wp2
        go_roundw
        case rel => exact ⟨k, by omega, by go_num, HR.out, by first | trivial | rfl⟩
        case measure => simp [intOf]

theorem count_take (s : ByteArray) (c : UInt8) : ∀ k, k ≤ s.size → (s.data.toList.take k).count c = countTo s c.toNat k
  | 0, _ => rfl
  | k + 1, hk => by
    have hl : k < s.data.toList.length := by have : s.data.toList.length = s.size := rfl; omega
    have hb : atB s k = (s.data.toList[k]).toNat := by
      unfold atB
      rw [dif_pos (by omega)]
      rfl
    rw [List.take_succ_eq_append_getElem hl, List.count_append, count_take s c k (by omega)]
    show _ = countTo s c.toNat k + (if atB s k = c.toNat then 1 else 0)
    rw [hb]
    by_cases h : s.data.toList[k] = c
    · rw [if_pos (by rw [h]), h, List.count_singleton_self]
    · rw [if_neg (fun e => h (UInt8.toNat_inj.1 e)), List.count_eq_zero.2 (by simpa using fun e => h e.symm)]
theorem count_ext (s : ByteArray) (w : World) : (callFunc 79 #[.string s, .int .u8 10]).run Tryd.prog w = .ok (.value (.int .i64 (countTo s 10 s.size : Nat))) w := by
  rw [run_callFunc_extern (e := Extern.BytealgCount.count) Tryd.func79 (by kernel_rfl) (by kernel_rfl) (by kernel_rfl) (by kernel_rfl), Lib.run_countString]
  have h := count_take s 10 s.size (Nat.le_refl _)
  rw [List.take_of_length_le (by show s.data.toList.length ≤ s.size; exact Nat.le_refl _)] at h
  rw [show Lib.countByte s.data.toList (Int.toNat 10).toUInt8 = s.data.toList.count 10 from rfl, h]
  rfl

set_option maxRecDepth 100000 in
set_option maxHeartbeats 1600000 in
theorem lastIndexByte_any (s : ByteArray) (w : World) (hs : s.size < 4611686018427387904) :
    Calls Tryd.prog 68 #[.string s, .int .u8 10] w fun e w' => e = .returned (.int .i64 (lastTo s 10 s.size)) ∧ w' = w := by
  go_enter Tryd.func68, Tryd.ntmps68
  go_wp2_with fail
  refine (lastByteString_any s 10 _ hs).mono ?_
  rintro e w1 ⟨rfl, rfl⟩
  go_wp2
  go_ret
  exact ⟨rfl, rfl⟩
set_option maxRecDepth 100000 in
set_option maxHeartbeats 1600000 in
theorem count_any (s : ByteArray) (w : World) :
    Calls Tryd.prog 69 #[.string s, .string ⟨#[10]⟩] w fun e w' => e = .returned (.int .i64 (countTo s 10 s.size : Nat)) ∧ w' = w := by
  have hc := count_ext s
  have h2 : ((({ data := #[10] } : ByteArray)[0]'(by decide)).toNat : Int) = 10 := rfl
  generalize countTo s 10 s.size = n at *
  go_enter Tryd.func69, Tryd.ntmps69
  go_wp2
  go_ret
  exact ⟨rfl, rfl⟩
end Go.Proofs.YtlemnbegblpllaaDoor
