/-
  Proved here: the law's in and place.
-/
import Derived.Test.YtmgbhbdcnciccaaDagAb
namespace Go.Proofs.Ytmgbhbdcnciccaa
set_option linter.unusedVariables false
open Go.RowKit
/-- Where a number stands in a list; -1: nowhere. -/
def plF (xs : List Int) (x : Int) : Int := match xs.findIdx? (fun y => decide (y = x)) with | some i => (i : Int) | none => -1
theorem plF_some {xs : List Int} {x : Int} {i : Nat} (h : xs[i]? = some x) (hn : x ∉ xs.take i) : plF xs x = (i : Int) := by
  unfold plF
  have : xs.findIdx? (fun y => decide (y = x)) = some i := by
    rw [List.findIdx?_eq_some_iff_getElem]
    have hi := (List.getElem?_eq_some_iff.1 h).1
    refine ⟨hi, by have := (List.getElem?_eq_some_iff.1 h).2; simp [this], fun j hj => ?_⟩
    have hj2 : j < xs.length := by omega
    simp only [decide_eq_true_eq]
    intro e
    refine hn (List.mem_of_getElem? (i := j) ?_)
    rw [List.getElem?_take_of_lt hj, List.getElem?_eq_getElem hj2, e]
  rw [this]
theorem plF_none {xs : List Int} {x : Int} (hn : x ∉ xs) : plF xs x = -1 := by
  unfold plF
  have : xs.findIdx? (fun y => decide (y = x)) = none := by
    rw [List.findIdx?_eq_none_iff]
    intro y hy
    simp only [decide_eq_false_iff_not]
    intro e; subst e; exact hn hy
  rw [this]
theorem mem_take_succ {xs : List Int} {x y : Int} {k : Nat} (h : xs[k]? = some y) (hx : x ∉ xs.take k) (hne : y ≠ x) : x ∉ xs.take (k + 1) := by
  rw [List.take_add_one, h]
  intro hm
  rcases List.mem_append.1 hm with e | e
  · exact hx e
  · simp at e; exact hne e.symm
set_option maxRecDepth 100000 in
set_option maxHeartbeats 3200000 in
theorem inD (v : Value) (xs : List Int) (x : Int) (w : World) (hv : RG (Value.int .i64) w v xs) :
    Calls Try.prog 22 #[v, .int .i64 x] w fun e w' => e = .returned (.bool (decide (x ∈ xs))) ∧ w' = w := by
  obtain ⟨ao, cap, rfl⟩ := hv.sl
  obtain ⟨n, hn⟩ : ∃ n, xs.length = n := ⟨_, rfl⟩
  have hroom := hv.room
  rw [hn] at hv hroom ⊢
  unfold maxLen at hroom
  have HV : Hid (RG (Value.int .i64) w (.slice ao n cap) xs) := hv
  have HN : Hid (xs.length = n) := hn
  clear hv hn
  go_enter Try.func22, Try.ntmps22
  go_wp2
  go_loopg [5] n (fun g1 v5 wr => ∃ k : Nat, v5 = .int .i64 k ∧ k ≤ n ∧ n - k ≤ g1 ∧ Hid (x ∉ xs.take k) ∧ wr = w)
  case atStart => exact ⟨0, rfl, by omega, by omega, by simp [Hid], rfl⟩
  case round =>
    obtain ⟨k, rfl, hkn, hg1, HX, rfl⟩ := hrel
    by_cases hlt : k < n
    · have hltz : (k : Int) < (n : Int) := by omega
      obtain ⟨y, gx, ox, hy1, rfl, hy2⟩ := HV.out.at hlt
      by_cases hyx : y = x
      · have HM : Hid (x ∈ xs) := by show _ ∈ _; rw [← hyx]; exact List.mem_of_getElem? hy1
        subst hyx
        clear hy1
        go_wp2
        go_ret
        exact ⟨by rw [decide_eq_true HM.out]; rfl, rfl⟩
      · have hyb : (y == x) = false := by simp [hyx]
        have HX2 : Hid (x ∉ xs.take (k + 1)) := mem_take_succ hy1 HX.out hyx
        clear hy1 hyx
        go_wp2
        go_roundg (n - (k + 1))
        case measure => omega
        case rel => exact ⟨k + 1, by first | rfl | go_num, by omega, Nat.le_refl _, HX2, rfl⟩
    · have hltz : ¬ (k : Int) < (n : Int) := by omega
      have HM : Hid (x ∉ xs) := by
        have := HX.out
        rw [List.take_of_length_le (by rw [HN.out]; omega)] at this
        exact this
      go_wp2
      go_ret
      exact ⟨by rw [decide_eq_false HM.out]; rfl, rfl⟩
set_option maxRecDepth 100000 in
set_option maxHeartbeats 3200000 in
theorem placeD (v : Value) (xs : List Int) (x : Int) (w : World) (hv : RG (Value.int .i64) w v xs) :
    Calls Try.prog 21 #[v, .int .i64 x] w fun e w' => e = .returned (.int .i64 (plF xs x)) ∧ w' = w := by
  obtain ⟨ao, cap, rfl⟩ := hv.sl
  obtain ⟨n, hn⟩ : ∃ n, xs.length = n := ⟨_, rfl⟩
  have hroom := hv.room
  rw [hn] at hv hroom ⊢
  unfold maxLen at hroom
  have HV : Hid (RG (Value.int .i64) w (.slice ao n cap) xs) := hv
  have HN : Hid (xs.length = n) := hn
  clear hv hn
  go_enter Try.func21, Try.ntmps21
  go_wp2
  go_loopg [5] n (fun g1 v5 wr => ∃ k : Nat, v5 = .int .i64 k ∧ k ≤ n ∧ n - k ≤ g1 ∧ Hid (x ∉ xs.take k) ∧ wr = w)
  case atStart => exact ⟨0, rfl, by omega, by omega, by simp [Hid], rfl⟩
  case round =>
    obtain ⟨k, rfl, hkn, hg1, HX, rfl⟩ := hrel
    by_cases hlt : k < n
    · have hltz : (k : Int) < (n : Int) := by omega
      obtain ⟨y, gx, ox, hy1, rfl, hy2⟩ := HV.out.at hlt
      by_cases hyx : y = x
      · have HM : Hid (plF xs x = (k : Int)) := plF_some (by rw [← hyx]; exact hy1) HX.out
        subst hyx
        clear hy1
        go_wp2
        go_ret
        exact ⟨by rw [HM.out]; rfl, rfl⟩
      · have hyb : (y == x) = false := by simp [hyx]
        have HX2 : Hid (x ∉ xs.take (k + 1)) := mem_take_succ hy1 HX.out hyx
        clear hy1 hyx
        go_wp2
        go_roundg (n - (k + 1))
        case measure => omega
        case rel => exact ⟨k + 1, by first | rfl | go_num, by omega, Nat.le_refl _, HX2, rfl⟩
    · have hltz : ¬ (k : Int) < (n : Int) := by omega
      have HM : Hid (plF xs x = -1) := by
        have := HX.out
        rw [List.take_of_length_le (by rw [HN.out]; omega)] at this
        exact plF_none this
      go_wp2
      go_ret
      exact ⟨by rw [HM.out]; rfl, rfl⟩
end Go.Proofs.Ytmgbhbdcnciccaa
