/-
  Proved here: slices.BinarySearch and slices.EqualFunc at int, over rows that can be read.
-/
import Derived.Test.YtcadljpdokhpmaaSetBI
import Derived.Test.YtcadljpdokhpmaaSetDIAll
namespace Go.Proofs.Ytcadljpdokhpmaa
open Go.Shelf Go.RowKit Go.Lib Go.Sort
/-- whether the thing at place k is the same -/
def fndI (L : List Int) (x : Int) (k : Nat) : Bool := match L[k]? with
  | some y => smI y x
  | none => false
theorem fndI_at {L : List Int} {x y : Int} {k : Nat} (h : L[k]? = some y) : fndI L x k = smI y x := by unfold fndI; rw [h]
theorem fndI_off {L : List Int} {x : Int} {k : Nat} (h : L.length ≤ k) : fndI L x k = false := by unfold fndI; rw [List.getElem?_eq_none h]
set_option maxHeartbeats 4000000 in
set_option maxRecDepth 1000000 in
theorem searchI (v : Value) (L : List Int) (x : Int) (w : World) (hv : RG (Value.int .i64) w v L) (hS : Srt (leOf (ltOf cfI)) L) (hz : L.length ≤ 1152921504606846976) :
    Calls Try.prog 31 #[v, (Value.int .i64) x] w fun e w' => ∃ k : Nat, e = .returned (.tuple #[.int .i64 k, .bool (fndI L x k)]) ∧ Pos (ltOf cfI) L x k ∧ ∃ q, w' = w.drewN q := by
  obtain ⟨ao, cap, rfl, hc, hm, hnil, hcell⟩ := hv
  clear hnil
  unfold maxLen at hm
  obtain ⟨n, hn⟩ : ∃ n, L.length = n := ⟨_, rfl⟩
  rw [hn] at hc hz ⊢
  have HN : Hid (L.length = n) := hn
  have HC : Hid (∀ i x, L[i]? = some x → ∃ g o, ao = some ⟨g, o, none⟩ ∧ w.cell? ⟨g, o + i, none⟩ = some ((Value.int .i64) x)) := hcell
  have HM : Hid (∀ s t y z, s ≤ t → L[s]? = some y → L[t]? = some z → ltOf cfI z x = true → ltOf cfI y x = true) := fun s t y z h1 h2 h3 h4 => srt_mono ordI hS h1 h2 h3 h4
  clear hn hcell hS
  go_enter Try.func31, Try.ntmps31
  go_wp2
  go_loopg [7, 8] n (fun g1 v7 v8 wr => ∃ lo hi : Nat, v7 = .int .i64 lo ∧ v8 = .int .i64 hi ∧ lo ≤ hi ∧ hi ≤ n ∧ hi - lo ≤ g1 ∧ Hid (∀ t y, t < lo → L[t]? = some y → ltOf cfI y x = true) ∧ Hid (∀ t y, hi ≤ t → L[t]? = some y → ltOf cfI y x = false) ∧ ∃ q, wr = w.drewN q)
  case atStart => exact ⟨0, n, rfl, rfl, Nat.zero_le _, Nat.le_refl _, by omega, fun t y h => absurd h (Nat.not_lt_zero _), fun t y h1 h2 => by have := (List.getElem?_eq_some_iff.1 h2).1; rw [HN.out] at this; omega, 0, rfl⟩
  case round =>
    obtain ⟨lo, hi, rfl, rfl, hlh, hin, hg, HL, HH, q, rfl⟩ := hrel
    by_cases hlt : lo < hi
    · have hltz : (lo : Int) < (hi : Int) := by omega
      obtain ⟨h, hh⟩ : ∃ h, h = (lo + hi) / 2 := ⟨_, rfl⟩
      have hh1 : lo ≤ h := by omega
      have hh2 : h < hi := by omega
      have eh : ((lo : Int) + (hi : Int)) / 2 = (h : Int) := by omega
      clear hh
      obtain ⟨y, hy⟩ : ∃ y, L[h]? = some y := ⟨_, List.getElem?_eq_getElem (by rw [HN.out]; omega)⟩
      obtain ⟨g, o, rfl, hc0⟩ := HC.out h y hy
      have HY : Hid (L[h]? = some y) := hy
      have hhn : (h : Int) < (n : Int) := by omega
      clear hy
      cases hlv : ltOf cfI y x with
      | true =>
        go_wp2_with (first | (go_at_call 39; refine (lessI _ _ _).mono ?_; rintro e w' ⟨rfl, rfl⟩) | (go_at_call 40; refine (snanI _ _).mono ?_; rintro e w' ⟨rfl, rfl⟩))
        go_roundg (hi - (h + 1))
        case measure => omega
        case rel => exact ⟨h + 1, hi, by go_num, rfl, by omega, hin, Nat.le_refl _, fun t z h1 h2 => HM.out t h z y (by omega) h2 HY.out hlv, HH, _, rfl⟩
      | false =>
        go_wp2_with (first | (go_at_call 39; refine (lessI _ _ _).mono ?_; rintro e w' ⟨rfl, rfl⟩) | (go_at_call 40; refine (snanI _ _).mono ?_; rintro e w' ⟨rfl, rfl⟩))
        go_roundg (h - lo)
        case measure => omega
        case rel =>
          refine ⟨lo, h, rfl, rfl, hh1, by omega, Nat.le_refl _, HL, fun t z h1 h2 => ?_, _, rfl⟩
          cases ht : ltOf cfI z x with
          | false => rfl
          | true => have := HM.out h t y z h1 HY.out h2 ht; rw [hlv] at this; exact absurd this (by simp)
    · have hltz : ¬ (lo : Int) < (hi : Int) := by omega
      have he : hi = lo := by omega
      subst he
      have HP : Hid (Pos (ltOf cfI) L x hi) := ⟨by rw [HN.out]; exact hin, HL.out, HH.out⟩
      clear HL HH hltz
      by_cases hk : hi < n
      · have hkz : (hi : Int) < (n : Int) := by omega
        obtain ⟨y, hy⟩ : ∃ y, L[hi]? = some y := ⟨_, List.getElem?_eq_getElem (by rw [HN.out]; omega)⟩
        obtain ⟨g, o, rfl, hc0⟩ := HC.out hi y hy
        have HF : Hid (fndI L x hi = smI y x) := fndI_at hy
        clear hy
        by_cases hyx : y = x
        · have HS : Hid (smI y x = true) := by show smI y x = true; unfold smI; rw [cfI_zero]; exact decide_eq_true hyx
          have hb : decide (y = x) = true := decide_eq_true hyx
          have hbb : (y == x) = true := by simpa using hyx
          go_wp2_with (first | (go_at_call 39; refine (lessI _ _ _).mono ?_; rintro e w' ⟨rfl, rfl⟩) | (go_at_call 40; refine (snanI _ _).mono ?_; rintro e w' ⟨rfl, rfl⟩))
          go_ret2
          exact ⟨hi, by rw [HF.out, HS.out]; rfl, HP.out, _, rfl⟩
        · have HS : Hid (smI y x = false) := by show smI y x = false; unfold smI; rw [cfI_zero]; exact decide_eq_false hyx
          have hb : decide (y = x) = false := decide_eq_false hyx
          have hbb : (y == x) = false := by simpa using hyx
          go_wp2_with (first | (go_at_call 39; refine (lessI _ _ _).mono ?_; rintro e w' ⟨rfl, rfl⟩) | (go_at_call 40; refine (snanI _ _).mono ?_; rintro e w' ⟨rfl, rfl⟩))
          go_ret2
          exact ⟨hi, by rw [HF.out, HS.out]; rfl, HP.out, _, rfl⟩
      · have hkz : ¬ (hi : Int) < (n : Int) := by omega
        have HF : Hid (fndI L x hi = false) := fndI_off (by rw [HN.out]; omega)
        go_wp2_with (first | (go_at_call 39; refine (lessI _ _ _).mono ?_; rintro e w' ⟨rfl, rfl⟩) | (go_at_call 40; refine (snanI _ _).mono ?_; rintro e w' ⟨rfl, rfl⟩))
        go_ret2
        exact ⟨hi, by rw [HF.out]; rfl, HP.out, _, rfl⟩
end Go.Proofs.Ytcadljpdokhpmaa
