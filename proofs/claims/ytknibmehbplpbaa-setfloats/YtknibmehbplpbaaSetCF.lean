/-
  Proved here: slices.BinarySearch and slices.EqualFunc at float64, over rows that can be read.
-/
import Derived.Test.YtknibmehbplpbaaSetBF
import Derived.Test.YtknibmehbplpbaaSetMath2
namespace Go.Proofs.Ytknibmehbplpbaa
open Go.Shelf Go.RowKit Go.Lib Go.Sort
/-- whether the thing at place k is the same -/
def fndF (L : List Nat) (x : Nat) (k : Nat) : Bool := match L[k]? with
  | some y => smF y x
  | none => false
theorem fndF_at {L : List Nat} {x y : Nat} {k : Nat} (h : L[k]? = some y) : fndF L x k = smF y x := by unfold fndF; rw [h]
theorem fndF_off {L : List Nat} {x : Nat} {k : Nat} (h : L.length ≤ k) : fndF L x k = false := by unfold fndF; rw [List.getElem?_eq_none h]
set_option maxHeartbeats 4000000 in
set_option maxRecDepth 1000000 in
theorem searchF (v : Value) (L : List Nat) (x : Nat) (w : World) (hv : RG (Value.float .f64) w v L) (hS : Srt (leOf (ltOf cfF)) L) (hz : L.length ≤ 1152921504606846976) :
    Calls Try.prog 59 #[v, (Value.float .f64) x] w fun e w' => ∃ k : Nat, e = .returned (.tuple #[.int .i64 k, .bool (fndF L x k)]) ∧ Pos (ltOf cfF) L x k ∧ ∃ q, w' = w.drewN q := by
  obtain ⟨ao, cap, rfl, hc, hm, hnil, hcell⟩ := hv
  clear hnil
  unfold maxLen at hm
  obtain ⟨n, hn⟩ : ∃ n, L.length = n := ⟨_, rfl⟩
  rw [hn] at hc hz ⊢
  have HN : Hid (L.length = n) := hn
  have HC : Hid (∀ i x, L[i]? = some x → ∃ g o, ao = some ⟨g, o, none⟩ ∧ w.cell? ⟨g, o + i, none⟩ = some ((Value.float .f64) x)) := hcell
  have HM : Hid (∀ s t y z, s ≤ t → L[s]? = some y → L[t]? = some z → ltOf cfF z x = true → ltOf cfF y x = true) := fun s t y z h1 h2 h3 h4 => srt_mono ordF hS h1 h2 h3 h4
  clear hn hcell hS
  go_enter Try.func59, Try.ntmps59
  go_wp2
  go_loopg [7, 8] n (fun g1 v7 v8 wr => ∃ lo hi : Nat, v7 = .int .i64 lo ∧ v8 = .int .i64 hi ∧ lo ≤ hi ∧ hi ≤ n ∧ hi - lo ≤ g1 ∧ Hid (∀ t y, t < lo → L[t]? = some y → ltOf cfF y x = true) ∧ Hid (∀ t y, hi ≤ t → L[t]? = some y → ltOf cfF y x = false) ∧ ∃ q, wr = w.drewN q)
  case atStart => exact ⟨0, n, rfl, rfl, Nat.zero_le _, Nat.le_refl _, by omega, fun t y h => absurd h (Nat.not_lt_zero _), fun t y h1 h2 => by have := (List.getElem?_eq_some_iff.1 h2).1; rw [HN.out] at this; omega, 0, rfl⟩
  case round =>
    obtain ⟨lo, hi, rfl, rfl, hlh, hin, hg, HL, HH, q, rfl⟩ := hrel
    by_cases hlt : lo < hi
    · have hltz : (lo : Int) < (hi : Int) := by omega
      obtain ⟨h, hh⟩ : ∃ h, h = (lo + hi) / 2 := ⟨_, rfl⟩
      have hh1 : lo ≤ h := by omega
      have hh2 : h < hi := by omega
      have eh : ((lo : Int) + (hi : Int)) / 2 = (h : Int) := by omega
      clear hh
      obtain ⟨y, hy⟩ : ∃ y, L[h]? = some y := ⟨_, List.getElem?_eq_getElem (by rw [HN.out]; omega)⟩
      obtain ⟨g, o, rfl, hc0⟩ := HC.out h y hy
      have HY : Hid (L[h]? = some y) := hy
      have hhn : (h : Int) < (n : Int) := by omega
      clear hy
      cases hlv : ltOf cfF y x with
      | true =>
        go_wp2_with (first | (go_at_call 76; refine (lessF _ _ _).mono ?_; rintro e w' ⟨rfl, rfl⟩) | (go_at_call 77; refine (snanF _ _).mono ?_; rintro e w' ⟨rfl, rfl⟩))
        go_roundg (hi - (h + 1))
        case measure => omega
        case rel => exact ⟨h + 1, hi, by go_num, rfl, by omega, hin, Nat.le_refl _, fun t z h1 h2 => HM.out t h z y (by omega) h2 HY.out hlv, HH, _, rfl⟩
      | false =>
        go_wp2_with (first | (go_at_call 76; refine (lessF _ _ _).mono ?_; rintro e w' ⟨rfl, rfl⟩) | (go_at_call 77; refine (snanF _ _).mono ?_; rintro e w' ⟨rfl, rfl⟩))
        go_roundg (h - lo)
        case measure => omega
        case rel =>
          refine ⟨lo, h, rfl, rfl, hh1, by omega, Nat.le_refl _, HL, fun t z h1 h2 => ?_, _, rfl⟩
          cases ht : ltOf cfF z x with
          | false => rfl
          | true => have := HM.out h t y z h1 HY.out h2 ht; rw [hlv] at this; exact absurd this (by simp)
    · have hltz : ¬ (lo : Int) < (hi : Int) := by omega
      have he : hi = lo := by omega
      subst he
      have HP : Hid (Pos (ltOf cfF) L x hi) := ⟨by rw [HN.out]; exact hin, HL.out, HH.out⟩
      clear HL HH hltz
      by_cases hk : hi < n
      · have hkz : (hi : Int) < (n : Int) := by omega
        obtain ⟨y, hy⟩ : ∃ y, L[hi]? = some y := ⟨_, List.getElem?_eq_getElem (by rw [HN.out]; omega)⟩
        obtain ⟨g, o, rfl, hc0⟩ := HC.out hi y hy
        have HF : Hid (fndF L x hi = smF y x) := fndF_at hy
        clear hy
        have HS : Hid (smF y x = ((FloatKind.f64.format.order y x == some .eq) || ((FloatKind.f64.format.read y).isNaN && (FloatKind.f64.format.read x).isNaN))) := smD _ _
        obtain ⟨r, hr⟩ : ∃ r, r = smF y x := ⟨_, rfl⟩
        rw [← hr] at HS HF
        clear hr
        have C1 := snanF y
        have C2 := snanF x
        generalize (FloatKind.f64.format.read x).isNaN = b2 at *
        generalize (FloatKind.f64.format.read y).isNaN = b1 at *
        cases h1 : (FloatKind.f64.format.order y x == some .eq)
        · cases b1 <;> cases b2
          all_goals
            go_wp2_with (first | (go_at_call 76; refine (lessF _ _ _).mono ?_; rintro e w' ⟨rfl, rfl⟩) | (go_at_call 77; (first | refine (C1 _).mono ?_ | refine (C2 _).mono ?_); rintro e w' ⟨rfl, rfl⟩))
            go_ret2
            exact ⟨hi, by rw [HF.out, HS.out, h1]; rfl, HP.out, _, rfl⟩
        · go_wp2_with (first | (go_at_call 76; refine (lessF _ _ _).mono ?_; rintro e w' ⟨rfl, rfl⟩) | (go_at_call 77; (first | refine (C1 _).mono ?_ | refine (C2 _).mono ?_); rintro e w' ⟨rfl, rfl⟩))
          go_ret2
          exact ⟨hi, by rw [HF.out, HS.out, h1]; rfl, HP.out, _, rfl⟩
      · have hkz : ¬ (hi : Int) < (n : Int) := by omega
        have HF : Hid (fndF L x hi = false) := fndF_off (by rw [HN.out]; omega)
        go_wp2_with (first | (go_at_call 76; refine (lessF _ _ _).mono ?_; rintro e w' ⟨rfl, rfl⟩) | (go_at_call 77; refine (snanF _ _).mono ?_; rintro e w' ⟨rfl, rfl⟩))
        go_ret2
        exact ⟨hi, by rw [HF.out]; rfl, HP.out, _, rfl⟩
end Go.Proofs.Ytknibmehbplpbaa
