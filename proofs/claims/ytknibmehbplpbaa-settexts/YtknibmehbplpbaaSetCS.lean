/-
  Proved here: slices.BinarySearch and slices.EqualFunc at string, over rows that can be read.
-/
import Derived.Test.YtknibmehbplpbaaSetBS
import Derived.Test.YtknibmehbplpbaaSetMath2
namespace Go.Proofs.Ytknibmehbplpbaa
open Go.Shelf Go.RowKit Go.Lib Go.Sort
/-- whether the thing at place k is the same -/
def fndS (L : List ByteArray) (x : ByteArray) (k : Nat) : Bool := match L[k]? with
  | some y => smS y x
  | none => false
theorem fndS_at {L : List ByteArray} {x y : ByteArray} {k : Nat} (h : L[k]? = some y) : fndS L x k = smS y x := by unfold fndS; rw [h]
theorem fndS_off {L : List ByteArray} {x : ByteArray} {k : Nat} (h : L.length ≤ k) : fndS L x k = false := by unfold fndS; rw [List.getElem?_eq_none h]
set_option maxHeartbeats 4000000 in
set_option maxRecDepth 1000000 in
theorem searchS (v : Value) (L : List ByteArray) (x : ByteArray) (w : World) (hv : RG Value.string w v L) (hS : Srt (leOf (ltOf cfS)) L) (hz : L.length ≤ 1152921504606846976) :
    Calls Try.prog 48 #[v, Value.string x] w fun e w' => ∃ k : Nat, e = .returned (.tuple #[.int .i64 k, .bool (fndS L x k)]) ∧ Pos (ltOf cfS) L x k ∧ ∃ q, w' = w.drewN q := by
  obtain ⟨ao, cap, rfl, hc, hm, hnil, hcell⟩ := hv
  clear hnil
  unfold maxLen at hm
  obtain ⟨n, hn⟩ : ∃ n, L.length = n := ⟨_, rfl⟩
  rw [hn] at hc hz ⊢
  have HN : Hid (L.length = n) := hn
  have HC : Hid (∀ i x, L[i]? = some x → ∃ g o, ao = some ⟨g, o, none⟩ ∧ w.cell? ⟨g, o + i, none⟩ = some (Value.string x)) := hcell
  have HM : Hid (∀ s t y z, s ≤ t → L[s]? = some y → L[t]? = some z → ltOf cfS z x = true → ltOf cfS y x = true) := fun s t y z h1 h2 h3 h4 => srt_mono ordS hS h1 h2 h3 h4
  clear hn hcell hS
  go_enter Try.func48, Try.ntmps48
  go_wp2
  go_loopg [7, 8] n (fun g1 v7 v8 wr => ∃ lo hi : Nat, v7 = .int .i64 lo ∧ v8 = .int .i64 hi ∧ lo ≤ hi ∧ hi ≤ n ∧ hi - lo ≤ g1 ∧ Hid (∀ t y, t < lo → L[t]? = some y → ltOf cfS y x = true) ∧ Hid (∀ t y, hi ≤ t → L[t]? = some y → ltOf cfS y x = false) ∧ ∃ q, wr = w.drewN q)
  case atStart => exact ⟨0, n, rfl, rfl, Nat.zero_le _, Nat.le_refl _, by omega, fun t y h => absurd h (Nat.not_lt_zero _), fun t y h1 h2 => by have := (List.getElem?_eq_some_iff.1 h2).1; rw [HN.out] at this; omega, 0, rfl⟩
  case round =>
    obtain ⟨lo, hi, rfl, rfl, hlh, hin, hg, HL, HH, q, rfl⟩ := hrel
    by_cases hlt : lo < hi
    · have hltz : (lo : Int) < (hi : Int) := by omega
      obtain ⟨h, hh⟩ : ∃ h, h = (lo + hi) / 2 := ⟨_, rfl⟩
      have hh1 : lo ≤ h := by omega
      have hh2 : h < hi := by omega
      have eh : ((lo : Int) + (hi : Int)) / 2 = (h : Int) := by omega
      clear hh
      obtain ⟨y, hy⟩ : ∃ y, L[h]? = some y := ⟨_, List.getElem?_eq_getElem (by rw [HN.out]; omega)⟩
      obtain ⟨g, o, rfl, hc0⟩ := HC.out h y hy
      have HY : Hid (L[h]? = some y) := hy
      have hhn : (h : Int) < (n : Int) := by omega
      clear hy
      cases hlv : ltOf cfS y x with
      | true =>
        go_wp2_with (first | (go_at_call 70; refine (lessS _ _ _).mono ?_; rintro e w' ⟨rfl, rfl⟩) | (go_at_call 71; refine (snanS _ _).mono ?_; rintro e w' ⟨rfl, rfl⟩))
        go_roundg (hi - (h + 1))
        case measure => omega
        case rel => exact ⟨h + 1, hi, by go_num, rfl, by omega, hin, Nat.le_refl _, fun t z h1 h2 => HM.out t h z y (by omega) h2 HY.out hlv, HH, _, rfl⟩
      | false =>
        go_wp2_with (first | (go_at_call 70; refine (lessS _ _ _).mono ?_; rintro e w' ⟨rfl, rfl⟩) | (go_at_call 71; refine (snanS _ _).mono ?_; rintro e w' ⟨rfl, rfl⟩))
        go_roundg (h - lo)
        case measure => omega
        case rel =>
          refine ⟨lo, h, rfl, rfl, hh1, by omega, Nat.le_refl _, HL, fun t z h1 h2 => ?_, _, rfl⟩
          cases ht : ltOf cfS z x with
          | false => rfl
          | true => have := HM.out h t y z h1 HY.out h2 ht; rw [hlv] at this; exact absurd this (by simp)
    · have hltz : ¬ (lo : Int) < (hi : Int) := by omega
      have he : hi = lo := by omega
      subst he
      have HP : Hid (Pos (ltOf cfS) L x hi) := ⟨by rw [HN.out]; exact hin, HL.out, HH.out⟩
      clear HL HH hltz
      by_cases hk : hi < n
      · have hkz : (hi : Int) < (n : Int) := by omega
        obtain ⟨y, hy⟩ : ∃ y, L[hi]? = some y := ⟨_, List.getElem?_eq_getElem (by rw [HN.out]; omega)⟩
        obtain ⟨g, o, rfl, hc0⟩ := HC.out hi y hy
        have HF : Hid (fndS L x hi = smS y x) := fndS_at hy
        clear hy
        by_cases hyx : y = x
        · have HS : Hid (smS y x = true) := by show smS y x = true; unfold smS; rw [cfS_zero]; exact decide_eq_true hyx
          have hbb : (y.toList == x.toList) = true := by rw [eqS]; exact decide_eq_true hyx
          clear hyx
          go_wp2_with (first | (go_at_call 70; refine (lessS _ _ _).mono ?_; rintro e w' ⟨rfl, rfl⟩) | (go_at_call 71; refine (snanS _ _).mono ?_; rintro e w' ⟨rfl, rfl⟩))
          go_ret2
          exact ⟨hi, by rw [HF.out, HS.out]; rfl, HP.out, _, rfl⟩
        · have HS : Hid (smS y x = false) := by show smS y x = false; unfold smS; rw [cfS_zero]; exact decide_eq_false hyx
          have hbb : (y.toList == x.toList) = false := by rw [eqS]; exact decide_eq_false hyx
          clear hyx
          go_wp2_with (first | (go_at_call 70; refine (lessS _ _ _).mono ?_; rintro e w' ⟨rfl, rfl⟩) | (go_at_call 71; refine (snanS _ _).mono ?_; rintro e w' ⟨rfl, rfl⟩))
          go_ret2
          exact ⟨hi, by rw [HF.out, HS.out]; rfl, HP.out, _, rfl⟩
      · have hkz : ¬ (hi : Int) < (n : Int) := by omega
        have HF : Hid (fndS L x hi = false) := fndS_off (by rw [HN.out]; omega)
        go_wp2_with (first | (go_at_call 70; refine (lessS _ _ _).mono ?_; rintro e w' ⟨rfl, rfl⟩) | (go_at_call 71; refine (snanS _ _).mono ?_; rintro e w' ⟨rfl, rfl⟩))
        go_ret2
        exact ⟨hi, by rw [HF.out]; rfl, HP.out, _, rfl⟩
set_option maxHeartbeats 4000000 in
set_option maxRecDepth 1000000 in
theorem equalFS (v1 v2 : Value) (L M : List ByteArray) (w : World) (h1 : RG Value.string w v1 L) (h2 : RG Value.string w v2 M) :
    Calls Try.prog 51 #[v1, v2, .func (.func 47) #[] #[]] w fun e w' => e = .returned (.bool (allS smS L M)) ∧ ∃ q, w' = w.drewN q := by
  obtain ⟨ao, cap, rfl, hc, hm, -, hcell⟩ := h1
  obtain ⟨bo, cap2, rfl, hc2, hm2, -, hcell2⟩ := h2
  unfold maxLen at hm hm2
  obtain ⟨n, hn⟩ : ∃ n, L.length = n := ⟨_, rfl⟩
  obtain ⟨m, hmm⟩ : ∃ n, M.length = n := ⟨_, rfl⟩
  rw [hn] at hc ⊢
  rw [hmm] at hc2 ⊢
  have HN : Hid (L.length = n) := hn
  have HNM : Hid (M.length = m) := hmm
  have HC : Hid (∀ i x, L[i]? = some x → ∃ g o, ao = some ⟨g, o, none⟩ ∧ w.cell? ⟨g, o + i, none⟩ = some (Value.string x)) := hcell
  have HC2 : Hid (∀ i x, M[i]? = some x → ∃ g o, bo = some ⟨g, o, none⟩ ∧ w.cell? ⟨g, o + i, none⟩ = some (Value.string x)) := hcell2
  have ent := entSS
  clear hn hmm hcell hcell2
  obtain ⟨bb, hbb⟩ : ∃ b, b = allS smS L M := ⟨_, rfl⟩
  rw [← hbb]
  have HB : Hid (bb = allS smS L M) := hbb
  clear hbb
  by_cases hnm : n = m
  · subst hnm
    go_enter Try.func51, Try.ntmps51
    go_wp2
    go_loopg [17] n (fun g1 v wr => ∃ i : Nat, v = .int .i64 i ∧ i ≤ n ∧ n - i ≤ g1 ∧ Hid (bb = allS smS (L.drop i) (M.drop i)) ∧ ∃ q, wr = w.drewN q)
    case atStart => exact ⟨0, rfl, Nat.zero_le _, by omega, HB, 0, rfl⟩
    case round =>
      clear HB
      obtain ⟨i, rfl, hin, hg1, HB, q, rfl⟩ := hrel
      by_cases hlt : i < n
      · have hltz : (i : Int) < (n : Int) := by omega
        obtain ⟨x, hx⟩ : ∃ x, L[i]? = some x := ⟨_, List.getElem?_eq_getElem (by rw [HN.out]; exact hlt)⟩
        obtain ⟨y, hy⟩ : ∃ x, M[i]? = some x := ⟨_, List.getElem?_eq_getElem (by rw [HNM.out]; exact hlt)⟩
        obtain ⟨g, o, rfl, hc0⟩ := HC.out i x hx
        obtain ⟨g', o', rfl, hc0'⟩ := HC2.out i y hy
        have HB2 : Hid (bb = (smS x y && allS smS (L.drop (i + 1)) (M.drop (i + 1)))) := HB.out.trans (allS_step hx hy)
        clear hx hy HB
        cases hlv : smS x y with
        | true =>
          have HB3 : Hid (bb = allS smS (L.drop (i + 1)) (M.drop (i + 1))) := by have := HB2.out; rw [hlv, Bool.true_and] at this; exact this
          have C := sameS x y
          rw [show decide (cfS x y = 0) = true from hlv] at C
          clear HB2 hlv
          go_wp2_with (go_at_call 47; refine (C _).mono ?_; rintro e w' ⟨rfl, rfl⟩)
          go_roundg (n - (i + 1))
          case measure => omega
          case rel => exact ⟨i + 1, by go_num, by omega, Nat.le_refl _, HB3, _, rfl⟩
        | false =>
          have HB3 : Hid (bb = false) := by have := HB2.out; rw [hlv, Bool.false_and] at this; exact this
          have C := sameS x y
          rw [show decide (cfS x y = 0) = false from hlv] at C
          clear HB2 hlv
          go_wp2_with (go_at_call 47; refine (C _).mono ?_; rintro e w' ⟨rfl, rfl⟩)
          go_ret
          exact ⟨by rw [HB3.out]; rfl, _, rfl⟩
      · have hltz : ¬ (i : Int) < (n : Int) := by omega
        have HB3 : Hid (bb = true) := HB.out.trans (allS_end (by rw [HN.out]; omega) (by rw [HNM.out]; omega))
        clear HB
        go_wp2
        go_ret
        exact ⟨by rw [HB3.out]; rfl, _, rfl⟩
  · have hnz : ((n : Int) != (m : Int)) = true := by simp; omega
    have hnz2 : decide ((n : Int) = (m : Int)) = false := decide_eq_false (by omega)
    have hnz3 : ¬ (n : Int) = (m : Int) := by omega
    have HB3 : Hid (bb = false) := HB.out.trans (allS_len L M (by rw [HN.out, HNM.out]; exact hnm))
    clear HB
    go_enter Try.func51, Try.ntmps51
    go_wp2
    go_ret
    exact ⟨by rw [HB3.out]; rfl, 0, rfl⟩
end Go.Proofs.Ytknibmehbplpbaa
