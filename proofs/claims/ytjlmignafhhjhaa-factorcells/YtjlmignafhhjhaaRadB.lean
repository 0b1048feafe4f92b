/-
  Proved here: package radix's At at the three types.
-/
import Derived.Test.YtjlmignafhhjhaaRadA
namespace Go.Proofs.Ytjlmignafhhjhaa
open Go.RowKit

theorem at_err {ss ds : List Int} (h : cntE ss ≠ 0) : atE ss ds = cntE ss ∧ atN ss ds = 0 := by simp [atE, atN, h]
theorem at_shape {ss ds : List Int} (h : cntE ss = 0) (h2 : ds.length ≠ ss.length) : atE ss ds = 60 ∧ atN ss ds = 0 := by simp [atE, atN, h, h2]
theorem at_bad {ss ds : List Int} (h : cntE ss = 0) (h2 : ds.length = ss.length) (h3 : bad ss ds = true) : atE ss ds = 3 ∧ atN ss ds = 0 := by simp [atE, atN, h, h2, h3]
theorem at_ok {ss ds : List Int} (h : cntE ss = 0) (h2 : ds.length = ss.length) (h3 : bad ss ds = false) : atE ss ds = 0 ∧ atN ss ds = pl ss ds ss.length := by simp [atE, atN, h, h2, h3]
theorem bad_not {ss ds : List Int} (h : ∀ i, i < ss.length → badAt ss ds i = false) : bad ss ds = false := by
  unfold bad
  rw [List.any_eq_false]
  intro i hi
  rw [h i (List.mem_range.1 hi)]
  exact Bool.false_ne_true
theorem badAt_eq (ss ds : List Int) (i : Nat) : badAt ss ds i = (isNeg (ds.getD i 0) || decide (ss.getD i 0 ≤ ds.getD i 0)) := rfl
theorem fits_place (ss ds : List Int) (h3 : bad ss ds = false) (hp : pr ss ≤ 2147483647) (k : Nat) (hk : k < ss.length) :
    0 ≤ pl ss ds k ∧ 0 ≤ pl ss ds k * ss.getD k 0 ∧ pl ss ds k * ss.getD k 0 + ds.getD k 0 ≤ 2147483647 ∧ pl ss ds k * ss.getD k 0 ≤ 2147483647 ∧ pl ss ds k ≤ 2147483647 := by
  have h := bad_no h3
  have h1 := ss_ones h
  have a := pl_bd ss ds h k (by omega)
  have b := pl_bd ss ds h (k + 1) (by omega)
  have c := pr_take_le ss h1 k
  have d := pr_take_le ss h1 (k + 1)
  have e := h k hk
  rw [pl] at b
  have f : 0 ≤ pl ss ds k * ss.getD k 0 := Int.mul_nonneg a.1 (by omega)
  omega

set_option maxRecDepth 100000 in
set_option maxHeartbeats 3200000 in
theorem atI (v u : Value) (ss ds : List Int) (w : World) (hv : RK .i64 w v ss) (hu : RK .i64 w u ds) :
    Calls Try.prog 62 #[v, u] w fun e w' => e = .returned (.tuple #[.int .i64 (atN ss ds), .int .i64 (atE ss ds)]) ∧ ∃ q, w' = w.drewN q := by
  have h1 := countI v ss w hv
  obtain ⟨ao, cap, rfl, hc, hm, hnil, hbd, hcell⟩ := hv
  obtain ⟨ao', cap', rfl, hc', hm', hnil', hbd', hcell'⟩ := hu
  clear hnil hnil'
  unfold maxLen at hm hm'
  have hce := cntE_cases ss
  by_cases hE : cntE ss = 0
  case neg =>
    obtain ⟨e1, e2⟩ := at_err (ds := ds) hE
    rw [e1, e2]
    have hEb : (cntE ss != 0) = true := by simpa using hE
    clear e1 e2 hcell hbd hcell' hbd' hE
    go_enter Try.func62, Try.ntmps62
    go_wp2_with (go_at_call 34; refine h1.mono ?_; rintro e w' ⟨rfl, q, rfl⟩)
    go_ret2
    exact ⟨rfl, q, rfl⟩
  clear hce
  obtain ⟨hneg, hprm, hcn⟩ := cntE_zero hE
  rw [hE] at h1
  by_cases hL : ds.length = ss.length
  case neg =>
    obtain ⟨e1, e2⟩ := at_shape hE hL
    rw [e1, e2]
    have hLb : (((ds.length : Nat) : Int) != ((ss.length : Nat) : Int)) = true := by rw [bne_iff_ne]; omega
    clear e1 e2 hcell hbd hcell' hbd' hE hL hneg hprm hcn
    go_enter Try.func62, Try.ntmps62
    go_wp2_with (go_at_call 34; refine h1.mono ?_; rintro e w' ⟨rfl, q, rfl⟩)
    go_ret2
    exact ⟨rfl, q, rfl⟩
  obtain ⟨n, hn⟩ : ∃ n, ss.length = n := ⟨_, rfl⟩
  have HL : Hid (ds.length = n) := by rw [← hn]; exact hL
  rw [hL, hn] at hc' ⊢
  rw [hn] at hc
  rw [hn] at h1
  have HN : Hid (ss.length = n) := hn
  have hnn : (((n : Nat) : Int) != ((n : Nat) : Int)) = false := by simp
  by_cases hB : bad ss ds = true
  case pos =>
    obtain ⟨e1, e2⟩ := at_bad hE hL hB
    rw [e1, e2]
    have HB : Hid (¬ ∀ i, i < n → badAt ss ds i = false) := fun h => absurd hB (by rw [bad_not (by rw [hn]; exact h)]; exact Bool.false_ne_true)
    clear e1 e2 hE hL hneg hprm hcn hn hB
    go_enter Try.func62, Try.ntmps62
    go_wp2_with (go_at_call 34; refine h1.mono ?_; rintro e w' ⟨rfl, q, rfl⟩)
    go_loopw [8, 26] (fun c t wr => ∃ k : Nat, k ≤ n ∧ t = .int .i64 k ∧ (∃ z, c = .int .i64 z) ∧ (∀ i, i < k → badAt ss ds i = false) ∧ ∃ q, wr = w.drewN q) (fun _ t _ => n - (intOf t).toNat)
    case atStart => exact ⟨0, Nat.zero_le _, rfl, ⟨_, rfl⟩, fun i hi => absurd hi (Nat.not_lt_zero _), _, rfl⟩
    case round =>
      obtain ⟨k, hk, rfl, ⟨z, rfl⟩, hno, q, rfl⟩ := hrel
      by_cases hkn : k < n
      · obtain ⟨b, off, rfl, hc0⟩ := hcell k (by rw [HN.out]; omega)
        obtain ⟨b', off', rfl, hc1⟩ := hcell' k (by rw [HL.out]; omega)
        have hlt : (k : Int) < (n : Int) := by omega
        have hkl : (k : Int) ≤ 9223372036854775807 := by omega
        obtain ⟨hx2, hx3⟩ := hbd k (by rw [HN.out]; exact hkn)
        obtain ⟨hy2, hy3⟩ := hbd' k (by rw [HL.out]; exact hkn)
        rw [max_i64] at hx3 hy3
        rw [min_i64] at hx2 hy2
        have HS : Hid (∀ i, i < k + 1 → i < k ∨ badAt ss ds i = (isNeg (ds.getD k 0) || decide (ss.getD k 0 ≤ ds.getD k 0))) := fun i hi => by
          by_cases h : i < k
          · exact .inl h
          · have : i = k := by omega
            subst this
            exact .inr (badAt_eq ss ds i)
        have HO : Hid (∀ i, i < k → badAt ss ds i = false) := hno
        clear hcell hbd hcell' hbd' hno h1
        generalize ss.getD k 0 = x at *
        generalize ds.getD k 0 = y at *
        have hb0 := below0I y
        have HB0 : Hid _ := hb0
        clear hb0
        by_cases hx : isNeg y = true
        · go_wp2_with (go_at_call 68; refine (HB0.out _).mono ?_; rintro e w' ⟨rfl, rfl⟩)
          go_ret2
          exact ⟨rfl, _, rfl⟩
        · have hx : isNeg y = false := by simpa using hx
          by_cases hxy : x ≤ y
          · go_wp2_with (go_at_call 68; refine (HB0.out _).mono ?_; rintro e w' ⟨rfl, rfl⟩)
            go_ret2
            exact ⟨rfl, _, rfl⟩
          · have hbb : decide (x ≤ y) = false := by simpa using hxy
            go_wp2_with (go_at_call 68; refine (HB0.out _).mono ?_; rintro e w' ⟨rfl, rfl⟩)
            go_roundw
            case rel => exact ⟨k + 1, by omega, by go_num, ⟨_, rfl⟩, fun i hi => by rcases HS.out i hi with h | h; exact HO.out i h; rw [h, hx, hbb]; rfl, _, rfl⟩
            case measure => simp [intOf]; omega
      · have hkn' : k = n := by omega
        rw [hkn'] at hno
        exact absurd hno HB.out
  have hB : bad ss ds = false := by simpa using hB
  obtain ⟨e1, e2⟩ := at_ok hE hL hB
  rw [e1, e2, hn]
  have HF : Hid (∀ k, k < n → _) := fun k hk => fits_place ss ds hB hprm k (by rw [hn]; exact hk)
  have HG : Hid (∀ k, k < n → _) := fun k hk => bad_no hB k (by rw [hn]; exact hk)
  clear e1 e2 hE hL hneg hprm hcn hn hB
  go_enter Try.func62, Try.ntmps62
  go_wp2_with (go_at_call 34; refine h1.mono ?_; rintro e w' ⟨rfl, q, rfl⟩)
  go_loopw [8, 26] (fun c t wr => ∃ k : Nat, k ≤ n ∧ t = .int .i64 k ∧ c = .int .i64 (pl ss ds k) ∧ ∃ q, wr = w.drewN q) (fun _ t _ => n - (intOf t).toNat)
  case atStart => exact ⟨0, Nat.zero_le _, rfl, rfl, _, rfl⟩
  case round =>
    obtain ⟨k, hk, rfl, rfl, q, rfl⟩ := hrel
    by_cases hkn : k < n
    · obtain ⟨b, off, rfl, hc0⟩ := hcell k (by rw [HN.out]; omega)
      obtain ⟨b', off', rfl, hc1⟩ := hcell' k (by rw [HL.out]; omega)
      have hlt : (k : Int) < (n : Int) := by omega
      have hkl : (k : Int) ≤ 9223372036854775807 := by omega
      obtain ⟨hx2, hx3⟩ := hbd k (by rw [HN.out]; exact hkn)
      obtain ⟨hy2, hy3⟩ := hbd' k (by rw [HL.out]; exact hkn)
      rw [max_i64] at hx3 hy3
      rw [min_i64] at hx2 hy2
      obtain ⟨g1, g2⟩ := HG.out k hkn
      obtain ⟨f1, f2, f3, f4, f5⟩ := HF.out k hkn
      have HS : Hid (pl ss ds (k + 1) = pl ss ds k * ss.getD k 0 + ds.getD k 0) := rfl
      clear hcell hbd hcell' hbd' h1 HF HG
      generalize ss.getD k 0 = x at *
      generalize ds.getD k 0 = y at *
      generalize pl ss ds k = p at *
      have hb0 := below0I y
      have HB0 : Hid _ := hb0
      clear hb0
      have hx : isNeg y = false := by unfold isNeg; exact decide_eq_false (by omega)
      have hbb : decide (x ≤ y) = false := decide_eq_false (by omega)
      go_wp2_with (go_at_call 68; refine (HB0.out _).mono ?_; rintro e w' ⟨rfl, rfl⟩)
      go_roundw
      case rel => exact ⟨k + 1, by omega, by go_num, by rw [HS.out], _, rfl⟩
      case measure => simp [intOf]; omega
    · have hge : ¬ (k : Int) < (n : Int) := by omega
      clear hcell hbd hcell' hbd'
      go_wp2
      go_ret2
      have hkn' : k = n := by omega
      rw [hkn']
      exact ⟨rfl, q, rfl⟩

end Go.Proofs.Ytjlmignafhhjhaa
