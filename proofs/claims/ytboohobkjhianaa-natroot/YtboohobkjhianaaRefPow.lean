/-
  Proved here: what the plain way's Pow answers.
-/
import Derived.Test.YtboohobkjhianaaPow
import Derived.Test.YtboohobkjhianaaRefD
namespace Go.Proofs.Ytboohobkjhianaa
open Go.RowKit

/-- What the plain way's power leaves. -/
def RPowEnd (w : World) (p : Nat) (en : Ending) (w' : World) : Prop :=
  (bl p ≤ 262144 → ∃ v, en = .returned (.tuple #[v, .int .i64 0]) ∧ Num w' v (lim p)) ∧ (262144 < bl p → en = .returned (.tuple #[.slice none 0 0, .int .i64 12])) ∧ Below w.heap.size w w'

theorem pow_le_of {V m n : Nat} (hV : 2 ≤ V) (h : m ≤ n) : V ^ m ≤ V ^ n := Nat.pow_le_pow_right (by omega) h
theorem pow_two_half {V m n : Nat} (h : n = m + m) : V ^ n = V ^ m * V ^ m := by rw [h, Nat.pow_add]
theorem pow_two_odd {V m n : Nat} (h : n = m + m + 1) : V ^ n = V ^ m * V ^ m * V := by rw [h, Nat.pow_succ, Nat.pow_add]
theorem big_square {a M : Nat} (h : M < bl a) : M + M < bl (a * a) := by
  rw [bl_gt_iff] at h ⊢
  rw [Nat.pow_add]
  exact Nat.mul_le_mul h h
theorem big_product {a b M : Nat} (ha : a ≠ 0) (hb : b ≠ 0) (h : M + 2 ≤ bl a + bl b) : M < bl (a * b) := by
  obtain ⟨k, e1, h1, _⟩ := bl_bounds ha
  obtain ⟨l, e2, h2, _⟩ := bl_bounds hb
  rw [bl_gt_iff]
  refine Nat.le_trans (Nat.pow_le_pow_right (by decide) (show M ≤ k + l by omega)) ?_
  rw [Nat.pow_add]
  exact Nat.mul_le_mul h1 h2
theorem bl_sq_le {a M : Nat} (h : bl a ≤ M) : bl (a * a) ≤ M + M := by
  rw [bl_le_iff] at h ⊢
  rw [Nat.pow_add]
  exact Nat.mul_lt_mul'' h h
theorem bl_prod_le {a b M N : Nat} (h : bl a ≤ M) (h2 : bl b ≤ N) : bl (a * b) ≤ M + N := by
  rw [bl_le_iff] at h h2 ⊢
  rw [Nat.pow_add]
  exact Nat.mul_lt_mul'' h h2
theorem len_of_bl {a k : Nat} (h : bl a ≤ 32 * k) : (lim a).length ≤ k := by
  refine lim_len_le ?_
  rw [pow_limb]
  exact bl_le_iff.1 h

set_option maxRecDepth 100000 in
set_option maxHeartbeats 3200000 in
theorem power_ref : ∀ (n : Nat) (v : Value) (V : Nat) (w : World), 1 ≤ n → n ≤ 1024 → 2 ≤ V → (lim V).length ≤ 1000 → Num w v (lim V) →
    Calls Try.prog 57 #[v, .int .i64 (n : Int)] w fun e w' => RPowEnd w (V ^ n) e w' := by
  intro n
  induction n using Nat.strongRecOn with
  | ind n ih =>
    intro v V w hn1 hn2 hV hlen h
    have HIH : Hid (∀ m, m < n → ∀ (v : Value) (V : Nat) (w : World), 1 ≤ m → m ≤ 1024 → 2 ≤ V → (lim V).length ≤ 1000 → Num w v (lim V) → Calls Try.prog 57 #[v, .int .i64 (m : Int)] w fun e w' => RPowEnd w (V ^ m) e w') := ih
    clear ih
    have hblV : bl V ≤ 32000 := by have := bl_lim_len (p := V); omega
    by_cases h1 : n = 1
    · have ht : ((n : Int) == 1) = true := by simp [h1]
      have HV : Hid (V ^ n = V) := by show _ = _; rw [h1, Nat.pow_one]
      clear h1
      go_enter Try.func57, Try.ntmps57
      go_wp2_with fail
      refine (bits_ref _ _ _ h (by omega)).mono ?_
      rintro e w1 ⟨rfl, hb⟩
      rw [val_lim]
      obtain ⟨b, hbb⟩ : ∃ b, b = bl V := ⟨_, rfl⟩
      rw [← hbb] at hblV ⊢
      have hng : ¬ (262144 : Int) < (b : Int) := by omega
      have HR : Hid (RPowEnd w (V ^ n) (.returned (.tuple #[v, .int .i64 0])) w1) := by
        refine ⟨fun _ => ⟨v, rfl, by rw [HV.out]; exact h.below (Nat.le_refl _) hb⟩, fun hh => ?_, hb⟩
        rw [HV.out, ← hbb] at hh
        omega
      clear h hbb hb
      go_wp2
      go_ret2
      exact HR.out
    · have ht : ((n : Int) == 1) = false := by simp; omega
      obtain ⟨m, hm⟩ : ∃ m, m = n / 2 := ⟨_, rfl⟩
      obtain ⟨r, hr⟩ : ∃ r, r = n % 2 := ⟨_, rfl⟩
      have e1 : (n : Int) / 2 = (m : Int) := by omega
      have e2 : (n : Int) % 2 = (r : Int) := by omega
      have hm1 : 1 ≤ m := by omega
      have hmn : m < n := by omega
      have hnm : n = m + m + r := by omega
      have HNM : Hid (n = m + m + r) := hnm
      have hr1 : r ≤ 1 := by omega
      clear hm hr hnm h1
      go_enter Try.func57, Try.ntmps57
      go_wp2_with fail
      refine (HIH.out m hmn v V w hm1 (by omega) hV hlen h).mono ?_
      rintro e w1 ⟨hok, hbad, hb1⟩
      by_cases hbig : 262144 < bl (V ^ m)
      · have he := hbad hbig
        subst he
        have HR : Hid (RPowEnd w (V ^ n) (.returned (.tuple #[.slice none 0 0, .int .i64 12])) w1) := by
          have : 262144 < bl (V ^ n) := Nat.lt_of_lt_of_le hbig (bl_mono (pow_le_of hV (by omega)))
          exact ⟨fun hh => by omega, fun _ => rfl, hb1⟩
        clear hok hbad hbig h hb1
        go_wp2
        go_ret2
        exact HR.out
      · obtain ⟨p, he, hp⟩ := hok (by omega)
        subst he
        have hlp : (lim (V ^ m)).length ≤ 8192 := len_of_bl (by omega)
        have hS1 := hb1.size
        have h1 := h.below (Nat.le_refl _) hb1
        clear hok hbad h
        go_wp2_with fail
        refine (bits_ref _ _ _ hp (by omega)).mono ?_
        rintro e w2 ⟨rfl, hb2⟩
        rw [val_lim]
        have hp2 := hp.below (Nat.le_refl _) hb2
        have h2 := h1.below (Nat.le_refl _) hb2
        have hB2 := hb1.trans (hb2.mono hS1)
        have hS2 := hB2.size
        obtain ⟨b, hbb⟩ : ∃ b, b = bl (V ^ m) := ⟨_, rfl⟩
        rw [← hbb] at hbig ⊢
        clear hp h1 hb1 hb2 hS1
        by_cases hb13 : 131073 < b
        · have hgt : (131073 : Int) < (b : Int) := by omega
          have HR : Hid (RPowEnd w (V ^ n) (.returned (.tuple #[.slice none 0 0, .int .i64 12])) w2) := by
            have h5 : 131073 + 131073 < bl (V ^ m * V ^ m) := big_square (by rw [← hbb]; exact hb13)
            rw [← Nat.pow_add] at h5
            have h6 := bl_mono (pow_le_of hV (show m + m ≤ n by omega))
            exact ⟨fun hh => by omega, fun _ => rfl, hB2⟩
          clear hbb hp2 h2 hB2
          go_wp2
          go_ret2
          exact HR.out
        · have hgt : ¬ (131073 : Int) < (b : Int) := by omega
          have hlp2 : (lim (V ^ m)).length ≤ 4097 := len_of_bl (by omega)
          go_wp2_with fail
          refine (mul_ref _ _ _ _ _ hp2 hp2 (by omega) (by omega)).mono ?_
          rintro e w3 ⟨p3, rfl, ho3, hb3⟩
          rw [val_lim] at ho3
          have hB3 := hB2.trans (hb3.mono hS2)
          have hS3 := hB3.size
          have h3 := h2.below (Nat.le_refl _) hb3
          have hp3 := ho3.num
          have hb2' : bl (V ^ m * V ^ m) ≤ 262146 := bl_sq_le (M := 131073) (by rw [← hbb]; omega)
          have hlp3 : (lim (V ^ m * V ^ m)).length ≤ 8194 := prod_len hlp2 hlp2
          have hVm : V ^ m ≠ 0 := by have := Nat.pow_pos (n := m) (show 0 < V by omega); omega
          have hPn : V ^ m * V ^ m ≠ 0 := Nat.mul_ne_zero hVm hVm
          clear hbb hp2 h2 hB2 ho3 hb3 hlp2 hlp hVm
          by_cases hodd : r = 1
          · have hrt : ((r : Int) == 1) = true := by simp [hodd]
            have hVn : V ^ n = V ^ m * V ^ m * V := pow_two_odd (by rw [HNM.out, hodd])
            generalize V ^ m * V ^ m = Q at *
            have HVN : Hid (V ^ n = Q * V) := hVn
            have HO : Hid (r = 1) := hodd
            clear hVn hodd
            go_wp2_with fail
            refine (bits_ref _ _ _ hp3 (by omega)).mono ?_
            rintro e w4 ⟨rfl, hb4⟩
            rw [val_lim]
            have hB4 := hB3.trans (hb4.mono hS3)
            have hS4 := hB4.size
            have h4 := h3.below (Nat.le_refl _) hb4
            have hp4 := hp3.below (Nat.le_refl _) hb4
            obtain ⟨c, hc⟩ : ∃ c, c = bl Q := ⟨_, rfl⟩
            rw [← hc] at hb2' ⊢
            have HC : Hid (c = bl Q) := hc
            clear hB3 hb4 h3 hp3 hS3 hc
            by_cases hc1 : c ≤ 262144
            · have hc1' : (c : Int) ≤ 262144 := by omega
              go_wp2_with fail
              refine (bits_ref _ _ _ hp4 (by omega)).mono ?_
              rintro e w5 ⟨rfl, hb5⟩
              rw [val_lim, ← HC.out]
              have hB5 := hB4.trans (hb5.mono hS4)
              have hS5 := hB5.size
              have h5 := h4.below (Nat.le_refl _) hb5
              have hp5 := hp4.below (Nat.le_refl _) hb5
              clear hB4 hb5 h4 hp4 hS4
              go_wp2_with fail
              refine (bits_ref _ _ _ h5 (by omega)).mono ?_
              rintro e w6 ⟨rfl, hb6⟩
              rw [val_lim]
              have hB6 := hB5.trans (hb6.mono hS5)
              have hS6 := hB6.size
              have h6 := h5.below (Nat.le_refl _) hb6
              have hp6 := hp5.below (Nat.le_refl _) hb6
              obtain ⟨d, hd⟩ : ∃ d, d = bl V := ⟨_, rfl⟩
              rw [← hd] at hblV ⊢
              clear hB5 hb6 h5 hp5 hS5
              by_cases hcd : c + d ≤ 262145
              · have hcd' : (c : Int) + (d : Int) ≤ 262145 := by omega
                go_wp2_with fail
                refine (mul_ref _ _ _ _ _ hp6 h6 (by omega) (by omega)).mono ?_
                rintro e w7 ⟨p7, rfl, ho7, hb7⟩
                rw [val_lim, val_lim, ← HVN.out] at ho7
                have hB7 := hB6.trans (hb7.mono hS6)
                have hS7 := hB7.size
                have hbn : bl (V ^ n) ≤ 262145 := by
                  rw [HVN.out]
                  exact Nat.le_trans (bl_prod_le (M := c) (N := d) (by have := HC.out; omega) (by omega)) hcd
                clear hB6 hb7 h6 hp6 hS6 hd
                go_wp2_with fail
                refine (bits_ref _ _ _ ho7.num (by have := len_of_bl (a := V ^ n) (k := 8193) (by omega); omega)).mono ?_
                rintro e w8 ⟨rfl, hb8⟩
                rw [val_lim]
                have hB8 := hB7.trans (hb8.mono hS7)
                have hp8 := ho7.num.below (Nat.le_refl _) hb8
                obtain ⟨f, hf⟩ : ∃ f, f = bl (V ^ n) := ⟨_, rfl⟩
                rw [← hf] at hbn ⊢
                clear hB7 hb8 ho7 hS7
                by_cases hf1 : 262144 < f
                · have hf1' : (262144 : Int) < (f : Int) := by omega
                  have HR : Hid (RPowEnd w (V ^ n) (.returned (.tuple #[.slice none 0 0, .int .i64 12])) w8) := ⟨fun hh => by omega, fun _ => rfl, hB8⟩
                  clear hf hB8 hp8
                  go_wp2
                  go_ret2
                  exact HR.out
                · have hf1' : ¬ (262144 : Int) < (f : Int) := by omega
                  have HR : Hid (RPowEnd w (V ^ n) (.returned (.tuple #[p7, .int .i64 0])) w8) := ⟨fun _ => ⟨_, rfl, hp8⟩, fun hh => by omega, hB8⟩
                  clear hf hB8 hp8
                  go_wp2
                  go_ret2
                  exact HR.out
              · have hcd' : ¬ (c : Int) + (d : Int) ≤ 262145 := by omega
                have HR : Hid (RPowEnd w (V ^ n) (.returned (.tuple #[.slice none 0 0, .int .i64 12])) w6) := by
                  have : 262144 < bl (V ^ n) := by rw [HVN.out]; exact big_product hPn (by omega) (by have := HC.out; omega)
                  exact ⟨fun hh => by omega, fun _ => rfl, hB6⟩
                clear hB6 h6 hp6 hd
                go_wp2
                go_ret2
                exact HR.out
            · have hc1' : ¬ (c : Int) ≤ 262144 := by omega
              have HR : Hid (RPowEnd w (V ^ n) (.returned (.tuple #[.slice none 0 0, .int .i64 12])) w4) := by
                have : 262144 < bl (V ^ n) := by
                  refine Nat.lt_of_lt_of_le (show 262144 < bl Q by have := HC.out; omega) (bl_mono ?_)
                  rw [HVN.out]
                  exact Nat.le_mul_of_pos_right _ (by omega)
                exact ⟨fun hh => by omega, fun _ => rfl, hB4⟩
              clear hB4 h4 hp4
              go_wp2
              go_ret2
              exact HR.out
          · have hrt : ((r : Int) == 1) = false := by simp; omega
            have hVn : V ^ n = V ^ m * V ^ m := pow_two_half (by rw [HNM.out]; omega)
            generalize V ^ m * V ^ m = Q at *
            have HVN : Hid (V ^ n = Q) := hVn
            clear hVn hodd
            go_wp2_with fail
            refine (bits_ref _ _ _ hp3 (by omega)).mono ?_
            rintro e w8 ⟨rfl, hb8⟩
            rw [val_lim]
            have hB8 := hB3.trans (hb8.mono hS3)
            have hp8 := hp3.below (Nat.le_refl _) hb8
            rw [← HVN.out] at hb2' hp8 ⊢
            obtain ⟨f, hf⟩ : ∃ f, f = bl (V ^ n) := ⟨_, rfl⟩
            rw [← hf] at hb2' ⊢
            clear hB3 hb8 h3 hp3 hS3
            by_cases hf1 : 262144 < f
            · have hf1' : (262144 : Int) < (f : Int) := by omega
              have HR : Hid (RPowEnd w (V ^ n) (.returned (.tuple #[.slice none 0 0, .int .i64 12])) w8) := ⟨fun hh => by omega, fun _ => rfl, hB8⟩
              clear hf hB8 hp8
              go_wp2
              go_ret2
              exact HR.out
            · have hf1' : ¬ (262144 : Int) < (f : Int) := by omega
              have HR : Hid (RPowEnd w (V ^ n) (.returned (.tuple #[p3, .int .i64 0])) w8) := ⟨fun _ => ⟨_, rfl, hp8⟩, fun hh => by omega, hB8⟩
              clear hf hB8 hp8
              go_wp2
              go_ret2
              exact HR.out

set_option maxRecDepth 100000 in
theorem pow_bad (v : Value) (n : Int) (w : World) (hn : n < 0 ∨ 1024 < n) :
    Calls Try.prog 32 #[v, .int .i64 n] w fun e w' => e = .returned (.tuple #[.slice none 0 0, .int .i64 3]) ∧ w' = w := by
  rcases hn with hn | hn
  · have d1 : decide (n < 0) = true := decide_eq_true hn
    go_enter Try.func32, Try.ntmps32
    go_wp2
    go_ret2
    exact ⟨rfl, rfl⟩
  · have h1 : ¬ n < 0 := by omega
    have d1 : decide (n < 0) = false := decide_eq_false h1
    go_enter Try.func32, Try.ntmps32
    go_wp2
    go_ret2
    exact ⟨rfl, rfl⟩
set_option maxRecDepth 100000 in
theorem pow_ref_bad (v : Value) (n : Int) (w : World) (hn : n < 0 ∨ 1024 < n) :
    Calls Try.prog 33 #[v, .int .i64 n] w fun e w' => e = .returned (.tuple #[.slice none 0 0, .int .i64 3]) ∧ w' = w := by
  rcases hn with hn | hn
  · have d1 : decide (n < 0) = true := decide_eq_true hn
    go_enter Try.func33, Try.ntmps33
    go_wp2
    go_ret2
    exact ⟨rfl, rfl⟩
  · have h1 : ¬ n < 0 := by omega
    have d1 : decide (n < 0) = false := decide_eq_false h1
    go_enter Try.func33, Try.ntmps33
    go_wp2
    go_ret2
    exact ⟨rfl, rfl⟩

theorem small_pow {V n : Nat} (h : bl V < 2) (hn : n ≠ 0) : V ^ n = V := by
  have : V < 2 ^ 1 := bl_le_iff.1 (by omega)
  have h2 : V = 0 ∨ V = 1 := by omega
  rcases h2 with rfl | rfl
  · exact Nat.zero_pow (by omega)
  · exact Nat.one_pow n
theorem two_le_of_bl {V : Nat} (h : ¬ bl V < 2) : 2 ≤ V := by
  have := bl_gt_iff.1 (show 1 < bl V by omega)
  omega

set_option maxRecDepth 100000 in
set_option maxHeartbeats 1600000 in
theorem pow_ref (v : Value) (xs : List Nat) (n : Nat) (w : World) (h : Num w v xs) (hlen : xs.length ≤ 1000) (hn : n ≤ 1024) :
    Calls Try.prog 33 #[v, .int .i64 (n : Int)] w fun e w' => RPowEnd w (val xs ^ n) e w' := by
  have h1 : ¬ (n : Int) < 0 := by omega
  have h2 : ¬ 1024 < (n : Int) := by omega
  have hls := lim_short h
  go_enter Try.func33, Try.ntmps33
  go_wp2_with fail
  refine (norm_ref _ _ _ h (by omega)).mono ?_
  rintro e w1 ⟨x, rfl, ho, hb⟩
  have hS := hb.size
  clear h
  generalize hV : val xs = V at *
  have HV : Hid (val xs = V) := hV
  clear hV
  by_cases hn0 : n = 0
  · have ht : ((n : Int) == 0) = true := by simp [hn0]
    have HR : Hid (RPowEnd w (V ^ n) (.returned (.tuple #[.slice (some ⟨w1.heap.size, 0, none⟩) 1 1, .int .i64 0])) (w1.alloc (.cells #[.int .u32 1] 34))) := by
      rw [hn0, Nat.pow_zero]
      refine ⟨fun _ => ⟨_, rfl, ?_⟩, fun hh => by have : bl 1 = 1 := rfl; omega, hb.alloc hS _⟩
      exact (Own.lit (B := 0) 34 w1 #[.int .u32 1] [1] (by intro x hx; simp at hx; omega) (Nat.zero_le _) (by simp [maxLen]) (by simp [U])).num
    clear hn0 ho hb
    go_wp2
    go_ret2
    rw [HV.out]; exact HR.out
  · have ht : ((n : Int) == 0) = false := by simp; omega
    go_wp2_with fail
    refine (bits_ref _ _ _ ho.num (by omega)).mono ?_
    rintro e w2 ⟨rfl, hb2⟩
    rw [val_lim]
    have hB2 := hb.trans (hb2.mono hS)
    have hS2 := hB2.size
    have hx2 := ho.num.below (Nat.le_refl _) hb2
    obtain ⟨b, hbb⟩ : ∃ b, b = bl V := ⟨_, rfl⟩
    rw [← hbb]
    by_cases hb1 : b < 2
    · have hb1' : (b : Int) < 2 := by omega
      have HR : Hid (RPowEnd w (V ^ n) (.returned (.tuple #[x, .int .i64 0])) w2) := by
        rw [small_pow (by rw [← hbb]; exact hb1) hn0]
        exact ⟨fun _ => ⟨x, rfl, hx2⟩, fun hh => by omega, hB2⟩
      clear ho hb hb2 hB2 hx2 hbb
      go_wp2
      go_ret2
      rw [HV.out]; exact HR.out
    · have hb1' : ¬ (b : Int) < 2 := by omega
      have hV2 : 2 ≤ V := two_le_of_bl (by rw [← hbb]; exact hb1)
      clear ho hb hb2 hbb
      go_wp2_with fail
      refine (power_ref n x V w2 (by omega) hn hV2 (by omega) hx2).mono ?_
      rintro e w3 ⟨hok, hbad, hb3⟩
      by_cases hbig : 262144 < bl (V ^ n)
      · have he := hbad hbig
        subst he
        have HR : Hid (RPowEnd w (V ^ n) (.returned (.tuple #[.slice none 0 0, .int .i64 12])) w3) := ⟨fun hh => by omega, fun _ => rfl, hB2.trans (hb3.mono hS2)⟩
        clear hok hbad hb3 hB2 hx2 hbig
        go_wp2
        go_ret2
        rw [HV.out]; exact HR.out
      · obtain ⟨p, he, hp⟩ := hok (by omega)
        subst he
        have HR : Hid (RPowEnd w (V ^ n) (.returned (.tuple #[p, .int .i64 0])) w3) := ⟨fun _ => ⟨p, rfl, hp⟩, fun hh => by omega, hB2.trans (hb3.mono hS2)⟩
        clear hok hbad hb3 hB2 hx2 hbig hp
        go_wp2
        go_ret2
        rw [HV.out]; exact HR.out
end Go.Proofs.Ytboohobkjhianaa
