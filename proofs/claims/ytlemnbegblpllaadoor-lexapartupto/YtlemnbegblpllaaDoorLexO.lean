/-
  Proved here: what Name of package lex answers, and what the document's own Name does.
-/
import Derived.Test.YtlemnbegblpllaaDoorLexH
namespace Go.Proofs.YtlemnbegblpllaaDoor
open Go.RowKit

/-- Is a text a name? -/
def isNm (s : ByteArray) : Bool := decide (1 ≤ s.size) && (decide (s.size ≤ 64) && (kd (atB s 0) == 2 && runEnd isW s 0 == s.size))

set_option maxRecDepth 100000 in
set_option maxHeartbeats 1600000 in
theorem letter_any (b : Nat) (w : World) :
    Calls Tryd.prog 30 #[.int .u8 (b : Int)] w fun e w' => e = .returned (.bool (kd b == 2)) ∧ w' = w := by
  by_cases h1 : 65 ≤ b
  · by_cases h2 : b ≤ 90
    · have HE : Hid ((kd b == 2) = true) := by
        show _ = _
        unfold kd
        rw [if_neg (by omega), if_neg (by omega), if_neg (by omega), if_neg (by omega), if_pos (by omega)]
        rfl
      have g1 : (65 : Int) ≤ (b : Int) := by omega
      have g2 : (b : Int) ≤ 90 := by omega
      clear h1 h2
      rw [HE.out]
      go_enter Tryd.func30, Tryd.ntmps30
      go_wp2
      go_ret
      exact ⟨rfl, rfl⟩
    · have g1 : (65 : Int) ≤ (b : Int) := by omega
      have g2 : ¬ (b : Int) ≤ 90 := by omega
      by_cases h3 : 97 ≤ b ∧ b ≤ 122
      · have HE : Hid ((kd b == 2) = true) := by
          show _ = _
          unfold kd
          rw [if_neg (by omega), if_neg (by omega), if_neg (by omega), if_neg (by omega), if_pos (by omega)]
          rfl
        have g3 : (97 : Int) ≤ (b : Int) := by omega
        have g4 : (b : Int) ≤ 122 := by omega
        clear h1 h2 h3
        rw [HE.out]
        go_enter Tryd.func30, Tryd.ntmps30
        go_wp2
        go_ret
        exact ⟨rfl, rfl⟩
      · by_cases h5 : b = 95
        · subst h5
          clear g1 g2 h1 h2 h3
          go_enter Tryd.func30, Tryd.ntmps30
          go_wp2
          go_ret
          exact ⟨rfl, rfl⟩
        · have HE : Hid ((kd b == 2) = false) := by
            show _ = _
            unfold kd
            split
            · rfl
            · split
              · rfl
              · split
                · rfl
                · rw [if_neg (by omega), if_neg (by omega)]
                  rfl
          have x95 : ((b : Int) == 95) = false := nat_beq h5
          rw [HE.out]
          by_cases h6 : 97 ≤ b
          · have g3 : (97 : Int) ≤ (b : Int) := by omega
            have g4 : ¬ (b : Int) ≤ 122 := by omega
            clear h1 h2 h3 h5 h6
            go_enter Tryd.func30, Tryd.ntmps30
            go_wp2
            go_ret
            exact ⟨rfl, rfl⟩
          · have g3 : ¬ (97 : Int) ≤ (b : Int) := by omega
            clear h1 h2 h3 h5 h6
            go_enter Tryd.func30, Tryd.ntmps30
            go_wp2
            go_ret
            exact ⟨rfl, rfl⟩
  · have HE : Hid ((kd b == 2) = false) := by
      show _ = _
      unfold kd
      split
      · rfl
      · split
        · rfl
        · split
          · rfl
          · rw [if_neg (by omega), if_neg (by omega)]
            split <;> rfl
    have g1 : ¬ (65 : Int) ≤ (b : Int) := by omega
    have g3 : ¬ (97 : Int) ≤ (b : Int) := by omega
    have x95 : ((b : Int) == 95) = false := ne_beq (by omega)
    clear h1
    rw [HE.out]
    go_enter Tryd.func30, Tryd.ntmps30
    go_wp2
    go_ret
    exact ⟨rfl, rfl⟩
set_option maxRecDepth 100000 in
set_option maxHeartbeats 1600000 in
theorem digit_any (b : Nat) (w : World) :
    Calls Tryd.prog 45 #[.int .u8 (b : Int)] w fun e w' => e = .returned (.bool (isD b)) ∧ w' = w := by
  by_cases h : 48 ≤ b ∧ b ≤ 57
  · have HE : Hid (isD b = true) := by
      show _ = _
      unfold isD kd
      rw [if_neg (by omega), if_neg (by omega), if_neg (by omega), if_neg (by omega), if_neg (by omega), if_pos h]
      rfl
    have g1 : (48 : Int) ≤ (b : Int) := by omega
    have g2 : (b : Int) ≤ 57 := by omega
    clear h
    rw [HE.out]
    go_enter Tryd.func45, Tryd.ntmps45
    go_wp2
    go_ret
    exact ⟨rfl, rfl⟩
  · have HE : Hid (isD b = false) := by
      show _ = _
      unfold isD kd
      rw [if_neg h]
      repeat' split
      all_goals rfl
    rw [HE.out]
    by_cases h2 : 48 ≤ b
    · have g1 : (48 : Int) ≤ (b : Int) := by omega
      have g2 : ¬ (b : Int) ≤ 57 := by omega
      clear h h2
      go_enter Tryd.func45, Tryd.ntmps45
      go_wp2
      go_ret
      exact ⟨rfl, rfl⟩
    · have g1 : ¬ (48 : Int) ≤ (b : Int) := by omega
      clear h h2
      go_enter Tryd.func45, Tryd.ntmps45
      go_wp2
      go_ret
      exact ⟨rfl, rfl⟩

theorem isW_or (b : Nat) : isW b = ((kd b == 2) || isD b) := rfl
set_option maxRecDepth 100000 in
set_option maxHeartbeats 1600000 in
theorem wordR_any (s : ByteArray) (i : Nat) (w : World) (hs : s.size < 4611686018427387904) (hi : i ≤ s.size) :
    Calls Tryd.prog 31 #[.string s, .int .i64 (i : Int)] w fun e w' => e = .returned (.int .i64 (runEnd isW s i - i : Nat)) ∧ w' = w := by
  obtain ⟨r, hr⟩ : ∃ r, r = runEnd isW s i := ⟨_, rfl⟩
  rw [← hr]
  go_enter Tryd.func31, Tryd.ntmps31
  go_wp2_with fail
  go_loopw [5] (fun t wr => ∃ k : Nat, i + k ≤ s.size ∧ t = .int .i64 k ∧ runEnd isW s (i + k) = r ∧ wr = w) (fun t _ => s.size - (intOf t).toNat)
  case atStart => exact ⟨0, hi, rfl, hr.symm, rfl⟩
  case round =>
    clear hr hi
    obtain ⟨k, hk, rfl, hkr, hw⟩ := hrel
    obtain rfl : w = wr := hw.symm
    have hwr : IntKind.i64.wrap ((i : Int) + (k : Int)) = ((i + k : Nat) : Int) := by rw [IntKind.wrap_i64]; omega
    by_cases hlt : i + k < s.size
    · have hge : (i : Int) + (k : Int) < (s.size : Int) := by omega
      have hb : s[i + k].toNat = atB s (i + k) := by unfold atB; rw [dif_pos hlt]; rfl
      have hle := fun w => letter_any (s[i + k].toNat) w
      have hdi := fun w => digit_any (s[i + k].toNat) w
      have hyes : isW (atB s (i + k)) = true → runEnd isW s (i + k + 1) = r := fun h => by rw [← runEnd_yes hlt h]; exact hkr
      have hno : isW (atB s (i + k)) = false → i + k = r := fun h => by rw [← hkr, runEnd_no (by rw [h]; simp)]
      rw [isW_or] at hyes hno
      rw [← hb] at hyes hno
      clear hb hkr
      generalize (kd s[i + k].toNat == 2) = la at *
      generalize isD s[i + k].toNat = di at *
      go_wp2_with fail
      refine (hle _).mono ?_
      rintro e w1 ⟨rfl, rfl⟩
      go_wp2_with fail
      refine (hdi _).mono ?_
      rintro e w2 ⟨rfl, rfl⟩
      clear hle hdi
      cases hor : (la || di) with
      | true =>
        have HR : Hid (runEnd isW s (i + k + 1) = r) := hyes hor
        have hpk : ((!la) = false) ∨ ((!la) = true ∧ (!di) = false) := by
          cases la <;> cases di <;> simp_all
        clear hyes hno
        rcases hpk with y1 | ⟨y1, y2⟩
        · clear hor
          go_wp2
          go_roundw
          case rel => exact ⟨k + 1, by omega, by go_num, HR.out, by first | trivial | rfl⟩
          case measure => simp [intOf]; omega
        · clear hor
          go_wp2
          go_roundw
          case rel => exact ⟨k + 1, by omega, by go_num, HR.out, by first | trivial | rfl⟩
          case measure => simp [intOf]; omega
      | false =>
        have HR : Hid (i + k = r) := hno hor
        have y1 : (!la) = true := by cases la <;> simp_all
        have y2 : (!di) = true := by cases di <;> simp_all
        clear hyes hno hor
        go_wp2
        go_ret
        exact ⟨by rw [← HR.out, Nat.add_sub_cancel_left]; rfl, by first | trivial | rfl⟩
    · have hge : ¬ (i : Int) + (k : Int) < (s.size : Int) := by omega
      have HR : Hid (i + k = r) := by
        show _ = _
        rw [← hkr, runEnd_no (by omega)]
      clear hkr hlt
      go_wp2
      go_ret
      exact ⟨by rw [← HR.out, Nat.add_sub_cancel_left]; rfl, by first | trivial | rfl⟩

set_option maxRecDepth 100000 in
set_option maxHeartbeats 1600000 in
theorem refName_any (s : ByteArray) (w : World) (hs : s.size < 4611686018427387904) :
    Calls Tryd.prog 18 #[.string s] w fun e w' => e = .returned (.bool (isNm s)) ∧ w' = w := by
  unfold isNm
  by_cases h1 : 1 ≤ s.size
  · have g1 : (1 : Int) ≤ (s.size : Int) := by omega
    rw [decide_eq_true h1, Bool.true_and]
    by_cases h2 : s.size ≤ 64
    · have g2 : (s.size : Int) ≤ 64 := by omega
      have g0 : (0 : Int) < (s.size : Int) := by omega
      rw [decide_eq_true h2, Bool.true_and]
      have hb : s[0].toNat = atB s 0 := by unfold atB; rw [dif_pos (show 0 < s.size by omega)]; rfl
      have hle := fun w => letter_any (s[0].toNat) w
      have hwd := fun w => wordR_any s 0 w hs (by omega)
      rw [← hb, Nat.sub_zero] at *
      generalize (kd s[0].toNat == 2) = la at *
      have hbe : (((runEnd isW s 0 : Nat) : Int) == (s.size : Int)) = (runEnd isW s 0 == s.size) := by
        by_cases h : runEnd isW s 0 = s.size
        · rw [h]; simp
        · rw [nat_beq h, beq_eq_false_iff_ne.2 h]
      generalize (runEnd isW s 0 == s.size) = fo at *
      generalize runEnd isW s 0 = rr at *
      clear hb
      go_enter Tryd.func18, Tryd.ntmps18
      go_wp2_with fail
      refine (hle _).mono ?_
      rintro e w1 ⟨rfl, rfl⟩
      clear hle
      cases la with
      | true =>
        go_wp2_with fail
        refine (hwd _).mono ?_
        rintro e w2 ⟨rfl, rfl⟩
        clear hwd
        go_wp2
        go_ret
        exact ⟨rfl, rfl⟩
      | false =>
        clear hwd
        go_wp2
        go_ret
        exact ⟨rfl, rfl⟩
    · have g2 : ¬ (s.size : Int) ≤ 64 := by omega
      rw [decide_eq_false h2, Bool.false_and]
      clear h1 h2
      go_enter Tryd.func18, Tryd.ntmps18
      go_wp2
      go_ret
      exact ⟨rfl, rfl⟩
  · have g1 : ¬ (1 : Int) ≤ (s.size : Int) := by omega
    rw [decide_eq_false h1, Bool.false_and]
    clear h1
    go_enter Tryd.func18, Tryd.ntmps18
    go_wp2
    go_ret
    exact ⟨rfl, rfl⟩
set_option maxRecDepth 100000 in
set_option maxHeartbeats 1600000 in
theorem lexName_any (s : ByteArray) (w : World) (hs : s.size < 4611686018427387904) :
    Calls Tryd.prog 17 #[.string s] w fun e w' => e = .returned (.bool (isNm s)) ∧ w' = w := by
  unfold isNm
  by_cases h1 : 1 ≤ s.size
  · have g1 : (1 : Int) ≤ (s.size : Int) := by omega
    have gn : ¬ s.toList = [] := fun e => by rw [ByteArray.toList_eq] at e; have h9 : s.data.toList.length = s.size := rfl; rw [e] at h9; rw [← h9] at h1; exact absurd h1 (by decide)
    have gm : s.toList.isEmpty = false := by rw [Bool.eq_false_iff]; exact fun e => gn (List.isEmpty_iff.1 e)
    rw [decide_eq_true h1, Bool.true_and]
    by_cases h2 : s.size ≤ 64
    · have g2 : (s.size : Int) ≤ 64 := by omega
      have g0 : (0 : Int) < (s.size : Int) := by omega
      rw [decide_eq_true h2, Bool.true_and]
      have hb : s[0].toNat = atB s 0 := by unfold atB; rw [dif_pos (show 0 < s.size by omega)]; rfl
      have hle := fun w => kindOf_any (s[0].toNat) w
      have hwd := fun w => wordEnd_any s 0 w hs (by omega)
      rw [← hb]
      obtain ⟨kk, hkk⟩ : ∃ kk, kk = kd s[0].toNat := ⟨_, rfl⟩
      rw [← hkk] at hle ⊢
      clear hkk
      obtain ⟨la, hla⟩ : ∃ la, la = (kk == 2) := ⟨_, rfl⟩
      rw [← hla]
      have hl2 : (kk == 2) = la := hla.symm
      clear hla
      have hbe : (((runEnd isW s 0 : Nat) : Int) == (s.size : Int)) = (runEnd isW s 0 == s.size) := by
        by_cases h : runEnd isW s 0 = s.size
        · rw [h]; simp
        · rw [nat_beq h, beq_eq_false_iff_ne.2 h]
      generalize (runEnd isW s 0 == s.size) = fo at *
      generalize runEnd isW s 0 = rr at *
      clear hb
      go_enter Tryd.func17, Tryd.ntmps17
      go_wp2_with fail
      refine (hle _).mono ?_
      rintro e w1 ⟨rfl, rfl⟩
      clear hle
      cases la with
      | true =>
        go_wp2_with fail
        refine (hwd _).mono ?_
        rintro e w2 ⟨rfl, rfl⟩
        clear hwd
        go_wp2
        go_ret
        exact ⟨rfl, rfl⟩
      | false =>
        clear hwd
        go_wp2
        go_ret
        exact ⟨rfl, rfl⟩
    · have g2 : ¬ (s.size : Int) ≤ 64 := by omega
      rw [decide_eq_false h2, Bool.false_and]
      clear h1 h2
      go_enter Tryd.func17, Tryd.ntmps17
      go_wp2
      go_ret
      exact ⟨rfl, rfl⟩
  · have gn : s = ⟨#[]⟩ := ByteArray.ext (Array.eq_empty_of_size_eq_zero (show s.size = 0 by omega))
    rw [decide_eq_false h1, Bool.false_and]
    clear h1
    subst gn
    go_enter Tryd.func17, Tryd.ntmps17
    go_wp2
    go_ret
    exact ⟨rfl, rfl⟩
end Go.Proofs.YtlemnbegblpllaaDoor
