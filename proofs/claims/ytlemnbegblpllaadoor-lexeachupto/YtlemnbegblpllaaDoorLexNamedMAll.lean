/-
  Proved here: what the document's own at, blank and digits of layer 6 answer.
  Proved here: a text is a name just if it is told as one word of that kind that has all its bytes.
-/
import Derived.Test.YtlemnbegblpllaaDoorLexO
import Derived.Test.YtlemnbegblpllaaDoorLexLoopAll
namespace Go.Proofs.YtlemnbegblpllaaDoor
open Go.RowKit

set_option maxRecDepth 100000 in
set_option maxHeartbeats 1600000 in
theorem atR_any (s : ByteArray) (i : Nat) (w : World) :
    Calls Tryd.prog 47 #[.string s, .int .i64 (i : Int)] w fun e w' => e = .returned (.int .u8 (atB s i : Nat)) ∧ w' = w := by
  have g0 : ¬ (i : Int) < 0 := by omega
  by_cases h : i < s.size
  · have g1 : ¬ (s.size : Int) ≤ (i : Int) := by omega
    have g2 : (i : Int) < (s.size : Int) := by omega
    have HE : Hid (s[i].toNat = atB s i) := by show _ = _; unfold atB; rw [dif_pos h]; rfl
    go_enter Tryd.func47, Tryd.ntmps47
    go_wp2
    go_ret
    exact ⟨by rw [← HE.out]; rfl, rfl⟩
  · have g1 : (s.size : Int) ≤ (i : Int) := by omega
    rw [atB_out h]
    clear h
    go_enter Tryd.func47, Tryd.ntmps47
    go_wp2
    go_ret
    exact ⟨rfl, rfl⟩
set_option maxRecDepth 100000 in
set_option maxHeartbeats 1600000 in
theorem blankR_any (b : Nat) (w : World) :
    Calls Tryd.prog 64 #[.int .u8 (b : Int)] w fun e w' => e = .returned (.bool (kd b == 1)) ∧ w' = w := by
  by_cases h : b = 32 ∨ b = 9 ∨ b = 10 ∨ b = 13
  · have HE : Hid ((kd b == 1) = true) := by show _ = _; unfold kd; rw [if_pos h]; rfl
    rw [HE.out]
    clear HE
    rcases h with rfl | rfl | rfl | rfl
    all_goals
      go_enter Tryd.func64, Tryd.ntmps64
      go_wp2
      go_ret
      exact ⟨rfl, rfl⟩
  · have HE : Hid ((kd b == 1) = false) := by
      show _ = _
      unfold kd
      rw [if_neg h]
      repeat' split
      all_goals rfl
    have x1 : ((b : Int) == 32) = false := ne_beq (by omega)
    have x2 : ((b : Int) == 9) = false := ne_beq (by omega)
    have x3 : ((b : Int) == 10) = false := ne_beq (by omega)
    have x4 : ((b : Int) == 13) = false := ne_beq (by omega)
    rw [HE.out]
    clear h
    go_enter Tryd.func64, Tryd.ntmps64
    go_wp2
    go_ret
    exact ⟨rfl, rfl⟩
set_option maxRecDepth 100000 in
set_option maxHeartbeats 1600000 in
theorem digitsR_any (s : ByteArray) (i : Nat) (w : World) (hs : s.size < 4611686018427387904) (hi : i ≤ s.size) :
    Calls Tryd.prog 65 #[.string s, .int .i64 (i : Int)] w fun e w' => e = .returned (.int .i64 (runEnd isD s i - i : Nat)) ∧ w' = w := by
  obtain ⟨r, hr⟩ : ∃ r, r = runEnd isD s i := ⟨_, rfl⟩
  rw [← hr]
  go_enter Tryd.func65, Tryd.ntmps65
  go_wp2_with fail
  go_loopw [5] (fun t wr => ∃ k : Nat, i + k ≤ s.size ∧ t = .int .i64 k ∧ runEnd isD s (i + k) = r ∧ wr = w) (fun t _ => s.size - (intOf t).toNat)
  case atStart => exact ⟨0, hi, rfl, hr.symm, rfl⟩
  case round =>
    clear hr hi
    obtain ⟨k, hk, rfl, hkr, hw⟩ := hrel
    obtain rfl : w = wr := hw.symm
    by_cases hlt : i + k < s.size
    · have hge : (i : Int) + (k : Int) < (s.size : Int) := by omega
      have hb : s[i + k].toNat = atB s (i + k) := by unfold atB; rw [dif_pos hlt]; rfl
      have hdi := fun w => digit_any (s[i + k].toNat) w
      have hyes : isD (atB s (i + k)) = true → runEnd isD s (i + k + 1) = r := fun h => by rw [← runEnd_yes hlt h]; exact hkr
      have hno : isD (atB s (i + k)) = false → i + k = r := fun h => by rw [← hkr, runEnd_no (by rw [h]; simp)]
      rw [← hb] at hyes hno
      clear hb hkr
      generalize isD s[i + k].toNat = di at *
      go_wp2_with fail
      refine (hdi _).mono ?_
      rintro e w2 ⟨rfl, rfl⟩
      clear hdi
      cases di with
      | true =>
        have HR : Hid (runEnd isD s (i + k + 1) = r) := hyes rfl
        clear hyes hno
        go_wp2
        go_roundw
        case rel => exact ⟨k + 1, by omega, by go_num, HR.out, by first | trivial | rfl⟩
        case measure => simp [intOf]; omega
      | false =>
        have HR : Hid (i + k = r) := hno rfl
        clear hyes hno
        go_wp2
        go_ret
        exact ⟨by rw [← HR.out, Nat.add_sub_cancel_left]; rfl, by first | trivial | rfl⟩
    · have hge : ¬ (i : Int) + (k : Int) < (s.size : Int) := by omega
      have HR : Hid (i + k = r) := by
        show _ = _
        rw [← hkr, runEnd_no (by omega)]
      clear hkr hlt
      go_wp2
      go_ret
      exact ⟨by rw [← HR.out, Nat.add_sub_cancel_left]; rfl, by first | trivial | rfl⟩
end Go.Proofs.YtlemnbegblpllaaDoor

namespace Go.Proofs.YtlemnbegblpllaaDoor
open Go.RowKit

theorem sk_here {s : ByteArray} {i : Nat} (h1 : kd (atB s i) ≠ 1) (h2 : atB s i ≠ 47) (n : Nat) : skF s (n + 1) i = (true, i) := by
  unfold skF
  rw [if_neg h1, if_neg (fun h => h2 h.1), if_neg (fun h => h2 h.1)]
theorem next_here {s : ByteArray} {i : Nat} (h1 : kd (atB s i) ≠ 1) (h2 : atB s i ≠ 47) : nextOut s i = wordOut s i := by
  unfold nextOut nextTold
  rw [sk_here h1 h2, if_pos rfl]
theorem next_end (s : ByteArray) : nextOut s s.size = .tok 0 ⟨#[]⟩ (lineOf s s.size) (colOf s s.size) s.size := by
  have h0 : atB s s.size = 0 := atB_out (Nat.lt_irrefl _)
  rw [next_here (by rw [h0]; decide) (by rw [h0]; decide)]
  unfold wordOut
  rw [if_pos rfl]
theorem all_end (s : ByteArray) : allF s s.size = [.tok 0 ⟨#[]⟩ (lineOf s s.size) (colOf s s.size) s.size] := by
  have h := next_end s
  rw [allF_last (Nat.le_refl _) (by rw [h]; rfl), h]
theorem extract_all (s : ByteArray) : s.extract 0 s.size = s := by
  apply ByteArray.ext
  rw [ByteArray.data_extract]
  show s.data.extract 0 s.data.size = s.data
  simp
theorem named_yes {s : ByteArray} (h : isNm s = true) : allF s 0 = [.tok 1 s 1 1 s.size, .tok 0 ⟨#[]⟩ (lineOf s s.size) (colOf s s.size) s.size] := by
  unfold isNm at h
  simp only [Bool.and_eq_true, decide_eq_true_eq, beq_iff_eq] at h
  obtain ⟨h1, h2, h3, h4⟩ := h
  have hn : nextOut s 0 = .tok 1 s 1 1 s.size := by
    rw [next_here (by rw [h3]; decide) (fun e => by rw [e] at h3; exact absurd h3 (by decide))]
    unfold wordOut
    rw [if_neg (by omega), if_pos h3]
    unfold nameOut
    rw [h4, if_neg (by omega), extract_all]
    rfl
  rw [allF_goes (Nat.zero_le _) (by rw [hn]; rfl), hn]
  show _ :: allF s s.size = _
  rw [all_end]
theorem named_of {s : ByteArray} {j : Nat} {li co : Nat} (h : nextOut s 0 = .tok 1 s li co j) : isNm s = true := by
  unfold nextOut nextTold at h
  have hp := sk_le s (s.size + 1) 0 (Nat.zero_le _)
  generalize skF s (s.size + 1) 0 = r at *
  split at h
  · unfold wordOut at h
    split at h
    · cases h
    · rename_i hne
      split at h
      · rename_i h2
        unfold nameOut at h
        split at h
        · cases h
        · rename_i h64
          have hle := le_runEnd isW s r.2
          have hsz := runEnd_size isW s (i := r.2) hp.2
          have he := congrArg (fun o => match o with | Out.tok _ ms _ _ _ => ms.size | _ => 0) h
          have he : (s.extract r.2 (runEnd isW s r.2)).size = s.size := he
          rw [ByteArray.size_extract] at he
          have h0 : r.2 = 0 := by omega
          rw [h0] at h2 hle hsz he h64 hne
          unfold isNm
          simp only [Bool.and_eq_true, decide_eq_true_eq, beq_iff_eq]
          exact ⟨by omega, by omega, h2, by omega⟩
      · split at h
        · unfold numOut at h
          split at h <;> cases h
        · split at h
          · unfold quoteOut quoteTold at h
            split at h <;> cases h
          · split at h <;> cases h
  · cases h
/-- Is a list of words one name with all the bytes? -/
theorem named_no {s : ByteArray} (h : isNm s = false) {k : Int} {ms : ByteArray} {li co j : Nat} {r : List Out} (ha : allF s 0 = .tok k ms li co j :: r) : ¬ (k = 1 ∧ ms = s) := by
  rintro ⟨rfl, rfl⟩
  rw [allF_eq (Nat.zero_le _)] at ha
  have := named_of (List.cons.inj ha).1
  rw [this] at h
  cases h
end Go.Proofs.YtlemnbegblpllaaDoor
