/-
  Proved here: a text is a name just if it is told as one word of that kind that has all its bytes.
-/
import Derived.Test.YtjiolinhkadoaaaDoorLexAll
import Derived.Test.YtjiolinhkadoaaaDoorLexO
namespace Go.Proofs.YtjiolinhkadoaaaDoor
open Go.RowKit

theorem sk_here {s : ByteArray} {i : Nat} (h1 : kd (atB s i) ≠ 1) (h2 : atB s i ≠ 47) (n : Nat) : skF s (n + 1) i = (true, i) := by
  unfold skF
  rw [if_neg h1, if_neg (fun h => h2 h.1), if_neg (fun h => h2 h.1)]
theorem next_here {s : ByteArray} {i : Nat} (h1 : kd (atB s i) ≠ 1) (h2 : atB s i ≠ 47) : nextOut s i = wordOut s i := by
  unfold nextOut nextTold
  rw [sk_here h1 h2, if_pos rfl]
theorem next_end (s : ByteArray) : nextOut s s.size = .tok 0 ⟨#[]⟩ (lineOf s s.size) (colOf s s.size) s.size := by
  have h0 : atB s s.size = 0 := atB_out (Nat.lt_irrefl _)
  rw [next_here (by rw [h0]; decide) (by rw [h0]; decide)]
  unfold wordOut
  rw [if_pos rfl]
theorem all_end (s : ByteArray) : allF s s.size = [.tok 0 ⟨#[]⟩ (lineOf s s.size) (colOf s s.size) s.size] := by
  have h := next_end s
  rw [allF_last (Nat.le_refl _) (by rw [h]; rfl), h]
theorem extract_all (s : ByteArray) : s.extract 0 s.size = s := by
  apply ByteArray.ext
  rw [ByteArray.data_extract]
  show s.data.extract 0 s.data.size = s.data
  simp
theorem named_yes {s : ByteArray} (h : isNm s = true) : allF s 0 = [.tok 1 s 1 1 s.size, .tok 0 ⟨#[]⟩ (lineOf s s.size) (colOf s s.size) s.size] := by
  unfold isNm at h
  simp only [Bool.and_eq_true, decide_eq_true_eq, beq_iff_eq] at h
  obtain ⟨h1, h2, h3, h4⟩ := h
  have hn : nextOut s 0 = .tok 1 s 1 1 s.size := by
    rw [next_here (by rw [h3]; decide) (fun e => by rw [e] at h3; exact absurd h3 (by decide))]
    unfold wordOut
    rw [if_neg (by omega), if_pos h3]
    unfold nameOut
    rw [h4, if_neg (by omega), extract_all]
    rfl
  rw [allF_goes (Nat.zero_le _) (by rw [hn]; rfl), hn]
  show _ :: allF s s.size = _
  rw [all_end]
theorem named_of {s : ByteArray} {j : Nat} {li co : Nat} (h : nextOut s 0 = .tok 1 s li co j) : isNm s = true := by
  unfold nextOut nextTold at h
  have hp := sk_le s (s.size + 1) 0 (Nat.zero_le _)
  generalize skF s (s.size + 1) 0 = r at *
  split at h
  · unfold wordOut at h
    split at h
    · cases h
    · rename_i hne
      split at h
      · rename_i h2
        unfold nameOut at h
        split at h
        · cases h
        · rename_i h64
          have hle := le_runEnd isW s r.2
          have hsz := runEnd_size isW s (i := r.2) hp.2
          have he := congrArg (fun o => match o with | Out.tok _ ms _ _ _ => ms.size | _ => 0) h
          have he : (s.extract r.2 (runEnd isW s r.2)).size = s.size := he
          rw [ByteArray.size_extract] at he
          have h0 : r.2 = 0 := by omega
          rw [h0] at h2 hle hsz he h64 hne
          unfold isNm
          simp only [Bool.and_eq_true, decide_eq_true_eq, beq_iff_eq]
          exact ⟨by omega, by omega, h2, by omega⟩
      · split at h
        · unfold numOut at h
          split at h <;> cases h
        · split at h
          · unfold quoteOut quoteTold at h
            split at h <;> cases h
          · split at h <;> cases h
  · cases h
/-- Is a list of words one name with all the bytes? -/
theorem named_no {s : ByteArray} (h : isNm s = false) {k : Int} {ms : ByteArray} {li co j : Nat} {r : List Out} (ha : allF s 0 = .tok k ms li co j :: r) : ¬ (k = 1 ∧ ms = s) := by
  rintro ⟨rfl, rfl⟩
  rw [allF_eq (Nat.zero_le _)] at ha
  have := named_of (List.cons.inj ha).1
  rw [this] at h
  cases h
end Go.Proofs.YtjiolinhkadoaaaDoor
