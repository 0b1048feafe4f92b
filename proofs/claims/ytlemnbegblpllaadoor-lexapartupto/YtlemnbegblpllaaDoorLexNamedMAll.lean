/-
  Proved here: what Each of package lex answers.
  Proved here: all that is told of a text, as one list that goes on from word to word.
  Proved here: a text is a name just if it is told as one word of that kind that has all its bytes.
-/
import Derived.Test.YtlemnbegblpllaaDoorLexT
import Derived.Test.YtlemnbegblpllaaDoorLexO
namespace Go.Proofs.YtlemnbegblpllaaDoor
open Go.RowKit Go.Shelf

set_option maxRecDepth 100000 in
set_option maxHeartbeats 1600000 in
theorem each_any (s : ByteArray) (w : World) :
    Calls Tryd.prog 15 #[.string s] w fun e w' => e = .returned (.func (.func 24) #[] #[.pointer (some ⟨w.heap.size, 0, none⟩)]) ∧ w' = w.alloc (.cells #[.string s] 9) := by
  go_enter Tryd.func15, Tryd.ntmps15
  go_wp2
  go_ret
  exact ⟨rfl, rfl⟩

/-- What is told, as Scan collects it: the words, where no fault is met. -/
def scanF (s : ByteArray) : Nat → Nat → List Out × Option Out
  | 0, _ => ([], none)
  | n + 1, i => match nextOut s i with
    | .flt c li co wd => ([], some (.flt c li co wd))
    | .tok k ms li co j => if k = 0 then ([.tok k ms li co j], none) else (.tok k ms li co j :: (scanF s n j).1, (scanF s n j).2)
/-- A word's four cells. -/
def tokCells : Out → List Value
  | .tok k ms li co _ => [.int .i8 k, .string ms, .int .i64 (li : Int), .int .i64 (co : Int)]
  | .flt _ _ _ _ => []
end Go.Proofs.YtlemnbegblpllaaDoor

namespace Go.Proofs.YtlemnbegblpllaaDoor
open Go.RowKit

theorem tolds_fuel (s : ByteArray) : ∀ n m i, i ≤ s.size → s.size - i < n → s.size - i < m → tolds s n i = tolds s m i
  | 0, _, _, _, h, _ => absurd h (Nat.not_lt_zero _)
  | _, 0, _, _, _, h => absurd h (Nat.not_lt_zero _)
  | n + 1, m + 1, i, hi, h1, h2 => by
    show nextOut s i :: _ = nextOut s i :: _
    congr 1
    by_cases hl : (nextOut s i).last = true
    · rw [if_pos hl, if_pos hl]
    · rw [if_neg hl, if_neg hl]
      have ha := Out.adv hi (Bool.eq_false_iff.2 hl)
      exact tolds_fuel s n m _ ha.2 (by omega) (by omega)
/-- All that is told from a place on. -/
def allF (s : ByteArray) (i : Nat) : List Out := tolds s (s.size + 1) i
theorem allF_eq {s : ByteArray} {i : Nat} (hi : i ≤ s.size) : allF s i = nextOut s i :: (if (nextOut s i).last = true then [] else allF s (nextOut s i).goes) := by
  show nextOut s i :: _ = nextOut s i :: _
  congr 1
  by_cases hl : (nextOut s i).last = true
  · rw [if_pos hl, if_pos hl]
  · rw [if_neg hl, if_neg hl]
    have ha := Out.adv hi (Bool.eq_false_iff.2 hl)
    exact tolds_fuel s _ _ _ ha.2 (by omega) (by omega)
theorem allF_last {s : ByteArray} {i : Nat} (hi : i ≤ s.size) (h : (nextOut s i).last = true) : allF s i = [nextOut s i] := by rw [allF_eq hi, if_pos h]
theorem allF_goes {s : ByteArray} {i : Nat} (hi : i ≤ s.size) (h : (nextOut s i).last = false) : allF s i = nextOut s i :: allF s (nextOut s i).goes := by rw [allF_eq hi, if_neg (by rw [h]; exact Bool.false_ne_true)]
/-- Is it a word? -/
def Out.isTok : Out → Bool
  | .tok _ _ _ _ _ => true
  | .flt _ _ _ _ => false
/-- Words told one by one, up to a place. -/
structure Pre (s : ByteArray) (i : Nat) (outs : List Out) : Prop where
  le : i ≤ s.size
  all : allF s 0 = outs ++ allF s i
  toks : ∀ o ∈ outs, o.isTok = true
  len : outs.length ≤ i
theorem Pre.nil (s : ByteArray) : Pre s 0 [] := ⟨Nat.zero_le _, rfl, fun _ h => absurd h List.not_mem_nil, Nat.le_refl _⟩
theorem Pre.step {s : ByteArray} {i : Nat} {outs : List Out} (h : Pre s i outs) (hl : (nextOut s i).last = false) : Pre s (nextOut s i).goes (outs ++ [nextOut s i]) := by
  have ha := Out.adv h.le hl
  refine ⟨ha.2, ?_, ?_, ?_⟩
  · rw [h.all, allF_goes h.le hl, List.append_assoc]; rfl
  · intro o ho
    rcases List.mem_append.1 ho with h1 | h1
    · exact h.toks o h1
    · rw [List.mem_singleton.1 h1]
      cases hn : nextOut s i with
      | tok k ms li co j => rfl
      | flt c li co wd => rw [hn] at hl; cases hl
  · have := h.len; rw [List.length_append, List.length_singleton]; omega
theorem Pre.last {s : ByteArray} {i : Nat} {outs : List Out} (h : Pre s i outs) (hl : (nextOut s i).last = true) : allF s 0 = outs ++ [nextOut s i] := by rw [h.all, allF_last h.le hl]
/-- The fault that is told, if one is. -/
def fltOf : List Out → Option (Int × Nat × Nat × ByteArray)
  | [] => none
  | .flt c li co wd :: _ => some (c, li, co, wd)
  | .tok _ _ _ _ _ :: r => fltOf r
theorem fltOf_toks : ∀ (outs r : List Out), (∀ o ∈ outs, o.isTok = true) → fltOf (outs ++ r) = fltOf r
  | [], _, _ => rfl
  | .tok _ _ _ _ _ :: l, r, h => fltOf_toks l r (fun o ho => h o (List.mem_cons_of_mem _ ho))
  | .flt _ _ _ _ :: l, r, h => absurd (h _ List.mem_cons_self) (fun h => by cases h)
theorem fltOf_none : ∀ (l : List Out), fltOf l = none → ∀ o ∈ l, o.isTok = true
  | [], _, _, h => absurd h List.not_mem_nil
  | .tok _ _ _ _ _ :: l, h, o, ho => by
    rcases List.mem_cons.1 ho with rfl | h1
    · rfl
    · exact fltOf_none l h o h1
  | .flt _ _ _ _ :: l, h, _, _ => by cases h
end Go.Proofs.YtlemnbegblpllaaDoor

namespace Go.Proofs.YtlemnbegblpllaaDoor
open Go.RowKit

theorem sk_here {s : ByteArray} {i : Nat} (h1 : kd (atB s i) ≠ 1) (h2 : atB s i ≠ 47) (n : Nat) : skF s (n + 1) i = (true, i) := by
  unfold skF
  rw [if_neg h1, if_neg (fun h => h2 h.1), if_neg (fun h => h2 h.1)]
theorem next_here {s : ByteArray} {i : Nat} (h1 : kd (atB s i) ≠ 1) (h2 : atB s i ≠ 47) : nextOut s i = wordOut s i := by
  unfold nextOut nextTold
  rw [sk_here h1 h2, if_pos rfl]
theorem next_end (s : ByteArray) : nextOut s s.size = .tok 0 ⟨#[]⟩ (lineOf s s.size) (colOf s s.size) s.size := by
  have h0 : atB s s.size = 0 := atB_out (Nat.lt_irrefl _)
  rw [next_here (by rw [h0]; decide) (by rw [h0]; decide)]
  unfold wordOut
  rw [if_pos rfl]
theorem all_end (s : ByteArray) : allF s s.size = [.tok 0 ⟨#[]⟩ (lineOf s s.size) (colOf s s.size) s.size] := by
  have h := next_end s
  rw [allF_last (Nat.le_refl _) (by rw [h]; rfl), h]
theorem extract_all (s : ByteArray) : s.extract 0 s.size = s := by
  apply ByteArray.ext
  rw [ByteArray.data_extract]
  show s.data.extract 0 s.data.size = s.data
  simp
theorem named_yes {s : ByteArray} (h : isNm s = true) : allF s 0 = [.tok 1 s 1 1 s.size, .tok 0 ⟨#[]⟩ (lineOf s s.size) (colOf s s.size) s.size] := by
  unfold isNm at h
  simp only [Bool.and_eq_true, decide_eq_true_eq, beq_iff_eq] at h
  obtain ⟨h1, h2, h3, h4⟩ := h
  have hn : nextOut s 0 = .tok 1 s 1 1 s.size := by
    rw [next_here (by rw [h3]; decide) (fun e => by rw [e] at h3; exact absurd h3 (by decide))]
    unfold wordOut
    rw [if_neg (by omega), if_pos h3]
    unfold nameOut
    rw [h4, if_neg (by omega), extract_all]
    rfl
  rw [allF_goes (Nat.zero_le _) (by rw [hn]; rfl), hn]
  show _ :: allF s s.size = _
  rw [all_end]
theorem named_of {s : ByteArray} {j : Nat} {li co : Nat} (h : nextOut s 0 = .tok 1 s li co j) : isNm s = true := by
  unfold nextOut nextTold at h
  have hp := sk_le s (s.size + 1) 0 (Nat.zero_le _)
  generalize skF s (s.size + 1) 0 = r at *
  split at h
  · unfold wordOut at h
    split at h
    · cases h
    · rename_i hne
      split at h
      · rename_i h2
        unfold nameOut at h
        split at h
        · cases h
        · rename_i h64
          have hle := le_runEnd isW s r.2
          have hsz := runEnd_size isW s (i := r.2) hp.2
          have he := congrArg (fun o => match o with | Out.tok _ ms _ _ _ => ms.size | _ => 0) h
          have he : (s.extract r.2 (runEnd isW s r.2)).size = s.size := he
          rw [ByteArray.size_extract] at he
          have h0 : r.2 = 0 := by omega
          rw [h0] at h2 hle hsz he h64 hne
          unfold isNm
          simp only [Bool.and_eq_true, decide_eq_true_eq, beq_iff_eq]
          exact ⟨by omega, by omega, h2, by omega⟩
      · split at h
        · unfold numOut at h
          split at h <;> cases h
        · split at h
          · unfold quoteOut quoteTold at h
            split at h <;> cases h
          · split at h <;> cases h
  · cases h
/-- Is a list of words one name with all the bytes? -/
theorem named_no {s : ByteArray} (h : isNm s = false) {k : Int} {ms : ByteArray} {li co j : Nat} {r : List Out} (ha : allF s 0 = .tok k ms li co j :: r) : ¬ (k = 1 ∧ ms = s) := by
  rintro ⟨rfl, rfl⟩
  rw [allF_eq (Nat.zero_le _)] at ha
  have := named_of (List.cons.inj ha).1
  rw [this] at h
  cases h
end Go.Proofs.YtlemnbegblpllaaDoor
