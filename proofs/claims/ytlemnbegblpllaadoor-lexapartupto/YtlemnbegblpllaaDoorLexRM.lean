/-
  Proved here: what is told of the rest of a text is what is told of the text at that place.
-/
import Derived.Test.YtlemnbegblpllaaDoorLexRT
namespace Go.Proofs.YtlemnbegblpllaaDoor
open Go.RowKit
section
variable {s : ByteArray} {i : Nat}
theorem rest_size (hi : i ≤ s.size) : (s.extract i s.size).size = s.size - i := by rw [ByteArray.size_extract]; omega
theorem rest_ex (hi : i ≤ s.size) {a b : Nat} (hb : b ≤ s.size - i) : (s.extract i s.size).extract a b = s.extract (i + a) (i + b) := by
  have hz := rest_size hi
  rcases Nat.lt_or_ge b a with h | h
  · refine bytes_ext (by simp only [ByteArray.size_extract]; omega) (fun k hk => ?_)
    simp only [ByteArray.size_extract] at hk; omega
  · refine bytes_ext (by simp only [ByteArray.size_extract]; omega) (fun k hk => ?_)
    simp only [ByteArray.size_extract] at hk
    have e1 := atB_extract (s := s.extract i s.size) (i := a) (c := b - a) (k := k) (by omega) (by omega)
    have e2 := atB_extract (s := s) (i := i + a) (c := b - a) (k := k) (by omega) (by omega)
    rw [show a + (b - a) = b by omega] at e1
    rw [show i + a + (b - a) = i + b by omega] at e2
    rw [e1, e2, atB_rest hi, Nat.add_assoc]
theorem run_sh (p : Nat → Bool) (hi : i ≤ s.size) : ∀ n k, s.size - (i + k) = n → runEnd p s (i + k) = i + runEnd p (s.extract i s.size) k
  | 0, k, h => by
    have hz := rest_size hi
    have e1 : runEnd p s (i + k) = i + k := runEnd_no (by omega)
    have e2 : runEnd p (s.extract i s.size) k = k := runEnd_no (by omega)
    rw [e1, e2]
  | n + 1, k, h => by
    have hz := rest_size hi
    by_cases hc : i + k < s.size ∧ p (atB s (i + k)) = true
    · have e1 := runEnd_yes hc.1 hc.2
      have e2 : runEnd p (s.extract i s.size) k = runEnd p (s.extract i s.size) (k + 1) := runEnd_yes (by omega) (by rw [atB_rest hi]; exact hc.2)
      rw [e1, e2]
      exact run_sh p hi n (k + 1) (by omega)
    · have e1 := runEnd_no hc
      have e2 : runEnd p (s.extract i s.size) k = k := runEnd_no (by rw [atB_rest hi]; exact fun h2 => hc ⟨by omega, h2.2⟩)
      rw [e1, e2]
theorem run_shift (p : Nat → Bool) (hi : i ≤ s.size) (k : Nat) : runEnd p s (i + k) = i + runEnd p (s.extract i s.size) k := run_sh p hi _ k rfl
theorem pt_shift (hi : i ≤ s.size) (k : Nat) : ptEnd s (i + k) = i + ptEnd (s.extract i s.size) k := by
  unfold ptEnd
  have e : runEnd isD s (i + k + 1) = i + runEnd isD (s.extract i s.size) (k + 1) := run_shift isD hi (k + 1)
  rw [atB_rest hi, e]
  by_cases hc : atB s (i + k) = 46 ∧ k + 1 < runEnd isD (s.extract i s.size) (k + 1)
  · rw [if_pos ⟨hc.1, by omega⟩, if_pos hc]
  · rw [if_neg (fun h => hc ⟨h.1, by omega⟩), if_neg hc]
theorem xF_shift (hi : i ≤ s.size) (k : Nat) : xFirst s (i + k) = i + xFirst (s.extract i s.size) k := by
  unfold xFirst
  have e : atB (s.extract i s.size) (k + 1) = atB s (i + k + 1) := atB_rest hi (k + 1)
  rw [e]
  split
  · omega
  · omega
theorem xpo_shift (hi : i ≤ s.size) (k : Nat) : xpo s (i + k) = (i + (xpo (s.extract i s.size) k).1, i + (xpo (s.extract i s.size) k).2) := by
  unfold xpo
  rw [xF_shift hi, run_shift isD hi, atB_rest hi]
  by_cases hc : (atB s (i + k) = 101 ∨ atB s (i + k) = 69) ∧ xFirst (s.extract i s.size) k < runEnd isD (s.extract i s.size) (xFirst (s.extract i s.size) k)
  · rw [if_pos ⟨hc.1, by omega⟩, if_pos hc]
  · rw [if_neg (fun h => hc ⟨h.1, by omega⟩), if_neg hc]
theorem num_shift (hi : i ≤ s.size) : numEnd s i = (i + (numEnd (s.extract i s.size) 0).1, i + (numEnd (s.extract i s.size) 0).2) := by
  unfold numEnd
  have e := run_shift isD hi 0
  rw [Nat.add_zero] at e
  rw [e, pt_shift hi, xpo_shift hi]
theorem qF_shift (hi : i ≤ s.size) : ∀ n a acc, qF s n (i + a) acc = (qF (s.extract i s.size) n a acc).map (fun p => (p.1, i + p.2))
  | 0, a, acc => rfl
  | n + 1, a, acc => by
    unfold qF
    have e0 := atB_rest hi a
    have e1 : atB (s.extract i s.size) (a + 1) = atB s (i + a + 1) := atB_rest hi (a + 1)
    rw [e0, e1, rest_size hi]
    by_cases h : i + a < s.size
    · have h' : a < s.size - i := by omega
      rw [if_pos h, if_pos h']
      by_cases h34 : atB s (i + a) = 34
      · simp only [if_pos h34]; rfl
      · simp only [if_neg h34]
        by_cases h10 : atB s (i + a) = 10
        · simp only [if_pos h10]; rfl
        · simp only [if_neg h10]
          by_cases h92 : atB s (i + a) = 92
          · simp only [if_pos h92]
            by_cases hq : atB s (i + a + 1) = 34 ∨ atB s (i + a + 1) = 92
            · simp only [if_pos hq]; exact qF_shift hi n (a + 2) _
            · simp only [if_neg hq]; rfl
          · simp only [if_neg h92]; exact qF_shift hi n (a + 1) _
    · have h' : ¬ a < s.size - i := by omega
      rw [if_neg h, if_neg h']
      rfl
theorem line_shift (hi : i ≤ s.size) : lineLen (s.extract i s.size) 0 = lineLen s i := by
  unfold lineLen
  rw [extract_all, Nat.sub_zero, rest_size hi]
theorem shut_shift (s : ByteArray) (i : Nat) : shutAt (s.extract i s.size) 0 = shutAt s i := by
  unfold shutAt
  rw [extract_all]
theorem sk_fuel (s : ByteArray) : ∀ n m i, i ≤ s.size → s.size - i < n → s.size - i < m → skF s n i = skF s m i
  | 0, _, _, _, h, _ => absurd h (Nat.not_lt_zero _)
  | _, 0, _, _, _, h => absurd h (Nat.not_lt_zero _)
  | n + 1, m + 1, i, hi, h1, h2 => by
    unfold skF
    split
    · rename_i h
      have h3 : i < s.size := by
        rcases Nat.lt_or_ge i s.size with h4 | h4
        · exact h4
        · rw [atB_out (Nat.not_lt.2 h4)] at h; exact absurd h (by decide)
      exact sk_fuel s n m (i + 1) h3 (by omega) (by omega)
    · split
      · rename_i h
        have h3 := lineLen_facts hi h.1
        exact sk_fuel s n m _ h3.2 (by omega) (by omega)
      · split
        · rename_i h
          split
          · rfl
          · rename_i h0
            have h3 : i + 1 < s.size := atB_in (by rw [h.2]; decide)
            have h4 := shut_facts hi (by omega) h3
            exact sk_fuel s n m _ h4 (by omega) (by omega)
        · rfl
/-- What is taken at a place of a text. -/
def takeS (i : Nat) : Out → Value
  | .tok k ms _ _ j => takeV ((j - i : Nat) : Int) k ms 0 ⟨#[]⟩
  | .flt c _ _ wd => takeV 0 0 ⟨#[]⟩ c wd
theorem word_shift (hi : i < s.size) : takeW (wordOut (s.extract i s.size) 0) = takeS i (wordOut s i) := by
  have hle : i ≤ s.size := Nat.le_of_lt hi
  have hz := rest_size hle
  have h0 := atB_rest hle 0
  rw [Nat.add_zero] at h0
  unfold wordOut
  rw [h0, if_neg (show ¬ 0 = (s.extract i s.size).size by omega), if_neg (show ¬ i = s.size by omega)]
  by_cases hk2 : kd (atB s i) = 2
  · simp only [if_pos hk2]
    unfold nameOut
    have e := run_shift isW hle 0
    rw [Nat.add_zero] at e
    have hr := runEnd_size isW (s.extract i s.size) (Nat.zero_le _)
    have ex := rest_ex hle (a := 0) (b := runEnd isW (s.extract i s.size) 0) (by omega)
    rw [Nat.add_zero] at ex
    rw [e, Nat.sub_zero, Nat.add_sub_cancel_left, ex]
    by_cases h64 : 64 < runEnd isW (s.extract i s.size) 0
    · simp only [if_pos h64]; rfl
    · simp only [if_neg h64]
      show takeV _ _ _ _ _ = takeV ((i + runEnd isW (s.extract i s.size) 0 - i : Nat) : Int) _ _ _ _
      rw [Nat.add_sub_cancel_left]
  · simp only [if_neg hk2]
    by_cases hk3 : kd (atB s i) = 3
    · simp only [if_pos hk3]
      unfold numOut numBad
      have hnf := num_facts (s.extract i s.size) 0 (Nat.zero_le _)
      have e := num_shift hle
      have hr := runEnd_size isW (s.extract i s.size) hnf.2.2.1
      have f1 : (numEnd s i).1 = i + (numEnd (s.extract i s.size) 0).1 := by rw [e]
      have f2 : (numEnd s i).2 = i + (numEnd (s.extract i s.size) 0).2 := by rw [e]
      rw [f1, f2]
      generalize (numEnd (s.extract i s.size) 0).1 = a at *
      generalize (numEnd (s.extract i s.size) 0).2 = b at *
      have e2 := run_shift isW hle b
      generalize runEnd isW (s.extract i s.size) b = r at *
      have x1 := rest_ex hle (a := a) (b := b) (by omega)
      have x2 := rest_ex hle (a := 0) (b := r) (by omega)
      have x3 := rest_ex hle (a := 0) (b := b) (by omega)
      rw [Nat.add_zero] at x2 x3
      rw [e2, x1, x2, x3]
      have e3 : decide (i + b < i + r) = decide (b < r) := by
        congr 1
        exact propext ⟨fun h => by omega, fun h => by omega⟩
      rw [e3]
      by_cases hb : (decide (b < r) || isFarF (s.extract (i + a) (i + b))) = true
      · simp only [if_pos hb]; rfl
      · simp only [if_neg hb]
        show takeV _ _ _ _ _ = takeV ((i + b - i : Nat) : Int) _ _ _ _
        rw [Nat.add_sub_cancel_left]
    · simp only [if_neg hk3]
      have ex := rest_ex hle (a := 0) (b := 1) (by omega)
      rw [Nat.add_zero] at ex
      by_cases hk4 : kd (atB s i) = 4
      · simp only [if_pos hk4]
        unfold quoteOut
        have e := qF_shift (s := s) hle (s.size + 1) 1 []
        have e2 : ∀ n m a acc, s.size - i - a < n → s.size - i - a < m → qF (s.extract i s.size) n a acc = qF (s.extract i s.size) m a acc := by
          intro n
          induction n with
          | zero => intro m a acc h; omega
          | succ n ih =>
            intro m a acc h1 h2
            obtain ⟨m, rfl⟩ : ∃ q, m = q + 1 := ⟨m - 1, by omega⟩
            unfold qF
            rw [hz]
            by_cases ha : a < s.size - i
            · simp only [if_pos ha]
              rw [ih m (a + 2) _ (by omega) (by omega), ih m (a + 1) _ (by omega) (by omega)]
            · simp only [if_neg ha]
        rw [e, Nat.zero_add, hz, e2 (s.size - i + 1) (s.size + 1) 1 [] (by omega) (by omega)]
        cases qF (s.extract i s.size) (s.size + 1) 1 [] with
        | none =>
          show takeV 0 0 ⟨#[]⟩ 21 ((s.extract i s.size).extract 0 1) = takeV 0 0 ⟨#[]⟩ 21 (s.extract i (i + 1))
          rw [ex]
        | some p =>
          show takeV (p.2 : Int) 3 (bts p.1) 0 ⟨#[]⟩ = takeV ((i + p.2 - i : Nat) : Int) 3 (bts p.1) 0 ⟨#[]⟩
          rw [Nat.add_sub_cancel_left]
      · simp only [if_neg hk4]
        by_cases hk5 : kd (atB s i) = 5
        · simp only [if_pos hk5]
          show takeV ((0 + 1 : Nat) : Int) 4 ((s.extract i s.size).extract 0 1) 0 ⟨#[]⟩ = takeV ((i + 1 - i : Nat) : Int) 4 (s.extract i (i + 1)) 0 ⟨#[]⟩
          rw [ex, Nat.add_sub_cancel_left]
        · simp only [if_neg hk5]
          show takeV 0 0 ⟨#[]⟩ 20 ((s.extract i s.size).extract 0 1) = takeV 0 0 ⟨#[]⟩ 20 (s.extract i (i + 1))
          rw [ex]
/-- One step at a place: past something, or what is told. -/
theorem step_cases (hi : i < s.size) :
    (∃ k, 0 < k ∧ i + k ≤ s.size ∧ nextOut s i = nextOut s (i + k) ∧ takeF (s.extract i s.size) = takeV (k : Int) 0 ⟨#[]⟩ 0 ⟨#[]⟩) ∨
    (∃ c wd, c ≠ 0 ∧ nextOut s i = .flt c (lineOf s i) (colOf s i) wd ∧ takeF (s.extract i s.size) = takeV 0 0 ⟨#[]⟩ c wd) ∨
    (∃ k ms j, i < j ∧ j ≤ s.size ∧ k ≠ 0 ∧ nextOut s i = .tok k ms (lineOf s i) (colOf s i) j ∧ takeF (s.extract i s.size) = takeV ((j - i : Nat) : Int) k ms 0 ⟨#[]⟩) := by
  have hle : i ≤ s.size := Nat.le_of_lt hi
  have h0 := atB_rest hle 0
  have h1 := atB_rest hle 1
  rw [Nat.add_zero] at h0
  have hskip : ∀ k, 0 < k → i + k ≤ s.size → skF s (s.size + 1) i = skF s s.size (i + k) → nextOut s i = nextOut s (i + k) := by
    intro k hk0 hk he
    unfold nextOut
    rw [he, sk_fuel s s.size (s.size + 1) (i + k) hk (by omega) (by omega)]
  have hsk : skF s (s.size + 1) i = if kd (atB s i) = 1 then skF s s.size (i + 1) else if atB s i = 47 ∧ atB s (i + 1) = 47 then skF s s.size (i + lineLen s i) else if atB s i = 47 ∧ atB s (i + 1) = 42 then (if shutAt s i < 0 then (false, i) else skF s s.size (i + (2 + (shutAt s i).toNat + 2))) else (true, i) := rfl
  unfold takeF skip1
  rw [h0, h1, line_shift hle, shut_shift]
  by_cases ha : kd (atB s i) = 1
  · rw [if_pos ha] at hsk
    rw [if_pos ha]
    exact .inl ⟨1, by omega, hi, hskip 1 (by omega) hi hsk, rfl⟩
  · rw [if_neg ha] at hsk
    rw [if_neg ha]
    by_cases hb : atB s i = 47 ∧ atB s (i + 1) = 47
    · rw [if_pos hb] at hsk
      rw [if_pos hb]
      have hl := lineLen_facts hle hb.1
      refine .inl ⟨lineLen s i, by omega, hl.2, hskip _ (by omega) hl.2 hsk, ?_⟩
      rw [if_neg (by omega), if_pos (by omega)]
    · rw [if_neg hb] at hsk
      rw [if_neg hb]
      by_cases hc : atB s i = 47 ∧ atB s (i + 1) = 42
      · rw [if_pos hc] at hsk
        rw [if_pos hc]
        have h3 : i + 1 < s.size := atB_in (by rw [hc.2]; decide)
        by_cases hd : shutAt s i < 0
        · rw [if_pos hd] at hsk
          rw [if_pos hd]
          refine .inr (.inl ⟨21, ⟨#[47, 42]⟩, by decide, ?_, by rw [if_pos (by decide)]⟩)
          unfold nextOut nextTold
          rw [hsk]
          have ex : s.extract i (i + 2) = ⟨#[47, 42]⟩ := by
            refine bytes_ext (by rw [ByteArray.size_extract]; show _ = 2; omega) (fun k hk => ?_)
            rw [ByteArray.size_extract] at hk
            rw [atB_extract (by omega) (by omega)]
            match k, hk with
            | 0, _ => exact hc.1
            | 1, _ => exact hc.2
            | n + 2, h => omega
          show (if (false : Bool) = true then _ else Out.flt 21 (lineOf s i) (colOf s i) (s.extract i (i + 2))) = _
          rw [if_neg Bool.false_ne_true, ex]
        · rw [if_neg hd] at hsk
          rw [if_neg hd]
          have h4 := shut_facts hle (by omega) h3
          refine .inl ⟨2 + (shutAt s i).toNat + 2, by omega, h4, hskip _ (by omega) h4 hsk, ?_⟩
          rw [if_neg (by omega), if_pos (by omega), show 2 + shutAt s i + 2 = ((2 + (shutAt s i).toNat + 2 : Nat) : Int) by omega]
      · rw [if_neg hc] at hsk
        rw [if_neg hc, if_neg (by decide), if_neg (by decide), word_shift hi]
        have hn : nextOut s i = wordOut s i := by
          unfold nextOut nextTold
          rw [hsk]
          exact if_pos rfl
        rw [hn]
        cases hw : wordOut s i with
        | flt c li co wd =>
          have hpl : li = lineOf s i ∧ co = colOf s i ∧ c ≠ 0 := by
            unfold wordOut nameOut numOut quoteOut quoteTold at hw
            repeat' split at hw
            all_goals first | (cases hw; done) | (cases hw; exact ⟨rfl, rfl, by decide⟩)
          rw [hpl.1, hpl.2.1]
          exact .inr (.inl ⟨c, wd, hpl.2.2, rfl, rfl⟩)
        | tok k ms li co j =>
          have hpl : li = lineOf s i ∧ co = colOf s i ∧ k ≠ 0 := by
            unfold wordOut nameOut numOut quoteOut quoteTold at hw
            rw [if_neg (by omega)] at hw
            repeat' split at hw
            all_goals first | (cases hw; done) | (cases hw; exact ⟨rfl, rfl, by decide⟩)
          have hadv := word_adv hle hw hpl.2.2
          rw [hpl.1, hpl.2.1]
          exact .inr (.inr ⟨k, ms, j, hadv.1, hadv.2, hpl.2.2, rfl, rfl⟩)
theorem Pre.skip {s : ByteArray} {i k : Nat} {outs : List Out} (h : Pre s i outs) (hk : i + k ≤ s.size) (hn : nextOut s i = nextOut s (i + k)) : Pre s (i + k) outs :=
  ⟨hk, by rw [h.all, allF_eq h.le, allF_eq hk, hn], h.toks, by have := h.len; omega⟩
end
end Go.Proofs.YtlemnbegblpllaaDoor
