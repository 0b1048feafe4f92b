/-
  Proved here: plain facts on what package lex skips: blanks and comments.
-/
import Derived.Test.YtlemnbegblpllaaDoorLexIAll
import Derived.Lib.CutLaws
namespace Go.Proofs.YtlemnbegblpllaaDoor
open Go.RowKit

theorem atB_list (r : ByteArray) (k : Nat) : atB r k = ((r.data.toList[k]?).map UInt8.toNat).getD 0 := by
  unfold atB
  by_cases h : k < r.size
  · rw [dif_pos h]
    have h' : k < r.data.toList.length := h
    rw [List.getElem?_eq_getElem h']
    rfl
  · rw [dif_neg h, List.getElem?_eq_none (by have : r.data.toList.length = r.size := rfl; omega)]
    rfl
theorem hp2 (r : ByteArray) (a b : UInt8) (ha : a.toNat ≠ 0) (hb : b.toNat ≠ 0) : Lib.hasPrefix r.data.toList [a, b] = decide (atB r 0 = a.toNat ∧ atB r 1 = b.toNat) := by
  rw [atB_list, atB_list]
  unfold Lib.hasPrefix
  rcases r.data.toList with _ | ⟨x, _ | ⟨y, t⟩⟩
  · symm
    rw [show List.isPrefixOf [a, b] [] = false from rfl, decide_eq_false_iff_not]
    rintro ⟨h, _⟩
    exact ha h.symm
  · symm
    rw [show List.isPrefixOf [a, b] [x] = false by simp [List.isPrefixOf], decide_eq_false_iff_not]
    rintro ⟨_, h⟩
    exact hb h.symm
  · have h1 : ∀ u v : UInt8, (u == v) = decide (v.toNat = u.toNat) := fun u v => by
      by_cases h : u = v
      · rw [h]; simp
      · rw [beq_eq_false_iff_ne.2 h, eq_comm, decide_eq_false_iff_not]; exact fun e => h (UInt8.toNat_inj.1 e.symm)
    show (a == x && (b == y && true)) = decide (x.toNat = a.toNat ∧ y.toNat = b.toNat)
    rw [h1, h1, Bool.and_true]
    simp
theorem atB_rest {s : ByteArray} {i : Nat} (hi : i ≤ s.size) (k : Nat) : atB (s.extract i s.size) k = atB s (i + k) := by
  by_cases h : i + k < s.size
  · have := atB_extract (s := s) (i := i) (c := s.size - i) (k := k) (by omega) (by omega)
    rwa [show i + (s.size - i) = s.size by omega] at this
  · rw [atB_out (by rw [ByteArray.size_extract]; omega), atB_out h]

/-- How long a comment up to its line's end is. -/
def lineLen (s : ByteArray) (i : Nat) : Nat := if Lib.indexB (s.extract i s.size) ⟨#[10]⟩ < 0 then s.size - i else (Lib.indexB (s.extract i s.size) ⟨#[10]⟩).toNat
/-- How far behind its beginning a longer comment is shut. -/
def shutAt (s : ByteArray) (i : Nat) : Int := Lib.indexB ((s.extract i s.size).extract 2 (s.extract i s.size).size) ⟨#[42, 47]⟩
/-- Past blanks and comments: false, where one is not shut. -/
def skF (s : ByteArray) : Nat → Nat → Bool × Nat
  | 0, i => (true, i)
  | n + 1, i =>
    if kd (atB s i) = 1 then skF s n (i + 1)
    else if atB s i = 47 ∧ atB s (i + 1) = 47 then skF s n (i + lineLen s i)
    else if atB s i = 47 ∧ atB s (i + 1) = 42 then (if shutAt s i < 0 then (false, i) else skF s n (i + (2 + (shutAt s i).toNat + 2)))
    else (true, i)
theorem lineLen_facts {s : ByteArray} {i : Nat} (hi : i ≤ s.size) (h : atB s i = 47) : 1 ≤ lineLen s i ∧ i + lineLen s i ≤ s.size := by
  have hlt : i < s.size := atB_in (by rw [h]; decide)
  unfold lineLen
  split
  · omega
  · rename_i h0
    rcases Lib.indexB_cases (s.extract i s.size) ⟨#[10]⟩ with h1 | ⟨q, h1, h2⟩
    · omega
    · have hz : (s.extract i s.size).size = s.size - i := by rw [ByteArray.size_extract]; omega
      have h3 : (⟨#[10]⟩ : ByteArray).size = 1 := rfl
      rw [h1]
      refine ⟨?_, by omega⟩
      show 1 ≤ q
      rcases Nat.eq_zero_or_pos q with hq | hq
      · exfalso
        rcases Lib.index_spec (s.extract i s.size).data.toList [10] with ⟨h4, _⟩ | ⟨q', h4, _, h5, _⟩
        · have h6 : Lib.index (s.extract i s.size).data.toList [10] = (q : Int) := h1
          omega
        · have h6 : Lib.index (s.extract i s.size).data.toList [10] = (q : Int) := h1
          have h7 : q' = 0 := by omega
          subst h7
          have h8 := atB_rest hi 0
          rw [Nat.add_zero, h, atB_list] at h8
          have h9 : List.isPrefixOf [10] (s.extract i s.size).data.toList = true := h5
          rcases hl : (s.extract i s.size).data.toList with _ | ⟨x, t⟩
          · rw [hl] at h9; cases h9
          · rw [hl] at h8 h9
            have ha : ((10 : UInt8) == x) = true := by
              have hb : ((10 : UInt8) == x && List.isPrefixOf [] t) = true := h9
              exact (Bool.and_eq_true_iff.1 hb).1
            have hc : (10 : UInt8) = x := eq_of_beq ha
            rw [← hc] at h8
            have hd : (10 : Nat) = 47 := h8
            omega
      · exact hq
theorem shut_facts {s : ByteArray} {i : Nat} (_ : i ≤ s.size) (h : 0 ≤ shutAt s i) (h2 : i + 2 ≤ s.size) : i + (2 + (shutAt s i).toNat + 2) ≤ s.size := by
  unfold shutAt at *
  rcases Lib.indexB_cases ((s.extract i s.size).extract 2 (s.extract i s.size).size) ⟨#[42, 47]⟩ with h1 | ⟨q, h1, h3⟩
  · omega
  · rw [h1]
    have hz : (s.extract i s.size).size = s.size - i := by rw [ByteArray.size_extract]; omega
    have hz2 : ((s.extract i s.size).extract 2 (s.extract i s.size).size).size = s.size - i - 2 := by rw [ByteArray.size_extract, hz]; omega
    have h4 : (⟨#[42, 47]⟩ : ByteArray).size = 2 := rfl
    omega
theorem sk_le (s : ByteArray) : ∀ n i, i ≤ s.size → i ≤ (skF s n i).2 ∧ (skF s n i).2 ≤ s.size
  | 0, i, hi => ⟨Nat.le_refl _, hi⟩
  | n + 1, i, hi => by
    unfold skF
    split
    · rename_i h
      have h1 : i < s.size := by
        rcases Nat.lt_or_ge i s.size with h2 | h2
        · exact h2
        · rw [atB_out (Nat.not_lt.2 h2)] at h; exact absurd h (by decide)
      have := sk_le s n (i + 1) h1
      omega
    · split
      · rename_i h
        have h1 := lineLen_facts hi h.1
        have := sk_le s n (i + lineLen s i) h1.2
        omega
      · split
        · rename_i h
          split
          · exact ⟨Nat.le_refl _, hi⟩
          · rename_i h0
            have h3 : i + 1 < s.size := atB_in (by rw [h.2]; decide)
            have h4 := shut_facts hi (by omega) h3
            have := sk_le s n _ h4
            omega
        · exact ⟨Nat.le_refl _, hi⟩
end Go.Proofs.YtlemnbegblpllaaDoor
