/-
  Proved here: what Quote writes is told as one text that means what was quoted.
-/
import Derived.Test.YtlemnbegblpllaaDoorLexNamedMAll
import Derived.Test.YtlemnbegblpllaaDoorLexP
namespace Go.Proofs.YtlemnbegblpllaaDoor
open Go.RowKit

theorem bts_size (l : List Nat) : (bts l).size = l.length := by unfold bts; rw [strOfNums_size, List.length_map]
theorem atB_bts (l : List Nat) (hl : ∀ x ∈ l, x < 256) (i : Nat) : atB (bts l) i = l[i]?.getD 0 := by
  rw [atB_list]
  unfold bts
  rw [strOfNums_data, List.map_map, List.getElem?_map]
  cases hx : l[i]? with
  | none => rfl
  | some x =>
    have hm := hl x (List.mem_of_getElem? hx)
    show (UInt8.ofNat ((x : Nat) : Int).toNat).toNat = x
    simp [Nat.mod_eq_of_lt hm]
/-- The first bytes of a text. -/
def byTo (s : ByteArray) : Nat → List Nat
  | 0 => []
  | k + 1 => byTo s k ++ [atB s k]
theorem byTo_len (s : ByteArray) : ∀ k, (byTo s k).length = k
  | 0 => rfl
  | k + 1 => by
    show (byTo s k ++ [atB s k]).length = _
    rw [List.length_append, byTo_len s k]
    rfl
theorem byTo_lt (s : ByteArray) : ∀ k, ∀ x ∈ byTo s k, x < 256
  | 0, x, h => by cases h
  | k + 1, x, h => by
    rcases List.mem_append.1 h with h | h
    · exact byTo_lt s k x h
    · rw [List.mem_singleton.1 h]; exact atB_lt s k
theorem byTo_get (s : ByteArray) : ∀ k i, i < k → (byTo s k)[i]? = some (atB s i)
  | 0, i, h => absurd h (Nat.not_lt_zero _)
  | k + 1, i, h => by
    show (byTo s k ++ [atB s k])[i]? = _
    by_cases hi : i < k
    · rw [List.getElem?_append_left (by rw [byTo_len]; exact hi)]; exact byTo_get s k i hi
    · obtain rfl : i = k := by omega
      rw [List.getElem?_append_right (by rw [byTo_len]; exact Nat.le_refl _), byTo_len, Nat.sub_self]
      rfl
theorem bytes_ext {a b : ByteArray} (h : a.size = b.size) (hi : ∀ i, i < a.size → atB a i = atB b i) : a = b := by
  apply ByteArray.ext
  apply Array.ext
  · exact h
  · intro i h1 h2
    have h1' : i < a.size := h1
    have h2' : i < b.size := h2
    have h3 := hi i h1'
    unfold atB at h3
    rw [dif_pos h1', dif_pos h2'] at h3
    exact UInt8.toNat_inj.1 h3
theorem bts_byTo (s : ByteArray) : bts (byTo s s.size) = s := by
  refine bytes_ext (by rw [bts_size, byTo_len]) ?_
  intro i hi
  rw [bts_size, byTo_len] at hi
  rw [atB_bts _ (byTo_lt s _), byTo_get s _ i hi]
  rfl
theorem qb_lt {b : Nat} (hb : b < 256) : ∀ x ∈ qb b, x < 256 := by
  intro x hx
  unfold qb at hx
  split at hx
  · rcases List.mem_cons.1 hx with h | h
    · omega
    · rw [List.mem_singleton.1 h]; exact hb
  · rw [List.mem_singleton.1 hx]; exact hb
theorem qTo_lt (s : ByteArray) : ∀ k, ∀ x ∈ qTo s k, x < 256
  | 0, x, h => by rw [List.mem_singleton.1 h]; decide
  | k + 1, x, h => by
    rcases List.mem_append.1 h with h | h
    · exact qTo_lt s k x h
    · exact qb_lt (atB_lt s k) x h
/-- What follows the first bytes as they stand. -/
def qFrom (s : ByteArray) : Nat → Nat → List Nat
  | 0, _ => [34]
  | n + 1, k => qb (atB s k) ++ qFrom s n (k + 1)
theorem qTo_from (s : ByteArray) : ∀ n k, qTo s (k + n) ++ [34] = qTo s k ++ qFrom s n k
  | 0, k => rfl
  | n + 1, k => by
    show _ = qTo s k ++ (qb (atB s k) ++ qFrom s n (k + 1))
    rw [← List.append_assoc]
    show _ = qTo s (k + 1) ++ qFrom s n (k + 1)
    rw [← qTo_from s n (k + 1), show k + (n + 1) = k + 1 + n by omega]
theorem get_at (a b : List Nat) (i : Nat) : (a ++ b)[a.length + i]?.getD 0 = b[i]?.getD 0 := by
  rw [List.getElem?_append_right (Nat.le_add_right _ _), Nat.add_sub_cancel_left]
theorem qF_quoted (s : ByteArray) (h10 : ∀ j, j < s.size → atB s j ≠ 10) (q : ByteArray) (hq : q = bts (qTo s s.size ++ [34])) :
    ∀ n k f, k + n = s.size → n < f → qF q f (qTo s k).length (byTo s k) = some (byTo s s.size, q.size) := by
  have hlt : ∀ x ∈ qTo s s.size ++ [34], x < 256 := by
    intro x hx
    rcases List.mem_append.1 hx with h | h
    · exact qTo_lt s _ x h
    · rw [List.mem_singleton.1 h]; decide
  have hsz : q.size = (qTo s s.size ++ [34]).length := by rw [hq, bts_size]
  have hat : ∀ i, atB q i = (qTo s s.size ++ [34])[i]?.getD 0 := fun i => by rw [hq]; exact atB_bts _ hlt i
  intro n
  induction n with
  | zero =>
    intro k f hk hf
    obtain ⟨f, rfl⟩ : ∃ g, f = g + 1 := ⟨f - 1, by omega⟩
    obtain rfl : k = s.size := by omega
    unfold qF
    have h1 : atB q (qTo s s.size).length = 34 := by
      rw [hat]
      exact get_at (qTo s s.size) [34] 0
    rw [if_pos (by rw [hsz, List.length_append]; exact Nat.lt_succ_self _), if_pos h1, hsz, List.length_append]
    rfl
  | succ n ih =>
    intro k f hk hf
    obtain ⟨f, rfl⟩ : ∃ g, f = g + 1 := ⟨f - 1, by omega⟩
    have hL : qTo s s.size ++ [34] = qTo s k ++ qFrom s (n + 1) k := by rw [← qTo_from, hk]
    have hge : ∀ i, atB q ((qTo s k).length + i) = (qb (atB s k) ++ qFrom s n (k + 1))[i]?.getD 0 := by
      intro i
      rw [hat, hL]
      exact get_at _ _ i
    have hks : k < s.size := by omega
    have hpos : (qTo s k).length < q.size := by
      rw [hsz, hL, List.length_append]
      have := (qb_len (atB s k)).1
      show _ < _ + (qb (atB s k) ++ qFrom s n (k + 1)).length
      rw [List.length_append]
      omega
    have hnext := ih (k + 1) f (by omega) (by omega)
    have hn10 := h10 k hks
    have h0 := hge 0
    have h1 := hge 1
    rw [Nat.add_zero] at h0
    have hlen : (qTo s (k + 1)).length = (qTo s k).length + (qb (atB s k)).length := by show (qTo s k ++ qb (atB s k)).length = _; rw [List.length_append]
    rw [hlen] at hnext
    have hby : byTo s (k + 1) = byTo s k ++ [atB s k] := rfl
    rw [hby] at hnext
    unfold qF
    rw [if_pos hpos]
    by_cases hb : atB s k = 34 ∨ atB s k = 92
    · have e : qb (atB s k) = [92, atB s k] := if_pos hb
      rw [e] at h0 h1 hnext
      have h0' : atB q (qTo s k).length = 92 := h0
      have h1' : atB q ((qTo s k).length + 1) = atB s k := h1
      rw [h0', if_neg (by decide), if_neg (by decide), if_pos rfl, h1', if_pos hb]
      exact hnext
    · have e : qb (atB s k) = [atB s k] := if_neg hb
      rw [e] at h0 hnext
      have h0' : atB q (qTo s k).length = atB s k := h0
      rw [h0', if_neg (fun h => hb (.inl h)), if_neg hn10, if_neg (fun h => hb (.inr h))]
      exact hnext
theorem nonl_quoted {s : ByteArray} (h10 : ∀ j, j < s.size → atB s j ≠ 10) : ∀ k, k ≤ s.size → ∀ x ∈ qTo s k, x ≠ 10
  | 0, _, x, h => by rw [List.mem_singleton.1 h]; decide
  | k + 1, hk, x, h => by
    rcases List.mem_append.1 h with h | h
    · exact nonl_quoted h10 k (by omega) x h
    · unfold qb at h
      split at h
      · rcases List.mem_cons.1 h with h | h
        · omega
        · rw [List.mem_singleton.1 h]; exact h10 k (by omega)
      · rw [List.mem_singleton.1 h]; exact h10 k (by omega)
theorem quoted_all {s : ByteArray} (h10 : ∀ j, j < s.size → atB s j ≠ 10) : allF (quoteF s) 0 = [.tok 3 s 1 1 (quoteF s).size, .tok 0 ⟨#[]⟩ 1 ((quoteF s).size + 1) (quoteF s).size] := by
  have hq : quoteF s = bts (qTo s s.size ++ [34]) := if_neg (fun ⟨j, h1, h2⟩ => h10 j h1 h2)
  obtain ⟨q, hqq⟩ : ∃ q, q = quoteF s := ⟨_, rfl⟩
  rw [← hqq] at hq ⊢
  have hlt : ∀ x ∈ qTo s s.size ++ [34], x < 256 := by
    intro x hx
    rcases List.mem_append.1 hx with h | h
    · exact qTo_lt s _ x h
    · rw [List.mem_singleton.1 h]; decide
  have hat : ∀ i, atB q i = (qTo s s.size ++ [34])[i]?.getD 0 := fun i => by rw [hq]; exact atB_bts _ hlt i
  have h0 : atB q 0 = 34 := by
    rw [hat]
    have h1 := qTo_from s s.size 0
    rw [Nat.zero_add] at h1
    rw [h1]
    rfl
  have hsz : q.size = (qTo s s.size ++ [34]).length := by rw [hq, bts_size]
  have hpos : 0 < q.size := by rw [hsz, List.length_append]; exact Nat.succ_pos _
  have hqf : qF q (q.size + 1) 1 [] = some (byTo s s.size, q.size) := by
    have h1 : s.size < q.size + 1 := by
      rw [hsz, List.length_append]
      have h2 : ∀ k, k ≤ (qTo s k).length := fun k => by
        induction k with
        | zero => exact Nat.zero_le _
        | succ k ih =>
          have := (qb_len (atB s k)).1
          show k + 1 ≤ (qTo s k ++ qb (atB s k)).length
          rw [List.length_append]; omega
      have := h2 s.size
      omega
    exact qF_quoted s h10 q hq s.size 0 (q.size + 1) (by omega) h1
  have hnext : nextOut q 0 = .tok 3 s 1 1 q.size := by
    rw [next_here (by rw [h0]; decide) (by rw [h0]; decide)]
    unfold wordOut
    rw [h0, if_neg (by omega), if_neg (by decide), if_neg (by decide), if_pos (by decide)]
    unfold quoteOut
    rw [hqf]
    show Out.tok 3 (bts (byTo s s.size)) _ _ _ = _
    rw [bts_byTo]
    rfl
  rw [allF_goes (Nat.zero_le _) (by rw [hnext]; rfl), hnext]
  show _ :: allF q q.size = _
  rw [all_end]
  have hno : NoNl q 0 q.size := by
    intro k _ hk he
    rw [hat] at he
    have hk' : k < (qTo s s.size ++ [34]).length := by rw [← hsz]; exact hk
    have hm : (qTo s s.size ++ [34])[k]? = some ((qTo s s.size ++ [34])[k]'hk') := List.getElem?_eq_getElem hk'
    rw [hm] at he
    rcases List.mem_append.1 (List.mem_of_getElem? hm) with h | h
    · exact nonl_quoted h10 s.size (Nat.le_refl _) _ h he
    · have h9 := List.mem_singleton.1 h
      have he' : (qTo s s.size ++ [34])[k]'hk' = 10 := he
      rw [h9] at he'
      exact absurd he' (by decide)
  obtain ⟨e1, e2⟩ := hno.stays (Nat.zero_le _)
  unfold colOf
  rw [e1, e2]
  rfl
end Go.Proofs.YtlemnbegblpllaaDoor
