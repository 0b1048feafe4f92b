/-
  Proved here: what the document's own Place answers; where comments end, as mathematics.
-/
import Derived.Test.YtlemnbegblpllaaDoorLexRQ
import Derived.Lib.IndexMore
namespace Go.Proofs.YtlemnbegblpllaaDoor
open Go.RowKit
theorem col_no {s : ByteArray} {k : Nat} (h : atB s k ≠ 10) : lineOf s (k + 1) = lineOf s k ∧ colOf s (k + 1) = colOf s k + 1 := by
  have h1 : startOf s (k + 1) = startOf s k := if_neg h
  have h2 := start_le s k
  refine ⟨?_, ?_⟩
  · show lineOf s k + (if atB s k = 10 then 1 else 0) = _
    rw [if_neg h]
    rfl
  · unfold colOf; rw [h1]; omega
theorem col_nl {s : ByteArray} {k : Nat} (h : atB s k = 10) : lineOf s (k + 1) = lineOf s k + 1 ∧ colOf s (k + 1) = 1 := by
  have h1 : startOf s (k + 1) = k + 1 := if_pos h
  refine ⟨?_, ?_⟩
  · show lineOf s k + (if atB s k = 10 then 1 else 0) = _
    rw [if_pos h]
  · unfold colOf; rw [h1]; omega
theorem col_le (s : ByteArray) (k : Nat) : colOf s k ≤ k + 1 := by unfold colOf; omega
set_option maxRecDepth 100000 in
set_option maxHeartbeats 3200000 in
theorem placeR_any (s : ByteArray) (i : Nat) (w : World) (hs : s.size < 2305843009213693952) (hi : i ≤ s.size) :
    Calls Tryd.prog 27 #[.string s, .int .i64 (i : Int)] w fun e w' => e = .returned (.tuple #[.int .i64 (lineOf s i : Nat), .int .i64 (colOf s i : Nat)]) ∧ w' = w := by
  go_enter Tryd.func27, Tryd.ntmps27
  go_wp2_with fail
  go_loopw [6, 7, 8] (fun li co t wr => ∃ k : Nat, k ≤ i ∧ li = .int .i64 (lineOf s k : Nat) ∧ co = .int .i64 (colOf s k : Nat) ∧ t = .int .i64 k ∧ wr = w) (fun _ _ t _ => i - (intOf t).toNat)
  case atStart => exact ⟨0, Nat.zero_le _, rfl, rfl, rfl, rfl⟩
  case round =>
    obtain ⟨k, hk, rfl, rfl, rfl, hw⟩ := hrel
    obtain rfl : w = wr := hw.symm
    have hl := (line_le s k).1
    have hc := col_le s k
    by_cases hlt : k < i
    · have hge : (k : Int) < (i : Int) := by omega
      have hks : k < s.size := by omega
      have hb : s[k].toNat = atB s k := by unfold atB; rw [dif_pos hks]; rfl
      by_cases h10 : atB s k = 10
      · obtain ⟨e1, e2⟩ := col_nl h10
        have HE : Hid (lineOf s (k + 1) = lineOf s k + 1 ∧ colOf s (k + 1) = 1) := ⟨e1, e2⟩
        have x10 : ((s[k].toNat : Int) == 10) = true := by rw [hb, h10]; rfl
        clear hb h10 e1 e2
        generalize lineOf s k = li at *
        generalize colOf s k = co at *
        go_wp2
        go_roundw
        case rel => exact ⟨k + 1, by omega, by rw [HE.out.1]; go_num, by rw [HE.out.2]; rfl, by go_num, by first | trivial | rfl⟩
        case measure => simp [intOf]; omega
      · obtain ⟨e1, e2⟩ := col_no h10
        have HE : Hid (lineOf s (k + 1) = lineOf s k ∧ colOf s (k + 1) = colOf s k + 1) := ⟨e1, e2⟩
        have x10 : ((s[k].toNat : Int) == 10) = false := by rw [hb]; exact nat_beq h10
        clear hb h10 e1 e2
        generalize lineOf s k = li at *
        generalize colOf s k = co at *
        go_wp2
        go_roundw
        case rel => exact ⟨k + 1, by omega, by rw [HE.out.1], by rw [HE.out.2]; go_num, by go_num, by first | trivial | rfl⟩
        case measure => simp [intOf]; omega
    · have hge : ¬ (k : Int) < (i : Int) := by omega
      obtain rfl : k = i := by omega
      go_wp2
      go_ret2
      exact ⟨rfl, by first | trivial | rfl⟩
theorem drop_at0 {α : Type} (l : List α) (j : Nat) : (l.drop j)[0]? = l[j]? := by rw [List.getElem?_drop, Nat.add_zero]
theorem drop_at1 {α : Type} (l : List α) (j : Nat) : (l.drop j)[1]? = l[j + 1]? := by rw [List.getElem?_drop]
theorem occ_one (r : ByteArray) (a : UInt8) (ha : a.toNat ≠ 0) (j : Nat) : Lib.occAt r.data.toList [a] j = decide (atB r j = a.toNat) := by
  rw [atB_list]
  unfold Lib.occAt
  rw [← drop_at0]
  rcases r.data.toList.drop j with _ | ⟨x, t⟩
  · symm
    show decide ((Option.map UInt8.toNat none).getD 0 = a.toNat) = false
    rw [decide_eq_false_iff_not]
    exact fun h => ha h.symm
  · show (a == x && true) = decide (x.toNat = a.toNat)
    rw [Bool.and_true]
    by_cases h : a = x
    · rw [h]; simp
    · rw [beq_eq_false_iff_ne.2 h, eq_comm, decide_eq_false_iff_not]; exact fun e => h (UInt8.toNat_inj.1 e.symm)
theorem occ_two (r : ByteArray) (a b : UInt8) (ha : a.toNat ≠ 0) (hb : b.toNat ≠ 0) (j : Nat) : Lib.occAt r.data.toList [a, b] j = decide (atB r j = a.toNat ∧ atB r (j + 1) = b.toNat) := by
  rw [atB_list, atB_list]
  unfold Lib.occAt
  rw [← drop_at0, ← drop_at1]
  rcases r.data.toList.drop j with _ | ⟨x, _ | ⟨y, t⟩⟩
  · symm
    rw [decide_eq_false_iff_not.2]
    · rfl
    · rintro ⟨h, _⟩; exact ha h.symm
  · symm
    rw [decide_eq_false_iff_not.2]
    · show false = (a == x && List.isPrefixOf [b] [])
      rw [show List.isPrefixOf [b] [] = false from rfl, Bool.and_false]
    · rintro ⟨_, h⟩; exact hb h.symm
  · have h1 : ∀ u v : UInt8, (u == v) = decide (v.toNat = u.toNat) := fun u v => by
      by_cases h : u = v
      · rw [h]; simp
      · rw [beq_eq_false_iff_ne.2 h, eq_comm, decide_eq_false_iff_not]; exact fun e => h (UInt8.toNat_inj.1 e.symm)
    show (a == x && (b == y && true)) = decide (x.toNat = a.toNat ∧ y.toNat = b.toNat)
    rw [h1, h1, Bool.and_true]
    simp
theorem lineLen_here {u : ByteArray} {k : Nat} (hno : ∀ j, j < k → atB u j ≠ 10) (hk : k ≤ u.size) (h : k = u.size ∨ atB u k = 10) : lineLen u 0 = k := by
  unfold lineLen
  rw [extract_all]
  have e : Lib.indexB u ⟨#[10]⟩ = Lib.index u.data.toList [10] := rfl
  rw [e]
  rcases Lib.index_spec u.data.toList [10] with ⟨h1, h2⟩ | ⟨q, h1, h2, h3, h4⟩
  · rw [h1, if_pos (by decide)]
    rcases h with h | h
    · omega
    · have h5 := h2 k hk
      rw [occ_one u 10 (by decide), h] at h5
      exact absurd h5 (by decide)
  · rw [h1, if_neg (by omega)]
    rw [occ_one u 10 (by decide)] at h3
    have h3' : atB u q = 10 := of_decide_eq_true h3
    show (q : Int).toNat = k
    rcases Nat.lt_trichotomy q k with hq | hq | hq
    · exact absurd h3' (hno q hq)
    · omega
    · rcases h with h | h
      · have : q < u.size := atB_in (by rw [h3']; decide)
        omega
      · have h5 := h4 k hq
        rw [occ_one u 10 (by decide), h] at h5
        exact absurd h5 (by decide)
theorem shut_rest (u : ByteArray) (hu : 2 ≤ u.size) (q : Nat) : Lib.occAt ((u.extract 2 u.size).data.toList) [42, 47] q = decide (atB u (q + 2) = 42 ∧ atB u (q + 3) = 47) := by
  rw [occ_two _ 42 47 (by decide) (by decide), atB_rest hu, atB_rest hu, show 2 + q = q + 2 by omega, show 2 + (q + 1) = q + 3 by omega]
  rfl
theorem shut_here {u : ByteArray} (hu : 2 ≤ u.size) {k : Nat} (hno : ∀ j, 2 ≤ j → j < k → ¬ (atB u j = 42 ∧ atB u (j + 1) = 47)) (hk : 2 ≤ k) (h : atB u k = 42 ∧ atB u (k + 1) = 47) : shutAt u 0 = ((k - 2 : Nat) : Int) := by
  unfold shutAt
  rw [extract_all]
  show Lib.index (u.extract 2 u.size).data.toList [42, 47] = _
  have hks : k + 1 < u.size := atB_in (by rw [h.2]; decide)
  have hlen : (u.extract 2 u.size).data.toList.length = u.size - 2 := by
    show (u.extract 2 u.size).size = _
    rw [ByteArray.size_extract]; omega
  have hocc := shut_rest u hu (k - 2)
  rw [show k - 2 + 2 = k by omega, show k - 2 + 3 = k + 1 by omega, decide_eq_true h] at hocc
  rcases Lib.index_spec (u.extract 2 u.size).data.toList [42, 47] with ⟨_, h2⟩ | ⟨q, h1, h2, h3, h4⟩
  · rw [h2 (k - 2) (by omega)] at hocc
    cases hocc
  · rw [h1]
    rw [shut_rest u hu] at h3
    have h3' := of_decide_eq_true h3
    rcases Nat.lt_trichotomy q (k - 2) with hq | hq | hq
    · exact absurd h3' (hno (q + 2) (by omega) (by omega))
    · omega
    · rw [h4 (k - 2) hq] at hocc
      cases hocc
theorem shut_none {u : ByteArray} (hu : 2 ≤ u.size) (hno : ∀ j, 2 ≤ j → j < u.size → ¬ (atB u j = 42 ∧ atB u (j + 1) = 47)) : shutAt u 0 = -1 := by
  unfold shutAt
  rw [extract_all]
  show Lib.index (u.extract 2 u.size).data.toList [42, 47] = _
  rcases Lib.index_spec (u.extract 2 u.size).data.toList [42, 47] with ⟨h1, _⟩ | ⟨q, h1, h2, h3, h4⟩
  · exact h1
  · rw [shut_rest u hu] at h3
    have h3' := of_decide_eq_true h3
    have : q + 2 < u.size := atB_in (by rw [h3'.1]; decide)
    exact absurd h3' (hno (q + 2) (by omega) this)
end Go.Proofs.YtlemnbegblpllaaDoor
