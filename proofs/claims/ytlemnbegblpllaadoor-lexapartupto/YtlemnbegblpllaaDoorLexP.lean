/-
  Proved here: what the document's own Quote answers, and what Quote of package lex does.
-/
import Derived.Test.YtlemnbegblpllaaDoorLexM
import Derived.Test.YtlemnbegblpllaaDoorLexO
namespace Go.Proofs.YtlemnbegblpllaaDoor
open Go.RowKit

/-- A byte as it stands in a file. -/
def qb (b : Nat) : List Nat := if b = 34 ∨ b = 92 then [92, b] else [b]
/-- The first bytes as they stand in a file. -/
def qTo (s : ByteArray) : Nat → List Nat
  | 0 => [34]
  | k + 1 => qTo s k ++ qb (atB s k)
theorem qb_len (b : Nat) : 1 ≤ (qb b).length ∧ (qb b).length ≤ 2 := by
  unfold qb; split <;> simp
theorem qTo_len (s : ByteArray) : ∀ k, (qTo s k).length ≤ 2 * k + 1
  | 0 => Nat.le_refl _
  | k + 1 => by
    show (qTo s k ++ qb (atB s k)).length ≤ _
    rw [List.length_append]
    have := qTo_len s k
    have := qb_len (atB s k)
    omega
/-- No line ends in the first bytes. -/
def noNl (s : ByteArray) (k : Nat) : Prop := ∀ j, j < k → atB s j ≠ 10
/-- A text as it stands in a file. -/
def quoteF (s : ByteArray) : ByteArray := if (∃ j, j < s.size ∧ atB s j = 10) then ⟨#[]⟩ else bts (qTo s s.size ++ [34])
theorem bts_app (a b : List Nat) : bts (a ++ b) = bts a ++ bts b := by
  apply ByteArray.ext
  rw [ByteArray.data_append]
  unfold bts strOfNums
  simp
theorem bts_one (s : ByteArray) (k : Nat) (hk : k < s.size) : s.extract k (k + 1) = bts [atB s k] := by
  have hl : (s.extract k (k + 1)).size = 1 := by rw [ByteArray.size_extract]; omega
  apply ByteArray.ext
  apply Array.ext
  · show (s.extract k (k + 1)).size = _
    rw [hl]; rfl
  · intro i h1 h2
    have hi : i = 0 := by have h3 : i < (s.extract k (k + 1)).size := h1; omega
    subst hi
    have h4 : (s.extract k (k + 1))[0]'(by omega) = s[k + 0]'(by omega) := ByteArray.getElem_extract ..
    show (s.extract k (k + 1))[0]'(by omega) = _
    rw [h4]
    have h5 : atB s k = (s[k]'hk).toNat := by unfold atB; rw [dif_pos hk]; rfl
    show s[k]'hk = UInt8.ofNat ((atB s k : Nat) : Int).toNat
    rw [h5]
    simp

theorem bts_qTo (s : ByteArray) (k : Nat) : (bts (qTo s k)).size ≤ 2 * k + 1 := by
  unfold bts
  rw [strOfNums_size, List.length_map]
  exact qTo_len s k
set_option maxRecDepth 100000 in
set_option maxHeartbeats 3200000 in
theorem refQuote_any (s : ByteArray) (w : World) (hs : s.size < 2305843009213693952) :
    Calls Tryd.prog 20 #[.string s] w fun e w' => e = .returned (.string (quoteF s)) ∧ w' = w := by
  go_enter Tryd.func20, Tryd.ntmps20
  go_wp2_with fail
  go_loopw [3, 4] (fun o t wr => ∃ k : Nat, k ≤ s.size ∧ noNl s k ∧ o = .string (bts (qTo s k)) ∧ t = .int .i64 k ∧ wr = w) (fun _ t _ => s.size - (intOf t).toNat)
  case atStart => exact ⟨0, Nat.zero_le _, fun j h => absurd h (Nat.not_lt_zero _), rfl, rfl, rfl⟩
  case round =>
    obtain ⟨k, hk, hnl, rfl, rfl, hw⟩ := hrel
    obtain rfl : w = wr := hw.symm
    by_cases hlt : k < s.size
    · have hge : (k : Int) < (s.size : Int) := by omega
      have hb : s[k].toNat = atB s k := by unfold atB; rw [dif_pos hlt]; rfl
      have hsl := slice_str s k (k + 1) (k : Int) ((k : Int) + 1) rfl (by omega) (by omega) hlt
      rw [bts_one s k hlt] at hsl
      by_cases h10 : atB s k = 10
      · have HE : Hid (quoteF s = ⟨#[]⟩) := if_pos ⟨k, hlt, h10⟩
        have x10 : ((s[k].toNat : Int) == 10) = true := by rw [hb, h10]; rfl
        clear hb h10 hsl hnl
        generalize bts (qTo s k) = o at *
        go_wp2
        go_ret
        exact ⟨by rw [HE.out]; rfl, by first | trivial | rfl⟩
      · have x10 : ((s[k].toNat : Int) == 10) = false := by rw [hb]; exact nat_beq h10
        have HN : Hid (noNl s (k + 1)) := fun j hj => by
          rcases Nat.lt_or_ge j k with h | h
          · exact hnl j h
          · obtain rfl : j = k := by omega
            exact h10
        by_cases hq : atB s k = 34 ∨ atB s k = 92
        · have HQ : Hid (bts (qTo s k) ++ (⟨#[92]⟩ : ByteArray) ++ bts [atB s k] = bts (qTo s (k + 1))) := by
            show _ = bts (qTo s k ++ qb (atB s k))
            rw [show qb (atB s k) = [92] ++ [atB s k] from if_pos hq, bts_app, bts_app, ← ByteArray.append_assoc]
            rfl
          have hor : ((s[k].toNat : Int) == 34) = true ∨ (((s[k].toNat : Int) == 34) = false ∧ ((s[k].toNat : Int) == 92) = true) := by
            rw [hb]
            exact hq.elim (fun h => Or.inl (by rw [h]; rfl)) (fun h => Or.inr ⟨by rw [h]; rfl, by rw [h]; rfl⟩)
          clear hb h10 hnl hq
          have ho1 : (bts [atB s k]).size = 1 := rfl
          have hso := bts_qTo s k
          generalize bts [atB s k] = o1 at *
          generalize bts (qTo s k) = o at *
          have hs1 : ¬ 9223372036854775807 < o.size + o1.size := by omega
          have hs2 : ¬ 9223372036854775807 < o.size + 1 := by omega
          have hs3 : ¬ 9223372036854775807 < (o ++ (⟨#[92]⟩ : ByteArray)).size + o1.size := by rw [ByteArray.size_append]; have : (⟨#[92]⟩ : ByteArray).size = 1 := rfl; omega
          have hs4 : ¬ 9223372036854775807 < o.size + 1 + 1 := by omega
          have hs5 : ¬ 9223372036854775807 < o.size + 1 + o1.size := by omega
          rcases hor with y1 | ⟨y1, y2⟩
          · go_wp2
            go_roundw
            case rel => exact ⟨k + 1, by omega, HN.out, by rw [← HQ.out], by go_num, by first | trivial | rfl⟩
            case measure => simp [intOf]; omega
          · go_wp2
            go_roundw
            case rel => exact ⟨k + 1, by omega, HN.out, by rw [← HQ.out], by go_num, by first | trivial | rfl⟩
            case measure => simp [intOf]; omega
        · have HQ : Hid (bts (qTo s k) ++ bts [atB s k] = bts (qTo s (k + 1))) := by
            show _ = bts (qTo s k ++ qb (atB s k))
            rw [show qb (atB s k) = [atB s k] from if_neg hq, bts_app]
          have y1 : ((s[k].toNat : Int) == 34) = false := by rw [hb]; exact nat_beq (fun e => hq (Or.inl e))
          have y2 : ((s[k].toNat : Int) == 92) = false := by rw [hb]; exact nat_beq (fun e => hq (Or.inr e))
          clear hb h10 hnl hq
          have ho1 : (bts [atB s k]).size = 1 := rfl
          have hso := bts_qTo s k
          generalize bts [atB s k] = o1 at *
          generalize bts (qTo s k) = o at *
          have hs1 : ¬ 9223372036854775807 < o.size + o1.size := by omega
          have hs2 : ¬ 9223372036854775807 < o.size + 1 := by omega
          have hs3 : ¬ 9223372036854775807 < (o ++ (⟨#[92]⟩ : ByteArray)).size + o1.size := by rw [ByteArray.size_append]; have : (⟨#[92]⟩ : ByteArray).size = 1 := rfl; omega
          have hs4 : ¬ 9223372036854775807 < o.size + 1 + 1 := by omega
          have hs5 : ¬ 9223372036854775807 < o.size + 1 + o1.size := by omega
          go_wp2
          go_roundw
          case rel => exact ⟨k + 1, by omega, HN.out, by rw [← HQ.out], by go_num, by first | trivial | rfl⟩
          case measure => simp [intOf]; omega
    · have hge : ¬ (k : Int) < (s.size : Int) := by omega
      obtain rfl : k = s.size := by omega
      have HE : Hid (quoteF s = bts (qTo s s.size) ++ ⟨#[34]⟩) := by
        show _ = _
        unfold quoteF
        rw [if_neg (fun ⟨j, h1, h2⟩ => hnl j h1 h2), bts_app]
        rfl
      have hso := bts_qTo s s.size
      clear hnl hlt
      generalize bts (qTo s s.size) = o at *
      have hs1 : ¬ 9223372036854775807 < o.size + (⟨#[34]⟩ : ByteArray).size := by have : (⟨#[34]⟩ : ByteArray).size = 1 := rfl; omega
      have hs2 : ¬ 9223372036854775807 < o.size + 1 := by omega
      go_wp2
      go_ret
      exact ⟨by rw [HE.out]; rfl, by first | trivial | rfl⟩
end Go.Proofs.YtlemnbegblpllaaDoor
