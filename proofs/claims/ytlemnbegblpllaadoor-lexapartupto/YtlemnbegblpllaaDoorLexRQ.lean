/-
  Proved here: what the document's own quoted answers.
-/
import Derived.Test.YtlemnbegblpllaaDoorLexIAll
import Derived.Test.YtlemnbegblpllaaDoorLexQuotedM
namespace Go.Proofs.YtlemnbegblpllaaDoor
open Go.RowKit
theorem nat_bne {b k : Nat} (h : b ≠ k) : ((b : Int) != (k : Int)) = true := by
  have := nat_beq h
  simp only [bne, this]
  rfl
/-- What the document's quoted tells. -/
def quotedR : Option (List Nat × Nat) → Value
  | some (l, j) => .tuple #[.int .i64 (j : Int), .string (bts l), .bool true]
  | none => .tuple #[.int .i64 0, .string ⟨#[]⟩, .bool false]
set_option maxRecDepth 100000 in
set_option maxHeartbeats 6400000 in
theorem quotedR_any (u : ByteArray) (w : World) (hs : u.size < 2305843009213693952) :
    Calls Tryd.prog 48 #[.string u] w fun e w' => e = .returned (quotedR (qF u (u.size + 1) 1 [])) ∧ w' = w := by
  obtain ⟨R, hR⟩ : ∃ R, R = qF u (u.size + 1) 1 [] := ⟨_, rfl⟩
  rw [← hR]
  have ha := fun i w => atR_any u i w
  go_enter Tryd.func48, Tryd.ntmps48
  go_wp2_with fail
  go_loopw [5, 6] (fun o t wr => ∃ (k : Nat) (acc : List Nat) (n : Nat), acc.length ≤ k ∧ k ≤ u.size + 1 ∧ u.size < k + n ∧ qF u n k acc = R ∧ o = .string (bts acc) ∧ t = .int .i64 k ∧ wr = w) (fun _ t _ => u.size + 1 - (intOf t).toNat)
  case atStart => exact ⟨1, [], u.size + 1, Nat.zero_le _, by omega, by omega, hR.symm, rfl, rfl, rfl⟩
  case round =>
    clear hR
    obtain ⟨k, acc, n, hal, hku, hn, hq, rfl, rfl, hw⟩ := hrel
    obtain rfl : w = wr := hw.symm
    have hz := bts_size acc
    by_cases hlt : k < u.size
    · have hge : (k : Int) < (u.size : Int) := by omega
      obtain ⟨n, rfl⟩ : ∃ m, n = m + 1 := ⟨n - 1, by omega⟩
      have hb : u[k].toNat = atB u k := by unfold atB; rw [dif_pos hlt]; rfl
      unfold qF at hq
      rw [if_pos hlt] at hq
      by_cases h34 : atB u k = 34
      · rw [if_pos h34] at hq
        have HE : Hid ((.tuple #[.int .i64 ((k : Int) + 1), .string (bts acc), .bool true] : Value) = quotedR R) := by show _ = _; rw [← hq]; rfl
        have x1 : ((u[k].toNat : Int) == 34) = true := by rw [hb, h34]; rfl
        clear hb h34 hq ha
        generalize bts acc = o at *
        go_wp2
        (try simp only [Exit.inBlock, Exit.then])
        refine bodyPost_ret (results_tmp3 rfl _ _ _) rfl ?_
        exact ⟨congrArg Ending.returned HE.out, by first | trivial | rfl⟩
      · rw [if_neg h34] at hq
        have x1 : ((u[k].toNat : Int) == 34) = false := by rw [hb]; exact nat_beq h34
        by_cases h10 : atB u k = 10
        · rw [if_pos h10] at hq
          have HE : Hid ((.tuple #[.int .i64 0, .string ⟨#[]⟩, .bool false] : Value) = quotedR R) := by show _ = _; rw [← hq]; rfl
          have x2 : ((u[k].toNat : Int) == 10) = true := by rw [hb, h10]; rfl
          clear hb h34 h10 hq ha
          generalize bts acc = o at *
          go_wp2
          (try simp only [Exit.inBlock, Exit.then])
          refine bodyPost_ret (results_tmp3 rfl _ _ _) rfl ?_
          exact ⟨congrArg Ending.returned HE.out, by first | trivial | rfl⟩
        · rw [if_neg h10] at hq
          have x2 : ((u[k].toNat : Int) == 10) = false := by rw [hb]; exact nat_beq h10
          by_cases h92 : atB u k = 92
          · rw [if_pos h92] at hq
            have x3 : ((u[k].toNat : Int) == 92) = true := by rw [hb, h92]; rfl
            have hk1 := fun w => ha (k + 1) w
            by_cases hc : atB u (k + 1) = 34 ∨ atB u (k + 1) = 92
            · rw [if_pos hc] at hq
              have hin : k + 1 < u.size := atB_in (by rcases hc with h | h <;> rw [h] <;> decide)
              have hsl := slice_str u (k + 1) (k + 2) ((k : Int) + 1) ((k : Int) + 1 + 1) (by omega) (by omega) (by omega) hin
              rw [bts_one u (k + 1) hin] at hsl
              have HQ : Hid (bts acc ++ bts [atB u (k + 1)] = bts (acc ++ [atB u (k + 1)])) := (bts_app _ _).symm
              have HR : Hid (qF u n (k + 2) (acc ++ [atB u (k + 1)]) = R) := hq
              have HL : Hid ((acc ++ [atB u (k + 1)]).length ≤ k + 2) := by show _ ≤ _; rw [List.length_append, List.length_singleton]; omega
              have hor : (((atB u (k + 1) : Int) != 34) = false) ∨ (((atB u (k + 1) : Int) != 34) = true ∧ ((atB u (k + 1) : Int) != 92) = false) := hc.elim (fun h => .inl (by rw [h]; rfl)) (fun h => .inr ⟨by rw [h]; rfl, by rw [h]; rfl⟩)
              have ho1 : (bts [atB u (k + 1)]).size = 1 := rfl
              clear hb h34 h10 h92 hq ha hc
              generalize bts [atB u (k + 1)] = o1 at *
              generalize bts acc = o at *
              have hs1 : ¬ 9223372036854775807 < o.size + o1.size := by omega
              have hs2 : ¬ 9223372036854775807 < o.size + 1 := by omega
              have hqc := atB_lt u (k + 1)
              rcases hor with y1 | ⟨y1, y2⟩
              · go_wp2_with (go_at_call 47; refine (hk1 _).mono ?_; rintro e w2 ⟨rfl, rfl⟩)
                go_roundw
                case rel => exact ⟨k + 2, _, n, HL.out, by omega, by omega, HR.out, by rw [← HQ.out], by go_num, by first | trivial | rfl⟩
                case measure => simp [intOf]; omega
              · go_wp2_with (go_at_call 47; refine (hk1 _).mono ?_; rintro e w2 ⟨rfl, rfl⟩)
                go_roundw
                case rel => exact ⟨k + 2, _, n, HL.out, by omega, by omega, HR.out, by rw [← HQ.out], by go_num, by first | trivial | rfl⟩
                case measure => simp [intOf]; omega
            · rw [if_neg hc] at hq
              have HE : Hid ((.tuple #[.int .i64 0, .string ⟨#[]⟩, .bool false] : Value) = quotedR R) := by show _ = _; rw [← hq]; rfl
              have y1 : ((atB u (k + 1) : Int) != 34) = true := nat_bne (fun h => hc (.inl h))
              have y2 : ((atB u (k + 1) : Int) != 92) = true := nat_bne (fun h => hc (.inr h))
              clear hb h34 h10 h92 hq ha hc
              generalize bts acc = o at *
              go_wp2_with (go_at_call 47; refine (hk1 _).mono ?_; rintro e w2 ⟨rfl, rfl⟩)
              (try simp only [Exit.inBlock, Exit.then])
              refine bodyPost_ret (results_tmp3 rfl _ _ _) rfl ?_
              exact ⟨congrArg Ending.returned HE.out, by first | trivial | rfl⟩
          · rw [if_neg h92] at hq
            have x3 : ((u[k].toNat : Int) == 92) = false := by rw [hb]; exact nat_beq h92
            have hsl := slice_str u k (k + 1) (k : Int) ((k : Int) + 1) rfl (by omega) (by omega) hlt
            rw [bts_one u k hlt] at hsl
            have HQ : Hid (bts acc ++ bts [atB u k] = bts (acc ++ [atB u k])) := (bts_app _ _).symm
            have HR : Hid (qF u n (k + 1) (acc ++ [atB u k]) = R) := hq
            have HL : Hid ((acc ++ [atB u k]).length ≤ k + 1) := by show _ ≤ _; rw [List.length_append, List.length_singleton]; omega
            have ho1 : (bts [atB u k]).size = 1 := rfl
            clear hb h34 h10 h92 hq ha
            generalize bts [atB u k] = o1 at *
            generalize bts acc = o at *
            have hs1 : ¬ 9223372036854775807 < o.size + o1.size := by omega
            have hs2 : ¬ 9223372036854775807 < o.size + 1 := by omega
            go_wp2
            go_roundw
            case rel => exact ⟨k + 1, _, n, HL.out, by omega, by omega, HR.out, by rw [← HQ.out], by go_num, by first | trivial | rfl⟩
            case measure => simp [intOf]; omega
    · have hge : ¬ (k : Int) < (u.size : Int) := by omega
      have HE : Hid ((.tuple #[.int .i64 0, .string ⟨#[]⟩, .bool false] : Value) = quotedR R) := by
        show _ = _
        rw [← hq]
        cases n with
        | zero => rfl
        | succ n => unfold qF; rw [if_neg hlt]; rfl
      clear hq ha
      generalize bts acc = o at *
      go_wp2
      (try simp only [Exit.inBlock, Exit.then])
      refine bodyPost_ret (results_tmp3 rfl _ _ _) rfl ?_
      exact ⟨congrArg Ending.returned HE.out, by first | trivial | rfl⟩
end Go.Proofs.YtlemnbegblpllaaDoor
