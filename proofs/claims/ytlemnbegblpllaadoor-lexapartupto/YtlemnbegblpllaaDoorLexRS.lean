/-
  Proved here: what the document's own skipped answers.
-/
import Derived.Test.YtlemnbegblpllaaDoorLexRP
namespace Go.Proofs.YtlemnbegblpllaaDoor
open Go.RowKit
/-- How many bytes of a blank or a comment stand at the beginning; -1: a comment that is not closed. -/
def skip1 (u : ByteArray) : Int :=
  if kd (atB u 0) = 1 then 1
  else if atB u 0 = 47 ∧ atB u 1 = 47 then (lineLen u 0 : Int)
  else if atB u 0 = 47 ∧ atB u 1 = 42 then (if shutAt u 0 < 0 then -1 else 2 + shutAt u 0 + 2)
  else 0
set_option maxRecDepth 100000 in
set_option maxHeartbeats 6400000 in
theorem skippedR_any (u : ByteArray) (w : World) (hs : u.size < 2305843009213693952) (h1 : 1 ≤ u.size) :
    Calls Tryd.prog 44 #[.string u] w fun e w' => e = .returned (.int .i64 (skip1 u)) ∧ w' = w := by
  obtain ⟨S, hS⟩ : ∃ S, S = skip1 u := ⟨_, rfl⟩
  rw [← hS]
  have HS0 : Hid (S = skip1 u) := hS
  clear hS
  have HB0 : Hid (u[0].toNat = atB u 0) := by unfold atB; rw [dif_pos (by omega)]; rfl
  have hbl := fun w => blankR_any (u[0].toNat) w
  have ha1 : ∀ w, Calls Tryd.prog 47 #[.string u, .int .i64 1] w fun e w' => e = .returned (.int .u8 (atB u 1 : Nat)) ∧ w' = w := fun w => atR_any u 1 w
  have hz0 : (0 : Int) < (u.size : Int) := by omega
  go_enter Tryd.func44, Tryd.ntmps44
  go_wp2_with fail
  refine (hbl _).mono ?_
  rintro e w2 ⟨rfl, rfl⟩
  have hS := HS0.out
  have hb0 := HB0.out
  unfold skip1 at hS
  clear HS0 HB0
  rw [hb0]
  clear hbl
  by_cases hk : kd (atB u 0) = 1
  · rw [if_pos hk] at hS
    subst hS
    have hkb : (kd (atB u 0) == 1) = true := by rw [hk]; rfl
    rw [hkb]
    clear ha1 hb0 hk hkb
    go_wp2
    go_ret
    exact ⟨rfl, by first | trivial | rfl⟩
  · rw [if_neg hk] at hS
    have hkb : (kd (atB u 0) == 1) = false := beq_eq_false_iff_ne.2 hk
    rw [hkb]
    clear hk hkb
    by_cases h0 : atB u 0 = 47
    · have x0 : ((u[0].toNat : Int) != 47) = false := by rw [hb0, h0]; rfl
      by_cases hc : atB u 1 = 47 ∨ atB u 1 = 42
      · have h2 : 2 ≤ u.size := by
          have : 1 < u.size := atB_in (by rcases hc with h | h <;> rw [h] <;> decide)
          omega
        have hb1 : u[1].toNat = atB u 1 := by unfold atB; rw [dif_pos (by omega)]; rfl
        have hz1 : (1 : Int) < (u.size : Int) := by omega
        have ha := fun i w => atR_any u i w
        by_cases hd : atB u 1 = 47
        · rw [if_pos ⟨h0, hd⟩] at hS
          have y1 : ((atB u 1 : Int) != 47) = false := by rw [hd]; rfl
          have y2 : ((u[1].toNat : Int) == 47) = true := by rw [hb1, hd]; rfl
          have y3 : ((u[1].toNat : Int) == 42) = false := by rw [hb1, hd]; rfl
          have HS : Hid (S = (lineLen u 0 : Int)) := hS
          have HN : Hid (∀ j, j < 2 → atB u j ≠ 10) := fun j hj => by
            match j, hj with
            | 0, _ => rw [h0]; decide
            | 1, _ => rw [hd]; decide
          clear hS hc h0 hd hb0 hb1
          go_wp2_with (go_at_call 47; refine (ha1 _).mono ?_; rintro e w2 ⟨rfl, rfl⟩)
          clear ha1 y1 x0
          go_loopw [4] (fun t wr => ∃ k : Nat, 2 ≤ k ∧ k ≤ u.size ∧ (∀ j, j < k → atB u j ≠ 10) ∧ t = .int .i64 k ∧ wr = w2) (fun t _ => u.size - (intOf t).toNat)
          case atStart => exact ⟨2, Nat.le_refl _, h2, HN.out, rfl, rfl⟩
          case round =>
            clear HN
            obtain ⟨k, hk2, hku, hno, rfl, hw⟩ := hrel
            obtain rfl : w2 = wr := hw.symm
            by_cases hlt : k < u.size
            · have hge : (k : Int) < (u.size : Int) := by omega
              have hbk : u[k].toNat = atB u k := by unfold atB; rw [dif_pos hlt]; rfl
              by_cases h10 : atB u k = 10
              · have HE : Hid (S = (k : Int)) := by show _ = _; rw [HS.out, lineLen_here hno hku (.inr h10)]
                have z1 : ((u[k].toNat : Int) == 10) = true := by rw [hbk, h10]; rfl
                clear HS hno hbk h10
                go_wp2
                go_ret
                exact ⟨congrArg (fun z => Ending.returned (.int .i64 z)) HE.out.symm, by first | trivial | rfl⟩
              · have z1 : ((u[k].toNat : Int) == 10) = false := by rw [hbk]; exact nat_beq h10
                have HN : Hid (∀ j, j < k + 1 → atB u j ≠ 10) := fun j hj => by
                  rcases Nat.lt_or_ge j k with h | h
                  · exact hno j h
                  · obtain rfl : j = k := by omega
                    exact h10
                clear hno hbk h10
                go_wp2
                go_roundw
                case rel => exact ⟨k + 1, by omega, by omega, HN.out, by go_num, by first | trivial | rfl⟩
                case measure => simp [intOf]; omega
            · have hge : ¬ (k : Int) < (u.size : Int) := by omega
              obtain rfl : k = u.size := by omega
              have HE : Hid (S = (u.size : Int)) := by show _ = _; rw [HS.out, lineLen_here hno hku (.inl rfl)]
              clear HS hno
              go_wp2
              go_ret
              exact ⟨congrArg (fun z => Ending.returned (.int .i64 z)) HE.out.symm, by first | trivial | rfl⟩
        · have hd2 : atB u 1 = 42 := by rcases hc with h | h; exact absurd h hd; exact h
          rw [if_neg (fun h => hd h.2), if_pos ⟨h0, hd2⟩] at hS
          have y1 : ((atB u 1 : Int) != 47) = true := nat_bne hd
          have y1b : ((atB u 1 : Int) != 42) = false := by rw [hd2]; rfl
          have y2 : ((u[1].toNat : Int) == 47) = false := by rw [hb1]; exact nat_beq hd
          have y3 : ((u[1].toNat : Int) == 42) = true := by rw [hb1, hd2]; rfl
          have HS : Hid (S = (if shutAt u 0 < 0 then -1 else 2 + shutAt u 0 + 2)) := hS
          clear hS hc h0 hd hd2 hb0 hb1
          go_wp2_with (go_at_call 47; refine (ha1 _).mono ?_; rintro e w2 ⟨rfl, rfl⟩)
          clear ha1 y1 y1b x0
          go_loopw [4] (fun t wr => ∃ k : Nat, 2 ≤ k ∧ k ≤ u.size ∧ (∀ j, 2 ≤ j → j < k → ¬ (atB u j = 42 ∧ atB u (j + 1) = 47)) ∧ t = .int .i64 k ∧ wr = w2) (fun t _ => u.size - (intOf t).toNat)
          case atStart => exact ⟨2, Nat.le_refl _, h2, fun j a b => by omega, rfl, rfl⟩
          case round =>
            obtain ⟨k, hk2, hku, hno, rfl, hw⟩ := hrel
            obtain rfl : w2 = wr := hw.symm
            by_cases hlt : k < u.size
            · have hge : (k : Int) < (u.size : Int) := by omega
              have hbk : u[k].toNat = atB u k := by unfold atB; rw [dif_pos hlt]; rfl
              have hak := fun w => ha (k + 1) w
              by_cases h42 : atB u k = 42
              · have z1 : ((u[k].toNat : Int) == 42) = true := by rw [hbk, h42]; rfl
                by_cases h47 : atB u (k + 1) = 47
                · have z2 : ((atB u (k + 1) : Int) == 47) = true := by rw [h47]; rfl
                  have HE : Hid (S = (k : Int) + 2) := by
                    show _ = _
                    rw [HS.out, shut_here h2 hno hk2 ⟨h42, h47⟩, if_neg (by omega)]
                    omega
                  clear HS hno hbk h42 h47 ha
                  go_wp2_with (go_at_call 47; refine (hak _).mono ?_; rintro e w3 ⟨rfl, rfl⟩)
                  go_ret
                  exact ⟨congrArg (fun z => Ending.returned (.int .i64 z)) HE.out.symm, by first | trivial | rfl⟩
                · have z2 : ((atB u (k + 1) : Int) == 47) = false := nat_beq h47
                  have HN : Hid (∀ j, 2 ≤ j → j < k + 1 → ¬ (atB u j = 42 ∧ atB u (j + 1) = 47)) := fun j hj1 hj2 => by
                    rcases Nat.lt_or_ge j k with h | h
                    · exact hno j hj1 h
                    · obtain rfl : j = k := by omega
                      exact fun h => h47 h.2
                  clear hno hbk h42 h47 ha
                  go_wp2_with (go_at_call 47; refine (hak _).mono ?_; rintro e w3 ⟨rfl, rfl⟩)
                  go_roundw
                  case rel => exact ⟨k + 1, by omega, by omega, HN.out, by go_num, by first | trivial | rfl⟩
                  case measure => simp [intOf]; omega
              · have z1 : ((u[k].toNat : Int) == 42) = false := by rw [hbk]; exact nat_beq h42
                have HN : Hid (∀ j, 2 ≤ j → j < k + 1 → ¬ (atB u j = 42 ∧ atB u (j + 1) = 47)) := fun j hj1 hj2 => by
                  rcases Nat.lt_or_ge j k with h | h
                  · exact hno j hj1 h
                  · obtain rfl : j = k := by omega
                    exact fun h => h42 h.1
                clear hno hbk h42 ha hak
                go_wp2
                go_roundw
                case rel => exact ⟨k + 1, by omega, by omega, HN.out, by go_num, by first | trivial | rfl⟩
                case measure => simp [intOf]; omega
            · have hge : ¬ (k : Int) < (u.size : Int) := by omega
              obtain rfl : k = u.size := by omega
              have HE : Hid (S = -1) := by show _ = _; rw [HS.out, shut_none h2 hno, if_pos (by decide)]
              clear HS hno ha
              go_wp2
              go_ret
              exact ⟨congrArg (fun z => Ending.returned (.int .i64 z)) HE.out.symm, by first | trivial | rfl⟩
      · have y1 : ((atB u 1 : Int) != 47) = true := nat_bne (fun h => hc (.inl h))
        have y2 : ((atB u 1 : Int) != 42) = true := nat_bne (fun h => hc (.inr h))
        rw [if_neg (fun h => hc (.inl h.2)), if_neg (fun h => hc (.inr h.2))] at hS
        subst hS
        clear hb0 h0 hc
        go_wp2_with (go_at_call 47; refine (ha1 _).mono ?_; rintro e w2 ⟨rfl, rfl⟩)
        go_ret
        exact ⟨rfl, by first | trivial | rfl⟩
    · have x0 : ((u[0].toNat : Int) != 47) = true := by rw [hb0]; exact nat_bne h0
      rw [if_neg (fun h => h0 h.1), if_neg (fun h => h0 h.1)] at hS
      subst hS
      clear hb0 h0
      go_wp2_with (go_at_call 47; refine (ha1 _).mono ?_; rintro e w2 ⟨rfl, rfl⟩)
      go_ret
      exact ⟨rfl, by first | trivial | rfl⟩
end Go.Proofs.YtlemnbegblpllaaDoor
