/-
  Proved here: what kindOf and byteAt of package lex answer.
-/
import Derived.WalkKit
import Derived.LoopTactic
import Derived.Deep.QuietTactic
import Derived.Test.YtlemnbegblpllaaDoorProg
namespace Go.Proofs.YtlemnbegblpllaaDoor
open Go.RowKit

/-- What a byte begins. -/
def kd (b : Nat) : Int :=
  if b = 32 ∨ b = 9 ∨ b = 10 ∨ b = 13 then 1
  else if b = 34 then 4
  else if b = 123 ∨ b = 125 ∨ b = 40 ∨ b = 41 ∨ b = 91 ∨ b = 93 ∨ b = 44 ∨ b = 59 ∨ b = 124 ∨ b = 61 ∨ b = 43 ∨ b = 45 ∨ b = 42 ∨ b = 47 then 5
  else if b = 95 then 2
  else if (65 ≤ b ∧ b ≤ 90) ∨ (97 ≤ b ∧ b ≤ 122) then 2
  else if 48 ≤ b ∧ b ≤ 57 then 3
  else 0

theorem ne_beq {b : Nat} {k : Int} (h : (b : Int) ≠ k) : ((b : Int) == k) = false := beq_eq_false_iff_ne.2 h
set_option maxRecDepth 100000 in
set_option maxHeartbeats 6400000 in
theorem kindOf_l1 (b : Nat) (w : World) (h : b = 32 ∨ b = 9 ∨ b = 10 ∨ b = 13) :
    Calls Tryd.prog 28 #[.int .u8 (b : Int)] w fun e w' => e = .returned (.int .i8 1) ∧ w' = w := by
  rcases h with rfl | rfl | rfl | rfl
  all_goals
    go_enter Tryd.func28, Tryd.ntmps28
    go_wp2
    go_ret
    exact ⟨rfl, rfl⟩
set_option maxRecDepth 100000 in
set_option maxHeartbeats 6400000 in
theorem kindOf_l4 (b : Nat) (w : World) (h : b = 34) :
    Calls Tryd.prog 28 #[.int .u8 (b : Int)] w fun e w' => e = .returned (.int .i8 4) ∧ w' = w := by
  subst h
  go_enter Tryd.func28, Tryd.ntmps28
  go_wp2
  go_ret
  exact ⟨rfl, rfl⟩
set_option maxRecDepth 100000 in
set_option maxHeartbeats 6400000 in
theorem kindOf_l5 (b : Nat) (w : World) (h : b = 123 ∨ b = 125 ∨ b = 40 ∨ b = 41 ∨ b = 91 ∨ b = 93 ∨ b = 44 ∨ b = 59 ∨ b = 124 ∨ b = 61 ∨ b = 43 ∨ b = 45 ∨ b = 42 ∨ b = 47) :
    Calls Tryd.prog 28 #[.int .u8 (b : Int)] w fun e w' => e = .returned (.int .i8 5) ∧ w' = w := by
  rcases h with rfl | rfl | rfl | rfl | rfl | rfl | rfl | rfl | rfl | rfl | rfl | rfl | rfl | rfl
  all_goals
    go_enter Tryd.func28, Tryd.ntmps28
    go_wp2
    go_ret
    exact ⟨rfl, rfl⟩
set_option maxRecDepth 100000 in
set_option maxHeartbeats 6400000 in
theorem kindOf_l2 (b : Nat) (w : World) (h : b = 95) :
    Calls Tryd.prog 28 #[.int .u8 (b : Int)] w fun e w' => e = .returned (.int .i8 2) ∧ w' = w := by
  subst h
  go_enter Tryd.func28, Tryd.ntmps28
  go_wp2
  go_ret
  exact ⟨rfl, rfl⟩
set_option maxRecDepth 100000 in
set_option maxHeartbeats 6400000 in
theorem kindOf_up (b : Nat) (w : World) (h : 65 ≤ b ∧ b ≤ 90) :
    Calls Tryd.prog 28 #[.int .u8 (b : Int)] w fun e w' => e = .returned (.int .i8 2) ∧ w' = w := by
  have e32 : ((b : Int) == 32) = false := ne_beq (by omega)
  have e9 : ((b : Int) == 9) = false := ne_beq (by omega)
  have e10 : ((b : Int) == 10) = false := ne_beq (by omega)
  have e13 : ((b : Int) == 13) = false := ne_beq (by omega)
  have e34 : ((b : Int) == 34) = false := ne_beq (by omega)
  have e123 : ((b : Int) == 123) = false := ne_beq (by omega)
  have e125 : ((b : Int) == 125) = false := ne_beq (by omega)
  have e40 : ((b : Int) == 40) = false := ne_beq (by omega)
  have e41 : ((b : Int) == 41) = false := ne_beq (by omega)
  have e91 : ((b : Int) == 91) = false := ne_beq (by omega)
  have e93 : ((b : Int) == 93) = false := ne_beq (by omega)
  have e44 : ((b : Int) == 44) = false := ne_beq (by omega)
  have e59 : ((b : Int) == 59) = false := ne_beq (by omega)
  have e124 : ((b : Int) == 124) = false := ne_beq (by omega)
  have e61 : ((b : Int) == 61) = false := ne_beq (by omega)
  have e43 : ((b : Int) == 43) = false := ne_beq (by omega)
  have e45 : ((b : Int) == 45) = false := ne_beq (by omega)
  have e42 : ((b : Int) == 42) = false := ne_beq (by omega)
  have e47 : ((b : Int) == 47) = false := ne_beq (by omega)
  have e95 : ((b : Int) == 95) = false := ne_beq (by omega)
  have g1 : (65 : Int) ≤ b := by omega
  have g2 : (b : Int) ≤ 90 := by omega
  clear h
  go_enter Tryd.func28, Tryd.ntmps28
  go_wp2
  go_ret
  exact ⟨rfl, rfl⟩
set_option maxRecDepth 100000 in
set_option maxHeartbeats 6400000 in
theorem kindOf_lo (b : Nat) (w : World) (h : 97 ≤ b ∧ b ≤ 122) :
    Calls Tryd.prog 28 #[.int .u8 (b : Int)] w fun e w' => e = .returned (.int .i8 2) ∧ w' = w := by
  have e32 : ((b : Int) == 32) = false := ne_beq (by omega)
  have e9 : ((b : Int) == 9) = false := ne_beq (by omega)
  have e10 : ((b : Int) == 10) = false := ne_beq (by omega)
  have e13 : ((b : Int) == 13) = false := ne_beq (by omega)
  have e34 : ((b : Int) == 34) = false := ne_beq (by omega)
  have e123 : ((b : Int) == 123) = false := ne_beq (by omega)
  have e125 : ((b : Int) == 125) = false := ne_beq (by omega)
  have e40 : ((b : Int) == 40) = false := ne_beq (by omega)
  have e41 : ((b : Int) == 41) = false := ne_beq (by omega)
  have e91 : ((b : Int) == 91) = false := ne_beq (by omega)
  have e93 : ((b : Int) == 93) = false := ne_beq (by omega)
  have e44 : ((b : Int) == 44) = false := ne_beq (by omega)
  have e59 : ((b : Int) == 59) = false := ne_beq (by omega)
  have e124 : ((b : Int) == 124) = false := ne_beq (by omega)
  have e61 : ((b : Int) == 61) = false := ne_beq (by omega)
  have e43 : ((b : Int) == 43) = false := ne_beq (by omega)
  have e45 : ((b : Int) == 45) = false := ne_beq (by omega)
  have e42 : ((b : Int) == 42) = false := ne_beq (by omega)
  have e47 : ((b : Int) == 47) = false := ne_beq (by omega)
  have e95 : ((b : Int) == 95) = false := ne_beq (by omega)
  have g1 : (65 : Int) ≤ b := by omega
  have g2 : ¬ (b : Int) ≤ 90 := by omega
  have g3 : (97 : Int) ≤ b := by omega
  have g4 : (b : Int) ≤ 122 := by omega
  clear h
  go_enter Tryd.func28, Tryd.ntmps28
  go_wp2
  go_ret
  exact ⟨rfl, rfl⟩
set_option maxRecDepth 100000 in
set_option maxHeartbeats 6400000 in
theorem kindOf_dg (b : Nat) (w : World) (h : 48 ≤ b ∧ b ≤ 57) :
    Calls Tryd.prog 28 #[.int .u8 (b : Int)] w fun e w' => e = .returned (.int .i8 3) ∧ w' = w := by
  have e32 : ((b : Int) == 32) = false := ne_beq (by omega)
  have e9 : ((b : Int) == 9) = false := ne_beq (by omega)
  have e10 : ((b : Int) == 10) = false := ne_beq (by omega)
  have e13 : ((b : Int) == 13) = false := ne_beq (by omega)
  have e34 : ((b : Int) == 34) = false := ne_beq (by omega)
  have e123 : ((b : Int) == 123) = false := ne_beq (by omega)
  have e125 : ((b : Int) == 125) = false := ne_beq (by omega)
  have e40 : ((b : Int) == 40) = false := ne_beq (by omega)
  have e41 : ((b : Int) == 41) = false := ne_beq (by omega)
  have e91 : ((b : Int) == 91) = false := ne_beq (by omega)
  have e93 : ((b : Int) == 93) = false := ne_beq (by omega)
  have e44 : ((b : Int) == 44) = false := ne_beq (by omega)
  have e59 : ((b : Int) == 59) = false := ne_beq (by omega)
  have e124 : ((b : Int) == 124) = false := ne_beq (by omega)
  have e61 : ((b : Int) == 61) = false := ne_beq (by omega)
  have e43 : ((b : Int) == 43) = false := ne_beq (by omega)
  have e45 : ((b : Int) == 45) = false := ne_beq (by omega)
  have e42 : ((b : Int) == 42) = false := ne_beq (by omega)
  have e47 : ((b : Int) == 47) = false := ne_beq (by omega)
  have e95 : ((b : Int) == 95) = false := ne_beq (by omega)
  have g1 : ¬ (65 : Int) ≤ b := by omega
  have g2 : ¬ (97 : Int) ≤ b := by omega
  have g3 : (48 : Int) ≤ b := by omega
  have g4 : (b : Int) ≤ 57 := by omega
  clear h
  go_enter Tryd.func28, Tryd.ntmps28
  go_wp2
  go_ret
  exact ⟨rfl, rfl⟩
set_option maxRecDepth 100000 in
set_option maxHeartbeats 6400000 in
theorem kindOf_st (b : Nat) (w : World) (h : ¬ (65 ≤ b ∧ b ≤ 90) ∧ ¬ (97 ≤ b ∧ b ≤ 122) ∧ ¬ (48 ≤ b ∧ b ≤ 57)) (hn : b ≠ 32 ∧ b ≠ 9 ∧ b ≠ 10 ∧ b ≠ 13 ∧ b ≠ 34 ∧ b ≠ 123 ∧ b ≠ 125 ∧ b ≠ 40 ∧ b ≠ 41 ∧ b ≠ 91 ∧ b ≠ 93 ∧ b ≠ 44 ∧ b ≠ 59 ∧ b ≠ 124 ∧ b ≠ 61 ∧ b ≠ 43 ∧ b ≠ 45 ∧ b ≠ 42 ∧ b ≠ 47 ∧ b ≠ 95) :
    Calls Tryd.prog 28 #[.int .u8 (b : Int)] w fun e w' => e = .returned (.int .i8 0) ∧ w' = w := by
  have e32 : ((b : Int) == 32) = false := ne_beq (by omega)
  have e9 : ((b : Int) == 9) = false := ne_beq (by omega)
  have e10 : ((b : Int) == 10) = false := ne_beq (by omega)
  have e13 : ((b : Int) == 13) = false := ne_beq (by omega)
  have e34 : ((b : Int) == 34) = false := ne_beq (by omega)
  have e123 : ((b : Int) == 123) = false := ne_beq (by omega)
  have e125 : ((b : Int) == 125) = false := ne_beq (by omega)
  have e40 : ((b : Int) == 40) = false := ne_beq (by omega)
  have e41 : ((b : Int) == 41) = false := ne_beq (by omega)
  have e91 : ((b : Int) == 91) = false := ne_beq (by omega)
  have e93 : ((b : Int) == 93) = false := ne_beq (by omega)
  have e44 : ((b : Int) == 44) = false := ne_beq (by omega)
  have e59 : ((b : Int) == 59) = false := ne_beq (by omega)
  have e124 : ((b : Int) == 124) = false := ne_beq (by omega)
  have e61 : ((b : Int) == 61) = false := ne_beq (by omega)
  have e43 : ((b : Int) == 43) = false := ne_beq (by omega)
  have e45 : ((b : Int) == 45) = false := ne_beq (by omega)
  have e42 : ((b : Int) == 42) = false := ne_beq (by omega)
  have e47 : ((b : Int) == 47) = false := ne_beq (by omega)
  have e95 : ((b : Int) == 95) = false := ne_beq (by omega)
  have h4 : (b < 48) ∨ (57 < b ∧ b < 65) ∨ (90 < b ∧ b < 97) ∨ (122 < b) := by omega
  rcases h4 with h4 | h4 | h4 | h4
  · have g1 : ¬ (65 : Int) ≤ b := by omega
    have g2 : ¬ (97 : Int) ≤ b := by omega
    have g3 : ¬ (48 : Int) ≤ b := by omega
    clear h4
    clear h hn
    go_enter Tryd.func28, Tryd.ntmps28
    go_wp2
    go_ret
    exact ⟨rfl, rfl⟩
  · have g1 : ¬ (65 : Int) ≤ b := by omega
    have g2 : ¬ (97 : Int) ≤ b := by omega
    have g3 : (48 : Int) ≤ b := by omega
    have g4 : ¬ (b : Int) ≤ 57 := by omega
    clear h4
    clear h hn
    go_enter Tryd.func28, Tryd.ntmps28
    go_wp2
    go_ret
    exact ⟨rfl, rfl⟩
  · have g1 : (65 : Int) ≤ b := by omega
    have g2 : ¬ (b : Int) ≤ 90 := by omega
    have g3 : ¬ (97 : Int) ≤ b := by omega
    have g4 : (48 : Int) ≤ b := by omega
    have g5 : ¬ (b : Int) ≤ 57 := by omega
    clear h4
    clear h hn
    go_enter Tryd.func28, Tryd.ntmps28
    go_wp2
    go_ret
    exact ⟨rfl, rfl⟩
  · have g1 : (65 : Int) ≤ b := by omega
    have g2 : ¬ (b : Int) ≤ 90 := by omega
    have g3 : (97 : Int) ≤ b := by omega
    have g4 : ¬ (b : Int) ≤ 122 := by omega
    have g5 : (48 : Int) ≤ b := by omega
    have g6 : ¬ (b : Int) ≤ 57 := by omega
    clear h4
    clear h hn
    go_enter Tryd.func28, Tryd.ntmps28
    go_wp2
    go_ret
    exact ⟨rfl, rfl⟩
theorem kindOf_any (b : Nat) (w : World) :
    Calls Tryd.prog 28 #[.int .u8 (b : Int)] w fun e w' => e = .returned (.int .i8 (kd b)) ∧ w' = w := by
  unfold kd
  split
  · next h => exact kindOf_l1 b w h
  · split
    · next h => exact kindOf_l4 b w h
    · split
      · next h => exact kindOf_l5 b w h
      · split
        · next h => exact kindOf_l2 b w h
        · split
          · next h =>
            rcases h with h | h
            · exact kindOf_up b w h
            · exact kindOf_lo b w h
          · split
            · next h => exact kindOf_dg b w h
            · exact kindOf_st b w (by omega) (by omega)

/-- A text's byte at a place; 0, where there is none. -/
def atB (s : ByteArray) (i : Nat) : Nat := if h : i < s.size then (s.get i h).toNat else 0
theorem atB_lt (s : ByteArray) (i : Nat) : atB s i < 256 := by
  unfold atB
  split
  · exact UInt8.toNat_lt _
  · decide
set_option maxRecDepth 100000 in
set_option maxHeartbeats 1600000 in
theorem byteAt_any (s : ByteArray) (i : Nat) (w : World) :
    Calls Tryd.prog 50 #[.string s, .int .i64 (i : Int)] w fun e w' => e = .returned (.int .u8 (atB s i : Nat)) ∧ w' = w := by
  by_cases h : i < s.size
  · have h1 : ¬ (s.size : Int) ≤ (i : Int) := by omega
    go_enter Tryd.func50, Tryd.ntmps50
    go_wp2
    go_ret
    exact ⟨by unfold atB; rw [dif_pos h]; rfl, rfl⟩
  · have h1 : (s.size : Int) ≤ (i : Int) := by omega
    have e : atB s i = 0 := by unfold atB; rw [dif_neg h]
    rw [e]
    go_enter Tryd.func50, Tryd.ntmps50
    go_wp2
    go_ret
    exact ⟨rfl, rfl⟩
end Go.Proofs.YtlemnbegblpllaaDoor
