/-
  Proved here: the laws of rising lists, put together and met (no program).
-/
import Derived.Test.YtphmamdmkhaemaaSetMath
namespace Go.Proofs.Ytphmamdmkhaemaa
theorem rj {a b : List Int} (ha : Rise a) : Rise (joinR a b) := rise_joinR b ha
theorem rm {a b : List Int} (ha : Rise a) : Rise (meetR a b) := rise_meetR ha b
theorem l_join {X Y : List Int} (hx : Rise X) (hy : Rise Y) : joinR X Y = joinR Y X := rise_ext (rj hx) (rj hy) fun z => by simp only [mem_joinR]; exact Or.comm
theorem l_meet {X Y : List Int} (hx : Rise X) (hy : Rise Y) : meetR X Y = meetR Y X := rise_ext (rm hx) (rm hy) fun z => by simp only [mem_meetR]; exact And.comm
theorem l_join3 {X Y Z : List Int} (hx : Rise X) (_hy : Rise Y) (_hz : Rise Z) : joinR X (joinR Y Z) = joinR (joinR X Y) Z := rise_ext (rj hx) (rj (rj hx)) fun z => by simp only [mem_joinR]; exact (or_assoc).symm
theorem l_meet3 {X Y Z : List Int} (hx : Rise X) (_hy : Rise Y) (_hz : Rise Z) : meetR X (meetR Y Z) = meetR (meetR X Y) Z := rise_ext (rm hx) (rm (rm hx)) fun z => by simp only [mem_meetR]; exact (and_assoc).symm
theorem l_over1 {X Y Z : List Int} (hx : Rise X) (_hy : Rise Y) (_hz : Rise Z) : meetR X (joinR Y Z) = joinR (meetR X Y) (meetR X Z) := rise_ext (rm hx) (rj (rm hx)) fun z => by simp only [mem_meetR, mem_joinR]; exact and_or_left
theorem l_over2 {X Y Z : List Int} (hx : Rise X) (_hy : Rise Y) (_hz : Rise Z) : joinR X (meetR Y Z) = meetR (joinR X Y) (joinR X Z) := rise_ext (rj hx) (rm (rj hx)) fun z => by simp only [mem_meetR, mem_joinR]; exact or_and_left
theorem l_self1 {X : List Int} (hx : Rise X) : joinR X X = X := rise_ext (rj hx) hx fun z => by simp only [mem_joinR, or_self]
theorem l_self2 {X : List Int} (hx : Rise X) : meetR X X = X := rise_ext (rm hx) hx fun z => by simp only [mem_meetR, and_self]
theorem l_self3 (X : List Int) : minusR X X = ([] : List Int) := by
  refine List.eq_nil_iff_forall_not_mem.2 fun z hz => ?_
  rw [mem_minusR] at hz
  exact hz.2 hz.1
theorem l_self4 {X Y : List Int} (hx : Rise X) (_hy : Rise Y) : meetR X (joinR X Y) = X := rise_ext (rm hx) hx fun z => by
  simp only [mem_meetR, mem_joinR]
  exact ⟨fun h => h.1, fun h => ⟨h, Or.inl h⟩⟩
theorem l_parts {X Y : List Int} (hx : Rise X) (_hy : Rise Y) : joinR (meetR X Y) (minusR X Y) = X := rise_ext (rj (rm hx)) hx fun z => by
  simp only [mem_meetR, mem_joinR, mem_minusR]
  by_cases h : z ∈ Y <;> simp [h]
theorem l_apart (X Y : List Int) : (meetR (meetR X Y) (minusR X Y)).length = 0 := by
  rw [List.length_eq_zero_iff]
  refine List.eq_nil_iff_forall_not_mem.2 fun z hz => ?_
  simp only [mem_meetR, mem_minusR] at hz
  exact hz.2.2 hz.1.2
theorem w_none (X : List Int) : withinR ([] : List Int) X = true := rfl
theorem w_join (X Y : List Int) : withinR X (joinR X Y) = true := (within_iff _ _).2 fun _ hz => (mem_joinR _ _ _).2 (Or.inl hz)
theorem w_meet (X Y : List Int) : withinR (meetR X Y) Y = true := (within_iff _ _).2 fun _ hz => ((mem_meetR _ _ _).1 hz).2
theorem w_chain {X Y Z : List Int} (h1 : withinR X Y = true) (h2 : withinR Y Z = true) : withinR X Z = true := (within_iff _ _).2 fun z hz => (within_iff _ _).1 h2 z ((within_iff _ _).1 h1 z hz)
end Go.Proofs.Ytphmamdmkhaemaa
