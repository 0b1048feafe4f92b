/-
  Proved here: what the walk of NearBest wants.
-/
import Derived.Test.YtbcddjibgaccpaaGreatDoorNearOff
import Derived.Test.YtbcddjibgaccpaaGreatDoorNearFAll
import Derived.WalkLawsBesides
namespace Go.Proofs.YtbcddjibgaccpaaGreatDoor
open Go.RowKit

@[local go_sem] theorem run_f32bits3 (b : Nat) (w : World) : (callFunc 11 #[.float .f32 b]).run Tryz.prog w = .ok (.value (.int .u32 (b : Int))) w := by
  rw [run_callFunc_extern Tryz.func11 (by kernel_rfl) (by kernel_rfl) (by kernel_rfl) (e := Extern.MathFloatBits.float32bits) (by kernel_rfl)]
  rfl
theorem rs_abs {x : Rat} {L : Nat} (h : RSz x L) : RSz (absQ x) L := by
  unfold absQ
  split
  · exact ⟨by rw [Rat.neg_num]; exact h.num.neg, by rw [Rat.neg_den]; exact h.den⟩
  · exact h
theorem three_ways {c x y : Int} {X : Nat} {q : Bool} (hb : c ≤ 0 ∧ (c = 0 → x ≠ y → X % 2 = 0)) (hne : q = !decide (x = y)) : (c == 0) = false ∨ ((c == 0) = true ∧ q = false) ∨ ((c == 0) = true ∧ q = true ∧ (X : Int) % 2 = 0 ∧ (X : Int).tmod 2 = 0) := by
  by_cases h : c = 0
  · have h1 : (c == 0) = true := by rw [h]; rfl
    by_cases h2 : x = y
    · exact Or.inr (Or.inl ⟨h1, by rw [hne, decide_eq_true h2]; rfl⟩)
    · have h3 := hb.2 h h2
      exact Or.inr (Or.inr ⟨h1, by rw [hne, decide_eq_false h2]; rfl, by omega, by have e := Int.ofNat_tmod X 2; rw [h3] at e; exact e.symm⟩)
  · exact Or.inl (beq_eq_false_iff_ne.2 h)
theorem fvs_ne {x y : Nat} (hx : x < 4294967296 ∧ x % 2 ^ 31 ≤ 2139095040) (hy : y < 4294967296 ∧ y % 2 ^ 31 ≤ 2139095040) : (FloatKind.f32.format.order x y != some .eq) = !decide (fvs x = fvs y) := by
  have h1 : FloatKind.f32.format.order x y = some (compare (fvs x) (fvs y)) := order_fvs hx.1 hy.1 hx.2 hy.2
  rw [h1]
  exact cmp_eq_rule _ _
theorem nanC_big (s : Nat) (w : World) : 9218868437227405312 ≤ nanC s w % 2 ^ 63 := by
  have h := nanC_nan s w
  rw [nan_word] at h
  exact Nat.le_of_lt (of_decide_eq_true h)
theorem off_some (na : Bool) (ao aO : Option Addr) (al ac aL aC f : Nat) (x : Rat) (w : World) (ma : RNum w (.agg #[.bool na, .slice ao al ac, .slice aO aL aC]) x 200) (hb64 : f < 18446744073709551616) :
    Calls Tryz.prog 8 #[.agg #[.bool na, .slice ao al ac, .slice aO aL aC], .float .f64 f] w fun e w' => ∃ n o l c O L C fl, e = .returned (.tuple #[.agg #[.bool n, .slice o l c, .slice O L C], .bool fl]) ∧ Below w.heap.size w w' := by
  rcases Nat.lt_or_ge (f % 2 ^ 63) 9218868437227405312 with h | h
  · refine (off_yes na ao aO al ac aL aC f x w ma hb64 h).mono ?_
    rintro e w' ⟨v, rfl, hv, hb⟩
    obtain ⟨n, o, l, c, O, L, C, rfl, _⟩ := hv.seeS
    exact ⟨n, o, l, c, O, L, C, true, rfl, hb⟩
  · refine (off_no na ao aO al ac aL aC f x w ma hb64 h).mono ?_
    rintro e w' ⟨n, o, l, c, O, L, C, rfl, hb⟩
    exact ⟨n, o, l, c, O, L, C, false, rfl, hb⟩
set_option maxRecDepth 100000 in
set_option maxHeartbeats 6400000 in
theorem nbest_big (na : Bool) (ao aO : Option Addr) (al ac aL aC o s : Nat) (w : World) (hA : (decide (200 < al) || decide (200 < aL)) = true) :
    Calls Tryz.prog 3 #[.agg #[.bool na, .slice ao al ac, .slice aO aL aC], .float .f64 o, .float .f32 s] w fun e w' => e = .returned (.bool true) ∧ Below w.heap.size w w' := by
  have hbA := fun w => big05_any na ao aO al ac aL aC w
  rw [hA] at hbA
  clear hA
  obtain ⟨W1, hW1⟩ : ∃ W1, W1 = w.alloc (.cells #[.bool na, .slice ao al ac, .slice aO aL aC] 27) := ⟨_, rfl⟩
  have qa : QCell W1 (w.heap.size) na (.slice ao al ac) (.slice aO aL aC) := by rw [hW1]; exact (qcell_new _ (by simp))
  have hb : Below w.heap.size w W1 := by rw [hW1]; exact belowA w _
  have hsz : w.heap.size < W1.heap.size := by rw [hW1]; simp
  have HW1 : Hid (W1 = w.alloc (.cells #[.bool na, .slice ao al ac, .slice aO aL aC] 27)) := hW1
  clear hW1
  go_enter Tryz.func3, Tryz.ntmps3
  go_wp2_with fail
  rw [← HW1.out]
  clear HW1
  obtain ⟨g, hg⟩ : ∃ g, g = w.heap.size := ⟨_, rfl⟩
  rw [← hg] at qa hsz ⊢
  have HG : Hid (g = w.heap.size) := hg
  clear hg
  refine (alive5_yes _).mono ?_
  rintro e w2 ⟨rfl, b⟩
  replace qa := qa.below b
  replace hb := bstep hb b
  replace hsz := Nat.lt_of_lt_of_le hsz b.size
  clear b
  obtain ⟨cqa0, cqa1, cqa2⟩ := qa.cells
  go_wp2_with fail
  clear cqa0 cqa1 cqa2
  refine (hbA _).mono ?_
  rintro e w3 ⟨rfl, b⟩
  replace qa := qa.below b
  replace hb := bstep hb b
  replace hsz := Nat.lt_of_lt_of_le hsz b.size
  clear b
  obtain ⟨cqa0, cqa1, cqa2⟩ := qa.cells
  have HE : Hid (Below w.heap.size w w3) := hb
  clear hb hsz qa
  go_wp2
  go_ret
  exact ⟨rfl, HE.out⟩
end Go.Proofs.YtbcddjibgaccpaaGreatDoor
