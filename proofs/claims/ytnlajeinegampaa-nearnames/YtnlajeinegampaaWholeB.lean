/-
  Proved here: what Of, Add, Sub and Text of package whole answer.
-/
import Derived.Test.YtnlajeinegampaaWholeA
import Derived.Test.YtnlajeinegampaaSubAll
import Derived.Test.YtnlajeinegampaaAlive0All
namespace Go.Proofs.Ytnlajeinegampaa
open Go.RowKit

/-- The whole number of a side and a size. -/
def zv (neg : Bool) (n : Nat) : Int := if neg then -(n : Int) else n
/-- What a function leaves that answers a whole number. -/
def IntEnd (w : World) (z : Int) (e : Ending) (w' : World) : Prop :=
  ∃ m, e = .returned (.agg #[.bool (decide (z < 0)), m]) ∧ Own w.heap.size 40 w' m (lim z.natAbs) ∧ Below w.heap.size w w'
theorem lim_pos_len {n : Nat} : 0 < (lim n).length ↔ n ≠ 0 := by
  constructor
  · intro h h0; subst h0; simp [lim_zero] at h
  · intro h
    rcases Nat.eq_zero_or_pos (lim n).length with h0 | h0
    · exfalso; apply h; rw [← val_lim n, List.length_eq_zero_iff.1 h0]; rfl
    · exact h0
theorem sign_eq (neg : Bool) (n : Nat) : (neg && decide (0 < (lim n).length)) = decide (zv neg n < 0) := by
  cases neg
  · simp [zv]
  · by_cases h : n = 0
    · subst h; rfl
    · rw [decide_eq_true (lim_pos_len.2 h), decide_eq_true (show zv true n < 0 by unfold zv; simp; omega)]; rfl
theorem zv_abs (neg : Bool) (n : Nat) : (zv neg n).natAbs = n := by cases neg <;> simp [zv]

theorem int_done {w w3 : World} {g B : Nat} {z : Int} {b : Bool} {m : Value} (hb : b = decide (z < 0)) (hg : w.heap.size ≤ g) (ho : Own B 40 w3 m (lim z.natAbs)) (hgB : g < B) (hbel : Below w.heap.size w w3) :
    IntEnd w z (.returned (.agg #[.bool b, m])) ((w3.setCell ⟨g, 0, none⟩ (.bool b)).setCell ⟨g, 1, none⟩ m) := by
  have hne : m.ownBlock = none ∨ m.ownBlock ≠ some g := by
    cases hm : m.ownBlock with
    | none => exact Or.inl rfl
    | some k =>
      right
      intro e
      rw [Option.some.injEq] at e
      have := (ho.block k hm).1
      omega
  exact ⟨m, by rw [hb], ((ho.other (.bool b) hne).other m hne).mono (by omega), (hbel.setCell (p := ⟨g, 0, none⟩) hg _).setCell (p := ⟨g, 1, none⟩) hg _⟩

set_option maxRecDepth 100000 in
set_option maxHeartbeats 3200000 in
theorem wof_any (n : Int) (w : World) (h1 : -9223372036854775808 ≤ n) (h2 : n ≤ 9223372036854775807) :
    Calls Try.prog 117 #[.int .i64 n] w fun e w' => IntEnd w n e w' := by
  obtain ⟨W1, hW1⟩ : ∃ W1, W1 = w.alloc (.cells #[.bool false, .slice none 0 0] 34) := ⟨_, rfl⟩
  have hi : ICell W1 w.heap.size false (.slice none 0 0) := by rw [hW1]; exact ICell.new w _ _
  have hb1 : Below w.heap.size w W1 := by rw [hW1]; exact (Below.refl _ _).alloc (Nat.le_refl _) _
  have hsz : w.heap.size < W1.heap.size := by rw [hW1]; simp
  have HW1 : Hid (W1 = w.alloc (.cells #[.bool false, .slice none 0 0] 34)) := hW1
  clear hW1
  by_cases hn : n < 0
  · obtain ⟨k, hk⟩ : ∃ k : Nat, n = -(k : Int) := ⟨n.natAbs, by omega⟩
    have hk0 : k ≠ 0 := by omega
    have hk1 : k ≤ 9223372036854775808 := by omega
    subst hk
    have e1 : IntKind.u64.wrap (-(k : Int)) = 18446744073709551616 - (k : Int) := by rw [IntKind.wrap_u64]; omega
    have e2 : IntKind.u64.wrap (-(18446744073709551616 - (k : Int))) = (k : Int) := by rw [IntKind.wrap_u64]; omega
    go_enter Try.func117, Try.ntmps117
    go_wp2_with fail
    rw [← HW1.out]
    refine (of_any k W1 (by omega)).mono ?_
    rintro e w2 ⟨m, rfl, hm, hb2⟩
    obtain ⟨ao, nl, cap, rfl⟩ := hm.sl
    go_wp2_with fail
    refine (signed_any _ _ _ _ hm.num).mono ?_
    rintro e w3 ⟨rfl, hb3⟩
    rw [sign_eq]
    have hi3 := (hi.below hb2).below hb3
    have hm3 := hm.below hb3
    have hbel3 := bstep (bstep hb1 hb2) hb3
    obtain ⟨b, hb⟩ : ∃ b, b = decide (zv true k < 0) := ⟨_, rfl⟩
    rw [← hb]
    have HE : Hid (IntEnd w (-(k : Int)) (.returned (.agg #[.bool b, .slice ao nl cap])) ((w3.setCell ⟨w.heap.size, 0, none⟩ (.bool b)).setCell ⟨w.heap.size, 1, none⟩ (.slice ao nl cap))) :=
      int_done (by rw [hb]; rfl) (Nat.le_refl _) (by rw [Int.natAbs_neg, Int.natAbs_natCast]; exact hm3) hsz hbel3
    obtain ⟨c0, c1⟩ := hi3.cells
    have f0 := hi3.thaw 0
    have f1 := hi3.thaw 1
    have HW : Hid (ICell ((w3.setCell ⟨w.heap.size, 0, none⟩ (.bool b)).setCell ⟨w.heap.size, 1, none⟩ (.slice ao nl cap)) w.heap.size b (.slice ao nl cap)) := hi3.write _ _
    clear hb hi hi3 hm hm3 hb1 hb2 hb3 hbel3 hsz
    go_wp2_with fail
    (try simp only [Exit.inBlock, Exit.then])
    exact bodyPost_ret (results_cell_row rfl _ _ w.heap.size 34 _ (0, 0) _ rfl HW.out Try.underlying34 rfl (by kernel_rfl)) rfl HE.out
  · obtain ⟨k, hk⟩ : ∃ k : Nat, n = (k : Int) := ⟨n.natAbs, by omega⟩
    have hk1 : k ≤ 9223372036854775807 := by omega
    subst hk
    have hn' : ¬ (k : Int) < 0 := hn
    go_enter Try.func117, Try.ntmps117
    go_wp2_with fail
    rw [← HW1.out]
    refine (of_any k W1 (by omega)).mono ?_
    rintro e w2 ⟨m, rfl, hm, hb2⟩
    obtain ⟨ao, nl, cap, rfl⟩ := hm.sl
    go_wp2_with fail
    refine (signed_any _ _ _ _ hm.num).mono ?_
    rintro e w3 ⟨rfl, hb3⟩
    rw [sign_eq]
    have hi3 := (hi.below hb2).below hb3
    have hm3 := hm.below hb3
    have hbel3 := bstep (bstep hb1 hb2) hb3
    obtain ⟨b, hb⟩ : ∃ b, b = decide (zv false k < 0) := ⟨_, rfl⟩
    rw [← hb]
    have HE : Hid (IntEnd w (k : Int) (.returned (.agg #[.bool b, .slice ao nl cap])) ((w3.setCell ⟨w.heap.size, 0, none⟩ (.bool b)).setCell ⟨w.heap.size, 1, none⟩ (.slice ao nl cap))) :=
      int_done (by rw [hb]; rfl) (Nat.le_refl _) (by rw [Int.natAbs_natCast]; exact hm3) hsz hbel3
    obtain ⟨c0, c1⟩ := hi3.cells
    have f0 := hi3.thaw 0
    have f1 := hi3.thaw 1
    have HW : Hid (ICell ((w3.setCell ⟨w.heap.size, 0, none⟩ (.bool b)).setCell ⟨w.heap.size, 1, none⟩ (.slice ao nl cap)) w.heap.size b (.slice ao nl cap)) := hi3.write _ _
    clear hb hi hi3 hm hm3 hb1 hb2 hb3 hbel3 hsz
    go_wp2_with fail
    (try simp only [Exit.inBlock, Exit.then])
    exact bodyPost_ret (results_cell_row rfl _ _ w.heap.size 34 _ (0, 0) _ rfl HW.out Try.underlying34 rfl (by kernel_rfl)) rfl HE.out
end Go.Proofs.Ytnlajeinegampaa
