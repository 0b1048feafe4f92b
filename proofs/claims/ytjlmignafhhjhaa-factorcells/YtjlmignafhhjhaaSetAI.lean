/-
  Proved here: package cmp's words at int; set's same; slices.Clone and slices.SortStableFunc over rows.
-/
import Derived.Test.YtjlmignafhhjhaaRows
import Derived.Test.YtjlmignafhhjhaaSortDI
import Derived.OwnWalk
import Derived.OwnWalkIn
import Derived.ArgAppend
import Derived.Laws.AppendOwnNone
import Derived.Laws.MakeOwn
import Derived.Laws.OwnMore
import Derived.WalkKit
import Derived.WalkSpells
import Derived.WalkLawsBesides
import Derived.Below
import Derived.BigQuiet
namespace Go.Proofs.Ytjlmignafhhjhaa
open Go.Shelf Go.RowKit Go.Lib Go.Sort
theorem infoI : (Try.prog.info? 3).map (fun i => (i.zero, i.size, i.bytes)) = some (some (.int .i64 0), 1, 8) := by kernel_rfl
/-- what cmp.Compare says -/
def cfI (x y : Int) : Int := if x < y then -1 else if y < x then 1 else 0
theorem ltI (x y : Int) : ltOf cfI x y = decide (x < y) := by
  unfold ltOf cfI
  by_cases h : x < y
  · simp [h]
  · by_cases h2 : y < x <;> simp [h, h2]
theorem ordI : Ord (leOf (ltOf cfI)) := by
  constructor
  · intro x y
    simp only [leOf, ltI, Bool.not_eq_true', decide_eq_false_iff_not]
    omega
  · intro x y z
    simp only [leOf, ltI, Bool.not_eq_true', decide_eq_false_iff_not]
    omega
theorem cfI_zero (x y : Int) : decide (cfI x y = 0) = decide (x = y) := by
  unfold cfI
  by_cases h : x < y
  · simp [h]; omega
  · by_cases h2 : y < x
    · simp [h, h2]; omega
    · simp [h, h2]; omega
theorem nanI (x : Int) (w : World) : Calls Try.prog 98 #[(Value.int .i64) x] w fun e w' => e = .returned (.bool false) ∧ w' = w := by
  go_enter Try.func98, Try.ntmps98
  go_wp2
  go_ret
  exact ⟨by simp, rfl⟩
theorem snanI (x : Int) (w : World) : Calls Try.prog 95 #[(Value.int .i64) x] w fun e w' => e = .returned (.bool false) ∧ w' = w := by
  go_enter Try.func95, Try.ntmps95
  go_wp2
  go_ret
  exact ⟨by simp, rfl⟩
set_option maxRecDepth 100000 in
set_option maxHeartbeats 1000000 in
theorem cmpI (x y : Int) (w : World) : Calls Try.prog 87 #[(Value.int .i64) x, (Value.int .i64) y] w fun e w' => e = .returned (.int .i64 (cfI x y)) ∧ w' = w := by
  by_cases h : x < y
  · have H1 : Hid (cfI x y = -1) := by show _ = _; unfold cfI; rw [if_pos h]
    go_enter Try.func87, Try.ntmps87
    go_wp2_with (go_at_call 98; refine (nanI _ _).mono ?_; rintro e w' ⟨rfl, rfl⟩)
    go_ret
    exact ⟨by rw [H1.out]; rfl, rfl⟩
  · by_cases h2 : y < x
    · have h3 : decide (x > y) = true := decide_eq_true h2
      have H1 : Hid (cfI x y = 1) := by show _ = _; unfold cfI; rw [if_neg h, if_pos h2]
      go_enter Try.func87, Try.ntmps87
      go_wp2_with (go_at_call 98; refine (nanI _ _).mono ?_; rintro e w' ⟨rfl, rfl⟩)
      go_ret
      exact ⟨by rw [H1.out]; rfl, rfl⟩
    · have h3 : decide (x > y) = false := decide_eq_false h2
      have H1 : Hid (cfI x y = 0) := by show _ = _; unfold cfI; rw [if_neg h, if_neg h2]
      go_enter Try.func87, Try.ntmps87
      go_wp2_with (go_at_call 98; refine (nanI _ _).mono ?_; rintro e w' ⟨rfl, rfl⟩)
      go_ret
      exact ⟨by rw [H1.out]; rfl, rfl⟩
set_option maxRecDepth 100000 in
set_option maxHeartbeats 1000000 in
theorem lessI (x y : Int) (w : World) : Calls Try.prog 94 #[(Value.int .i64) x, (Value.int .i64) y] w fun e w' => e = .returned (.bool (ltOf cfI x y)) ∧ w' = w := by
  rw [ltI]
  go_enter Try.func94, Try.ntmps94
  go_wp2_with (go_at_call 98; refine (nanI _ _).mono ?_; rintro e w' ⟨rfl, rfl⟩)
  go_ret
  exact ⟨rfl, rfl⟩
set_option maxRecDepth 100000 in
set_option maxHeartbeats 1000000 in
theorem sameI (x y : Int) (w : World) : Calls Try.prog 89 #[(Value.int .i64) x, (Value.int .i64) y] w fun e w' => e = .returned (.bool (decide (cfI x y = 0))) ∧ w' = w := by
  have C := cmpI x y
  generalize cfI x y = c at *
  go_enter Try.func89, Try.ntmps89
  go_wp2_with (go_at_call 87; refine (C _).mono ?_; rintro e w' ⟨rfl, rfl⟩)
  go_ret
  exact ⟨by first | rfl | simp, rfl⟩
theorem oneI : OneCell (Value.int .i64) := fun _ => rfl
theorem entCI : ∀ args w, (callFunc 87 args).run Try.prog w = .ok (.enter 87 args) w := enters_of Try.func87 (by kernel_rfl) rfl
theorem laysI (blk off size : Nat) (w : World) : CmpLays1 Try.prog 87 #[] (Value.int .i64) cfI blk off size w := fun m os dk _ x y => by
  refine (cmpI x y _).mono ?_
  rintro e w' ⟨rfl, rfl⟩
  exact ⟨rfl, 0, #[], by rw [grow_empty]; rfl⟩
/-- slices.SortStableFunc over a row of the call's own -/
theorem sortedI (B : Nat) (v : Value) (zs : List Int) (w : World) (h : OG (Value.int .i64) B 3 w v zs) (hz : zs.length < 1152921504606846976) :
    Calls Try.prog 86 #[v, .func (.func 87) #[] #[]] w fun e w' => e = .returned (.tuple #[]) ∧ OG (Value.int .i64) B 3 w' v (sortS (leOf (ltOf cfI)) zs) ∧ w.grownBy w' v.ownBlock := by
  have h0 := h
  obtain ⟨h1, h2⟩ := h
  rcases h2 with ⟨rfl, h3⟩ | ⟨g, cap, cur, rfl, h3⟩
  · have : zs = [] := List.eq_nil_of_length_eq_zero h3
    subst this
    refine (sortNoneI none 0 _ w).mono ?_
    rintro e w' ⟨rfl, rfl⟩
    exact ⟨rfl, h0, grownG_refl _ _⟩
  · have R := h0.row1 oneI
    refine (sortStI cfI ordI 87 #[] entCI g 0 cap zs.length zs.toArray w (laysI _ _ _ _) R (by simp) hz zs w rfl (SW.start R.hH)).mono ?_
    rintro e w' ⟨rfl, hS⟩
    have := h0.sw (zs' := sortS (leOf (ltOf cfI)) zs) (len_sortS zs) hS
    exact ⟨rfl, this.1, this.2⟩
set_option maxHeartbeats 4000000 in
set_option maxRecDepth 1000000 in
theorem cloneI (v : Value) (zs : List Int) (w : World) (hv : RG (Value.int .i64) w v zs) (hz : zs.length ≤ 1048576) :
    Calls Try.prog 53 #[v] w fun e w' => ∃ u, e = .returned u ∧ OG (Value.int .i64) w.heap.size 3 w' u zs ∧ Below w.heap.size w w' := by
  have hv0 := hv
  obtain ⟨ao, cap, rfl, hc, hm, hnil, -⟩ := hv
  obtain ⟨i0, hi, hz0, hz1, hz2⟩ := info_parts infoI
  unfold maxLen at hm
  rcases ao with _ | ad
  · have := hnil rfl
    subst this
    have hz : zs = [] := List.eq_nil_of_length_eq_zero (by omega)
    subst hz
    clear hv0 hnil
    have heq : ∀ w, (binOp .eql 22 (.slice none 0 0) (.slice none 0 0)).run Try.prog w = .ok (.bool true) w := fun _ => by kernel_rfl
    go_enter Try.func53, Try.ntmps53
    go_wp2
    go_ret
    exact ⟨_, rfl, OG.nil _ _ _, Below.refl _ _⟩
  · clear hnil
    obtain ⟨n, hn⟩ : ∃ n, zs.length = n := ⟨_, rfl⟩
    rw [hn] at hc hz hv0 ⊢
    have HN : Hid (zs.length = n) := hn
    clear hn
    have H0 : Hid (OG (Value.int .i64) w.heap.size 3 (w.alloc (.cells #[] 3)) (.slice (some ⟨w.heap.size, 0, none⟩) 0 0) []) := OG.lit0 _ _
    have hR : RG (Value.int .i64) (w.alloc (.cells #[] 3)) (.slice (some ad) n cap) zs := hv0.alloc _
    have hB3 : ∀ o, w.heap.size ≤ (w.alloc o).heap.size := fun o => by simp
    clear hv0
    have heq : ∀ w, (binOp .eql 22 (.slice (some ad) n cap) (.slice none 0 0)).run Try.prog w = .ok (.bool false) w := fun _ => by kernel_rfl
    go_enter Try.func53, Try.ntmps53
    go_wp2_with (at_builtin; refine wpList_appG _ oneI rfl _ _ 22 rfl w.heap.size 3 i0 (.int .i64 0) 8 Try.underlying22 hi hz0 hz1 hz2 rfl _ _ [] zs rfl H0.out rfl hR (by unfold maxLen; rw [HN.out]; simp; omega) (by rw [HN.out]; simp; omega) (hB3 _) ?_)
    intro v1 w1 ho1 hg1
    have HB : Hid (Below w.heap.size w w1) := H0.out.grown ((Below.refl _ _).alloc (Nat.le_refl _) _) (hB3 _) hg1
    have HO : Hid (OG (Value.int .i64) w.heap.size 3 w1 v1 zs) := by have := ho1; simpa [Hid] using this
    clear ho1 hg1 hR
    go_wp2
    go_ret
    exact ⟨_, rfl, HO.out, HB.out⟩
end Go.Proofs.Ytjlmignafhhjhaa
