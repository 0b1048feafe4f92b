/-
  Proved here: package cmp's words at float64; set's same; slices.Clone and slices.SortStableFunc over rows.
-/
import Derived.Test.YtknibmehbplpbaaRows
import Derived.Test.YtknibmehbplpbaaSortDF
import Derived.Test.YtknibmehbplpbaaSetOrdF
import Derived.OwnWalk
import Derived.OwnWalkIn
import Derived.ArgAppend
import Derived.Laws.AppendOwnNone
import Derived.Laws.MakeOwn
import Derived.Laws.OwnMore
import Derived.WalkKit
import Derived.WalkSpells
import Derived.WalkLawsBesides
import Derived.Below
import Derived.BigQuiet
namespace Go.Proofs.Ytknibmehbplpbaa
open Go.Shelf Go.RowKit Go.Lib Go.Sort
theorem infoF : (Try.prog.info? 48).map (fun i => (i.zero, i.size, i.bytes)) = some (some (.float .f64 0), 1, 8) := by kernel_rfl
theorem ltF (x y : Nat) : ltOf cfF x y = decide (cmpD (FloatKind.f64.format.read x) (FloatKind.f64.format.read y) < 0) := rfl
theorem ordF : Ord (leOf (ltOf cfF)) := by
  constructor
  · intro x y
    simp only [leOf, ltF, Bool.not_eq_true', decide_eq_false_iff_not]
    exact dle_total _ _
  · intro x y z
    simp only [leOf, ltF, Bool.not_eq_true', decide_eq_false_iff_not]
    exact dle_trans _ _ _
/-- the same thing: equal, or both no numbers -/
theorem smD (d e : Ieee.Datum) : decide (cmpD d e = 0) = ((d.order e == some .eq) || (d.isNaN && e.isNaN)) := by
  unfold cmpD
  by_cases h1 : d.isNaN = true
  · by_cases h2 : e.isNaN = true
    · simp [h1, h2]
    · have : d.order e = none := by cases d <;> simp_all [Ieee.Datum.order, Ieee.Datum.isNaN]
      simp [h1, h2, this]
  · by_cases h2 : e.isNaN = true
    · have : d.order e = none := by cases d <;> cases e <;> simp_all [Ieee.Datum.order, Ieee.Datum.isNaN]
      simp [h1, h2, this]
    · cases h3 : d.order e with
      | none => cases d <;> cases e <;> simp_all [Ieee.Datum.order, Ieee.Datum.isNaN]
      | some q => cases q <;> simp [h1, h2]
theorem ltD (d e : Ieee.Datum) : decide (cmpD d e < 0) = ((d.isNaN && !e.isNaN) || (d.order e == some .lt)) := by
  unfold cmpD
  by_cases h1 : d.isNaN = true
  · have : d.order e = none := by cases d <;> simp_all [Ieee.Datum.order, Ieee.Datum.isNaN]
    by_cases h2 : e.isNaN = true
    · simp [h1, h2, this]
    · simp [h1, h2, this]
  · by_cases h2 : e.isNaN = true
    · have : d.order e = none := by cases d <;> cases e <;> simp_all [Ieee.Datum.order, Ieee.Datum.isNaN]
      simp [h1, h2, this]
    · cases h3 : d.order e with
      | none => cases d <;> cases e <;> simp_all [Ieee.Datum.order, Ieee.Datum.isNaN]
      | some q => cases q <;> simp [h1, h2]
theorem nanF (x : Nat) (w : World) : Calls Try.prog 74 #[.float .f64 x] w fun e w' => e = .returned (.bool (FloatKind.f64.format.read x).isNaN) ∧ w' = w := isNaND x w
theorem snanF (x : Nat) (w : World) : Calls Try.prog 77 #[.float .f64 x] w fun e w' => e = .returned (.bool (FloatKind.f64.format.read x).isNaN) ∧ w' = w := by
  have hz : (FloatKind.f64.format.order x x != some .eq) = (FloatKind.f64.format.read x).isNaN := order_self _
  go_enter Try.func77, Try.ntmps77
  go_wp2
  go_ret
  exact ⟨rfl, rfl⟩
theorem cmpF (x y : Nat) (w : World) : Calls Try.prog 55 #[.float .f64 x, .float .f64 y] w fun e w' => e = .returned (.int .i64 (cfF x y)) ∧ w' = w := cmpfD x y w
set_option maxRecDepth 100000 in
set_option maxHeartbeats 1000000 in
theorem lessF (x y : Nat) (w : World) : Calls Try.prog 76 #[.float .f64 x, .float .f64 y] w fun e w' => e = .returned (.bool (ltOf cfF x y)) ∧ w' = w := by
  have HE : Hid (ltOf cfF x y = (((FloatKind.f64.format.read x).isNaN && !(FloatKind.f64.format.read y).isNaN) || (FloatKind.f64.format.order x y == some .lt))) := ltD _ _
  have C1 := nanF x
  have C2 := nanF y
  generalize (FloatKind.f64.format.read x).isNaN = b1 at *
  generalize (FloatKind.f64.format.read y).isNaN = b2 at *
  obtain ⟨r, hr⟩ : ∃ r, r = ltOf cfF x y := ⟨_, rfl⟩
  rw [← hr] at HE ⊢
  clear hr
  cases b1 <;> cases b2
  all_goals
    go_enter Try.func76, Try.ntmps76
    go_wp2_with (go_at_call 74; (first | refine (C1 _).mono ?_ | refine (C2 _).mono ?_); rintro e w' ⟨rfl, rfl⟩)
    go_ret
    exact ⟨by rw [HE.out]; simp, rfl⟩
set_option maxRecDepth 100000 in
set_option maxHeartbeats 1000000 in
theorem sameF (x y : Nat) (w : World) : Calls Try.prog 57 #[(Value.float .f64) x, (Value.float .f64) y] w fun e w' => e = .returned (.bool (decide (cfF x y = 0))) ∧ w' = w := by
  have C := cmpF x y
  generalize cfF x y = c at *
  go_enter Try.func57, Try.ntmps57
  go_wp2_with (go_at_call 55; refine (C _).mono ?_; rintro e w' ⟨rfl, rfl⟩)
  go_ret
  exact ⟨by first | rfl | simp, rfl⟩
theorem oneF : OneCell (Value.float .f64) := fun _ => rfl
theorem entCF : ∀ args w, (callFunc 55 args).run Try.prog w = .ok (.enter 55 args) w := enters_of Try.func55 (by kernel_rfl) rfl
theorem laysF (blk off size : Nat) (w : World) : CmpLays1 Try.prog 55 #[] (Value.float .f64) cfF blk off size w := fun m os dk _ x y => by
  refine (cmpF x y _).mono ?_
  rintro e w' ⟨rfl, rfl⟩
  exact ⟨rfl, 0, #[], by rw [grow_empty]; rfl⟩
/-- slices.SortStableFunc over a row of the call's own -/
theorem sortedF (B : Nat) (v : Value) (zs : List Nat) (w : World) (h : OG (Value.float .f64) B 48 w v zs) (hz : zs.length < 1152921504606846976) :
    Calls Try.prog 54 #[v, .func (.func 55) #[] #[]] w fun e w' => e = .returned (.tuple #[]) ∧ OG (Value.float .f64) B 48 w' v (sortS (leOf (ltOf cfF)) zs) ∧ w.grownBy w' v.ownBlock := by
  have h0 := h
  obtain ⟨h1, h2⟩ := h
  rcases h2 with ⟨rfl, h3⟩ | ⟨g, cap, cur, rfl, h3⟩
  · have : zs = [] := List.eq_nil_of_length_eq_zero h3
    subst this
    refine (sortNoneF none 0 _ w).mono ?_
    rintro e w' ⟨rfl, rfl⟩
    exact ⟨rfl, h0, grownG_refl _ _⟩
  · have R := h0.row1 oneF
    refine (sortStF cfF ordF 55 #[] entCF g 0 cap zs.length zs.toArray w (laysF _ _ _ _) R (by simp) hz zs w rfl (SW.start R.hH)).mono ?_
    rintro e w' ⟨rfl, hS⟩
    have := h0.sw (zs' := sortS (leOf (ltOf cfF)) zs) (len_sortS zs) hS
    exact ⟨rfl, this.1, this.2⟩
set_option maxHeartbeats 4000000 in
set_option maxRecDepth 1000000 in
theorem cloneF (v : Value) (zs : List Nat) (w : World) (hv : RG (Value.float .f64) w v zs) (hz : zs.length ≤ 1048576) :
    Calls Try.prog 53 #[v] w fun e w' => ∃ u, e = .returned u ∧ OG (Value.float .f64) w.heap.size 48 w' u zs ∧ Below w.heap.size w w' := by
  have hv0 := hv
  obtain ⟨ao, cap, rfl, hc, hm, hnil, -⟩ := hv
  obtain ⟨i0, hi, hz0, hz1, hz2⟩ := info_parts infoF
  unfold maxLen at hm
  rcases ao with _ | ad
  · have := hnil rfl
    subst this
    have hz : zs = [] := List.eq_nil_of_length_eq_zero (by omega)
    subst hz
    clear hv0 hnil
    have heq : ∀ w, (binOp .eql 47 (.slice none 0 0) (.slice none 0 0)).run Try.prog w = .ok (.bool true) w := fun _ => by kernel_rfl
    go_enter Try.func53, Try.ntmps53
    go_wp2
    go_ret
    exact ⟨_, rfl, OG.nil _ _ _, Below.refl _ _⟩
  · clear hnil
    obtain ⟨n, hn⟩ : ∃ n, zs.length = n := ⟨_, rfl⟩
    rw [hn] at hc hz hv0 ⊢
    have HN : Hid (zs.length = n) := hn
    clear hn
    have H0 : Hid (OG (Value.float .f64) w.heap.size 48 (w.alloc (.cells #[] 48)) (.slice (some ⟨w.heap.size, 0, none⟩) 0 0) []) := OG.lit0 _ _
    have hR : RG (Value.float .f64) (w.alloc (.cells #[] 48)) (.slice (some ad) n cap) zs := hv0.alloc _
    have hB3 : ∀ o, w.heap.size ≤ (w.alloc o).heap.size := fun o => by simp
    clear hv0
    have heq : ∀ w, (binOp .eql 47 (.slice (some ad) n cap) (.slice none 0 0)).run Try.prog w = .ok (.bool false) w := fun _ => by kernel_rfl
    go_enter Try.func53, Try.ntmps53
    go_wp2_with (at_builtin; refine wpList_appG _ oneF rfl _ _ 47 rfl w.heap.size 48 i0 (.float .f64 0) 8 Try.underlying47 hi hz0 hz1 hz2 rfl _ _ [] zs rfl H0.out rfl hR (by unfold maxLen; rw [HN.out]; simp; omega) (by rw [HN.out]; simp; omega) (hB3 _) ?_)
    intro v1 w1 ho1 hg1
    have HB : Hid (Below w.heap.size w w1) := H0.out.grown ((Below.refl _ _).alloc (Nat.le_refl _) _) (hB3 _) hg1
    have HO : Hid (OG (Value.float .f64) w.heap.size 48 w1 v1 zs) := by have := ho1; simpa [Hid] using this
    clear ho1 hg1 hR
    go_wp2
    go_ret
    exact ⟨_, rfl, HO.out, HB.out⟩
end Go.Proofs.Ytknibmehbplpbaa
