/-
  Proved here: package cmp's words at string; set's same; slices.Clone and slices.SortStableFunc over rows.
-/
import Derived.Test.YtknibmehbplpbaaRows
import Derived.Test.YtknibmehbplpbaaSortDS
import Derived.Lib.Strings
import Derived.OwnWalk
import Derived.OwnWalkIn
import Derived.ArgAppend
import Derived.Laws.AppendOwnNone
import Derived.Laws.MakeOwn
import Derived.Laws.OwnMore
import Derived.WalkKit
import Derived.WalkSpells
import Derived.WalkLawsBesides
import Derived.Below
import Derived.BigQuiet
namespace Go.Proofs.Ytknibmehbplpbaa
open Go.Shelf Go.RowKit Go.Lib Go.Sort
theorem infoS : (Try.prog.info? 9).map (fun i => (i.zero, i.size, i.bytes)) = some (some (.string ⟨#[]⟩), 1, 16) := by kernel_rfl
theorem bytesLess_eqS : ∀ (x y : List UInt8), Op.bytesLess x y = decide (x < y)
  | [], [] => by simp [Op.bytesLess]
  | _ :: _, [] => by simp [Op.bytesLess]
  | [], _ :: _ => by simp [Op.bytesLess]
  | a :: x, b :: y => by
    rw [Op.bytesLess, bytesLess_eqS x y]
    simp only [List.cons_lt_cons_iff]
    by_cases h1 : a < b <;> by_cases h2 : a = b <;> by_cases h3 : x < y <;> simp [h1, h2, h3]
/-- what cmp.Compare says -/
def cfS (x y : ByteArray) : Int := if Op.bytesLess x.toList y.toList then -1 else if Op.bytesLess y.toList x.toList then 1 else 0
theorem ltS (x y : ByteArray) : ltOf cfS x y = Op.bytesLess x.toList y.toList := by
  unfold ltOf cfS
  cases h : Op.bytesLess x.toList y.toList
  · cases h2 : Op.bytesLess y.toList x.toList <;> simp
  · simp
theorem blS_asym {x y : List UInt8} (h : Op.bytesLess x y = true) : Op.bytesLess y x = false := by
  rw [bytesLess_eqS] at *
  exact decide_eq_false (List.not_lt.2 (List.le_of_lt (of_decide_eq_true h)))
theorem blS_eq {x y : ByteArray} (h1 : Op.bytesLess x.toList y.toList = false) (h2 : Op.bytesLess y.toList x.toList = false) : x = y := by
  rw [bytesLess_eqS, decide_eq_false_iff_not, List.not_lt] at *
  have := List.le_antisymm h2 h1
  rw [Lib.toList_data, Lib.toList_data] at this
  cases x; cases y
  simpa using this
theorem blS_self (x : ByteArray) : Op.bytesLess x.toList x.toList = false := by
  rw [bytesLess_eqS]
  exact decide_eq_false (List.lt_irrefl _)
theorem ordS : Ord (leOf (ltOf cfS)) := by
  constructor
  · intro x y
    simp only [leOf, ltS, bytesLess_eqS, Bool.not_eq_true', decide_eq_false_iff_not, List.not_lt]
    exact List.le_total _ _
  · intro x y z
    simp only [leOf, ltS, bytesLess_eqS, Bool.not_eq_true', decide_eq_false_iff_not, List.not_lt]
    exact List.le_trans
theorem cfS_zero (x y : ByteArray) : decide (cfS x y = 0) = decide (x = y) := by
  unfold cfS
  by_cases e : x = y
  · subst e
    rw [blS_self]
    simp
  · cases h : Op.bytesLess x.toList y.toList
    · cases h2 : Op.bytesLess y.toList x.toList
      · exact absurd (blS_eq h h2) e
      · simp [e]
    · simp [e]
theorem eqS (x y : ByteArray) : (x.toList == y.toList) = decide (x = y) := by
  by_cases e : x = y
  · subst e; simp
  · have : ¬ x.toList = y.toList := fun h => e (by rw [Lib.toList_data, Lib.toList_data] at h; cases x; cases y; simpa using h)
    simp [e, this]
theorem nanS (x : ByteArray) (w : World) : Calls Try.prog 69 #[Value.string x] w fun e w' => e = .returned (.bool false) ∧ w' = w := by
  go_enter Try.func69, Try.ntmps69
  go_wp2
  go_ret
  exact ⟨by simp, rfl⟩
theorem snanS (x : ByteArray) (w : World) : Calls Try.prog 71 #[Value.string x] w fun e w' => e = .returned (.bool false) ∧ w' = w := by
  go_enter Try.func71, Try.ntmps71
  go_wp2
  go_ret
  exact ⟨by simp, rfl⟩
set_option maxRecDepth 100000 in
set_option maxHeartbeats 1000000 in
theorem cmpS (x y : ByteArray) (w : World) : Calls Try.prog 45 #[.string x, .string y] w fun e w' => e = .returned (.int .i64 (cfS x y)) ∧ w' = w := by
  cases h : Op.bytesLess x.toList y.toList
  · cases h2 : Op.bytesLess y.toList x.toList
    · have H1 : Hid (cfS x y = 0) := by show _ = _; unfold cfS; rw [h, h2]; rfl
      have h3 : (x.toList == y.toList) = true := by rw [eqS]; exact decide_eq_true (blS_eq h h2)
      clear h2
      go_enter Try.func45, Try.ntmps45
      go_wp2_with (go_at_call 69; refine (nanS _ _).mono ?_; rintro e w' ⟨rfl, rfl⟩)
      go_ret
      exact ⟨by rw [H1.out]; rfl, rfl⟩
    · have H1 : Hid (cfS x y = 1) := by show _ = _; unfold cfS; rw [h, h2]; rfl
      have h3 : (x.toList == y.toList) = false := by rw [eqS]; exact decide_eq_false (fun e => by subst e; rw [h] at h2; exact absurd h2 (by simp))
      clear h2
      go_enter Try.func45, Try.ntmps45
      go_wp2_with (go_at_call 69; refine (nanS _ _).mono ?_; rintro e w' ⟨rfl, rfl⟩)
      go_ret
      exact ⟨by rw [H1.out]; rfl, rfl⟩
  · have H1 : Hid (cfS x y = -1) := by show _ = _; unfold cfS; rw [h]; rfl
    go_enter Try.func45, Try.ntmps45
    go_wp2_with (go_at_call 69; refine (nanS _ _).mono ?_; rintro e w' ⟨rfl, rfl⟩)
    go_ret
    exact ⟨by rw [H1.out]; rfl, rfl⟩
set_option maxRecDepth 100000 in
set_option maxHeartbeats 1000000 in
theorem lessS (x y : ByteArray) (w : World) : Calls Try.prog 70 #[Value.string x, Value.string y] w fun e w' => e = .returned (.bool (ltOf cfS x y)) ∧ w' = w := by
  rw [ltS]
  go_enter Try.func70, Try.ntmps70
  go_wp2_with (go_at_call 69; refine (nanS _ _).mono ?_; rintro e w' ⟨rfl, rfl⟩)
  go_ret
  exact ⟨rfl, rfl⟩
set_option maxRecDepth 100000 in
set_option maxHeartbeats 1000000 in
theorem sameS (x y : ByteArray) (w : World) : Calls Try.prog 47 #[Value.string x, Value.string y] w fun e w' => e = .returned (.bool (decide (cfS x y = 0))) ∧ w' = w := by
  have C := cmpS x y
  generalize cfS x y = c at *
  go_enter Try.func47, Try.ntmps47
  go_wp2_with (go_at_call 45; refine (C _).mono ?_; rintro e w' ⟨rfl, rfl⟩)
  go_ret
  exact ⟨by first | rfl | simp, rfl⟩
theorem oneS : OneCell Value.string := fun _ => rfl
theorem entCS : ∀ args w, (callFunc 45 args).run Try.prog w = .ok (.enter 45 args) w := enters_of Try.func45 (by kernel_rfl) rfl
theorem laysS (blk off size : Nat) (w : World) : CmpLays1 Try.prog 45 #[] Value.string cfS blk off size w := fun m os dk _ x y => by
  refine (cmpS x y _).mono ?_
  rintro e w' ⟨rfl, rfl⟩
  exact ⟨rfl, 0, #[], by rw [grow_empty]; rfl⟩
/-- slices.SortStableFunc over a row of the call's own -/
theorem sortedS (B : Nat) (v : Value) (zs : List ByteArray) (w : World) (h : OG Value.string B 9 w v zs) (hz : zs.length < 1152921504606846976) :
    Calls Try.prog 44 #[v, .func (.func 45) #[] #[]] w fun e w' => e = .returned (.tuple #[]) ∧ OG Value.string B 9 w' v (sortS (leOf (ltOf cfS)) zs) ∧ w.grownBy w' v.ownBlock := by
  have h0 := h
  obtain ⟨h1, h2⟩ := h
  rcases h2 with ⟨rfl, h3⟩ | ⟨g, cap, cur, rfl, h3⟩
  · have : zs = [] := List.eq_nil_of_length_eq_zero h3
    subst this
    refine (sortNoneS none 0 _ w).mono ?_
    rintro e w' ⟨rfl, rfl⟩
    exact ⟨rfl, h0, grownG_refl _ _⟩
  · have R := h0.row1 oneS
    refine (sortStS cfS ordS 45 #[] entCS g 0 cap zs.length zs.toArray w (laysS _ _ _ _) R (by simp) hz zs w rfl (SW.start R.hH)).mono ?_
    rintro e w' ⟨rfl, hS⟩
    have := h0.sw (zs' := sortS (leOf (ltOf cfS)) zs) (len_sortS zs) hS
    exact ⟨rfl, this.1, this.2⟩
set_option maxHeartbeats 4000000 in
set_option maxRecDepth 1000000 in
theorem cloneS (v : Value) (zs : List ByteArray) (w : World) (hv : RG Value.string w v zs) (hz : zs.length ≤ 1048576) :
    Calls Try.prog 43 #[v] w fun e w' => ∃ u, e = .returned u ∧ OG Value.string w.heap.size 9 w' u zs ∧ Below w.heap.size w w' := by
  have hv0 := hv
  obtain ⟨ao, cap, rfl, hc, hm, hnil, -⟩ := hv
  obtain ⟨i0, hi, hz0, hz1, hz2⟩ := info_parts infoS
  unfold maxLen at hm
  rcases ao with _ | ad
  · have := hnil rfl
    subst this
    have hz : zs = [] := List.eq_nil_of_length_eq_zero (by omega)
    subst hz
    clear hv0 hnil
    have heq : ∀ w, (binOp .eql 34 (.slice none 0 0) (.slice none 0 0)).run Try.prog w = .ok (.bool true) w := fun _ => by kernel_rfl
    go_enter Try.func43, Try.ntmps43
    go_wp2
    go_ret
    exact ⟨_, rfl, OG.nil _ _ _, Below.refl _ _⟩
  · clear hnil
    obtain ⟨n, hn⟩ : ∃ n, zs.length = n := ⟨_, rfl⟩
    rw [hn] at hc hz hv0 ⊢
    have HN : Hid (zs.length = n) := hn
    clear hn
    have H0 : Hid (OG Value.string w.heap.size 9 (w.alloc (.cells #[] 9)) (.slice (some ⟨w.heap.size, 0, none⟩) 0 0) []) := OG.lit0 _ _
    have hR : RG Value.string (w.alloc (.cells #[] 9)) (.slice (some ad) n cap) zs := hv0.alloc _
    have hB3 : ∀ o, w.heap.size ≤ (w.alloc o).heap.size := fun o => by simp
    clear hv0
    have heq : ∀ w, (binOp .eql 34 (.slice (some ad) n cap) (.slice none 0 0)).run Try.prog w = .ok (.bool false) w := fun _ => by kernel_rfl
    go_enter Try.func43, Try.ntmps43
    go_wp2_with (at_builtin; refine wpList_appG _ oneS rfl _ _ 34 rfl w.heap.size 9 i0 (.string ⟨#[]⟩) 16 Try.underlying34 hi hz0 hz1 hz2 rfl _ _ [] zs rfl H0.out rfl hR (by unfold maxLen; rw [HN.out]; simp; omega) (by rw [HN.out]; simp; omega) (hB3 _) ?_)
    intro v1 w1 ho1 hg1
    have HB : Hid (Below w.heap.size w w1) := H0.out.grown ((Below.refl _ _).alloc (Nat.le_refl _) _) (hB3 _) hg1
    have HO : Hid (OG Value.string w.heap.size 9 w1 v1 zs) := by have := ho1; simpa [Hid] using this
    clear ho1 hg1 hR
    go_wp2
    go_ret
    exact ⟨_, rfl, HO.out, HB.out⟩
end Go.Proofs.Ytknibmehbplpbaa
