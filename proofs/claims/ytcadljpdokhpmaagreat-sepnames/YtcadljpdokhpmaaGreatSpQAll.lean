/-
  Proved here: package cmp's words at int; set's same; slices.Clone and slices.SortStableFunc over rows.
  Proved here: package sep's withSteps, and how steps are held against each other.
-/
import Derived.Test.YtcadljpdokhpmaaGreatRows
import Derived.Test.YtcadljpdokhpmaaGreatSortDIAll
import Derived.OwnWalk
import Derived.OwnWalkIn
import Derived.ArgAppend
import Derived.Laws.AppendOwnNone
import Derived.Laws.MakeOwn
import Derived.Laws.OwnMore
import Derived.WalkKit
import Derived.WalkSpells
import Derived.WalkLawsBesides
import Derived.Below
import Derived.BigQuiet
import Derived.Test.YtcadljpdokhpmaaGreatSpP
namespace Go.Proofs.YtcadljpdokhpmaaGreat
open Go.Shelf Go.RowKit Go.Lib Go.Sort
theorem infoI : (Tryz.prog.info? 3).map (fun i => (i.zero, i.size, i.bytes)) = some (some (.int .i64 0), 1, 8) := by kernel_rfl
/-- what cmp.Compare says -/
def cfI (x y : Int) : Int := if x < y then -1 else if y < x then 1 else 0
theorem ltI (x y : Int) : ltOf cfI x y = decide (x < y) := by
  unfold ltOf cfI
  by_cases h : x < y
  · simp [h]
  · by_cases h2 : y < x <;> simp [h, h2]
theorem ordI : Ord (leOf (ltOf cfI)) := by
  constructor
  · intro x y
    simp only [leOf, ltI, Bool.not_eq_true', decide_eq_false_iff_not]
    omega
  · intro x y z
    simp only [leOf, ltI, Bool.not_eq_true', decide_eq_false_iff_not]
    omega
theorem cfI_zero (x y : Int) : decide (cfI x y = 0) = decide (x = y) := by
  unfold cfI
  by_cases h : x < y
  · simp [h]; omega
  · by_cases h2 : y < x
    · simp [h, h2]; omega
    · simp [h, h2]; omega
theorem nanI (x : Int) (w : World) : Calls Tryz.prog 78 #[(Value.int .i64) x] w fun e w' => e = .returned (.bool false) ∧ w' = w := by
  go_enter Tryz.func78, Tryz.ntmps78
  go_wp2
  go_ret
  exact ⟨by simp, rfl⟩
theorem snanI (x : Int) (w : World) : Calls Tryz.prog 89 #[(Value.int .i64) x] w fun e w' => e = .returned (.bool false) ∧ w' = w := by
  go_enter Tryz.func89, Tryz.ntmps89
  go_wp2
  go_ret
  exact ⟨by simp, rfl⟩
set_option maxRecDepth 100000 in
set_option maxHeartbeats 1000000 in
theorem cmpI (x y : Int) (w : World) : Calls Tryz.prog 54 #[(Value.int .i64) x, (Value.int .i64) y] w fun e w' => e = .returned (.int .i64 (cfI x y)) ∧ w' = w := by
  by_cases h : x < y
  · have H1 : Hid (cfI x y = -1) := by show _ = _; unfold cfI; rw [if_pos h]
    go_enter Tryz.func54, Tryz.ntmps54
    go_wp2_with (go_at_call 78; refine (nanI _ _).mono ?_; rintro e w' ⟨rfl, rfl⟩)
    go_ret
    exact ⟨by rw [H1.out]; rfl, rfl⟩
  · by_cases h2 : y < x
    · have h3 : decide (x > y) = true := decide_eq_true h2
      have H1 : Hid (cfI x y = 1) := by show _ = _; unfold cfI; rw [if_neg h, if_pos h2]
      go_enter Tryz.func54, Tryz.ntmps54
      go_wp2_with (go_at_call 78; refine (nanI _ _).mono ?_; rintro e w' ⟨rfl, rfl⟩)
      go_ret
      exact ⟨by rw [H1.out]; rfl, rfl⟩
    · have h3 : decide (x > y) = false := decide_eq_false h2
      have H1 : Hid (cfI x y = 0) := by show _ = _; unfold cfI; rw [if_neg h, if_neg h2]
      go_enter Tryz.func54, Tryz.ntmps54
      go_wp2_with (go_at_call 78; refine (nanI _ _).mono ?_; rintro e w' ⟨rfl, rfl⟩)
      go_ret
      exact ⟨by rw [H1.out]; rfl, rfl⟩
set_option maxRecDepth 100000 in
set_option maxHeartbeats 1000000 in
theorem lessI (x y : Int) (w : World) : Calls Tryz.prog 88 #[(Value.int .i64) x, (Value.int .i64) y] w fun e w' => e = .returned (.bool (ltOf cfI x y)) ∧ w' = w := by
  rw [ltI]
  go_enter Tryz.func88, Tryz.ntmps88
  go_wp2_with (go_at_call 78; refine (nanI _ _).mono ?_; rintro e w' ⟨rfl, rfl⟩)
  go_ret
  exact ⟨rfl, rfl⟩
set_option maxRecDepth 100000 in
set_option maxHeartbeats 1000000 in
theorem sameI (x y : Int) (w : World) : Calls Tryz.prog 56 #[(Value.int .i64) x, (Value.int .i64) y] w fun e w' => e = .returned (.bool (decide (cfI x y = 0))) ∧ w' = w := by
  have C := cmpI x y
  generalize cfI x y = c at *
  go_enter Tryz.func56, Tryz.ntmps56
  go_wp2_with (go_at_call 54; refine (C _).mono ?_; rintro e w' ⟨rfl, rfl⟩)
  go_ret
  exact ⟨by first | rfl | simp, rfl⟩
theorem oneI : OneCell (Value.int .i64) := fun _ => rfl
theorem entCI : ∀ args w, (callFunc 54 args).run Tryz.prog w = .ok (.enter 54 args) w := enters_of Tryz.func54 (by kernel_rfl) rfl
theorem laysI (blk off size : Nat) (w : World) : CmpLays1 Tryz.prog 54 #[] (Value.int .i64) cfI blk off size w := fun m os dk _ x y => by
  refine (cmpI x y _).mono ?_
  rintro e w' ⟨rfl, rfl⟩
  exact ⟨rfl, 0, #[], by rw [grow_empty]; rfl⟩
/-- slices.SortStableFunc over a row of the call's own -/
theorem sortedI (B : Nat) (v : Value) (zs : List Int) (w : World) (h : OG (Value.int .i64) B 3 w v zs) (hz : zs.length < 1152921504606846976) :
    Calls Tryz.prog 53 #[v, .func (.func 54) #[] #[]] w fun e w' => e = .returned (.tuple #[]) ∧ OG (Value.int .i64) B 3 w' v (sortS (leOf (ltOf cfI)) zs) ∧ w.grownBy w' v.ownBlock := by
  have h0 := h
  obtain ⟨h1, h2⟩ := h
  rcases h2 with ⟨rfl, h3⟩ | ⟨g, cap, cur, rfl, h3⟩
  · have : zs = [] := List.eq_nil_of_length_eq_zero h3
    subst this
    refine (sortNoneI none 0 _ w).mono ?_
    rintro e w' ⟨rfl, rfl⟩
    exact ⟨rfl, h0, grownG_refl _ _⟩
  · have R := h0.row1 oneI
    refine (sortStI cfI ordI 54 #[] entCI g 0 cap zs.length zs.toArray w (laysI _ _ _ _) R (by simp) hz zs w rfl (SW.start R.hH)).mono ?_
    rintro e w' ⟨rfl, hS⟩
    have := h0.sw (zs' := sortS (leOf (ltOf cfI)) zs) (len_sortS zs) hS
    exact ⟨rfl, this.1, this.2⟩
set_option maxHeartbeats 4000000 in
set_option maxRecDepth 1000000 in
theorem cloneI (v : Value) (zs : List Int) (w : World) (hv : RG (Value.int .i64) w v zs) (hz : zs.length ≤ 1048576) :
    Calls Tryz.prog 52 #[v] w fun e w' => ∃ u, e = .returned u ∧ OG (Value.int .i64) w.heap.size 3 w' u zs ∧ Below w.heap.size w w' := by
  have hv0 := hv
  obtain ⟨ao, cap, rfl, hc, hm, hnil, -⟩ := hv
  obtain ⟨i0, hi, hz0, hz1, hz2⟩ := info_parts infoI
  unfold maxLen at hm
  rcases ao with _ | ad
  · have := hnil rfl
    subst this
    have hz : zs = [] := List.eq_nil_of_length_eq_zero (by omega)
    subst hz
    clear hv0 hnil
    have heq : ∀ w, (binOp .eql 25 (.slice none 0 0) (.slice none 0 0)).run Tryz.prog w = .ok (.bool true) w := fun _ => by kernel_rfl
    go_enter Tryz.func52, Tryz.ntmps52
    go_wp2
    go_ret
    exact ⟨_, rfl, OG.nil _ _ _, Below.refl _ _⟩
  · clear hnil
    obtain ⟨n, hn⟩ : ∃ n, zs.length = n := ⟨_, rfl⟩
    rw [hn] at hc hz hv0 ⊢
    have HN : Hid (zs.length = n) := hn
    clear hn
    have H0 : Hid (OG (Value.int .i64) w.heap.size 3 (w.alloc (.cells #[] 3)) (.slice (some ⟨w.heap.size, 0, none⟩) 0 0) []) := OG.lit0 _ _
    have hR : RG (Value.int .i64) (w.alloc (.cells #[] 3)) (.slice (some ad) n cap) zs := hv0.alloc _
    have hB3 : ∀ o, w.heap.size ≤ (w.alloc o).heap.size := fun o => by simp
    clear hv0
    have heq : ∀ w, (binOp .eql 25 (.slice (some ad) n cap) (.slice none 0 0)).run Tryz.prog w = .ok (.bool false) w := fun _ => by kernel_rfl
    go_enter Tryz.func52, Tryz.ntmps52
    go_wp2_with (at_builtin; refine wpList_appG _ oneI rfl _ _ 25 rfl w.heap.size 3 i0 (.int .i64 0) 8 Tryz.underlying25 hi hz0 hz1 hz2 rfl _ _ [] zs rfl H0.out rfl hR (by unfold maxLen; rw [HN.out]; simp; omega) (by rw [HN.out]; simp; omega) (hB3 _) ?_)
    intro v1 w1 ho1 hg1
    have HB : Hid (Below w.heap.size w w1) := H0.out.grown ((Below.refl _ _).alloc (Nat.le_refl _) _) (hB3 _) hg1
    have HO : Hid (OG (Value.int .i64) w.heap.size 3 w1 v1 zs) := by have := ho1; simpa [Hid] using this
    clear ho1 hg1 hR
    go_wp2
    go_ret
    exact ⟨_, rfl, HO.out, HB.out⟩
end Go.Proofs.YtcadljpdokhpmaaGreat

namespace Go.Proofs.YtcadljpdokhpmaaGreat
set_option linter.unusedVariables false
open Go.RowKit
def stepsTo (pts : List Int) (d : Bool) : List Stp := pts.map fun x => (x, d)
theorem stepsTo_snoc {pts : List Int} {k : Nat} {x : Int} (d : Bool) (h : pts[k]? = some x) : stepsTo (pts.take (k + 1)) d = stepsTo (pts.take k) d ++ [(x, d)] := by
  unfold stepsTo
  rw [List.take_add_one, h, List.map_append]; rfl
theorem stepsTo_len (pts : List Int) (d : Bool) : (stepsTo pts d).length = pts.length := by simp [stepsTo]
set_option maxRecDepth 1000000 in
set_option maxHeartbeats 6400000 in
theorem withStepsS (B : Nat) (w : World) (sv pv : Value) (ss : List Stp) (pts : List Int) (d : Bool) (hs : OS B w sv ss) (hB : B ≤ w.heap.size) (hp : ∀ W, Below B w W → RG (Value.int .i64) W pv pts) (hl : ss.length ≤ 400000) (hl2 : pts.length ≤ 400000) :
    Calls Tryz.prog 72 #[sv, pv, .bool d] w fun e w' => ∃ u, e = .returned u ∧ OS B w' u (ss ++ stepsTo pts d) ∧ Below B w w' := by
  obtain ⟨i1, hi1, ha0, ha1, ha2⟩ := info_parts Tryz.infoST
  have hp0 := hp w (Below.refl _ _)
  obtain ⟨po, pn, pc, rfl⟩ : ∃ o n c, pv = .slice o n c := by obtain ⟨ao, cap, e⟩ := hp0.sl; exact ⟨_, _, _, e⟩
  obtain ⟨so, sc, rfl, -⟩ := hs.sl
  have hpn : pts.length = pn := hp0.len
  have HPL : Hid (pts.length = pn) := hpn
  have HP : Hid (∀ W, Below B w W → RG (Value.int .i64) W (.slice po pn pc) pts) := hp
  have HS : Hid (OS B w (.slice so ss.length sc) (ss ++ stepsTo (pts.take 0) d)) := by show OS _ _ _ _; simp [stepsTo]; exact hs
  have hpm : pn ≤ 400000 := by rw [← hpn]; exact hl2
  have HL : Hid (ss.length ≤ 400000) := hl
  obtain ⟨sn, hsn⟩ : ∃ n, n = ss.length := ⟨_, rfl⟩
  rw [← hsn] at HS ⊢
  clear hp hs hpn hl2 hl hp0 hsn
  go_enter Tryz.func72, Tryz.ntmps72
  go_wp2
  go_loopg [0, 8, 11] pn (fun g1 v0 _v8 v11 wr => ∃ (k : Nat) (lo : Option Addr) (ln lc : Nat), v0 = .slice lo ln lc ∧ v11 = .int .i64 k ∧ k ≤ pn ∧ pn - k ≤ g1 ∧ Hid (OS B wr (.slice lo ln lc) (ss ++ stepsTo (pts.take k) d)) ∧ Hid (Below B w wr))
  case atStart => exact ⟨0, so, sn, sc, rfl, rfl, Nat.zero_le _, by omega, HS, Below.refl _ _⟩
  case round =>
    clear HS
    obtain ⟨k, lo, ln, lc, rfl, rfl, hkn, hg1, HO, HB⟩ := hrel
    by_cases hlt : k < pn
    · have hltz : (k : Int) < (pn : Int) := by omega
      obtain ⟨x, gx, ox, hx1, rfl, hx2⟩ := (HP.out wr HB.out).at hlt
      have HST : Hid (ss ++ stepsTo (pts.take (k + 1)) d = (ss ++ stepsTo (pts.take k) d) ++ [(x, d)]) := by show _ = _; rw [stepsTo_snoc d hx1, List.append_assoc]
      have HLN : Hid ((ss ++ stepsTo (pts.take k) d).length ≤ 1000000) := by
        show _ ≤ _
        rw [List.length_append, stepsTo_len, List.length_take]
        have := HL.out
        omega
      obtain ⟨WA, hWA⟩ : ∃ W, W = wr.alloc (.cells #[.int .i64 x, .bool d] 76) := ⟨_, rfl⟩
      obtain ⟨gb, hgb⟩ : ∃ g, g = wr.heap.size := ⟨_, rfl⟩
      have HBA : Hid (Below wr.heap.size wr WA) := by show Below _ _ _; rw [hWA]; exact belowB _ _
      have HC0 : Hid (WA.cell? ⟨gb, 0, none⟩ = some (.int .i64 x) ∧ WA.cell? ⟨gb, 1, none⟩ = some (.bool d)) := ⟨by rw [hWA, hgb, World.cell?_alloc_at _ _ _ _ rfl]; rfl, by rw [hWA, hgb, World.cell?_alloc_at _ _ _ _ rfl]; rfl⟩
      have HWA : Hid (WA = wr.alloc (.cells #[.int .i64 x, .bool d] 76)) := hWA
      have HGB : Hid (gb = wr.heap.size) := hgb
      have HBW : Hid (B ≤ wr.heap.size) := Nat.le_trans hB HB.out.size
      clear hWA hgb hx1
      go_wp2_with (at_builtin; rw [← HWA.out, ← HGB.out]; refine wpList_pushS _ rfl _ _ 72 rfl B i1 Tryz.underlying72 hi1 ha0 ha1 ha2 _ (ss ++ stepsTo (pts.take k) d) rfl (HO.out.below HBA.out) gb (x, d) rfl HC0.out.1 HC0.out.2 HLN.out (Nat.le_trans HBW.out HBA.out.size) ?_)
      intro ng tm ncap W2 ho hg3 hng _
      have HO2 : Hid (OS B W2 (.slice (some ⟨ng, 0, none⟩) tm ncap) (ss ++ stepsTo (pts.take (k + 1)) d)) := by show OS _ _ _ _; rw [HST.out, List.append_assoc]; exact ho
      have HB2 : Hid (Below B w W2) := (HO.out.below HBA.out).grown (HB.out.trans (HBA.out.mono HBW.out)) (Nat.le_trans HBW.out HBA.out.size) hg3
      clear ho hg3 hng HO HB HBA HC0 HWA HGB HBW HST HLN hx2
      go_wp2
      go_roundg (pn - (k + 1))
      case measure => omega
      case rel => exact ⟨k + 1, _, _, _, rfl, by first | rfl | go_num, by omega, Nat.le_refl _, HO2, HB2⟩
    · have hltz : ¬ (k : Int) < (pn : Int) := by omega
      have HO2 : Hid (OS B wr (.slice lo ln lc) (ss ++ stepsTo pts d)) := by
        have h := HO.out
        rw [List.take_of_length_le (by rw [HPL.out]; omega)] at h
        exact h
      clear HO
      go_wp2
      go_ret
      exact ⟨_, rfl, HO2.out, HB.out⟩
set_option maxRecDepth 1000000 in
set_option maxHeartbeats 1600000 in
theorem cmpStep (s t : Stp) (w : World) : Calls Tryz.prog 74 #[.agg #[.int .i64 s.1, .bool s.2], .agg #[.int .i64 t.1, .bool t.2]] w fun e w' => e = .returned (.int .i64 (cfI s.1 t.1)) ∧ ∃ o1 o2, w' = (w.alloc o1).alloc o2 := by
  have hcon := fun W => cmpI s.1 t.1 W
  have HC : Hid (∀ W, Calls Tryz.prog 54 #[.int .i64 s.1, .int .i64 t.1] W fun e w' => e = .returned (.int .i64 (cfI s.1 t.1)) ∧ w' = W) := hcon
  generalize cfI s.1 t.1 = r at HC ⊢
  clear hcon
  go_enter Tryz.func74, Tryz.ntmps74
  go_wp2_with fail
  refine Calls.mono (HC.out _) ?_
  rintro e y ⟨rfl, rfl⟩
  go_wp2
  go_ret
  exact ⟨rfl, _, _, rfl⟩
end Go.Proofs.YtcadljpdokhpmaaGreat
