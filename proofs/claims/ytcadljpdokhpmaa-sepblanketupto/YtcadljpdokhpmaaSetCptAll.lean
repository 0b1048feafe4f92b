/-
  Proved here: package cmp's words at int; set's same; slices.Clone and slices.SortStableFunc over rows.
  Proved here: mathematics of lists from which what repeats its forerunner is left out (no program); and a few plain facts on rows of the call's own.
-/
import Derived.Test.YtcadljpdokhpmaaRows
import Derived.Test.YtcadljpdokhpmaaSortDI
import Derived.OwnWalk
import Derived.OwnWalkIn
import Derived.ArgAppend
import Derived.Laws.AppendOwnNone
import Derived.Laws.MakeOwn
import Derived.Laws.OwnMore
import Derived.WalkKit
import Derived.WalkSpells
import Derived.WalkLawsBesides
import Derived.Below
import Derived.BigQuiet
import Derived.Test.YtcadljpdokhpmaaSortW
import Derived.Lib.SliceRun
namespace Go.Proofs.Ytcadljpdokhpmaa
open Go.Shelf Go.RowKit Go.Lib Go.Sort
theorem infoI : (Try.prog.info? 3).map (fun i => (i.zero, i.size, i.bytes)) = some (some (.int .i64 0), 1, 8) := by kernel_rfl
/-- what cmp.Compare says -/
def cfI (x y : Int) : Int := if x < y then -1 else if y < x then 1 else 0
theorem ltI (x y : Int) : ltOf cfI x y = decide (x < y) := by
  unfold ltOf cfI
  by_cases h : x < y
  · simp [h]
  · by_cases h2 : y < x <;> simp [h, h2]
theorem ordI : Ord (leOf (ltOf cfI)) := by
  constructor
  · intro x y
    simp only [leOf, ltI, Bool.not_eq_true', decide_eq_false_iff_not]
    omega
  · intro x y z
    simp only [leOf, ltI, Bool.not_eq_true', decide_eq_false_iff_not]
    omega
theorem cfI_zero (x y : Int) : decide (cfI x y = 0) = decide (x = y) := by
  unfold cfI
  by_cases h : x < y
  · simp [h]; omega
  · by_cases h2 : y < x
    · simp [h, h2]; omega
    · simp [h, h2]; omega
theorem nanI (x : Int) (w : World) : Calls Try.prog 38 #[(Value.int .i64) x] w fun e w' => e = .returned (.bool false) ∧ w' = w := by
  go_enter Try.func38, Try.ntmps38
  go_wp2
  go_ret
  exact ⟨by simp, rfl⟩
theorem snanI (x : Int) (w : World) : Calls Try.prog 40 #[(Value.int .i64) x] w fun e w' => e = .returned (.bool false) ∧ w' = w := by
  go_enter Try.func40, Try.ntmps40
  go_wp2
  go_ret
  exact ⟨by simp, rfl⟩
set_option maxRecDepth 100000 in
set_option maxHeartbeats 1000000 in
theorem cmpI (x y : Int) (w : World) : Calls Try.prog 28 #[(Value.int .i64) x, (Value.int .i64) y] w fun e w' => e = .returned (.int .i64 (cfI x y)) ∧ w' = w := by
  by_cases h : x < y
  · have H1 : Hid (cfI x y = -1) := by show _ = _; unfold cfI; rw [if_pos h]
    go_enter Try.func28, Try.ntmps28
    go_wp2_with (go_at_call 38; refine (nanI _ _).mono ?_; rintro e w' ⟨rfl, rfl⟩)
    go_ret
    exact ⟨by rw [H1.out]; rfl, rfl⟩
  · by_cases h2 : y < x
    · have h3 : decide (x > y) = true := decide_eq_true h2
      have H1 : Hid (cfI x y = 1) := by show _ = _; unfold cfI; rw [if_neg h, if_pos h2]
      go_enter Try.func28, Try.ntmps28
      go_wp2_with (go_at_call 38; refine (nanI _ _).mono ?_; rintro e w' ⟨rfl, rfl⟩)
      go_ret
      exact ⟨by rw [H1.out]; rfl, rfl⟩
    · have h3 : decide (x > y) = false := decide_eq_false h2
      have H1 : Hid (cfI x y = 0) := by show _ = _; unfold cfI; rw [if_neg h, if_neg h2]
      go_enter Try.func28, Try.ntmps28
      go_wp2_with (go_at_call 38; refine (nanI _ _).mono ?_; rintro e w' ⟨rfl, rfl⟩)
      go_ret
      exact ⟨by rw [H1.out]; rfl, rfl⟩
set_option maxRecDepth 100000 in
set_option maxHeartbeats 1000000 in
theorem lessI (x y : Int) (w : World) : Calls Try.prog 39 #[(Value.int .i64) x, (Value.int .i64) y] w fun e w' => e = .returned (.bool (ltOf cfI x y)) ∧ w' = w := by
  rw [ltI]
  go_enter Try.func39, Try.ntmps39
  go_wp2_with (go_at_call 38; refine (nanI _ _).mono ?_; rintro e w' ⟨rfl, rfl⟩)
  go_ret
  exact ⟨rfl, rfl⟩
set_option maxRecDepth 100000 in
set_option maxHeartbeats 1000000 in
theorem sameI (x y : Int) (w : World) : Calls Try.prog 30 #[(Value.int .i64) x, (Value.int .i64) y] w fun e w' => e = .returned (.bool (decide (cfI x y = 0))) ∧ w' = w := by
  have C := cmpI x y
  generalize cfI x y = c at *
  go_enter Try.func30, Try.ntmps30
  go_wp2_with (go_at_call 28; refine (C _).mono ?_; rintro e w' ⟨rfl, rfl⟩)
  go_ret
  exact ⟨by first | rfl | simp, rfl⟩
theorem oneI : OneCell (Value.int .i64) := fun _ => rfl
theorem entCI : ∀ args w, (callFunc 28 args).run Try.prog w = .ok (.enter 28 args) w := enters_of Try.func28 (by kernel_rfl) rfl
theorem laysI (blk off size : Nat) (w : World) : CmpLays1 Try.prog 28 #[] (Value.int .i64) cfI blk off size w := fun m os dk _ x y => by
  refine (cmpI x y _).mono ?_
  rintro e w' ⟨rfl, rfl⟩
  exact ⟨rfl, 0, #[], by rw [grow_empty]; rfl⟩
/-- slices.SortStableFunc over a row of the call's own -/
theorem sortedI (B : Nat) (v : Value) (zs : List Int) (w : World) (h : OG (Value.int .i64) B 3 w v zs) (hz : zs.length < 1152921504606846976) :
    Calls Try.prog 27 #[v, .func (.func 28) #[] #[]] w fun e w' => e = .returned (.tuple #[]) ∧ OG (Value.int .i64) B 3 w' v (sortS (leOf (ltOf cfI)) zs) ∧ w.grownBy w' v.ownBlock := by
  have h0 := h
  obtain ⟨h1, h2⟩ := h
  rcases h2 with ⟨rfl, h3⟩ | ⟨g, cap, cur, rfl, h3⟩
  · have : zs = [] := List.eq_nil_of_length_eq_zero h3
    subst this
    refine (sortNoneI none 0 _ w).mono ?_
    rintro e w' ⟨rfl, rfl⟩
    exact ⟨rfl, h0, grownG_refl _ _⟩
  · have R := h0.row1 oneI
    refine (sortStI cfI ordI 28 #[] entCI g 0 cap zs.length zs.toArray w (laysI _ _ _ _) R (by simp) hz zs w rfl (SW.start R.hH)).mono ?_
    rintro e w' ⟨rfl, hS⟩
    have := h0.sw (zs' := sortS (leOf (ltOf cfI)) zs) (len_sortS zs) hS
    exact ⟨rfl, this.1, this.2⟩
set_option maxHeartbeats 4000000 in
set_option maxRecDepth 1000000 in
theorem cloneI (v : Value) (zs : List Int) (w : World) (hv : RG (Value.int .i64) w v zs) (hz : zs.length ≤ 1048576) :
    Calls Try.prog 26 #[v] w fun e w' => ∃ u, e = .returned u ∧ OG (Value.int .i64) w.heap.size 3 w' u zs ∧ Below w.heap.size w w' := by
  have hv0 := hv
  obtain ⟨ao, cap, rfl, hc, hm, hnil, -⟩ := hv
  obtain ⟨i0, hi, hz0, hz1, hz2⟩ := info_parts infoI
  unfold maxLen at hm
  rcases ao with _ | ad
  · have := hnil rfl
    subst this
    have hz : zs = [] := List.eq_nil_of_length_eq_zero (by omega)
    subst hz
    clear hv0 hnil
    have heq : ∀ w, (binOp .eql 24 (.slice none 0 0) (.slice none 0 0)).run Try.prog w = .ok (.bool true) w := fun _ => by kernel_rfl
    go_enter Try.func26, Try.ntmps26
    go_wp2
    go_ret
    exact ⟨_, rfl, OG.nil _ _ _, Below.refl _ _⟩
  · clear hnil
    obtain ⟨n, hn⟩ : ∃ n, zs.length = n := ⟨_, rfl⟩
    rw [hn] at hc hz hv0 ⊢
    have HN : Hid (zs.length = n) := hn
    clear hn
    have H0 : Hid (OG (Value.int .i64) w.heap.size 3 (w.alloc (.cells #[] 3)) (.slice (some ⟨w.heap.size, 0, none⟩) 0 0) []) := OG.lit0 _ _
    have hR : RG (Value.int .i64) (w.alloc (.cells #[] 3)) (.slice (some ad) n cap) zs := hv0.alloc _
    have hB3 : ∀ o, w.heap.size ≤ (w.alloc o).heap.size := fun o => by simp
    clear hv0
    have heq : ∀ w, (binOp .eql 24 (.slice (some ad) n cap) (.slice none 0 0)).run Try.prog w = .ok (.bool false) w := fun _ => by kernel_rfl
    go_enter Try.func26, Try.ntmps26
    go_wp2_with (at_builtin; refine wpList_appG _ oneI rfl _ _ 24 rfl w.heap.size 3 i0 (.int .i64 0) 8 Try.underlying24 hi hz0 hz1 hz2 rfl _ _ [] zs rfl H0.out rfl hR (by unfold maxLen; rw [HN.out]; simp; omega) (by rw [HN.out]; simp; omega) (hB3 _) ?_)
    intro v1 w1 ho1 hg1
    have HB : Hid (Below w.heap.size w w1) := H0.out.grown ((Below.refl _ _).alloc (Nat.le_refl _) _) (hB3 _) hg1
    have HO : Hid (OG (Value.int .i64) w.heap.size 3 w1 v1 zs) := by have := ho1; simpa [Hid] using this
    clear ho1 hg1 hR
    go_wp2
    go_ret
    exact ⟨_, rfl, HO.out, HB.out⟩
end Go.Proofs.Ytcadljpdokhpmaa

namespace Go.Proofs.Ytcadljpdokhpmaa
open Go.Shelf Go.RowKit Go.Lib Go.Sort
section
variable {α : Type}
/-- what is left behind p -/
def cptF (eq : α → α → Bool) : α → List α → List α
  | _, [] => []
  | p, x :: l => if eq x p then cptF eq x l else x :: cptF eq x l
def cpt (eq : α → α → Bool) : List α → List α
  | [] => []
  | x :: l => x :: cptF eq x l
variable {eq : α → α → Bool}
theorem cptF_yes {x p : α} (l : List α) (h : eq x p = true) : cptF eq p (x :: l) = cptF eq x l := by rw [cptF, if_pos h]
theorem cptF_no {x p : α} (l : List α) (h : eq x p = false) : cptF eq p (x :: l) = x :: cptF eq x l := by rw [cptF, if_neg (by simp [h])]
/-- the first k things are all kept -/
def CpA (eq : α → α → Bool) (L : List α) (k : Nat) : Prop := ∃ p, L[k - 1]? = some p ∧ L.take k ++ cptF eq p (L.drop k) = cpt eq L
/-- D is kept of what stands ahead of place j -/
def CpB (eq : α → α → Bool) (L D : List α) (j : Nat) : Prop := ∃ p, L[j - 1]? = some p ∧ D ++ cptF eq p (L.drop j) = cpt eq L
theorem CpA.start {L : List α} (h : 0 < L.length) : CpA eq L 1 := by
  cases L with
  | nil => simp at h
  | cons x l => exact ⟨x, rfl, rfl⟩
theorem drop_cons {L : List α} {k : Nat} {x : α} (h : L[k]? = some x) : L.drop k = x :: L.drop (k + 1) := by
  obtain ⟨hk, rfl⟩ := List.getElem?_eq_some_iff.1 h
  exact List.drop_eq_getElem_cons hk
theorem take_snoc {L : List α} {k : Nat} {x : α} (h : L[k]? = some x) : L.take (k + 1) = L.take k ++ [x] := by
  rw [List.take_add_one, h]; rfl
theorem CpA.next {L : List α} {k : Nat} {x p : α} (h : CpA eq L k) (hx : L[k]? = some x) (hp : L[k - 1]? = some p) (he : eq x p = false) : CpA eq L (k + 1) := by
  obtain ⟨q, hq, h⟩ := h
  rw [hp] at hq
  cases hq
  refine ⟨x, by simpa using hx, ?_⟩
  rw [← h, drop_cons hx, cptF_no _ he, take_snoc hx]
  simp
theorem CpA.turn {L : List α} {k : Nat} {x p : α} (h : CpA eq L k) (hx : L[k]? = some x) (hp : L[k - 1]? = some p) (he : eq x p = true) : CpB eq L (L.take k) (k + 1) := by
  obtain ⟨q, hq, h⟩ := h
  rw [hp] at hq
  cases hq
  refine ⟨x, by simpa using hx, ?_⟩
  rw [← h, drop_cons hx, cptF_yes _ he]
theorem CpA.all {L : List α} {k : Nat} (h : CpA eq L k) (hk : L.length ≤ k) : cpt eq L = L := by
  obtain ⟨p, _, h⟩ := h
  rw [← h, List.drop_of_length_le hk, List.take_of_length_le hk]
  simp [cptF]
theorem CpB.skip {L D : List α} {j : Nat} {x p : α} (h : CpB eq L D j) (hx : L[j]? = some x) (hp : L[j - 1]? = some p) (he : eq x p = true) : CpB eq L D (j + 1) := by
  obtain ⟨q, hq, h⟩ := h
  rw [hp] at hq
  cases hq
  exact ⟨x, by simpa using hx, by rw [← h, drop_cons hx, cptF_yes _ he]⟩
theorem CpB.keep {L D : List α} {j : Nat} {x p : α} (h : CpB eq L D j) (hx : L[j]? = some x) (hp : L[j - 1]? = some p) (he : eq x p = false) : CpB eq L (D ++ [x]) (j + 1) := by
  obtain ⟨q, hq, h⟩ := h
  rw [hp] at hq
  cases hq
  exact ⟨x, by simpa using hx, by rw [← h, drop_cons hx, cptF_no _ he]; simp⟩
theorem CpB.done {L D : List α} {j : Nat} (h : CpB eq L D j) (hj : L.length ≤ j) : cpt eq L = D := by
  obtain ⟨p, _, h⟩ := h
  rw [← h, List.drop_of_length_le hj]
  simp [cptF]
theorem cpt_small (L : List α) (h : L.length < 2) : cpt eq L = L := by
  match L, h with
  | [], _ => rfl
  | [x], _ => rfl
/-- what is written so far, and the rest as it was -/
theorem put_at {D L : List α} {k : Nat} {x y : α} (hD : D.length = k) (hy : L[k]? = some y) : (D ++ L.drop k).set k x = (D ++ [x]) ++ L.drop (k + 1) := by
  subst hD
  rw [drop_cons hy]
  simp
end
section
variable {α : Type} {enc : α → Value}
theorem OG.cut {B e g n cap m : Nat} {w : World} {C : List α} (h : OG enc B e w (.slice (some ⟨g, 0, none⟩) n cap) C) (hm : m ≤ C.length) : OG enc B e w (.slice (some ⟨g, 0, none⟩) m cap) (C.take m) := by
  obtain ⟨h1, h2⟩ := h
  refine ⟨by simp, ?_⟩
  rcases h2 with ⟨e1, _⟩ | ⟨g', cap', cur, e1, h3, h4, h5, h6, h7, h8⟩
  · simp at e1
  · simp only [Value.slice.injEq, Option.some.injEq, Addr.mk.injEq, and_true] at e1
    obtain ⟨rfl, rfl, rfl⟩ := e1
    refine .inr ⟨g, cap, cur, by rw [List.length_take, Nat.min_eq_left hm], h3, h4, by rw [List.length_take]; omega, h6, h7, ?_⟩
    rw [List.length_take, Nat.min_eq_left hm, Nat.mul_one, List.map_take, ← h8, List.take_take, Nat.mul_one, Nat.min_eq_left hm]
theorem OG.cl {B e g n cap : Nat} {w : World} {C : List α} (h : OG enc B e w (.slice (some ⟨g, 0, none⟩) n cap) C) {i : Nat} {x : α} (hx : C[i]? = some x) (m : Nat) (os : Array Obj) : (grow (w.drewN m) os).cell? ⟨g, i, none⟩ = some (enc x) := by
  rw [cell?_grow _ _ _ (by rw [heap_drewG]; exact (h.lt g rfl).2)]
  exact ((OG.of_blocks h fun j _ => by rw [heap_drewG] : OG enc B e (w.drewN m) _ C).cell hx).1
theorem drewN_same (w : World) : ∀ m : Nat, (w.drewN m).os = w.os ∧ (w.drewN m).tape = w.tape ∧ (w.drewN m).output = w.output
  | 0 => ⟨rfl, rfl, rfl⟩
  | m + 1 => drewN_same w.drew m
theorem grown_grow (w : World) (m : Nat) (os : Array Obj) (r : Option Nat) : w.grownBy (grow (w.drewN m) os) r := by
  have h : (grow (w.drewN m) os).heap = w.heap ++ os := by show (w.drewN m).heap ++ os = _; rw [heap_drewG]
  refine ⟨?_, ?_, ?_, ?_, ?_⟩
  · exact (drewN_same w m).1
  · exact (drewN_same w m).2.1
  · exact (drewN_same w m).2.2
  · rw [h, Array.size_append]; omega
  · intro j hj _
    rw [h, Array.getElem?_append_left hj]
theorem OG.grow {B e : Nat} {w : World} {v : Value} {C : List α} (h : OG enc B e w v C) (m : Nat) (os : Array Obj) : OG enc B e (Go.Sort.grow (w.drewN m) os) v C :=
  h.of_blocks fun j hj => by
    show ((w.drewN m).heap ++ os)[j]? = _
    rw [heap_drewG, Array.getElem?_append_left (h.lt j hj).2]
theorem OG.sets {B e g n cap : Nat} (z : α) : ∀ (m k : Nat) {w : World} {C : List α}, OG enc B e w (.slice (some ⟨g, 0, none⟩) n cap) C → C.length = n →
    ∃ C', OG enc B e (w.setCells g k (List.replicate m (enc z))) (.slice (some ⟨g, 0, none⟩) n cap) C' ∧ C'.length = n ∧ C'.take k = C.take k ∧ w.grownBy (w.setCells g k (List.replicate m (enc z))) (some g)
  | 0, k, w, C, h, hn => ⟨C, h, hn, rfl, grownG_refl _ _⟩
  | m + 1, k, w, C, h, hn => by
    obtain ⟨h1, h2⟩ := h.set hn k z
    obtain ⟨C', h3, h4, h5, h6⟩ := OG.sets z m (k + 1) h1 (by rw [List.length_set]; exact hn)
    refine ⟨C', h3, h4, ?_, ?_⟩
    · have := congrArg (List.take k) h5
      rw [List.take_take, List.take_take, Nat.min_eq_left (Nat.le_succ k)] at this
      rw [this]
      apply List.ext_getElem?
      intro i
      by_cases hi : i < k
      · rw [List.getElem?_take_of_lt hi, List.getElem?_take_of_lt hi, List.getElem?_set, if_neg (by omega)]
      · rw [List.getElem?_eq_none (by rw [List.length_take]; omega), List.getElem?_eq_none (by rw [List.length_take]; omega)]
    · exact h2.trans h6
end
end Go.Proofs.Ytcadljpdokhpmaa
