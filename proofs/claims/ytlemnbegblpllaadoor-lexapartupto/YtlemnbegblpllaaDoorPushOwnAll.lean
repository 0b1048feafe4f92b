/-
  Proved here: what stays as it was while numbers are gone on with, one by one.
  Proved here: what the small readers of a number's limbs answer.
  Proved here: what Cmp answers.
  Proved here: a limb is put behind a row of the call's own; small facts on such rows.
-/
import Derived.Test.YtlemnbegblpllaaDoorFam
import Derived.Test.YtlemnbegblpllaaDoorRows
import Derived.Test.YtlemnbegblpllaaDoorMem
import Derived.WalkKit
import Derived.WalkSpells
import Derived.WalkLawsBesides
import Derived.Below
import Derived.BigQuiet
import Derived.Test.YtlemnbegblpllaaDoorMath2
import Derived.Test.YtlemnbegblpllaaDoorPush
namespace Go.Proofs.YtlemnbegblpllaaDoor
open Go.RowKit

def marks (len : Nat → Nat) (j : Nat) : List Nat := List.replicate (len j) (1000 + j)
def tailed (len : Nat → Nat) (j k : Nat) : List Nat := marks len j ++ List.replicate k (2000 + j)
theorem marks_len (len : Nat → Nat) (j : Nat) : (marks len j).length = len j := by simp [marks]
theorem tailed_len (len : Nat → Nat) (j k : Nat) : (tailed len j k).length = len j + k := by simp [tailed, marks]
theorem tailed_zero (len : Nat → Nat) (j : Nat) : tailed len j 0 = marks len j := by simp [tailed]
theorem tailed_succ (len : Nat → Nat) (j k : Nat) : tailed len j (k + 1) = tailed len j k ++ [2000 + j] := by
  simp only [tailed, List.append_assoc, List.replicate_succ']
theorem tailed_lo (len : Nat → Nat) (j k q : Nat) (h : q < len j) : (tailed len j k).getD q 0 = 1000 + j := by
  rw [List.getD_eq_getElem?_getD, tailed, List.getElem?_append_left (by rw [marks_len]; exact h), marks, List.getElem?_replicate, if_pos h]; rfl
theorem tailed_hi (len : Nat → Nat) (j k q : Nat) (h : len j ≤ q) (h2 : q < len j + k) : (tailed len j k).getD q 0 = 2000 + j := by
  rw [List.getD_eq_getElem?_getD, tailed, List.getElem?_append_right (by rw [marks_len]; exact h), marks_len, List.getElem?_replicate, if_pos (by omega)]; rfl
theorem marks_at (len : Nat → Nat) (j q : Nat) (h : q < len j) : (marks len j).getD q 0 = 1000 + j := by rw [← tailed_zero]; exact tailed_lo len j 0 q h

theorem own_types {w : World} {b b' e e' k k' : Nat} {u u' : Value} {ys ys' : List Value} (h : w.ownsRow b e 1 u k ys) (h' : w.ownsRow b' e' 1 u' k' ys') (hne : e ≠ e') : u.ownBlock = none ∨ u.ownBlock ≠ u'.ownBlock := by
  rcases h.2 with ⟨rfl, _⟩ | ⟨g, cap, cur, rfl, _, hh, _⟩
  · exact Or.inl rfl
  · right
    rcases h'.2 with ⟨rfl, _⟩ | ⟨g', cap', cur', rfl, _, hh', _⟩
    · simp [Value.ownBlock]
    · simp only [Value.ownBlock, ne_eq, Option.some.injEq]
      intro he
      subst he
      rw [hh] at hh'
      simp only [Option.some.injEq, Obj.cells.injEq, and_true] at hh'
      exact hne hh'.2
theorem own_none {w : World} {b e k : Nat} {u : Value} {ys : List Value} (h : w.ownsRow b e 1 u k ys) (hn : u.ownBlock = none) : k = 0 := by
  rcases h.2 with ⟨_, h0⟩ | ⟨g, cap, cur, rfl, _⟩
  · exact h0
  · simp [Value.ownBlock] at hn
/-- Of two rows that are apart the one is not the other; or it is nil. -/
theorem short_of {w : World} {b e k n : Nat} {u v : Value} {ys : List Value} (h : w.ownsRow b e 1 u k ys) (hd : v.ownBlock = none ∨ v.ownBlock ≠ u.ownBlock) (he : u.ownBlock = v.ownBlock) : k ≤ n := by
  rcases hd with hd | hd
  · have := own_none h (by rw [he, hd]); omega
  · exact absurd he.symm hd
theorem apart_symm {u v : Value} (h : u.ownBlock = none ∨ u.ownBlock ≠ v.ownBlock) : v.ownBlock = none ∨ v.ownBlock ≠ u.ownBlock := by
  rcases hv : v.ownBlock with _ | g
  · exact Or.inl rfl
  · right
    rcases h with h | h
    · rw [h]; simp
    · rw [hv] at h; exact fun e => h e.symm

/-- The number that is gone on with. -/
structure Vst (B : Nat) (gs : List Value) (len : Nat → Nat) (w : World) (i k : Nat) (ls : List Value) (v : Value) (wr : World) : Prop where
  vo : Own B 112 wr v (tailed len i k)
  vg : ∀ j, j < gs.length → j ≠ i → v.ownBlock = none ∨ v.ownBlock ≠ (at_ gs j).ownBlock
  vl : ∀ j, j < i → v.ownBlock = none ∨ v.ownBlock ≠ (at_ ls j).ownBlock
  vm : ∀ k, v.ownBlock = some k → May gs w k

theorem below_of_grown {B : Nat} {w w' : World} {v : Value} (hg : w.grownBy w' v.ownBlock) (hB : B ≤ w.heap.size) (hv : ∀ k, v.ownBlock = some k → B ≤ k) : Below B w w' := (Below.refl B w).grown hg hB hv

theorem at_snoc_lt {ls : List Value} {v : Value} {i j : Nat} (hl : ls.length = i) (hj : j < i) : at_ (ls ++ [v]) j = at_ ls j := by
  unfold at_
  rw [List.getD_eq_getElem?_getD, List.getD_eq_getElem?_getD, List.getElem?_append_left (by omega)]
theorem at_snoc_eq {ls : List Value} {v : Value} {i : Nat} (hl : ls.length = i) : at_ (ls ++ [v]) i = v := by
  unfold at_
  rw [List.getD_eq_getElem?_getD, List.getElem?_append_right (by omega)]
  simp [hl]

theorem Own.alloc {B e : Nat} {w : World} {v : Value} {xs : List Nat} (h : Own B e w v xs) (o : Obj) : Own B e (w.alloc o) v xs := ⟨h.1, h.2.alloc o⟩
theorem Num.alloc {w : World} {v : Value} {xs : List Nat} (h : Num w v xs) (o : Obj) : Num (w.alloc o) v xs := h.below (Nat.le_refl _) ((Below.refl _ _).alloc (Nat.le_refl _) o)
/-- Two rows, the one made behind the other. -/
theorem apart_later {B B' e e' : Nat} {w w' : World} {u v : Value} {xs ys : List Nat} (h : Own B e w u xs) (h' : Own B' e' w' v ys) (hB : w.heap.size ≤ B') : u.ownBlock = none ∨ u.ownBlock ≠ v.ownBlock := by
  rcases hu : u.ownBlock with _ | g
  · exact Or.inl rfl
  · right
    rcases hv : v.ownBlock with _ | g'
    · simp
    · have := (h.block g hu).2
      have := (h'.block g' hv).1
      simp only [ne_eq, Option.some.injEq]; omega
end Go.Proofs.YtlemnbegblpllaaDoor

namespace Go.Proofs.YtlemnbegblpllaaDoor
open Go.RowKit

end Go.Proofs.YtlemnbegblpllaaDoor

namespace Go.Proofs.YtlemnbegblpllaaDoor
open Go.RowKit

theorem Num.ao {w : World} {v : Value} {xs : List Nat} (h : Num w v xs) : ∃ ao cap, v = .slice ao xs.length cap ∧ xs.length ≤ cap ∧ cap ≤ 9223372036854775807 := by
  obtain ⟨_, ao, cap, h1, h2, h3, _⟩ := h
  exact ⟨ao, cap, h1, h2, h3⟩

end Go.Proofs.YtlemnbegblpllaaDoor

namespace Go.Proofs.YtlemnbegblpllaaDoor
open Go.RowKit

theorem lim_short {w : World} {v : Value} {xs : List Nat} (h : Num w v xs) : (lim (val xs)).length ≤ xs.length := by
  have h1 := lim_len_le (val_lt h.1)
  exact h1
theorem val_snoc (zs : List Nat) (d : Nat) : val (zs ++ [d]) = val zs + 4294967296 ^ zs.length * d := by
  rw [val_append]; simp [val]
theorem limbs_snoc {zs : List Nat} (h : limbs zs) {d : Nat} (hd : d < 4294967296) : limbs (zs ++ [d]) := fun x hx => by
  rcases List.mem_append.1 hx with h1 | h1
  · exact h x h1
  · simp at h1; omega
theorem push_own {B : Nat} {w w' wr : World} {v v' : Value} {zs : List Nat} {d : Nat} {o : Obj} (hv : Own B 112 wr v zs) (hbel : Below B w wr) (hB : B ≤ wr.heap.size) (hd : d < 4294967296)
    (ho : w'.ownsRow B 112 1 v' (zs.length + 1) (zs.map U ++ [U d])) (hg : (wr.alloc o).grownBy w' v.ownBlock) :
    Own B 112 w' v' (zs ++ [d]) ∧ Below B w w' ∧ B ≤ w'.heap.size := by
  have hsz : (wr.alloc o).heap.size = wr.heap.size + 1 := by simp
  have hbel2 : Below B (wr.alloc o) w' := below_of_grown hg (by omega) (fun g e => (hv.block g e).1)
  refine ⟨⟨limbs_snoc hv.1 hd, ?_⟩, (hbel.alloc hB o).trans hbel2, by have := hbel2.size; omega⟩
  rw [List.length_append, List.map_append]
  exact ho
theorem Own.sl {B e : Nat} {w : World} {v : Value} {xs : List Nat} (h : Own B e w v xs) : ∃ ao k cap, v = .slice ao k cap := by
  obtain ⟨ao, cap, h, _⟩ := h.ao
  exact ⟨ao, _, cap, h⟩
end Go.Proofs.YtlemnbegblpllaaDoor
