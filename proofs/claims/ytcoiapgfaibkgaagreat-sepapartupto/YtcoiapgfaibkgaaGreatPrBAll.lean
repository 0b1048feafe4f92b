/-
  Proved here: plain mathematics of layer 17: parents may be that go by a rank; parents with further points above some, each with one tie; which tables tell something.
  Proved here: package prune's leaveOut and withNew.
-/
import Derived.Test.YtcoiapgfaibkgaaGreatMoMAll
import Derived.Test.YtcoiapgfaibkgaaGreatSpZAll
import Derived.Test.YtcoiapgfaibkgaaGreatPrAAll
import Derived.Test.YtcoiapgfaibkgaaGreatSpDAll
import Derived.Test.YtcoiapgfaibkgaaGreatDagKAll
namespace Go.Proofs.YtcoiapgfaibkgaaGreat
set_option linter.unusedVariables false
open Go.RowKit Go.Shelf Go.Sort Go.Lib
/-- Further points above some, each with one tie and no parents. -/
structure ExtP (P Q : List (List Int)) : Prop where
  le : P.length ≤ Q.length
  sub : ∀ (i : Nat) (x : Int), x ∈ P.getD i [] → x ∈ Q.getD i []
  new : ∀ (i : Nat) (x : Int), x ∈ Q.getD i [] → x ∉ P.getD i [] → ∃ m : Nat, x = (m : Int) ∧ P.length ≤ m ∧ m < Q.length
  top : ∀ i : Nat, P.length ≤ i → Q.getD i [] = []
  one : ∀ (i j m : Nat), P.length ≤ m → (m : Int) ∈ Q.getD i [] → (m : Int) ∈ Q.getD j [] → i = j
  nd : ∀ i : Nat, (Q.getD i []).Nodup
/-- A point's table tells something: what is led to may be left toward a parent. -/
def TabP (P : List (List Int)) (n : Nat) (G A a : List Int) (v : Int) : Prop := ∃ d, StR (nxS P n G A) a (v, d) ∧ ((d = true ∧ v ∈ A) ∨ (d = false ∧ v ∉ G))
/-- Parents with a new point above each one. -/
def wiP (P : List (List Int)) : List (List Int) := ((List.range P.length).map fun i => P.getD i [] ++ [((P.length + i : Nat) : Int)]) ++ List.replicate P.length []
end Go.Proofs.YtcoiapgfaibkgaaGreat

namespace Go.Proofs.YtcoiapgfaibkgaaGreat
set_option linter.unusedVariables false
open Go.RowKit Go.Shelf Go.Sort Go.Lib
/-- The points that no way leaves out. -/
def lvL (n : Nat) (ps : List (Nat → Bool)) : List Int := ((List.range n).filter fun k => !anyW ps k).map Int.ofNat
/-- Rows of one's own, each of the call's own. -/
structure WiC (w W : World) (g m : Nat) (cvs : List Value) (C : Nat → List Int) : Prop where
  frm : Below w.heap.size w W
  row : OG id w.heap.size 23 W (.slice (some ⟨g, 0, none⟩) m m) cvs
  inn : ∀ (j : Nat) (v : Value), cvs[j]? = some v → OG (Value.int .i64) w.heap.size 3 W v (C j)
theorem WiC.below {w W W' : World} {g m : Nat} {cvs : List Value} {C : Nat → List Int} (h : WiC w W g m cvs C) (hb : Below W.heap.size W W') : WiC w W' g m cvs C :=
  ⟨h.frm.trans (hb.mono h.frm.size), h.row.below hb, fun j v hv => (h.inn j v hv).below hb⟩
theorem WiC.put {w W : World} {g m : Nat} {cvs : List Value} {C : Nat → List Int} (h : WiC w W g m cvs C) {p : Nat} {u : Value} {L : List Int} (hp : p < m) (hu : OG (Value.int .i64) w.heap.size 3 W u L) :
    WiC w (W.setCell ⟨g, p, none⟩ u) g m (cvs.set p u) (fun j => if j = p then L else C j) := by
  have hl : cvs.length = m := h.row.rg.len
  have hgl := h.row.lt g rfl
  have hset := h.row.set hl p u
  refine ⟨h.frm.setCell (p := ⟨g, p, none⟩) hgl.1 _, hset.1, fun j v hv => ?_⟩
  rw [List.getElem?_set] at hv
  by_cases e : p = j
  · subst e
    rw [if_pos rfl, if_pos (by omega)] at hv
    simp only [Option.some.injEq] at hv
    subst hv
    rw [if_pos rfl]
    refine hu.of_blocks fun q hq => Below.heap_setCell _ _ _ _ (fun e2 => ?_)
    have e3 : q = g := e2
    subst e3
    exact hu.neO h.row (by decide) hq rfl
  · rw [if_neg e] at hv
    rw [if_neg (fun e2 => e e2.symm)]
    have hu1 := h.inn j v hv
    exact hu1.of_blocks fun q hq => Below.heap_setCell _ _ _ _ (fun e2 => hu1.neO h.row (by decide) hq (by have e3 : q = g := e2; rw [e3]; rfl))
theorem WiC.congr {w W : World} {g m : Nat} {cvs : List Value} {C C' : Nat → List Int} (h : WiC w W g m cvs C) (e : ∀ j, C j = C' j) : WiC w W g m cvs C' :=
  ⟨h.frm, h.row, fun j v hv => by rw [← e j]; exact h.inn j v hv⟩
/-- What stands while the first k points have their new ones. -/
def wiK (P : List (List Int)) (k j : Nat) : List Int := if j < k then (wiP P).getD j [] else []
end Go.Proofs.YtcoiapgfaibkgaaGreat
