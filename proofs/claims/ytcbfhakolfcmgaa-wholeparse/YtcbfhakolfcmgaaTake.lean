/-
  Proved here: what takeTimes and putBack do.
-/
import Derived.Test.YtcbfhakolfcmgaaDivBy
import Derived.Test.YtcbfhakolfcmgaaDivMath
namespace Go.Proofs.Ytcbfhakolfcmgaa
open Go.RowKit

theorem Num.grown {w w' : World} {ao : Option Addr} {k cap g : Nat} {xs : List Nat} (h : Num w (.slice ao k cap) xs) (hne : ∀ a, ao = some a → a.block ≠ g) (hg : w.grownBy w' (some g)) : Num w' (.slice ao k cap) xs := by
  obtain ⟨h0, ao', cap', e, h1, h2, h3, h4⟩ := h
  simp only [Value.slice.injEq] at e
  obtain ⟨rfl, e2, rfl⟩ := e
  refine ⟨h0, ao, cap, by rw [e2], h1, h2, h3, fun j hj => ?_⟩
  obtain ⟨b, off, e, hc⟩ := h4 j hj
  refine ⟨b, off, e, ?_⟩
  exact hg.cell hc (by have := hne _ e; simp only [ne_eq, Option.some.injEq]; exact this)
/-- What takeTimes leaves. -/
def TakeEnd (w0 : World) (g off n : Nat) (zs b : List Nat) (q : Nat) (e : Ending) (w' : World) : Prop :=
  ∃ (zs' : List Nat) (t : Nat), e = .returned (.bool ((t : Int) != 0)) ∧ t ≤ 1 ∧ zs'.length = zs.length ∧ Cells w' g zs' ∧ w0.grownBy w' (some g) ∧
    (∀ j, j < off ∨ off + n ≤ j → zs'.getD j 0 = zs.getD j 0) ∧ low (zs'.drop off) n + val b * q = low (zs.drop off) n + 4294967296 ^ n * t

/-- What putBack leaves. -/
def PutEnd (w0 : World) (g off n : Nat) (zs b : List Nat) (e : Ending) (w' : World) : Prop :=
  ∃ (zs' : List Nat) (c : Nat), e = .returned (.tuple #[]) ∧ zs'.length = zs.length ∧ Cells w' g zs' ∧ w0.grownBy w' (some g) ∧
    (∀ j, j < off ∨ off + n ≤ j → zs'.getD j 0 = zs.getD j 0) ∧ low (zs'.drop off) n + 4294967296 ^ n * c = low (zs.drop off) n + val b

end Go.Proofs.Ytcbfhakolfcmgaa
