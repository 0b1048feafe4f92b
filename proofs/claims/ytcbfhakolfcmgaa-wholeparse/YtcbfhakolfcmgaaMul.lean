/-
  Proved here: what addTimes and Mul answer.
-/
import Derived.Test.YtcbfhakolfcmgaaBlend
import Derived.Test.YtcbfhakolfcmgaaMulMath
namespace Go.Proofs.Ytcbfhakolfcmgaa
open Go.RowKit

/-- A row that holds just these limbs. -/
def Cells (w : World) (g : Nat) (zs : List Nat) : Prop := limbs zs ∧ w.heap[g]? = some (.cells (zs.map U).toArray 30 (0, 0))
theorem Own.cells {B g n : Nat} {w : World} {zs : List Nat} (h : Own B 30 w (.slice (some ⟨g, 0, none⟩) n n) zs) : Cells w g zs := by
  obtain ⟨_, hn, cur, h1, h2, h3, h4⟩ := h.heap
  refine ⟨h.1, ?_⟩
  rw [h1]
  congr 2
  rw [← h4, List.take_of_length_le (by rw [Array.length_toList]; omega)]
theorem Cells.own {B g : Nat} {w : World} {zs : List Nat} (h : Cells w g zs) (hB : B ≤ g) (hm : zs.length ≤ 9223372036854775807) : Own B 30 w (.slice (some ⟨g, 0, none⟩) zs.length zs.length) zs :=
  ⟨h.1, by simp, Or.inr ⟨g, zs.length, _, rfl, hB, h.2, Nat.le_refl _, hm, by simp, by simp only [Nat.mul_one]; exact List.take_of_length_le (by simp)⟩⟩
theorem Cells.cell {g k : Nat} {w : World} {zs : List Nat} (h : Cells w g zs) (hk : k < zs.length) : w.cell? ⟨g, k, none⟩ = some (.int .u32 ((zs.getD k 0 : Nat) : Int)) ∧ w.frozen? ⟨g, k, none⟩ = false := by
  refine ⟨?_, frozen_of_row w g k _ _ h.2⟩
  rw [cell_of_row w g k _ _ _ h.2]
  simp [List.getD, hk, U]
theorem Cells.set {g : Nat} {w : World} {zs : List Nat} (h : Cells w g zs) (k x : Nat) (hx : x < 4294967296) : Cells (w.setCell ⟨g, k, none⟩ (U x)) g (zs.set k x) := by
  refine ⟨limbs_set h.1 k x hx, ?_⟩
  rw [heap_setCell_same w g k _ _ _ h.2, List.map_set]
  simp

/-- What addTimes leaves. -/
def TimesEnd (w0 : World) (g off n : Nat) (zs X : List Nat) (b : Nat) (e : Ending) (w' : World) : Prop :=
  ∃ (zs' : List Nat) (c : Nat), e = .returned (.int .u32 (c : Int)) ∧ c < 4294967296 ∧ zs'.length = zs.length ∧ Cells w' g zs' ∧ Below w0.heap.size w0 w' ∧
    (∀ j, j < off ∨ off + n ≤ j → zs'.getD j 0 = zs.getD j 0) ∧ low (zs'.drop off) n + 4294967296 ^ n * c = low (zs.drop off) n + val X * b

theorem top_sum {t c z : Nat} (ht : t ≤ 18446744065119617025) (hc : c < 4294967296) (hz : z < 4294967296) : c + (t + z) ≤ 18446744073709551615 := by omega

end Go.Proofs.Ytcbfhakolfcmgaa
