/-
  Proved here: a list of ints that was handed in is a row that can be read; the set of a list, told by what is in it.
-/
import Derived.Test.YtknibmehbplpbaaSetH
import Derived.Test.YtknibmehbplpbaaSetMath
import Derived.OpenShut
namespace Go.Proofs.Ytknibmehbplpbaa
open Go.Shelf Go.RowKit Go.Lib Go.Sort
theorem cell_ltG {w : World} {a : Addr} {v : Value} (h : w.cell? a = some v) : a.block < w.heap.size := by
  rcases Nat.lt_or_ge a.block w.heap.size with h1 | h1
  · exact h1
  · simp [World.cell?, Array.getElem?_eq_none h1] at h
theorem rg_of_ints {W : World} {x : Addr} {len cap : Nat} {zs : List Int} (hl : len ≤ cap) (hm : cap ≤ maxLen) (hz : zs.length = cap)
    (hcell : ∀ i, i < zs.length → W.cell? (x.add i) = some (.int .i64 (zs.getD i 0))) : ∃ ys, ys.length = len ∧ RG (Value.int .i64) W (.slice (some x) len cap) ys := by
  have hlen : (zs.take len).length = len := by simp; omega
  refine ⟨zs.take len, hlen, some x, cap, by rw [hlen], by rw [hlen]; exact hl, hm, fun h => by simp at h, fun i y hy => ?_⟩
  have hi : i < len := by have := (List.getElem?_eq_some_iff.1 hy).1; omega
  have hc := hcell i (by omega)
  obtain ⟨b, off, spot⟩ := x
  have hspot : spot = none := by
    have := World.cell?_spot (hcell 0 (by omega))
    simpa [Addr.add] using this
  subst hspot
  refine ⟨b, off, rfl, ?_⟩
  rw [Addr.add_lit] at hc
  rw [List.getElem?_take_of_lt hi] at hy
  rw [hc, List.getD_eq_getElem?_getD, hy]
  rfl
theorem rs_rise {L : List Int} : Rs (ltOf cfI) L ↔ Rise L := by
  unfold Rs Rise
  constructor
  · intro h; exact h.imp fun hxy => by rw [ltI] at hxy; exact of_decide_eq_true hxy
  · intro h; exact h.imp fun hxy => by rw [ltI]; exact decide_eq_true hxy
theorem mem_ofI (L : List Int) (z : Int) : z ∈ ofI L ↔ z ∈ L := by
  unfold ofI
  constructor
  · intro h; exact (perm_sortS (le := leOf (ltOf cfI)) L).mem_iff.1 (mem_cpt h)
  · intro h; exact cpt_mem smI_eq ((perm_sortS (le := leOf (ltOf cfI)) L).mem_iff.2 h)
theorem ofI_eq (L : List Int) : ofI L = ofR L := rise_ext (rs_rise.1 (ofI_rs L)) (rise_ofR L) fun z => by rw [mem_ofI, mem_ofR]
theorem ofI_ext {L M : List Int} (h : ∀ z, z ∈ L ↔ z ∈ M) : ofI L = ofI M := rise_ext (rs_rise.1 (ofI_rs L)) (rs_rise.1 (ofI_rs M)) fun z => by rw [mem_ofI, mem_ofI, h]
theorem smI_iff (x y : Int) : smI x y = decide (x = y) := cfI_zero x y
theorem hasI_mem (L : List Int) (x : Int) : hasI L x = decide (x ∈ L) := by
  unfold hasI
  rw [Bool.eq_iff_iff]
  simp only [List.any_eq_true, smI_iff, decide_eq_true_eq]
  constructor
  · rintro ⟨y, hy, rfl⟩; exact hy
  · intro h; exact ⟨x, h, rfl⟩
def bk (M : List Int) : List Int := M.reverse.flatMap fun x => [x, x]
theorem bk_cons (x : Int) (M : List Int) : bk (x :: M) = bk M ++ [x, x] := by simp [bk]
theorem mem_bk (M : List Int) (z : Int) : z ∈ bk M ↔ z ∈ M := by simp [bk]
theorem len_bk (M : List Int) : (bk M).length = 2 * M.length := by
  induction M with
  | nil => rfl
  | cons x M ih => rw [bk_cons, List.length_append, ih]; simp; omega
end Go.Proofs.Ytknibmehbplpbaa
