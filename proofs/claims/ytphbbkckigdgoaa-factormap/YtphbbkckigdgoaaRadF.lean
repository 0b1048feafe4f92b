/-
  Proved here: rows of numbers that are a call's own, appended to; a list of ints that was handed in; the law's bases.
-/
import Derived.Test.YtphbbkckigdgoaaSortMathAll
import Derived.Test.YtphbbkckigdgoaaRadBackMAll
import Derived.OwnWalk
import Derived.OpenShut
namespace Go.Proofs.Ytphbbkckigdgoaa
open Go.RowKit Go.Shelf

/-- A row of numbers of the call's own. -/
def OwnK (k : IntKind) (B e : Nat) (w : World) (v : Value) (zs : List Int) : Prop := w.ownsRow B e 1 v zs.length (zs.map (Value.int k))
theorem OwnK.of_nil (k : IntKind) (B e : Nat) (w : World) : OwnK k B e w (.slice none 0 0) [] := World.ownsRow_nil _ _ _ _
theorem rk_of_ints {W : World} {x : Addr} {len cap : Nat} {zs : List Int} (hl : len ≤ cap) (hm : cap ≤ maxLen) (hz : zs.length = cap)
    (hcell : ∀ i, i < zs.length → W.cell? (x.add i) = some (.int .i64 (zs.getD i 0))) (hwz : ∀ n ∈ zs, (Lit.int .i64 n).wf = true) : ∃ ys, ys.length = len ∧ RK .i64 W (.slice (some x) len cap) ys := by
  have hlen : (zs.take len).length = len := by simp; omega
  have hget : ∀ i, i < len → (zs.take len).getD i 0 = zs.getD i 0 := fun i hi => by
    rw [List.getD_eq_getElem?_getD, List.getD_eq_getElem?_getD, List.getElem?_take_of_lt hi]
  refine ⟨zs.take len, hlen, some x, cap, by rw [hlen], by rw [hlen]; exact hl, hm, fun h => by simp at h, fun i hi => ?_, fun i hi => ?_⟩
  · rw [hlen] at hi
    rw [hget i hi]
    have hiz : i < zs.length := by omega
    have h1 := hwz _ (List.getElem_mem hiz)
    have h1 : IntKind.i64.min ≤ zs[i] ∧ zs[i] ≤ IntKind.i64.max := by simpa [Lit.wf] using h1
    rw [List.getD_eq_getElem?_getD, List.getElem?_eq_getElem hiz]
    exact h1
  · rw [hlen] at hi
    have hc := hcell i (by omega)
    obtain ⟨b, off, spot⟩ := x
    have hspot : spot = none := by
      have := World.cell?_spot (hcell 0 (by omega))
      simpa [Addr.add] using this
    subst hspot
    refine ⟨b, off, rfl, ?_⟩
    rw [Addr.add_lit] at hc
    rw [hc, hget i hi]
end Go.Proofs.Ytphbbkckigdgoaa
