/-
  Proved here: sets of ints by their rising lists: what each call of package set makes of them.
-/
import Derived.Test.YtknibmehbplpbaaSetOpen
import Derived.Test.YtknibmehbplpbaaSetJI
namespace Go.Proofs.Ytknibmehbplpbaa
open Go.Shelf Go.RowKit Go.Lib Go.Sort
/-- a set of ints: a rising list that can be read, of at most k things -/
structure SI (w : World) (v : Value) (T : List Int) (k : Nat) : Prop where
  rg : RG (Value.int .i64) w v T
  rise : Rise T
  len : T.length ≤ k
theorem SI.below {w w' : World} {v : Value} {T : List Int} {k : Nat} (h : SI w v T k) (hb : Below w.heap.size w w') : SI w' v T k := ⟨h.rg.below (Nat.le_refl _) hb, h.rise, h.len⟩
/-- a set that was made -/
def SE (w : World) (T : List Int) (k : Nat) (e : Ending) (w' : World) : Prop := ∃ ao n cap, e = .returned (.agg #[.slice ao n cap]) ∧ SI w' (.slice ao n cap) T k ∧ Below w.heap.size w w'
theorem siOf {w : World} {v : Value} {L : List Int} (hv : RG (Value.int .i64) w v L) {k : Nat} (hk : L.length ≤ k) (hk2 : k ≤ 100000) : Calls Try.prog 6 #[v] w fun e w' => SE w (ofR L) k e w' :=
  (setOfI v L w hv (by omega)).mono fun _ _ ⟨u, h1, h2, h3⟩ => by
    obtain ⟨ao, cap, rfl, -⟩ := h2.sl
    exact ⟨ao, _, cap, h1, ⟨by have := h2.rg; rwa [ofI_eq L] at this ⊢, rise_ofR L, by rw [← ofI_eq]; have := ofI_len L; omega⟩, h3⟩
end Go.Proofs.Ytknibmehbplpbaa
