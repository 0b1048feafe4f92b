/-
  Proved here: a limb is put behind a row of the call's own; small facts on such rows.
-/
import Derived.Test.YtjiolinhkadoaaaDoorPush
import Derived.Test.YtjiolinhkadoaaaDoorFam
import Derived.Test.YtjiolinhkadoaaaDoorMath2
import Derived.Test.YtjiolinhkadoaaaDoorLong
import Derived.Test.YtjiolinhkadoaaaDoorCmp
namespace Go.Proofs.YtjiolinhkadoaaaDoor
open Go.RowKit

theorem lim_short {w : World} {v : Value} {xs : List Nat} (h : Num w v xs) : (lim (val xs)).length ≤ xs.length := by
  have h1 := lim_len_le (val_lt h.1)
  exact h1
theorem val_snoc (zs : List Nat) (d : Nat) : val (zs ++ [d]) = val zs + 4294967296 ^ zs.length * d := by
  rw [val_append]; simp [val]
theorem limbs_snoc {zs : List Nat} (h : limbs zs) {d : Nat} (hd : d < 4294967296) : limbs (zs ++ [d]) := fun x hx => by
  rcases List.mem_append.1 hx with h1 | h1
  · exact h x h1
  · simp at h1; omega
theorem push_own {B : Nat} {w w' wr : World} {v v' : Value} {zs : List Nat} {d : Nat} {o : Obj} (hv : Own B 112 wr v zs) (hbel : Below B w wr) (hB : B ≤ wr.heap.size) (hd : d < 4294967296)
    (ho : w'.ownsRow B 112 1 v' (zs.length + 1) (zs.map U ++ [U d])) (hg : (wr.alloc o).grownBy w' v.ownBlock) :
    Own B 112 w' v' (zs ++ [d]) ∧ Below B w w' ∧ B ≤ w'.heap.size := by
  have hsz : (wr.alloc o).heap.size = wr.heap.size + 1 := by simp
  have hbel2 : Below B (wr.alloc o) w' := below_of_grown hg (by omega) (fun g e => (hv.block g e).1)
  refine ⟨⟨limbs_snoc hv.1 hd, ?_⟩, (hbel.alloc hB o).trans hbel2, by have := hbel2.size; omega⟩
  rw [List.length_append, List.map_append]
  exact ho
theorem Own.sl {B e : Nat} {w : World} {v : Value} {xs : List Nat} (h : Own B e w v xs) : ∃ ao k cap, v = .slice ao k cap := by
  obtain ⟨ao, cap, h, _⟩ := h.ao
  exact ⟨ao, _, cap, h⟩
end Go.Proofs.YtjiolinhkadoaaaDoor
