/-
  Proved here: a slice of limbs that was handed in is a number that can be read.
-/
import Derived.Test.YtcmclmhfjmmffaaGreatDoorTrimAll
import Derived.OpenShut
namespace Go.Proofs.YtcmclmhfjmmffaaGreatDoor
open Go.RowKit

theorem num_of_ints {W : World} {x : Addr} {len cap : Nat} {zs : List Int} (hl : len ≤ cap) (hm : cap ≤ maxLen) (hz : zs.length = cap)
    (hcell : ∀ i, i < zs.length → W.cell? (x.add i) = some (.int .u32 (zs.getD i 0))) (hwz : ∀ n ∈ zs, (Lit.int .u32 n).wf = true) : ∃ xs, Num W (.slice (some x) len cap) xs := by
  have hlen : ((zs.take len).map Int.toNat).length = len := by simp; omega
  refine ⟨(zs.take len).map Int.toNat, ?_, some x, cap, by rw [hlen], by rw [hlen]; exact hl, hm, fun h => by simp at h, fun j hj => ?_⟩
  · intro y hy
    obtain ⟨z, hz', rfl⟩ := List.mem_map.1 hy
    have := bounds_u32 (hwz z (List.mem_of_mem_take hz'))
    omega
  · rw [hlen] at hj
    have hc := hcell j (by omega)
    obtain ⟨b, off, spot⟩ := x
    have hspot : spot = none := by
      have := World.cell?_spot (hcell 0 (by omega))
      simpa [Addr.add] using this
    subst hspot
    refine ⟨b, off, rfl, ?_⟩
    rw [Addr.add_lit] at hc
    rw [hc]
    have hjz : j < zs.length := by omega
    have hb := bounds_u32 (hwz _ (List.getElem_mem hjz))
    simp only [List.getD_eq_getElem?_getD, List.getElem?_eq_getElem hjz, List.getElem?_map, List.getElem?_take_of_lt hj, Option.map_some, Option.getD_some, U]
    rw [Int.toNat_of_nonneg hb.1]
end Go.Proofs.YtcmclmhfjmmffaaGreatDoor
