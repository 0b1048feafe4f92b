/-
  Proved here: the document's own answers of layer 11, for ints: Has, With, Of, Some, Join.
  Proved here: what an append to a row of the call's own keeps of the other rows. No condition but those of the given laws on append.
  Proved here: layer 11's law.go: long and spoilt.
  Proved here: With and Without of sets of ints, by their rising lists; what the document's Some says.
  Proved here: plain facts for package factor: rows of ints in both words, where a variable stands in a scope.
-/
import Derived.Test.YtjlmignafhhjhaaSetSI
import Derived.Test.YtjlmignafhhjhaaMemAll
import Derived.ArgAppend
import Derived.Test.YtjlmignafhhjhaaBoxA
import Derived.Test.YtjlmignafhhjhaaFacMath
import Derived.Test.YtjlmignafhhjhaaRadEAll
import Derived.Deep.LoopGhost
import Derived.Deep.CutRange
namespace Go.Proofs.Ytjlmignafhhjhaa
open Go.Shelf Go.RowKit Go.Lib Go.Sort
end Go.Proofs.Ytjlmignafhhjhaa

namespace Go.Proofs.Ytjlmignafhhjhaa
open Go.RowKit

end Go.Proofs.Ytjlmignafhhjhaa

namespace Go.Proofs.Ytjlmignafhhjhaa
open Go.Shelf Go.RowKit Go.Lib Go.Sort
end Go.Proofs.Ytjlmignafhhjhaa

namespace Go.Proofs.Ytjlmignafhhjhaa
open Go.Shelf Go.RowKit Go.Lib Go.Sort
theorem siHas {w : World} {v : Value} {L : List Int} {k : Nat} (h1 : SI w v L k) (x : Int) (hk : k ≤ 100000) (b : Bool) (hb : decide (x ∈ L) = b) : Calls Try.prog 71 #[.agg #[v], .int .i64 x] w fun e w' => e = .returned (.bool b) ∧ Below w.heap.size w w' := by
  have := setHasI v L x w h1.rg (rs_rise.2 h1.rise) (by have := h1.len; omega)
  rw [hasI_mem, hb] at this
  exact this
theorem siOfO {w : World} {v : Value} {L : List Int} (hv : RG (Value.int .i64) w v L) {k : Nat} (hk : L.length ≤ k) (hk2 : k ≤ 100000) : Calls Try.prog 63 #[v] w fun e w' => ∃ ao n cap, e = .returned (.agg #[.slice ao n cap]) ∧ SI w' (.slice ao n cap) (ofR L) k ∧ (∀ b, (Value.slice ao n cap).ownBlock = some b → w.heap.size ≤ b) ∧ Below w.heap.size w w' :=
  (setOfI v L w hv (by omega)).mono fun _ _ ⟨u, h1, h2, h3⟩ => by
    obtain ⟨ao, cap, rfl, -⟩ := h2.sl
    exact ⟨ao, _, cap, h1, ⟨by have := h2.rg; rwa [ofI_eq L] at this ⊢, rise_ofR L, by rw [← ofI_eq]; have := ofI_len L; omega⟩, fun b hb => (h2.lt b hb).1, h3⟩
end Go.Proofs.Ytjlmignafhhjhaa

namespace Go.Proofs.Ytjlmignafhhjhaa
open Go.RowKit Go.Shelf Go.Lib Go.Sort
theorem RK.rg {k : IntKind} {w : World} {v : Value} {zs : List Int} (h : RK k w v zs) : RG (Value.int k) w v zs := by
  obtain ⟨ao, cap, e, h1, h2, h3, _, h5⟩ := h
  refine ⟨ao, cap, e, h1, h2, h3, fun i x hi => ?_⟩
  have hl := (List.getElem?_eq_some_iff.1 hi).1
  have := h5 i hl
  rw [List.getD_eq_getElem?_getD, hi] at this
  exact this
theorem RG.rk {k : IntKind} {w : World} {v : Value} {zs : List Int} (h : RG (Value.int k) w v zs) (hz : ∀ i, i < zs.length → k.min ≤ zs.getD i 0 ∧ zs.getD i 0 ≤ k.max) : RK k w v zs := by
  obtain ⟨ao, cap, e, h1, h2, h3, h5⟩ := h
  exact ⟨ao, cap, e, h1, h2, h3, hz, fun i hi => h5 i _ (by simp [List.getD_eq_getElem?_getD, hi])⟩
theorem cell_drewF {w : World} {p : Addr} {v : Value} (h : w.cell? p = some v) (q : Nat) : (w.drewN q).cell? p = some v := by
  rw [← h]; exact World.cell?_of_block (by rw [heap_drewG])
/-- How many values a variable has, 0 if it is not in. -/
def szOf : List Int → List Int → Int → Int
  | x :: xs, z :: zs, v => if x = v then z else szOf xs zs v
  | _, _, _ => 0
theorem szOf_no : ∀ {xs zs : List Int} {v : Int}, v ∉ xs → szOf xs zs v = 0
  | [], _, _, _ => rfl
  | _ :: _, [], _, _ => rfl
  | x :: xs, z :: zs, v, h => by
    simp only [List.mem_cons, not_or] at h
    rw [szOf, if_neg (fun e => h.1 e.symm), szOf_no h.2]
theorem szOf_at : ∀ {xs zs : List Int} {v : Int} {k : Nat}, Rise xs → zs.length = xs.length → xs[k]? = some v → szOf xs zs v = zs.getD k 0
  | [], _, _, _, _, _, h => by simp at h
  | x :: xs, z :: zs, v, 0, _, _, h => by
    simp at h; subst h; simp [szOf]
  | x :: xs, z :: zs, v, k + 1, hr, hl, h => by
    simp at h
    have hv : v ∈ xs := List.mem_of_getElem? h
    have := hr.head v hv
    rw [szOf, if_neg (by omega), szOf_at hr.tail (by simpa using hl) h]
    simp [List.getD_eq_getElem?_getD]
theorem pos_szOf {xs zs : List Int} {v : Int} {k : Nat} (hr : Rise xs) (hl : zs.length = xs.length) (hk : Pos (ltOf cfI) xs v k) : fndI xs v k = decide (v ∈ xs) ∧ (v ∈ xs → k < xs.length ∧ szOf xs zs v = zs.getD k 0) := by
  have h1 := fndI_has (rs_rise.2 hr) hk
  rw [hasI_mem] at h1
  refine ⟨h1, fun hin => ?_⟩
  rw [decide_eq_true hin] at h1
  unfold fndI at h1
  cases hx : xs[k]? with
  | none => rw [hx] at h1; cases h1
  | some y =>
    rw [hx] at h1
    have hy := smI_eq _ _ h1
    subst hy
    exact ⟨(List.getElem?_eq_some_iff.1 hx).1, szOf_at hr hl hx⟩
end Go.Proofs.Ytjlmignafhhjhaa
