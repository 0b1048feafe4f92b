/-
  Proved here: package radix's Digits at one type.
  Proved here: package radix's Digits at one type.
  Proved here: package radix's Digits at one type.
  Proved here: rows that were just laid, or are a call's own, can be read; the law's alive.
-/
import Derived.Test.YtmgbhbdcnciccaaRadD
namespace Go.Proofs.Ytmgbhbdcnciccaa
open Go.RowKit Go.Shelf
attribute [local go_sem] Oper.semAt_some

theorem Try.infoI : (Try.prog.info? 3).map (fun i => (i.zero, i.size, i.bytes)) = some (some (.int .i64 0), 1, 8) := by kernel_rfl
end Go.Proofs.Ytmgbhbdcnciccaa

namespace Go.Proofs.Ytmgbhbdcnciccaa
open Go.RowKit Go.Shelf
attribute [local go_sem] Oper.semAt_some

theorem Try.infoJ : (Try.prog.info? 21).map (fun i => (i.zero, i.size, i.bytes)) = some (some (.int .i32 0), 1, 4) := by kernel_rfl
end Go.Proofs.Ytmgbhbdcnciccaa

namespace Go.Proofs.Ytmgbhbdcnciccaa
open Go.RowKit Go.Shelf
attribute [local go_sem] Oper.semAt_some

end Go.Proofs.Ytmgbhbdcnciccaa

namespace Go.Proofs.Ytmgbhbdcnciccaa
open Go.RowKit Go.Shelf

theorem rk_get {k : IntKind} {zs : List Int} {i : Nat} (h : i < zs.length) : (zs.map (Value.int k)).toArray[i]? = some (.int k (zs.getD i 0)) := by
  simp [List.getD_eq_getElem?_getD, h]
/-- All in the kind's bounds? -/
def inK (k : IntKind) (zs : List Int) : Prop := ∀ i, i < zs.length → k.min ≤ zs.getD i 0 ∧ zs.getD i 0 ≤ k.max
theorem RK.of_row {k : IntKind} {w : World} {g cap e : Nat} {zs : List Int} (h : w.heap[g]? = some (.cells (zs.map (Value.int k)).toArray e (0, 0))) (hz : inK k zs) (hc : zs.length ≤ cap) (hm : cap ≤ maxLen) : RK k w (.slice (some ⟨g, 0, none⟩) zs.length cap) zs :=
  ⟨some ⟨g, 0, none⟩, cap, rfl, hc, hm, fun h => by simp at h, hz, fun i hi => ⟨g, 0, rfl, by rw [Nat.zero_add]; simp only [World.cell?, h]; exact rk_get hi⟩⟩
theorem RK.lit {k : IntKind} (w : World) (e : Nat) (zs : List Int) (hz : inK k zs) (hm : zs.length ≤ maxLen) : RK k (w.alloc (.cells (zs.map (Value.int k)).toArray e)) (.slice (some ⟨w.heap.size, 0, none⟩) zs.length zs.length) zs :=
  RK.of_row (heap_alloc_new w _) hz (Nat.le_refl _) hm
theorem RK.of_own {k : IntKind} {w : World} {B e : Nat} {v : Value} {zs : List Int} (h : w.ownsRow B e 1 v zs.length (zs.map (Value.int k))) (hz : inK k zs) : RK k w v zs := by
  have hw := h
  rcases h.2 with ⟨rfl, h0⟩ | ⟨g, cap, cur, rfl, h3, h4, h5, h6, h7, h8⟩
  · have : zs = [] := List.eq_nil_of_length_eq_zero h0
    subst this
    exact RK.nil k w
  · refine ⟨some ⟨g, 0, none⟩, cap, rfl, h5, h6, fun e => by simp at e, hz, fun j hj => ⟨g, 0, rfl, ?_⟩⟩
    rw [Nat.zero_add, World.ownsRow.cellAt hw j (by simpa using hj), List.getElem?_map, List.getD_eq_getElem?_getD, List.getElem?_eq_getElem hj]
    rfl
theorem RK.alloc {k : IntKind} {w : World} {v : Value} {zs : List Int} (h : RK k w v zs) (o : Obj) : RK k (w.alloc o) v zs := h.below (Nat.le_refl _) ((Below.refl _ _).alloc (Nat.le_refl _) o)
theorem cell_row {k : IntKind} {w : World} {g e : Nat} {zs : List Int} (h : w.heap[g]? = some (.cells (zs.map (Value.int k)).toArray e (0, 0))) {i : Nat} (hi : i < zs.length) : w.cell? ⟨g, i, none⟩ = some (.int k (zs.getD i 0)) := by
  simp only [World.cell?, h]; exact rk_get hi
theorem inK_of {k : IntKind} {zs : List Int} (h : (zs.all fun z => decide (k.min ≤ z) && decide (z ≤ k.max)) = true) : inK k zs := fun i hi => by
  rw [List.getD_eq_getElem?_getD, List.getElem?_eq_getElem hi]
  have := List.all_eq_true.1 h _ (List.getElem_mem hi)
  simpa using this
theorem DgEnd.yes {K : IntKind} {et : Nat} {ss : List Int} {a : Int} {w w' : World} {e : Ending} (h : DgEnd K et ss a w e w') (h0 : dgE ss a = 0) :
    ∃ g, e = .returned (.tuple #[.slice (some ⟨g, 0, none⟩) ss.length ss.length, .int .i64 0]) ∧ w.heap.size ≤ g ∧ w'.heap[g]? = some (.cells ((dgs ss a).map (Value.int K)).toArray et (0, 0)) ∧ Below w.heap.size w w' := by
  obtain ⟨⟨h1, _⟩ | ⟨_, g, h2, h3, h4⟩, hb⟩ := h
  · exact absurd h0 h1
  · exact ⟨g, h2, h3, h4, hb⟩
theorem DgEnd.no {K : IntKind} {et : Nat} {ss : List Int} {a : Int} {w w' : World} {e : Ending} (h : DgEnd K et ss a w e w') (h0 : dgE ss a ≠ 0) :
    e = .returned (.tuple #[.slice none 0 0, .int .i64 (dgE ss a)]) ∧ Below w.heap.size w w' := by
  obtain ⟨⟨_, h1⟩ | ⟨h2, _⟩, hb⟩ := h
  · exact ⟨h1, hb⟩
  · exact absurd h2 h0
theorem belowA (w : World) (o : Obj) : Below w.heap.size w (w.alloc o) := (Below.refl _ _).alloc (Nat.le_refl _) o
theorem bstepR {w wr w' : World} (h : Below w.heap.size w wr) (hb : Below wr.heap.size wr w') : Below w.heap.size w w' := h.trans (hb.mono h.size)
theorem keepR {w w' : World} {p : Addr} {v : Value} (hb : Below w.heap.size w w') (h : w.cell? p = some v) : w'.cell? p = some v := by
  rw [hb.cell (block_lt_of_cell h)]; exact h
end Go.Proofs.Ytmgbhbdcnciccaa
