/-
  Proved here: rows that were just laid, or are a call's own, can be read; the law's alive.
-/
import Derived.Test.YtfanomoijjjcmaaRadDI
import Derived.Test.YtfanomoijjjcmaaRadDJ
import Derived.Test.YtfanomoijjjcmaaRadDS
namespace Go.Proofs.Ytfanomoijjjcmaa
open Go.RowKit Go.Shelf

theorem rk_get {k : IntKind} {zs : List Int} {i : Nat} (h : i < zs.length) : (zs.map (Value.int k)).toArray[i]? = some (.int k (zs.getD i 0)) := by
  simp [List.getD_eq_getElem?_getD, h]
/-- All in the kind's bounds? -/
def inK (k : IntKind) (zs : List Int) : Prop := ∀ i, i < zs.length → k.min ≤ zs.getD i 0 ∧ zs.getD i 0 ≤ k.max
theorem RK.of_row {k : IntKind} {w : World} {g cap e : Nat} {zs : List Int} (h : w.heap[g]? = some (.cells (zs.map (Value.int k)).toArray e (0, 0))) (hz : inK k zs) (hc : zs.length ≤ cap) (hm : cap ≤ maxLen) : RK k w (.slice (some ⟨g, 0, none⟩) zs.length cap) zs :=
  ⟨some ⟨g, 0, none⟩, cap, rfl, hc, hm, fun h => by simp at h, hz, fun i hi => ⟨g, 0, rfl, by rw [Nat.zero_add]; simp only [World.cell?, h]; exact rk_get hi⟩⟩
theorem RK.lit {k : IntKind} (w : World) (e : Nat) (zs : List Int) (hz : inK k zs) (hm : zs.length ≤ maxLen) : RK k (w.alloc (.cells (zs.map (Value.int k)).toArray e)) (.slice (some ⟨w.heap.size, 0, none⟩) zs.length zs.length) zs :=
  RK.of_row (heap_alloc_new w _) hz (Nat.le_refl _) hm
theorem RK.of_own {k : IntKind} {w : World} {B e : Nat} {v : Value} {zs : List Int} (h : w.ownsRow B e 1 v zs.length (zs.map (Value.int k))) (hz : inK k zs) : RK k w v zs := by
  have hw := h
  rcases h.2 with ⟨rfl, h0⟩ | ⟨g, cap, cur, rfl, h3, h4, h5, h6, h7, h8⟩
  · have : zs = [] := List.eq_nil_of_length_eq_zero h0
    subst this
    exact RK.nil k w
  · refine ⟨some ⟨g, 0, none⟩, cap, rfl, h5, h6, fun e => by simp at e, hz, fun j hj => ⟨g, 0, rfl, ?_⟩⟩
    rw [Nat.zero_add, World.ownsRow.cellAt hw j (by simpa using hj), List.getElem?_map, List.getD_eq_getElem?_getD, List.getElem?_eq_getElem hj]
    rfl
theorem RK.alloc {k : IntKind} {w : World} {v : Value} {zs : List Int} (h : RK k w v zs) (o : Obj) : RK k (w.alloc o) v zs := h.below (Nat.le_refl _) ((Below.refl _ _).alloc (Nat.le_refl _) o)
theorem cell_row {k : IntKind} {w : World} {g e : Nat} {zs : List Int} (h : w.heap[g]? = some (.cells (zs.map (Value.int k)).toArray e (0, 0))) {i : Nat} (hi : i < zs.length) : w.cell? ⟨g, i, none⟩ = some (.int k (zs.getD i 0)) := by
  simp only [World.cell?, h]; exact rk_get hi
theorem inK_of {k : IntKind} {zs : List Int} (h : (zs.all fun z => decide (k.min ≤ z) && decide (z ≤ k.max)) = true) : inK k zs := fun i hi => by
  rw [List.getD_eq_getElem?_getD, List.getElem?_eq_getElem hi]
  have := List.all_eq_true.1 h _ (List.getElem_mem hi)
  simpa using this
theorem DgEnd.yes {K : IntKind} {et : Nat} {ss : List Int} {a : Int} {w w' : World} {e : Ending} (h : DgEnd K et ss a w e w') (h0 : dgE ss a = 0) :
    ∃ g, e = .returned (.tuple #[.slice (some ⟨g, 0, none⟩) ss.length ss.length, .int .i64 0]) ∧ w.heap.size ≤ g ∧ w'.heap[g]? = some (.cells ((dgs ss a).map (Value.int K)).toArray et (0, 0)) ∧ Below w.heap.size w w' := by
  obtain ⟨⟨h1, _⟩ | ⟨_, g, h2, h3, h4⟩, hb⟩ := h
  · exact absurd h0 h1
  · exact ⟨g, h2, h3, h4, hb⟩
theorem DgEnd.no {K : IntKind} {et : Nat} {ss : List Int} {a : Int} {w w' : World} {e : Ending} (h : DgEnd K et ss a w e w') (h0 : dgE ss a ≠ 0) :
    e = .returned (.tuple #[.slice none 0 0, .int .i64 (dgE ss a)]) ∧ Below w.heap.size w w' := by
  obtain ⟨⟨_, h1⟩ | ⟨h2, _⟩, hb⟩ := h
  · exact ⟨h1, hb⟩
  · exact absurd h2 h0
theorem belowA (w : World) (o : Obj) : Below w.heap.size w (w.alloc o) := (Below.refl _ _).alloc (Nat.le_refl _) o
theorem bstepR {w wr w' : World} (h : Below w.heap.size w wr) (hb : Below wr.heap.size wr w') : Below w.heap.size w w' := h.trans (hb.mono h.size)
theorem at_23 (w : World) : Calls Try.prog 11 #[.slice (some ⟨w.heap.size, 0, none⟩) 2 2, .slice (some ⟨w.heap.size + 1, 0, none⟩) 2 2] ((w.alloc (.cells #[.int .i64 2, .int .i64 3] 3)).alloc (.cells #[.int .i64 1, .int .i64 2] 3)) fun e w' =>
    e = .returned (.tuple #[.int .i64 5, .int .i64 0]) ∧ ∃ q, w' = ((w.alloc (.cells #[.int .i64 2, .int .i64 3] 3)).alloc (.cells #[.int .i64 1, .int .i64 2] 3)).drewN q := by
  have h1 : RK .i64 (w.alloc (.cells #[.int .i64 2, .int .i64 3] 3)) (.slice (some ⟨w.heap.size, 0, none⟩) 2 2) [2, 3] := RK.lit w 3 [2, 3] (inK_of (by decide)) (by decide)
  have h2 : RK .i64 ((w.alloc (.cells #[.int .i64 2, .int .i64 3] 3)).alloc (.cells #[.int .i64 1, .int .i64 2] 3)) (.slice (some ⟨w.heap.size + 1, 0, none⟩) 2 2) [1, 2] := by
    have := RK.lit (w.alloc (.cells #[.int .i64 2, .int .i64 3] 3)) 3 [1, 2] (k := .i64) (inK_of (by decide)) (by decide)
    rw [World.size_alloc] at this; exact this
  exact atI _ _ [2, 3] [1, 2] _ (h1.alloc _) h2
theorem digits_23 (w : World) : Calls Try.prog 25 #[.slice (some ⟨w.heap.size, 0, none⟩) 2 2, .int .i64 5] (w.alloc (.cells #[.int .i32 2, .int .i32 3] 21)) fun e w' =>
    ∃ g, e = .returned (.tuple #[.slice (some ⟨g, 0, none⟩) 2 2, .int .i64 0]) ∧ g < w'.heap.size ∧ w'.cell? ⟨g, 0, none⟩ = some (.int .i32 1) ∧ w'.cell? ⟨g, 1, none⟩ = some (.int .i32 2) ∧ Below w.heap.size w w' := by
  refine (digitsJ _ [2, 3] 5 _ (RK.lit w 21 [2, 3] (inK_of (by decide)) (by decide)) (by decide) (by decide) (by decide)).mono ?_
  intro e w' h
  obtain ⟨g, h1, h2, h3, h4⟩ := h.yes (by decide)
  exact ⟨g, h1, (Array.getElem?_eq_some_iff.1 h3).1, cell_row (i := 0) h3 (by decide), cell_row (i := 1) h3 (by decide), bstepR (belowA _ _) h4⟩
theorem count_23 (w : World) : Calls Try.prog 26 #[.slice (some ⟨w.heap.size, 0, none⟩) 2 2] (w.alloc (.cells #[.int .u16 2, .int .u16 3] 36)) fun e w' =>
    e = .returned (.tuple #[.int .i64 6, .int .i64 0]) ∧ Below w.heap.size w w' := by
  refine (countS _ [2, 3] _ (RK.lit w 36 [2, 3] (inK_of (by decide)) (by decide))).mono ?_
  rintro e w' ⟨h, q, rfl⟩
  exact ⟨h, below_drewR (belowA _ _) q⟩
theorem keepR {w w' : World} {p : Addr} {v : Value} (hb : Below w.heap.size w w') (h : w.cell? p = some v) : w'.cell? p = some v := by
  rw [hb.cell (block_lt_of_cell h)]; exact h
set_option maxRecDepth 100000 in
set_option maxHeartbeats 1600000 in
theorem aliveR (w : World) : Calls Try.prog 10 #[] w fun e w' => e = .returned (.bool true) ∧ Below w.heap.size w w' := by
  have h1 := at_23 w
  have h2 := digits_23
  have h3 := count_23
  go_enter Try.func10, Try.ntmps10
  go_wp2_with fail
  refine h1.mono ?_
  rintro e w1 ⟨rfl, q, hw1⟩
  have b1 : Below w.heap.size w w1 := by rw [hw1]; exact below_drewR (bstepR (belowA _ _) (belowA _ _)) q
  clear hw1 h1
  go_wp2_with fail
  refine (h2 w1).mono ?_
  rintro e w2 ⟨g, rfl, hg, c0, c1, b2⟩
  have B2 := bstepR b1 b2
  go_wp2_with fail
  refine (h3 w2).mono ?_
  rintro e w3 ⟨rfl, b3⟩
  replace c0 := keepR b3 c0
  replace c1 := keepR b3 c1
  have HB : Hid (Below w.heap.size w w3) := bstepR B2 b3
  clear h2 h3 b1 b2 b3 B2 hg
  go_wp2
  go_ret
  exact ⟨rfl, HB.out⟩
end Go.Proofs.Ytfanomoijjjcmaa
