/-
  Proved here: facts on rows of bytes of the call's own; what slices.Reverse does to one.
-/
import Derived.Test.YtlemnbegblpllaaDoorPushOwnAll
import Derived.RegionTactic
import Derived.BigRegion
namespace Go.Proofs.YtlemnbegblpllaaDoor
open Go.RowKit

def Y (x : Nat) : Value := .int .u8 (x : Int)
/-- Bytes in a row of the call's own. -/
def OwnY (B : Nat) (w : World) (v : Value) (ds : List Nat) : Prop := w.ownsRow B 5 1 v ds.length (ds.map Y)
theorem OwnY.heap {B g n cap : Nat} {w : World} {ds : List Nat} (h : OwnY B w (.slice (some ⟨g, 0, none⟩) n cap) ds) : B ≤ g ∧ n = ds.length ∧ ∃ cur, w.heap[g]? = some (.cells cur 5 (0, 0)) ∧ ds.length ≤ cap ∧ cur.size = cap ∧ cur.toList.take ds.length = ds.map Y := by
  rcases h.2 with ⟨h, _⟩ | ⟨g', cap', cur, h1, h3, h4, h5, h6, h7, h8⟩
  · simp at h
  · simp only [Value.slice.injEq, Option.some.injEq, Addr.mk.injEq, and_true] at h1
    obtain ⟨rfl, rfl, rfl⟩ := h1
    exact ⟨h3, rfl, cur, h4, h5, by simpa using h7, by simpa using h8⟩
theorem OwnY.cell {B g n cap : Nat} {w : World} {ds : List Nat} (h : OwnY B w (.slice (some ⟨g, 0, none⟩) n cap) ds) {k : Nat} (hk : k < ds.length) : w.cell? ⟨g, k, none⟩ = some (.int .u8 ((ds.getD k 0 : Nat) : Int)) ∧ w.frozen? ⟨g, k, none⟩ = false := by
  obtain ⟨_, hn, cur, h1, h2, h3, h4⟩ := h.heap
  refine ⟨?_, frozen_of_row w g k cur _ h1⟩
  rw [cell_of_row w g k cur _ _ h1]
  have h5 : cur.toList[k]? = (ds.map Y)[k]? := by rw [← h4, List.getElem?_take_of_lt hk]
  rw [Array.getElem?_toList] at h5
  rw [h5, List.getElem?_map, List.getElem?_eq_getElem hk, List.getD_eq_getElem?_getD, List.getElem?_eq_getElem hk]
  rfl
theorem OwnY.set {B g n cap : Nat} {w : World} {ds : List Nat} (h : OwnY B w (.slice (some ⟨g, 0, none⟩) n cap) ds) (hn : ds.length = n) (k x : Nat) : OwnY B (w.setCell ⟨g, k, none⟩ (Y x)) (.slice (some ⟨g, 0, none⟩) n cap) (ds.set k x) := by
  subst hn
  have := (World.ownsRow.stored h k (Y x)).1
  unfold OwnY
  rw [List.length_set, List.map_set]
  exact this
theorem OwnY.of_nil (B : Nat) (w : World) : OwnY B w (.slice none 0 0) [] := World.ownsRow_nil _ _ _ _
theorem OwnY.same {B : Nat} {w w' : World} {v : Value} {ds : List Nat} (h : OwnY B w v ds) (he : w'.heap = w.heap) : OwnY B w' v ds := by
  obtain ⟨h1, h2⟩ := h
  refine ⟨h1, ?_⟩
  rcases h2 with h2 | ⟨g', cap, cur, rfl, h3, h4, h5⟩
  · exact Or.inl h2
  · exact Or.inr ⟨g', cap, cur, rfl, h3, by rw [he]; exact h4, h5⟩
theorem OwnY.below {B : Nat} {w w' : World} {v : Value} {ds : List Nat} (h : OwnY B w v ds) (hb : Below w.heap.size w w') : OwnY B w' v ds := by
  obtain ⟨h1, h2⟩ := h
  refine ⟨h1, ?_⟩
  rcases h2 with h2 | ⟨g', cap, cur, rfl, h3, h4, h5⟩
  · exact Or.inl h2
  · exact Or.inr ⟨g', cap, cur, rfl, h3, by rw [hb.block _ (Array.getElem?_eq_some_iff.1 h4).1]; exact h4, h5⟩
/-- A row of bytes stays where another row is written. -/
theorem OwnY.grown {B : Nat} {w w' : World} {v : Value} {ds : List Nat} {r : Option Nat} (h : OwnY B w v ds) (hg : w.grownBy w' r) (hne : v.ownBlock = none ∨ v.ownBlock ≠ r) : OwnY B w' v ds := by
  obtain ⟨h1, h2⟩ := h
  refine ⟨h1, ?_⟩
  rcases h2 with h2 | ⟨g', cap, cur, rfl, h3, h4, h5⟩
  · exact Or.inl h2
  · refine Or.inr ⟨g', cap, cur, rfl, h3, ?_, h5⟩
    rw [hg.block g' (Array.getElem?_eq_some_iff.1 h4).1 (hne.elim (fun h => absurd h (by simp [Value.ownBlock])) (fun h => h))]
    exact h4
theorem Own.grown {B e : Nat} {w w' : World} {v : Value} {xs : List Nat} {r : Option Nat} (h : Own B e w v xs) (hg : w.grownBy w' r) (hne : v.ownBlock = none ∨ v.ownBlock ≠ r) : Own B e w' v xs := by
  obtain ⟨h0, h1, h2⟩ := h
  refine ⟨h0, h1, ?_⟩
  rcases h2 with h2 | ⟨g', cap, cur, rfl, h3, h4, h5⟩
  · exact Or.inl h2
  · refine Or.inr ⟨g', cap, cur, rfl, h3, ?_, h5⟩
    rw [hg.block g' (Array.getElem?_eq_some_iff.1 h4).1 (hne.elim (fun h => absurd h (by simp [Value.ownBlock])) (fun h => h))]
    exact h4
theorem push_ownY {B : Nat} {w w' wr : World} {v v' : Value} {ds : List Nat} {d : Nat} {o : Obj} (hv : OwnY B wr v ds) (hbel : Below B w wr) (hB : B ≤ wr.heap.size)
    (ho : w'.ownsRow B 5 1 v' (ds.length + 1) (ds.map Y ++ [Y d])) (hg : (wr.alloc o).grownBy w' v.ownBlock) :
    OwnY B w' v' (ds ++ [d]) ∧ Below B w w' ∧ B ≤ w'.heap.size := by
  have hsz : (wr.alloc o).heap.size = wr.heap.size + 1 := by simp
  have hbel2 : Below B (wr.alloc o) w' := below_of_grown hg (by omega) (fun g e => (World.ownsRow.lt hv g e).1)
  refine ⟨?_, (hbel.alloc hB o).trans hbel2, by have := hbel2.size; omega⟩
  unfold OwnY
  rw [List.length_append, List.map_append]
  exact ho

theorem getD_rev {ds : List Nat} {q : Nat} (h : q < ds.length) : ds.reverse.getD q 0 = ds.getD (ds.length - 1 - q) 0 := by
  rw [List.getD_eq_getElem?_getD, List.getElem?_reverse h, ← List.getD_eq_getElem?_getD]
theorem ext_getD {a b : List Nat} (hl : a.length = b.length) (h : ∀ q, q < a.length → a.getD q 0 = b.getD q 0) : a = b := by
  apply List.ext_getElem hl
  intro j h1 h2
  have := h j h1
  rw [List.getD_eq_getElem?_getD, List.getElem?_eq_getElem h1, List.getD_eq_getElem?_getD, List.getElem?_eq_getElem h2] at this
  simpa using this
/-- What Reverse leaves. -/
def RevEnd (B : Nat) (w : World) (g n cap : Nat) (ds : List Nat) (e : Ending) (w' : World) : Prop :=
  e = .returned (.tuple #[]) ∧ OwnY B w' (.slice (some ⟨g, 0, none⟩) n cap) ds.reverse ∧ w.grownBy w' (some g)
theorem grownBy_set' {w0 w : World} {g : Nat} (h : w0.grownBy w (some g)) (k : Nat) (u : Value) : w0.grownBy (w.setCell ⟨g, k, none⟩ u) (some g) :=
  ⟨h.os, h.tape, h.output, by simp [World.setCell]; exact h.size, fun j hj hne => by
    rw [heap_setCell_other]
    · exact h.block j hj hne
    · intro e; exact hne (by rw [e])⟩

end Go.Proofs.YtlemnbegblpllaaDoor
