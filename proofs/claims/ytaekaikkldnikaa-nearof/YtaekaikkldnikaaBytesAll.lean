/-
  Proved here: what digitsAlone answers.
  Proved here: what appendDigits answers.
  Proved here: what Parse answers.
  Proved here: what strings.TrimLeft answers at the cutset 0.
  Proved here: facts on rows of bytes of the call's own; what slices.Reverse does to one.
-/
import Derived.Test.YtaekaikkldnikaaTrimAll
import Derived.Test.YtaekaikkldnikaaDecMathAll
import Derived.Test.YtaekaikkldnikaaNearKAll
import Derived.Test.YtaekaikkldnikaaShiftMathAll
import Derived.Test.YtaekaikkldnikaaDivMathAll
import Derived.RegionTactic
import Derived.BigRegion
namespace Go.Proofs.Ytaekaikkldnikaa
open Go.RowKit

/-- A byte of a text. -/
def bt (s : ByteArray) (i : Nat) : Nat := (s.data.toList.getD i 0).toNat
theorem bt_get {s : ByteArray} {i : Nat} (h : i < s.size) : s[i].toNat = bt s i := by
  unfold bt
  rw [List.getD_eq_getElem?_getD, Array.getElem?_toList, Array.getElem?_eq_getElem h]
  rfl
theorem bt_lt (s : ByteArray) (i : Nat) : bt s i < 256 := UInt8.toNat_lt _
/-- The digits of a text. -/
def dgs (s : ByteArray) : List Nat := s.data.toList.map fun b => b.toNat - 48
theorem dgs_len (s : ByteArray) : (dgs s).length = s.size := by unfold dgs; rw [List.length_map]; exact Array.length_toList
theorem dgs_at {s : ByteArray} {i : Nat} (h : i < s.size) : (dgs s).getD i 0 = bt s i - 48 := by
  unfold dgs bt
  rw [List.getD_eq_getElem?_getD, List.getElem?_map, List.getD_eq_getElem?_getD]
  have : i < s.data.toList.length := by simpa using h
  rw [List.getElem?_eq_getElem this]; rfl
/-- All bytes are digits. -/
def DigOk (s : ByteArray) : Prop := ∀ i, i < s.size → 48 ≤ bt s i ∧ bt s i ≤ 57
theorem DigOk.decs {s : ByteArray} (h : DigOk s) : decs (dgs s) := fun x hx => by
  obtain ⟨i, hi, rfl⟩ := List.getElem_of_mem hx
  rw [dgs_len] at hi
  have h1 := dgs_at hi
  rw [List.getD_eq_getElem?_getD, List.getElem?_eq_getElem (by rw [dgs_len]; exact hi)] at h1
  have h2 := h i hi
  simp at h1
  omega
theorem ret_bool {a b : Bool} (h : a = b) : Ending.returned (.bool a) = .returned (.bool b) := by rw [h]
instance (s : ByteArray) : Decidable (DigOk s) := inferInstanceAs (Decidable (∀ i, i < s.size → _))

end Go.Proofs.Ytaekaikkldnikaa

namespace Go.Proofs.Ytaekaikkldnikaa
open Go.RowKit

theorem dig_step {xs ys : List Nat} {i sc c c0 : Nat} (hi : i < ys.length) (h : low ys i + 4294967296 ^ i * c = low xs i * sc + c0) :
    low (ys.set i ((c + xs.getD i 0 * sc) % 4294967296)) (i + 1) + 4294967296 ^ (i + 1) * ((c + xs.getD i 0 * sc) / 4294967296) = low xs (i + 1) * sc + c0 := by
  rw [low_set_succ _ _ _ hi, low_succ xs i, Nat.pow_succ, Nat.add_assoc, carry_eq, Nat.mul_add, Nat.add_mul, Nat.mul_assoc]
  omega
theorem take_snoc {l : List Nat} {i : Nat} (h : i < l.length) : l.take (i + 1) = l.take i ++ [l.getD i 0] := by
  rw [List.take_add_one, List.getD_eq_getElem?_getD, List.getElem?_eq_getElem h]; rfl
theorem ten_le {i n : Nat} (h : i ≤ n) : 10 ^ i ≤ 10 ^ n := Nat.pow_le_pow_right (by decide) h

/-- What appendDigits leaves. -/
def DigEnd (B : Nat) (w : World) (v : Nat) (s : ByteArray) (e : Ending) (w' : World) : Prop :=
  ∃ u, e = .returned u ∧ Own B 39 w' u (lim (v * 10 ^ s.size + bval (dgs s))) ∧ Below B w w'

end Go.Proofs.Ytaekaikkldnikaa

namespace Go.Proofs.Ytaekaikkldnikaa
open Go.RowKit

def szOf : Value → Nat
  | .string r => r.size
  | _ => 0
/-- What Parse leaves. -/
def ParseEnd (w : World) (s : ByteArray) (e : Ending) (w' : World) : Prop :=
  ∃ u, e = .returned (.tuple #[u, .int .i64 (if DigOk s ∧ 0 < s.size then 0 else 10)]) ∧ Own w.heap.size 39 w' u (if DigOk s ∧ 0 < s.size then lim (bval (dgs s)) else []) ∧ Below w.heap.size w w'

theorem extract_list (r : ByteArray) (a b : Nat) : (r.extract a b).data.toList = (r.data.toList.drop a).take (b - a) := by
  rw [ByteArray.data_extract, Array.toList_extract]
theorem dgs_part {s c : ByteArray} {k m : Nat} (h : c.data.toList = (s.data.toList.drop k).take m) : dgs c = ((dgs s).drop k).take m := by
  unfold dgs; rw [h, List.map_take, List.map_drop]
theorem size_part {s c : ByteArray} {k m : Nat} (h : c.data.toList = (s.data.toList.drop k).take m) : c.size = min m (s.size - k) := by
  have : c.data.toList.length = min m (s.size - k) := by rw [h, List.length_take, List.length_drop, Array.length_toList]; rfl
  rw [Array.length_toList] at this; exact this
theorem bt_part {s c : ByteArray} {k m i : Nat} (h : c.data.toList = (s.data.toList.drop k).take m) (hi : i < m) : bt c i = bt s (k + i) := by
  unfold bt
  rw [h, List.getD_eq_getElem?_getD, List.getElem?_take_of_lt hi, List.getElem?_drop, ← List.getD_eq_getElem?_getD]
theorem DigOk.part {s c : ByteArray} {k m : Nat} (hd : DigOk s) (h : c.data.toList = (s.data.toList.drop k).take m) : DigOk c := fun i hi => by
  have hs := size_part h
  rw [bt_part h (by omega)]
  exact hd _ (by omega)
theorem bval_chunk {s c : ByteArray} {k m : Nat} (h : c.data.toList = (s.data.toList.drop k).take m) : bval ((dgs s).take (k + m)) = bval ((dgs s).take k) * 10 ^ c.size + bval (dgs c) := by
  rw [List.take_add, bval_append, ← dgs_part h, dgs_len]

end Go.Proofs.Ytaekaikkldnikaa

namespace Go.Proofs.Ytaekaikkldnikaa
open Go.RowKit

/-- What is left of a text without its noughts ahead. -/
def TrimEnd (s : ByteArray) (w : World) (e : Ending) (w' : World) : Prop :=
  ∃ (k : Nat) (r : ByteArray), e = .returned (.string r) ∧ w' = w ∧ k ≤ s.size ∧ r.data.toList = s.data.toList.drop k ∧ (∀ j, j < k → bt s j = 48) ∧ (k < s.size → bt s k ≠ 48)

end Go.Proofs.Ytaekaikkldnikaa

namespace Go.Proofs.Ytaekaikkldnikaa
open Go.RowKit

def Y (x : Nat) : Value := .int .u8 (x : Int)
/-- Bytes in a row of the call's own. -/
def OwnY (B : Nat) (w : World) (v : Value) (ds : List Nat) : Prop := w.ownsRow B 5 1 v ds.length (ds.map Y)
theorem OwnY.heap {B g n cap : Nat} {w : World} {ds : List Nat} (h : OwnY B w (.slice (some ⟨g, 0, none⟩) n cap) ds) : B ≤ g ∧ n = ds.length ∧ ∃ cur, w.heap[g]? = some (.cells cur 5 (0, 0)) ∧ ds.length ≤ cap ∧ cur.size = cap ∧ cur.toList.take ds.length = ds.map Y := by
  rcases h.2 with ⟨h, _⟩ | ⟨g', cap', cur, h1, h3, h4, h5, h6, h7, h8⟩
  · simp at h
  · simp only [Value.slice.injEq, Option.some.injEq, Addr.mk.injEq, and_true] at h1
    obtain ⟨rfl, rfl, rfl⟩ := h1
    exact ⟨h3, rfl, cur, h4, h5, by simpa using h7, by simpa using h8⟩
theorem OwnY.cell {B g n cap : Nat} {w : World} {ds : List Nat} (h : OwnY B w (.slice (some ⟨g, 0, none⟩) n cap) ds) {k : Nat} (hk : k < ds.length) : w.cell? ⟨g, k, none⟩ = some (.int .u8 ((ds.getD k 0 : Nat) : Int)) ∧ w.frozen? ⟨g, k, none⟩ = false := by
  obtain ⟨_, hn, cur, h1, h2, h3, h4⟩ := h.heap
  refine ⟨?_, frozen_of_row w g k cur _ h1⟩
  rw [cell_of_row w g k cur _ _ h1]
  have h5 : cur.toList[k]? = (ds.map Y)[k]? := by rw [← h4, List.getElem?_take_of_lt hk]
  rw [Array.getElem?_toList] at h5
  rw [h5, List.getElem?_map, List.getElem?_eq_getElem hk, List.getD_eq_getElem?_getD, List.getElem?_eq_getElem hk]
  rfl
theorem OwnY.set {B g n cap : Nat} {w : World} {ds : List Nat} (h : OwnY B w (.slice (some ⟨g, 0, none⟩) n cap) ds) (hn : ds.length = n) (k x : Nat) : OwnY B (w.setCell ⟨g, k, none⟩ (Y x)) (.slice (some ⟨g, 0, none⟩) n cap) (ds.set k x) := by
  subst hn
  have := (World.ownsRow.stored h k (Y x)).1
  unfold OwnY
  rw [List.length_set, List.map_set]
  exact this
theorem OwnY.of_nil (B : Nat) (w : World) : OwnY B w (.slice none 0 0) [] := World.ownsRow_nil _ _ _ _
theorem OwnY.same {B : Nat} {w w' : World} {v : Value} {ds : List Nat} (h : OwnY B w v ds) (he : w'.heap = w.heap) : OwnY B w' v ds := by
  obtain ⟨h1, h2⟩ := h
  refine ⟨h1, ?_⟩
  rcases h2 with h2 | ⟨g', cap, cur, rfl, h3, h4, h5⟩
  · exact Or.inl h2
  · exact Or.inr ⟨g', cap, cur, rfl, h3, by rw [he]; exact h4, h5⟩
theorem OwnY.below {B : Nat} {w w' : World} {v : Value} {ds : List Nat} (h : OwnY B w v ds) (hb : Below w.heap.size w w') : OwnY B w' v ds := by
  obtain ⟨h1, h2⟩ := h
  refine ⟨h1, ?_⟩
  rcases h2 with h2 | ⟨g', cap, cur, rfl, h3, h4, h5⟩
  · exact Or.inl h2
  · exact Or.inr ⟨g', cap, cur, rfl, h3, by rw [hb.block _ (Array.getElem?_eq_some_iff.1 h4).1]; exact h4, h5⟩
/-- A row of bytes stays where another row is written. -/
theorem OwnY.grown {B : Nat} {w w' : World} {v : Value} {ds : List Nat} {r : Option Nat} (h : OwnY B w v ds) (hg : w.grownBy w' r) (hne : v.ownBlock = none ∨ v.ownBlock ≠ r) : OwnY B w' v ds := by
  obtain ⟨h1, h2⟩ := h
  refine ⟨h1, ?_⟩
  rcases h2 with h2 | ⟨g', cap, cur, rfl, h3, h4, h5⟩
  · exact Or.inl h2
  · refine Or.inr ⟨g', cap, cur, rfl, h3, ?_, h5⟩
    rw [hg.block g' (Array.getElem?_eq_some_iff.1 h4).1 (hne.elim (fun h => absurd h (by simp [Value.ownBlock])) (fun h => h))]
    exact h4
theorem Own.grown {B e : Nat} {w w' : World} {v : Value} {xs : List Nat} {r : Option Nat} (h : Own B e w v xs) (hg : w.grownBy w' r) (hne : v.ownBlock = none ∨ v.ownBlock ≠ r) : Own B e w' v xs := by
  obtain ⟨h0, h1, h2⟩ := h
  refine ⟨h0, h1, ?_⟩
  rcases h2 with h2 | ⟨g', cap, cur, rfl, h3, h4, h5⟩
  · exact Or.inl h2
  · refine Or.inr ⟨g', cap, cur, rfl, h3, ?_, h5⟩
    rw [hg.block g' (Array.getElem?_eq_some_iff.1 h4).1 (hne.elim (fun h => absurd h (by simp [Value.ownBlock])) (fun h => h))]
    exact h4
theorem push_ownY {B : Nat} {w w' wr : World} {v v' : Value} {ds : List Nat} {d : Nat} {o : Obj} (hv : OwnY B wr v ds) (hbel : Below B w wr) (hB : B ≤ wr.heap.size)
    (ho : w'.ownsRow B 5 1 v' (ds.length + 1) (ds.map Y ++ [Y d])) (hg : (wr.alloc o).grownBy w' v.ownBlock) :
    OwnY B w' v' (ds ++ [d]) ∧ Below B w w' ∧ B ≤ w'.heap.size := by
  have hsz : (wr.alloc o).heap.size = wr.heap.size + 1 := by simp
  have hbel2 : Below B (wr.alloc o) w' := below_of_grown hg (by omega) (fun g e => (World.ownsRow.lt hv g e).1)
  refine ⟨?_, (hbel.alloc hB o).trans hbel2, by have := hbel2.size; omega⟩
  unfold OwnY
  rw [List.length_append, List.map_append]
  exact ho

theorem getD_rev {ds : List Nat} {q : Nat} (h : q < ds.length) : ds.reverse.getD q 0 = ds.getD (ds.length - 1 - q) 0 := by
  rw [List.getD_eq_getElem?_getD, List.getElem?_reverse h, ← List.getD_eq_getElem?_getD]
theorem ext_getD {a b : List Nat} (hl : a.length = b.length) (h : ∀ q, q < a.length → a.getD q 0 = b.getD q 0) : a = b := by
  apply List.ext_getElem hl
  intro j h1 h2
  have := h j h1
  rw [List.getD_eq_getElem?_getD, List.getElem?_eq_getElem h1, List.getD_eq_getElem?_getD, List.getElem?_eq_getElem h2] at this
  simpa using this
/-- What Reverse leaves. -/
def RevEnd (B : Nat) (w : World) (g n cap : Nat) (ds : List Nat) (e : Ending) (w' : World) : Prop :=
  e = .returned (.tuple #[]) ∧ OwnY B w' (.slice (some ⟨g, 0, none⟩) n cap) ds.reverse ∧ w.grownBy w' (some g)
theorem grownBy_set' {w0 w : World} {g : Nat} (h : w0.grownBy w (some g)) (k : Nat) (u : Value) : w0.grownBy (w.setCell ⟨g, k, none⟩ u) (some g) :=
  ⟨h.os, h.tape, h.output, by simp [World.setCell]; exact h.size, fun j hj hne => by
    rw [heap_setCell_other]
    · exact h.block j hj hne
    · intro e; exact hne (by rw [e])⟩

end Go.Proofs.Ytaekaikkldnikaa
