/-
  Proved here: what digitsAlone answers.
  Proved here: what appendDigits answers.
  Proved here: what Parse answers.
  Proved here: what strings.TrimLeft answers at the cutset 0.
  Proved here: facts on rows of bytes of the call's own; what slices.Reverse does to one.
  Proved here: a number that is read in a world is one number.
-/
import Derived.Test.YtbcddjibgaccpaaGreatDoorTrimAll
import Derived.Test.YtbcddjibgaccpaaGreatDoorDecMathAll
import Derived.Test.YtbcddjibgaccpaaGreatDoorNearKAll
import Derived.Test.YtbcddjibgaccpaaGreatDoorMul
import Derived.Test.YtbcddjibgaccpaaGreatDoorTakeAll
import Derived.RegionTactic
import Derived.BigRegion
namespace Go.Proofs.YtbcddjibgaccpaaGreatDoor
open Go.RowKit

/-- A byte of a text. -/
def bt (s : ByteArray) (i : Nat) : Nat := (s.data.toList.getD i 0).toNat
theorem bt_get {s : ByteArray} {i : Nat} (h : i < s.size) : s[i].toNat = bt s i := by
  unfold bt
  rw [List.getD_eq_getElem?_getD, Array.getElem?_toList, Array.getElem?_eq_getElem h]
  rfl
theorem bt_lt (s : ByteArray) (i : Nat) : bt s i < 256 := UInt8.toNat_lt _
/-- The digits of a text. -/
def dgs (s : ByteArray) : List Nat := s.data.toList.map fun b => b.toNat - 48
theorem dgs_len (s : ByteArray) : (dgs s).length = s.size := by unfold dgs; rw [List.length_map]; exact Array.length_toList
theorem dgs_at {s : ByteArray} {i : Nat} (h : i < s.size) : (dgs s).getD i 0 = bt s i - 48 := by
  unfold dgs bt
  rw [List.getD_eq_getElem?_getD, List.getElem?_map, List.getD_eq_getElem?_getD]
  have : i < s.data.toList.length := by simpa using h
  rw [List.getElem?_eq_getElem this]; rfl
/-- All bytes are digits. -/
def DigOk (s : ByteArray) : Prop := ∀ i, i < s.size → 48 ≤ bt s i ∧ bt s i ≤ 57
theorem DigOk.decs {s : ByteArray} (h : DigOk s) : decs (dgs s) := fun x hx => by
  obtain ⟨i, hi, rfl⟩ := List.getElem_of_mem hx
  rw [dgs_len] at hi
  have h1 := dgs_at hi
  rw [List.getD_eq_getElem?_getD, List.getElem?_eq_getElem (by rw [dgs_len]; exact hi)] at h1
  have h2 := h i hi
  simp at h1
  omega
theorem ret_bool {a b : Bool} (h : a = b) : Ending.returned (.bool a) = .returned (.bool b) := by rw [h]
instance (s : ByteArray) : Decidable (DigOk s) := inferInstanceAs (Decidable (∀ i, i < s.size → _))

end Go.Proofs.YtbcddjibgaccpaaGreatDoor

namespace Go.Proofs.YtbcddjibgaccpaaGreatDoor
open Go.RowKit

theorem dig_step {xs ys : List Nat} {i sc c c0 : Nat} (hi : i < ys.length) (h : low ys i + 4294967296 ^ i * c = low xs i * sc + c0) :
    low (ys.set i ((c + xs.getD i 0 * sc) % 4294967296)) (i + 1) + 4294967296 ^ (i + 1) * ((c + xs.getD i 0 * sc) / 4294967296) = low xs (i + 1) * sc + c0 := by
  rw [low_set_succ _ _ _ hi, low_succ xs i, Nat.pow_succ, Nat.add_assoc, carry_eq, Nat.mul_add, Nat.add_mul, Nat.mul_assoc]
  omega
theorem take_snoc {l : List Nat} {i : Nat} (h : i < l.length) : l.take (i + 1) = l.take i ++ [l.getD i 0] := by
  rw [List.take_add_one, List.getD_eq_getElem?_getD, List.getElem?_eq_getElem h]; rfl
theorem ten_le {i n : Nat} (h : i ≤ n) : 10 ^ i ≤ 10 ^ n := Nat.pow_le_pow_right (by decide) h

/-- What appendDigits leaves. -/
def DigEnd (B : Nat) (w : World) (v : Nat) (s : ByteArray) (e : Ending) (w' : World) : Prop :=
  ∃ u, e = .returned u ∧ Own B 39 w' u (lim (v * 10 ^ s.size + bval (dgs s))) ∧ Below B w w'

end Go.Proofs.YtbcddjibgaccpaaGreatDoor

namespace Go.Proofs.YtbcddjibgaccpaaGreatDoor
open Go.RowKit

def szOf : Value → Nat
  | .string r => r.size
  | _ => 0
/-- What Parse leaves. -/
def ParseEnd (w : World) (s : ByteArray) (e : Ending) (w' : World) : Prop :=
  ∃ u, e = .returned (.tuple #[u, .int .i64 (if DigOk s ∧ 0 < s.size then 0 else 10)]) ∧ Own w.heap.size 39 w' u (if DigOk s ∧ 0 < s.size then lim (bval (dgs s)) else []) ∧ Below w.heap.size w w'

theorem extract_list (r : ByteArray) (a b : Nat) : (r.extract a b).data.toList = (r.data.toList.drop a).take (b - a) := by
  rw [ByteArray.data_extract, Array.toList_extract]
theorem dgs_part {s c : ByteArray} {k m : Nat} (h : c.data.toList = (s.data.toList.drop k).take m) : dgs c = ((dgs s).drop k).take m := by
  unfold dgs; rw [h, List.map_take, List.map_drop]
theorem size_part {s c : ByteArray} {k m : Nat} (h : c.data.toList = (s.data.toList.drop k).take m) : c.size = min m (s.size - k) := by
  have : c.data.toList.length = min m (s.size - k) := by rw [h, List.length_take, List.length_drop, Array.length_toList]; rfl
  rw [Array.length_toList] at this; exact this
theorem bt_part {s c : ByteArray} {k m i : Nat} (h : c.data.toList = (s.data.toList.drop k).take m) (hi : i < m) : bt c i = bt s (k + i) := by
  unfold bt
  rw [h, List.getD_eq_getElem?_getD, List.getElem?_take_of_lt hi, List.getElem?_drop, ← List.getD_eq_getElem?_getD]
theorem DigOk.part {s c : ByteArray} {k m : Nat} (hd : DigOk s) (h : c.data.toList = (s.data.toList.drop k).take m) : DigOk c := fun i hi => by
  have hs := size_part h
  rw [bt_part h (by omega)]
  exact hd _ (by omega)
theorem bval_chunk {s c : ByteArray} {k m : Nat} (h : c.data.toList = (s.data.toList.drop k).take m) : bval ((dgs s).take (k + m)) = bval ((dgs s).take k) * 10 ^ c.size + bval (dgs c) := by
  rw [List.take_add, bval_append, ← dgs_part h, dgs_len]

end Go.Proofs.YtbcddjibgaccpaaGreatDoor

namespace Go.Proofs.YtbcddjibgaccpaaGreatDoor
open Go.RowKit

/-- What is left of a text without its noughts ahead. -/
def TrimEnd (s : ByteArray) (w : World) (e : Ending) (w' : World) : Prop :=
  ∃ (k : Nat) (r : ByteArray), e = .returned (.string r) ∧ w' = w ∧ k ≤ s.size ∧ r.data.toList = s.data.toList.drop k ∧ (∀ j, j < k → bt s j = 48) ∧ (k < s.size → bt s k ≠ 48)

set_option maxRecDepth 100000 in
set_option maxHeartbeats 1600000 in
theorem trimByte_any (s : ByteArray) (w : World) :
    Calls Tryz.prog 78 #[.string s, .int .u8 48] w fun e w' => TrimEnd s w e w' := by
  go_enter Tryz.func78, Tryz.ntmps78
  go_wp2
  go_loop [0] (fun sv => ∃ (k : Nat) (r : ByteArray), k ≤ s.size ∧ sv = .string r ∧ r.data.toList = s.data.toList.drop k ∧ (∀ j, j < k → bt s j = 48)) (fun sv => szOf sv)
  case atStart => exact ⟨0, s, Nat.zero_le _, rfl, rfl, fun j hj => by omega⟩
  case round =>
    obtain ⟨k, r, hk, rfl, hr, hz⟩ := hrel
    have HRR : Hid (r.data.toList = s.data.toList.drop k) := hr
    have HZ : Hid (∀ j, j < k → bt s j = 48) := hz
    have HRS : Hid (r.size = s.size - k) := by
      have h1 : r.data.toList.length = s.size - k := by rw [hr, List.length_drop, Array.length_toList]; rfl
      rw [Array.length_toList] at h1; exact h1
    clear hr hz
    by_cases hlt : 0 < r.size
    · have hlt' : (0 : Int) < (r.size : Int) := by omega
      have hg := bt_get hlt
      have hbk : bt r 0 = bt s k := by
        unfold bt
        rw [HRR.out, List.getD_eq_getElem?_getD, List.getElem?_drop, Nat.add_zero, ← List.getD_eq_getElem?_getD]
      rw [hbk] at hg
      obtain ⟨c, hc⟩ : ∃ c, c = bt s k := ⟨_, rfl⟩
      rw [← hc] at hg
      have HC : Hid (c = bt s k) := hc
      clear hc hbk
      have hks : k < s.size := by have := HRS.out; omega
      by_cases h48 : c = 48
      · subst h48
        go_wp2
        go_round
        case rel =>
          have hrs := HRS.out
          refine ⟨k + 1, _, by omega, rfl, ?_, fun j hj => ?_⟩
          · rw [extract_list, HRR.out, List.drop_drop, List.take_of_length_le (by rw [List.length_drop, Array.length_toList]; show s.size - (k + 1) ≤ _; omega)]
          · by_cases hjk : j = k
            · rw [hjk]; exact HC.out.symm
            · exact HZ.out j (by omega)
        case measure => simp [szOf]; omega
      · have h48' : ¬ (c : Int) = 48 := by omega
        have HE : Hid (TrimEnd s w (.returned (.string r)) w) := ⟨k, r, rfl, rfl, hk, HRR.out, HZ.out, fun _ => by rw [← HC.out]; exact h48⟩
        go_wp2
        go_ret
        exact HE.out
    · have hlt' : ¬ (0 : Int) < (r.size : Int) := by omega
      have HE : Hid (TrimEnd s w (.returned (.string r)) w) := ⟨k, r, rfl, rfl, hk, HRR.out, HZ.out, fun h => by have := HRS.out; omega⟩
      go_wp2
      go_ret
      exact HE.out

set_option maxRecDepth 100000 in
set_option maxHeartbeats 1600000 in
theorem trimLeft_any (s : ByteArray) (w : World) (h0 : 0 < s.size) :
    Calls Tryz.prog 61 #[.string s, .string ⟨#[48]⟩] w fun e w' => TrimEnd s w e w' := by
  have hne : ¬ s.toList = [] := by
    intro h
    have h1 : s.toList = s.data.toList := ByteArray.toList_eq s
    rw [h1] at h
    have h2 : s.data.toList.length = 0 := by rw [h]; rfl
    rw [Array.length_toList] at h2
    have : s.size = s.data.size := rfl
    omega
  have hie : s.toList.isEmpty = false := by rw [List.isEmpty_eq_false_iff]; exact hne
  have h48 : (({ data := #[48] } : ByteArray)[0]'(by decide)).toNat = 48 := rfl
  go_enter Tryz.func61, Tryz.ntmps61
  go_wp2_with fail
  refine (trimByte_any s w).mono ?_
  rintro e w1 ⟨k, r, rfl, rfl, h1, h2, h3, h4⟩
  have HE : Hid (TrimEnd s w1 (.returned (.string r)) w1) := ⟨k, r, rfl, rfl, h1, h2, h3, h4⟩
  clear h1 h2 h3 h4
  go_wp2
  go_ret
  exact HE.out
end Go.Proofs.YtbcddjibgaccpaaGreatDoor

namespace Go.Proofs.YtbcddjibgaccpaaGreatDoor
open Go.RowKit

def Y (x : Nat) : Value := .int .u8 (x : Int)
/-- Bytes in a row of the call's own. -/
def OwnY (B : Nat) (w : World) (v : Value) (ds : List Nat) : Prop := w.ownsRow B 5 1 v ds.length (ds.map Y)
theorem OwnY.heap {B g n cap : Nat} {w : World} {ds : List Nat} (h : OwnY B w (.slice (some ⟨g, 0, none⟩) n cap) ds) : B ≤ g ∧ n = ds.length ∧ ∃ cur, w.heap[g]? = some (.cells cur 5 (0, 0)) ∧ ds.length ≤ cap ∧ cur.size = cap ∧ cur.toList.take ds.length = ds.map Y := by
  rcases h.2 with ⟨h, _⟩ | ⟨g', cap', cur, h1, h3, h4, h5, h6, h7, h8⟩
  · simp at h
  · simp only [Value.slice.injEq, Option.some.injEq, Addr.mk.injEq, and_true] at h1
    obtain ⟨rfl, rfl, rfl⟩ := h1
    exact ⟨h3, rfl, cur, h4, h5, by simpa using h7, by simpa using h8⟩
theorem OwnY.cell {B g n cap : Nat} {w : World} {ds : List Nat} (h : OwnY B w (.slice (some ⟨g, 0, none⟩) n cap) ds) {k : Nat} (hk : k < ds.length) : w.cell? ⟨g, k, none⟩ = some (.int .u8 ((ds.getD k 0 : Nat) : Int)) ∧ w.frozen? ⟨g, k, none⟩ = false := by
  obtain ⟨_, hn, cur, h1, h2, h3, h4⟩ := h.heap
  refine ⟨?_, frozen_of_row w g k cur _ h1⟩
  rw [cell_of_row w g k cur _ _ h1]
  have h5 : cur.toList[k]? = (ds.map Y)[k]? := by rw [← h4, List.getElem?_take_of_lt hk]
  rw [Array.getElem?_toList] at h5
  rw [h5, List.getElem?_map, List.getElem?_eq_getElem hk, List.getD_eq_getElem?_getD, List.getElem?_eq_getElem hk]
  rfl
theorem OwnY.set {B g n cap : Nat} {w : World} {ds : List Nat} (h : OwnY B w (.slice (some ⟨g, 0, none⟩) n cap) ds) (hn : ds.length = n) (k x : Nat) : OwnY B (w.setCell ⟨g, k, none⟩ (Y x)) (.slice (some ⟨g, 0, none⟩) n cap) (ds.set k x) := by
  subst hn
  have := (World.ownsRow.stored h k (Y x)).1
  unfold OwnY
  rw [List.length_set, List.map_set]
  exact this
theorem OwnY.of_nil (B : Nat) (w : World) : OwnY B w (.slice none 0 0) [] := World.ownsRow_nil _ _ _ _
theorem OwnY.same {B : Nat} {w w' : World} {v : Value} {ds : List Nat} (h : OwnY B w v ds) (he : w'.heap = w.heap) : OwnY B w' v ds := by
  obtain ⟨h1, h2⟩ := h
  refine ⟨h1, ?_⟩
  rcases h2 with h2 | ⟨g', cap, cur, rfl, h3, h4, h5⟩
  · exact Or.inl h2
  · exact Or.inr ⟨g', cap, cur, rfl, h3, by rw [he]; exact h4, h5⟩
theorem OwnY.below {B : Nat} {w w' : World} {v : Value} {ds : List Nat} (h : OwnY B w v ds) (hb : Below w.heap.size w w') : OwnY B w' v ds := by
  obtain ⟨h1, h2⟩ := h
  refine ⟨h1, ?_⟩
  rcases h2 with h2 | ⟨g', cap, cur, rfl, h3, h4, h5⟩
  · exact Or.inl h2
  · exact Or.inr ⟨g', cap, cur, rfl, h3, by rw [hb.block _ (Array.getElem?_eq_some_iff.1 h4).1]; exact h4, h5⟩
/-- A row of bytes stays where another row is written. -/
theorem OwnY.grown {B : Nat} {w w' : World} {v : Value} {ds : List Nat} {r : Option Nat} (h : OwnY B w v ds) (hg : w.grownBy w' r) (hne : v.ownBlock = none ∨ v.ownBlock ≠ r) : OwnY B w' v ds := by
  obtain ⟨h1, h2⟩ := h
  refine ⟨h1, ?_⟩
  rcases h2 with h2 | ⟨g', cap, cur, rfl, h3, h4, h5⟩
  · exact Or.inl h2
  · refine Or.inr ⟨g', cap, cur, rfl, h3, ?_, h5⟩
    rw [hg.block g' (Array.getElem?_eq_some_iff.1 h4).1 (hne.elim (fun h => absurd h (by simp [Value.ownBlock])) (fun h => h))]
    exact h4
theorem Own.grown {B e : Nat} {w w' : World} {v : Value} {xs : List Nat} {r : Option Nat} (h : Own B e w v xs) (hg : w.grownBy w' r) (hne : v.ownBlock = none ∨ v.ownBlock ≠ r) : Own B e w' v xs := by
  obtain ⟨h0, h1, h2⟩ := h
  refine ⟨h0, h1, ?_⟩
  rcases h2 with h2 | ⟨g', cap, cur, rfl, h3, h4, h5⟩
  · exact Or.inl h2
  · refine Or.inr ⟨g', cap, cur, rfl, h3, ?_, h5⟩
    rw [hg.block g' (Array.getElem?_eq_some_iff.1 h4).1 (hne.elim (fun h => absurd h (by simp [Value.ownBlock])) (fun h => h))]
    exact h4
theorem push_ownY {B : Nat} {w w' wr : World} {v v' : Value} {ds : List Nat} {d : Nat} {o : Obj} (hv : OwnY B wr v ds) (hbel : Below B w wr) (hB : B ≤ wr.heap.size)
    (ho : w'.ownsRow B 5 1 v' (ds.length + 1) (ds.map Y ++ [Y d])) (hg : (wr.alloc o).grownBy w' v.ownBlock) :
    OwnY B w' v' (ds ++ [d]) ∧ Below B w w' ∧ B ≤ w'.heap.size := by
  have hsz : (wr.alloc o).heap.size = wr.heap.size + 1 := by simp
  have hbel2 : Below B (wr.alloc o) w' := below_of_grown hg (by omega) (fun g e => (World.ownsRow.lt hv g e).1)
  refine ⟨?_, (hbel.alloc hB o).trans hbel2, by have := hbel2.size; omega⟩
  unfold OwnY
  rw [List.length_append, List.map_append]
  exact ho

theorem getD_rev {ds : List Nat} {q : Nat} (h : q < ds.length) : ds.reverse.getD q 0 = ds.getD (ds.length - 1 - q) 0 := by
  rw [List.getD_eq_getElem?_getD, List.getElem?_reverse h, ← List.getD_eq_getElem?_getD]
theorem ext_getD {a b : List Nat} (hl : a.length = b.length) (h : ∀ q, q < a.length → a.getD q 0 = b.getD q 0) : a = b := by
  apply List.ext_getElem hl
  intro j h1 h2
  have := h j h1
  rw [List.getD_eq_getElem?_getD, List.getElem?_eq_getElem h1, List.getD_eq_getElem?_getD, List.getElem?_eq_getElem h2] at this
  simpa using this
/-- What Reverse leaves. -/
def RevEnd (B : Nat) (w : World) (g n cap : Nat) (ds : List Nat) (e : Ending) (w' : World) : Prop :=
  e = .returned (.tuple #[]) ∧ OwnY B w' (.slice (some ⟨g, 0, none⟩) n cap) ds.reverse ∧ w.grownBy w' (some g)
theorem grownBy_set' {w0 w : World} {g : Nat} (h : w0.grownBy w (some g)) (k : Nat) (u : Value) : w0.grownBy (w.setCell ⟨g, k, none⟩ u) (some g) :=
  ⟨h.os, h.tape, h.output, by simp [World.setCell]; exact h.size, fun j hj hne => by
    rw [heap_setCell_other]
    · exact h.block j hj hne
    · intro e; exact hne (by rw [e])⟩

set_option maxRecDepth 100000 in
set_option maxHeartbeats 3200000 in
theorem reverse_any (B g n cap : Nat) (ds : List Nat) (w : World) (h : OwnY B w (.slice (some ⟨g, 0, none⟩) n cap) ds) (hn : ds.length = n) (hnc : n ≤ cap) (hcm : cap ≤ 9223372036854775807) :
    Calls Tryz.prog 60 #[.slice (some ⟨g, 0, none⟩) n cap] w fun e w' => RevEnd B w g n cap ds e w' := by
  have HN : Hid (ds.length = n) := hn
  have HO : Hid (OwnY B w (.slice (some ⟨g, 0, none⟩) n cap) ds) := h
  clear hn h
  go_enter Tryz.func60, Tryz.ntmps60
  go_wp2
  go_loopw [2, 3] (fun iv jv wr => ∃ (i : Nat) (ys : List Nat), 2 * i ≤ n + 1 ∧ i ≤ n ∧ iv = .int .i64 i ∧ jv = .int .i64 ((n : Int) - 1 - i) ∧ ys.length = n ∧ OwnY B wr (.slice (some ⟨g, 0, none⟩) n cap) ys ∧ w.grownBy wr (some g) ∧ ∀ q, q < n → ys.getD q 0 = if q < i ∨ n < q + i + 1 then ds.getD (n - 1 - q) 0 else ds.getD q 0) (fun iv _ _ => n - (intOf iv).toNat)
  case atStart => exact ⟨0, ds, by omega, by omega, rfl, by go_num, HN.out, HO.out, World.grownBy.refl _ _, fun q hq => by rw [if_neg (by omega)]⟩
  case round =>
    clear HO
    obtain ⟨i, ys, hi2, hin, rfl, rfl, hyl, how, hgr, hinv⟩ := hrel
    have HY : Hid (ys.length = n) := hyl
    have HI : Hid (∀ q, q < n → ys.getD q 0 = if q < i ∨ n < q + i + 1 then ds.getD (n - 1 - q) 0 else ds.getD q 0) := hinv
    clear hyl hinv
    by_cases hlt : i + i + 1 < n
    · obtain ⟨j, hj⟩ : ∃ j, n = i + j + 1 := ⟨n - 1 - i, by omega⟩
      have ej : (n : Int) - 1 - (i : Int) = (j : Int) := by omega
      rw [ej]
      have hij : (i : Int) < (j : Int) := by omega
      have hin' : (i : Int) < (n : Int) := by omega
      have hjn' : (j : Int) < (n : Int) := by omega
      obtain ⟨ci, hfi⟩ := how.cell (k := i) (by rw [HY.out]; omega)
      obtain ⟨cj, hfj⟩ := how.cell (k := j) (by rw [HY.out]; omega)
      obtain ⟨x, hx⟩ : ∃ x, x = ys.getD i 0 := ⟨_, rfl⟩
      obtain ⟨y, hy⟩ : ∃ y, y = ys.getD j 0 := ⟨_, rfl⟩
      rw [← hx] at ci
      rw [← hy] at cj
      have HX : Hid (x = ys.getD i 0) := hx
      have HYY : Hid (y = ys.getD j 0) := hy
      have HJ : Hid (n = i + j + 1) := hj
      clear hx hy hj ej
      have hset1 := how.set HY.out i y
      have hset2 := hset1.set (by rw [List.length_set]; exact HY.out) j x
      have hgr2 := grownBy_set' (grownBy_set' hgr i (Y y)) j (Y x)
      rw [show Y y = .int .u8 (y : Int) from rfl, show Y x = .int .u8 (x : Int) from rfl] at hset2 hgr2
      clear hset1 how hgr
      go_wp2
      go_region
      go_wp2
      go_roundw
      case rel =>
        have hb := (Below.refl 0 ((wr.setCell ⟨g, i, none⟩ (.int .u8 (y : Int))).setCell ⟨g, j, none⟩ (.int .u8 (x : Int)))).drew
        have hJ := HJ.out
        refine ⟨i + 1, (ys.set i y).set j x, by omega, by omega, by go_num, by congr 1; omega, by rw [List.length_set, List.length_set]; exact HY.out, hset2.same rfl, ⟨hb.os.trans hgr2.os, hb.tape.trans hgr2.tape, hb.output.trans hgr2.output, hgr2.size, hgr2.block⟩, fun q hq => ?_⟩
        have hI := HI.out
        by_cases hqj : q = j
        · subst hqj
          rw [getD_set_eq _ _ _ (by rw [List.length_set, HY.out]; exact hq), HX.out, hI i (by omega), if_neg (by omega), if_pos (by omega)]
          congr 1; omega
        · rw [getD_set_off _ _ _ _ hqj]
          by_cases hqi : q = i
          · subst hqi
            rw [getD_set_eq _ _ _ (by rw [HY.out]; exact hq), HYY.out, hI j (by omega), if_neg (by omega), if_pos (by omega)]
            congr 1; omega
          · rw [getD_set_off _ _ _ _ hqi, hI q hq]
            by_cases hc : q < i ∨ n < q + i + 1
            · rw [if_pos hc, if_pos (by omega)]
            · rw [if_neg hc, if_neg (by omega)]
      case measure => simp [intOf]; have := HJ.out; omega
    · have hlt' : ¬ (i : Int) < (n : Int) - 1 - (i : Int) := by omega
      have HE : Hid (RevEnd B w g n cap ds (.returned (.tuple #[])) wr) := by
        refine ⟨rfl, ?_, hgr⟩
        have : ys = ds.reverse := by
          apply ext_getD (by rw [List.length_reverse, HN.out, HY.out])
          intro q hq
          rw [HY.out] at hq
          rw [HI.out q hq, getD_rev (by rw [HN.out]; exact hq), HN.out]
          by_cases hc : q < i ∨ n < q + i + 1
          · rw [if_pos hc]
          · rw [if_neg hc]; congr 1; omega
        rw [← this]; exact how
      clear how hgr
      go_wp2
      go_end0
      exact HE.out
end Go.Proofs.YtbcddjibgaccpaaGreatDoor

namespace Go.Proofs.YtbcddjibgaccpaaGreatDoor
open Go.RowKit

theorem Num.unique {w : World} {v : Value} {xs ys : List Nat} (h : Num w v xs) (g : Num w v ys) : xs = ys := by
  obtain ⟨_, ao, cap, e, _, _, _, h4⟩ := h
  obtain ⟨_, ao', cap', e', _, _, _, g4⟩ := g
  rw [e] at e'
  simp only [Value.slice.injEq] at e'
  obtain ⟨rfl, hl, rfl⟩ := e'
  apply List.ext_getElem hl
  intro j h1 h2
  obtain ⟨b, off, e1, c1⟩ := h4 j h1
  obtain ⟨b', off', e2, c2⟩ := g4 j h2
  rw [e1] at e2
  simp only [Option.some.injEq, Addr.mk.injEq, and_true] at e2
  obtain ⟨rfl, rfl⟩ := e2
  rw [c1] at c2
  simp only [U, Option.some.injEq, Value.int.injEq, true_and] at c2
  rw [List.getD_eq_getElem?_getD, List.getElem?_eq_getElem h1, List.getD_eq_getElem?_getD, List.getElem?_eq_getElem h2] at c2
  simp at c2; omega
open Classical in
/-- The number that a value says in a world; 0 where it says none. -/
noncomputable def valAt (w : World) (v : Value) : Nat := if h : ∃ xs, Num w v xs then val (Classical.choose h) else 0
theorem valAt_eq {w : World} {v : Value} {xs : List Nat} (h : Num w v xs) : valAt w v = val xs := by
  have hx : ∃ xs, Num w v xs := ⟨xs, h⟩
  unfold valAt
  rw [dif_pos hx]
  congr 1
  exact (Classical.choose_spec hx).unique h
end Go.Proofs.YtbcddjibgaccpaaGreatDoor
