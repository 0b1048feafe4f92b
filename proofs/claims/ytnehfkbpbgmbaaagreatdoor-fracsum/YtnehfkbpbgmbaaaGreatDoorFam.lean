/-
  Proved here: plain facts on several rows of a call's own that lie apart.
-/
import Derived.Test.YtnehfkbpbgmbaaaGreatDoorPushAll
namespace Go.Proofs.YtnehfkbpbgmbaaaGreatDoor
open Go.RowKit

def at_ (l : List Value) (i : Nat) : Value := l.getD i (.slice none 0 0)
/-- Each of some values owns its limbs. -/
def Fam (B : Nat) (w : World) (gs : List Value) (ys : Nat → List Nat) : Prop := ∀ j, j < gs.length → Own B 67 w (at_ gs j) (ys j)
/-- No two of them lie in one row. -/
def Dist (gs : List Value) : Prop := ∀ i j, i < gs.length → j < gs.length → i ≠ j → (at_ gs i).ownBlock = none ∨ (at_ gs i).ownBlock ≠ (at_ gs j).ownBlock
def upd (ys : Nat → List Nat) (i : Nat) (l : List Nat) : Nat → List Nat := fun j => if j = i then l else ys j

theorem limbs_set {xs : List Nat} (h : limbs xs) (k x : Nat) (hx : x < 4294967296) : limbs (xs.set k x) := fun y hy => by
  rcases List.mem_or_eq_of_mem_set hy with h' | h'
  · exact h y h'
  · omega

theorem Own.set {B e g n cap : Nat} {w : World} {xs : List Nat} (h : Own B e w (.slice (some ⟨g, 0, none⟩) n cap) xs) (hn : xs.length = n) (k x : Nat) (hx : x < 4294967296) :
    Own B e (w.setCell ⟨g, k, none⟩ (U x)) (.slice (some ⟨g, 0, none⟩) n cap) (xs.set k x) := by
  subst hn
  refine ⟨limbs_set h.1 k x hx, ?_⟩
  have := (World.ownsRow.stored h.2 k (U x)).1
  rw [List.length_set, List.map_set]
  exact this

theorem Own.other {B e : Nat} {w : World} {v : Value} {xs : List Nat} (h : Own B e w v xs) {g k : Nat} (u : Value) (hne : v.ownBlock = none ∨ v.ownBlock ≠ some g) : Own B e (w.setCell ⟨g, k, none⟩ u) v xs := by
  obtain ⟨h0, h1, h2⟩ := h
  refine ⟨h0, h1, ?_⟩
  rcases h2 with h2 | ⟨g', cap, cur, rfl, h3, h4, h5⟩
  · exact Or.inl h2
  · refine Or.inr ⟨g', cap, cur, rfl, h3, ?_, h5⟩
    rw [heap_setCell_other]
    · exact h4
    · simp [Value.ownBlock] at hne
      exact hne

theorem Fam.set {B : Nat} {w : World} {gs : List Value} {ys : Nat → List Nat} (h : Fam B w gs ys) (hd : Dist gs) {i g n cap : Nat} (hi : i < gs.length) (hv : at_ gs i = .slice (some ⟨g, 0, none⟩) n cap) (hn : (ys i).length = n) (k x : Nat) (hx : x < 4294967296) :
    Fam B (w.setCell ⟨g, k, none⟩ (U x)) gs (upd ys i ((ys i).set k x)) := fun j hj => by
  unfold upd
  by_cases hji : j = i
  · subst hji
    rw [if_pos rfl, hv]
    have := h j hj
    rw [hv] at this
    exact this.set hn k x hx
  · rw [if_neg hji]
    refine (h j hj).other (U x) ?_
    have := hd j i hj hi hji
    rw [hv] at this
    exact this

/-- The row of an Own value is there, of its element type. -/
theorem Own.heap {B e g n cap : Nat} {w : World} {xs : List Nat} (h : Own B e w (.slice (some ⟨g, 0, none⟩) n cap) xs) : B ≤ g ∧ n = xs.length ∧ ∃ cur, w.heap[g]? = some (.cells cur e (0, 0)) ∧ xs.length ≤ cap ∧ cur.size = cap ∧ cur.toList.take xs.length = xs.map U := by
  rcases h.2.2 with ⟨h, _⟩ | ⟨g', cap', cur, h1, h3, h4, h5, h6, h7, h8⟩
  · simp at h
  · simp only [Value.slice.injEq, Option.some.injEq, Addr.mk.injEq, and_true] at h1
    obtain ⟨rfl, rfl, rfl⟩ := h1
    exact ⟨h3, rfl, cur, h4, h5, by simpa using h7, by simpa using h8⟩

theorem Own.shape {B e : Nat} {w : World} {v : Value} {xs : List Nat} (h : Own B e w v xs) : (v = .slice none 0 0 ∧ xs = []) ∨ ∃ g cap, v = .slice (some ⟨g, 0, none⟩) xs.length cap ∧ xs.length ≤ cap ∧ cap ≤ 9223372036854775807 := by
  rcases h.2.2 with ⟨h1, h2⟩ | ⟨g', cap', cur, h1, h3, h4, h5, h6, h7, h8⟩
  · exact Or.inl ⟨h1, List.eq_nil_of_length_eq_zero h2⟩
  · exact Or.inr ⟨g', cap', h1, h5, h6⟩

theorem Own.cell {B e g n cap : Nat} {w : World} {xs : List Nat} (h : Own B e w (.slice (some ⟨g, 0, none⟩) n cap) xs) {k : Nat} (hk : k < xs.length) : w.cell? ⟨g, k, none⟩ = some (.int .u32 ((xs.getD k 0 : Nat) : Int)) ∧ w.frozen? ⟨g, k, none⟩ = false := by
  obtain ⟨_, hn, cur, h1, h2, h3, h4⟩ := h.heap
  refine ⟨?_, frozen_of_row w g k cur e h1⟩
  rw [cell_of_row w g k cur e _ h1]
  have h5 : cur.toList[k]? = (xs.map U)[k]? := by rw [← h4, List.getElem?_take_of_lt hk]
  rw [Array.getElem?_toList] at h5
  rw [h5, List.getElem?_map, List.getElem?_eq_getElem hk, List.getD_eq_getElem?_getD, List.getElem?_eq_getElem hk]
  rfl

/-- A row of headers stays where a limb's row is written. -/
theorem row_other {w : World} {gb g k e e' : Nat} {cs cur : Array Value} {u : Value} (h : w.heap[gb]? = some (.cells cs e (0, 0))) (h' : w.heap[g]? = some (.cells cur e' (0, 0))) (hne : e ≠ e') : (w.setCell ⟨g, k, none⟩ u).heap[gb]? = some (.cells cs e (0, 0)) := by
  rw [heap_setCell_other]
  · exact h
  · intro he
    simp only at he
    subst he
    rw [h] at h'
    simp only [Option.some.injEq, Obj.cells.injEq, and_true] at h'
    exact hne h'.2

theorem eq_replicate {l : List Nat} {n x : Nat} (hl : l.length = n) (h : ∀ q, q < n → l.getD q 0 = x) : l = List.replicate n x := by
  apply List.ext_getElem
  · simp [hl]
  · intro q h1 h2
    have := h q (by omega)
    rw [List.getD_eq_getElem?_getD, List.getElem?_eq_getElem h1] at this
    simpa using this

/-- All that was there is as it was, but for the rows of some values. -/
structure Bex (gs : List Value) (w w' : World) : Prop where
  os : w'.os = w.os
  tape : w'.tape = w.tape
  output : w'.output = w.output
  size : w.heap.size ≤ w'.heap.size
  block : ∀ k, k < w.heap.size → (∀ j, j < gs.length → (at_ gs j).ownBlock ≠ some k) → w'.heap[k]? = w.heap[k]?
/-- A row that may be written. -/
def May (gs : List Value) (w : World) (k : Nat) : Prop := (∃ j, j < gs.length ∧ (at_ gs j).ownBlock = some k) ∨ w.heap.size ≤ k
theorem Bex.same {gs : List Value} {w w' : World} (h : Below w.heap.size w w') : Bex gs w w' := ⟨h.os, h.tape, h.output, h.size, fun k hk _ => h.block k hk⟩
theorem Bex.alloc {gs : List Value} {w w' : World} (h : Bex gs w w') (o : Obj) : Bex gs w (w'.alloc o) :=
  ⟨h.os, h.tape, h.output, by simp; have := h.size; omega, fun k hk hj => by rw [Below.heap_alloc _ _ _ (Nat.lt_of_lt_of_le hk h.size)]; exact h.block k hk hj⟩
theorem Bex.setCell {gs : List Value} {w w' : World} (h : Bex gs w w') {p : Addr} (hp : May gs w p.block) (u : Value) : Bex gs w (w'.setCell p u) :=
  ⟨h.os, h.tape, h.output, by simp [World.setCell]; exact h.size, fun k hk hj => by
    rw [heap_setCell_other]
    · exact h.block k hk hj
    · intro e
      rcases hp with ⟨j, h1, h2⟩ | h2
      · exact hj j h1 (by rw [h2, e])
      · omega⟩
theorem Bex.grown {gs : List Value} {w wr w' : World} {row : Option Nat} (h : Bex gs w wr) (hg : wr.grownBy w' row) (hr : ∀ k, row = some k → May gs w k) : Bex gs w w' :=
  ⟨hg.os.trans h.os, hg.tape.trans h.tape, hg.output.trans h.output, Nat.le_trans h.size hg.size, fun k hk hj => by
    rw [hg.block k (Nat.lt_of_lt_of_le hk h.size) (fun e => ?_)]
    · exact h.block k hk hj
    · rcases hr k e.symm with ⟨j, h1, h2⟩ | h2
      · exact hj j h1 h2
      · omega⟩
theorem Bex.below {B : Nat} {gs : List Value} {w w' : World} (h : Bex gs w w') (hB : B ≤ w.heap.size) (hgs : ∀ j k, j < gs.length → (at_ gs j).ownBlock = some k → B ≤ k) : Below B w w' :=
  ⟨h.os, h.tape, h.output, h.size, fun k hk => h.block k (by omega) (fun j hj e => by have := hgs j k hj e; omega)⟩
/-- Where the marks are written: i numbers are full of them, and the first k limbs of the next one. -/
def St3 (B gb : Nat) (gs : List Value) (len : Nat → Nat) (w : World) (i k : Nat) (wr : World) : Prop :=
  ∃ ys, Fam B wr gs ys ∧ (∀ j, j < gs.length → (ys j).length = len j) ∧ (∀ j, j < i → ys j = List.replicate (len j) (1000 + j)) ∧ (∀ q, q < k → (ys i).getD q 0 = 1000 + i) ∧
    wr.heap[gb]? = some (.cells gs.toArray 23 (0, 0)) ∧ Bex gs w wr

theorem Own.ao {B e : Nat} {w : World} {v : Value} {xs : List Nat} (h : Own B e w v xs) : ∃ ao cap, v = .slice ao xs.length cap ∧ (0 < xs.length → ∃ g, ao = some ⟨g, 0, none⟩) ∧ xs.length ≤ cap ∧ cap ≤ 9223372036854775807 := by
  rcases h.shape with ⟨rfl, rfl⟩ | ⟨g, cap, rfl, h1, h2⟩
  · exact ⟨none, 0, rfl, fun h => by simp at h, by simp, by omega⟩
  · exact ⟨_, cap, rfl, fun _ => ⟨g, rfl⟩, h1, h2⟩

theorem St3.value {B gb i k : Nat} {gs : List Value} {len : Nat → Nat} {w wr : World} (h : St3 B gb gs len w i k wr) (hi : i < gs.length) : ∃ ao cap, at_ gs i = .slice ao (len i) cap ∧ (0 < len i → ∃ g, ao = some ⟨g, 0, none⟩) ∧ len i ≤ cap ∧ cap ≤ 9223372036854775807 := by
  obtain ⟨ys, hf, hl, _⟩ := h
  rw [← hl i hi]
  exact (hf i hi).ao

theorem cell_gs {w : World} {gb e : Nat} {gs : List Value} (h : w.heap[gb]? = some (.cells gs.toArray e (0, 0))) {i : Nat} (hi : i < gs.length) : w.cell? ⟨gb, i, none⟩ = some (at_ gs i) := by
  rw [cell_of_row w gb i _ e _ h]
  simp [at_, hi]

theorem St3.got {B gb i k : Nat} {gs : List Value} {len : Nat → Nat} {w wr : World} (h : St3 B gb gs len w i k wr) (hi : i < gs.length) : wr.cell? ⟨gb, i, none⟩ = some (at_ gs i) := by
  obtain ⟨ys, _, _, _, _, h, _⟩ := h
  exact cell_gs h hi

theorem St3.cell {B gb i k g cap : Nat} {gs : List Value} {len : Nat → Nat} {w wr : World} (h : St3 B gb gs len w i k wr) (hi : i < gs.length) (hv : at_ gs i = .slice (some ⟨g, 0, none⟩) (len i) cap) (hk : k < len i) :
    (∃ x : Nat, wr.cell? ⟨g, k, none⟩ = some (.int .u32 (x : Int))) ∧ wr.frozen? ⟨g, k, none⟩ = false := by
  obtain ⟨ys, hf, hl, _⟩ := h
  have := hf i hi
  rw [hv] at this
  have := this.cell (k := k) (by rw [hl i hi]; exact hk)
  exact ⟨⟨_, this.1⟩, this.2⟩

theorem getD_set_self (l : List Nat) (k x : Nat) (h : k < l.length) : (l.set k x).getD k 0 = x := by simp [List.getD, h]
theorem getD_set_ne (l : List Nat) (k q x : Nat) (h : q ≠ k) : (l.set k x).getD q 0 = l.getD q 0 := by
  simp only [List.getD_eq_getElem?_getD]
  rw [List.getElem?_set_ne (by omega)]

theorem St3.step {B gb i k g cap : Nat} {gs : List Value} {len : Nat → Nat} {w wr : World} (h : St3 B gb gs len w i k wr) (hd : Dist gs) (hi : i < gs.length) (hv : at_ gs i = .slice (some ⟨g, 0, none⟩) (len i) cap) (hk : k < len i) (hm : i < 1000) :
    St3 B gb gs len w i (k + 1) (wr.setCell ⟨g, k, none⟩ (.int .u32 (1000 + (i : Int)))) := by
  obtain ⟨ys, hf, hl, h1, h2, h3, h4⟩ := h
  have hU : (.int .u32 (1000 + (i : Int)) : Value) = U (1000 + i) := by simp [U]
  rw [hU]
  have ho := hf i hi
  rw [hv] at ho
  obtain ⟨_, _, cur, hh, _⟩ := ho.heap
  refine ⟨upd ys i ((ys i).set k (1000 + i)), hf.set hd hi hv (hl i hi) k (1000 + i) (by omega), ?_, ?_, ?_, row_other h3 hh (by decide), h4.setCell (Or.inl ⟨i, hi, by rw [hv]; rfl⟩) _⟩
  · intro j hj
    unfold upd
    by_cases hji : j = i
    · subst hji; rw [if_pos rfl, List.length_set]; exact hl j hj
    · rw [if_neg hji]; exact hl j hj
  · intro j hj
    unfold upd
    rw [if_neg (by omega)]
    exact h1 j hj
  · intro q hq
    unfold upd
    rw [if_pos rfl]
    by_cases hqk : q = k
    · subst hqk; exact getD_set_self _ _ _ (by rw [hl i hi]; exact hk)
    · rw [getD_set_ne _ _ _ _ hqk]; exact h2 q (by omega)

theorem St3.done {B gb i : Nat} {gs : List Value} {len : Nat → Nat} {w wr : World} (h : St3 B gb gs len w i (len i) wr) (hi : i < gs.length) : St3 B gb gs len w (i + 1) 0 wr := by
  obtain ⟨ys, hf, hl, h1, h2, h3, h4⟩ := h
  refine ⟨ys, hf, hl, fun j hj => ?_, fun q hq => by omega, h3, h4⟩
  by_cases hji : j = i
  · subst hji; exact eq_replicate (hl j hi) h2
  · exact h1 j (by omega)
end Go.Proofs.YtnehfkbpbgmbaaaGreatDoor
