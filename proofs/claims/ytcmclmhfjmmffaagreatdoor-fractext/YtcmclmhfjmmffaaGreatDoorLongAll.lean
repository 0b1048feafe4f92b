/-
  Proved here: plain facts on several rows of a call's own that lie apart.
  Proved here: what stays as it was while numbers are gone on with, one by one.
-/
import Derived.Test.YtcmclmhfjmmffaaGreatDoorPushAll
namespace Go.Proofs.YtcmclmhfjmmffaaGreatDoor
open Go.RowKit

def at_ (l : List Value) (i : Nat) : Value := l.getD i (.slice none 0 0)
/-- Each of some values owns its limbs. -/
def Fam (B : Nat) (w : World) (gs : List Value) (ys : Nat → List Nat) : Prop := ∀ j, j < gs.length → Own B 69 w (at_ gs j) (ys j)
/-- No two of them lie in one row. -/
def Dist (gs : List Value) : Prop := ∀ i j, i < gs.length → j < gs.length → i ≠ j → (at_ gs i).ownBlock = none ∨ (at_ gs i).ownBlock ≠ (at_ gs j).ownBlock
def upd (ys : Nat → List Nat) (i : Nat) (l : List Nat) : Nat → List Nat := fun j => if j = i then l else ys j

theorem limbs_set {xs : List Nat} (h : limbs xs) (k x : Nat) (hx : x < 4294967296) : limbs (xs.set k x) := fun y hy => by
  rcases List.mem_or_eq_of_mem_set hy with h' | h'
  · exact h y h'
  · omega

theorem Own.set {B e g n cap : Nat} {w : World} {xs : List Nat} (h : Own B e w (.slice (some ⟨g, 0, none⟩) n cap) xs) (hn : xs.length = n) (k x : Nat) (hx : x < 4294967296) :
    Own B e (w.setCell ⟨g, k, none⟩ (U x)) (.slice (some ⟨g, 0, none⟩) n cap) (xs.set k x) := by
  subst hn
  refine ⟨limbs_set h.1 k x hx, ?_⟩
  have := (World.ownsRow.stored h.2 k (U x)).1
  rw [List.length_set, List.map_set]
  exact this

theorem Own.other {B e : Nat} {w : World} {v : Value} {xs : List Nat} (h : Own B e w v xs) {g k : Nat} (u : Value) (hne : v.ownBlock = none ∨ v.ownBlock ≠ some g) : Own B e (w.setCell ⟨g, k, none⟩ u) v xs := by
  obtain ⟨h0, h1, h2⟩ := h
  refine ⟨h0, h1, ?_⟩
  rcases h2 with h2 | ⟨g', cap, cur, rfl, h3, h4, h5⟩
  · exact Or.inl h2
  · refine Or.inr ⟨g', cap, cur, rfl, h3, ?_, h5⟩
    rw [heap_setCell_other]
    · exact h4
    · simp [Value.ownBlock] at hne
      exact hne

theorem Fam.set {B : Nat} {w : World} {gs : List Value} {ys : Nat → List Nat} (h : Fam B w gs ys) (hd : Dist gs) {i g n cap : Nat} (hi : i < gs.length) (hv : at_ gs i = .slice (some ⟨g, 0, none⟩) n cap) (hn : (ys i).length = n) (k x : Nat) (hx : x < 4294967296) :
    Fam B (w.setCell ⟨g, k, none⟩ (U x)) gs (upd ys i ((ys i).set k x)) := fun j hj => by
  unfold upd
  by_cases hji : j = i
  · subst hji
    rw [if_pos rfl, hv]
    have := h j hj
    rw [hv] at this
    exact this.set hn k x hx
  · rw [if_neg hji]
    refine (h j hj).other (U x) ?_
    have := hd j i hj hi hji
    rw [hv] at this
    exact this

/-- The row of an Own value is there, of its element type. -/
theorem Own.heap {B e g n cap : Nat} {w : World} {xs : List Nat} (h : Own B e w (.slice (some ⟨g, 0, none⟩) n cap) xs) : B ≤ g ∧ n = xs.length ∧ ∃ cur, w.heap[g]? = some (.cells cur e (0, 0)) ∧ xs.length ≤ cap ∧ cur.size = cap ∧ cur.toList.take xs.length = xs.map U := by
  rcases h.2.2 with ⟨h, _⟩ | ⟨g', cap', cur, h1, h3, h4, h5, h6, h7, h8⟩
  · simp at h
  · simp only [Value.slice.injEq, Option.some.injEq, Addr.mk.injEq, and_true] at h1
    obtain ⟨rfl, rfl, rfl⟩ := h1
    exact ⟨h3, rfl, cur, h4, h5, by simpa using h7, by simpa using h8⟩

theorem Own.shape {B e : Nat} {w : World} {v : Value} {xs : List Nat} (h : Own B e w v xs) : (v = .slice none 0 0 ∧ xs = []) ∨ ∃ g cap, v = .slice (some ⟨g, 0, none⟩) xs.length cap ∧ xs.length ≤ cap ∧ cap ≤ 9223372036854775807 := by
  rcases h.2.2 with ⟨h1, h2⟩ | ⟨g', cap', cur, h1, h3, h4, h5, h6, h7, h8⟩
  · exact Or.inl ⟨h1, List.eq_nil_of_length_eq_zero h2⟩
  · exact Or.inr ⟨g', cap', h1, h5, h6⟩

theorem Own.cell {B e g n cap : Nat} {w : World} {xs : List Nat} (h : Own B e w (.slice (some ⟨g, 0, none⟩) n cap) xs) {k : Nat} (hk : k < xs.length) : w.cell? ⟨g, k, none⟩ = some (.int .u32 ((xs.getD k 0 : Nat) : Int)) ∧ w.frozen? ⟨g, k, none⟩ = false := by
  obtain ⟨_, hn, cur, h1, h2, h3, h4⟩ := h.heap
  refine ⟨?_, frozen_of_row w g k cur e h1⟩
  rw [cell_of_row w g k cur e _ h1]
  have h5 : cur.toList[k]? = (xs.map U)[k]? := by rw [← h4, List.getElem?_take_of_lt hk]
  rw [Array.getElem?_toList] at h5
  rw [h5, List.getElem?_map, List.getElem?_eq_getElem hk, List.getD_eq_getElem?_getD, List.getElem?_eq_getElem hk]
  rfl

/-- A row of headers stays where a limb's row is written. -/
theorem row_other {w : World} {gb g k e e' : Nat} {cs cur : Array Value} {u : Value} (h : w.heap[gb]? = some (.cells cs e (0, 0))) (h' : w.heap[g]? = some (.cells cur e' (0, 0))) (hne : e ≠ e') : (w.setCell ⟨g, k, none⟩ u).heap[gb]? = some (.cells cs e (0, 0)) := by
  rw [heap_setCell_other]
  · exact h
  · intro he
    simp only at he
    subst he
    rw [h] at h'
    simp only [Option.some.injEq, Obj.cells.injEq, and_true] at h'
    exact hne h'.2

theorem eq_replicate {l : List Nat} {n x : Nat} (hl : l.length = n) (h : ∀ q, q < n → l.getD q 0 = x) : l = List.replicate n x := by
  apply List.ext_getElem
  · simp [hl]
  · intro q h1 h2
    have := h q (by omega)
    rw [List.getD_eq_getElem?_getD, List.getElem?_eq_getElem h1] at this
    simpa using this

/-- All that was there is as it was, but for the rows of some values. -/
structure Bex (gs : List Value) (w w' : World) : Prop where
  os : w'.os = w.os
  tape : w'.tape = w.tape
  output : w'.output = w.output
  size : w.heap.size ≤ w'.heap.size
  block : ∀ k, k < w.heap.size → (∀ j, j < gs.length → (at_ gs j).ownBlock ≠ some k) → w'.heap[k]? = w.heap[k]?
/-- A row that may be written. -/
def May (gs : List Value) (w : World) (k : Nat) : Prop := (∃ j, j < gs.length ∧ (at_ gs j).ownBlock = some k) ∨ w.heap.size ≤ k
theorem Bex.same {gs : List Value} {w w' : World} (h : Below w.heap.size w w') : Bex gs w w' := ⟨h.os, h.tape, h.output, h.size, fun k hk _ => h.block k hk⟩
theorem Bex.alloc {gs : List Value} {w w' : World} (h : Bex gs w w') (o : Obj) : Bex gs w (w'.alloc o) :=
  ⟨h.os, h.tape, h.output, by simp; have := h.size; omega, fun k hk hj => by rw [Below.heap_alloc _ _ _ (Nat.lt_of_lt_of_le hk h.size)]; exact h.block k hk hj⟩
theorem Bex.setCell {gs : List Value} {w w' : World} (h : Bex gs w w') {p : Addr} (hp : May gs w p.block) (u : Value) : Bex gs w (w'.setCell p u) :=
  ⟨h.os, h.tape, h.output, by simp [World.setCell]; exact h.size, fun k hk hj => by
    rw [heap_setCell_other]
    · exact h.block k hk hj
    · intro e
      rcases hp with ⟨j, h1, h2⟩ | h2
      · exact hj j h1 (by rw [h2, e])
      · omega⟩
theorem Bex.grown {gs : List Value} {w wr w' : World} {row : Option Nat} (h : Bex gs w wr) (hg : wr.grownBy w' row) (hr : ∀ k, row = some k → May gs w k) : Bex gs w w' :=
  ⟨hg.os.trans h.os, hg.tape.trans h.tape, hg.output.trans h.output, Nat.le_trans h.size hg.size, fun k hk hj => by
    rw [hg.block k (Nat.lt_of_lt_of_le hk h.size) (fun e => ?_)]
    · exact h.block k hk hj
    · rcases hr k e.symm with ⟨j, h1, h2⟩ | h2
      · exact hj j h1 h2
      · omega⟩
theorem Bex.below {B : Nat} {gs : List Value} {w w' : World} (h : Bex gs w w') (hB : B ≤ w.heap.size) (hgs : ∀ j k, j < gs.length → (at_ gs j).ownBlock = some k → B ≤ k) : Below B w w' :=
  ⟨h.os, h.tape, h.output, h.size, fun k hk => h.block k (by omega) (fun j hj e => by have := hgs j k hj e; omega)⟩
theorem Own.bex {B e : Nat} {gs : List Value} {w w' : World} {v : Value} {xs : List Nat} (h : Own B e w v xs) (hb : Bex gs w w') (hd : ∀ j, j < gs.length → (at_ gs j).ownBlock = none ∨ (at_ gs j).ownBlock ≠ v.ownBlock) : Own B e w' v xs := by
  obtain ⟨h0, h1, h2⟩ := h
  refine ⟨h0, h1, ?_⟩
  rcases h2 with h2 | ⟨g, cap, cur, rfl, h3, h4, h5⟩
  · exact Or.inl h2
  · refine Or.inr ⟨g, cap, cur, rfl, h3, ?_, h5⟩
    rw [hb.block g (Array.getElem?_eq_some_iff.1 h4).1 (fun j hj e => ?_)]
    · exact h4
    · rcases hd j hj with h | h
      · rw [h] at e; simp at e
      · exact h (by rw [e]; rfl)

/-- Where the marks are written: i numbers are full of them, and the first k limbs of the next one. -/
def St3 (B gb : Nat) (gs : List Value) (len : Nat → Nat) (w : World) (i k : Nat) (wr : World) : Prop :=
  ∃ ys, Fam B wr gs ys ∧ (∀ j, j < gs.length → (ys j).length = len j) ∧ (∀ j, j < i → ys j = List.replicate (len j) (1000 + j)) ∧ (∀ q, q < k → (ys i).getD q 0 = 1000 + i) ∧
    wr.heap[gb]? = some (.cells gs.toArray 23 (0, 0)) ∧ Bex gs w wr

theorem Own.ao {B e : Nat} {w : World} {v : Value} {xs : List Nat} (h : Own B e w v xs) : ∃ ao cap, v = .slice ao xs.length cap ∧ (0 < xs.length → ∃ g, ao = some ⟨g, 0, none⟩) ∧ xs.length ≤ cap ∧ cap ≤ 9223372036854775807 := by
  rcases h.shape with ⟨rfl, rfl⟩ | ⟨g, cap, rfl, h1, h2⟩
  · exact ⟨none, 0, rfl, fun h => by simp at h, by simp, by omega⟩
  · exact ⟨_, cap, rfl, fun _ => ⟨g, rfl⟩, h1, h2⟩

theorem St3.value {B gb i k : Nat} {gs : List Value} {len : Nat → Nat} {w wr : World} (h : St3 B gb gs len w i k wr) (hi : i < gs.length) : ∃ ao cap, at_ gs i = .slice ao (len i) cap ∧ (0 < len i → ∃ g, ao = some ⟨g, 0, none⟩) ∧ len i ≤ cap ∧ cap ≤ 9223372036854775807 := by
  obtain ⟨ys, hf, hl, _⟩ := h
  rw [← hl i hi]
  exact (hf i hi).ao

theorem cell_gs {w : World} {gb e : Nat} {gs : List Value} (h : w.heap[gb]? = some (.cells gs.toArray e (0, 0))) {i : Nat} (hi : i < gs.length) : w.cell? ⟨gb, i, none⟩ = some (at_ gs i) := by
  rw [cell_of_row w gb i _ e _ h]
  simp [at_, hi]

theorem St3.got {B gb i k : Nat} {gs : List Value} {len : Nat → Nat} {w wr : World} (h : St3 B gb gs len w i k wr) (hi : i < gs.length) : wr.cell? ⟨gb, i, none⟩ = some (at_ gs i) := by
  obtain ⟨ys, _, _, _, _, h, _⟩ := h
  exact cell_gs h hi

theorem St3.cell {B gb i k g cap : Nat} {gs : List Value} {len : Nat → Nat} {w wr : World} (h : St3 B gb gs len w i k wr) (hi : i < gs.length) (hv : at_ gs i = .slice (some ⟨g, 0, none⟩) (len i) cap) (hk : k < len i) :
    (∃ x : Nat, wr.cell? ⟨g, k, none⟩ = some (.int .u32 (x : Int))) ∧ wr.frozen? ⟨g, k, none⟩ = false := by
  obtain ⟨ys, hf, hl, _⟩ := h
  have := hf i hi
  rw [hv] at this
  have := this.cell (k := k) (by rw [hl i hi]; exact hk)
  exact ⟨⟨_, this.1⟩, this.2⟩

theorem getD_set_self (l : List Nat) (k x : Nat) (h : k < l.length) : (l.set k x).getD k 0 = x := by simp [List.getD, h]
theorem getD_set_ne (l : List Nat) (k q x : Nat) (h : q ≠ k) : (l.set k x).getD q 0 = l.getD q 0 := by
  simp only [List.getD_eq_getElem?_getD]
  rw [List.getElem?_set_ne (by omega)]

theorem St3.step {B gb i k g cap : Nat} {gs : List Value} {len : Nat → Nat} {w wr : World} (h : St3 B gb gs len w i k wr) (hd : Dist gs) (hi : i < gs.length) (hv : at_ gs i = .slice (some ⟨g, 0, none⟩) (len i) cap) (hk : k < len i) (hm : i < 1000) :
    St3 B gb gs len w i (k + 1) (wr.setCell ⟨g, k, none⟩ (.int .u32 (1000 + (i : Int)))) := by
  obtain ⟨ys, hf, hl, h1, h2, h3, h4⟩ := h
  have hU : (.int .u32 (1000 + (i : Int)) : Value) = U (1000 + i) := by simp [U]
  rw [hU]
  have ho := hf i hi
  rw [hv] at ho
  obtain ⟨_, _, cur, hh, _⟩ := ho.heap
  refine ⟨upd ys i ((ys i).set k (1000 + i)), hf.set hd hi hv (hl i hi) k (1000 + i) (by omega), ?_, ?_, ?_, row_other h3 hh (by decide), h4.setCell (Or.inl ⟨i, hi, by rw [hv]; rfl⟩) _⟩
  · intro j hj
    unfold upd
    by_cases hji : j = i
    · subst hji; rw [if_pos rfl, List.length_set]; exact hl j hj
    · rw [if_neg hji]; exact hl j hj
  · intro j hj
    unfold upd
    rw [if_neg (by omega)]
    exact h1 j hj
  · intro q hq
    unfold upd
    rw [if_pos rfl]
    by_cases hqk : q = k
    · subst hqk; exact getD_set_self _ _ _ (by rw [hl i hi]; exact hk)
    · rw [getD_set_ne _ _ _ _ hqk]; exact h2 q (by omega)

theorem St3.done {B gb i : Nat} {gs : List Value} {len : Nat → Nat} {w wr : World} (h : St3 B gb gs len w i (len i) wr) (hi : i < gs.length) : St3 B gb gs len w (i + 1) 0 wr := by
  obtain ⟨ys, hf, hl, h1, h2, h3, h4⟩ := h
  refine ⟨ys, hf, hl, fun j hj => ?_, fun q hq => by omega, h3, h4⟩
  by_cases hji : j = i
  · subst hji; exact eq_replicate (hl j hi) h2
  · exact h1 j (by omega)
end Go.Proofs.YtcmclmhfjmmffaaGreatDoor

namespace Go.Proofs.YtcmclmhfjmmffaaGreatDoor
open Go.RowKit

def marks (len : Nat → Nat) (j : Nat) : List Nat := List.replicate (len j) (1000 + j)
def tailed (len : Nat → Nat) (j k : Nat) : List Nat := marks len j ++ List.replicate k (2000 + j)
theorem marks_len (len : Nat → Nat) (j : Nat) : (marks len j).length = len j := by simp [marks]
theorem tailed_len (len : Nat → Nat) (j k : Nat) : (tailed len j k).length = len j + k := by simp [tailed, marks]
theorem tailed_zero (len : Nat → Nat) (j : Nat) : tailed len j 0 = marks len j := by simp [tailed]
theorem tailed_succ (len : Nat → Nat) (j k : Nat) : tailed len j (k + 1) = tailed len j k ++ [2000 + j] := by
  simp only [tailed, List.append_assoc, List.replicate_succ']
theorem tailed_lo (len : Nat → Nat) (j k q : Nat) (h : q < len j) : (tailed len j k).getD q 0 = 1000 + j := by
  rw [List.getD_eq_getElem?_getD, tailed, List.getElem?_append_left (by rw [marks_len]; exact h), marks, List.getElem?_replicate, if_pos h]; rfl
theorem tailed_hi (len : Nat → Nat) (j k q : Nat) (h : len j ≤ q) (h2 : q < len j + k) : (tailed len j k).getD q 0 = 2000 + j := by
  rw [List.getD_eq_getElem?_getD, tailed, List.getElem?_append_right (by rw [marks_len]; exact h), marks_len, List.getElem?_replicate, if_pos (by omega)]; rfl
theorem marks_at (len : Nat → Nat) (j q : Nat) (h : q < len j) : (marks len j).getD q 0 = 1000 + j := by rw [← tailed_zero]; exact tailed_lo len j 0 q h

theorem own_types {w : World} {b b' e e' k k' : Nat} {u u' : Value} {ys ys' : List Value} (h : w.ownsRow b e 1 u k ys) (h' : w.ownsRow b' e' 1 u' k' ys') (hne : e ≠ e') : u.ownBlock = none ∨ u.ownBlock ≠ u'.ownBlock := by
  rcases h.2 with ⟨rfl, _⟩ | ⟨g, cap, cur, rfl, _, hh, _⟩
  · exact Or.inl rfl
  · right
    rcases h'.2 with ⟨rfl, _⟩ | ⟨g', cap', cur', rfl, _, hh', _⟩
    · simp [Value.ownBlock]
    · simp only [Value.ownBlock, ne_eq, Option.some.injEq]
      intro he
      subst he
      rw [hh] at hh'
      simp only [Option.some.injEq, Obj.cells.injEq, and_true] at hh'
      exact hne hh'.2
theorem own_none {w : World} {b e k : Nat} {u : Value} {ys : List Value} (h : w.ownsRow b e 1 u k ys) (hn : u.ownBlock = none) : k = 0 := by
  rcases h.2 with ⟨_, h0⟩ | ⟨g, cap, cur, rfl, _⟩
  · exact h0
  · simp [Value.ownBlock] at hn
/-- Of two rows that are apart the one is not the other; or it is nil. -/
theorem short_of {w : World} {b e k n : Nat} {u v : Value} {ys : List Value} (h : w.ownsRow b e 1 u k ys) (hd : v.ownBlock = none ∨ v.ownBlock ≠ u.ownBlock) (he : u.ownBlock = v.ownBlock) : k ≤ n := by
  rcases hd with hd | hd
  · have := own_none h (by rw [he, hd]); omega
  · exact absurd he.symm hd
theorem apart_symm {u v : Value} (h : u.ownBlock = none ∨ u.ownBlock ≠ v.ownBlock) : v.ownBlock = none ∨ v.ownBlock ≠ u.ownBlock := by
  rcases hv : v.ownBlock with _ | g
  · exact Or.inl rfl
  · right
    rcases h with h | h
    · rw [h]; simp
    · rw [hv] at h; exact fun e => h e.symm

structure Cst (B gb m : Nat) (gs : List Value) (len : Nat → Nat) (w : World) (i : Nat) (ls : List Value) (long : Value) (wr : World) : Prop where
  fam : Fam B wr gs (marks len)
  got : wr.ownsRow B 23 1 (.slice (some ⟨gb, 0, none⟩) m m) m gs
  bel : Bex gs w wr
  ll : ls.length = i
  lo : wr.ownsRow B 23 1 long i ls
  lso : ∀ j, j < i → Own B 69 wr (at_ ls j) (tailed len j 9)
  lsd : ∀ j, j < i → ∀ j', j' < gs.length → j' ≠ j → (at_ ls j).ownBlock = none ∨ (at_ ls j).ownBlock ≠ (at_ gs j').ownBlock
  lg : long.ownBlock ≠ some gb
  ln : ∀ k, long.ownBlock = some k → w.heap.size ≤ k

theorem Cst.keep {B gb m : Nat} {gs : List Value} {len : Nat → Nat} {w : World} {i : Nat} {ls : List Value} {long : Value} {wr w' : World} (h : Cst B gb m gs len w i ls long wr) {v : Value} {n : Nat} (hk : Keeps wr w' v n) (hb : Bex gs w w')
    (h1 : ∀ j, j < gs.length → (at_ gs j).ownBlock = v.ownBlock → len j ≤ n) (h2 : some gb ≠ v.ownBlock) (h3 : long.ownBlock = v.ownBlock → i ≤ n) (h4 : ∀ j, j < i → (at_ ls j).ownBlock = v.ownBlock → len j + 9 ≤ n) :
    Cst B gb m gs len w i ls long w' := by
  refine ⟨fun j hj => ⟨(h.fam j hj).1, hk _ _ _ _ _ (h.fam j hj).2 (by rw [marks_len]; exact h1 j hj)⟩, hk _ _ _ _ _ h.got (fun e => absurd e h2), hb, h.ll, hk _ _ _ _ _ h.lo h3, fun j hj => ⟨(h.lso j hj).1, hk _ _ _ _ _ (h.lso j hj).2 (by rw [tailed_len]; exact h4 j hj)⟩, h.lsd, h.lg, h.ln⟩

theorem Cst.alloc {B gb m : Nat} {gs : List Value} {len : Nat → Nat} {w : World} {i : Nat} {ls : List Value} {long : Value} {wr : World} (h : Cst B gb m gs len w i ls long wr) (o : Obj) :
    Cst B gb m gs len w i ls long (wr.alloc o) :=
  ⟨fun j hj => ⟨(h.fam j hj).1, (h.fam j hj).2.alloc o⟩, h.got.alloc o, h.bel.alloc o, h.ll, h.lo.alloc o, fun j hj => ⟨(h.lso j hj).1, (h.lso j hj).2.alloc o⟩, h.lsd, h.lg, h.ln⟩

/-- The number that is gone on with. -/
structure Vst (B : Nat) (gs : List Value) (len : Nat → Nat) (w : World) (i k : Nat) (ls : List Value) (v : Value) (wr : World) : Prop where
  vo : Own B 69 wr v (tailed len i k)
  vg : ∀ j, j < gs.length → j ≠ i → v.ownBlock = none ∨ v.ownBlock ≠ (at_ gs j).ownBlock
  vl : ∀ j, j < i → v.ownBlock = none ∨ v.ownBlock ≠ (at_ ls j).ownBlock
  vm : ∀ k, v.ownBlock = some k → May gs w k

theorem below_of_grown {B : Nat} {w w' : World} {v : Value} (hg : w.grownBy w' v.ownBlock) (hB : B ≤ w.heap.size) (hv : ∀ k, v.ownBlock = some k → B ≤ k) : Below B w w' := (Below.refl B w).grown hg hB hv

theorem push_step {B gb m : Nat} {gs : List Value} {len : Nat → Nat} {w : World} {i k : Nat} {ls : List Value} {long v v' : Value} {wr w' : World} {o : Obj} (h : Cst B gb m gs len w i ls long wr) (hv : Vst B gs len w i k ls v wr) (hB : B ≤ wr.heap.size) (hi : i < 1000)
    (ho : w'.ownsRow B 69 1 v' (len i + k + 1) ((tailed len i k).map U ++ [.int .u32 (2000 + (i : Int))])) (hg : (wr.alloc o).grownBy w' v.ownBlock) (hk : Keeps (wr.alloc o) w' v (len i + k))
    (hb : v'.ownBlock = v.ownBlock ∨ ∀ g, v'.ownBlock = some g → wr.heap.size + 1 ≤ g) :
    Cst B gb m gs len w i ls long w' ∧ Vst B gs len w i (k + 1) ls v' w' ∧ B ≤ w'.heap.size := by
  have hsz : (wr.alloc o).heap.size = wr.heap.size + 1 := by simp
  have hB1 : B ≤ (wr.alloc o).heap.size := by omega
  have h1 := h.alloc o
  have hvo1 : Own B 69 (wr.alloc o) v (tailed len i k) := ⟨hv.vo.1, hv.vo.2.alloc o⟩
  have hbel : Bex gs w w' := h1.bel.grown hg hv.vm
  refine ⟨h1.keep hk hbel ?_ ?_ ?_ ?_, ⟨⟨?_, ?_⟩, ?_, ?_, ?_⟩, Nat.le_trans hB1 hg.size⟩
  · intro j hj he
    by_cases hji : j = i
    · subst hji; omega
    · have := short_of (n := len i + k) (h1.fam j hj).2 (hv.vg j hj hji) he
      rw [marks_len] at this; exact this
  · have := own_types h1.got hvo1.2 (by decide)
    simp only [Value.ownBlock] at this
    rcases this with h | h
    · simp at h
    · exact h
  · intro he
    rcases own_types h1.lo hvo1.2 (by decide) with h | h
    · have := own_none h1.lo h; omega
    · exact absurd he h
  · intro j hj he
    have := short_of (n := len i + k) (h1.lso j hj).2 (hv.vl j hj) he
    rw [tailed_len] at this; exact this
  · rw [tailed_succ]
    intro x hx
    rcases List.mem_append.1 hx with hx | hx
    · exact hv.vo.1 x hx
    · simp at hx; omega
  · rw [tailed_len, tailed_succ, List.map_append]
    have hU : [(.int .u32 (2000 + (i : Int)) : Value)] = List.map U [2000 + i] := by simp [U]
    rw [← hU]
    exact ho
  · intro j hj hji
    rcases hb with hb | hb
    · rw [hb]; exact hv.vg j hj hji
    · rcases hg' : v'.ownBlock with _ | g
      · exact Or.inl rfl
      · right
        have h5 := hb g hg'
        rcases hj' : (at_ gs j).ownBlock with _ | g2
        · simp
        · have := ((h1.fam j hj).block g2 hj').2
          simp only [ne_eq, Option.some.injEq]; omega
  · intro j hj
    rcases hb with hb | hb
    · rw [hb]; exact hv.vl j hj
    · rcases hg' : v'.ownBlock with _ | g
      · exact Or.inl rfl
      · right
        have h5 := hb g hg'
        rcases hj' : (at_ ls j).ownBlock with _ | g2
        · simp
        · have := ((h1.lso j hj).block g2 hj').2
          simp only [ne_eq, Option.some.injEq]; omega
  · intro g hg'
    rcases hb with hb | hb
    · exact hv.vm g (by rw [← hb]; exact hg')
    · have h5 := hb g hg'
      have h6 := h.bel.size
      exact Or.inr (by omega)

theorem at_snoc_lt {ls : List Value} {v : Value} {i j : Nat} (hl : ls.length = i) (hj : j < i) : at_ (ls ++ [v]) j = at_ ls j := by
  unfold at_
  rw [List.getD_eq_getElem?_getD, List.getD_eq_getElem?_getD, List.getElem?_append_left (by omega)]
theorem at_snoc_eq {ls : List Value} {v : Value} {i : Nat} (hl : ls.length = i) : at_ (ls ++ [v]) i = v := by
  unfold at_
  rw [List.getD_eq_getElem?_getD, List.getElem?_append_right (by omega)]
  simp [hl]

theorem long_step {B gb m : Nat} {gs : List Value} {len : Nat → Nat} {w : World} {i : Nat} {ls : List Value} {long v long' : Value} {wr w' : World} {o : Obj} (h : Cst B gb m gs len w i ls long wr) (hv : Vst B gs len w i 9 ls v wr) (hB : B ≤ wr.heap.size)
    (ho : w'.ownsRow B 23 1 long' (i + 1) (ls ++ [v])) (hg : (wr.alloc o).grownBy w' long.ownBlock) (hk : Keeps (wr.alloc o) w' long i)
    (hb : long'.ownBlock = long.ownBlock ∨ ∀ g, long'.ownBlock = some g → wr.heap.size + 1 ≤ g) :
    Cst B gb m gs len w (i + 1) (ls ++ [v]) long' w' ∧ B ≤ w'.heap.size := by
  have hsz : (wr.alloc o).heap.size = wr.heap.size + 1 := by simp
  have hB1 : B ≤ (wr.alloc o).heap.size := by omega
  have h1 := h.alloc o
  have hvo1 : Own B 69 (wr.alloc o) v (tailed len i 9) := ⟨hv.vo.1, hv.vo.2.alloc o⟩
  have hbel : Bex gs w w' := h1.bel.grown hg (fun g e => Or.inr (h.ln g e))
  have typ : ∀ u xs, Own B 69 (wr.alloc o) u xs → Own B 69 w' u xs := fun u xs hu => ⟨hu.1, hk _ _ _ _ _ hu.2 (fun he => by
    rcases own_types hu.2 h1.lo (by decide) with h | h
    · have := own_none hu.2 h; omega
    · exact absurd he h)⟩
  refine ⟨⟨fun j hj => typ _ _ (h1.fam j hj), hk _ _ _ _ _ h1.got (fun e => absurd e.symm (by simpa [Value.ownBlock] using h1.lg)), hbel, by rw [List.length_append, h.ll]; rfl, ho, ?_, ?_, ?_, ?_⟩, Nat.le_trans hB1 hg.size⟩
  · intro j hj
    by_cases hji : j = i
    · subst hji; rw [at_snoc_eq h.ll]; exact typ _ _ hvo1
    · rw [at_snoc_lt h.ll (by omega)]; exact typ _ _ (h1.lso j (by omega))
  · intro j hj j' hj' hne
    by_cases hji : j = i
    · subst hji; rw [at_snoc_eq h.ll]; exact hv.vg j' hj' hne
    · rw [at_snoc_lt h.ll (by omega)]; exact h.lsd j (by omega) j' hj' hne
  · rcases hb with hb | hb
    · rw [hb]; exact h.lg
    · intro e
      have h5 := hb gb e
      have := World.ownsRow.lt h1.got gb rfl
      omega
  · intro g e
    rcases hb with hb | hb
    · exact h.ln g (by rw [← hb]; exact e)
    · have h5 := hb g e
      have h6 := h.bel.size
      omega

theorem vst_start {B gb m : Nat} {gs : List Value} {len : Nat → Nat} {w : World} {i : Nat} {ls : List Value} {long : Value} {wr : World} (h : Cst B gb m gs len w i ls long wr) (hd : Dist gs) (hi : i < gs.length) : Vst B gs len w i 0 ls (at_ gs i) wr :=
  ⟨by rw [tailed_zero]; exact h.fam i hi, fun j hj hne => hd i j hi hj (fun e => hne e.symm), fun j hj => apart_symm (h.lsd j hj i hi (by omega)), fun k hk => Or.inl ⟨i, hi, hk⟩⟩

theorem cst_start {B gb m : Nat} {gs : List Value} {len : Nat → Nat} {w wr : World} (hs : St3 B gb gs len w m 0 wr) (hm : gs.length = m) (hgb : B ≤ gb) (hmm : m ≤ 1000) : Cst B gb m gs len w 0 [] (.slice none 0 0) wr := by
  obtain ⟨ys, hf, hl, h1, h2, h3, h4⟩ := hs
  refine ⟨fun j hj => ?_, ⟨by simp [hm], Or.inr ⟨gb, m, gs.toArray, rfl, hgb, h3, Nat.le_refl _, by simp [maxLen]; omega, by simp [hm], by simp only [Nat.mul_one]; exact List.take_of_length_le (by omega)⟩⟩, h4, rfl, World.ownsRow_nil _ _ _ _, fun j hj => by omega, fun j hj => by omega, by simp [Value.ownBlock], fun k hk => by simp [Value.ownBlock] at hk⟩
  have := hf j hj
  rw [h1 j (by omega)] at this
  exact this

theorem Cst.gotCell {B gb m : Nat} {gs : List Value} {len : Nat → Nat} {w : World} {i : Nat} {ls : List Value} {long : Value} {wr : World} (h : Cst B gb m gs len w i ls long wr) (hm : gs.length = m) {j : Nat} (hj : j < m) : wr.cell? ⟨gb, j, none⟩ = some (at_ gs j) := by
  rw [World.ownsRow.cellAt h.got j (by simpa using hj)]
  rw [List.getElem?_eq_getElem (by omega)]
  simp [at_, hm, hj]
theorem Cst.longShape {B gb m : Nat} {gs : List Value} {len : Nat → Nat} {w : World} {i : Nat} {ls : List Value} {long : Value} {wr : World} (h : Cst B gb m gs len w i ls long wr) : ∃ ao cap, long = .slice ao i cap ∧ i ≤ cap ∧ cap ≤ 9223372036854775807 ∧ (∀ j, j < i → ∃ lb, ao = some ⟨lb, 0, none⟩ ∧ wr.cell? ⟨lb, j, none⟩ = some (at_ ls j)) := by
  have hlo := h.lo
  rcases h.lo.2 with ⟨rfl, h0⟩ | ⟨g, cap, cur, rfl, h3, h4, h5, h6, h7, h8⟩
  · exact ⟨none, 0, by rw [h0], by omega, by omega, fun j hj => by omega⟩
  · refine ⟨_, cap, rfl, h5, h6, fun j hj => ⟨g, rfl, ?_⟩⟩
    rw [World.ownsRow.cellAt hlo j (by simpa using hj), List.getElem?_eq_getElem (by have := h.ll; omega)]
    simp [at_, h.ll, hj]

theorem Own.alloc {B e : Nat} {w : World} {v : Value} {xs : List Nat} (h : Own B e w v xs) (o : Obj) : Own B e (w.alloc o) v xs := ⟨h.1, h.2.alloc o⟩
theorem Num.alloc {w : World} {v : Value} {xs : List Nat} (h : Num w v xs) (o : Obj) : Num (w.alloc o) v xs := h.below (Nat.le_refl _) ((Below.refl _ _).alloc (Nat.le_refl _) o)
/-- Two rows, the one made behind the other. -/
theorem apart_later {B B' e e' : Nat} {w w' : World} {u v : Value} {xs ys : List Nat} (h : Own B e w u xs) (h' : Own B' e' w' v ys) (hB : w.heap.size ≤ B') : u.ownBlock = none ∨ u.ownBlock ≠ v.ownBlock := by
  rcases hu : u.ownBlock with _ | g
  · exact Or.inl rfl
  · right
    rcases hv : v.ownBlock with _ | g'
    · simp
    · have := (h.block g hu).2
      have := (h'.block g' hv).1
      simp only [ne_eq, Option.some.injEq]; omega
end Go.Proofs.YtcmclmhfjmmffaaGreatDoor
