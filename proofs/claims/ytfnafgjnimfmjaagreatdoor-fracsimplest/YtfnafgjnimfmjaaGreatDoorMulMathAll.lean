/-
  Proved here: what an append to a row of the call's own keeps of the other rows. No condition but those of the given laws on append.
  Proved here: plain facts on several rows of a call's own that lie apart.
  Proved here: what stays as it was while numbers are gone on with, one by one.
  Proved here: what the small makers of numbers answer.
  Proved here: what Add answers.
  Proved here: what blend and Sub answer.
  Proved here: plain facts on a row of a product. No condition.
-/
import Derived.Test.YtfnafgjnimfmjaaGreatDoorTrimAll
import Derived.ArgAppend
import Derived.Laws.Bits64b
import Derived.Test.YtfnafgjnimfmjaaGreatDoorCmpAll
namespace Go.Proofs.YtfnafgjnimfmjaaGreatDoor
open Go.RowKit

/-- What is owned stays owned, where it lies elsewhere, or is no longer than n. -/
def Keeps (w w' : World) (v : Value) (n : Nat) : Prop := ∀ b e u k ys, w.ownsRow b e 1 u k ys → (u.ownBlock = v.ownBlock → k ≤ n) → w'.ownsRow b e 1 u k ys

theorem keeps_none {w w' : World} {v : Value} {n : Nat} (hg : w.grownBy w' none) : Keeps w w' v n := fun b e u k ys h _ => by
  rcases hu : u.ownBlock with _ | g
  · exact h.kept hg (Or.inl hu)
  · exact h.kept hg (Or.inr (by rw [hu]; simp))

theorem keeps_fits {w w' : World} {base e g n m cap : Nat} {xs news : List Value} (h : w.ownsRow base e 1 (.slice (some ⟨g, 0, none⟩) n cap) n xs)
    (h' : w'.ownsRow base e 1 (.slice (some ⟨g, 0, none⟩) (n + m) cap) (n + m) (xs ++ news)) (hg : w.grownBy w' (some g)) : Keeps w w' (.slice (some ⟨g, 0, none⟩) n cap) n := fun b e2 u k ys hu hk => by
  by_cases hb : u.ownBlock = some g
  · have hkn := hk hb
    obtain ⟨hl, hu⟩ := hu
    rcases hu with ⟨rfl, _⟩ | ⟨g2, cap2, cur, rfl, hb2, hh, hkc, hcm, hcs, ht⟩
    · simp [Value.ownBlock] at hb
    · simp only [Value.ownBlock, Option.some.injEq] at hb
      subst hb
      rcases h.2 with ⟨h, _⟩ | ⟨g3, cap3, cur3, h3, hb3, hh3, hkc3, hcm3, hcs3, ht3⟩
      · simp at h
      rcases h'.2 with ⟨h', _⟩ | ⟨g4, cap4, cur4, h4, hb4, hh4, hkc4, hcm4, hcs4, ht4⟩
      · simp at h'
      simp only [Value.slice.injEq, Option.some.injEq, Addr.mk.injEq, and_true, true_and] at h3 h4
      obtain ⟨rfl, rfl⟩ := h3
      obtain ⟨rfl, rfl⟩ := h4
      rw [hh] at hh3
      simp only [Option.some.injEq, Obj.cells.injEq, and_true] at hh3
      obtain ⟨rfl, rfl⟩ := hh3
      refine ⟨hl, Or.inr ⟨g2, cap2, cur4, rfl, hb2, hh4, hkc, hcm, by omega, ?_⟩⟩
      simp only [Nat.mul_one] at ht ht3 ht4 hl ⊢
      have e1 : (cur4.toList.take (n + m)).take k = (xs ++ news).take k := by rw [ht4]
      rw [List.take_take, Nat.min_eq_left (by omega), List.take_append_of_le_length (by rw [← ht3, List.length_take, Array.length_toList]; omega)] at e1
      rw [e1, ← ht3, List.take_take, Nat.min_eq_left hkn, ht]
  · rcases hu' : u.ownBlock with _ | g'
    · exact hu.kept hg (Or.inl hu')
    · exact hu.kept hg (Or.inr (by rw [hu'] at hb ⊢; exact hb))

theorem wpList_push {P : Program} (w : World) {ops : Array Oper} {rest : List Oper} {o : Oper} {a : Act} {Q : Exit → Act → World → Prop}
    (hg : o.guard = none) (s x : Operand) (t : TypeId) (hop : o.op = Op.call { callee := Callee.builtin Builtin.append, args := #[s, x], argTypes := #[t, t] })
    (base : Nat) (e : TypeId) (i : TypeInfo) (z : Value) (bytes : Nat) (h1 : P.underlying t = some (.slice e)) (h2 : P.info? e = some i) (h3 : i.zero = some z) (h4 : i.size = 1) (h5 : i.bytes = bytes) (h6 : z.cells.size = 1)
    (v : Value) (n : Nat) (xs : List Value) (hs : a.eval s = v) (hown : w.ownsRow base e 1 v n xs)
    (ad : Addr) (m c : Nat) (news : List Value) (hx : a.eval x = .slice (some ad) m c) (hn : news.length = m * 1) (hc : ∀ j u, news[j]? = some u → w.cell? (ad.add j) = some u) (h1c : ∀ u ∈ news, u.oneCell' = true)
    (hm : 0 < m) (b1 : n + m ≤ maxLen) (b2 : (n + m) * bytes ≤ 140737488355328) (hbase : base ≤ w.heap.size)
    (hK : ∀ v' w', w'.ownsRow base e 1 v' (n + m) (xs ++ news) → w.grownBy w' v.ownBlock → Keeps w w' v n → (v'.ownBlock = v.ownBlock ∨ ∀ g, v'.ownBlock = some g → w.heap.size ≤ g) → wpList P ops Q rest (a.put o.dst v') w') :
    wpList P ops Q (o :: rest) a w := by
  have hown0 := hown
  have grow : ∀ v' w', w'.ownsRow w.heap.size e 1 v' (n + m) (xs ++ news) → w.grownBy w' none → wpList P ops Q rest (a.put o.dst v') w' := by
    intro v' w' ho hgr
    refine hK v' w' ?_ ⟨hgr.os, hgr.tape, hgr.output, hgr.size, fun k hk _ => hgr.block k hk (by simp)⟩ (keeps_none hgr) (Or.inr fun g hg => (World.ownsRow.lt ho g hg).1)
    refine ⟨ho.1, ?_⟩
    rcases ho.2 with h | ⟨g, cap, cur, e1, e2, e3⟩
    · exact Or.inl h
    · exact Or.inr ⟨g, cap, cur, e1, by omega, e3⟩
  rcases hown.2 with ⟨rfl, hn0⟩ | ⟨g, cap, cur, rfl, hb, hh, hnc, hcm, hcs, ht⟩
  · subst hn0
    have hx0 : xs = [] := by have := hown.1; simpa using this
    subst hx0
    exact wpList_append_grows w hg s x t hop e i z 1 bytes h1 h2 h3 h4 h5 h6 (by decide) none 0 0 [] hs (fun _ => ⟨rfl, rfl⟩) (by simp) (fun b h => by simp at h) ad m c news hx hn hc h1c (by omega) b1 b2 grow
  · by_cases hr : n + m ≤ cap
    · refine wpList_append_fits w hg s x t hop base e i 1 h1 h2 h4 g n cap xs hs hown ad m c news hx hn hc h1c hr ?_
      intro w' ho hgr
      exact hK _ w' ho hgr (keeps_fits hown ho hgr) (Or.inl rfl)
    · refine wpList_append_grows w hg s x t hop e i z 1 bytes h1 h2 h3 h4 h5 h6 (by decide) (some ⟨g, 0, none⟩) n cap xs hs (fun h => by simp at h) hown.1 ?_ ad m c news hx hn hc h1c (by omega) b1 b2 grow
      intro b hb' j u hj
      simp only [Option.some.injEq] at hb'
      subst hb'
      rw [Addr.add_lit, Nat.zero_add, World.ownsRow.cellAt hown0 j ?_, hj]
      have := (List.getElem?_eq_some_iff.1 hj).1
      rw [hown.1] at this
      exact this
end Go.Proofs.YtfnafgjnimfmjaaGreatDoor

namespace Go.Proofs.YtfnafgjnimfmjaaGreatDoor
open Go.RowKit

def at_ (l : List Value) (i : Nat) : Value := l.getD i (.slice none 0 0)
/-- Each of some values owns its limbs. -/
def Fam (B : Nat) (w : World) (gs : List Value) (ys : Nat → List Nat) : Prop := ∀ j, j < gs.length → Own B 37 w (at_ gs j) (ys j)
/-- No two of them lie in one row. -/
def Dist (gs : List Value) : Prop := ∀ i j, i < gs.length → j < gs.length → i ≠ j → (at_ gs i).ownBlock = none ∨ (at_ gs i).ownBlock ≠ (at_ gs j).ownBlock
def upd (ys : Nat → List Nat) (i : Nat) (l : List Nat) : Nat → List Nat := fun j => if j = i then l else ys j

theorem limbs_set {xs : List Nat} (h : limbs xs) (k x : Nat) (hx : x < 4294967296) : limbs (xs.set k x) := fun y hy => by
  rcases List.mem_or_eq_of_mem_set hy with h' | h'
  · exact h y h'
  · omega

theorem Own.set {B e g n cap : Nat} {w : World} {xs : List Nat} (h : Own B e w (.slice (some ⟨g, 0, none⟩) n cap) xs) (hn : xs.length = n) (k x : Nat) (hx : x < 4294967296) :
    Own B e (w.setCell ⟨g, k, none⟩ (U x)) (.slice (some ⟨g, 0, none⟩) n cap) (xs.set k x) := by
  subst hn
  refine ⟨limbs_set h.1 k x hx, ?_⟩
  have := (World.ownsRow.stored h.2 k (U x)).1
  rw [List.length_set, List.map_set]
  exact this

theorem Own.other {B e : Nat} {w : World} {v : Value} {xs : List Nat} (h : Own B e w v xs) {g k : Nat} (u : Value) (hne : v.ownBlock = none ∨ v.ownBlock ≠ some g) : Own B e (w.setCell ⟨g, k, none⟩ u) v xs := by
  obtain ⟨h0, h1, h2⟩ := h
  refine ⟨h0, h1, ?_⟩
  rcases h2 with h2 | ⟨g', cap, cur, rfl, h3, h4, h5⟩
  · exact Or.inl h2
  · refine Or.inr ⟨g', cap, cur, rfl, h3, ?_, h5⟩
    rw [heap_setCell_other]
    · exact h4
    · simp [Value.ownBlock] at hne
      exact hne

theorem Fam.set {B : Nat} {w : World} {gs : List Value} {ys : Nat → List Nat} (h : Fam B w gs ys) (hd : Dist gs) {i g n cap : Nat} (hi : i < gs.length) (hv : at_ gs i = .slice (some ⟨g, 0, none⟩) n cap) (hn : (ys i).length = n) (k x : Nat) (hx : x < 4294967296) :
    Fam B (w.setCell ⟨g, k, none⟩ (U x)) gs (upd ys i ((ys i).set k x)) := fun j hj => by
  unfold upd
  by_cases hji : j = i
  · subst hji
    rw [if_pos rfl, hv]
    have := h j hj
    rw [hv] at this
    exact this.set hn k x hx
  · rw [if_neg hji]
    refine (h j hj).other (U x) ?_
    have := hd j i hj hi hji
    rw [hv] at this
    exact this

/-- The row of an Own value is there, of its element type. -/
theorem Own.heap {B e g n cap : Nat} {w : World} {xs : List Nat} (h : Own B e w (.slice (some ⟨g, 0, none⟩) n cap) xs) : B ≤ g ∧ n = xs.length ∧ ∃ cur, w.heap[g]? = some (.cells cur e (0, 0)) ∧ xs.length ≤ cap ∧ cur.size = cap ∧ cur.toList.take xs.length = xs.map U := by
  rcases h.2.2 with ⟨h, _⟩ | ⟨g', cap', cur, h1, h3, h4, h5, h6, h7, h8⟩
  · simp at h
  · simp only [Value.slice.injEq, Option.some.injEq, Addr.mk.injEq, and_true] at h1
    obtain ⟨rfl, rfl, rfl⟩ := h1
    exact ⟨h3, rfl, cur, h4, h5, by simpa using h7, by simpa using h8⟩

theorem Own.shape {B e : Nat} {w : World} {v : Value} {xs : List Nat} (h : Own B e w v xs) : (v = .slice none 0 0 ∧ xs = []) ∨ ∃ g cap, v = .slice (some ⟨g, 0, none⟩) xs.length cap ∧ xs.length ≤ cap ∧ cap ≤ 9223372036854775807 := by
  rcases h.2.2 with ⟨h1, h2⟩ | ⟨g', cap', cur, h1, h3, h4, h5, h6, h7, h8⟩
  · exact Or.inl ⟨h1, List.eq_nil_of_length_eq_zero h2⟩
  · exact Or.inr ⟨g', cap', h1, h5, h6⟩

theorem Own.cell {B e g n cap : Nat} {w : World} {xs : List Nat} (h : Own B e w (.slice (some ⟨g, 0, none⟩) n cap) xs) {k : Nat} (hk : k < xs.length) : w.cell? ⟨g, k, none⟩ = some (.int .u32 ((xs.getD k 0 : Nat) : Int)) ∧ w.frozen? ⟨g, k, none⟩ = false := by
  obtain ⟨_, hn, cur, h1, h2, h3, h4⟩ := h.heap
  refine ⟨?_, frozen_of_row w g k cur e h1⟩
  rw [cell_of_row w g k cur e _ h1]
  have h5 : cur.toList[k]? = (xs.map U)[k]? := by rw [← h4, List.getElem?_take_of_lt hk]
  rw [Array.getElem?_toList] at h5
  rw [h5, List.getElem?_map, List.getElem?_eq_getElem hk, List.getD_eq_getElem?_getD, List.getElem?_eq_getElem hk]
  rfl

theorem eq_replicate {l : List Nat} {n x : Nat} (hl : l.length = n) (h : ∀ q, q < n → l.getD q 0 = x) : l = List.replicate n x := by
  apply List.ext_getElem
  · simp [hl]
  · intro q h1 h2
    have := h q (by omega)
    rw [List.getD_eq_getElem?_getD, List.getElem?_eq_getElem h1] at this
    simpa using this

/-- All that was there is as it was, but for the rows of some values. -/
structure Bex (gs : List Value) (w w' : World) : Prop where
  os : w'.os = w.os
  tape : w'.tape = w.tape
  output : w'.output = w.output
  size : w.heap.size ≤ w'.heap.size
  block : ∀ k, k < w.heap.size → (∀ j, j < gs.length → (at_ gs j).ownBlock ≠ some k) → w'.heap[k]? = w.heap[k]?
/-- A row that may be written. -/
def May (gs : List Value) (w : World) (k : Nat) : Prop := (∃ j, j < gs.length ∧ (at_ gs j).ownBlock = some k) ∨ w.heap.size ≤ k
theorem Bex.same {gs : List Value} {w w' : World} (h : Below w.heap.size w w') : Bex gs w w' := ⟨h.os, h.tape, h.output, h.size, fun k hk _ => h.block k hk⟩
theorem Bex.alloc {gs : List Value} {w w' : World} (h : Bex gs w w') (o : Obj) : Bex gs w (w'.alloc o) :=
  ⟨h.os, h.tape, h.output, by simp; have := h.size; omega, fun k hk hj => by rw [Below.heap_alloc _ _ _ (Nat.lt_of_lt_of_le hk h.size)]; exact h.block k hk hj⟩
theorem Bex.setCell {gs : List Value} {w w' : World} (h : Bex gs w w') {p : Addr} (hp : May gs w p.block) (u : Value) : Bex gs w (w'.setCell p u) :=
  ⟨h.os, h.tape, h.output, by simp [World.setCell]; exact h.size, fun k hk hj => by
    rw [heap_setCell_other]
    · exact h.block k hk hj
    · intro e
      rcases hp with ⟨j, h1, h2⟩ | h2
      · exact hj j h1 (by rw [h2, e])
      · omega⟩
theorem Bex.grown {gs : List Value} {w wr w' : World} {row : Option Nat} (h : Bex gs w wr) (hg : wr.grownBy w' row) (hr : ∀ k, row = some k → May gs w k) : Bex gs w w' :=
  ⟨hg.os.trans h.os, hg.tape.trans h.tape, hg.output.trans h.output, Nat.le_trans h.size hg.size, fun k hk hj => by
    rw [hg.block k (Nat.lt_of_lt_of_le hk h.size) (fun e => ?_)]
    · exact h.block k hk hj
    · rcases hr k e.symm with ⟨j, h1, h2⟩ | h2
      · exact hj j h1 h2
      · omega⟩
theorem Bex.below {B : Nat} {gs : List Value} {w w' : World} (h : Bex gs w w') (hB : B ≤ w.heap.size) (hgs : ∀ j k, j < gs.length → (at_ gs j).ownBlock = some k → B ≤ k) : Below B w w' :=
  ⟨h.os, h.tape, h.output, h.size, fun k hk => h.block k (by omega) (fun j hj e => by have := hgs j k hj e; omega)⟩
theorem Own.bex {B e : Nat} {gs : List Value} {w w' : World} {v : Value} {xs : List Nat} (h : Own B e w v xs) (hb : Bex gs w w') (hd : ∀ j, j < gs.length → (at_ gs j).ownBlock = none ∨ (at_ gs j).ownBlock ≠ v.ownBlock) : Own B e w' v xs := by
  obtain ⟨h0, h1, h2⟩ := h
  refine ⟨h0, h1, ?_⟩
  rcases h2 with h2 | ⟨g, cap, cur, rfl, h3, h4, h5⟩
  · exact Or.inl h2
  · refine Or.inr ⟨g, cap, cur, rfl, h3, ?_, h5⟩
    rw [hb.block g (Array.getElem?_eq_some_iff.1 h4).1 (fun j hj e => ?_)]
    · exact h4
    · rcases hd j hj with h | h
      · rw [h] at e; simp at e
      · exact h (by rw [e]; rfl)

theorem Own.ao {B e : Nat} {w : World} {v : Value} {xs : List Nat} (h : Own B e w v xs) : ∃ ao cap, v = .slice ao xs.length cap ∧ (0 < xs.length → ∃ g, ao = some ⟨g, 0, none⟩) ∧ xs.length ≤ cap ∧ cap ≤ 9223372036854775807 := by
  rcases h.shape with ⟨rfl, rfl⟩ | ⟨g, cap, rfl, h1, h2⟩
  · exact ⟨none, 0, rfl, fun h => by simp at h, by simp, by omega⟩
  · exact ⟨_, cap, rfl, fun _ => ⟨g, rfl⟩, h1, h2⟩

theorem getD_set_self (l : List Nat) (k x : Nat) (h : k < l.length) : (l.set k x).getD k 0 = x := by simp [List.getD, h]
theorem getD_set_ne (l : List Nat) (k q x : Nat) (h : q ≠ k) : (l.set k x).getD q 0 = l.getD q 0 := by
  simp only [List.getD_eq_getElem?_getD]
  rw [List.getElem?_set_ne (by omega)]

end Go.Proofs.YtfnafgjnimfmjaaGreatDoor

namespace Go.Proofs.YtfnafgjnimfmjaaGreatDoor
open Go.RowKit

def marks (len : Nat → Nat) (j : Nat) : List Nat := List.replicate (len j) (1000 + j)
theorem own_types {w : World} {b b' e e' k k' : Nat} {u u' : Value} {ys ys' : List Value} (h : w.ownsRow b e 1 u k ys) (h' : w.ownsRow b' e' 1 u' k' ys') (hne : e ≠ e') : u.ownBlock = none ∨ u.ownBlock ≠ u'.ownBlock := by
  rcases h.2 with ⟨rfl, _⟩ | ⟨g, cap, cur, rfl, _, hh, _⟩
  · exact Or.inl rfl
  · right
    rcases h'.2 with ⟨rfl, _⟩ | ⟨g', cap', cur', rfl, _, hh', _⟩
    · simp [Value.ownBlock]
    · simp only [Value.ownBlock, ne_eq, Option.some.injEq]
      intro he
      subst he
      rw [hh] at hh'
      simp only [Option.some.injEq, Obj.cells.injEq, and_true] at hh'
      exact hne hh'.2
theorem own_none {w : World} {b e k : Nat} {u : Value} {ys : List Value} (h : w.ownsRow b e 1 u k ys) (hn : u.ownBlock = none) : k = 0 := by
  rcases h.2 with ⟨_, h0⟩ | ⟨g, cap, cur, rfl, _⟩
  · exact h0
  · simp [Value.ownBlock] at hn
/-- Of two rows that are apart the one is not the other; or it is nil. -/
theorem short_of {w : World} {b e k n : Nat} {u v : Value} {ys : List Value} (h : w.ownsRow b e 1 u k ys) (hd : v.ownBlock = none ∨ v.ownBlock ≠ u.ownBlock) (he : u.ownBlock = v.ownBlock) : k ≤ n := by
  rcases hd with hd | hd
  · have := own_none h (by rw [he, hd]); omega
  · exact absurd he.symm hd
theorem apart_symm {u v : Value} (h : u.ownBlock = none ∨ u.ownBlock ≠ v.ownBlock) : v.ownBlock = none ∨ v.ownBlock ≠ u.ownBlock := by
  rcases hv : v.ownBlock with _ | g
  · exact Or.inl rfl
  · right
    rcases h with h | h
    · rw [h]; simp
    · rw [hv] at h; exact fun e => h e.symm

theorem below_of_grown {B : Nat} {w w' : World} {v : Value} (hg : w.grownBy w' v.ownBlock) (hB : B ≤ w.heap.size) (hv : ∀ k, v.ownBlock = some k → B ≤ k) : Below B w w' := (Below.refl B w).grown hg hB hv

theorem at_snoc_lt {ls : List Value} {v : Value} {i j : Nat} (hl : ls.length = i) (hj : j < i) : at_ (ls ++ [v]) j = at_ ls j := by
  unfold at_
  rw [List.getD_eq_getElem?_getD, List.getD_eq_getElem?_getD, List.getElem?_append_left (by omega)]
theorem at_snoc_eq {ls : List Value} {v : Value} {i : Nat} (hl : ls.length = i) : at_ (ls ++ [v]) i = v := by
  unfold at_
  rw [List.getD_eq_getElem?_getD, List.getElem?_append_right (by omega)]
  simp [hl]

theorem Own.alloc {B e : Nat} {w : World} {v : Value} {xs : List Nat} (h : Own B e w v xs) (o : Obj) : Own B e (w.alloc o) v xs := ⟨h.1, h.2.alloc o⟩
theorem Num.alloc {w : World} {v : Value} {xs : List Nat} (h : Num w v xs) (o : Obj) : Num (w.alloc o) v xs := h.below (Nat.le_refl _) ((Below.refl _ _).alloc (Nat.le_refl _) o)
/-- Two rows, the one made behind the other. -/
theorem apart_later {B B' e e' : Nat} {w w' : World} {u v : Value} {xs ys : List Nat} (h : Own B e w u xs) (h' : Own B' e' w' v ys) (hB : w.heap.size ≤ B') : u.ownBlock = none ∨ u.ownBlock ≠ v.ownBlock := by
  rcases hu : u.ownBlock with _ | g
  · exact Or.inl rfl
  · right
    rcases hv : v.ownBlock with _ | g'
    · simp
    · have := (h.block g hu).2
      have := (h'.block g' hv).1
      simp only [ne_eq, Option.some.injEq]; omega
end Go.Proofs.YtfnafgjnimfmjaaGreatDoor

namespace Go.Proofs.YtfnafgjnimfmjaaGreatDoor
open Go.RowKit

theorem Tryz.infoU : (Tryz.prog.info? 37).map (fun i => (i.zero, i.size, i.bytes)) = some (some (.int .u32 0), 1, 4) := by kernel_rfl

theorem val_two (u : Nat) : val [u % 4294967296, u / 4294967296] = u := by simp [val]; omega

set_option maxHeartbeats 400000 in
theorem of_any (u : Nat) (w : World) (hu : u < 18446744073709551616) :
    Calls Tryz.prog 56 #[.int .u64 (u : Int)] w fun e w' => ∃ v, e = .returned v ∧ Own w.heap.size 37 w' v (lim u) ∧ Below w.heap.size w w' := by
  have hb : limbs [u % 4294967296, u / 4294967296] := by
    intro x hx
    simp at hx
    omega
  have how := Own.lit (B := w.heap.size) 37 w #[.int .u32 ((u : Int) % 4294967296), .int .u32 ((u : Int) / 4294967296)] [u % 4294967296, u / 4294967296] hb (Nat.le_refl _) (by simp [maxLen]) (by simp [U])
  have hbel : Below w.heap.size w (w.alloc (.cells #[.int .u32 ((u : Int) % 4294967296), .int .u32 ((u : Int) / 4294967296)] 37)) := (Below.refl _ _).alloc (Nat.le_refl _) _
  go_enter Tryz.func56, Tryz.ntmps56
  go_wp2_with fail
  refine (trim_any _ _ _ how.num).mono ?_
  rintro e w' ⟨⟨k, hk, hk2, rfl⟩, rfl⟩
  have how2 := how.cut hk
  rw [hk2, val_two] at how2
  clear how hk2 hb
  go_wp2
  go_ret
  exact ⟨_, rfl, how2, hbel⟩

theorem or_high (x y : Nat) (hx : x < 4294967296) (hy : y < 4294967296) : bits BinOp.or IntKind.u64 (x : Int) ((y : Int) * 4294967296) = ((x + 4294967296 * y : Nat) : Int) := by
  have h := bits_or_u64_nat x (y * 4294967296) (by omega) (by omega)
  rw [show ((y : Int) * 4294967296) = ((y * 4294967296 : Nat) : Int) by omega, h]
  congr 1
  have h2 := Nat.shiftLeft_add_eq_or_of_lt (i := 32) (b := x) (by simpa using hx) y
  rw [Nat.shiftLeft_eq, show (2 ^ 32 : Nat) = 4294967296 from rfl] at h2
  rw [Nat.or_comm, ← h2]; omega

theorem or_halves (V : Nat) (h : V < 18446744073709551616) : bits BinOp.or IntKind.u64 ((V : Int) % 4294967296) ((V : Int) / 4294967296 * 4294967296) = (V : Int) := by
  have hor := or_high (V % 4294967296) (V / 4294967296) (by omega) (by omega)
  rw [Int.natCast_emod, Int.natCast_ediv] at hor
  refine hor.trans ?_
  omega

end Go.Proofs.YtfnafgjnimfmjaaGreatDoor

namespace Go.Proofs.YtfnafgjnimfmjaaGreatDoor
open Go.RowKit

theorem own_made {B e n : Nat} {w : World} {v : Value} (h : w.ownsRow B e 1 v n (madeCells #[Value.int .u32 0] n).toList) : Own B e w v (List.replicate n 0) := by
  refine ⟨fun x hx => by have := List.eq_of_mem_replicate hx; omega, ?_⟩
  rw [toList_madeCells_one] at h
  rw [List.map_replicate, List.length_replicate]
  exact h

/-- What a maker of a number leaves. -/
def Made' (B : Nat) (w : World) (xs : List Nat) (en : Ending) (w' : World) : Prop := ∃ v, en = .returned v ∧ Own B 37 w' v xs ∧ Below B w w'

set_option maxRecDepth 100000 in
set_option maxHeartbeats 1600000 in
theorem add_any (u v : Value) (xs ys : List Nat) (w : World) (hu : Num w u xs) (hv : Num w v ys) (hbx : xs.length ≤ 1099511627776) (hby : ys.length ≤ 1099511627776) :
    Calls Tryz.prog 85 #[u, v] w fun e w' => Made' w.heap.size w (lim (val xs + val ys)) e w' := by
  obtain ⟨ao, cap, rfl, hl1, hm1⟩ := hu.ao
  obtain ⟨bo, dap, rfl, hl2, hm2⟩ := hv.ao
  obtain ⟨i0, hi, hz0, hz1, hz2⟩ := info_parts Tryz.infoU
  go_enter Tryz.func85, Tryz.ntmps85
  go_wp2_with fail
  refine (trim_any _ _ _ hu).mono ?_
  rintro e w1 ⟨⟨k, hk, hk2, rfl⟩, rfl⟩
  go_wp2_with fail
  refine (trim_any _ _ _ hv).mono ?_
  rintro e w1 ⟨⟨m, hm, hm3, rfl⟩, rfl⟩
  simp only [cutTo]
  have hkl : k = (lim (val xs)).length := by rw [← hk2, List.length_take, Nat.min_eq_left hk]
  have hml : m = (lim (val ys)).length := by rw [← hm3, List.length_take, Nat.min_eq_left hm]
  have nu := hu.cut hk
  have nv := hv.cut hm
  rw [hk2] at nu
  rw [hm3] at nv
  simp only [cutTo] at nu nv
  have hle1 : k ≤ 1099511627776 := by omega
  have hle2 : m ≤ 1099511627776 := by omega
  have HE : Hid (val xs + val ys = val (lim (val xs)) + val (lim (val ys))) := by show _ = _; rw [val_lim, val_lim]
  generalize hX : lim (val xs) = X at *
  generalize hY : lim (val ys) = Y at *
  have HKL : Hid (k = X.length) := hkl
  have HML : Hid (m = Y.length) := hml
  clear hX hY hkl hml hu hv hk2 hm3 hk hm
  have pre : ∃ n : Nat, k < n ∧ m < n ∧ n ≤ 1099511627777 ∧ ((k < m ∧ n = m + 1) ∨ (¬ k < m ∧ n = k + 1)) := by
    by_cases h : k < m
    · exact ⟨m + 1, by omega, by omega, by omega, Or.inl ⟨h, rfl⟩⟩
    · exact ⟨k + 1, by omega, by omega, by omega, Or.inr ⟨h, rfl⟩⟩
  obtain ⟨n, hn1, hn2, hn3, hcase⟩ := pre
  rcases hcase with ⟨hkm, hn⟩ | ⟨hkm, hn⟩
  all_goals
    have HNN : Hid (n = _) := hn
    clear hn
    go_wp2_with (at_make; refine wpList_make_full _ rfl _ _ 23 rfl w1.heap.size 37 i0 (.int .u32 0) 1 Tryz.underlying23 hi hz0 hz1 _ _ _ _ n rfl rfl (by have := HNN.out; omega) (by have := HNN.out; omega) (by rw [hz2]; omega) (by unfold maxLen; omega) (Nat.le_refl _) ?_)
    intro w2 ho2 hg2
    have how := own_made ho2
    have hbel : Below w1.heap.size w1 w2 := (Below.refl w1.heap.size w1).grown hg2 (Nat.le_refl _) (by intro k hk; simp at hk)
    have HXL : Hid (X.length < n) := by show _ < _; rw [← HKL.out]; exact hn1
    have HYL : Hid (Y.length < n) := by show _ < _; rw [← HML.out]; exact hn2
    clear ho2 hg2 HNN hn1 hn2
    obtain ⟨g, hg⟩ : ∃ g, g = w1.heap.size := ⟨_, rfl⟩
    have HB : Hid (Below w1.heap.size w1 w2 ∧ Own w1.heap.size 37 w2 (.slice (some ⟨g, 0, none⟩) n n) (List.replicate n 0)) := by rw [hg]; exact ⟨hbel, how⟩
    rw [← hg] 
    clear hg hbel how
    go_wp2
    go_loopw [6, 21] (fun c t wr => ∃ (i cN : Nat) (zs : List Nat), i ≤ n ∧ t = .int .i64 i ∧ c = .int .u64 cN ∧ cN ≤ 1 ∧ zs.length = n ∧ Own w1.heap.size 37 wr (.slice (some ⟨g, 0, none⟩) n n) zs ∧ low zs i + 4294967296 ^ i * cN = low X i + low Y i ∧ Below w1.heap.size w1 wr) (fun _ t _ => n - (intOf t).toNat)
    case atStart => exact ⟨0, 0, List.replicate n 0, Nat.zero_le _, rfl, rfl, by omega, by simp, HB.out.2, by simp [low_zero], HB.out.1⟩
    case round =>
      obtain ⟨i, c, zs, hin, rfl, rfl, hc1, hzl, how, hinv, hbel⟩ := hrel
      have HZ : Hid (zs.length = n) := hzl
      have HI : Hid (low zs i + 4294967296 ^ i * c = low X i + low Y i) := hinv
      clear hzl hinv HB
      have nu2 := nu.below (Nat.le_refl _) hbel
      have nv2 := nv.below (Nat.le_refl _) hbel
      by_cases hlt : i < n
      · have hlt' : (i : Int) < (n : Int) := by omega
        have hx0 := limb_lt nu.1 i
        have hy0 := limb_lt nv.1 i
        obtain ⟨x, hx⟩ : ∃ x, x = X.getD i 0 := ⟨_, rfl⟩
        obtain ⟨y, hy⟩ : ∃ y, y = Y.getD i 0 := ⟨_, rfl⟩
        have HX : Hid (x = X.getD i 0) := hx
        have HY : Hid (y = Y.getD i 0) := hy
        rw [← hx] at hx0
        rw [← hy] at hy0
        obtain ⟨hcz, hfz⟩ := how.cell (k := i) (by rw [HZ.out]; exact hlt)
        obtain ⟨z, hz⟩ : ∃ z, z = zs.getD i 0 := ⟨_, rfl⟩
        rw [← hz] at hcz
        have hset := how.set HZ.out i ((c + (x + y)) % 4294967296) (by omega)
        have hU : U ((c + (x + y)) % 4294967296) = .int .u32 (((c : Int) + ((x : Int) + (y : Int))) % 4294967296) := by simp [U]
        rw [hU] at hset
        have hbel2 : Below w1.heap.size w1 (wr.setCell ⟨g, i, none⟩ (.int .u32 (((c : Int) + ((x : Int) + (y : Int))) % 4294967296))) := hbel.setCell (by exact how.heap.1) _
        clear hx hy hz how hbel hU
        go_wp2_with fail
        refine (limb_any _ _ _ _ nu2 (by omega)).mono ?_
        rintro e w3 ⟨rfl, rfl⟩
        rw [Int.toNat_natCast, ← HX.out]
        go_wp2_with fail
        refine (limb_any _ _ _ _ nv2 (by omega)).mono ?_
        rintro e w4 ⟨rfl, rfl⟩
        rw [Int.toNat_natCast, ← HY.out]
        clear nu2 nv2
        go_wp2
        go_roundw
        case rel => exact ⟨i + 1, (c + (x + y)) / 4294967296, _, by omega, by go_num, by go_num, by omega, by rw [List.length_set]; exact HZ.out, hset, by rw [HX.out, HY.out]; exact add_step (by rw [HZ.out]; exact hlt) HI.out, hbel2⟩
        case measure => simp [intOf]; omega
      · have hlt' : ¬ (i : Int) < (n : Int) := by omega
        have hin' : i = n := by omega
        have HV : Hid (val zs = val xs + val ys) := by
          show _ = _
          rw [HE.out]
          exact add_done nu.1 nv.1 HXL.out HYL.out HZ.out (by rw [← hin']; exact HI.out)
        clear hin' nu2 nv2
        go_wp2_with fail
        refine (trim_any _ _ _ how.num).mono ?_
        rintro e w3 ⟨⟨k3, hk3, hk4, rfl⟩, rfl⟩
        have how2 := how.cut hk3
        rw [hk4, HV.out] at how2
        clear how hk4
        go_wp2
        go_ret
        exact ⟨_, rfl, how2, hbel⟩
end Go.Proofs.YtfnafgjnimfmjaaGreatDoor

namespace Go.Proofs.YtfnafgjnimfmjaaGreatDoor
open Go.RowKit

theorem and_mask (a : Nat) (h : a < 18446744073709551616) : bits BinOp.and IntKind.u64 (a : Int) 4294967295 = ((a % 4294967296 : Nat) : Int) := by
  have := bits_and_u64_nat a 4294967295 h (by decide)
  rw [show ((4294967295 : Nat) : Int) = 4294967295 from rfl] at this
  rw [this]
  congr 1
  exact Nat.and_two_pow_sub_one_eq_mod a 32

theorem sub_wrap (P M b : Nat) (hP : P < 4294967296) (hM : M < 4294967296) (hb : b ≤ 1) : ∃ D1 D b' dl : Nat, IntKind.u64.wrap ((P : Int) - (M : Int)) = (D1 : Int) ∧ IntKind.u64.wrap ((D1 : Int) - (b : Int)) = (D : Int) ∧ D < 18446744073709551616 ∧
    ((D : Int) % 4294967296) = (dl : Int) ∧ ((D : Int) / 9223372036854775808) = (b' : Int) ∧ b' ≤ 1 ∧ dl < 4294967296 ∧ P + 4294967296 * b' = M + b + dl := by
  by_cases h1 : M ≤ P
  · by_cases h2 : M + b ≤ P
    · exact ⟨P - M, P - M - b, 0, P - M - b, by rw [IntKind.wrap_u64]; omega, by rw [IntKind.wrap_u64]; omega, by omega, by omega, by omega, by omega, by omega, by omega⟩
    · refine ⟨0, 18446744073709551615, 1, 4294967295, by rw [IntKind.wrap_u64]; omega, by rw [IntKind.wrap_u64]; omega, by omega, by omega, by omega, by omega, by omega, by omega⟩
  · exact ⟨18446744073709551616 + P - M, 18446744073709551616 + P - M - b, 1, 4294967296 + P - M - b, by rw [IntKind.wrap_u64]; omega, by rw [IntKind.wrap_u64]; omega, by omega, by omega, by omega, by omega, by omega, by omega⟩

theorem mul_bound {x u : Nat} (hx : x < 4294967296) (hu : u < 4294967296) : x * u ≤ 18446744065119617025 := by
  have : x * u ≤ 4294967295 * 4294967295 := Nat.mul_le_mul (by omega) (by omega)
  omega

end Go.Proofs.YtfnafgjnimfmjaaGreatDoor

namespace Go.Proofs.YtfnafgjnimfmjaaGreatDoor

theorem val_zero_of {zs : List Nat} (h : ∀ j, zs.getD j 0 = 0) : val zs = 0 := by
  rw [val_congr zs.length (ys := []) (Nat.le_refl _) (by simp) (fun j => by rw [h j]; simp)]
  rfl
theorem mul_step {zs zs' X : List Nat} {i k c b : Nat} (hl : zs'.length = zs.length) (hik : i + k < zs.length) (hz : ∀ j, i + k ≤ j → zs.getD j 0 = 0) (hs : ∀ j, j < i ∨ i + k ≤ j → zs'.getD j 0 = zs.getD j 0)
    (h : low (zs'.drop i) k + 4294967296 ^ k * c = low (zs.drop i) k + val X * b) : val (zs'.set (i + k) c) = val zs + 4294967296 ^ i * (val X * b) := by
  have e1 : low (zs'.set (i + k) c) i = low zs i := by
    rw [low_set_ge _ _ _ _ (by omega)]
    exact low_congr fun j hj => hs j (Or.inl hj)
  have e2 : val ((zs'.set (i + k) c).drop i) = low (zs'.drop i) k + 4294967296 ^ k * c := by
    rw [drop_set_add, val_split _ k (by simp; omega), low_set_ge _ _ _ _ (Nat.le_refl _)]
    congr 2
    rw [List.drop_set, if_neg (by omega), Nat.sub_self, List.drop_drop, val_tail, getD_set_eq _ _ _ (by simp; omega)]
    rw [val_zero_of (zs := ((zs'.drop (i + k)).set 0 c).tail)]
    · simp
    · intro j
      rw [getD_tail, getD_set_off _ _ _ _ (by omega), getD_drop, hs _ (Or.inr (by omega)), hz _ (by omega)]
  have e3 : val (zs.drop i) = low (zs.drop i) k := by
    rw [val_split _ k (by simp; omega), val_zero_of (zs := (zs.drop i).drop k), Nat.mul_zero, Nat.add_zero]
    intro j
    rw [getD_drop, getD_drop]
    exact hz _ (by omega)
  rw [val_split (zs'.set (i + k) c) i (by simp; omega), e1, e2, h, val_split zs i (by omega), e3, Nat.mul_add, Nat.add_assoc]
theorem mul_row {X Y : List Nat} {i v : Nat} (h : v = val X * low Y i) : v + 4294967296 ^ i * (val X * Y.getD i 0) = val X * low Y (i + 1) := by
  rw [h, low_succ, Nat.mul_add]
  congr 1
  rw [← Nat.mul_assoc, ← Nat.mul_assoc, Nat.mul_comm (4294967296 ^ i)]
theorem mul_zeros {zs zs' : List Nat} {i k c : Nat} (hz : ∀ j, i + k ≤ j → zs.getD j 0 = 0) (hs : ∀ j, j < i ∨ i + k ≤ j → zs'.getD j 0 = zs.getD j 0) : ∀ j, i + 1 + k ≤ j → (zs'.set (i + k) c).getD j 0 = 0 := fun j hj => by
  rw [getD_set_off _ _ _ _ (by omega), hs j (Or.inr (by omega)), hz j (by omega)]
end Go.Proofs.YtfnafgjnimfmjaaGreatDoor
