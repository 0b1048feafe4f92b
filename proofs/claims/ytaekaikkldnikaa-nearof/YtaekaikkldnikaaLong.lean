/-
  Proved here: what stays as it was while numbers are gone on with, one by one.
-/
import Derived.Test.YtaekaikkldnikaaFam
namespace Go.Proofs.Ytaekaikkldnikaa
open Go.RowKit

def marks (len : Nat → Nat) (j : Nat) : List Nat := List.replicate (len j) (1000 + j)
def tailed (len : Nat → Nat) (j k : Nat) : List Nat := marks len j ++ List.replicate k (2000 + j)
theorem marks_len (len : Nat → Nat) (j : Nat) : (marks len j).length = len j := by simp [marks]
theorem tailed_len (len : Nat → Nat) (j k : Nat) : (tailed len j k).length = len j + k := by simp [tailed, marks]
theorem tailed_zero (len : Nat → Nat) (j : Nat) : tailed len j 0 = marks len j := by simp [tailed]
theorem tailed_succ (len : Nat → Nat) (j k : Nat) : tailed len j (k + 1) = tailed len j k ++ [2000 + j] := by
  simp only [tailed, List.append_assoc, List.replicate_succ']
theorem tailed_lo (len : Nat → Nat) (j k q : Nat) (h : q < len j) : (tailed len j k).getD q 0 = 1000 + j := by
  rw [List.getD_eq_getElem?_getD, tailed, List.getElem?_append_left (by rw [marks_len]; exact h), marks, List.getElem?_replicate, if_pos h]; rfl
theorem tailed_hi (len : Nat → Nat) (j k q : Nat) (h : len j ≤ q) (h2 : q < len j + k) : (tailed len j k).getD q 0 = 2000 + j := by
  rw [List.getD_eq_getElem?_getD, tailed, List.getElem?_append_right (by rw [marks_len]; exact h), marks_len, List.getElem?_replicate, if_pos (by omega)]; rfl
theorem marks_at (len : Nat → Nat) (j q : Nat) (h : q < len j) : (marks len j).getD q 0 = 1000 + j := by rw [← tailed_zero]; exact tailed_lo len j 0 q h

theorem own_types {w : World} {b b' e e' k k' : Nat} {u u' : Value} {ys ys' : List Value} (h : w.ownsRow b e 1 u k ys) (h' : w.ownsRow b' e' 1 u' k' ys') (hne : e ≠ e') : u.ownBlock = none ∨ u.ownBlock ≠ u'.ownBlock := by
  rcases h.2 with ⟨rfl, _⟩ | ⟨g, cap, cur, rfl, _, hh, _⟩
  · exact Or.inl rfl
  · right
    rcases h'.2 with ⟨rfl, _⟩ | ⟨g', cap', cur', rfl, _, hh', _⟩
    · simp [Value.ownBlock]
    · simp only [Value.ownBlock, ne_eq, Option.some.injEq]
      intro he
      subst he
      rw [hh] at hh'
      simp only [Option.some.injEq, Obj.cells.injEq, and_true] at hh'
      exact hne hh'.2
theorem own_none {w : World} {b e k : Nat} {u : Value} {ys : List Value} (h : w.ownsRow b e 1 u k ys) (hn : u.ownBlock = none) : k = 0 := by
  rcases h.2 with ⟨_, h0⟩ | ⟨g, cap, cur, rfl, _⟩
  · exact h0
  · simp [Value.ownBlock] at hn
/-- Of two rows that are apart the one is not the other; or it is nil. -/
theorem short_of {w : World} {b e k n : Nat} {u v : Value} {ys : List Value} (h : w.ownsRow b e 1 u k ys) (hd : v.ownBlock = none ∨ v.ownBlock ≠ u.ownBlock) (he : u.ownBlock = v.ownBlock) : k ≤ n := by
  rcases hd with hd | hd
  · have := own_none h (by rw [he, hd]); omega
  · exact absurd he.symm hd
theorem apart_symm {u v : Value} (h : u.ownBlock = none ∨ u.ownBlock ≠ v.ownBlock) : v.ownBlock = none ∨ v.ownBlock ≠ u.ownBlock := by
  rcases hv : v.ownBlock with _ | g
  · exact Or.inl rfl
  · right
    rcases h with h | h
    · rw [h]; simp
    · rw [hv] at h; exact fun e => h e.symm

structure Cst (B gb m : Nat) (gs : List Value) (len : Nat → Nat) (w : World) (i : Nat) (ls : List Value) (long : Value) (wr : World) : Prop where
  fam : Fam B wr gs (marks len)
  got : wr.ownsRow B 25 1 (.slice (some ⟨gb, 0, none⟩) m m) m gs
  bel : Bex gs w wr
  ll : ls.length = i
  lo : wr.ownsRow B 25 1 long i ls
  lso : ∀ j, j < i → Own B 39 wr (at_ ls j) (tailed len j 9)
  lsd : ∀ j, j < i → ∀ j', j' < gs.length → j' ≠ j → (at_ ls j).ownBlock = none ∨ (at_ ls j).ownBlock ≠ (at_ gs j').ownBlock
  lg : long.ownBlock ≠ some gb
  ln : ∀ k, long.ownBlock = some k → w.heap.size ≤ k

theorem Cst.keep {B gb m : Nat} {gs : List Value} {len : Nat → Nat} {w : World} {i : Nat} {ls : List Value} {long : Value} {wr w' : World} (h : Cst B gb m gs len w i ls long wr) {v : Value} {n : Nat} (hk : Keeps wr w' v n) (hb : Bex gs w w')
    (h1 : ∀ j, j < gs.length → (at_ gs j).ownBlock = v.ownBlock → len j ≤ n) (h2 : some gb ≠ v.ownBlock) (h3 : long.ownBlock = v.ownBlock → i ≤ n) (h4 : ∀ j, j < i → (at_ ls j).ownBlock = v.ownBlock → len j + 9 ≤ n) :
    Cst B gb m gs len w i ls long w' := by
  refine ⟨fun j hj => ⟨(h.fam j hj).1, hk _ _ _ _ _ (h.fam j hj).2 (by rw [marks_len]; exact h1 j hj)⟩, hk _ _ _ _ _ h.got (fun e => absurd e h2), hb, h.ll, hk _ _ _ _ _ h.lo h3, fun j hj => ⟨(h.lso j hj).1, hk _ _ _ _ _ (h.lso j hj).2 (by rw [tailed_len]; exact h4 j hj)⟩, h.lsd, h.lg, h.ln⟩

theorem Cst.alloc {B gb m : Nat} {gs : List Value} {len : Nat → Nat} {w : World} {i : Nat} {ls : List Value} {long : Value} {wr : World} (h : Cst B gb m gs len w i ls long wr) (o : Obj) :
    Cst B gb m gs len w i ls long (wr.alloc o) :=
  ⟨fun j hj => ⟨(h.fam j hj).1, (h.fam j hj).2.alloc o⟩, h.got.alloc o, h.bel.alloc o, h.ll, h.lo.alloc o, fun j hj => ⟨(h.lso j hj).1, (h.lso j hj).2.alloc o⟩, h.lsd, h.lg, h.ln⟩

/-- The number that is gone on with. -/
structure Vst (B : Nat) (gs : List Value) (len : Nat → Nat) (w : World) (i k : Nat) (ls : List Value) (v : Value) (wr : World) : Prop where
  vo : Own B 39 wr v (tailed len i k)
  vg : ∀ j, j < gs.length → j ≠ i → v.ownBlock = none ∨ v.ownBlock ≠ (at_ gs j).ownBlock
  vl : ∀ j, j < i → v.ownBlock = none ∨ v.ownBlock ≠ (at_ ls j).ownBlock
  vm : ∀ k, v.ownBlock = some k → May gs w k

theorem below_of_grown {B : Nat} {w w' : World} {v : Value} (hg : w.grownBy w' v.ownBlock) (hB : B ≤ w.heap.size) (hv : ∀ k, v.ownBlock = some k → B ≤ k) : Below B w w' := (Below.refl B w).grown hg hB hv

theorem push_step {B gb m : Nat} {gs : List Value} {len : Nat → Nat} {w : World} {i k : Nat} {ls : List Value} {long v v' : Value} {wr w' : World} {o : Obj} (h : Cst B gb m gs len w i ls long wr) (hv : Vst B gs len w i k ls v wr) (hB : B ≤ wr.heap.size) (hi : i < 1000)
    (ho : w'.ownsRow B 39 1 v' (len i + k + 1) ((tailed len i k).map U ++ [.int .u32 (2000 + (i : Int))])) (hg : (wr.alloc o).grownBy w' v.ownBlock) (hk : Keeps (wr.alloc o) w' v (len i + k))
    (hb : v'.ownBlock = v.ownBlock ∨ ∀ g, v'.ownBlock = some g → wr.heap.size + 1 ≤ g) :
    Cst B gb m gs len w i ls long w' ∧ Vst B gs len w i (k + 1) ls v' w' ∧ B ≤ w'.heap.size := by
  have hsz : (wr.alloc o).heap.size = wr.heap.size + 1 := by simp
  have hB1 : B ≤ (wr.alloc o).heap.size := by omega
  have h1 := h.alloc o
  have hvo1 : Own B 39 (wr.alloc o) v (tailed len i k) := ⟨hv.vo.1, hv.vo.2.alloc o⟩
  have hbel : Bex gs w w' := h1.bel.grown hg hv.vm
  refine ⟨h1.keep hk hbel ?_ ?_ ?_ ?_, ⟨⟨?_, ?_⟩, ?_, ?_, ?_⟩, Nat.le_trans hB1 hg.size⟩
  · intro j hj he
    by_cases hji : j = i
    · subst hji; omega
    · have := short_of (n := len i + k) (h1.fam j hj).2 (hv.vg j hj hji) he
      rw [marks_len] at this; exact this
  · have := own_types h1.got hvo1.2 (by decide)
    simp only [Value.ownBlock] at this
    rcases this with h | h
    · simp at h
    · exact h
  · intro he
    rcases own_types h1.lo hvo1.2 (by decide) with h | h
    · have := own_none h1.lo h; omega
    · exact absurd he h
  · intro j hj he
    have := short_of (n := len i + k) (h1.lso j hj).2 (hv.vl j hj) he
    rw [tailed_len] at this; exact this
  · rw [tailed_succ]
    intro x hx
    rcases List.mem_append.1 hx with hx | hx
    · exact hv.vo.1 x hx
    · simp at hx; omega
  · rw [tailed_len, tailed_succ, List.map_append]
    have hU : [(.int .u32 (2000 + (i : Int)) : Value)] = List.map U [2000 + i] := by simp [U]
    rw [← hU]
    exact ho
  · intro j hj hji
    rcases hb with hb | hb
    · rw [hb]; exact hv.vg j hj hji
    · rcases hg' : v'.ownBlock with _ | g
      · exact Or.inl rfl
      · right
        have h5 := hb g hg'
        rcases hj' : (at_ gs j).ownBlock with _ | g2
        · simp
        · have := ((h1.fam j hj).block g2 hj').2
          simp only [ne_eq, Option.some.injEq]; omega
  · intro j hj
    rcases hb with hb | hb
    · rw [hb]; exact hv.vl j hj
    · rcases hg' : v'.ownBlock with _ | g
      · exact Or.inl rfl
      · right
        have h5 := hb g hg'
        rcases hj' : (at_ ls j).ownBlock with _ | g2
        · simp
        · have := ((h1.lso j hj).block g2 hj').2
          simp only [ne_eq, Option.some.injEq]; omega
  · intro g hg'
    rcases hb with hb | hb
    · exact hv.vm g (by rw [← hb]; exact hg')
    · have h5 := hb g hg'
      have h6 := h.bel.size
      exact Or.inr (by omega)

theorem at_snoc_lt {ls : List Value} {v : Value} {i j : Nat} (hl : ls.length = i) (hj : j < i) : at_ (ls ++ [v]) j = at_ ls j := by
  unfold at_
  rw [List.getD_eq_getElem?_getD, List.getD_eq_getElem?_getD, List.getElem?_append_left (by omega)]
theorem at_snoc_eq {ls : List Value} {v : Value} {i : Nat} (hl : ls.length = i) : at_ (ls ++ [v]) i = v := by
  unfold at_
  rw [List.getD_eq_getElem?_getD, List.getElem?_append_right (by omega)]
  simp [hl]

theorem long_step {B gb m : Nat} {gs : List Value} {len : Nat → Nat} {w : World} {i : Nat} {ls : List Value} {long v long' : Value} {wr w' : World} {o : Obj} (h : Cst B gb m gs len w i ls long wr) (hv : Vst B gs len w i 9 ls v wr) (hB : B ≤ wr.heap.size)
    (ho : w'.ownsRow B 25 1 long' (i + 1) (ls ++ [v])) (hg : (wr.alloc o).grownBy w' long.ownBlock) (hk : Keeps (wr.alloc o) w' long i)
    (hb : long'.ownBlock = long.ownBlock ∨ ∀ g, long'.ownBlock = some g → wr.heap.size + 1 ≤ g) :
    Cst B gb m gs len w (i + 1) (ls ++ [v]) long' w' ∧ B ≤ w'.heap.size := by
  have hsz : (wr.alloc o).heap.size = wr.heap.size + 1 := by simp
  have hB1 : B ≤ (wr.alloc o).heap.size := by omega
  have h1 := h.alloc o
  have hvo1 : Own B 39 (wr.alloc o) v (tailed len i 9) := ⟨hv.vo.1, hv.vo.2.alloc o⟩
  have hbel : Bex gs w w' := h1.bel.grown hg (fun g e => Or.inr (h.ln g e))
  have typ : ∀ u xs, Own B 39 (wr.alloc o) u xs → Own B 39 w' u xs := fun u xs hu => ⟨hu.1, hk _ _ _ _ _ hu.2 (fun he => by
    rcases own_types hu.2 h1.lo (by decide) with h | h
    · have := own_none hu.2 h; omega
    · exact absurd he h)⟩
  refine ⟨⟨fun j hj => typ _ _ (h1.fam j hj), hk _ _ _ _ _ h1.got (fun e => absurd e.symm (by simpa [Value.ownBlock] using h1.lg)), hbel, by rw [List.length_append, h.ll]; rfl, ho, ?_, ?_, ?_, ?_⟩, Nat.le_trans hB1 hg.size⟩
  · intro j hj
    by_cases hji : j = i
    · subst hji; rw [at_snoc_eq h.ll]; exact typ _ _ hvo1
    · rw [at_snoc_lt h.ll (by omega)]; exact typ _ _ (h1.lso j (by omega))
  · intro j hj j' hj' hne
    by_cases hji : j = i
    · subst hji; rw [at_snoc_eq h.ll]; exact hv.vg j' hj' hne
    · rw [at_snoc_lt h.ll (by omega)]; exact h.lsd j (by omega) j' hj' hne
  · rcases hb with hb | hb
    · rw [hb]; exact h.lg
    · intro e
      have h5 := hb gb e
      have := World.ownsRow.lt h1.got gb rfl
      omega
  · intro g e
    rcases hb with hb | hb
    · exact h.ln g (by rw [← hb]; exact e)
    · have h5 := hb g e
      have h6 := h.bel.size
      omega

theorem vst_start {B gb m : Nat} {gs : List Value} {len : Nat → Nat} {w : World} {i : Nat} {ls : List Value} {long : Value} {wr : World} (h : Cst B gb m gs len w i ls long wr) (hd : Dist gs) (hi : i < gs.length) : Vst B gs len w i 0 ls (at_ gs i) wr :=
  ⟨by rw [tailed_zero]; exact h.fam i hi, fun j hj hne => hd i j hi hj (fun e => hne e.symm), fun j hj => apart_symm (h.lsd j hj i hi (by omega)), fun k hk => Or.inl ⟨i, hi, hk⟩⟩

theorem cst_start {B gb m : Nat} {gs : List Value} {len : Nat → Nat} {w wr : World} (hs : St3 B gb gs len w m 0 wr) (hm : gs.length = m) (hgb : B ≤ gb) (hmm : m ≤ 1000) : Cst B gb m gs len w 0 [] (.slice none 0 0) wr := by
  obtain ⟨ys, hf, hl, h1, h2, h3, h4⟩ := hs
  refine ⟨fun j hj => ?_, ⟨by simp [hm], Or.inr ⟨gb, m, gs.toArray, rfl, hgb, h3, Nat.le_refl _, by simp [maxLen]; omega, by simp [hm], by simp only [Nat.mul_one]; exact List.take_of_length_le (by omega)⟩⟩, h4, rfl, World.ownsRow_nil _ _ _ _, fun j hj => by omega, fun j hj => by omega, by simp [Value.ownBlock], fun k hk => by simp [Value.ownBlock] at hk⟩
  have := hf j hj
  rw [h1 j (by omega)] at this
  exact this

theorem Cst.gotCell {B gb m : Nat} {gs : List Value} {len : Nat → Nat} {w : World} {i : Nat} {ls : List Value} {long : Value} {wr : World} (h : Cst B gb m gs len w i ls long wr) (hm : gs.length = m) {j : Nat} (hj : j < m) : wr.cell? ⟨gb, j, none⟩ = some (at_ gs j) := by
  rw [World.ownsRow.cellAt h.got j (by simpa using hj)]
  rw [List.getElem?_eq_getElem (by omega)]
  simp [at_, hm, hj]
theorem Cst.longShape {B gb m : Nat} {gs : List Value} {len : Nat → Nat} {w : World} {i : Nat} {ls : List Value} {long : Value} {wr : World} (h : Cst B gb m gs len w i ls long wr) : ∃ ao cap, long = .slice ao i cap ∧ i ≤ cap ∧ cap ≤ 9223372036854775807 ∧ (∀ j, j < i → ∃ lb, ao = some ⟨lb, 0, none⟩ ∧ wr.cell? ⟨lb, j, none⟩ = some (at_ ls j)) := by
  have hlo := h.lo
  rcases h.lo.2 with ⟨rfl, h0⟩ | ⟨g, cap, cur, rfl, h3, h4, h5, h6, h7, h8⟩
  · exact ⟨none, 0, by rw [h0], by omega, by omega, fun j hj => by omega⟩
  · refine ⟨_, cap, rfl, h5, h6, fun j hj => ⟨g, rfl, ?_⟩⟩
    rw [World.ownsRow.cellAt hlo j (by simpa using hj), List.getElem?_eq_getElem (by have := h.ll; omega)]
    simp [at_, h.ll, hj]

theorem Own.alloc {B e : Nat} {w : World} {v : Value} {xs : List Nat} (h : Own B e w v xs) (o : Obj) : Own B e (w.alloc o) v xs := ⟨h.1, h.2.alloc o⟩
theorem Num.alloc {w : World} {v : Value} {xs : List Nat} (h : Num w v xs) (o : Obj) : Num (w.alloc o) v xs := h.below (Nat.le_refl _) ((Below.refl _ _).alloc (Nat.le_refl _) o)
/-- Two rows, the one made behind the other. -/
theorem apart_later {B B' e e' : Nat} {w w' : World} {u v : Value} {xs ys : List Nat} (h : Own B e w u xs) (h' : Own B' e' w' v ys) (hB : w.heap.size ≤ B') : u.ownBlock = none ∨ u.ownBlock ≠ v.ownBlock := by
  rcases hu : u.ownBlock with _ | g
  · exact Or.inl rfl
  · right
    rcases hv : v.ownBlock with _ | g'
    · simp
    · have := (h.block g hu).2
      have := (h'.block g' hv).1
      simp only [ne_eq, Option.some.injEq]; omega
end Go.Proofs.Ytaekaikkldnikaa
