/-
  Proved here: how fractions lie in memory, and a move for a region of which two operations may come first.
-/
import Derived.Test.YtaafijifiiiblaaGreatWinMathAll
import Derived.Test.YtaafijifiiiblaaGreatGcd
namespace Go.Proofs.YtaafijifiiiblaaGreat
open Go.RowKit

/-- The three cells of a fraction. -/
def QCell (w : World) (g : Nat) (neg : Bool) (m d : Value) : Prop := w.heap[g]? = some (.cells #[.bool neg, m, d] 27 (0, 0))
theorem QCell.cells {w : World} {g : Nat} {neg : Bool} {m d : Value} (h : QCell w g neg m d) : w.cell? ⟨g, 0, none⟩ = some (.bool neg) ∧ w.cell? ⟨g, 1, none⟩ = some m ∧ w.cell? ⟨g, 2, none⟩ = some d := by
  refine ⟨?_, ?_, ?_⟩ <;> (rw [cell_of_row w g _ _ _ _ h]; rfl)
theorem QCell.thaw {w : World} {g : Nat} {neg : Bool} {m d : Value} (h : QCell w g neg m d) (k : Nat) : w.frozen? ⟨g, k, none⟩ = false := frozen_of_row w g k _ _ h
theorem QCell.below {w w' : World} {g : Nat} {neg : Bool} {m d : Value} (h : QCell w g neg m d) (hb : Below w.heap.size w w') : QCell w' g neg m d := by
  unfold QCell; rw [hb.block _ (Array.getElem?_eq_some_iff.1 h).1]; exact h
theorem qcell_step {w : World} {o : Obj} {g : Nat} {neg : Bool} {m d : Value} (h : QCell w g neg m d) : QCell (w.alloc o) g neg m d := h.below (belowA _ _)
theorem qcell_new (w : World) {neg : Bool} {m d : Value} {k : Nat} (hk : w.heap.size = k) : QCell (w.alloc (.cells #[.bool neg, m, d] 27)) k neg m d := by subst hk; exact heap_alloc_new w _
theorem QCell.write {w : World} {g : Nat} {neg : Bool} {m d : Value} (h : QCell w g neg m d) (n2 : Bool) (m2 d2 : Value) : QCell (((w.setCell ⟨g, 0, none⟩ (.bool n2)).setCell ⟨g, 1, none⟩ m2).setCell ⟨g, 2, none⟩ d2) g n2 m2 d2 := by
  unfold QCell
  have h1 := heap_setCell_same w g 0 _ _ (.bool n2) h
  have h2 := heap_setCell_same _ g 1 _ _ m2 h1
  have h3 := heap_setCell_same _ g 2 _ _ d2 h2
  rw [h3]
  rfl
theorem QCell.other {w : World} {g : Nat} {neg : Bool} {m d : Value} (h : QCell w g neg m d) {g' : Nat} (hne : g ≠ g') (k : Nat) (v : Value) : QCell (w.setCell ⟨g', k, none⟩ v) g neg m d := by
  unfold QCell
  rw [heap_setCell_other]
  · exact h
  · exact hne
/-- A fraction that can be read: the number above the line, the one below it as it stands. -/
def RRaw (w : World) (v : Value) (p : Int) (q : Nat) : Prop := ∃ n ao al ac bo bl bc ys, v = .agg #[.bool n, .slice ao al ac, .slice bo bl bc] ∧ INum w (.agg #[.bool n, .slice ao al ac]) p ∧ Num w (.slice bo bl bc) ys ∧ ys.length ≤ 1000000 ∧ val ys = q
theorem RRaw.below {w w' : World} {v : Value} {p : Int} {q : Nat} (h : RRaw w v p q) (hb : Below w.heap.size w w') : RRaw w' v p q := by
  obtain ⟨n, ao, al, ac, bo, bl, bc, ys, e, h1, h2, h3, h4⟩ := h
  exact ⟨n, ao, al, ac, bo, bl, bc, ys, e, h1.below hb, h2.below (Nat.le_refl _) hb, h3, h4⟩
/-- A fraction that can be read, of so many limbs. -/
def RNum (w : World) (v : Value) (x : Rat) (L : Nat) : Prop := ∃ p q, RRaw w v p q ∧ x = rq p q ∧ Sz p L ∧ Sz (und q) L
theorem RNum.below {w w' : World} {v : Value} {x : Rat} {L : Nat} (h : RNum w v x L) (hb : Below w.heap.size w w') : RNum w' v x L := by
  obtain ⟨p, q, h1, h2⟩ := h
  exact ⟨p, q, h1.below hb, h2⟩
/-- A fraction as it should be, in rows of the call's own. -/
def ROwn (B : Nat) (w : World) (v : Value) (r : Rat) : Prop := ∃ m d, v = .agg #[.bool (decide (r.num < 0)), m, d] ∧ Own B 100 w m (lim r.num.natAbs) ∧ Own B 100 w d (lim r.den) ∧ (m.ownBlock = none ∨ m.ownBlock ≠ d.ownBlock)
theorem ROwn.below {B : Nat} {w w' : World} {v : Value} {r : Rat} (h : ROwn B w v r) (hb : Below w.heap.size w w') : ROwn B w' v r := by
  obtain ⟨m, d, e, h1, h2, h3⟩ := h
  exact ⟨m, d, e, h1.below hb, h2.below hb, h3⟩
/-- A fraction as it should stand. -/
def RStd (w : World) (v : Value) (r : Rat) : Prop := ∃ n ao al ac bo bl bc, v = .agg #[.bool n, .slice ao al ac, .slice bo bl bc] ∧ n = decide (r.num < 0) ∧ Num w (.slice ao al ac) (lim r.num.natAbs) ∧ Num w (.slice bo bl bc) (lim r.den)
theorem ROwn.std {B : Nat} {w : World} {v : Value} {r : Rat} (h : ROwn B w v r) : RStd w v r := by
  obtain ⟨m, d, rfl, h1, h2, _⟩ := h
  obtain ⟨ao, al, ac, rfl⟩ := h1.sl
  obtain ⟨bo, bl, bc, rfl⟩ := h2.sl
  exact ⟨_, ao, al, ac, bo, bl, bc, rfl, rfl, h1.num, h2.num⟩
theorem RStd.num {w : World} {v : Value} {r : Rat} {L : Nat} (h : RStd w v r) (hs : RSz r L) (hL : L ≤ 1000000) : RNum w v r L := by
  obtain ⟨n, ao, al, ac, bo, bl, bc, rfl, rfl, h1, h2⟩ := h
  refine ⟨r.num, r.den, ⟨_, ao, al, ac, bo, bl, bc, _, rfl, ⟨_, _, _, _, _, rfl, h1, Nat.le_trans hs.num.len hL, ?_⟩, h2, ?_, val_lim _⟩, (rq_std r).symm, hs.num, ?_⟩
  · rw [val_lim]; exact zv_self _
  · have := hs.den.len
    rw [Int.natAbs_natCast] at this
    omega
  · unfold und
    rw [if_neg r.den_nz]
    exact hs.den
/-- What a maker of a fraction leaves. -/
def REnd (w : World) (r : Rat) (e : Ending) (w' : World) : Prop := ∃ v, e = .returned v ∧ ROwn w.heap.size w' v r ∧ Below w.heap.size w w'
theorem rat_done {w w3 : World} {g B : Nat} {r : Rat} {b : Bool} {m d : Value} (hb : b = decide (r.num < 0)) (hg : w.heap.size ≤ g) (hm : Own B 100 w3 m (lim r.num.natAbs)) (hd : Own B 100 w3 d (lim r.den)) (hap : m.ownBlock = none ∨ m.ownBlock ≠ d.ownBlock) (hgB : g < B) (hbel : Below w.heap.size w w3) :
    REnd w r (.returned (.agg #[.bool b, m, d])) (((w3.setCell ⟨g, 0, none⟩ (.bool b)).setCell ⟨g, 1, none⟩ m).setCell ⟨g, 2, none⟩ d) := by
  have hne : ∀ {v : Value} {xs : List Nat}, Own B 100 w3 v xs → v.ownBlock = none ∨ v.ownBlock ≠ some g := by
    intro v xs ho
    cases hm : v.ownBlock with
    | none => exact Or.inl rfl
    | some k =>
      right
      intro e
      rw [Option.some.injEq] at e
      have := (ho.block k hm).1
      omega
  exact ⟨_, rfl, ⟨m, d, by rw [hb], (((hm.other _ (hne hm)).other _ (hne hm)).other _ (hne hm)).mono (by omega), (((hd.other _ (hne hd)).other _ (hne hd)).other _ (hne hd)).mono (by omega), hap⟩, ((hbel.setCell (p := ⟨g, 0, none⟩) hg _).setCell (p := ⟨g, 1, none⟩) hg _).setCell (p := ⟨g, 2, none⟩) hg _⟩
theorem ROwn.rehome {B B' : Nat} {w : World} {v : Value} {r : Rat} (h : ROwn B w v r) (hB : B' ≤ B) : ROwn B' w v r := by
  obtain ⟨m, d, e, h1, h2, h3⟩ := h
  exact ⟨m, d, e, h1.mono hB, h2.mono hB, h3⟩

section
variable {P : Program} {l : List Oper} {Q : Exit → Act → World → Prop} {md : Region.Mode} {L : List (Nat × (World → Prop))}
/-- Number j or number k may come up. -/
theorem late_two (j k : Nat) {o o2 : Oper} {n : Nat} {done : Array Bool} {a : Act} {w : World} (hr : Region.ready md l.toArray done = [j, k]) (ho : l[j]? = some o) (ho2 : l[k]? = some o2)
    (h : ∀ K' : Act → World → Prop, Shut (∀ b u, Kept md l.toArray (done.setIfInBounds j true) u L → wpLate P md l.toArray Q L n (done.setIfInBounds j true) b u → K' b u) → if Region.wanted o (yielded l.toArray a.tmps) = true then Oper.wp P o a w K' Q else K' (a.put o.dst undef) w)
    (h2 : ∀ K' : Act → World → Prop, Shut (∀ b u, Kept md l.toArray (done.setIfInBounds k true) u L → wpLate P md l.toArray Q L n (done.setIfInBounds k true) b u → K' b u) → if Region.wanted o2 (yielded l.toArray a.tmps) = true then Oper.wp P o2 a w K' Q else K' (a.put o2.dst undef) w) :
    wpLate P md l.toArray Q L (n + 1) done a w := by
  constructor
  · intro h0; rw [h0] at hr; cases hr
  · intro i hi
    rw [hr] at hi
    rcases List.mem_cons.1 hi with e | hi
    · subst e
      exact wpOp_step (by rw [List.getElem?_toArray]; exact ho) (fun K' hK => h K' (fun b u h1 h2 => hK b u ⟨h1, h2⟩))
    · rw [List.mem_singleton] at hi
      subst hi
      exact wpOp_step (by rw [List.getElem?_toArray]; exact ho2) (fun K' hK => h2 K' (fun b u h1 h2 => hK b u ⟨h1, h2⟩))
end
end Go.Proofs.YtaafijifiiiblaaGreat
