/-
  Proved here: what some, split and follow of package frac's ratio answer.
-/
import Derived.Test.YtfnafgjnimfmjaaGreatDoorFracC
import Derived.Test.YtfnafgjnimfmjaaGreatDoorAllAll
namespace Go.Proofs.YtfnafgjnimfmjaaGreatDoor
open Go.RowKit
attribute [local go_sem ↓] Go.wp_at_zero Go.wp_at_succ

/-- The four cells of a ratio. -/
def ECell (w : World) (g : Nat) (n : Bool) (m : Value) (n2 : Bool) (m2 : Value) : Prop := w.heap[g]? = some (.cells #[.bool n, m, .bool n2, m2] 58 (0, 0))
theorem ECell.cells {w : World} {g : Nat} {n : Bool} {m : Value} {n2 : Bool} {m2 : Value} (h : ECell w g n m n2 m2) : w.cell? ⟨g, 0, none⟩ = some (.bool n) ∧ w.cell? ⟨g, 1, none⟩ = some m ∧ w.cell? ⟨g, 2, none⟩ = some (.bool n2) ∧ w.cell? ⟨g, 3, none⟩ = some m2 := by
  refine ⟨?_, ?_, ?_, ?_⟩ <;> (rw [cell_of_row w g _ _ _ _ h]; rfl)
theorem ECell.thaw {w : World} {g : Nat} {n : Bool} {m : Value} {n2 : Bool} {m2 : Value} (h : ECell w g n m n2 m2) (k : Nat) : w.frozen? ⟨g, k, none⟩ = false := frozen_of_row w g k _ _ h
theorem ECell.below {w w' : World} {g : Nat} {n : Bool} {m : Value} {n2 : Bool} {m2 : Value} (h : ECell w g n m n2 m2) (hb : Below w.heap.size w w') : ECell w' g n m n2 m2 := by
  unfold ECell; rw [hb.block _ (Array.getElem?_eq_some_iff.1 h).1]; exact h
theorem ecell_step {w : World} {o : Obj} {g : Nat} {n : Bool} {m : Value} {n2 : Bool} {m2 : Value} (h : ECell w g n m n2 m2) : ECell (w.alloc o) g n m n2 m2 := h.below (belowA _ _)
theorem ecell_new (w : World) {n : Bool} {m : Value} {n2 : Bool} {m2 : Value} {k : Nat} (hk : w.heap.size = k) : ECell (w.alloc (.cells #[.bool n, m, .bool n2, m2] 58)) k n m n2 m2 := by subst hk; exact heap_alloc_new w _
theorem ECell.write {w : World} {g : Nat} {n : Bool} {m : Value} {n2 : Bool} {m2 : Value} (h : ECell w g n m n2 m2) (a : Bool) (b : Value) (c : Bool) (d : Value) : ECell ((((w.setCell ⟨g, 0, none⟩ (.bool a)).setCell ⟨g, 1, none⟩ b).setCell ⟨g, 2, none⟩ (.bool c)).setCell ⟨g, 3, none⟩ d) g a b c d := by
  unfold ECell
  have h1 := heap_setCell_same w g 0 _ _ (.bool a) h
  have h2 := heap_setCell_same _ g 1 _ _ b h1
  have h3 := heap_setCell_same _ g 2 _ _ (.bool c) h2
  have h4 := heap_setCell_same _ g 3 _ _ d h3
  rw [h4]
  rfl
theorem ECell.other {w : World} {g : Nat} {n : Bool} {m : Value} {n2 : Bool} {m2 : Value} (h : ECell w g n m n2 m2) {g' : Nat} (hne : g ≠ g') (k : Nat) (v : Value) : ECell (w.setCell ⟨g', k, none⟩ v) g n m n2 m2 := by
  unfold ECell
  rw [heap_setCell_other]
  · exact h
  · exact hne
/-- A ratio that can be read. -/
def EV (w : World) (v : Value) (x y : Int) : Prop := ∃ nr ro rl rc mr rO rL rC, v = .agg #[.bool nr, .slice ro rl rc, .bool mr, .slice rO rL rC] ∧ INum w (.agg #[.bool nr, .slice ro rl rc]) x ∧ INum w (.agg #[.bool mr, .slice rO rL rC]) y
theorem EV.below {w w' : World} {v : Value} {x y : Int} (h : EV w v x y) (hb : Below w.heap.size w w') : EV w' v x y := by
  obtain ⟨nr, ro, rl, rc, mr, rO, rL, rC, e, h1, h2⟩ := h
  exact ⟨nr, ro, rl, rc, mr, rO, rL, rC, e, h1.below hb, h2.below hb⟩
theorem fr_le (x y : Int) : (fr x y).natAbs ≤ y.natAbs := by
  by_cases h : y = 0
  · subst h
    unfold fr rz
    simp
  · have h1 : rz x y = x.tmod y := by unfold rz; rw [if_neg h]
    have h2 : (x.tmod y).natAbs < y.natAbs := by rw [Int.natAbs_tmod]; exact Nat.mod_lt _ (by omega)
    have h3 : fup x y → (rz x y < 0 ∧ 0 < y) ∨ (0 < rz x y ∧ y < 0) := by
      unfold fup
      have C : ∀ z : Int, (z < 0 ∧ cmpZ z 0 = -1) ∨ (z = 0 ∧ cmpZ z 0 = 0) ∨ (0 < z ∧ cmpZ z 0 = 1) := by
        intro z
        unfold cmpZ
        rcases Int.lt_trichotomy z 0 with h | h | h
        · exact Or.inl ⟨h, if_pos h⟩
        · exact Or.inr (Or.inl ⟨h, by rw [if_neg (by omega), if_pos h]⟩)
        · exact Or.inr (Or.inr ⟨h, by rw [if_neg (by omega), if_neg (by omega)]⟩)
      rcases C (rz x y) with ⟨a, e⟩ | ⟨a, e⟩ | ⟨a, e⟩ <;> rcases C y with ⟨b, e2⟩ | ⟨b, e2⟩ | ⟨b, e2⟩ <;> rw [e, e2] <;> omega
    rw [h1] at h3
    unfold fr
    by_cases hf : fup x y
    · rw [if_pos hf, h1]
      have := h3 hf
      omega
    · rw [if_neg hf, h1]; omega
/-- A ratio in rows of the call's own. -/
def EOwn (B : Nat) (w : World) (v : Value) (X Y : Int) : Prop := ∃ m d, v = .agg #[.bool (decide (X < 0)), m, .bool (decide (Y < 0)), d] ∧ Own B 37 w m (lim X.natAbs) ∧ Own B 37 w d (lim Y.natAbs) ∧ (m.ownBlock = none ∨ m.ownBlock ≠ d.ownBlock)
def EEnd (w : World) (X Y : Int) (e : Ending) (w' : World) : Prop := ∃ v, e = .returned v ∧ EOwn w.heap.size w' v X Y ∧ Below w.heap.size w w'
theorem ratio_done {w w3 : World} {g B : Nat} {X Y : Int} {b c : Bool} {m d : Value} (hb : b = decide (X < 0)) (hc : c = decide (Y < 0)) (hg : w.heap.size ≤ g) (hm : Own B 37 w3 m (lim X.natAbs)) (hd : Own B 37 w3 d (lim Y.natAbs)) (hap : m.ownBlock = none ∨ m.ownBlock ≠ d.ownBlock) (hgB : g < B) (hbel : Below w.heap.size w w3) :
    EEnd w X Y (.returned (.agg #[.bool b, m, .bool c, d])) ((((w3.setCell ⟨g, 0, none⟩ (.bool b)).setCell ⟨g, 1, none⟩ m).setCell ⟨g, 2, none⟩ (.bool c)).setCell ⟨g, 3, none⟩ d) := by
  subst hb hc
  refine ⟨_, rfl, ⟨m, d, rfl, ((((hm.other _ (own_ne hm hgB)).other _ (own_ne hm hgB)).other _ (own_ne hm hgB)).other _ (own_ne hm hgB)).mono (by omega), ((((hd.other _ (own_ne hd hgB)).other _ (own_ne hd hgB)).other _ (own_ne hd hgB)).other _ (own_ne hd hgB)).mono (by omega), hap⟩, ?_⟩
  exact (((hbel.setCell (p := ⟨g, 0, none⟩) hg _).setCell (p := ⟨g, 1, none⟩) hg _).setCell (p := ⟨g, 2, none⟩) hg _).setCell (p := ⟨g, 3, none⟩) hg _
theorem icell_drew {w : World} {g : Nat} {n : Bool} {m : Value} (h : ICell w g n m) : ICell w.drew g n m := h
theorem ecell_drew {w : World} {g : Nat} {n : Bool} {m : Value} {n2 : Bool} {m2 : Value} (h : ECell w g n m n2 m2) : ECell w.drew g n m n2 m2 := h
theorem own_drew {B e : Nat} {w : World} {m : Value} {xs : List Nat} (h : Own B e w m xs) : Own B e w.drew m xs := h
/-- Results of two cells of several values each. -/
theorem results_cc {P : Program} {fn : Func} {p q : Tmp} {ty ty2 : TypeId} (h : fn.results = #[.cell p ty, .cell q ty2]) (tmps : Array Value) (w : World) (g g2 : Nat) (t t2 : TypeId) (cs cs2 : Array Value) (fr fr2 : Nat × Nat) (d d2 : TypeDesc)
    (hp : tmps.getD p undef = .pointer (some ⟨g, 0, none⟩)) (hq : tmps.getD q undef = .pointer (some ⟨g2, 0, none⟩)) (hg : w.heap[g]? = some (.cells cs t fr)) (hg2 : w.heap[g2]? = some (.cells cs2 t2 fr2))
    (hu : P.underlying ty = some d) (hd : (match d with | .struct _ | .array _ _ => true | _ => false) = true) (hi : (P.info? ty).map (·.size) = some cs.size)
    (hu2 : P.underlying ty2 = some d2) (hd2 : (match d2 with | .struct _ | .array _ _ => true | _ => false) = true) (hi2 : (P.info? ty2).map (·.size) = some cs2.size) :
    (results fn tmps).run P w = .ok (.tuple #[.agg cs, .agg cs2]) w := by
  have hp' : tmps[p]?.getD undef = .pointer (some ⟨g, 0, none⟩) := by simpa using hp
  have hq' : tmps[q]?.getD undef = .pointer (some ⟨g2, 0, none⟩) := by simpa using hq
  simp [results, h, hp', hq', asAddr, run_loadVar_row w g t ty cs fr d hg hu hd hi, run_loadVar_row w g2 t2 ty2 cs2 fr2 d2 hg2 hu2 hd2 hi2]
set_option maxRecDepth 100000 in
set_option maxHeartbeats 6400000 in
theorem c_some {v : Value} {x y : Int} {w : World} (sm : Bool) (hs : sm = (cmpZ y 0 != 0)) (h : EV w v x y) : Calls Tryz.prog 33 #[v] w fun e w' => e = .returned (.bool sm) ∧ Below w.heap.size w w' := by
  obtain ⟨nr, ro, rl, rc, mr, rO, rL, rC, rfl, i1, i2⟩ := h
  clear i1
  have HC : Hid (∀ c, cmpZ y 0 = c → sm = (c != 0)) := fun c hc => by rw [hs, hc]
  clear hs
  obtain ⟨W1, hW1⟩ : ∃ W1, W1 = w.alloc (.cells #[.bool nr, .slice ro rl rc, .bool mr, .slice rO rL rC] 58) := ⟨_, rfl⟩
  have qr : ECell W1 (w.heap.size) nr (.slice ro rl rc) mr (.slice rO rL rC) := by rw [hW1]; exact (ecell_new _ (by simp))
  have hb : Below w.heap.size w W1 := by rw [hW1]; exact belowA w _
  have hsz : w.heap.size < W1.heap.size := by rw [hW1]; simp
  replace i2 := i2.below hb
  have HW1 : Hid (W1 = w.alloc (.cells #[.bool nr, .slice ro rl rc, .bool mr, .slice rO rL rC] 58)) := hW1
  clear hW1
  go_enter Tryz.func33, Tryz.ntmps33
  go_wp2_with fail
  rw [← HW1.out]
  clear HW1
  obtain ⟨g, hg⟩ : ∃ g, g = w.heap.size := ⟨_, rfl⟩
  rw [← hg] at qr hsz ⊢
  have HG : Hid (g = w.heap.size) := hg
  clear hg
  obtain ⟨cqr0, cqr1, cqr2, cqr3⟩ := qr.cells
  go_wp2_with fail
  clear cqr0 cqr1 cqr2 cqr3
  refine (c_sign i2).mono ?_
  rintro e w2 ⟨rfl, b⟩
  replace i2 := i2.below b
  replace qr := qr.below b
  replace hb := bstep hb b
  replace hsz := Nat.lt_of_lt_of_le hsz b.size
  clear b
  generalize hc9 : cmpZ y 0 = c
  have hc := HC.out c hc9
  clear hc9 HC
  subst hc
  have HE : Hid (Below w.heap.size w w2) := hb
  clear hb hsz qr i2
  go_wp2
  go_ret
  exact ⟨rfl, HE.out⟩
set_option maxRecDepth 100000 in
set_option maxHeartbeats 6400000 in
theorem c_split {v : Value} {x y : Int} {w : World} (h : EV w v x y) : Calls Tryz.prog 34 #[v] w fun e w' => ∃ t u, e = .returned (.tuple #[t, u]) ∧ IOwn w.heap.size w' t (fq x y) ∧ EV w' u y (fr x y) ∧ Below w.heap.size w w' := by
  obtain ⟨nr, ro, rl, rc, mr, rO, rL, rC, rfl, i1, i2⟩ := h
  obtain ⟨Z, hZ⟩ : ∃ Z, Z = fq x y := ⟨_, rfl⟩
  obtain ⟨R, hR⟩ : ∃ R, R = fr x y := ⟨_, rfl⟩
  have HZ : Hid (fq x y = Z ∧ fr x y = R) := ⟨hZ.symm, hR.symm⟩
  have HI2 : Hid (INum w (.agg #[.bool mr, .slice rO rL rC]) y) := i2
  have HSR : Hid (Sz R 1000000) := ⟨Nat.lt_of_le_of_lt (by rw [hR]; exact fr_le x y) i2.sz.lt⟩
  rw [← hZ, ← hR]
  clear hZ hR
  obtain ⟨W1, hW1⟩ : ∃ W1, W1 = ((w.alloc (.cells #[.bool nr, .slice ro rl rc, .bool mr, .slice rO rL rC] 58)).alloc (.cells #[.bool false, .slice none 0 0] 25)).alloc (.cells #[.bool false, .slice none 0 0, .bool false, .slice none 0 0] 58) := ⟨_, rfl⟩
  have qr : ECell W1 (w.heap.size) nr (.slice ro rl rc) mr (.slice rO rL rC) := by rw [hW1]; exact (ecell_step (ecell_step (ecell_new _ (by simp))))
  have qT : ICell W1 (w.heap.size + 1) false (.slice none 0 0) := by rw [hW1]; exact (icell_step (icell_new _ (by simp)))
  have qS : ECell W1 (w.heap.size + 1 + 1) false (.slice none 0 0) false (.slice none 0 0) := by rw [hW1]; exact (ecell_new _ (by simp))
  have hb : Below w.heap.size w W1 := by rw [hW1]; exact bstep (bstep (belowA w _) (belowA _ _)) (belowA _ _)
  have hsz : w.heap.size + 1 + 1 < W1.heap.size := by rw [hW1]; simp
  replace i2 := i2.below hb
  replace i1 := i1.below hb
  have HW1 : Hid (W1 = ((w.alloc (.cells #[.bool nr, .slice ro rl rc, .bool mr, .slice rO rL rC] 58)).alloc (.cells #[.bool false, .slice none 0 0] 25)).alloc (.cells #[.bool false, .slice none 0 0, .bool false, .slice none 0 0] 58)) := hW1
  clear hW1
  go_enter Tryz.func34, Tryz.ntmps34
  go_wp2_with fail
  rw [← HW1.out]
  clear HW1
  obtain ⟨g, hg⟩ : ∃ g, g = w.heap.size := ⟨_, rfl⟩
  rw [← hg] at qr qT qS hsz ⊢
  have HG : Hid (g = w.heap.size) := hg
  clear hg
  obtain ⟨cqr0, cqr1, cqr2, cqr3⟩ := qr.cells
  obtain ⟨cqT0, cqT1⟩ := qT.cells
  obtain ⟨cqS0, cqS1, cqS2, cqS3⟩ := qS.cells
  go_wp2_with fail
  clear cqr0 cqr1 cqr2 cqr3 cqT0 cqT1 cqS0 cqS1 cqS2 cqS3
  have hc := c_floor i1 i2
  rw [HZ.out.1, HZ.out.2] at hc
  have hszz := hsz
  refine (hc).mono ?_
  rintro e w2 ⟨mq, mr9, rfl, hq, hr, hqr, b⟩
  clear hc hqr
  obtain ⟨zo, zl, zc, rfl⟩ := hq.sl
  obtain ⟨so, sl, sc, rfl⟩ := hr.sl
  replace hq := hq.mono (B' := g + 3) (by omega)
  replace hr := hr.mono (B' := g + 3) (by omega)
  replace i1 := i1.below b
  replace i2 := i2.below b
  replace qr := qr.below b
  replace qT := qT.below b
  replace qS := qS.below b
  replace hb := bstep hb b
  replace hsz := Nat.lt_of_lt_of_le hsz b.size
  clear b
  generalize hbq : decide (Z < 0) = bq
  generalize hbr : decide (R < 0) = br
  have HBQ : Hid (decide (Z < 0) = bq ∧ decide (R < 0) = br) := ⟨hbq, hbr⟩
  clear hbq hbr
  have hszP := hsz
  obtain ⟨W3, hW3⟩ : ∃ W, W = (w2.alloc (.cells #[.bool bq, .slice zo zl zc] 25)).alloc (.cells #[.bool br, .slice so sl sc] 25) := ⟨_, rfl⟩
  have qt : ICell W3 (w2.heap.size) bq (.slice zo zl zc) := by rw [hW3]; exact (icell_step (icell_new _ rfl))
  have ql : ICell W3 (w2.heap.size + 1) br (.slice so sl sc) := by rw [hW3]; exact (icell_new _ (by simp))
  have b : Below w2.heap.size w2 W3 := by rw [hW3]; exact bstep (belowA _ _) (belowA _ _)
  replace i1 := i1.below b
  replace i2 := i2.below b
  replace hq := hq.below b
  replace hr := hr.below b
  replace qr := qr.below b
  replace qT := qT.below b
  replace qS := qS.below b
  replace hb := bstep hb b
  replace hsz := Nat.lt_of_lt_of_le hsz b.size
  clear b
  have rqr0 : ((w2.alloc (.cells #[.bool bq, .slice zo zl zc] 25)).alloc (.cells #[.bool br, .slice so sl sc] 25)).cell? ⟨g, 0, none⟩ = some (.bool nr) := by rw [← hW3]; exact qr.cells.1
  have rqr1 : ((w2.alloc (.cells #[.bool bq, .slice zo zl zc] 25)).alloc (.cells #[.bool br, .slice so sl sc] 25)).cell? ⟨g, 1, none⟩ = some (.slice ro rl rc) := by rw [← hW3]; exact qr.cells.2.1
  have rqr2 : ((w2.alloc (.cells #[.bool bq, .slice zo zl zc] 25)).alloc (.cells #[.bool br, .slice so sl sc] 25)).cell? ⟨g, 2, none⟩ = some (.bool mr) := by rw [← hW3]; exact qr.cells.2.2.1
  have rqr3 : ((w2.alloc (.cells #[.bool bq, .slice zo zl zc] 25)).alloc (.cells #[.bool br, .slice so sl sc] 25)).cell? ⟨g, 3, none⟩ = some (.slice rO rL rC) := by rw [← hW3]; exact qr.cells.2.2.2
  have rqT0 : ((w2.alloc (.cells #[.bool bq, .slice zo zl zc] 25)).alloc (.cells #[.bool br, .slice so sl sc] 25)).cell? ⟨g + 1, 0, none⟩ = some (.bool false) := by rw [← hW3]; exact qT.cells.1
  have rqT1 : ((w2.alloc (.cells #[.bool bq, .slice zo zl zc] 25)).alloc (.cells #[.bool br, .slice so sl sc] 25)).cell? ⟨g + 1, 1, none⟩ = some (.slice none 0 0) := by rw [← hW3]; exact qT.cells.2
  have rqS0 : ((w2.alloc (.cells #[.bool bq, .slice zo zl zc] 25)).alloc (.cells #[.bool br, .slice so sl sc] 25)).cell? ⟨g + 1 + 1, 0, none⟩ = some (.bool false) := by rw [← hW3]; exact qS.cells.1
  have rqS1 : ((w2.alloc (.cells #[.bool bq, .slice zo zl zc] 25)).alloc (.cells #[.bool br, .slice so sl sc] 25)).cell? ⟨g + 1 + 1, 1, none⟩ = some (.slice none 0 0) := by rw [← hW3]; exact qS.cells.2.1
  have rqS2 : ((w2.alloc (.cells #[.bool bq, .slice zo zl zc] 25)).alloc (.cells #[.bool br, .slice so sl sc] 25)).cell? ⟨g + 1 + 1, 2, none⟩ = some (.bool false) := by rw [← hW3]; exact qS.cells.2.2.1
  have rqS3 : ((w2.alloc (.cells #[.bool bq, .slice zo zl zc] 25)).alloc (.cells #[.bool br, .slice so sl sc] 25)).cell? ⟨g + 1 + 1, 3, none⟩ = some (.slice none 0 0) := by rw [← hW3]; exact qS.cells.2.2.2
  have rqt0 : ((w2.alloc (.cells #[.bool bq, .slice zo zl zc] 25)).alloc (.cells #[.bool br, .slice so sl sc] 25)).cell? ⟨w2.heap.size, 0, none⟩ = some (.bool bq) := by rw [← hW3]; exact qt.cells.1
  have rqt1 : ((w2.alloc (.cells #[.bool bq, .slice zo zl zc] 25)).alloc (.cells #[.bool br, .slice so sl sc] 25)).cell? ⟨w2.heap.size, 1, none⟩ = some (.slice zo zl zc) := by rw [← hW3]; exact qt.cells.2
  have rql0 : ((w2.alloc (.cells #[.bool bq, .slice zo zl zc] 25)).alloc (.cells #[.bool br, .slice so sl sc] 25)).cell? ⟨w2.heap.size + 1, 0, none⟩ = some (.bool br) := by rw [← hW3]; exact ql.cells.1
  have rql1 : ((w2.alloc (.cells #[.bool bq, .slice zo zl zc] 25)).alloc (.cells #[.bool br, .slice so sl sc] 25)).cell? ⟨w2.heap.size + 1, 1, none⟩ = some (.slice so sl sc) := by rw [← hW3]; exact ql.cells.2
  obtain ⟨v3, hv3⟩ : ∃ v, v = w2.heap.size := ⟨_, rfl⟩
  rw [← hv3] at qt ql
  have HW3 : Hid (W3 = (w2.alloc (.cells #[.bool bq, .slice zo zl zc] 25)).alloc (.cells #[.bool br, .slice so sl sc] 25)) := hW3
  have Hv3 : Hid (v3 = w2.heap.size) := hv3
  clear hW3 hv3
  go_wp2_with fail
  rw [← HW3.out, ← Hv3.out]
  have hgv : g + 1 + 1 < v3 := by rw [Hv3.out]; exact hszP
  clear hszP
  clear HW3 Hv3 rqr0 rqr1 rqr2 rqr3 rqT0 rqT1 rqS0 rqS1 rqS2 rqS3 rqt0 rqt1 rql0 rql1
  have n1 : ¬ v3 + 1 = g + 1 := by omega
  have n2 : ¬ v3 = g + 1 := by omega
  have n3 : ¬ g + 1 = v3 := by omega
  have n4 : ¬ g + 1 = v3 + 1 := by omega
  have n5 : ¬ g = g + 1 := by omega
  have n6 : ¬ g + 1 = g := by omega
  have n7 : ¬ g + 1 + 1 = g + 1 := by omega
  obtain ⟨cqr0, cqr1, cqr2, cqr3⟩ := qr.cells
  obtain ⟨cqT0, cqT1⟩ := qT.cells
  obtain ⟨cqS0, cqS1, cqS2, cqS3⟩ := qS.cells
  obtain ⟨cqt0, cqt1⟩ := qt.cells
  obtain ⟨cql0, cql1⟩ := ql.cells
  have f0 := qT.thaw 0
  have f1 := qT.thaw 1
  have f2 := qS.thaw 0
  have f3 := qS.thaw 1
  have f4 := qS.thaw 2
  have f5 := qS.thaw 3
  have hl1 : g + 1 < g + 3 := by omega
  have hl2 : g + 1 + 1 < g + 3 := by omega
  have m1 : g + 1 ≠ g + 1 + 1 := by omega
  have m2 : g + 1 + 1 ≠ g + 1 := by omega
  have hgw : w.heap.size ≤ g := by rw [HG.out]; exact Nat.le_refl _
  have hg1 : w.heap.size ≤ g + 1 := by omega
  have hg2 : w.heap.size ≤ g + 1 + 1 := by omega
  have hbF : Below w.heap.size w ((((((W3.setCell ⟨g + 1, 0, none⟩ (.bool bq)).setCell ⟨g + 1, 1, none⟩ (.slice zo zl zc)).setCell ⟨g + 1 + 1, 0, none⟩ (.bool mr)).setCell ⟨g + 1 + 1, 1, none⟩ (.slice rO rL rC)).setCell ⟨g + 1 + 1, 2, none⟩ (.bool br)).setCell ⟨g + 1 + 1, 3, none⟩ (.slice so sl sc)).drew := ((((((hb.setCell (p := ⟨g + 1, 0, none⟩) hg1 _).setCell (p := ⟨g + 1, 1, none⟩) hg1 _).setCell (p := ⟨g + 1 + 1, 0, none⟩) hg2 _).setCell (p := ⟨g + 1 + 1, 1, none⟩) hg2 _).setCell (p := ⟨g + 1 + 1, 2, none⟩) hg2 _).setCell (p := ⟨g + 1 + 1, 3, none⟩) hg2 _).drew
  have HT : Hid (ICell ((((((W3.setCell ⟨g + 1, 0, none⟩ (.bool bq)).setCell ⟨g + 1, 1, none⟩ (.slice zo zl zc)).setCell ⟨g + 1 + 1, 0, none⟩ (.bool mr)).setCell ⟨g + 1 + 1, 1, none⟩ (.slice rO rL rC)).setCell ⟨g + 1 + 1, 2, none⟩ (.bool br)).setCell ⟨g + 1 + 1, 3, none⟩ (.slice so sl sc)).drew (g + 1) bq (.slice zo zl zc)) := icell_drew (((((qT.write bq (.slice zo zl zc)).other m1 0 (.bool mr)).other m1 1 (.slice rO rL rC)).other m1 2 (.bool br)).other m1 3 (.slice so sl sc))
  have HS : Hid (ECell ((((((W3.setCell ⟨g + 1, 0, none⟩ (.bool bq)).setCell ⟨g + 1, 1, none⟩ (.slice zo zl zc)).setCell ⟨g + 1 + 1, 0, none⟩ (.bool mr)).setCell ⟨g + 1 + 1, 1, none⟩ (.slice rO rL rC)).setCell ⟨g + 1 + 1, 2, none⟩ (.bool br)).setCell ⟨g + 1 + 1, 3, none⟩ (.slice so sl sc)).drew (g + 1 + 1) mr (.slice rO rL rC) br (.slice so sl sc)) := ecell_drew (((qS.other m2 0 (.bool bq)).other m2 1 (.slice zo zl zc)).write _ _ _ _)
  have oq : Own (g + 3) 37 ((((((W3.setCell ⟨g + 1, 0, none⟩ (.bool bq)).setCell ⟨g + 1, 1, none⟩ (.slice zo zl zc)).setCell ⟨g + 1 + 1, 0, none⟩ (.bool mr)).setCell ⟨g + 1 + 1, 1, none⟩ (.slice rO rL rC)).setCell ⟨g + 1 + 1, 2, none⟩ (.bool br)).setCell ⟨g + 1 + 1, 3, none⟩ (.slice so sl sc)).drew (.slice zo zl zc) (lim Z.natAbs) := own_drew ((((((hq.other _ (own_ne hq hl1)).other _ (own_ne hq hl1)).other _ (own_ne hq hl2)).other _ (own_ne hq hl2)).other _ (own_ne hq hl2)).other _ (own_ne hq hl2))
  have or9 : Own (g + 3) 37 ((((((W3.setCell ⟨g + 1, 0, none⟩ (.bool bq)).setCell ⟨g + 1, 1, none⟩ (.slice zo zl zc)).setCell ⟨g + 1 + 1, 0, none⟩ (.bool mr)).setCell ⟨g + 1 + 1, 1, none⟩ (.slice rO rL rC)).setCell ⟨g + 1 + 1, 2, none⟩ (.bool br)).setCell ⟨g + 1 + 1, 3, none⟩ (.slice so sl sc)).drew (.slice so sl sc) (lim R.natAbs) := own_drew ((((((hr.other _ (own_ne hr hl1)).other _ (own_ne hr hl1)).other _ (own_ne hr hl2)).other _ (own_ne hr hl2)).other _ (own_ne hr hl2)).other _ (own_ne hr hl2))
  have HE : Hid (IOwn w.heap.size ((((((W3.setCell ⟨g + 1, 0, none⟩ (.bool bq)).setCell ⟨g + 1, 1, none⟩ (.slice zo zl zc)).setCell ⟨g + 1 + 1, 0, none⟩ (.bool mr)).setCell ⟨g + 1 + 1, 1, none⟩ (.slice rO rL rC)).setCell ⟨g + 1 + 1, 2, none⟩ (.bool br)).setCell ⟨g + 1 + 1, 3, none⟩ (.slice so sl sc)).drew (.agg #[.bool bq, .slice zo zl zc]) Z ∧ EV ((((((W3.setCell ⟨g + 1, 0, none⟩ (.bool bq)).setCell ⟨g + 1, 1, none⟩ (.slice zo zl zc)).setCell ⟨g + 1 + 1, 0, none⟩ (.bool mr)).setCell ⟨g + 1 + 1, 1, none⟩ (.slice rO rL rC)).setCell ⟨g + 1 + 1, 2, none⟩ (.bool br)).setCell ⟨g + 1 + 1, 3, none⟩ (.slice so sl sc)).drew (.agg #[.bool mr, .slice rO rL rC, .bool br, .slice so sl sc]) y R ∧ Below w.heap.size w ((((((W3.setCell ⟨g + 1, 0, none⟩ (.bool bq)).setCell ⟨g + 1, 1, none⟩ (.slice zo zl zc)).setCell ⟨g + 1 + 1, 0, none⟩ (.bool mr)).setCell ⟨g + 1 + 1, 1, none⟩ (.slice rO rL rC)).setCell ⟨g + 1 + 1, 2, none⟩ (.bool br)).setCell ⟨g + 1 + 1, 3, none⟩ (.slice so sl sc)).drew) := by
    obtain ⟨e1, e2⟩ := HBQ.out
    subst e1 e2
    exact ⟨⟨_, rfl, oq.mono (by omega)⟩, ⟨_, _, _, _, _, _, _, _, rfl, HI2.out.below hbF, IOwn.num ⟨_, rfl, or9⟩ HSR.out (Nat.le_refl _)⟩, hbF⟩
  clear hl1 hl2 m1 m2 hg1 hg2 oq or9 hbF hq hr hb hsz i1 i2 qr qT qS qt ql hszz hgv hgw
  go_region
  clear n1 n2 n3 n4 n5 n6 n7 f0 f1 f2 f3 f4 f5
  go_wp2_with fail
  (try simp only [Exit.inBlock, Exit.then])
  exact bodyPost_ret (results_cc rfl _ _ (g + 1) (g + 1 + 1) 25 58 _ _ (0, 0) (0, 0) _ _ rfl rfl HT.out HS.out Tryz.underlying25 rfl (by kernel_rfl) Tryz.underlying58 rfl (by kernel_rfl)) rfl ⟨_, _, rfl, HE.out⟩
set_option maxRecDepth 100000 in
set_option maxHeartbeats 6400000 in
theorem c_follow {a b e9 : Value} {x y u v9 z : Int} {w : World} (ha : EV w a x y) (hb9 : EV w b u v9) (he : INum w e9 z) (s1 : Sz (z * u) 1000000) (s2 : Sz (z * v9) 1000000) : Calls Tryz.prog 74 #[a, b, e9] w fun e w' => EEnd w (x + z * u) (y + z * v9) e w' := by
  obtain ⟨na, ao, al, ac, ma, aO, aL, aC, rfl, a1, a2⟩ := ha
  obtain ⟨nb, bo, bl, bc, mb, bO, bL, bC, rfl, b1, b2⟩ := hb9
  obtain ⟨ne, eo, el, ec, xe, rfl, ue, le, ee⟩ := he
  have ie : INum w (.agg #[.bool ne, .slice eo el ec]) z := ⟨_, _, _, _, _, rfl, ue, le, ee⟩
  clear ue le ee
  obtain ⟨X, hX⟩ : ∃ X, X = x + z * u := ⟨_, rfl⟩
  obtain ⟨Y, hY⟩ : ∃ Y, Y = y + z * v9 := ⟨_, rfl⟩
  have HX : Hid (x + z * u = X ∧ y + z * v9 = Y) := ⟨hX.symm, hY.symm⟩
  rw [← hX, ← hY]
  clear hX hY
  obtain ⟨W1, hW1⟩ : ∃ W1, W1 = (((w.alloc (.cells #[.bool na, .slice ao al ac, .bool ma, .slice aO aL aC] 58)).alloc (.cells #[.bool nb, .slice bo bl bc, .bool mb, .slice bO bL bC] 58)).alloc (.cells #[.bool ne, .slice eo el ec] 25)).alloc (.cells #[.bool false, .slice none 0 0, .bool false, .slice none 0 0] 58) := ⟨_, rfl⟩
  have qa : ECell W1 (w.heap.size) na (.slice ao al ac) ma (.slice aO aL aC) := by rw [hW1]; exact (ecell_step (ecell_step (ecell_step (ecell_new _ (by simp)))))
  have qb : ECell W1 (w.heap.size + 1) nb (.slice bo bl bc) mb (.slice bO bL bC) := by rw [hW1]; exact (ecell_step (ecell_step (ecell_new _ (by simp))))
  have qe : ICell W1 (w.heap.size + 1 + 1) ne (.slice eo el ec) := by rw [hW1]; exact (icell_step (icell_new _ (by simp)))
  have qR : ECell W1 (w.heap.size + 1 + 1 + 1) false (.slice none 0 0) false (.slice none 0 0) := by rw [hW1]; exact (ecell_new _ (by simp))
  have hb : Below w.heap.size w W1 := by rw [hW1]; exact bstep (bstep (bstep (belowA w _) (belowA _ _)) (belowA _ _)) (belowA _ _)
  have hsz : w.heap.size + 1 + 1 + 1 < W1.heap.size := by rw [hW1]; simp
  replace a2 := a2.below hb
  replace b2 := b2.below hb
  replace a1 := a1.below hb
  replace b1 := b1.below hb
  replace ie := ie.below hb
  have HW1 : Hid (W1 = (((w.alloc (.cells #[.bool na, .slice ao al ac, .bool ma, .slice aO aL aC] 58)).alloc (.cells #[.bool nb, .slice bo bl bc, .bool mb, .slice bO bL bC] 58)).alloc (.cells #[.bool ne, .slice eo el ec] 25)).alloc (.cells #[.bool false, .slice none 0 0, .bool false, .slice none 0 0] 58)) := hW1
  clear hW1
  go_enter Tryz.func74, Tryz.ntmps74
  go_wp2_with fail
  rw [← HW1.out]
  clear HW1
  obtain ⟨g, hg⟩ : ∃ g, g = w.heap.size := ⟨_, rfl⟩
  rw [← hg] at qa qb qe qR hsz ⊢
  have HG : Hid (g = w.heap.size) := hg
  clear hg
  obtain ⟨cqa0, cqa1, cqa2, cqa3⟩ := qa.cells
  obtain ⟨cqb0, cqb1, cqb2, cqb3⟩ := qb.cells
  obtain ⟨cqe0, cqe1⟩ := qe.cells
  obtain ⟨cqR0, cqR1, cqR2, cqR3⟩ := qR.cells
  go_wp2_with fail
  clear cqa0 cqa1 cqa2 cqa3 cqb0 cqb1 cqb2 cqb3 cqe0 cqe1 cqR0 cqR1 cqR2 cqR3
  have KEEP : ∀ u, Below W1.heap.size W1 u → AllL u [(1, fun w' => w'.cell? ⟨g, 0, none⟩ = some (.bool na) ∧ w'.cell? ⟨g, 1, none⟩ = some (.slice ao al ac)), (2, fun w' => w'.cell? ⟨g + 1 + 1, 0, none⟩ = some (.bool ne) ∧ w'.cell? ⟨g + 1 + 1, 1, none⟩ = some (.slice eo el ec)), (4, fun w' => w'.cell? ⟨g + 1, 0, none⟩ = some (.bool nb) ∧ w'.cell? ⟨g + 1, 1, none⟩ = some (.slice bo bl bc)), (8, fun w' => w'.cell? ⟨g, 2, none⟩ = some (.bool ma) ∧ w'.cell? ⟨g, 3, none⟩ = some (.slice aO aL aC)), (9, fun w' => w'.cell? ⟨g + 1 + 1, 0, none⟩ = some (.bool ne) ∧ w'.cell? ⟨g + 1 + 1, 1, none⟩ = some (.slice eo el ec)), (11, fun w' => w'.cell? ⟨g + 1, 2, none⟩ = some (.bool mb) ∧ w'.cell? ⟨g + 1, 3, none⟩ = some (.slice bO bL bC))] := fun u B => ⟨⟨(qa.below B).cells.1, (qa.below B).cells.2.1⟩, (qe.below B).cells, ⟨(qb.below B).cells.1, (qb.below B).cells.2.1⟩, ⟨(qa.below B).cells.2.2.1, (qa.below B).cells.2.2.2⟩, (qe.below B).cells, ⟨(qb.below B).cells.2.2.1, (qb.below B).cells.2.2.2⟩, trivial⟩
  refine region_late [(1, fun w' => w'.cell? ⟨g, 0, none⟩ = some (.bool na) ∧ w'.cell? ⟨g, 1, none⟩ = some (.slice ao al ac)), (2, fun w' => w'.cell? ⟨g + 1 + 1, 0, none⟩ = some (.bool ne) ∧ w'.cell? ⟨g + 1 + 1, 1, none⟩ = some (.slice eo el ec)), (4, fun w' => w'.cell? ⟨g + 1, 0, none⟩ = some (.bool nb) ∧ w'.cell? ⟨g + 1, 1, none⟩ = some (.slice bo bl bc)), (8, fun w' => w'.cell? ⟨g, 2, none⟩ = some (.bool ma) ∧ w'.cell? ⟨g, 3, none⟩ = some (.slice aO aL aC)), (9, fun w' => w'.cell? ⟨g + 1 + 1, 0, none⟩ = some (.bool ne) ∧ w'.cell? ⟨g + 1 + 1, 1, none⟩ = some (.slice eo el ec)), (11, fun w' => w'.cell? ⟨g + 1, 2, none⟩ = some (.bool mb) ∧ w'.cell? ⟨g + 1, 3, none⟩ = some (.slice bO bL bC))] (by kernel_rfl) ?_
  have BZ : Below W1.heap.size W1 W1.drew := below_drew' _
  obtain ⟨wz, hwz⟩ : ∃ u, u = W1.drew := ⟨_, rfl⟩
  rw [← hwz] at BZ ⊢
  clear hwz
  have hHeld := KEEP _ BZ
  have ka1 := a1.below BZ
  have ka2 := a2.below BZ
  have kb1 := b1.below BZ
  have kb2 := b2.below BZ
  have kie := ie.below BZ
  refine late_fr 0 (v := .pointer (some ⟨g, 0, none⟩)) rfl (Or.inl ⟨by rfl, ?_⟩) hHeld ?_
  · (intro u _; go_simp)
  (try simp only [Act.put, putA, putB, putC])
  refine late_tk 1 (v := .agg #[.bool na, .slice ao al ac]) rfl (List.Mem.head _) (Or.inl ⟨by rfl, ?_⟩) hHeld ?_
  · (intro u hu; (try dsimp only at hu); go_split_ands; go_simp)
  (try simp only [Act.put, putA, putB, putC])
  refine late_tk 2 (v := .agg #[.bool ne, .slice eo el ec]) rfl (List.Mem.tail _ (List.Mem.head _)) (Or.inl ⟨by rfl, ?_⟩) hHeld ?_
  · (intro u hu; (try dsimp only at hu); go_split_ands; go_simp)
  (try simp only [Act.put, putA, putB, putC])
  refine late_fr 3 (v := .pointer (some ⟨g + 1, 0, none⟩)) rfl (Or.inl ⟨by rfl, ?_⟩) hHeld ?_
  · (intro u _; go_simp)
  (try simp only [Act.put, putA, putB, putC])
  refine late_tk 4 (v := .agg #[.bool nb, .slice bo bl bc]) rfl (List.Mem.tail _ (List.Mem.tail _ (List.Mem.head _))) (Or.inl ⟨by rfl, ?_⟩) hHeld ?_
  · (intro u hu; (try dsimp only at hu); go_split_ands; go_simp)
  (try simp only [Act.put, putA, putB, putC])
  refine late_fr 7 (v := .pointer (some ⟨g, 2, none⟩)) rfl (Or.inl ⟨by rfl, ?_⟩) hHeld ?_
  · (intro u _; go_simp)
  (try simp only [Act.put, putA, putB, putC])
  refine late_tk 8 (v := .agg #[.bool ma, .slice aO aL aC]) rfl (List.Mem.tail _ (List.Mem.tail _ (List.Mem.tail _ (List.Mem.head _)))) (Or.inl ⟨by rfl, ?_⟩) hHeld ?_
  · (intro u hu; (try dsimp only at hu); go_split_ands; go_simp)
  (try simp only [Act.put, putA, putB, putC])
  refine late_tk 9 (v := .agg #[.bool ne, .slice eo el ec]) rfl (List.Mem.tail _ (List.Mem.tail _ (List.Mem.tail _ (List.Mem.tail _ (List.Mem.head _))))) (Or.inl ⟨by rfl, ?_⟩) hHeld ?_
  · (intro u hu; (try dsimp only at hu); go_split_ands; go_simp)
  (try simp only [Act.put, putA, putB, putC])
  refine late_fr 10 (v := .pointer (some ⟨g + 1, 2, none⟩)) rfl (Or.inl ⟨by rfl, ?_⟩) hHeld ?_
  · (intro u _; go_simp)
  (try simp only [Act.put, putA, putB, putC])
  refine late_tk 11 (v := .agg #[.bool mb, .slice bO bL bC]) rfl (List.Mem.tail _ (List.Mem.tail _ (List.Mem.tail _ (List.Mem.tail _ (List.Mem.tail _ (List.Mem.head _)))))) (Or.inl ⟨by rfl, ?_⟩) hHeld ?_
  · (intro u hu; (try dsimp only at hu); go_split_ands; go_simp)
  (try simp only [Act.put, putA, putB, putC])
  refine late_st 5 rfl (fun K hK => ?_)
  go_simp
  refine (c_mul kie kb1).mono ?_
  rintro e w2 ⟨v, rfl, hv, b2⟩
  obtain ⟨n1, o1, t1, c1, rfl, i1⟩ := hv.see s1 (Nat.le_refl _)
  clear hv kb1
  replace ka1 := ka1.below b2
  replace ka2 := ka2.below b2
  replace kb2 := kb2.below b2
  replace kie := kie.below b2
  have B2 : Below W1.heap.size W1 w2 := bstep BZ b2
  clear BZ b2
  replace hHeld := KEEP _ B2
  go_wp2_with fail
  refine hK.out _ _ (AllL.kept hHeld) ?_
  clear hK K
  (try simp only [Act.put, putA, putB, putC])
  have hc := c_add ka1 i1
  rw [HX.out.1] at hc
  have hbase1 := Nat.lt_of_lt_of_le hsz B2.size
  refine late_st 6 rfl (fun K hK => ?_)
  go_simp
  refine (hc).mono ?_
  rintro e w3 ⟨v, rfl, ⟨m, rfl, hm⟩, b3⟩
  clear hc ka1 i1
  obtain ⟨mo, ml, mc, rfl⟩ := hm.sl
  replace ka2 := ka2.below b3
  replace kb2 := kb2.below b3
  replace kie := kie.below b3
  have B3 : Below W1.heap.size W1 w3 := bstep B2 b3
  clear B2 b3
  replace hHeld := KEEP _ B3
  go_wp2_with fail
  refine hK.out _ _ (AllL.kept hHeld) ?_
  clear hK K
  (try simp only [Act.put, putA, putB, putC])
  refine late_st 12 rfl (fun K hK => ?_)
  go_simp
  refine (c_mul kie kb2).mono ?_
  rintro e w4 ⟨v, rfl, hv, b4⟩
  obtain ⟨n2, o2, t2, c2, rfl, i2⟩ := hv.see s2 (Nat.le_refl _)
  clear hv kb2 kie
  replace hm := hm.below b4
  replace ka2 := ka2.below b4
  have B4 : Below W1.heap.size W1 w4 := bstep B3 b4
  clear B3 b4
  replace hHeld := KEEP _ B4
  go_wp2_with fail
  refine hK.out _ _ (AllL.kept hHeld) ?_
  clear hK K
  (try simp only [Act.put, putA, putB, putC])
  have hc := c_add ka2 i2
  rw [HX.out.2] at hc
  have hbase2 := Nat.lt_of_lt_of_le hsz B4.size
  refine late_st 13 rfl (fun K hK => ?_)
  go_simp
  refine (hc).mono ?_
  rintro e w5 ⟨v, rfl, ⟨d, rfl, hd⟩, b5⟩
  clear hc ka2 i2
  obtain ⟨mO, mL, mC, rfl⟩ := hd.sl
  have hap := apart_later hm hd (Nat.le_refl _)
  replace hm := hm.below b5
  replace hm := hm.mono (B' := g + 1 + 1 + 1 + 1) hbase1
  replace hd := hd.mono (B' := g + 1 + 1 + 1 + 1) hbase2
  have B5 : Below W1.heap.size W1 w5 := bstep B4 b5
  clear B4 b5
  replace hHeld := KEEP _ B5
  go_wp2_with fail
  refine hK.out _ _ (AllL.kept hHeld) ?_
  clear hK K
  (try simp only [Act.put, putA, putB, putC])
  refine late_st 14 rfl (fun K hK => ?_)
  go_simp
  refine hK.out _ _ (AllL.kept hHeld) ?_
  clear hK K
  (try simp only [Act.put, putA, putB, putC])
  have qq := qR.below B5
  have HE : Hid (EEnd w X Y (.returned (.agg #[.bool (decide (X < 0)), .slice mo ml mc, .bool (decide (Y < 0)), .slice mO mL mC])) ((((w5.setCell ⟨g + 1 + 1 + 1, 0, none⟩ (.bool (decide (X < 0)))).setCell ⟨g + 1 + 1 + 1, 1, none⟩ (.slice mo ml mc)).setCell ⟨g + 1 + 1 + 1, 2, none⟩ (.bool (decide (Y < 0)))).setCell ⟨g + 1 + 1 + 1, 3, none⟩ (.slice mO mL mC))) := ratio_done rfl rfl (by rw [HG.out]; omega) hm hd hap (Nat.lt_succ_self _) (bstep hb B5)
  have HW : Hid (ECell ((((w5.setCell ⟨g + 1 + 1 + 1, 0, none⟩ (.bool (decide (X < 0)))).setCell ⟨g + 1 + 1 + 1, 1, none⟩ (.slice mo ml mc)).setCell ⟨g + 1 + 1 + 1, 2, none⟩ (.bool (decide (Y < 0)))).setCell ⟨g + 1 + 1 + 1, 3, none⟩ (.slice mO mL mC)) (g + 1 + 1 + 1) (decide (X < 0)) (.slice mo ml mc) (decide (Y < 0)) (.slice mO mL mC)) := qq.write _ _ _ _
  obtain ⟨y0, y1, y2, y3⟩ := qq.cells
  have f0 := qq.thaw 0
  have f1 := qq.thaw 1
  have f2 := qq.thaw 2
  have f3 := qq.thaw 3
  clear qq hm hd hap KEEP
  generalize decide (X < 0) = bX at *
  generalize decide (Y < 0) = bY at *
  refine late_st 15 rfl (fun K hK => ?_)
  go_simp
  refine hK.out _ _ ⟨kpt 6, kpt 5, kpt 5, kpt 13, kpt 12, kpt 12, trivial⟩ ?_
  clear hK K
  (try simp only [Act.put, putA, putB, putC])
  refine late_done (by kernel_rfl) ?_ _
  clear hHeld hb hsz hbase1 hbase2 B5 qa qb qe qR a1 b1 ie a2 b2 y0 y1 y2 y3 f0 f1 f2 f3
  go_wp2_with fail
  (try simp only [Exit.inBlock, Exit.then])
  exact bodyPost_ret (results_cell_row rfl _ _ (g + 1 + 1 + 1) 58 _ (0, 0) _ rfl HW.out Tryz.underlying58 rfl (by kernel_rfl)) rfl HE.out
/-- An answered fraction by its two numbers. -/
def AEnd (w : World) (X Y : Int) (e : Ending) (w' : World) : Prop := ∃ m d, e = .returned (.agg #[.bool (decide (X < 0)), m, d]) ∧ Own w.heap.size 37 w' m (lim X.natAbs) ∧ Own w.heap.size 37 w' d (lim Y.natAbs) ∧ (m.ownBlock = none ∨ m.ownBlock ≠ d.ownBlock) ∧ Below w.heap.size w w'
theorem AEnd.rend {w w' : World} {X Y : Int} {e : Ending} {r : Rat} (h : AEnd w X Y e w') (h1 : r.num = X) (h2 : (r.den : Int) = Y) : REnd w r e w' := by
  obtain ⟨m, d, rfl, hm, hd, hap, hb⟩ := h
  have e2 : Y.natAbs = r.den := by omega
  rw [e2] at hd
  rw [← h1] at hm ⊢
  exact ⟨_, rfl, ⟨m, d, rfl, hm, hd, hap⟩, hb⟩
set_option maxRecDepth 100000 in
set_option maxHeartbeats 6400000 in
theorem c_ended {a b e9 : Value} {x y u v9 z : Int} {w : World} (ha : EV w a x y) (hb9 : EV w b u v9) (he : INum w e9 z) (s1 : Sz (z * u) 1000000) (s2 : Sz (z * v9) 1000000) : Calls Tryz.prog 73 #[a, b, e9] w fun e w' => AEnd w (x + z * u) (y + z * v9) e w' := by
  obtain ⟨na, ao, al, ac, ma, aO, aL, aC, rfl, a1, a2⟩ := ha
  obtain ⟨nb, bo, bl, bc, mb, bO, bL, bC, rfl, b1, b2⟩ := hb9
  obtain ⟨ne, eo, el, ec, xe, rfl, ue, le, ee⟩ := he
  have ie : INum w (.agg #[.bool ne, .slice eo el ec]) z := ⟨_, _, _, _, _, rfl, ue, le, ee⟩
  clear ue le ee
  obtain ⟨X, hX⟩ : ∃ X, X = x + z * u := ⟨_, rfl⟩
  obtain ⟨Y, hY⟩ : ∃ Y, Y = y + z * v9 := ⟨_, rfl⟩
  have HX : Hid (x + z * u = X ∧ y + z * v9 = Y) := ⟨hX.symm, hY.symm⟩
  rw [← hX, ← hY]
  clear hX hY
  obtain ⟨W1, hW1⟩ : ∃ W1, W1 = (((w.alloc (.cells #[.bool na, .slice ao al ac, .bool ma, .slice aO aL aC] 58)).alloc (.cells #[.bool nb, .slice bo bl bc, .bool mb, .slice bO bL bC] 58)).alloc (.cells #[.bool ne, .slice eo el ec] 25)).alloc (.cells #[.bool false, .slice none 0 0, .slice none 0 0] 27) := ⟨_, rfl⟩
  have qa : ECell W1 (w.heap.size) na (.slice ao al ac) ma (.slice aO aL aC) := by rw [hW1]; exact (ecell_step (ecell_step (ecell_step (ecell_new _ (by simp)))))
  have qb : ECell W1 (w.heap.size + 1) nb (.slice bo bl bc) mb (.slice bO bL bC) := by rw [hW1]; exact (ecell_step (ecell_step (ecell_new _ (by simp))))
  have qe : ICell W1 (w.heap.size + 1 + 1) ne (.slice eo el ec) := by rw [hW1]; exact (icell_step (icell_new _ (by simp)))
  have qR : QCell W1 (w.heap.size + 1 + 1 + 1) false (.slice none 0 0) (.slice none 0 0) := by rw [hW1]; exact (qcell_new _ (by simp))
  have hb : Below w.heap.size w W1 := by rw [hW1]; exact bstep (bstep (bstep (belowA w _) (belowA _ _)) (belowA _ _)) (belowA _ _)
  have hsz : w.heap.size + 1 + 1 + 1 < W1.heap.size := by rw [hW1]; simp
  replace a2 := a2.below hb
  replace b2 := b2.below hb
  replace a1 := a1.below hb
  replace b1 := b1.below hb
  replace ie := ie.below hb
  have HW1 : Hid (W1 = (((w.alloc (.cells #[.bool na, .slice ao al ac, .bool ma, .slice aO aL aC] 58)).alloc (.cells #[.bool nb, .slice bo bl bc, .bool mb, .slice bO bL bC] 58)).alloc (.cells #[.bool ne, .slice eo el ec] 25)).alloc (.cells #[.bool false, .slice none 0 0, .slice none 0 0] 27)) := hW1
  clear hW1
  go_enter Tryz.func73, Tryz.ntmps73
  go_wp2_with fail
  rw [← HW1.out]
  clear HW1
  obtain ⟨g, hg⟩ : ∃ g, g = w.heap.size := ⟨_, rfl⟩
  rw [← hg] at qa qb qe qR hsz ⊢
  have HG : Hid (g = w.heap.size) := hg
  clear hg
  obtain ⟨cqa0, cqa1, cqa2, cqa3⟩ := qa.cells
  obtain ⟨cqb0, cqb1, cqb2, cqb3⟩ := qb.cells
  obtain ⟨cqe0, cqe1⟩ := qe.cells
  obtain ⟨cqR0, cqR1, cqR2⟩ := qR.cells
  go_wp2_with fail
  clear cqa0 cqa1 cqa2 cqa3 cqb0 cqb1 cqb2 cqb3 cqe0 cqe1 cqR0 cqR1 cqR2
  have hq := c_follow (z := z) ⟨_, _, _, _, _, _, _, _, rfl, a1, a2⟩ ⟨_, _, _, _, _, _, _, _, rfl, b1, b2⟩ ie s1 s2
  rw [HX.out.1, HX.out.2] at hq
  have hszz := hsz
  refine (hq).mono ?_
  rintro e w2 ⟨v, rfl, ⟨m, d, rfl, hm, hd, hap⟩, b⟩
  clear hq
  obtain ⟨mo, ml, mc, rfl⟩ := hm.sl
  obtain ⟨mO, mL, mC, rfl⟩ := hd.sl
  replace hm := hm.mono (B' := g + 1 + 1 + 1 + 1) hszz
  replace hd := hd.mono (B' := g + 1 + 1 + 1 + 1) hszz
  clear hszz
  generalize hbX : decide (X < 0) = bX
  generalize hbY : decide (Y < 0) = bY
  have HBX : Hid (bX = decide (X < 0)) := hbX.symm
  clear hbX hbY
  replace a1 := a1.below b
  replace b1 := b1.below b
  replace ie := ie.below b
  replace a2 := a2.below b
  replace b2 := b2.below b
  replace qa := qa.below b
  replace qb := qb.below b
  replace qe := qe.below b
  replace qR := qR.below b
  replace hb := bstep hb b
  replace hsz := Nat.lt_of_lt_of_le hsz b.size
  clear b
  obtain ⟨W3, hW3⟩ : ∃ W, W = w2.alloc (.cells #[.bool bX, .slice mo ml mc, .bool bY, .slice mO mL mC] 58) := ⟨_, rfl⟩
  have qZ : ECell W3 (w2.heap.size) bX (.slice mo ml mc) bY (.slice mO mL mC) := by rw [hW3]; exact (ecell_new _ rfl)
  have b : Below w2.heap.size w2 W3 := by rw [hW3]; exact belowA _ _
  replace a1 := a1.below b
  replace b1 := b1.below b
  replace ie := ie.below b
  replace a2 := a2.below b
  replace b2 := b2.below b
  replace hm := hm.below b
  replace hd := hd.below b
  replace qa := qa.below b
  replace qb := qb.below b
  replace qe := qe.below b
  replace qR := qR.below b
  replace hb := bstep hb b
  replace hsz := Nat.lt_of_lt_of_le hsz b.size
  clear b
  have rqa0 : (w2.alloc (.cells #[.bool bX, .slice mo ml mc, .bool bY, .slice mO mL mC] 58)).cell? ⟨g, 0, none⟩ = some (.bool na) := by rw [← hW3]; exact qa.cells.1
  have rqa1 : (w2.alloc (.cells #[.bool bX, .slice mo ml mc, .bool bY, .slice mO mL mC] 58)).cell? ⟨g, 1, none⟩ = some (.slice ao al ac) := by rw [← hW3]; exact qa.cells.2.1
  have rqa2 : (w2.alloc (.cells #[.bool bX, .slice mo ml mc, .bool bY, .slice mO mL mC] 58)).cell? ⟨g, 2, none⟩ = some (.bool ma) := by rw [← hW3]; exact qa.cells.2.2.1
  have rqa3 : (w2.alloc (.cells #[.bool bX, .slice mo ml mc, .bool bY, .slice mO mL mC] 58)).cell? ⟨g, 3, none⟩ = some (.slice aO aL aC) := by rw [← hW3]; exact qa.cells.2.2.2
  have rqb0 : (w2.alloc (.cells #[.bool bX, .slice mo ml mc, .bool bY, .slice mO mL mC] 58)).cell? ⟨g + 1, 0, none⟩ = some (.bool nb) := by rw [← hW3]; exact qb.cells.1
  have rqb1 : (w2.alloc (.cells #[.bool bX, .slice mo ml mc, .bool bY, .slice mO mL mC] 58)).cell? ⟨g + 1, 1, none⟩ = some (.slice bo bl bc) := by rw [← hW3]; exact qb.cells.2.1
  have rqb2 : (w2.alloc (.cells #[.bool bX, .slice mo ml mc, .bool bY, .slice mO mL mC] 58)).cell? ⟨g + 1, 2, none⟩ = some (.bool mb) := by rw [← hW3]; exact qb.cells.2.2.1
  have rqb3 : (w2.alloc (.cells #[.bool bX, .slice mo ml mc, .bool bY, .slice mO mL mC] 58)).cell? ⟨g + 1, 3, none⟩ = some (.slice bO bL bC) := by rw [← hW3]; exact qb.cells.2.2.2
  have rqe0 : (w2.alloc (.cells #[.bool bX, .slice mo ml mc, .bool bY, .slice mO mL mC] 58)).cell? ⟨g + 1 + 1, 0, none⟩ = some (.bool ne) := by rw [← hW3]; exact qe.cells.1
  have rqe1 : (w2.alloc (.cells #[.bool bX, .slice mo ml mc, .bool bY, .slice mO mL mC] 58)).cell? ⟨g + 1 + 1, 1, none⟩ = some (.slice eo el ec) := by rw [← hW3]; exact qe.cells.2
  have rqR0 : (w2.alloc (.cells #[.bool bX, .slice mo ml mc, .bool bY, .slice mO mL mC] 58)).cell? ⟨g + 1 + 1 + 1, 0, none⟩ = some (.bool false) := by rw [← hW3]; exact qR.cells.1
  have rqR1 : (w2.alloc (.cells #[.bool bX, .slice mo ml mc, .bool bY, .slice mO mL mC] 58)).cell? ⟨g + 1 + 1 + 1, 1, none⟩ = some (.slice none 0 0) := by rw [← hW3]; exact qR.cells.2.1
  have rqR2 : (w2.alloc (.cells #[.bool bX, .slice mo ml mc, .bool bY, .slice mO mL mC] 58)).cell? ⟨g + 1 + 1 + 1, 2, none⟩ = some (.slice none 0 0) := by rw [← hW3]; exact qR.cells.2.2
  have rqZ0 : (w2.alloc (.cells #[.bool bX, .slice mo ml mc, .bool bY, .slice mO mL mC] 58)).cell? ⟨w2.heap.size, 0, none⟩ = some (.bool bX) := by rw [← hW3]; exact qZ.cells.1
  have rqZ1 : (w2.alloc (.cells #[.bool bX, .slice mo ml mc, .bool bY, .slice mO mL mC] 58)).cell? ⟨w2.heap.size, 1, none⟩ = some (.slice mo ml mc) := by rw [← hW3]; exact qZ.cells.2.1
  have rqZ2 : (w2.alloc (.cells #[.bool bX, .slice mo ml mc, .bool bY, .slice mO mL mC] 58)).cell? ⟨w2.heap.size, 2, none⟩ = some (.bool bY) := by rw [← hW3]; exact qZ.cells.2.2.1
  have rqZ3 : (w2.alloc (.cells #[.bool bX, .slice mo ml mc, .bool bY, .slice mO mL mC] 58)).cell? ⟨w2.heap.size, 3, none⟩ = some (.slice mO mL mC) := by rw [← hW3]; exact qZ.cells.2.2.2
  obtain ⟨v3, hv3⟩ : ∃ v, v = w2.heap.size := ⟨_, rfl⟩
  rw [← hv3] at qZ
  have HW3 : Hid (W3 = w2.alloc (.cells #[.bool bX, .slice mo ml mc, .bool bY, .slice mO mL mC] 58)) := hW3
  have Hv3 : Hid (v3 = w2.heap.size) := hv3
  clear hW3 hv3
  have hl9 : g + 1 + 1 + 1 < g + 1 + 1 + 1 + 1 := Nat.lt_succ_self _
  have hl8 : w.heap.size ≤ g + 1 + 1 + 1 := by rw [HG.out]; omega
  have hl7 : w.heap.size ≤ g + 1 + 1 + 1 + 1 := Nat.le_succ_of_le hl8
  have HE : Hid (AEnd w X Y (.returned (.agg #[.bool bX, .slice mo ml mc, .slice mO mL mC])) (((W3.setCell ⟨g + 1 + 1 + 1, 0, none⟩ (.bool bX)).setCell ⟨g + 1 + 1 + 1, 1, none⟩ (.slice mo ml mc)).setCell ⟨g + 1 + 1 + 1, 2, none⟩ (.slice mO mL mC))) := ⟨_, _, by rw [HBX.out], (((hm.other _ (own_ne hm hl9)).other _ (own_ne hm hl9)).other _ (own_ne hm hl9)).mono hl7, (((hd.other _ (own_ne hd hl9)).other _ (own_ne hd hl9)).other _ (own_ne hd hl9)).mono hl7, hap, ((hb.setCell (p := ⟨g + 1 + 1 + 1, 0, none⟩) hl8 _).setCell (p := ⟨g + 1 + 1 + 1, 1, none⟩) hl8 _).setCell (p := ⟨g + 1 + 1 + 1, 2, none⟩) hl8 _⟩
  have HW : Hid (QCell (((W3.setCell ⟨g + 1 + 1 + 1, 0, none⟩ (.bool bX)).setCell ⟨g + 1 + 1 + 1, 1, none⟩ (.slice mo ml mc)).setCell ⟨g + 1 + 1 + 1, 2, none⟩ (.slice mO mL mC)) (g + 1 + 1 + 1) bX (.slice mo ml mc) (.slice mO mL mC)) := qR.write _ _ _
  have f0 := qR.thaw 0
  have f1 := qR.thaw 1
  have f2 := qR.thaw 2
  rw [HW3.out] at f0 f1 f2
  clear hl9 hl8 hl7 hm hd hap hb hsz qa qb qe qR qZ a1 a2 b1 b2 ie
  go_wp2_with fail
  rw [← HW3.out, ← Hv3.out]
  clear HW3 Hv3 rqa0 rqa1 rqa2 rqa3 rqb0 rqb1 rqb2 rqb3 rqe0 rqe1 rqR0 rqR1 rqR2 rqZ0 rqZ1 rqZ2 rqZ3
  (try simp only [Exit.inBlock, Exit.then])
  exact bodyPost_ret (results_cell_row rfl _ _ (g + 1 + 1 + 1) 27 _ (0, 0) _ rfl HW.out Tryz.underlying27 rfl (by kernel_rfl)) rfl HE.out
end Go.Proofs.YtfnafgjnimfmjaaGreatDoor
