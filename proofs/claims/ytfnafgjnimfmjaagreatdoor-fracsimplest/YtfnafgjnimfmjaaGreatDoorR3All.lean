/-
  Proved here: what the document's lowest of layer 3 answers.
  Proved here: credenceref03's Own, of numbers each in a row of its own: it answers true.
  Proved here: credenceref03's limbs and stands: a list that is lent, with marked room behind; what was lent stands as it did.
  Proved here: what strings.Cut answers of a text and a stroke.
  Proved here: what Of and Text of package frac answer, and Parse of one text.
  Proved here: what Text of package frac answers.
  Proved here: what Sum of package frac answers.
  Proved here: what the small functions of credencelaw03 answer.
  Proved here: what New, Of, Same, LendInt and KeptInt of the document's layer 3 answer, and the law's cutInt.
-/
import Derived.Test.YtfnafgjnimfmjaaGreatDoorTrimLAll
import Derived.Test.YtfnafgjnimfmjaaGreatDoorPowMathAll
import Derived.Test.YtfnafgjnimfmjaaGreatDoorFracCAll
import Derived.Test.YtfnafgjnimfmjaaGreatDoorSubAll
import Derived.WalkSmall
import Derived.Laws.Externs
import Derived.Deep.RegionHeld3
import Derived.Deep.DrawnRows
namespace Go.Proofs.YtfnafgjnimfmjaaGreatDoor
set_option maxRecDepth 100000
set_option maxHeartbeats 12800000
open Go.RowKit

theorem low_ref3 {na : Bool} {A D : Nat} (hD : D ≠ 0) : (Rat.divInt (zv na A) (D : Int)).num = zv na (A / Nat.gcd A D) ∧ (Rat.divInt (zv na A) (D : Int)).den = D / Nat.gcd A D := by
 have hq : (D : Int) ≠ 0 := by omega
 have h1 := low_num (p := zv na A) hq
 have h2 := low_den (p := zv na A) hq
 rw [zv_abs, Int.natAbs_natCast, decide_eq_false (by omega)] at h1 h2
 have e : zv false (Nat.gcd A D) = ((Nat.gcd A D : Nat) : Int) := rfl
 rw [e] at h1 h2
 refine ⟨?_, ?_⟩
 ·
  rw [← h1]
  cases na
  ·
   show (A : Int).tdiv _ = ((A / Nat.gcd A D : Nat) : Int)
   exact (Int.ofNat_tdiv A _).symm
  ·
   show (-(A : Int)).tdiv _ = -((A / Nat.gcd A D : Nat) : Int)
   rw [Int.neg_tdiv, ← Int.ofNat_tdiv]
 ·
  have h3 : ((D / Nat.gcd A D : Nat) : Int) = ((Rat.divInt (zv na A) (D : Int)).den : Int) := by rw [← h2, Int.ofNat_tdiv]
  omega
theorem lim_len_mono3 {a b k : Nat} (h : a ≤ b) (hk : (lim b).length ≤ k) : (lim a).length ≤ k := lim_len_le (Nat.lt_of_le_of_lt h (lim_lt_of_len hk))

theorem lowest3 (na : Bool) (ao dO : Option Addr) (al ac dl dc : Nat) (xa yd : List Nat) (w : World) (ua : Num w (.slice ao al ac) xa) (ud : Num w (.slice dO dl dc) yd) (la : xa.length ≤ 3000) (ld : yd.length ≤ 3000) (hd0 : val yd ≠ 0) :
  Calls Tryz.prog 63 #[.agg #[.bool na, .slice ao al ac], .slice dO dl dc] w fun e w' => REnd w (Rat.divInt (zv na (val xa)) (val yd : Int)) e w' := by
 obtain ⟨A, hA⟩ : ∃ A, A = val xa := ⟨_, rfl⟩
 obtain ⟨Z, hZ⟩ : ∃ D, D = val yd := ⟨_, rfl⟩
 have HA : Hid (val xa = A) := hA.symm
 have HD : Hid (val yd = Z) := hZ.symm
 rw [← hA, ← hZ]
 rw [← hZ] at hd0
 have HD0 : Hid (Z ≠ 0) := hd0
 have HLA : Hid (xa.length ≤ 3000) := la
 have HLD : Hid (yd.length ≤ 3000) := ld
 obtain ⟨r, hr⟩ : ∃ r, r = Rat.divInt (zv na A) (Z : Int) := ⟨_, rfl⟩
 have HRN : Hid (zv na (A / Nat.gcd A Z) = r.num) := by show _ = _; rw [hr, (low_ref3 hd0).1]
 have HRD : Hid (Z / Nat.gcd A Z = r.den) := by show _ = _; rw [hr, (low_ref3 hd0).2]
 rw [← hr]
 clear hr hA hZ hd0 la ld
 obtain ⟨W1, hW1⟩ : ∃ W1, W1 = (w.alloc (.cells #[.bool na, .slice ao al ac] 25)).alloc (.cells #[.bool false, .slice none 0 0, .slice none 0 0] 27) := ⟨_, rfl⟩
 have qa : ICell W1 (w.heap.size) na (.slice ao al ac) := by rw [hW1]; exact (icell_step (icell_new _ (by simp)))
 have qR : QCell W1 (w.heap.size + 1) false (.slice none 0 0) (.slice none 0 0) := by rw [hW1]; exact (qcell_new _ (by simp))
 have hb : Below w.heap.size w W1 := by rw [hW1]; exact bstep (belowA w _) (belowA _ _)
 have hsz : w.heap.size + 1 < W1.heap.size := by rw [hW1]; simp
 replace ua := ua.below (Nat.le_refl _) hb
 replace ud := ud.below (Nat.le_refl _) hb
 have HW1 : Hid (W1 = (w.alloc (.cells #[.bool na, .slice ao al ac] 25)).alloc (.cells #[.bool false, .slice none 0 0, .slice none 0 0] 27)) := hW1
 clear hW1
 go_enter Tryz.func63, Tryz.ntmps63
 go_wp2_with fail
 rw [← HW1.out]
 clear HW1
 obtain ⟨g, hg⟩ : ∃ g, g = w.heap.size := ⟨_, rfl⟩
 rw [← hg] at qa qR hsz ⊢
 have HG : Hid (g = w.heap.size) := hg
 clear hg
 obtain ⟨B0, hB0⟩ : ∃ B, B = W1.heap.size := ⟨_, rfl⟩
 have HB0 : Hid (g + 1 < B0) := by show _ < _; rw [hB0]; exact hsz
 replace hB0 := Nat.le_of_eq hB0
 have hq := gcd_ref _ _ _ _ _ ua ud (Nat.le_trans HLA.out (by decide)) (Nat.le_trans HLD.out (by decide))
 rw [HA.out, HD.out] at hq
 refine (hq).mono ?_
 rintro e w2 ⟨v, rfl, ho, b⟩
 clear hq
 obtain ⟨go, gl, gc, rfl⟩ := ho.sl
 have ug := ho.num
 clear ho
 replace ua := ua.below (Nat.le_refl _) b
 replace ud := ud.below (Nat.le_refl _) b
 replace hB0 := Nat.le_trans hB0 b.size
 replace qa := qa.below b
 replace qR := qR.below b
 replace hb := bstep hb b
 replace hsz := Nat.lt_of_lt_of_le hsz b.size
 clear b
 obtain ⟨cqa0, cqa1⟩ := qa.cells
 obtain ⟨cqR0, cqR1, cqR2⟩ := qR.cells
 go_wp2_with fail
 clear cqa0 cqa1 cqR0 cqR1 cqR2
 obtain ⟨G, hG⟩ : ∃ G, G = Nat.gcd A Z := ⟨_, rfl⟩
 rw [← hG] at ug
 have HGc : Hid (G = Nat.gcd A Z) := hG
 have HLG : Hid ((lim G).length ≤ 3000) := by show _ ≤ _; exact lim_len_mono3 (by rw [hG]; exact Nat.gcd_le_right _ (Nat.pos_of_ne_zero HD0.out)) (by rw [← HD.out]; exact Nat.le_trans (lim_len_le (val_lt ud.1)) HLD.out)
 clear hG
 have hq := divMod_ref _ _ _ _ _ ua ug (Nat.le_trans HLA.out (by decide)) (Nat.le_trans HLG.out (by decide))
 rw [HA.out, val_lim] at hq
 refine (hq).mono ?_
 rintro e w3 ⟨p, q, rfl, ho, ho2, b⟩
 clear hq
 obtain ⟨po, pl, pc, rfl⟩ := ho.sl
 obtain ⟨qo, ql, qc, rfl⟩ := ho2.sl
 have up := ho.num
 clear ho ho2
 replace ua := ua.below (Nat.le_refl _) b
 replace ud := ud.below (Nat.le_refl _) b
 replace hB0 := Nat.le_trans hB0 b.size
 replace ug := ug.below (Nat.le_refl _) b
 replace qa := qa.below b
 replace qR := qR.below b
 replace hb := bstep hb b
 replace hsz := Nat.lt_of_lt_of_le hsz b.size
 clear b
 obtain ⟨cqa0, cqa1⟩ := qa.cells
 obtain ⟨cqR0, cqR1, cqR2⟩ := qR.cells
 go_wp2_with fail
 clear cqa0 cqa1 cqR0 cqR1 cqR2
 have hq := divMod_ref _ _ _ _ _ ud ug (Nat.le_trans HLD.out (by decide)) (Nat.le_trans HLG.out (by decide))
 rw [HD.out, val_lim] at hq
 refine (hq).mono ?_
 rintro e w4 ⟨p, q, rfl, hd, ho2, b⟩
 clear hq
 obtain ⟨mO, mL, mC, rfl⟩ := hd.sl
 obtain ⟨so, sl, sc, rfl⟩ := ho2.sl
 replace hd := hd.mono hB0
 clear ho2
 replace ua := ua.below (Nat.le_refl _) b
 replace ud := ud.below (Nat.le_refl _) b
 replace hB0 := Nat.le_trans hB0 b.size
 replace ug := ug.below (Nat.le_refl _) b
 replace up := up.below (Nat.le_refl _) b
 replace qa := qa.below b
 replace qR := qR.below b
 replace hb := bstep hb b
 replace hsz := Nat.lt_of_lt_of_le hsz b.size
 clear b
 obtain ⟨cqa0, cqa1⟩ := qa.cells
 obtain ⟨cqR0, cqR1, cqR2⟩ := qR.cells
 go_wp2_with fail
 clear cqa0 cqa1 cqR0 cqR1 cqR2
 have hla : (lim (A / G)).length ≤ 3000 := lim_len_mono3 (Nat.div_le_self A G) (k := 3000) (by rw [← HA.out]; exact Nat.le_trans (lim_len_le (val_lt ua.1)) HLA.out)
 have hld : (lim (Z / G)).length ≤ 3000 := lim_len_mono3 (Nat.div_le_self Z G) (k := 3000) (by rw [← HD.out]; exact Nat.le_trans (lim_len_le (val_lt ud.1)) HLD.out)
 have hi : INum w4 (.agg #[.bool na, .slice po pl pc]) r.num := ⟨_, _, _, _, _, rfl, up, by omega, by rw [val_lim, HGc.out]; exact HRN.out⟩
 have hq := r_norm hi
 have un := hd.num
 clear hi hd
 refine (hq).mono ?_
 rintro e w5 ⟨v, rfl, ⟨m, rfl, hm⟩, b⟩
 clear hq
 obtain ⟨mo, ml, mc, rfl⟩ := hm.sl
 replace hm := hm.mono hB0
 replace un := un.below (Nat.le_refl _) b
 replace hB0 := Nat.le_trans hB0 b.size
 replace qa := qa.below b
 replace qR := qR.below b
 replace hb := bstep hb b
 replace hsz := Nat.lt_of_lt_of_le hsz b.size
 clear b ua ud ug up
 obtain ⟨cqa0, cqa1⟩ := qa.cells
 obtain ⟨cqR0, cqR1, cqR2⟩ := qR.cells
 generalize hbb : decide (r.num < 0) = bb at *
 go_wp2_with fail
 clear cqa0 cqa1 cqR0 cqR1 cqR2
 have hq := norm_ref _ _ _ un (by omega)
 rw [val_lim] at hq
 refine (hq).mono ?_
 rintro e w6 ⟨u, rfl, hd, b⟩
 clear hq un
 obtain ⟨nO, nL, nC, rfl⟩ := hd.sl
 have hap := apart_later hm hd (Nat.le_refl _)
 replace hd := hd.mono hB0
 replace hm := hm.below b
 replace qR := qR.below b
 replace hb := bstep hb b
 clear b
 rw [HGc.out, HRD.out] at hd
 have HE : Hid (REnd w r (.returned (.agg #[.bool bb, .slice mo ml mc, .slice nO nL nC])) (((w6.setCell ⟨g + 1, 0, none⟩ (.bool bb)).setCell ⟨g + 1, 1, none⟩ (.slice mo ml mc)).setCell ⟨g + 1, 2, none⟩ (.slice nO nL nC))) := rat_done hbb.symm (by rw [HG.out]; omega) hm hd hap HB0.out hb
 have HW : Hid (QCell (((w6.setCell ⟨g + 1, 0, none⟩ (.bool bb)).setCell ⟨g + 1, 1, none⟩ (.slice mo ml mc)).setCell ⟨g + 1, 2, none⟩ (.slice nO nL nC)) (g + 1) bb (.slice mo ml mc) (.slice nO nL nC)) := qR.write _ _ _
 obtain ⟨y0, y1, y2⟩ := qR.cells
 have f0 := qR.thaw 0
 have f1 := qR.thaw 1
 have f2 := qR.thaw 2
 clear hb hsz hm hap qa qR hB0 hd hla hld hbb
 go_wp2_with fail
 (try simp only [Exit.inBlock, Exit.then])
 exact bodyPost_ret (results_cell_row rfl _ _ (g + 1) 27 _ (0, 0) _ rfl HW.out Tryz.underlying27 rfl (by kernel_rfl)) rfl HE.out
open Go.RowKit

theorem Tryz.infoN3 : (Tryz.prog.info? 23).map (fun i => (i.zero, i.size, i.bytes)) = some (some (.slice none 0 0), 1, 24) := by kernel_rfl
theorem Tryz.infoU3 : (Tryz.prog.info? 37).map (fun i => (i.zero, i.size, i.bytes)) = some (some (.int .u32 0), 1, 4) := by kernel_rfl
theorem rowO_other {w : World} {B g k e e' n : Nat} {v : Value} {xs : List Value} {cur : Array Value} {u : Value} (h : w.ownsRow B e 1 v n xs) (h' : w.heap[g]? = some (.cells cur e' (0, 0))) (hne : e ≠ e') : (w.setCell ⟨g, k, none⟩ u).ownsRow B e 1 v n xs := by
 obtain ⟨h1, h2⟩ := h
 refine ⟨h1, ?_⟩
 rcases h2 with h2 | ⟨g', cap, cur', rfl, h3, h4, h5⟩
 · exact Or.inl h2
 ·
  refine Or.inr ⟨g', cap, cur', rfl, h3, ?_, h5⟩
  rw [heap_setCell_other]
  · exact h4
  ·
   intro he
   simp only at he
   subst he
   rw [h4] at h'
   simp only [Option.some.injEq, Obj.cells.injEq, and_true] at h'
   exact hne h'.2
def SO3 (B gb m cg : Nat) (gs : List Value) (len : Nat → Nat) (w : World) (i k : Nat) (wr : World) : Prop :=
 ∃ ys, Fam B wr gs ys ∧ (∀ j, j < gs.length → (ys j).length = len j) ∧ (∀ j, j < i → ys j = List.replicate (len j) (100000 + j)) ∧ (∀ q, q < k → (ys i).getD q 0 = 100000 + i) ∧
  wr.ownsRow B 23 1 (.slice (some ⟨gb, 0, none⟩) m cg) m gs ∧ Bex gs w wr
theorem SO3.value {B gb m cg i k : Nat} {gs : List Value} {len : Nat → Nat} {w wr : World} (h : SO3 B gb m cg gs len w i k wr) (hi : i < gs.length) : ∃ ao cap, at_ gs i = .slice ao (len i) cap ∧ (0 < len i → ∃ g, ao = some ⟨g, 0, none⟩) ∧ len i ≤ cap ∧ cap ≤ 9223372036854775807 := by
 obtain ⟨ys, hf, hl, _⟩ := h
 rw [← hl i hi]
 exact (hf i hi).ao
theorem SO3.got {B gb m cg i k : Nat} {gs : List Value} {len : Nat → Nat} {w wr : World} (h : SO3 B gb m cg gs len w i k wr) (hi : i < gs.length) : wr.cell? ⟨gb, i, none⟩ = some (at_ gs i) := by
 obtain ⟨ys, _, _, _, _, h, _⟩ := h
 have h1 := h.1
 rw [World.ownsRow.cellAt h i (by omega), List.getElem?_eq_getElem (by omega)]
 simp [at_, hi]
theorem SO3.cell {B gb m cg i k g cap : Nat} {gs : List Value} {len : Nat → Nat} {w wr : World} (h : SO3 B gb m cg gs len w i k wr) (hi : i < gs.length) (hv : at_ gs i = .slice (some ⟨g, 0, none⟩) (len i) cap) (hk : k < len i) :
  (∃ x : Nat, wr.cell? ⟨g, k, none⟩ = some (.int .u32 (x : Int))) ∧ wr.frozen? ⟨g, k, none⟩ = false := by
 obtain ⟨ys, hf, hl, _⟩ := h
 have := hf i hi
 rw [hv] at this
 have := this.cell (k := k) (by rw [hl i hi]; exact hk)
 exact ⟨⟨_, this.1⟩, this.2⟩
theorem SO3.step {B gb m cg i k g cap : Nat} {gs : List Value} {len : Nat → Nat} {w wr : World} (h : SO3 B gb m cg gs len w i k wr) (hd : Dist gs) (hi : i < gs.length) (hv : at_ gs i = .slice (some ⟨g, 0, none⟩) (len i) cap) (hk : k < len i) (hm : i < 1000) :
  SO3 B gb m cg gs len w i (k + 1) (wr.setCell ⟨g, k, none⟩ (.int .u32 (100000 + (i : Int)))) := by
 obtain ⟨ys, hf, hl, h1, h2, h3, h4⟩ := h
 have hU : (.int .u32 (100000 + (i : Int)) : Value) = U (100000 + i) := by simp [U]
 rw [hU]
 have ho := hf i hi
 rw [hv] at ho
 obtain ⟨_, _, cur, hh, _⟩ := ho.heap
 refine ⟨upd ys i ((ys i).set k (100000 + i)), hf.set hd hi hv (hl i hi) k (100000 + i) (by omega), ?_, ?_, ?_, rowO_other h3 hh (by decide), h4.setCell (Or.inl ⟨i, hi, by rw [hv]; rfl⟩) _⟩
 ·
  intro j hj
  unfold upd
  by_cases hji : j = i
  · subst hji; rw [if_pos rfl, List.length_set]; exact hl j hj
  · rw [if_neg hji]; exact hl j hj
 ·
  intro j hj
  unfold upd
  rw [if_neg (by omega)]
  exact h1 j hj
 ·
  intro q hq
  unfold upd
  rw [if_pos rfl]
  by_cases hqk : q = k
  · subst hqk; exact getD_set_self _ _ _ (by rw [hl i hi]; exact hk)
  · rw [getD_set_ne _ _ _ _ hqk]; exact h2 q (by omega)
theorem SO3.done {B gb m cg i : Nat} {gs : List Value} {len : Nat → Nat} {w wr : World} (h : SO3 B gb m cg gs len w i (len i) wr) (hi : i < gs.length) : SO3 B gb m cg gs len w (i + 1) 0 wr := by
 obtain ⟨ys, hf, hl, h1, h2, h3, h4⟩ := h
 refine ⟨ys, hf, hl, fun j hj => ?_, fun q hq => by omega, h3, h4⟩
 by_cases hji : j = i
 · subst hji; exact eq_replicate (hl j hi) h2
 · exact h1 j (by omega)
def mkO (len : Nat → Nat) (j : Nat) : List Nat := List.replicate (len j) (100000 + j)
def tlO (len : Nat → Nat) (j k : Nat) : List Nat := mkO len j ++ List.replicate k (500000 + j)
theorem mkO_len (len : Nat → Nat) (j : Nat) : (mkO len j).length = len j := by simp [mkO]
theorem tlO_len (len : Nat → Nat) (j k : Nat) : (tlO len j k).length = len j + k := by simp [tlO, mkO]
theorem tlO_zero (len : Nat → Nat) (j : Nat) : tlO len j 0 = mkO len j := by simp [tlO]
theorem tlO_succ (len : Nat → Nat) (j k : Nat) : tlO len j (k + 1) = tlO len j k ++ [500000 + j] := by
 simp only [tlO, List.append_assoc, List.replicate_succ']
theorem tlO_lo (len : Nat → Nat) (j k q : Nat) (h : q < len j) : (tlO len j k).getD q 0 = 100000 + j := by
 rw [List.getD_eq_getElem?_getD, tlO, List.getElem?_append_left (by rw [mkO_len]; exact h), mkO, List.getElem?_replicate, if_pos h]; rfl
theorem tlO_hi (len : Nat → Nat) (j k q : Nat) (h : len j ≤ q) (h2 : q < len j + k) : (tlO len j k).getD q 0 = 500000 + j := by
 rw [List.getD_eq_getElem?_getD, tlO, List.getElem?_append_right (by rw [mkO_len]; exact h), mkO_len, List.getElem?_replicate, if_pos (by omega)]; rfl
theorem mkO_at (len : Nat → Nat) (j q : Nat) (h : q < len j) : (mkO len j).getD q 0 = 100000 + j := by rw [← tlO_zero]; exact tlO_lo len j 0 q h

structure CO3 (B gb m cg : Nat) (gs : List Value) (len : Nat → Nat) (w : World) (i : Nat) (ls : List Value) (long : Value) (wr : World) : Prop where
 fam : Fam B wr gs (mkO len)
 got : wr.ownsRow B 23 1 (.slice (some ⟨gb, 0, none⟩) m cg) m gs
 bel : Bex gs w wr
 ll : ls.length = i
 lo : wr.ownsRow B 23 1 long i ls
 lso : ∀ j, j < i → Own B 37 wr (at_ ls j) (tlO len j 8)
 lsd : ∀ j, j < i → ∀ j', j' < gs.length → j' ≠ j → (at_ ls j).ownBlock = none ∨ (at_ ls j).ownBlock ≠ (at_ gs j').ownBlock
 lg : long.ownBlock ≠ some gb
 ln : ∀ k, long.ownBlock = some k → w.heap.size ≤ k
theorem CO3.keep {B gb m cg : Nat} {gs : List Value} {len : Nat → Nat} {w : World} {i : Nat} {ls : List Value} {long : Value} {wr w' : World} (h : CO3 B gb m cg gs len w i ls long wr) {v : Value} {n : Nat} (hk : Keeps wr w' v n) (hb : Bex gs w w')
  (h1 : ∀ j, j < gs.length → (at_ gs j).ownBlock = v.ownBlock → len j ≤ n) (h2 : some gb ≠ v.ownBlock) (h3 : long.ownBlock = v.ownBlock → i ≤ n) (h4 : ∀ j, j < i → (at_ ls j).ownBlock = v.ownBlock → len j + 8 ≤ n) :
  CO3 B gb m cg gs len w i ls long w' := by
 refine ⟨fun j hj => ⟨(h.fam j hj).1, hk _ _ _ _ _ (h.fam j hj).2 (by rw [mkO_len]; exact h1 j hj)⟩, hk _ _ _ _ _ h.got (fun e => absurd e h2), hb, h.ll, hk _ _ _ _ _ h.lo h3, fun j hj => ⟨(h.lso j hj).1, hk _ _ _ _ _ (h.lso j hj).2 (by rw [tlO_len]; exact h4 j hj)⟩, h.lsd, h.lg, h.ln⟩
theorem CO3.alloc {B gb m cg : Nat} {gs : List Value} {len : Nat → Nat} {w : World} {i : Nat} {ls : List Value} {long : Value} {wr : World} (h : CO3 B gb m cg gs len w i ls long wr) (o : Obj) :
  CO3 B gb m cg gs len w i ls long (wr.alloc o) :=
 ⟨fun j hj => ⟨(h.fam j hj).1, (h.fam j hj).2.alloc o⟩, h.got.alloc o, h.bel.alloc o, h.ll, h.lo.alloc o, fun j hj => ⟨(h.lso j hj).1, (h.lso j hj).2.alloc o⟩, h.lsd, h.lg, h.ln⟩
structure VO3 (B : Nat) (gs : List Value) (len : Nat → Nat) (w : World) (i k : Nat) (ls : List Value) (v : Value) (wr : World) : Prop where
 vo : Own B 37 wr v (tlO len i k)
 vg : ∀ j, j < gs.length → j ≠ i → v.ownBlock = none ∨ v.ownBlock ≠ (at_ gs j).ownBlock
 vl : ∀ j, j < i → v.ownBlock = none ∨ v.ownBlock ≠ (at_ ls j).ownBlock
 vm : ∀ k, v.ownBlock = some k → May gs w k
theorem push_stepO {B gb m cg : Nat} {gs : List Value} {len : Nat → Nat} {w : World} {i k : Nat} {ls : List Value} {long v v' : Value} {wr w' : World} {o : Obj} (h : CO3 B gb m cg gs len w i ls long wr) (hv : VO3 B gs len w i k ls v wr) (hB : B ≤ wr.heap.size) (hi : i < 1000)
  (ho : w'.ownsRow B 37 1 v' (len i + k + 1) ((tlO len i k).map U ++ [.int .u32 (500000 + (i : Int))])) (hg : (wr.alloc o).grownBy w' v.ownBlock) (hk : Keeps (wr.alloc o) w' v (len i + k))
  (hb : v'.ownBlock = v.ownBlock ∨ ∀ g, v'.ownBlock = some g → wr.heap.size + 1 ≤ g) :
  CO3 B gb m cg gs len w i ls long w' ∧ VO3 B gs len w i (k + 1) ls v' w' ∧ B ≤ w'.heap.size := by
 have hsz : (wr.alloc o).heap.size = wr.heap.size + 1 := by simp
 have hB1 : B ≤ (wr.alloc o).heap.size := by omega
 have h1 := h.alloc o
 have hvo1 : Own B 37 (wr.alloc o) v (tlO len i k) := ⟨hv.vo.1, hv.vo.2.alloc o⟩
 have hbel : Bex gs w w' := h1.bel.grown hg hv.vm
 refine ⟨h1.keep hk hbel ?_ ?_ ?_ ?_, ⟨⟨?_, ?_⟩, ?_, ?_, ?_⟩, Nat.le_trans hB1 hg.size⟩
 ·
  intro j hj he
  by_cases hji : j = i
  · subst hji; omega
  ·
   have := short_of (n := len i + k) (h1.fam j hj).2 (hv.vg j hj hji) he
   rw [mkO_len] at this; exact this
 ·
  have := own_types h1.got hvo1.2 (by decide)
  simp only [Value.ownBlock] at this
  rcases this with h | h
  · simp at h
  · exact h
 ·
  intro he
  rcases own_types h1.lo hvo1.2 (by decide) with h | h
  · have := own_none h1.lo h; omega
  · exact absurd he h
 ·
  intro j hj he
  have := short_of (n := len i + k) (h1.lso j hj).2 (hv.vl j hj) he
  rw [tlO_len] at this; exact this
 ·
  rw [tlO_succ]
  intro x hx
  rcases List.mem_append.1 hx with hx | hx
  · exact hv.vo.1 x hx
  · simp at hx; omega
 ·
  rw [tlO_len, tlO_succ, List.map_append]
  have hU : [(.int .u32 (500000 + (i : Int)) : Value)] = List.map U [500000 + i] := by simp [U]
  rw [← hU]
  exact ho
 ·
  intro j hj hji
  rcases hb with hb | hb
  · rw [hb]; exact hv.vg j hj hji
  ·
   rcases hg' : v'.ownBlock with _ | g
   · exact Or.inl rfl
   ·
    right
    have h5 := hb g hg'
    rcases hj' : (at_ gs j).ownBlock with _ | g2
    · simp
    ·
     have := ((h1.fam j hj).block g2 hj').2
     simp only [ne_eq, Option.some.injEq]; omega
 ·
  intro j hj
  rcases hb with hb | hb
  · rw [hb]; exact hv.vl j hj
  ·
   rcases hg' : v'.ownBlock with _ | g
   · exact Or.inl rfl
   ·
    right
    have h5 := hb g hg'
    rcases hj' : (at_ ls j).ownBlock with _ | g2
    · simp
    ·
     have := ((h1.lso j hj).block g2 hj').2
     simp only [ne_eq, Option.some.injEq]; omega
 ·
  intro g hg'
  rcases hb with hb | hb
  · exact hv.vm g (by rw [← hb]; exact hg')
  ·
   have h5 := hb g hg'
   have h6 := h.bel.size
   exact Or.inr (by omega)
theorem long_stepO {B gb m cg : Nat} {gs : List Value} {len : Nat → Nat} {w : World} {i : Nat} {ls : List Value} {long v long' : Value} {wr w' : World} {o : Obj} (h : CO3 B gb m cg gs len w i ls long wr) (hv : VO3 B gs len w i 8 ls v wr) (hB : B ≤ wr.heap.size)
  (ho : w'.ownsRow B 23 1 long' (i + 1) (ls ++ [v])) (hg : (wr.alloc o).grownBy w' long.ownBlock) (hk : Keeps (wr.alloc o) w' long i)
  (hb : long'.ownBlock = long.ownBlock ∨ ∀ g, long'.ownBlock = some g → wr.heap.size + 1 ≤ g) :
  CO3 B gb m cg gs len w (i + 1) (ls ++ [v]) long' w' ∧ B ≤ w'.heap.size := by
 have hsz : (wr.alloc o).heap.size = wr.heap.size + 1 := by simp
 have hB1 : B ≤ (wr.alloc o).heap.size := by omega
 have h1 := h.alloc o
 have hvo1 : Own B 37 (wr.alloc o) v (tlO len i 8) := ⟨hv.vo.1, hv.vo.2.alloc o⟩
 have hbel : Bex gs w w' := h1.bel.grown hg (fun g e => Or.inr (h.ln g e))
 have typ : ∀ u xs, Own B 37 (wr.alloc o) u xs → Own B 37 w' u xs := fun u xs hu => ⟨hu.1, hk _ _ _ _ _ hu.2 (fun he => by
  rcases own_types hu.2 h1.lo (by decide) with h | h
  · have := own_none hu.2 h; omega
  · exact absurd he h)⟩
 refine ⟨⟨fun j hj => typ _ _ (h1.fam j hj), hk _ _ _ _ _ h1.got (fun e => absurd e.symm (by simpa [Value.ownBlock] using h1.lg)), hbel, by rw [List.length_append, h.ll]; rfl, ho, ?_, ?_, ?_, ?_⟩, Nat.le_trans hB1 hg.size⟩
 ·
  intro j hj
  by_cases hji : j = i
  · subst hji; rw [at_snoc_eq h.ll]; exact typ _ _ hvo1
  · rw [at_snoc_lt h.ll (by omega)]; exact typ _ _ (h1.lso j (by omega))
 ·
  intro j hj j' hj' hne
  by_cases hji : j = i
  · subst hji; rw [at_snoc_eq h.ll]; exact hv.vg j' hj' hne
  · rw [at_snoc_lt h.ll (by omega)]; exact h.lsd j (by omega) j' hj' hne
 ·
  rcases hb with hb | hb
  · rw [hb]; exact h.lg
  ·
   intro e
   have h5 := hb gb e
   have := World.ownsRow.lt h1.got gb rfl
   omega
 ·
  intro g e
  rcases hb with hb | hb
  · exact h.ln g (by rw [← hb]; exact e)
  ·
   have h5 := hb g e
   have h6 := h.bel.size
   omega
theorem vst_startO {B gb m cg : Nat} {gs : List Value} {len : Nat → Nat} {w : World} {i : Nat} {ls : List Value} {long : Value} {wr : World} (h : CO3 B gb m cg gs len w i ls long wr) (hd : Dist gs) (hi : i < gs.length) : VO3 B gs len w i 0 ls (at_ gs i) wr :=
 ⟨by rw [tlO_zero]; exact h.fam i hi, fun j hj hne => hd i j hi hj (fun e => hne e.symm), fun j hj => apart_symm (h.lsd j hj i hi (by omega)), fun k hk => Or.inl ⟨i, hi, hk⟩⟩
theorem cst_startO {B gb m cg : Nat} {gs : List Value} {len : Nat → Nat} {w wr : World} (hs : SO3 B gb m cg gs len w m 0 wr) (hm : gs.length = m) : CO3 B gb m cg gs len w 0 [] (.slice none 0 0) wr := by
 obtain ⟨ys, hf, hl, h1, h2, h3, h4⟩ := hs
 refine ⟨fun j hj => ?_, h3, h4, rfl, World.ownsRow_nil _ _ _ _, fun j hj => by omega, fun j hj => by omega, by simp [Value.ownBlock], fun k hk => by simp [Value.ownBlock] at hk⟩
 have := hf j hj
 rw [h1 j (by omega)] at this
 exact this
theorem CO3.gotCell {B gb m cg : Nat} {gs : List Value} {len : Nat → Nat} {w : World} {i : Nat} {ls : List Value} {long : Value} {wr : World} (h : CO3 B gb m cg gs len w i ls long wr) (hm : gs.length = m) {j : Nat} (hj : j < m) : wr.cell? ⟨gb, j, none⟩ = some (at_ gs j) := by
 rw [World.ownsRow.cellAt h.got j (by simpa using hj)]
 rw [List.getElem?_eq_getElem (by omega)]
 simp [at_, hm, hj]
theorem CO3.longShape {B gb m cg : Nat} {gs : List Value} {len : Nat → Nat} {w : World} {i : Nat} {ls : List Value} {long : Value} {wr : World} (h : CO3 B gb m cg gs len w i ls long wr) : ∃ ao cap, long = .slice ao i cap ∧ i ≤ cap ∧ cap ≤ 9223372036854775807 ∧ (∀ j, j < i → ∃ lb, ao = some ⟨lb, 0, none⟩ ∧ wr.cell? ⟨lb, j, none⟩ = some (at_ ls j)) := by
 have hlo := h.lo
 rcases h.lo.2 with ⟨rfl, h0⟩ | ⟨g, cap, cur, rfl, h3, h4, h5, h6, h7, h8⟩
 · exact ⟨none, 0, by rw [h0], by omega, by omega, fun j hj => by omega⟩
 ·
  refine ⟨_, cap, rfl, h5, h6, fun j hj => ⟨g, rfl, ?_⟩⟩
  rw [World.ownsRow.cellAt hlo j (by simpa using hj), List.getElem?_eq_getElem (by have := h.ll; omega)]
  simp [at_, h.ll, hj]
theorem own_yes (B gb cg m : Nat) (gs : List Value) (xs : Nat → List Nat) (w : World) (hB : B ≤ w.heap.size) (hm : m ≤ 1000)
  (hgot : w.ownsRow B 23 1 (.slice (some ⟨gb, 0, none⟩) m cg) m gs)
  (hfam : Fam B w gs xs) (hd : Dist gs) (hlen : ∀ j, j < m → (xs j).length ≤ 1099511627776) :
  Calls Tryz.prog 44 #[.slice (some ⟨gb, 0, none⟩) m cg] w fun e w' => e = .returned (.bool true) ∧ Bex gs w w' := by
 have HG : Hid (gs.length = m) := by have := hgot.1; show _ = _; omega
 have S0 : SO3 B gb m cg gs (fun j => (xs j).length) w 0 0 w := ⟨xs, hfam, fun _ _ => rfl, fun j hj => by omega, fun q hq => by omega, hgot, Bex.same (Below.refl _ _)⟩
 obtain ⟨len, hlenE⟩ : ∃ len : Nat → Nat, len = fun j => (xs j).length := ⟨_, rfl⟩
 rw [← hlenE] at S0
 have hlen2 : Hid (∀ j, j < m → len j ≤ 1099511627776) := by intro j hj; rw [hlenE]; exact hlen j hj
 clear hlenE hfam hgot hlen
 go_enter Tryz.func44, Tryz.ntmps44
 go_wp2
 go_loopw [3] (fun t wr => ∃ i : Nat, i ≤ m ∧ t = .int .i64 i ∧ SO3 B gb m cg gs len w i 0 wr) (fun t _ => m - (intOf t).toNat)
 case atStart => exact ⟨0, Nat.zero_le _, rfl, S0⟩
 case round =>
  clear S0
  obtain ⟨i, hi, rfl, hst⟩ := hrel
  by_cases him : i < m
  ·
   have hig : i < gs.length := by rw [HG.out]; exact him
   obtain ⟨ao, cap, hv, hao, hnc, hcm⟩ := hst.value hig
   obtain ⟨n, hn⟩ : ∃ n, n = len i := ⟨_, rfl⟩
   rw [← hn] at hv hao hnc
   have HN : Hid (n = len i) := hn
   have HV : Hid (at_ gs i = .slice ao n cap) := hv
   have HI : Hid (i < gs.length) := hig
   clear hn hv hig
   have hlt : (i : Int) < (m : Int) := by omega
   go_wp2
   go_loopw [4] (fun t wr => ∃ k : Nat, k ≤ n ∧ t = .int .i64 k ∧ SO3 B gb m cg gs len w i k wr) (fun t _ => n - (intOf t).toNat)
   case atStart => exact ⟨0, Nat.zero_le _, rfl, hst⟩
   case round =>
    clear hst
    obtain ⟨k, hk, rfl, hst⟩ := hrel
    have c0 := hst.got HI.out
    rw [HV.out] at c0
    by_cases hkn : k < n
    ·
     obtain ⟨g, rfl⟩ := hao (by omega)
     have hv' : at_ gs i = .slice (some ⟨g, 0, none⟩) (len i) cap := by rw [← HN.out]; exact HV.out
     obtain ⟨⟨x, hx⟩, hfz⟩ := hst.cell HI.out hv' (by rw [← HN.out]; exact hkn)
     have hs2 := hst.step hd HI.out hv' (by rw [← HN.out]; exact hkn) (by omega)
     clear hst hv' hao
     have hkn' : (k : Int) < (n : Int) := by omega
     go_wp2
     go_roundw
     case rel => exact ⟨k + 1, by omega, by go_num, hs2⟩
     case measure => simp [intOf]; omega
    ·
     have hkn' : ¬ (k : Int) < (n : Int) := by omega
     have hkk : k = len i := by rw [← HN.out]; omega
     rw [hkk] at hst
     have hs2 := hst.done HI.out
     have HK : Hid (k = len i) := hkk
     clear hst hkk
     go_wp2
     go_roundw
     case rel => exact ⟨i + 1, by omega, by go_num, hs2⟩
     case measure => simp [intOf]; omega
  ·
   have hge : ¬ (i : Int) < (m : Int) := by omega
   have him' : i = m := by omega
   rw [him'] at hst
   have hC := cst_startO hst HG.out
   have HI : Hid (i = m) := him'
   have hB2 : B ≤ wr.heap.size := Nat.le_trans hB hC.bel.size
   clear hst him'
   obtain ⟨iN, hiN, hzN0, hzN1, hzN2⟩ := info_parts Tryz.infoN3
   obtain ⟨iU, hiU, hzU0, hzU1, hzU2⟩ := info_parts Tryz.infoU3
   go_wp2
   go_loopw [5, 6] (fun lo t wr => ∃ (i : Nat) (ls : List Value), i ≤ m ∧ t = .int .i64 i ∧ CO3 B gb m cg gs len w i ls lo wr ∧ B ≤ wr.heap.size) (fun _ t _ => m - (intOf t).toNat)
   case atStart => exact ⟨0, [], Nat.zero_le _, rfl, hC, hB2⟩
   case round =>
    clear hC hB2 HI hge him hi
    obtain ⟨i, ls, hi, rfl, hC, hB2⟩ := hrel
    by_cases him : i < m
    ·
     have hig : i < gs.length := by rw [HG.out]; exact him
     have c0 := hC.gotCell HG.out him
     have hV := vst_startO hC hd hig
     obtain ⟨v0, hv0⟩ : ∃ v, v = at_ gs i := ⟨_, rfl⟩
     rw [← hv0] at c0 hV
     have HV0 : Hid (v0 = at_ gs i) := hv0
     have HI : Hid (i < gs.length) := hig
     clear hv0 hig
     have hlt : (i : Int) < (m : Int) := by omega
     have hlb := hlen2.out i him
     go_wp2
     go_loopw [7, 8] (fun l t wr => ∃ k : Nat, k ≤ 8 ∧ t = .int .i64 k ∧ CO3 B gb m cg gs len w i ls u5 wr ∧ VO3 B gs len w i k ls l wr ∧ B ≤ wr.heap.size) (fun _ t _ => 8 - (intOf t).toNat)
     case atStart => exact ⟨0, Nat.zero_le _, rfl, hC, hV, hB2⟩
     case round =>
      clear hC hV hB2 c0
      obtain ⟨k, hk, rfl, hC, hV, hB2⟩ := hrel
      by_cases hk9 : k < 8
      ·
       have hlt9 : (k : Int) < 8 := by omega
       have hvo : wr.ownsRow B 37 1 u7 (len i + k) ((tlO len i k).map U) := by have := hV.vo.2; rw [tlO_len] at this; exact this
       have hB3 : B ≤ (wr.alloc (.cells #[.int .u32 (500000 + (i : Int))] 37)).heap.size := by simp; omega
       go_wp2_with (at_builtin; refine wpList_push _ rfl _ _ 23 rfl B 37 iU (.int .u32 0) 4 Tryz.underlying23 hiU hzU0 hzU1 hzU2 rfl _ (len i + k) ((tlO len i k).map U) rfl (hvo.alloc _) ⟨wr.heap.size, 0, none⟩ 1 1 [.int .u32 (500000 + (i : Int))] rfl rfl (cell_one_new _ _ _) (fun u hu => by simp at hu; subst hu; rfl) (by decide) (by unfold maxLen; omega) (by omega) hB3 ?_)
       intro v' w1 ho hgr hkp hbk
       obtain ⟨hC1, hV1, hB4⟩ := push_stepO hC hV hB2 (by omega) ho hgr hkp hbk
       clear ho hgr hkp hbk hC hV hB2 hB3 hvo
       go_wp2
       go_roundw
       case rel => exact ⟨k + 1, by omega, by go_num, hC1, hV1, hB4⟩
       case measure => simp [intOf]; omega
      ·
       have hlt9 : ¬ (k : Int) < 8 := by omega
       have hk9' : k = 8 := by omega
       rw [hk9'] at hV
       have HK : Hid (k = 8) := hk9'
       clear hk9'
       obtain ⟨ao, cap, hv11, _⟩ := hV.vo.ao
       obtain ⟨n11, hn11⟩ : ∃ n, n = (tlO len i 8).length := ⟨_, rfl⟩
       rw [← hn11] at hv11
       clear hn11
       subst hv11
       have hB3 : B ≤ (wr.alloc (.cells #[.slice ao n11 cap] 23)).heap.size := by simp; omega
       go_wp2_with (at_builtin; refine wpList_push _ rfl _ _ 63 rfl B 23 iN (.slice none 0 0) 24 Tryz.underlying63 hiN hzN0 hzN1 hzN2 rfl _ i ls rfl (hC.lo.alloc _) ⟨wr.heap.size, 0, none⟩ 1 1 [.slice ao n11 cap] rfl rfl (cell_one_new _ _ _) (fun u hu => by simp at hu; subst hu; rfl) (by decide) (by unfold maxLen; omega) (by omega) hB3 ?_)
       intro v' w1 ho hgr hkp hbk
       obtain ⟨hC1, hB4⟩ := long_stepO hC hV hB2 ho hgr hkp hbk
       clear ho hgr hkp hbk hC hV hB2 hB3
       go_wp2
       go_roundw
       case rel => exact ⟨i + 1, ls ++ [.slice ao n11 cap], by omega, by go_num, hC1, hB4⟩
       case measure => simp [intOf]; omega
    ·
     have hge2 : ¬ (i : Int) < (m : Int) := by omega
     have him' : i = m := by omega
     rw [him'] at hC
     have HI2 : Hid (i = m) := him'
     clear him' hB2
     obtain ⟨aoL, capL, hL, hL1, hL2, hLc⟩ := hC.longShape
     subst hL
     have HB : Hid (Bex gs w wr) := hC.bel
     go_wp2
     go_loop [9] (fun t => ∃ i : Nat, i ≤ m ∧ t = .int .i64 i) (fun t => m - (intOf t).toNat)
     case atStart => exact ⟨0, Nat.zero_le _, rfl⟩
     case round =>
      clear hge2 HI2 him hi
      obtain ⟨i, hi, rfl⟩ := hrel
      by_cases him : i < m
      ·
       have hig : i < gs.length := by rw [HG.out]; exact him
       have c0 := hC.gotCell HG.out him
       obtain ⟨lb, rfl, c1⟩ := hLc i him
       have ho0 := hC.fam i hig
       have ho1 := hC.lso i him
       obtain ⟨ao0, cap0, e0, hp0, hn0, hm0⟩ := ho0.ao
       obtain ⟨ao1, cap1, e1, hp1, hn1, hm1⟩ := ho1.ao
       rw [e0] at c0 ho0
       rw [e1] at c1 ho1
       rw [tlO_len] at c1 ho1 hp1 hn1
       rw [mkO_len] at c0 ho0 hp0 hn0
       have hlb := hlen2.out i him
       obtain ⟨n, hn⟩ : ∃ n, n = len i := ⟨_, rfl⟩
       rw [← hn] at c0 c1 ho0 ho1 hp0 hp1 hn0 hn1 hlb
       have HN : Hid (n = len i) := hn
       obtain ⟨g1, rfl⟩ := hp1 (by omega)
       clear hn e0 e1 hLc hC hp1 hd hig
       have hlt : (i : Int) < (m : Int) := by omega
       go_wp2
       go_loop [10] (fun t => ∃ k : Nat, k ≤ n + 8 ∧ t = .int .i64 k) (fun t => n + 8 - (intOf t).toNat)
       case atStart => exact ⟨0, Nat.zero_le _, rfl⟩
       case round =>
        obtain ⟨k, hk, rfl⟩ := hrel
        by_cases hk1 : k < n + 8
        ·
         have hk1' : (k : Int) < ((n + 8 : Nat) : Int) := by omega
         by_cases hk2 : k < n
         ·
          have hk2' : (k : Int) < (n : Int) := by omega
          obtain ⟨g0, rfl⟩ := hp0 (by omega)
          have d0 := (ho0.cell (k := k) (by rw [mkO_len, ← HN.out]; exact hk2)).1
          have d1 := (ho1.cell (k := k) (by rw [tlO_len, ← HN.out]; exact hk1)).1
          rw [mkO_at len i k (by rw [← HN.out]; exact hk2)] at d0
          rw [tlO_lo len i 8 k (by rw [← HN.out]; exact hk2)] at d1
          clear ho0 ho1 hp0
          have e0 : (((100000 + i : Nat) : Int) != (100000 + (i : Int))) = false := by simp
          go_wp2
          go_round
          case rel => exact ⟨k + 1, by omega, by go_num⟩
          case measure => simp [intOf]; omega
         ·
          have hk2' : ¬ (k : Int) < (n : Int) := by omega
          have d1 := (ho1.cell (k := k) (by rw [tlO_len, ← HN.out]; exact hk1)).1
          rw [tlO_hi len i 8 k (by rw [← HN.out]; omega) (by rw [← HN.out]; exact hk1)] at d1
          clear ho0 ho1 hp0
          have e0 : (((500000 + i : Nat) : Int) != (500000 + (i : Int))) = false := by simp
          go_wp2
          go_round
          case rel => exact ⟨k + 1, by omega, by go_num⟩
          case measure => simp [intOf]; omega
        ·
         have hk1' : ¬ (k : Int) < ((n + 8 : Nat) : Int) := by omega
         clear ho0 ho1 hp0
         go_wp2
         go_round
         case rel => exact ⟨i + 1, by omega, by go_num⟩
         case measure => simp [intOf]; omega
      ·
       have hge3 : ¬ (i : Int) < (m : Int) := by omega
       clear hLc hC hd
       go_wp2
       go_ret
       exact ⟨rfl, HB.out⟩
open Go.RowKit

def RoomL (B : Nat) (w : World) (v : Value) (xs : List Nat) : Prop :=
 ∃ u, v = cutTo u xs.length ∧ Own B 37 w u (xs ++ List.replicate 5 7000)
theorem RoomL.own {B : Nat} {w : World} {v : Value} {xs : List Nat} (h : RoomL B w v xs) : Own B 37 w v xs := by
 obtain ⟨u, rfl, ho⟩ := h
 have := ho.cut (k := xs.length) (by simp)
 rwa [List.take_left] at this
theorem RoomL.shape {B : Nat} {w : World} {v : Value} {xs : List Nat} (h : RoomL B w v xs) : ∃ g cap, v = .slice (some ⟨g, 0, none⟩) xs.length cap ∧ xs.length + 5 ≤ cap ∧ cap ≤ 9223372036854775807 ∧ Own B 37 w (.slice (some ⟨g, 0, none⟩) (xs.length + 5) cap) (xs ++ List.replicate 5 7000) := by
 obtain ⟨u, rfl, ho⟩ := h
 rcases ho.shape with ⟨_, h0⟩ | ⟨g, cap, rfl, h1, h2⟩
 · simp at h0
 ·
  simp only [List.length_append, List.length_replicate] at h1 ho ⊢
  exact ⟨g, cap, rfl, h1, h2, ho⟩
theorem RoomL.below {B : Nat} {w w' : World} {v : Value} {xs : List Nat} (h : RoomL B w v xs) (hb : Below w.heap.size w w') : RoomL B w' v xs := by
 obtain ⟨u, e, ho⟩ := h
 exact ⟨u, e, ho.below hb⟩
theorem RoomL.mono {B B' : Nat} {w : World} {v : Value} {xs : List Nat} (h : RoomL B w v xs) (hb : B' ≤ B) : RoomL B' w v xs := by
 obtain ⟨u, e, ho⟩ := h
 exact ⟨u, e, ho.mono hb⟩
theorem room_stepL {B k : Nat} {w w' wr : World} {v v' : Value} {xs : List Nat} {o : Obj} (hv : Own B 37 wr v (xs ++ List.replicate k 7000)) (hbel : Below B w wr) (hB : B ≤ wr.heap.size)
  (ho : w'.ownsRow B 37 1 v' (xs.length + k + 1) ((xs ++ List.replicate k 7000).map U ++ [.int .u32 7000])) (hg : (wr.alloc o).grownBy w' v.ownBlock) :
  Own B 37 w' v' (xs ++ List.replicate (k + 1) 7000) ∧ Below B w w' ∧ B ≤ w'.heap.size := by
 have hsz : (wr.alloc o).heap.size = wr.heap.size + 1 := by simp
 have hbel2 : Below B (wr.alloc o) w' := below_of_grown hg (by omega) (fun g e => (hv.block g e).1)
 refine ⟨⟨?_, ?_⟩, (hbel.alloc hB o).trans hbel2, by have := hbel2.size; omega⟩
 ·
  intro x hx
  rcases List.mem_append.1 hx with h | h
  · exact hv.1 x (List.mem_append_left _ h)
  · have := List.eq_of_mem_replicate h; omega
 ·
  rw [List.length_append, List.length_replicate, List.replicate_succ', ← List.append_assoc, List.map_append]
  exact ho
theorem limbs3_any (v : Value) (xs : List Nat) (w : World) (h : Num w v xs) (hlen : xs.length ≤ 1099511627776) :
  Calls Tryz.prog 23 #[v] w fun e w' => ∃ u, e = .returned u ∧ RoomL w.heap.size w' u xs ∧ Below w.heap.size w w' := by
 obtain ⟨hb, ao, cap, rfl, hc, hm, hnil, hcell⟩ := h.open_
 clear h
 obtain ⟨n, hn⟩ : ∃ n, xs.length = n := ⟨_, rfl⟩
 rw [hn] at hc hlen ⊢
 have HN : Hid (xs.length = n) := hn
 clear hn
 obtain ⟨i0, hi, hz0, hz1, hz2⟩ := info_parts Tryz.infoU3
 by_cases hn0 : 0 < n
 ·
  obtain ⟨b, off, rfl, _⟩ := hcell 0 (by rw [HN.out]; exact hn0)
  have HC : Hid (∀ j u, (xs.map U)[j]? = some u → w.cell? ((⟨b, off, none⟩ : Addr).add j) = some u) := by
   intro j u hj
   rw [List.getElem?_map] at hj
   obtain ⟨y, hy, rfl⟩ := Option.map_eq_some_iff.1 hj
   obtain ⟨hjk, hy⟩ := List.getElem?_eq_some_iff.1 hy
   obtain ⟨b', off', he, hc'⟩ := hcell j (by omega)
   simp only [Option.some.injEq, Addr.mk.injEq] at he
   obtain ⟨rfl, rfl, _⟩ := he
   subst hy
   rw [Addr.add_lit]
   rw [hc', List.getD_eq_getElem?_getD, List.getElem?_eq_getElem (by omega)]
   rfl
  have HL : Hid ((xs.map U).length = n * 1) := by show _ = _; rw [List.length_map, HN.out]; omega
  have H1 : Hid (∀ u ∈ xs.map U, u.oneCell' = true) := by intro u hu; obtain ⟨y, _, rfl⟩ := List.mem_map.1 hu; rfl
  clear hcell hnil
  go_enter Tryz.func23, Tryz.ntmps23
  go_wp2_with (at_builtin; refine wpList_append_own _ rfl _ _ 23 rfl w.heap.size 37 i0 (.int .u32 0) 1 4 Tryz.underlying23 hi hz0 hz1 hz2 rfl (by decide) _ _ _ rfl (World.ownsRow_nil _ _ _ _) ⟨b, off, none⟩ n cap (xs.map U) rfl HL.out HC.out H1.out (by unfold maxLen; omega) (by omega) (Nat.le_refl _) ?_)
  intro v1 w1 hown hgr _
  have how : Own w.heap.size 37 w1 v1 (xs ++ List.replicate 0 7000) := ⟨by simpa using hb, by simp only [List.replicate_zero, List.append_nil]; rw [HN.out]; simpa using hown⟩
  have hbel : Below w.heap.size w w1 := (Below.refl w.heap.size w).grown hgr (Nat.le_refl _) (by intro k hk; simp [Value.ownBlock] at hk)
  have hB1 : w.heap.size ≤ w1.heap.size := hbel.size
  clear hown hgr HC
  go_wp2
  go_loopw [3, 4] (fun l t wr => ∃ k : Nat, k ≤ 5 ∧ t = .int .i64 k ∧ Own w.heap.size 37 wr l (xs ++ List.replicate k 7000) ∧ Below w.heap.size w wr ∧ w.heap.size ≤ wr.heap.size) (fun _ t _ => 5 - (intOf t).toNat)
  case atStart => exact ⟨0, by omega, rfl, how, hbel, hB1⟩
  case round =>
   clear how hbel hB1
   obtain ⟨k, hk, rfl, how, hbel, hB1⟩ := hrel
   by_cases hk5 : k < 5
   ·
    have hlt : (k : Int) < 5 := by omega
    have hvo : wr.ownsRow w.heap.size 37 1 u3 (n + k) ((xs ++ List.replicate k 7000).map U) := by have := how.2; rw [List.length_append, List.length_replicate, HN.out] at this; exact this
    have hB3 : w.heap.size ≤ (wr.alloc (.cells #[.int .u32 7000] 37)).heap.size := by simp; omega
    have HO : Hid (wr.ownsRow w.heap.size 37 1 u3 (n + k) ((xs ++ List.replicate k 7000).map U)) := hvo
    clear hvo
    go_wp2_with (at_builtin; refine wpList_push _ rfl _ _ 23 rfl w.heap.size 37 i0 (.int .u32 0) 4 Tryz.underlying23 hi hz0 hz1 hz2 rfl _ (n + k) ((xs ++ List.replicate k 7000).map U) rfl (HO.out.alloc _) ⟨wr.heap.size, 0, none⟩ 1 1 [.int .u32 7000] rfl rfl (cell_one_new _ _ _) (fun u hu => by simp at hu; subst hu; rfl) (by decide) (by unfold maxLen; omega) (by omega) hB3 ?_)
    intro v' w1 ho hgr _ _
    have R := room_stepL how hbel hB1 (by rw [HN.out]; simpa using ho) hgr
    clear ho hgr how hbel hB1 HO
    go_wp2
    go_roundw
    case rel => exact ⟨k + 1, by omega, by go_num, R⟩
    case measure => simp [intOf]; omega
   ·
    have hlt : ¬ (k : Int) < 5 := by omega
    have hk5' : k = 5 := by omega
    rw [hk5'] at how
    have HK : Hid (k = 5) := hk5'
    clear hk5'
    obtain ⟨ao3, cap3, e3, h3, h4, h5⟩ := how.ao
    obtain ⟨g, rfl⟩ := h3 (by simp)
    rw [List.length_append, List.length_replicate, HN.out] at e3 h4
    have HR : Hid (RoomL w.heap.size wr (.slice (some ⟨g, 0, none⟩) n cap3) xs) := ⟨_, by rw [e3, HN.out]; rfl, how⟩
    subst e3
    clear how
    go_wp2
    go_ret
    exact ⟨_, rfl, HR.out, hbel⟩
 ·
  have hn0' : n = 0 := by omega
  subst hn0'
  have hx : xs = [] := List.eq_nil_of_length_eq_zero HN.out
  subst hx
  have how : Own w.heap.size 37 w (.slice none 0 0) (([] : List Nat) ++ List.replicate 0 7000) := by simpa using Own.of_nil _ _ _
  have hbel : Below w.heap.size w w := Below.refl _ _
  have hB1 : w.heap.size ≤ w.heap.size := Nat.le_refl _
  clear hcell
  rcases ao with _ | a
  ·
   have := hnil rfl
   subst this
   clear hnil
   go_enter Tryz.func23, Tryz.ntmps23
   go_wp2
   go_loopw [3, 4] (fun l t wr => ∃ k : Nat, k ≤ 5 ∧ t = .int .i64 k ∧ Own w.heap.size 37 wr l (([] : List Nat) ++ List.replicate k 7000) ∧ Below w.heap.size w wr ∧ w.heap.size ≤ wr.heap.size) (fun _ t _ => 5 - (intOf t).toNat)
   case atStart => exact ⟨0, by omega, rfl, how, hbel, hB1⟩
   case round =>
    clear how hbel hB1
    obtain ⟨k, hk, rfl, how, hbel, hB1⟩ := hrel
    by_cases hk5 : k < 5
    ·
     have hlt : (k : Int) < 5 := by omega
     have hB3 : w.heap.size ≤ (wr.alloc (.cells #[.int .u32 7000] 37)).heap.size := by simp; omega
     have HO : Hid (wr.ownsRow w.heap.size 37 1 u3 k ((List.replicate k 7000).map U)) := by have := how.2; simpa [Hid] using this
     go_wp2_with (at_builtin; refine wpList_push _ rfl _ _ 23 rfl w.heap.size 37 i0 (.int .u32 0) 4 Tryz.underlying23 hi hz0 hz1 hz2 rfl _ k ((List.replicate k 7000).map U) rfl (HO.out.alloc _) ⟨wr.heap.size, 0, none⟩ 1 1 [.int .u32 7000] rfl rfl (cell_one_new _ _ _) (fun u hu => by simp at hu; subst hu; rfl) (by decide) (by unfold maxLen; omega) (by omega) hB3 ?_)
     intro v' w1 ho hgr _ _
     have R := room_stepL how hbel hB1 (by simpa using ho) hgr
     clear ho hgr how hbel hB1 HO
     go_wp2
     go_roundw
     case rel => exact ⟨k + 1, by omega, by go_num, R⟩
     case measure => simp [intOf]; omega
    ·
     have hlt : ¬ (k : Int) < 5 := by omega
     have hk5' : k = 5 := by omega
     rw [hk5'] at how
     have HK : Hid (k = 5) := hk5'
     clear hk5'
     obtain ⟨ao3, cap3, e3, h3, h4, h5⟩ := how.ao
     obtain ⟨g, rfl⟩ := h3 (by simp)
     simp only [List.nil_append, List.length_replicate] at e3 h4
     have HR : Hid (RoomL w.heap.size wr (.slice (some ⟨g, 0, none⟩) 0 cap3) ([] : List Nat)) := ⟨_, by rw [e3]; rfl, how⟩
     subst e3
     clear how
     go_wp2
     go_ret
     exact ⟨_, rfl, HR.out, hbel⟩
  ·
   clear hnil
   obtain ⟨b, off, spot⟩ := a
   go_enter Tryz.func23, Tryz.ntmps23
   go_wp2
   go_loopw [3, 4] (fun l t wr => ∃ k : Nat, k ≤ 5 ∧ t = .int .i64 k ∧ Own w.heap.size 37 wr l (([] : List Nat) ++ List.replicate k 7000) ∧ Below w.heap.size w wr ∧ w.heap.size ≤ wr.heap.size) (fun _ t _ => 5 - (intOf t).toNat)
   case atStart => exact ⟨0, by omega, rfl, how, hbel, hB1⟩
   case round =>
    clear how hbel hB1
    obtain ⟨k, hk, rfl, how, hbel, hB1⟩ := hrel
    by_cases hk5 : k < 5
    ·
     have hlt : (k : Int) < 5 := by omega
     have hB3 : w.heap.size ≤ (wr.alloc (.cells #[.int .u32 7000] 37)).heap.size := by simp; omega
     have HO : Hid (wr.ownsRow w.heap.size 37 1 u3 k ((List.replicate k 7000).map U)) := by have := how.2; simpa [Hid] using this
     go_wp2_with (at_builtin; refine wpList_push _ rfl _ _ 23 rfl w.heap.size 37 i0 (.int .u32 0) 4 Tryz.underlying23 hi hz0 hz1 hz2 rfl _ k ((List.replicate k 7000).map U) rfl (HO.out.alloc _) ⟨wr.heap.size, 0, none⟩ 1 1 [.int .u32 7000] rfl rfl (cell_one_new _ _ _) (fun u hu => by simp at hu; subst hu; rfl) (by decide) (by unfold maxLen; omega) (by omega) hB3 ?_)
     intro v' w1 ho hgr _ _
     have R := room_stepL how hbel hB1 (by simpa using ho) hgr
     clear ho hgr how hbel hB1 HO
     go_wp2
     go_roundw
     case rel => exact ⟨k + 1, by omega, by go_num, R⟩
     case measure => simp [intOf]; omega
    ·
     have hlt : ¬ (k : Int) < 5 := by omega
     have hk5' : k = 5 := by omega
     rw [hk5'] at how
     have HK : Hid (k = 5) := hk5'
     clear hk5'
     obtain ⟨ao3, cap3, e3, h3, h4, h5⟩ := how.ao
     obtain ⟨g, rfl⟩ := h3 (by simp)
     simp only [List.nil_append, List.length_replicate] at e3 h4
     have HR : Hid (RoomL w.heap.size wr (.slice (some ⟨g, 0, none⟩) 0 cap3) ([] : List Nat)) := ⟨_, by rw [e3]; rfl, how⟩
     subst e3
     clear how
     go_wp2
     go_ret
     exact ⟨_, rfl, HR.out, hbel⟩
theorem roomL_full {xs : List Nat} {j : Nat} (h : j < xs.length) : (xs ++ List.replicate 5 7000).getD j 0 = xs.getD j 0 := by
 rw [List.getD_eq_getElem?_getD, List.getD_eq_getElem?_getD, List.getElem?_append_left h]
theorem roomL_mark {xs : List Nat} {j : Nat} (h : xs.length ≤ j) (h2 : j < xs.length + 5) : (xs ++ List.replicate 5 7000).getD j 0 = 7000 := by
 rw [List.getD_eq_getElem?_getD, List.getElem?_append_right h, List.getElem?_replicate, if_pos (by omega)]; rfl
theorem stands_yes (B : Nat) (u v : Value) (xs : List Nat) (w : World) (hr : RoomL B w u xs) (h : Num w v xs) (hlen : xs.length ≤ 1099511627776) :
  Calls Tryz.prog 36 #[u, v] w fun e w' => e = .returned (.bool true) ∧ ∃ q, w' = w.drewN q := by
 obtain ⟨g, capR, rfl, hg1, hg2, how⟩ := hr.shape
 obtain ⟨hb, ao, cap, rfl, hc, hm, hnil, hcell⟩ := h.open_
 clear h hr hnil
 obtain ⟨n, hn⟩ : ∃ n, xs.length = n := ⟨_, rfl⟩
 rw [hn] at hc hlen hg1 how ⊢
 have HN : Hid (xs.length = n) := hn
 clear hn
 have heq : ((n : Int) == (n : Int)) = true := by simp
 go_enter Tryz.func36, Tryz.ntmps36
 go_wp2
 go_loopw [6] (fun t wr => ∃ k : Nat, k ≤ n + 5 ∧ t = .int .i64 k ∧ ∃ q, wr = w.drewN q) (fun t _ => n + 5 - (intOf t).toNat)
 case atStart => exact ⟨0, Nat.zero_le _, rfl, 0, rfl⟩
 case round =>
  obtain ⟨k, hk, rfl, q, hq⟩ := hrel
  have HQ : Hid (wr = w.drewN q) := hq
  have hhp : wr.heap = w.heap := by rw [hq, heap_drewN]
  clear hq
  by_cases hk5 : k < n + 5
  ·
   have c0 := (how.same hhp).cell (k := k) (by simp; rw [HN.out]; exact hk5)
   by_cases hkn : k < n
   ·
    obtain ⟨b, off, rfl, hc1⟩ := hcell k (by rw [HN.out]; exact hkn)
    have c1 : wr.cell? ⟨b, off + k, none⟩ = some (.int .u32 ((xs.getD k 0 : Nat) : Int)) := by rw [← hc1]; exact World.cell?_of_block (by rw [hhp])
    rw [roomL_full (by rw [HN.out]; exact hkn)] at c0
    obtain ⟨x, hx⟩ : ∃ x, x = xs.getD k 0 := ⟨_, rfl⟩
    rw [← hx] at c0 c1
    obtain ⟨c0, _⟩ := c0
    clear hcell hx hhp how hc1
    have hlt : (k : Int) < (n : Int) := by omega
    have hlt5 : (k : Int) < (n : Int) + 5 := by omega
    have hne : ((x : Int) != (x : Int)) = false := by simp
    have hgd : decide (n ≤ k) = false := by simp; omega
    have hgt : decide (k < n) = true := by simp; omega
    go_wp2
    go_quiet (fail)
    go_wp2
    go_roundw
    case rel => exact ⟨k + 1, by omega, by go_num, _, by rw [HQ.out, World.drewN_drewN]⟩
    case measure => simp [intOf]; omega
   ·
    rw [roomL_mark (by rw [HN.out]; omega) (by rw [HN.out]; exact hk5)] at c0
    obtain ⟨c0, _⟩ := c0
    clear hcell hhp how
    have hlt : ¬ (k : Int) < (n : Int) := by omega
    have hld : decide (k < n) = false := by simp; omega
    have hgd : decide (n ≤ k) = true := by simp; omega
    have hlt5 : (k : Int) < (n : Int) + 5 := by omega
    have hge : (n : Int) ≤ (k : Int) := by omega
    go_wp2
    go_quiet (fail)
    go_wp2
    go_roundw
    case rel => exact ⟨k + 1, by omega, by go_num, _, by rw [HQ.out, World.drewN_drewN]⟩
    case measure => simp [intOf]; omega
  ·
   have hlt5 : ¬ (k : Int) < (n : Int) + 5 := by omega
   clear hcell hhp how
   go_wp2
   go_ret
   exact ⟨rfl, q, HQ.out⟩
open Go.RowKit
theorem ixb (s : ByteArray) (w : World) : (callFunc 143 #[.string s, .int .u8 47]).run Tryz.prog w = .ok (.value (.int .i64 (firstIdx s 47))) w := by
 rw [run_callFunc_extern (e := Extern.BytealgIndexByte.indexByte) Tryz.func143 (by kernel_rfl) (by kernel_rfl) (by kernel_rfl) (by kernel_rfl), run_indexByte_string]
 rfl
theorem b47 : ((({ data := #[47] } : ByteArray)[0]'(by decide)).toNat : Int) = 47 := rfl
theorem slcut56 (w : World) : Calls Tryz.prog 79 #[.string ⟨#[53, 47, 54]⟩, .string ⟨#[47]⟩] w fun e w' => e = .returned (.tuple #[.string ⟨#[53]⟩, .string ⟨#[54]⟩, .bool true]) ∧ Below w.heap.size w w' := by
 have h1 := ixb ⟨#[53, 47, 54]⟩ w
 rw [show firstIdx ⟨#[53, 47, 54]⟩ 47 = 1 by decide] at h1
 have h2 := b47
 go_enter Tryz.func79, Tryz.ntmps79
 go_wp2
 go_quiet (fail)
 go_wp2
 go_ret3
 exact ⟨rfl, belowDN _ _⟩
theorem cut56 (w : World) : Calls Tryz.prog 47 #[.string ⟨#[53, 47, 54]⟩, .string ⟨#[47]⟩] w fun e w' => e = .returned (.tuple #[.string ⟨#[53]⟩, .string ⟨#[54]⟩, .bool true]) ∧ Below w.heap.size w w' := by
 go_enter Tryz.func47, Tryz.ntmps47
 go_wp2_with fail
 refine (slcut56 _).mono ?_
 rintro e w2 ⟨rfl, hb⟩
 have HB : Hid (Below w.heap.size w w2) := hb
 clear hb
 go_wp2_with fail
 go_ret3
 exact ⟨rfl, HB.out⟩
open Go.RowKit

theorem dig1 (c : UInt8) (h1 : 48 ≤ c.toNat) (h2 : c.toNat ≤ 57) : DigOk ⟨#[c]⟩ ∧ 0 < (⟨#[c]⟩ : ByteArray).size := by
 refine ⟨fun i hi => ?_, Nat.zero_lt_one⟩
 have h0 : i = 0 := by change i < 1 at hi; omega
 subst h0
 exact ⟨h1, h2⟩
theorem sz_of {n : Int} (h1 : -9223372036854775808 ≤ n) (h2 : n ≤ 9223372036854775807) : Sz n 8 := Sz.of (by show n.natAbs < 4294967296 ^ 8; omega)
theorem c_fof {n d : Int} {w : World} (h1 : -9223372036854775808 ≤ n) (h2 : n ≤ 9223372036854775807) (h3 : -9223372036854775808 ≤ d) (h4 : d ≤ 9223372036854775807) (hd : d ≠ 0) : Calls Tryz.prog 16 #[.int .i64 n, .int .i64 d] w fun e w' => RTEnd w (Rat.divInt n d) e w' := by
 obtain ⟨Z, hZ⟩ : ∃ Z, Z = Rat.divInt n d := ⟨_, rfl⟩
 have HZ : Hid (Rat.divInt n d = Z) := hZ.symm
 rw [← hZ]
 clear hZ
 have HD : Hid (d ≠ 0) := hd
 clear hd
 obtain ⟨W1, hW1⟩ : ∃ W1, W1 = w.alloc (.cells #[.bool false, .slice none 0 0, .slice none 0 0] 27) := ⟨_, rfl⟩
 have qR : QCell W1 (w.heap.size) false (.slice none 0 0) (.slice none 0 0) := by rw [hW1]; exact (qcell_new _ (by simp))
 have hb : Below w.heap.size w W1 := by rw [hW1]; exact belowA w _
 have hsz : w.heap.size < W1.heap.size := by rw [hW1]; simp
 have HW1 : Hid (W1 = w.alloc (.cells #[.bool false, .slice none 0 0, .slice none 0 0] 27)) := hW1
 clear hW1
 go_enter Tryz.func16, Tryz.ntmps16
 go_wp2_with fail
 rw [← HW1.out]
 clear HW1
 obtain ⟨g, hg⟩ : ∃ g, g = w.heap.size := ⟨_, rfl⟩
 rw [← hg] at qR hsz ⊢
 have HG : Hid (g = w.heap.size) := hg
 clear hg
 refine (c_of h1 h2).mono ?_
 rintro e w2 ⟨v, rfl, hv, b⟩
 obtain ⟨na, ao, al, ac, rfl, ia⟩ := hv.see (sz_of h1 h2) (by decide)
 clear hv
 replace qR := qR.below b
 replace hb := bstep hb b
 replace hsz := Nat.lt_of_lt_of_le hsz b.size
 clear b
 obtain ⟨cqR0, cqR1, cqR2⟩ := qR.cells
 go_wp2_with fail
 clear cqR0 cqR1 cqR2
 refine (c_of h3 h4).mono ?_
 rintro e w3 ⟨v, rfl, hv, b⟩
 obtain ⟨nb, bo, bl, bc, rfl, ib⟩ := hv.see (sz_of h3 h4) (by decide)
 clear hv
 replace ia := ia.below b
 replace qR := qR.below b
 replace hb := bstep hb b
 replace hsz := Nat.lt_of_lt_of_le hsz b.size
 clear b
 obtain ⟨cqR0, cqR1, cqR2⟩ := qR.cells
 go_wp2_with fail
 clear cqR0 cqR1 cqR2
 have hq := c_new_yes ia ib HD.out
 rw [HZ.out] at hq
 have hszz := hsz
 refine (hq).mono ?_
 rintro e w4 ⟨v, rfl, hv, b⟩
 clear hq
 obtain ⟨m, d, rfl, hm, hd, hap⟩ := hv
 obtain ⟨mo, ml, mc, rfl⟩ := hm.sl
 obtain ⟨mO, mL, mC, rfl⟩ := hd.sl
 replace ia := ia.below b
 replace ib := ib.below b
 replace qR := qR.below b
 replace hb := bstep hb b
 replace hsz := Nat.lt_of_lt_of_le hsz b.size
 clear b
 have qq := qR
 have HE : Hid (REnd w Z (.returned (.agg #[.bool (decide (Z.num < 0)), .slice mo ml mc, .slice mO mL mC])) (((w4.setCell ⟨g, 0, none⟩ (.bool (decide (Z.num < 0)))).setCell ⟨g, 1, none⟩ (.slice mo ml mc)).setCell ⟨g, 2, none⟩ (.slice mO mL mC))) := rat_done rfl (by rw [HG.out]; omega) hm hd hap hszz (hb)
 have HW : Hid (QCell (((w4.setCell ⟨g, 0, none⟩ (.bool (decide (Z.num < 0)))).setCell ⟨g, 1, none⟩ (.slice mo ml mc)).setCell ⟨g, 2, none⟩ (.slice mO mL mC)) (g) (decide (Z.num < 0)) (.slice mo ml mc) (.slice mO mL mC)) := qq.write _ _ _
 obtain ⟨y0, y1, y2⟩ := qq.cells
 have f0 := qq.thaw 0
 have f1 := qq.thaw 1
 have f2 := qq.thaw 2
 generalize decide (Z.num < 0) = bb at *
 clear qq hap
 clear hb hsz hszz hm hd qR ia ib
 go_wp2_with fail
 (try simp only [Exit.inBlock, Exit.then])
 exact bodyPost_ret (results_ct (p := 4) (u := 5) rfl _ _ (g) 27 _ (0, 0) _ rfl HW.out Tryz.underlying27 rfl (by kernel_rfl)) rfl HE.out.t
theorem c_parse56 {w : World} : Calls Tryz.prog 17 #[.string ⟨#[53, 47, 54]⟩] w fun e w' => RTEnd w (Rat.divInt 5 6) e w' := by
 obtain ⟨W1, hW1⟩ : ∃ W1, W1 = w.alloc (.cells #[.bool false, .slice none 0 0, .slice none 0 0] 27) := ⟨_, rfl⟩
 have qR : QCell W1 (w.heap.size) false (.slice none 0 0) (.slice none 0 0) := by rw [hW1]; exact (qcell_new _ (by simp))
 have hb : Below w.heap.size w W1 := by rw [hW1]; exact belowA w _
 have hsz : w.heap.size < W1.heap.size := by rw [hW1]; simp
 have HW1 : Hid (W1 = w.alloc (.cells #[.bool false, .slice none 0 0, .slice none 0 0] 27)) := hW1
 clear hW1
 go_enter Tryz.func17, Tryz.ntmps17
 go_wp2_with fail
 rw [← HW1.out]
 clear HW1
 obtain ⟨g, hg⟩ : ∃ g, g = w.heap.size := ⟨_, rfl⟩
 rw [← hg] at qR hsz ⊢
 have HG : Hid (g = w.heap.size) := hg
 clear hg
 refine (cut56 _).mono ?_
 rintro e w2 ⟨rfl, b⟩
 replace qR := qR.below b
 replace hb := bstep hb b
 replace hsz := Nat.lt_of_lt_of_le hsz b.size
 clear b
 obtain ⟨cqR0, cqR1, cqR2⟩ := qR.cells
 go_wp2_with fail
 clear cqR0 cqR1 cqR2
 have hq := parse_of (s := ⟨#[53]⟩) (t := ⟨#[53]⟩) (k := false) (z := 5) (dig_first (dig1 53 (by decide) (by decide)).1 (by decide)).1 (dig_first (dig1 53 (by decide) (by decide)).1 (by decide)).2 (dig1 53 (by decide) (by decide)) (by decide) (by decide) w2
 refine (hq).mono ?_
 rintro e w3 ⟨v, rfl, hv, b⟩
 clear hq
 obtain ⟨na, ao, al, ac, rfl, ia⟩ := hv.see (L := 8) (Sz.of (by decide)) (by decide)
 clear hv
 replace qR := qR.below b
 replace hb := bstep hb b
 replace hsz := Nat.lt_of_lt_of_le hsz b.size
 clear b
 obtain ⟨W4, hW4⟩ : ∃ W, W = w3.alloc (.cells #[.bool na, .slice ao al ac] 25) := ⟨_, rfl⟩
 have qA : ICell W4 (w3.heap.size) na (.slice ao al ac) := by rw [hW4]; exact (icell_new _ rfl)
 have b : Below w3.heap.size w3 W4 := by rw [hW4]; exact belowA _ _
 replace ia := ia.below b
 replace qR := qR.below b
 replace hb := bstep hb b
 replace hsz := Nat.lt_of_lt_of_le hsz b.size
 clear b
 have rqR0 : (w3.alloc (.cells #[.bool na, .slice ao al ac] 25)).cell? ⟨g, 0, none⟩ = some (.bool false) := by rw [← hW4]; exact qR.cells.1
 have rqR1 : (w3.alloc (.cells #[.bool na, .slice ao al ac] 25)).cell? ⟨g, 1, none⟩ = some (.slice none 0 0) := by rw [← hW4]; exact qR.cells.2.1
 have rqR2 : (w3.alloc (.cells #[.bool na, .slice ao al ac] 25)).cell? ⟨g, 2, none⟩ = some (.slice none 0 0) := by rw [← hW4]; exact qR.cells.2.2
 have rqA0 : (w3.alloc (.cells #[.bool na, .slice ao al ac] 25)).cell? ⟨w3.heap.size, 0, none⟩ = some (.bool na) := by rw [← hW4]; exact qA.cells.1
 have rqA1 : (w3.alloc (.cells #[.bool na, .slice ao al ac] 25)).cell? ⟨w3.heap.size, 1, none⟩ = some (.slice ao al ac) := by rw [← hW4]; exact qA.cells.2
 obtain ⟨v4, hv4⟩ : ∃ v, v = w3.heap.size := ⟨_, rfl⟩
 rw [← hv4] at qA
 have HW4 : Hid (W4 = w3.alloc (.cells #[.bool na, .slice ao al ac] 25)) := hW4
 have Hv4 : Hid (v4 = w3.heap.size) := hv4
 clear hW4 hv4
 go_wp2_with fail
 rw [← HW4.out, ← Hv4.out]
 clear HW4 Hv4 rqR0 rqR1 rqR2 rqA0 rqA1
 have hq := parse_any ⟨#[54]⟩ W4 (by decide)
 refine (hq).mono ?_
 rintro e w5 ⟨u, rfl, hu, b⟩
 clear hq
 rw [if_pos (dig1 54 (by decide) (by decide))]
 rw [if_pos (dig1 54 (by decide) (by decide)), show bval (dgs ⟨#[54]⟩) = 6 by decide] at hu
 obtain ⟨bo, bl, bc, rfl⟩ := hu.sl
 have ub := hu.num
 clear hu
 replace ia := ia.below b
 replace qR := qR.below b
 replace qA := qA.below b
 replace hb := bstep hb b
 replace hsz := Nat.lt_of_lt_of_le hsz b.size
 clear b
 obtain ⟨cqR0, cqR1, cqR2⟩ := qR.cells
 obtain ⟨cqA0, cqA1⟩ := qA.cells
 go_wp2_with fail
 clear cqR0 cqR1 cqR2 cqA0 cqA1
 have ib : INum w5 (.agg #[.bool false, .slice bo bl bc]) 6 := ⟨_, _, _, _, _, rfl, ub, Nat.le_trans (lim_len_le (n := 6) (k := 1) (by decide)) (by decide), by rw [val_lim]; rfl⟩
 have hq := c_new_yes ia ib (by decide)
 obtain ⟨Z, hZ⟩ : ∃ Z, Z = Rat.divInt 5 6 := ⟨_, rfl⟩
 have HZ : Hid (Z = Rat.divInt 5 6) := hZ
 rw [← hZ] at hq
 clear hZ
 have hszz := hsz
 clear ib
 refine (hq).mono ?_
 rintro e w6 ⟨v, rfl, hv, b⟩
 clear hq
 obtain ⟨m, d, rfl, hm, hd, hap⟩ := hv
 obtain ⟨mo, ml, mc, rfl⟩ := hm.sl
 obtain ⟨mO, mL, mC, rfl⟩ := hd.sl
 replace ia := ia.below b
 replace ub := ub.below (Nat.le_refl _) b
 replace qR := qR.below b
 replace qA := qA.below b
 replace hb := bstep hb b
 replace hsz := Nat.lt_of_lt_of_le hsz b.size
 clear b
 have qq := qR
 have HE : Hid (REnd w Z (.returned (.agg #[.bool (decide (Z.num < 0)), .slice mo ml mc, .slice mO mL mC])) (((w6.setCell ⟨g, 0, none⟩ (.bool (decide (Z.num < 0)))).setCell ⟨g, 1, none⟩ (.slice mo ml mc)).setCell ⟨g, 2, none⟩ (.slice mO mL mC))) := rat_done rfl (by rw [HG.out]; omega) hm hd hap hszz (hb)
 have HW : Hid (QCell (((w6.setCell ⟨g, 0, none⟩ (.bool (decide (Z.num < 0)))).setCell ⟨g, 1, none⟩ (.slice mo ml mc)).setCell ⟨g, 2, none⟩ (.slice mO mL mC)) (g) (decide (Z.num < 0)) (.slice mo ml mc) (.slice mO mL mC)) := qq.write _ _ _
 obtain ⟨y0, y1, y2⟩ := qq.cells
 have f0 := qq.thaw 0
 have f1 := qq.thaw 1
 have f2 := qq.thaw 2
 generalize decide (Z.num < 0) = bb at *
 clear qq hap
 clear hb hsz hszz hm hd qR qA ia ub
 go_wp2_with fail
 (try simp only [Exit.inBlock, Exit.then])
 exact bodyPost_ret (results_ct (p := 2) (u := 3) rfl _ _ (g) 27 _ (0, 0) _ rfl HW.out Tryz.underlying27 rfl (by kernel_rfl)) rfl (by rw [← HZ.out]; exact HE.out.t)
open Go.RowKit

def rt (x : Rat) : ByteArray := if x.den = 1 then zt x.num else zt x.num ++ ⟨#[47]⟩ ++ txt x.den
theorem RStd.parts {w : World} {n : Bool} {ao bo : Option Addr} {al ac bl bc : Nat} {r : Rat} {L : Nat} (h : RStd w (.agg #[.bool n, .slice ao al ac, .slice bo bl bc]) r) (hs : RSz r L) (hL : L ≤ 1000000) : INum w (.agg #[.bool n, .slice ao al ac]) r.num ∧ Num w (.slice bo bl bc) (lim r.den) ∧ n = decide (r.num < 0) ∧ (lim r.den).length ≤ 1000000 := by
 obtain ⟨n', ao', al', ac', bo', bl', bc', e, e2, h1, h2⟩ := h
 simp only [Value.agg.injEq, Array.mk.injEq, List.cons.injEq, Value.bool.injEq, Value.slice.injEq, and_true] at e
 obtain ⟨rfl, ⟨rfl, rfl, rfl⟩, rfl, rfl, rfl⟩ := e
 refine ⟨⟨_, _, _, _, _, rfl, h1, Nat.le_trans hs.num.len hL, ?_⟩, h2, e2, ?_⟩
 · rw [val_lim, e2]; exact zv_self _
 ·
  have := hs.den.len
  rw [Int.natAbs_natCast] at this
  omega
theorem RNum.sz {w : World} {v : Value} {x : Rat} {L : Nat} (h : RNum w v x L) : RSz x L := by
 obtain ⟨p, q, _, rfl, h1, h2⟩ := h
 exact RSz.of (und_ne _) h1 h2
theorem zt_size {z : Int} {L : Nat} (h : Sz z L) : (zt z).size ≤ 32 * L + 2 := by
 unfold zt ztxt
 have h1 := txt_short h.len
 split
 · rw [ByteArray.size_append]; show 1 + _ ≤ _; omega
 · omega
theorem cmpN_ne {a : Nat} (h : ¬ a = 1) : (cmpN a 1 == 0) = false := by
 unfold cmpN
 repeat' split
 all_goals first | rfl | omega
theorem c_rtext {a : Value} {x : Rat} {L : Nat} {w : World} (ha : RNum w a x L) (hL : L ≤ 1000000) : Calls Tryz.prog 19 #[a] w fun e w' => e = .returned (.string (rt x)) ∧ Below w.heap.size w w' := by
 have hsz0 := ha.sz
 by_cases hone : x.den = 1
 ·
  obtain ⟨Z, hZ⟩ : ∃ Z, Z = x := ⟨_, rfl⟩
  rw [← hZ]
  rw [← hZ] at hone hsz0
  obtain ⟨p, q, ha, rfl, sp, sq⟩ := ha
  obtain ⟨na, ao, al, ac, aO, aL, aC, ya, rfl, ia, da, la, ea⟩ := ha
  have ra : RRaw w (.agg #[.bool na, .slice ao al ac, .slice aO aL aC]) p q := ⟨_, _, _, _, _, _, _, _, rfl, ia, da, la, ea⟩
  clear da la ea
  have HZ : Hid (Rat.divInt p (und q) = Z) := hZ.symm
  clear hZ
  have hzs := zt_size hsz0.num
  have hxs := txt_short (n := Z.den) (L := L) (by have := hsz0.den.len; rw [Int.natAbs_natCast] at this; exact this)
  obtain ⟨t, ht⟩ : ∃ t, t = zt Z.num := ⟨_, rfl⟩
  have HT : Hid (zt Z.num = t) := ht.symm
  rw [← ht] at hzs
  clear ht
  obtain ⟨t2, ht2⟩ : ∃ t, t = txt Z.den := ⟨_, rfl⟩
  have HT2 : Hid (txt Z.den = t2) := ht2.symm
  rw [← ht2] at hxs
  clear ht2
  have HRT : Hid (rt Z = t) := by show _ = _; unfold rt; rw [if_pos hone, HT.out]
  rw [HRT.out]
  have HONE : Hid (Z.den = 1) := hone
  clear hone
  obtain ⟨W1, hW1⟩ : ∃ W1, W1 = w.alloc (.cells #[.bool na, .slice ao al ac, .slice aO aL aC] 27) := ⟨_, rfl⟩
  have qa : QCell W1 (w.heap.size) na (.slice ao al ac) (.slice aO aL aC) := by rw [hW1]; exact (qcell_new _ (by simp))
  have hb : Below w.heap.size w W1 := by rw [hW1]; exact belowA w _
  have hsz : w.heap.size < W1.heap.size := by rw [hW1]; simp
  replace ia := ia.below hb
  replace ra := ra.below hb
  have HW1 : Hid (W1 = w.alloc (.cells #[.bool na, .slice ao al ac, .slice aO aL aC] 27)) := hW1
  clear hW1
  go_enter Tryz.func19, Tryz.ntmps19
  go_wp2_with fail
  rw [← HW1.out]
  clear HW1
  obtain ⟨g, hg⟩ : ∃ g, g = w.heap.size := ⟨_, rfl⟩
  rw [← hg] at qa hsz ⊢
  have HG : Hid (g = w.heap.size) := hg
  clear hg
  refine region_late [(1, fun w' => w'.cell? ⟨g, 0, none⟩ = some (.bool na) ∧ w'.cell? ⟨g, 1, none⟩ = some (.slice ao al ac)), (2, fun w' => w'.cell? ⟨g, 0, none⟩ = some (.bool na) ∧ w'.cell? ⟨g, 1, none⟩ = some (.slice ao al ac) ∧ w'.cell? ⟨g, 2, none⟩ = some (.slice aO aL aC))] (by kernel_rfl) ?_
  have hHeld : AllL W1.drew [(1, fun w' => w'.cell? ⟨g, 0, none⟩ = some (.bool na) ∧ w'.cell? ⟨g, 1, none⟩ = some (.slice ao al ac)), (2, fun w' => w'.cell? ⟨g, 0, none⟩ = some (.bool na) ∧ w'.cell? ⟨g, 1, none⟩ = some (.slice ao al ac) ∧ w'.cell? ⟨g, 2, none⟩ = some (.slice aO aL aC))] := ⟨⟨(show QCell W1.drew (g) na (.slice ao al ac) (.slice aO aL aC) from qa).cells.1, (show QCell W1.drew (g) na (.slice ao al ac) (.slice aO aL aC) from qa).cells.2.1⟩, (show QCell W1.drew (g) na (.slice ao al ac) (.slice aO aL aC) from qa).cells, trivial⟩
  refine late_fr 0 (v := .pointer (some ⟨g, 0, none⟩)) rfl (Or.inl ⟨by rfl, ?_⟩) hHeld ?_
  · (intro u _; go_simp)
  try simp only [pu1, pu2, pu3, pu4]
  refine late_tk 1 (v := .agg #[.bool na, .slice ao al ac]) rfl (List.Mem.head _) (Or.inl ⟨by rfl, ?_⟩) hHeld ?_
  · (intro u hu; (try dsimp only at hu); go_split_ands; go_simp)
  try simp only [pu1, pu2, pu3, pu4]
  refine late_tk 2 (v := .agg #[.bool na, .slice ao al ac, .slice aO aL aC]) rfl (List.Mem.tail _ (List.Mem.head _)) (Or.inl ⟨by rfl, ?_⟩) hHeld ?_
  · (intro u hu; (try dsimp only at hu); go_split_ands; go_simp)
  try simp only [pu1, pu2, pu3, pu4]
  refine late_st 3 rfl (fun K hK => ?_)
  go_simp
  refine (c_under (ra.below (below_drew' _))).mono ?_
  rintro e w2 ⟨v, rfl, hv, b2⟩
  obtain ⟨nm7, m7o, m7l, m7c, rfl, im7⟩ := hv.see
  clear hv
  have B2 : Below W1.heap.size W1 w2 := bstep (below_drew' _) b2
  replace hHeld := AllL.mv (w' := w2) hHeld ⟨⟨(qa.below B2).cells.1, (qa.below B2).cells.2.1⟩, (qa.below B2).cells, trivial⟩
  go_wp2_with fail
  refine hK.out _ _ (AllL.kept hHeld) ?_
  clear hK K
  try simp only [pu1, pu2, pu3, pu4]
  refine late_st 4 rfl (fun K hK => ?_)
  go_simp
  have hq := c_lowest ((ia.below (below_drew' _)).below b2) im7 (und_ne _)
  rw [HZ.out] at hq
  refine hq.mono ?_
  rintro e w3 ⟨v, rfl, hv, b3⟩
  clear hq
  obtain ⟨m, d, rfl, hm, hd, hap⟩ := hv
  obtain ⟨mo, ml, mc, rfl⟩ := hm.sl
  obtain ⟨mO, mL, mC, rfl⟩ := hd.sl
  have B3 : Below W1.heap.size W1 w3 := bstep B2 b3
  replace hHeld := AllL.mv (w' := w3) hHeld ⟨⟨(qa.below B3).cells.1, (qa.below B3).cells.2.1⟩, (qa.below B3).cells, trivial⟩
  go_wp2_with fail
  refine hK.out _ _ (AllL.kept hHeld) ?_
  clear hK K
  try simp only [pu1, pu2, pu3, pu4]
  have qq := qa.below B3
  have HE : Hid (REnd w Z (.returned (.agg #[.bool (decide (Z.num < 0)), .slice mo ml mc, .slice mO mL mC])) (((w3.setCell ⟨g, 0, none⟩ (.bool (decide (Z.num < 0)))).setCell ⟨g, 1, none⟩ (.slice mo ml mc)).setCell ⟨g, 2, none⟩ (.slice mO mL mC))) := rat_done rfl (by rw [HG.out]; omega) hm hd hap (Nat.lt_of_lt_of_le hsz B2.size) (bstep hb B3)
  have HW : Hid (QCell (((w3.setCell ⟨g, 0, none⟩ (.bool (decide (Z.num < 0)))).setCell ⟨g, 1, none⟩ (.slice mo ml mc)).setCell ⟨g, 2, none⟩ (.slice mO mL mC)) (g) (decide (Z.num < 0)) (.slice mo ml mc) (.slice mO mL mC)) := qq.write _ _ _
  obtain ⟨y0, y1, y2⟩ := qq.cells
  have f0 := qq.thaw 0
  have f1 := qq.thaw 1
  have f2 := qq.thaw 2
  generalize decide (Z.num < 0) = bb at *
  clear qq hap
  clear im7
  refine late_st 5 rfl (fun K hK => ?_)
  go_simp
  refine hK.out _ _ ⟨kpt 4, kpt 3, trivial⟩ ?_
  clear hK K
  try simp only [pu1, pu2, pu3, pu4]
  refine late_done (by kernel_rfl) ?_ _
  clear hHeld
  clear hm hd qa ra ia b2 b3 B2 B3
  obtain ⟨Y, hY⟩ : ∃ Y, Y = (((w3.setCell ⟨g, 0, none⟩ (.bool bb)).setCell ⟨g, 1, none⟩ (.slice mo ml mc)).setCell ⟨g, 2, none⟩ (.slice mO mL mC)) := ⟨_, rfl⟩
  rw [← hY] at HE HW ⊢
  clear hY y0 y1 y2 f0 f1 f2
  obtain ⟨v, hv, ow, hb2⟩ := HE.out
  cases hv
  have qa := HW.out
  clear hb HE HW
  have hb := hb2
  clear hb2
  obtain ⟨ix, ud, hnn, ld⟩ := ow.std.parts hsz0 hL
  clear ow hnn
  clear hsz
  have hsz : g < Y.heap.size := (Array.getElem?_eq_some_iff.1 (show Y.heap[g]? = _ from qa)).1
  obtain ⟨cqa0, cqa1, cqa2⟩ := qa.cells
  go_wp2_with fail
  clear cqa0 cqa1 cqa2
  have hq := c_text ix
  rw [HT.out] at hq
  refine (hq).mono ?_
  rintro e w21 ⟨rfl, b⟩
  clear hq
  replace ix := ix.below b
  replace ud := ud.below (Nat.le_refl _) b
  replace qa := qa.below b
  replace hb := bstep hb b
  replace hsz := Nat.lt_of_lt_of_le hsz b.size
  clear b
  clear ix
  obtain ⟨cqa0, cqa1, cqa2⟩ := qa.cells
  go_wp2_with fail
  clear cqa0 cqa1 cqa2
  obtain ⟨c, hc⟩ : ∃ c, c = cmpN Z.den 1 := ⟨_, rfl⟩
  have HCC : Hid (cmpN Z.den 1 = c) := hc.symm
  have hc0 : (c == 0) = true := by rw [hc, HONE.out]; decide
  clear hc
  refine region_late [(1, fun w' => w'.cell? ⟨g, 2, none⟩ = some (.slice mO mL mC))] (by kernel_rfl) ?_
  have hHeld : AllL w21.drew [(1, fun w' => w'.cell? ⟨g, 2, none⟩ = some (.slice mO mL mC))] := ⟨(show QCell w21.drew (g) bb (.slice mo ml mc) (.slice mO mL mC) from qa).cells.2.2, trivial⟩
  refine late_fr 0 (v := .pointer (some ⟨g, 2, none⟩)) rfl (Or.inl ⟨by rfl, ?_⟩) hHeld ?_
  · (intro u _; go_simp)
  try simp only [pu1, pu2, pu3, pu4]
  refine late_tk 1 (v := .slice mO mL mC) rfl (List.Mem.head _) (Or.inl ⟨by rfl, ?_⟩) hHeld ?_
  · (intro u hu; (try dsimp only at hu); go_split_ands; go_simp)
  try simp only [pu1, pu2, pu3, pu4]
  refine late_st 2 rfl (fun K hK => ?_)
  go_simp
  refine (of_any 1 _ (by decide)).mono ?_
  rintro e w22 ⟨v, rfl, ho, b22⟩
  obtain ⟨oo, ol, oc, rfl⟩ := ho.sl
  have uo := ho.num
  clear ho
  have B22 : Below w21.heap.size w21 w22 := bstep (below_drew' _) b22
  replace hHeld := AllL.mv (w' := w22) hHeld ⟨(qa.below B22).cells.2.2, trivial⟩
  go_wp2_with fail
  refine hK.out _ _ (AllL.kept hHeld) ?_
  clear hK K
  try simp only [pu1, pu2, pu3, pu4]
  refine late_st 3 rfl (fun K hK => ?_)
  go_simp
  have hq := cmp_any _ _ _ _ _ ((ud.below (Nat.le_refl _) (below_drew' _)).below (Nat.le_refl _) b22) uo
  rw [val_lim, val_lim, HCC.out] at hq
  refine hq.mono ?_
  rintro e w23 ⟨rfl, q9, hq9⟩
  have b23 : Below w22.heap.size w22 w23 := by rw [hq9]; exact belowDN _ _
  clear hq hq9
  have B23 : Below w21.heap.size w21 w23 := bstep B22 b23
  replace hHeld := AllL.mv (w' := w23) hHeld ⟨(qa.below B23).cells.2.2, trivial⟩
  go_wp2_with fail
  refine hK.out _ _ (AllL.kept hHeld) ?_
  clear hK K
  try simp only [pu1, pu2, pu3, pu4]
  refine late_fr 4 (v := .bool true) rfl (Or.inl ⟨by rfl, ?_⟩) hHeld ?_
  · (intro u _; go_simp)
  try simp only [pu1, pu2, pu3, pu4]
  refine late_done (by kernel_rfl) ?_ _
  clear hHeld
  have b := B23
  clear b22 b23 B22 B23
  replace ud := ud.below (Nat.le_refl _) b
  replace qa := qa.below b
  replace hb := bstep hb b
  replace hsz := Nat.lt_of_lt_of_le hsz b.size
  clear b
  clear uo
  have HE : Hid (Below w.heap.size w w23) := hb
  clear hb hsz qa ud
  go_wp2_with fail
  go_ret
  exact ⟨rfl, HE.out⟩
 ·
  obtain ⟨Z, hZ⟩ : ∃ Z, Z = x := ⟨_, rfl⟩
  rw [← hZ]
  rw [← hZ] at hone hsz0
  obtain ⟨p, q, ha, rfl, sp, sq⟩ := ha
  obtain ⟨na, ao, al, ac, aO, aL, aC, ya, rfl, ia, da, la, ea⟩ := ha
  have ra : RRaw w (.agg #[.bool na, .slice ao al ac, .slice aO aL aC]) p q := ⟨_, _, _, _, _, _, _, _, rfl, ia, da, la, ea⟩
  clear da la ea
  have HZ : Hid (Rat.divInt p (und q) = Z) := hZ.symm
  clear hZ
  have hzs := zt_size hsz0.num
  have hxs := txt_short (n := Z.den) (L := L) (by have := hsz0.den.len; rw [Int.natAbs_natCast] at this; exact this)
  obtain ⟨t, ht⟩ : ∃ t, t = zt Z.num := ⟨_, rfl⟩
  have HT : Hid (zt Z.num = t) := ht.symm
  rw [← ht] at hzs
  clear ht
  obtain ⟨t2, ht2⟩ : ∃ t, t = txt Z.den := ⟨_, rfl⟩
  have HT2 : Hid (txt Z.den = t2) := ht2.symm
  rw [← ht2] at hxs
  clear ht2
  have HRT : Hid (rt Z = t ++ ⟨#[47]⟩ ++ t2) := by show _ = _; unfold rt; rw [if_neg hone, HT.out, HT2.out]
  rw [HRT.out]
  have HONE : Hid (¬ Z.den = 1) := hone
  clear hone
  obtain ⟨W1, hW1⟩ : ∃ W1, W1 = w.alloc (.cells #[.bool na, .slice ao al ac, .slice aO aL aC] 27) := ⟨_, rfl⟩
  have qa : QCell W1 (w.heap.size) na (.slice ao al ac) (.slice aO aL aC) := by rw [hW1]; exact (qcell_new _ (by simp))
  have hb : Below w.heap.size w W1 := by rw [hW1]; exact belowA w _
  have hsz : w.heap.size < W1.heap.size := by rw [hW1]; simp
  replace ia := ia.below hb
  replace ra := ra.below hb
  have HW1 : Hid (W1 = w.alloc (.cells #[.bool na, .slice ao al ac, .slice aO aL aC] 27)) := hW1
  clear hW1
  go_enter Tryz.func19, Tryz.ntmps19
  go_wp2_with fail
  rw [← HW1.out]
  clear HW1
  obtain ⟨g, hg⟩ : ∃ g, g = w.heap.size := ⟨_, rfl⟩
  rw [← hg] at qa hsz ⊢
  have HG : Hid (g = w.heap.size) := hg
  clear hg
  refine region_late [(1, fun w' => w'.cell? ⟨g, 0, none⟩ = some (.bool na) ∧ w'.cell? ⟨g, 1, none⟩ = some (.slice ao al ac)), (2, fun w' => w'.cell? ⟨g, 0, none⟩ = some (.bool na) ∧ w'.cell? ⟨g, 1, none⟩ = some (.slice ao al ac) ∧ w'.cell? ⟨g, 2, none⟩ = some (.slice aO aL aC))] (by kernel_rfl) ?_
  have hHeld : AllL W1.drew [(1, fun w' => w'.cell? ⟨g, 0, none⟩ = some (.bool na) ∧ w'.cell? ⟨g, 1, none⟩ = some (.slice ao al ac)), (2, fun w' => w'.cell? ⟨g, 0, none⟩ = some (.bool na) ∧ w'.cell? ⟨g, 1, none⟩ = some (.slice ao al ac) ∧ w'.cell? ⟨g, 2, none⟩ = some (.slice aO aL aC))] := ⟨⟨(show QCell W1.drew (g) na (.slice ao al ac) (.slice aO aL aC) from qa).cells.1, (show QCell W1.drew (g) na (.slice ao al ac) (.slice aO aL aC) from qa).cells.2.1⟩, (show QCell W1.drew (g) na (.slice ao al ac) (.slice aO aL aC) from qa).cells, trivial⟩
  refine late_fr 0 (v := .pointer (some ⟨g, 0, none⟩)) rfl (Or.inl ⟨by rfl, ?_⟩) hHeld ?_
  · (intro u _; go_simp)
  try simp only [pu1, pu2, pu3, pu4]
  refine late_tk 1 (v := .agg #[.bool na, .slice ao al ac]) rfl (List.Mem.head _) (Or.inl ⟨by rfl, ?_⟩) hHeld ?_
  · (intro u hu; (try dsimp only at hu); go_split_ands; go_simp)
  try simp only [pu1, pu2, pu3, pu4]
  refine late_tk 2 (v := .agg #[.bool na, .slice ao al ac, .slice aO aL aC]) rfl (List.Mem.tail _ (List.Mem.head _)) (Or.inl ⟨by rfl, ?_⟩) hHeld ?_
  · (intro u hu; (try dsimp only at hu); go_split_ands; go_simp)
  try simp only [pu1, pu2, pu3, pu4]
  refine late_st 3 rfl (fun K hK => ?_)
  go_simp
  refine (c_under (ra.below (below_drew' _))).mono ?_
  rintro e w2 ⟨v, rfl, hv, b2⟩
  obtain ⟨nm7, m7o, m7l, m7c, rfl, im7⟩ := hv.see
  clear hv
  have B2 : Below W1.heap.size W1 w2 := bstep (below_drew' _) b2
  replace hHeld := AllL.mv (w' := w2) hHeld ⟨⟨(qa.below B2).cells.1, (qa.below B2).cells.2.1⟩, (qa.below B2).cells, trivial⟩
  go_wp2_with fail
  refine hK.out _ _ (AllL.kept hHeld) ?_
  clear hK K
  try simp only [pu1, pu2, pu3, pu4]
  refine late_st 4 rfl (fun K hK => ?_)
  go_simp
  have hq := c_lowest ((ia.below (below_drew' _)).below b2) im7 (und_ne _)
  rw [HZ.out] at hq
  refine hq.mono ?_
  rintro e w3 ⟨v, rfl, hv, b3⟩
  clear hq
  obtain ⟨m, d, rfl, hm, hd, hap⟩ := hv
  obtain ⟨mo, ml, mc, rfl⟩ := hm.sl
  obtain ⟨mO, mL, mC, rfl⟩ := hd.sl
  have B3 : Below W1.heap.size W1 w3 := bstep B2 b3
  replace hHeld := AllL.mv (w' := w3) hHeld ⟨⟨(qa.below B3).cells.1, (qa.below B3).cells.2.1⟩, (qa.below B3).cells, trivial⟩
  go_wp2_with fail
  refine hK.out _ _ (AllL.kept hHeld) ?_
  clear hK K
  try simp only [pu1, pu2, pu3, pu4]
  have qq := qa.below B3
  have HE : Hid (REnd w Z (.returned (.agg #[.bool (decide (Z.num < 0)), .slice mo ml mc, .slice mO mL mC])) (((w3.setCell ⟨g, 0, none⟩ (.bool (decide (Z.num < 0)))).setCell ⟨g, 1, none⟩ (.slice mo ml mc)).setCell ⟨g, 2, none⟩ (.slice mO mL mC))) := rat_done rfl (by rw [HG.out]; omega) hm hd hap (Nat.lt_of_lt_of_le hsz B2.size) (bstep hb B3)
  have HW : Hid (QCell (((w3.setCell ⟨g, 0, none⟩ (.bool (decide (Z.num < 0)))).setCell ⟨g, 1, none⟩ (.slice mo ml mc)).setCell ⟨g, 2, none⟩ (.slice mO mL mC)) (g) (decide (Z.num < 0)) (.slice mo ml mc) (.slice mO mL mC)) := qq.write _ _ _
  obtain ⟨y0, y1, y2⟩ := qq.cells
  have f0 := qq.thaw 0
  have f1 := qq.thaw 1
  have f2 := qq.thaw 2
  generalize decide (Z.num < 0) = bb at *
  clear qq hap
  clear im7
  refine late_st 5 rfl (fun K hK => ?_)
  go_simp
  refine hK.out _ _ ⟨kpt 4, kpt 3, trivial⟩ ?_
  clear hK K
  try simp only [pu1, pu2, pu3, pu4]
  refine late_done (by kernel_rfl) ?_ _
  clear hHeld
  clear hm hd qa ra ia b2 b3 B2 B3
  obtain ⟨Y, hY⟩ : ∃ Y, Y = (((w3.setCell ⟨g, 0, none⟩ (.bool bb)).setCell ⟨g, 1, none⟩ (.slice mo ml mc)).setCell ⟨g, 2, none⟩ (.slice mO mL mC)) := ⟨_, rfl⟩
  rw [← hY] at HE HW ⊢
  clear hY y0 y1 y2 f0 f1 f2
  obtain ⟨v, hv, ow, hb2⟩ := HE.out
  cases hv
  have qa := HW.out
  clear hb HE HW
  have hb := hb2
  clear hb2
  obtain ⟨ix, ud, hnn, ld⟩ := ow.std.parts hsz0 hL
  clear ow hnn
  clear hsz
  have hsz : g < Y.heap.size := (Array.getElem?_eq_some_iff.1 (show Y.heap[g]? = _ from qa)).1
  obtain ⟨cqa0, cqa1, cqa2⟩ := qa.cells
  go_wp2_with fail
  clear cqa0 cqa1 cqa2
  have hq := c_text ix
  rw [HT.out] at hq
  refine (hq).mono ?_
  rintro e w21 ⟨rfl, b⟩
  clear hq
  replace ix := ix.below b
  replace ud := ud.below (Nat.le_refl _) b
  replace qa := qa.below b
  replace hb := bstep hb b
  replace hsz := Nat.lt_of_lt_of_le hsz b.size
  clear b
  clear ix
  obtain ⟨cqa0, cqa1, cqa2⟩ := qa.cells
  go_wp2_with fail
  clear cqa0 cqa1 cqa2
  obtain ⟨c, hc⟩ : ∃ c, c = cmpN Z.den 1 := ⟨_, rfl⟩
  have HCC : Hid (cmpN Z.den 1 = c) := hc.symm
  have hc0 : (c == 0) = false := by rw [hc]; exact cmpN_ne HONE.out
  clear hc
  refine region_late [(1, fun w' => w'.cell? ⟨g, 2, none⟩ = some (.slice mO mL mC))] (by kernel_rfl) ?_
  have hHeld : AllL w21.drew [(1, fun w' => w'.cell? ⟨g, 2, none⟩ = some (.slice mO mL mC))] := ⟨(show QCell w21.drew (g) bb (.slice mo ml mc) (.slice mO mL mC) from qa).cells.2.2, trivial⟩
  refine late_fr 0 (v := .pointer (some ⟨g, 2, none⟩)) rfl (Or.inl ⟨by rfl, ?_⟩) hHeld ?_
  · (intro u _; go_simp)
  try simp only [pu1, pu2, pu3, pu4]
  refine late_tk 1 (v := .slice mO mL mC) rfl (List.Mem.head _) (Or.inl ⟨by rfl, ?_⟩) hHeld ?_
  · (intro u hu; (try dsimp only at hu); go_split_ands; go_simp)
  try simp only [pu1, pu2, pu3, pu4]
  refine late_st 2 rfl (fun K hK => ?_)
  go_simp
  refine (of_any 1 _ (by decide)).mono ?_
  rintro e w22 ⟨v, rfl, ho, b22⟩
  obtain ⟨oo, ol, oc, rfl⟩ := ho.sl
  have uo := ho.num
  clear ho
  have B22 : Below w21.heap.size w21 w22 := bstep (below_drew' _) b22
  replace hHeld := AllL.mv (w' := w22) hHeld ⟨(qa.below B22).cells.2.2, trivial⟩
  go_wp2_with fail
  refine hK.out _ _ (AllL.kept hHeld) ?_
  clear hK K
  try simp only [pu1, pu2, pu3, pu4]
  refine late_st 3 rfl (fun K hK => ?_)
  go_simp
  have hq := cmp_any _ _ _ _ _ ((ud.below (Nat.le_refl _) (below_drew' _)).below (Nat.le_refl _) b22) uo
  rw [val_lim, val_lim, HCC.out] at hq
  refine hq.mono ?_
  rintro e w23 ⟨rfl, q9, hq9⟩
  have b23 : Below w22.heap.size w22 w23 := by rw [hq9]; exact belowDN _ _
  clear hq hq9
  have B23 : Below w21.heap.size w21 w23 := bstep B22 b23
  replace hHeld := AllL.mv (w' := w23) hHeld ⟨(qa.below B23).cells.2.2, trivial⟩
  go_wp2_with fail
  refine hK.out _ _ (AllL.kept hHeld) ?_
  clear hK K
  try simp only [pu1, pu2, pu3, pu4]
  refine late_fr 4 (v := .bool false) rfl (Or.inl ⟨by rfl, ?_⟩) hHeld ?_
  · (intro u _; go_simp)
  try simp only [pu1, pu2, pu3, pu4]
  refine late_done (by kernel_rfl) ?_ _
  clear hHeld
  have b := B23
  clear b22 b23 B22 B23
  replace ud := ud.below (Nat.le_refl _) b
  replace qa := qa.below b
  replace hb := bstep hb b
  replace hsz := Nat.lt_of_lt_of_le hsz b.size
  clear b
  clear uo
  obtain ⟨cqa0, cqa1, cqa2⟩ := qa.cells
  go_wp2_with fail
  clear cqa0 cqa1 cqa2
  have hq := text_any _ _ _ ud (by omega)
  rw [val_lim, HT2.out] at hq
  refine (hq).mono ?_
  rintro e w24 ⟨rfl, b⟩
  clear hq
  replace ud := ud.below (Nat.le_refl _) b
  replace qa := qa.below b
  replace hb := bstep hb b
  replace hsz := Nat.lt_of_lt_of_le hsz b.size
  clear b
  have HE : Hid (Below w.heap.size w w24) := hb
  clear hb hsz qa ud
  go_wp2_with fail
  go_ret
  exact ⟨rfl, HE.out⟩
open Go.RowKit

def RRow (w : World) (b n : Nat) (xs : Nat → Rat) (L : Nat) : Prop := ∀ i, i < n → ∃ nn ao al ac bo bl bc, w.cell? ⟨b, i * 3, none⟩ = some (.bool nn) ∧ w.cell? ⟨b, i * 3 + 1, none⟩ = some (.slice ao al ac) ∧ w.cell? ⟨b, i * 3 + 2, none⟩ = some (.slice bo bl bc) ∧ RNum w (.agg #[.bool nn, .slice ao al ac, .slice bo bl bc]) (xs i) L
theorem RRow.below {w w' : World} {b n : Nat} {xs : Nat → Rat} {L : Nat} (h : RRow w b n xs L) (hb : Below w.heap.size w w') : RRow w' b n xs L := by
 intro i hi
 obtain ⟨nn, ao, al, ac, bo, bl, bc, h1, h2, h3, h4⟩ := h i hi
 exact ⟨nn, ao, al, ac, bo, bl, bc, keepB hb h1, keepB hb h2, keepB hb h3, h4.below hb⟩
def rsum (xs : Nat → Rat) : Nat → Rat
 | 0 => 0
 | i + 1 => rsum xs i + xs i
theorem rsum_succ (xs : Nat → Rat) (i : Nat) : rsum xs (i + 1) = rsum xs i + xs i := rfl
theorem rown_store {B B0 g : Nat} {w : World} {r : Rat} {b : Bool} {m d : Value} (hb : b = decide (r.num < 0)) (hm : Own B0 37 w m (lim r.num.natAbs)) (hd : Own B0 37 w d (lim r.den)) (hap : m.ownBlock = none ∨ m.ownBlock ≠ d.ownBlock) (hg : g < B0) (hB : B ≤ B0) :
  ROwn B (((w.setCell ⟨g, 0, none⟩ (.bool b)).setCell ⟨g, 1, none⟩ m).setCell ⟨g, 2, none⟩ d) (.agg #[.bool b, m, d]) r :=
 ⟨m, d, by rw [hb], (((hm.other _ (own_ne hm hg)).other _ (own_ne hm hg)).other _ (own_ne hm hg)).mono hB, (((hd.other _ (own_ne hd hg)).other _ (own_ne hd hg)).other _ (own_ne hd hg)).mono hB, hap⟩
theorem RSz.zero : RSz 0 1 := ⟨Sz.zero, Sz.one⟩
theorem c_rsum (lo : Option Addr) (b0 n cap : Nat) (xs : Nat → Rat) (L : Nat) (w : World) (hlo : 0 < n → lo = some ⟨b0, 0, none⟩) (hrow : RRow w b0 n xs L) (hK : n * (L + 1) + L + 2 ≤ 1000000) : Calls Tryz.prog 20 #[.slice lo n cap] w fun e w' => REnd w (rsum xs n) e w' := by
 have hsum : ∀ i, i ≤ n → RSz (rsum xs i) (i * (L + 1) + 1) := by
  intro i
  induction i with
  | zero => intro _; rw [Nat.zero_mul]; exact RSz.zero
  | succ i ih =>
   intro hi
   obtain ⟨_, _, _, _, _, _, _, _, _, _, hx⟩ := hrow i (by omega)
   have h1 := ih (by omega)
   rw [rsum_succ]
   have h2 := rsz_add (p := (rsum xs i).num) (q := (rsum xs i).den) (p' := (xs i).num) (q' := (xs i).den) h1.num (by unfold und; rw [if_neg (Rat.den_nz _)]; exact h1.den) hx.sz.num (by unfold und; rw [if_neg (Rat.den_nz _)]; exact hx.sz.den)
   rw [rq_std, rq_std] at h2
   exact h2.mono (by rw [Nat.succ_mul]; omega)
 have HSUM : Hid (∀ i, i ≤ n → RSz (rsum xs i) (i * (L + 1) + 1)) := hsum
 clear hsum
 have hmul : ∀ i, i ≤ n → i * (L + 1) ≤ n * (L + 1) := fun i hi => Nat.mul_le_mul_right _ hi
 have HMUL : Hid (∀ i, i ≤ n → i * (L + 1) ≤ n * (L + 1)) := hmul
 have HK : Hid (n * (L + 1) + L + 2 ≤ 1000000) := hK
 have hn6 : n ≤ 1000000 := by have h9 := Nat.le_mul_of_pos_right n (Nat.succ_pos L); have h8 : n * L.succ = n * (L + 1) := rfl; omega
 clear hmul hK
 have HROW : Hid (RRow w b0 n xs L) := hrow
 clear hrow
 obtain ⟨r, hr⟩ : ∃ r, r = rsum xs n := ⟨_, rfl⟩
 have HR : Hid (r = rsum xs n) := hr
 rw [← hr]
 clear hr
 obtain ⟨W1, hW1⟩ : ∃ W1, W1 = w.alloc (.cells #[.bool false, .slice none 0 0, .slice none 0 0] 27) := ⟨_, rfl⟩
 have qR : QCell W1 (w.heap.size) false (.slice none 0 0) (.slice none 0 0) := by rw [hW1]; exact (qcell_new _ (by simp))
 have hb : Below w.heap.size w W1 := by rw [hW1]; exact belowA w _
 have hsz : w.heap.size < W1.heap.size := by rw [hW1]; simp
 have HW1 : Hid (W1 = w.alloc (.cells #[.bool false, .slice none 0 0, .slice none 0 0] 27)) := hW1
 clear hW1
 go_enter Tryz.func20, Tryz.ntmps20
 go_wp2_with fail
 rw [← HW1.out]
 clear HW1
 obtain ⟨g, hg⟩ : ∃ g, g = w.heap.size := ⟨_, rfl⟩
 rw [← hg] at qR hsz ⊢
 have HG : Hid (g = w.heap.size) := hg
 clear hg
 refine (c_of (n := 0) (by decide) (by decide)).mono ?_
 rintro e w2 ⟨v, rfl, hv, b⟩
 obtain ⟨na, ao, al, ac, rfl, ia⟩ := hv.see Sz.zero (by decide)
 clear hv
 replace qR := qR.below b
 replace hb := bstep hb b
 replace hsz := Nat.lt_of_lt_of_le hsz b.size
 clear b
 obtain ⟨cqR0, cqR1, cqR2⟩ := qR.cells
 go_wp2_with fail
 clear cqR0 cqR1 cqR2
 refine (c_of (n := 1) (by decide) (by decide)).mono ?_
 rintro e w3 ⟨v, rfl, hv, b⟩
 obtain ⟨nb, bo, bl, bc, rfl, ib⟩ := hv.see Sz.one (by decide)
 clear hv
 replace ia := ia.below b
 replace qR := qR.below b
 replace hb := bstep hb b
 replace hsz := Nat.lt_of_lt_of_le hsz b.size
 clear b
 obtain ⟨cqR0, cqR1, cqR2⟩ := qR.cells
 go_wp2_with fail
 clear cqR0 cqR1 cqR2
 have hq := c_lowest ia ib (by decide)
 rw [show Rat.divInt 0 1 = 0 by decide] at hq
 have hszz := hsz
 refine (hq).mono ?_
 rintro e w4 ⟨v, rfl, hv, b⟩
 clear hq
 replace hv := hv.rehome (B' := g + 1) hszz
 obtain ⟨m, d, rfl, hm, hd, hap⟩ := hv
 obtain ⟨mo, ml, mc, rfl⟩ := hm.sl
 obtain ⟨mO, mL, mC, rfl⟩ := hd.sl
 generalize hbb : decide ((0 : Rat).num < 0) = bb
 have hown : ROwn (g + 1) w4 (.agg #[.bool bb, .slice mo ml mc, .slice mO mL mC]) (rsum xs 0) := ⟨_, _, by rw [← hbb]; rfl, hm, hd, hap⟩
 clear hbb hm hd hap hszz
 replace ia := ia.below b
 replace ib := ib.below b
 replace qR := qR.below b
 replace hb := bstep hb b
 replace hsz := Nat.lt_of_lt_of_le hsz b.size
 clear b
 clear ia ib
 have hszP := hsz
 obtain ⟨W5, hW5⟩ : ∃ W, W = w4.alloc (.cells #[.bool bb, .slice mo ml mc, .slice mO mL mC] 27) := ⟨_, rfl⟩
 have qA : QCell W5 (w4.heap.size) bb (.slice mo ml mc) (.slice mO mL mC) := by rw [hW5]; exact (qcell_new _ rfl)
 have b : Below w4.heap.size w4 W5 := by rw [hW5]; exact belowA _ _
 replace hown := hown.below b
 replace qR := qR.below b
 replace hb := bstep hb b
 replace hsz := Nat.lt_of_lt_of_le hsz b.size
 clear b
 have rqR0 : (w4.alloc (.cells #[.bool bb, .slice mo ml mc, .slice mO mL mC] 27)).cell? ⟨g, 0, none⟩ = some (.bool false) := by rw [← hW5]; exact qR.cells.1
 have rqR1 : (w4.alloc (.cells #[.bool bb, .slice mo ml mc, .slice mO mL mC] 27)).cell? ⟨g, 1, none⟩ = some (.slice none 0 0) := by rw [← hW5]; exact qR.cells.2.1
 have rqR2 : (w4.alloc (.cells #[.bool bb, .slice mo ml mc, .slice mO mL mC] 27)).cell? ⟨g, 2, none⟩ = some (.slice none 0 0) := by rw [← hW5]; exact qR.cells.2.2
 have rqA0 : (w4.alloc (.cells #[.bool bb, .slice mo ml mc, .slice mO mL mC] 27)).cell? ⟨w4.heap.size, 0, none⟩ = some (.bool bb) := by rw [← hW5]; exact qA.cells.1
 have rqA1 : (w4.alloc (.cells #[.bool bb, .slice mo ml mc, .slice mO mL mC] 27)).cell? ⟨w4.heap.size, 1, none⟩ = some (.slice mo ml mc) := by rw [← hW5]; exact qA.cells.2.1
 have rqA2 : (w4.alloc (.cells #[.bool bb, .slice mo ml mc, .slice mO mL mC] 27)).cell? ⟨w4.heap.size, 2, none⟩ = some (.slice mO mL mC) := by rw [← hW5]; exact qA.cells.2.2
 obtain ⟨v5, hv5⟩ : ∃ v, v = w4.heap.size := ⟨_, rfl⟩
 rw [← hv5] at qA
 have HW5 : Hid (W5 = w4.alloc (.cells #[.bool bb, .slice mo ml mc, .slice mO mL mC] 27)) := hW5
 have Hv5 : Hid (v5 = w4.heap.size) := hv5
 clear hW5 hv5
 go_wp2_with fail
 rw [← HW5.out, ← Hv5.out]
 have hgA : g < v5 := by rw [Hv5.out]; exact hszP
 clear hszP
 clear HW5 Hv5 rqR0 rqR1 rqR2 rqA0 rqA1 rqA2
 go_loopw [11] (fun iv wr => ∃ i : Nat, i ≤ n ∧ iv = .int .i64 i ∧ ∃ bb mo ml mc mO mL mC, Below w.heap.size w wr ∧ QCell wr v5 bb (.slice mo ml mc) (.slice mO mL mC) ∧ ROwn (g + 1) wr (.agg #[.bool bb, .slice mo ml mc, .slice mO mL mC]) (rsum xs i) ∧ QCell wr g false (.slice none 0 0) (.slice none 0 0)) (fun iv _ => n - (intOf iv).toNat)
 case atStart => exact ⟨0, Nat.zero_le _, rfl, _, _, _, _, _, _, _, hb, qA, hown, qR⟩
 case round =>
  clear hb qA hown qR hsz
  obtain ⟨i, hi, rfl, bb, mo, ml, mc, mO, mL, mC, hb, qA, hown, qR⟩ := hrel
  have hsz : v5 < wr.heap.size := (Array.getElem?_eq_some_iff.1 (show wr.heap[v5]? = _ from qA)).1
  have hszg : g < wr.heap.size := (Array.getElem?_eq_some_iff.1 (show wr.heap[g]? = _ from qR)).1
  by_cases hlt : i < n
  ·
   have hlt2 : (i : Int) < (n : Int) := by omega
   obtain rfl := hlo (by omega)
   obtain ⟨ne, eo, el, ec, eO, eL, eC, k0, k1, k2, rx⟩ := (HROW.out.below hb) i hlt
   obtain ⟨W31, hW31⟩ : ∃ W, W = wr.alloc (.cells #[.bool ne, .slice eo el ec, .slice eO eL eC] 27) := ⟨_, rfl⟩
   have qE : QCell W31 (wr.heap.size) ne (.slice eo el ec) (.slice eO eL eC) := by rw [hW31]; exact (qcell_new _ rfl)
   have b : Below wr.heap.size wr W31 := by rw [hW31]; exact belowA _ _
   replace hown := hown.below b
   replace rx := rx.below b
   replace qA := qA.below b
   replace qR := qR.below b
   replace hb := bstep hb b
   replace hsz := Nat.lt_of_lt_of_le hsz b.size
   replace hszg := Nat.lt_of_lt_of_le hszg b.size
   clear b
   have rqA0 : (wr.alloc (.cells #[.bool ne, .slice eo el ec, .slice eO eL eC] 27)).cell? ⟨v5, 0, none⟩ = some (.bool bb) := by rw [← hW31]; exact qA.cells.1
   have rqA1 : (wr.alloc (.cells #[.bool ne, .slice eo el ec, .slice eO eL eC] 27)).cell? ⟨v5, 1, none⟩ = some (.slice mo ml mc) := by rw [← hW31]; exact qA.cells.2.1
   have rqA2 : (wr.alloc (.cells #[.bool ne, .slice eo el ec, .slice eO eL eC] 27)).cell? ⟨v5, 2, none⟩ = some (.slice mO mL mC) := by rw [← hW31]; exact qA.cells.2.2
   have rqR0 : (wr.alloc (.cells #[.bool ne, .slice eo el ec, .slice eO eL eC] 27)).cell? ⟨g, 0, none⟩ = some (.bool false) := by rw [← hW31]; exact qR.cells.1
   have rqR1 : (wr.alloc (.cells #[.bool ne, .slice eo el ec, .slice eO eL eC] 27)).cell? ⟨g, 1, none⟩ = some (.slice none 0 0) := by rw [← hW31]; exact qR.cells.2.1
   have rqR2 : (wr.alloc (.cells #[.bool ne, .slice eo el ec, .slice eO eL eC] 27)).cell? ⟨g, 2, none⟩ = some (.slice none 0 0) := by rw [← hW31]; exact qR.cells.2.2
   have rqE0 : (wr.alloc (.cells #[.bool ne, .slice eo el ec, .slice eO eL eC] 27)).cell? ⟨wr.heap.size, 0, none⟩ = some (.bool ne) := by rw [← hW31]; exact qE.cells.1
   have rqE1 : (wr.alloc (.cells #[.bool ne, .slice eo el ec, .slice eO eL eC] 27)).cell? ⟨wr.heap.size, 1, none⟩ = some (.slice eo el ec) := by rw [← hW31]; exact qE.cells.2.1
   have rqE2 : (wr.alloc (.cells #[.bool ne, .slice eo el ec, .slice eO eL eC] 27)).cell? ⟨wr.heap.size, 2, none⟩ = some (.slice eO eL eC) := by rw [← hW31]; exact qE.cells.2.2
   obtain ⟨v31, hv31⟩ : ∃ v, v = wr.heap.size := ⟨_, rfl⟩
   rw [← hv31] at qE
   have HW31 : Hid (W31 = wr.alloc (.cells #[.bool ne, .slice eo el ec, .slice eO eL eC] 27)) := hW31
   have Hv31 : Hid (v31 = wr.heap.size) := hv31
   clear hW31 hv31
   go_wp2_with fail
   rw [← HW31.out, ← Hv31.out]
   clear HW31 Hv31 rqA0 rqA1 rqA2 rqR0 rqR1 rqR2 rqE0 rqE1 rqE2
   have hcc := c_radd (hown.std.num (HSUM.out i hi) (by have h1 := HMUL.out i hi; have h2 := HK.out; omega)) rx (by have h1 := HMUL.out i hi; have h2 := HK.out; omega)
   rw [← rsum_succ] at hcc
   have hszz := hsz
   have hszy : g + 1 ≤ W31.heap.size := hszg
   refine (hcc).mono ?_
   rintro e w32 ⟨v, rfl, hv, b⟩
   clear hcc
   obtain ⟨m, d, rfl, hm, hd, hap⟩ := hv
   obtain ⟨mo2, ml2, mc2, rfl⟩ := hm.sl
   obtain ⟨mO2, mL2, mC2, rfl⟩ := hd.sl
   obtain ⟨bb2, hbb2⟩ : ∃ b, b = decide ((rsum xs (i + 1)).num < 0) := ⟨_, rfl⟩
   rw [← hbb2]
   replace hown := hown.below b
   replace rx := rx.below b
   replace qA := qA.below b
   replace qR := qR.below b
   replace qE := qE.below b
   replace hb := bstep hb b
   replace hsz := Nat.lt_of_lt_of_le hsz b.size
   clear b
   have HN1 : Hid (Below w.heap.size w (((w32.setCell ⟨v5, 0, none⟩ (.bool bb2)).setCell ⟨v5, 1, none⟩ (.slice mo2 ml2 mc2)).setCell ⟨v5, 2, none⟩ (.slice mO2 mL2 mC2))) := iend3 hb (by have := HG.out; omega)
   have HN2 : Hid (QCell (((w32.setCell ⟨v5, 0, none⟩ (.bool bb2)).setCell ⟨v5, 1, none⟩ (.slice mo2 ml2 mc2)).setCell ⟨v5, 2, none⟩ (.slice mO2 mL2 mC2)) (v5) bb2 (.slice mo2 ml2 mc2) (.slice mO2 mL2 mC2)) := qA.write _ _ _
   have HN3 : Hid (ROwn (g + 1) (((w32.setCell ⟨v5, 0, none⟩ (.bool bb2)).setCell ⟨v5, 1, none⟩ (.slice mo2 ml2 mc2)).setCell ⟨v5, 2, none⟩ (.slice mO2 mL2 mC2)) (.agg #[.bool bb2, .slice mo2 ml2 mc2, .slice mO2 mL2 mC2]) (rsum xs (i + 1))) := rown_store hbb2 hm hd hap hszz hszy
   have HN4 : Hid (QCell (((w32.setCell ⟨v5, 0, none⟩ (.bool bb2)).setCell ⟨v5, 1, none⟩ (.slice mo2 ml2 mc2)).setCell ⟨v5, 2, none⟩ (.slice mO2 mL2 mC2)) g false (.slice none 0 0) (.slice none 0 0)) := ((qR.other (by omega) _ _).other (by omega) _ _).other (by omega) _ _
   obtain ⟨y0, y1, y2⟩ := qA.cells
   have f0 := qA.thaw 0
   have f1 := qA.thaw 1
   have f2 := qA.thaw 2
   clear hbb2 hm hd hap hszz hszy hsz hszg hb k0 k1 k2 qA qR qE hown rx
   go_wp2_with fail
   go_roundw
   case rel => exact ⟨i + 1, by omega, by go_num, _, _, _, _, _, _, _, HN1.out, HN2.out, HN3.out, HN4.out⟩
   case measure => simp [intOf]; omega
  ·
   have hin : i = n := by omega
   subst hin
   have hlt2 : ¬ (i : Int) < (i : Int) := by omega
   rw [← HR.out] at hown
   obtain ⟨m, d, he, hm, hd, hap⟩ := hown
   simp only [Value.agg.injEq, Array.mk.injEq, List.cons.injEq, Value.bool.injEq, and_true] at he
   obtain ⟨hbb, rfl, rfl⟩ := he
   have qq := qR
   have HE : Hid (REnd w r (.returned (.agg #[.bool bb, .slice mo ml mc, .slice mO mL mC])) (((wr.setCell ⟨g, 0, none⟩ (.bool bb)).setCell ⟨g, 1, none⟩ (.slice mo ml mc)).setCell ⟨g, 2, none⟩ (.slice mO mL mC))) := rat_done hbb (by rw [HG.out]; exact Nat.le_refl _) hm hd hap (Nat.lt_succ_self g) hb
   have HW : Hid (QCell (((wr.setCell ⟨g, 0, none⟩ (.bool bb)).setCell ⟨g, 1, none⟩ (.slice mo ml mc)).setCell ⟨g, 2, none⟩ (.slice mO mL mC)) g bb (.slice mo ml mc) (.slice mO mL mC)) := qq.write _ _ _
   obtain ⟨y0, y1, y2⟩ := qR.cells
   have f0 := qR.thaw 0
   have f1 := qR.thaw 1
   have f2 := qR.thaw 2
   obtain ⟨c0, c1, c2⟩ := qA.cells
   clear hbb hm hd hap hb hsz hszg qq qA qR
   go_wp2_with fail
   (try simp only [Exit.inBlock, Exit.then])
   exact bodyPost_ret (results_cell_row rfl _ _ (g) 27 _ (0, 0) _ rfl HW.out Tryz.underlying27 rfl (by kernel_rfl)) rfl HE.out
open Go.RowKit

theorem num_len {w : World} {o : Option Addr} {l c : Nat} {xs : List Nat} (h : Num w (.slice o l c) xs) : xs.length = l ∧ l ≤ c ∧ c ≤ 9223372036854775807 := by
 obtain ⟨ao, cap, e, h1, h2⟩ := h.ao
 simp only [Value.slice.injEq] at e
 obtain ⟨_, rfl, rfl⟩ := e
 exact ⟨rfl, h1, h2⟩
theorem num_cut {w : World} {o : Option Addr} {l c : Nat} {xs : List Nat} (h : Num w (.slice o l c) xs) {k : Nat} (hk : k ≤ l) : Num w (.slice o k c) (xs.take k) := by
 have h1 := h.cut (k := k) (by rw [(num_len h).1]; exact hk)
 exact h1
theorem c_cut (na : Bool) (ao aO : Option Addr) (al ac aL aC k : Nat) (xa ya : List Nat) (w : World) (ha : Num w (.slice ao al ac) xa) (hd : Num w (.slice aO aL aC) ya) (hk : k ≤ 1000) :
  Calls Tryz.prog 6 #[.agg #[.bool na, .slice ao al ac, .slice aO aL aC], .int .i64 k] w fun e w' => e = .returned (.agg #[.bool na, .slice ao (min al k) ac, .slice aO (min aL k) aC]) ∧ Below w.heap.size w w' := by
 obtain ⟨_, h1, h2⟩ := num_len ha
 obtain ⟨_, h3, h4⟩ := num_len hd
 clear ha hd
 by_cases hla : k < al
 ·
  by_cases hlb : k < aL
  ·
   have e1 : min al k = k := by omega
   have e2 : min aL k = k := by omega
   have hla2 : (k : Int) < (al : Int) := by omega
   have hlb2 : (k : Int) < (aL : Int) := by omega
   have hla3 : (k : Int) ≤ (ac : Int) := by omega
   have hlb3 : (k : Int) ≤ (aC : Int) := by omega
   rw [e1, e2]
   clear e1 e2
   go_enter Tryz.func6, Tryz.ntmps6
   go_wp2
   (try simp only [Exit.inBlock, Exit.then])
   exact bodyPost_ret (results_cell_row rfl _ _ (w.heap.size + 1) 27 _ (0, 0) _ rfl (heap_alloc2_new w _ _) Tryz.underlying27 rfl (by kernel_rfl)) rfl ⟨rfl, bstep (belowA _ _) (belowA _ _)⟩
  ·
   have e1 : min al k = k := by omega
   have e2 : min aL k = aL := by omega
   have hla2 : (k : Int) < (al : Int) := by omega
   have hlb2 : ¬ (k : Int) < (aL : Int) := by omega
   have hla3 : (k : Int) ≤ (ac : Int) := by omega
   clear h3
   rw [e1, e2]
   clear e1 e2
   go_enter Tryz.func6, Tryz.ntmps6
   go_wp2
   (try simp only [Exit.inBlock, Exit.then])
   exact bodyPost_ret (results_cell_row rfl _ _ (w.heap.size + 1) 27 _ (0, 0) _ rfl (heap_alloc2_new w _ _) Tryz.underlying27 rfl (by kernel_rfl)) rfl ⟨rfl, bstep (belowA _ _) (belowA _ _)⟩
 ·
  by_cases hlb : k < aL
  ·
   have e1 : min al k = al := by omega
   have e2 : min aL k = k := by omega
   have hla2 : ¬ (k : Int) < (al : Int) := by omega
   have hlb2 : (k : Int) < (aL : Int) := by omega
   clear h1
   have hlb3 : (k : Int) ≤ (aC : Int) := by omega
   rw [e1, e2]
   clear e1 e2
   go_enter Tryz.func6, Tryz.ntmps6
   go_wp2
   (try simp only [Exit.inBlock, Exit.then])
   exact bodyPost_ret (results_cell_row rfl _ _ (w.heap.size + 1) 27 _ (0, 0) _ rfl (heap_alloc2_new w _ _) Tryz.underlying27 rfl (by kernel_rfl)) rfl ⟨rfl, bstep (belowA _ _) (belowA _ _)⟩
  ·
   have e1 : min al k = al := by omega
   have e2 : min aL k = aL := by omega
   have hla2 : ¬ (k : Int) < (al : Int) := by omega
   have hlb2 : ¬ (k : Int) < (aL : Int) := by omega
   clear h1
   clear h3
   rw [e1, e2]
   clear e1 e2
   go_enter Tryz.func6, Tryz.ntmps6
   go_wp2
   (try simp only [Exit.inBlock, Exit.then])
   exact bodyPost_ret (results_cell_row rfl _ _ (w.heap.size + 1) 27 _ (0, 0) _ rfl (heap_alloc2_new w _ _) Tryz.underlying27 rfl (by kernel_rfl)) rfl ⟨rfl, bstep (belowA _ _) (belowA _ _)⟩
open Go.RowKit
attribute [local go_sem ↓] Go.wp_at_zero Go.wp_at_succ

def IB (w : World) (v : Value) (z : Int) (L : Nat) : Prop := ∃ n o l c xs, v = .agg #[.bool n, .slice o l c] ∧ Num w (.slice o l c) xs ∧ xs.length ≤ L ∧ zv n (val xs) = z
theorem IB.below {w w' : World} {v : Value} {z : Int} {L : Nat} (h : IB w v z L) (hb : Below w.heap.size w w') : IB w' v z L := by
 obtain ⟨n, o, l, c, xs, e, h1, h2⟩ := h
 exact ⟨n, o, l, c, xs, e, h1.below (Nat.le_refl _) hb, h2⟩
theorem IOwn.ib {B : Nat} {w : World} {v : Value} {z : Int} {L : Nat} (h : IOwn B w v z) (hl : (lim z.natAbs).length ≤ L) : IB w v z L := by
 obtain ⟨m, rfl, hm⟩ := h
 obtain ⟨mo, ml, mc, rfl⟩ := hm.sl
 exact ⟨_, _, _, _, _, rfl, hm.num, hl, by rw [val_lim]; exact zv_self z⟩
theorem lim_i64 {n : Int} (h1 : -9223372036854775808 ≤ n) (h2 : n ≤ 9223372036854775807) : (lim n.natAbs).length ≤ 300 := by
 have e : (4294967296 : Nat) ^ 2 = 18446744073709551616 := by decide
 exact Nat.le_trans (lim_len_le (k := 2) (by rw [e]; omega)) (by decide)
theorem div_signs {na nb : Bool} {A D : Nat} : Rat.divInt (zv (na != nb) A) (D : Int) = Rat.divInt (zv na A) (zv nb D) := by
 by_cases h : D = 0
 · rw [h]; cases nb <;> simp [zv]
 ·
  refine (Rat.divInt_eq_divInt_iff (by omega) (by cases nb <;> simp [zv] <;> omega)).2 ?_
  cases na <;> cases nb <;> simp [zv, Int.neg_mul, Int.mul_neg]
theorem RoomL.set2 {B : Nat} {w : World} {v : Value} {xs : List Nat} (h : RoomL B w v xs) {g : Nat} (hg : g < B) (a b : Value) : RoomL B ((w.setCell ⟨g, 0, none⟩ a).setCell ⟨g, 1, none⟩ b) v xs := by
 obtain ⟨u, e, ho⟩ := h
 have hne : u.ownBlock = none ∨ u.ownBlock ≠ some g := by
  rcases hu : u.ownBlock with _ | k
  · exact .inl rfl
  · exact .inr fun e => by have := (ho.block k hu).1; have := Option.some.inj e; omega
 exact ⟨u, e, (ho.other a hne).other b hne⟩
theorem new3_yes {a b : Value} {p q : Int} {w : World} (ha : IB w a p 300) (hb' : IB w b q 300) (hq : q ≠ 0) : Calls Tryz.prog 103 #[a, b] w fun e w' => RTEnd w (Rat.divInt p q) e w' := by
 obtain ⟨Z, hZ⟩ : ∃ Z, Z = Rat.divInt p q := ⟨_, rfl⟩
 have HZ : Hid (Rat.divInt p q = Z) := hZ.symm
 rw [← hZ]
 clear hZ
 obtain ⟨na, ao, al, ac, xa, rfl, ua, la, za⟩ := ha
 have ia : INum w (.agg #[.bool na, .slice ao al ac]) p := ⟨_, _, _, _, _, rfl, ua, by omega, za⟩
 obtain ⟨nb, bo, bl, bc, xb, rfl, ub, lb, zb⟩ := hb'
 have ib : INum w (.agg #[.bool nb, .slice bo bl bc]) q := ⟨_, _, _, _, _, rfl, ub, by omega, zb⟩
 obtain ⟨c, hc⟩ : ∃ c, c = cmpZ q 0 := ⟨_, rfl⟩
 have HC : Hid (cmpZ q 0 = c) := hc.symm
 have hc0 : (c == 0) = false := by rw [hc, cmpZ_eq]; exact decide_eq_false hq
 have HQ : Hid (q ≠ 0) := hq
 have HLA : Hid (xa.length ≤ 300) := la
 have HLB : Hid (xb.length ≤ 300) := lb
 have HZA : Hid (zv na (val xa) = p) := za
 have HZB : Hid (zv nb (val xb) = q) := zb
 clear hq hc la lb za zb
 obtain ⟨W1, hW1⟩ : ∃ W1, W1 = ((w.alloc (.cells #[.bool na, .slice ao al ac] 25)).alloc (.cells #[.bool nb, .slice bo bl bc] 25)).alloc (.cells #[.bool false, .slice none 0 0, .slice none 0 0] 27) := ⟨_, rfl⟩
 have qa : ICell W1 (w.heap.size) na (.slice ao al ac) := by rw [hW1]; exact (icell_step (icell_step (icell_new _ (by simp))))
 have qb : ICell W1 (w.heap.size + 1) nb (.slice bo bl bc) := by rw [hW1]; exact (icell_step (icell_new _ (by simp)))
 have qR : QCell W1 (w.heap.size + 1 + 1) false (.slice none 0 0) (.slice none 0 0) := by rw [hW1]; exact (qcell_new _ (by simp))
 have hb : Below w.heap.size w W1 := by rw [hW1]; exact bstep (bstep (belowA w _) (belowA _ _)) (belowA _ _)
 have hsz : w.heap.size + 1 + 1 < W1.heap.size := by rw [hW1]; simp
 replace ua := ua.below (Nat.le_refl _) hb
 replace ub := ub.below (Nat.le_refl _) hb
 have HW1 : Hid (W1 = ((w.alloc (.cells #[.bool na, .slice ao al ac] 25)).alloc (.cells #[.bool nb, .slice bo bl bc] 25)).alloc (.cells #[.bool false, .slice none 0 0, .slice none 0 0] 27)) := hW1
 clear hW1
 go_enter Tryz.func103, Tryz.ntmps103
 go_wp2_with fail
 rw [← HW1.out]
 clear HW1
 obtain ⟨g, hg⟩ : ∃ g, g = w.heap.size := ⟨_, rfl⟩
 rw [← hg] at qa qb qR hsz ⊢
 have HG : Hid (g = w.heap.size) := hg
 clear hg
 have hs := r_sign (ib.below hb)
 rw [HC.out] at hs
 clear ib ia
 obtain ⟨cqa0, cqa1⟩ := qa.cells
 obtain ⟨cqb0, cqb1⟩ := qb.cells
 obtain ⟨cqR0, cqR1, cqR2⟩ := qR.cells
 go_wp2_with fail
 clear cqa0 cqa1 cqb0 cqb1 cqR0 cqR1 cqR2
 refine (hs).mono ?_
 rintro e w2 ⟨rfl, b⟩
 clear hs
 replace ua := ua.below (Nat.le_refl _) b
 replace ub := ub.below (Nat.le_refl _) b
 replace qa := qa.below b
 replace qb := qb.below b
 replace qR := qR.below b
 replace hb := bstep hb b
 replace hsz := Nat.lt_of_lt_of_le hsz b.size
 clear b
 obtain ⟨cqa0, cqa1⟩ := qa.cells
 obtain ⟨cqb0, cqb1⟩ := qb.cells
 obtain ⟨cqR0, cqR1, cqR2⟩ := qR.cells
 obtain ⟨ns, hns⟩ : ∃ s, s = (na != nb) := ⟨_, rfl⟩
 have hns2 : (na != nb) = ns := hns.symm
 have HNS : Hid (ns = (na != nb)) := hns
 clear hns
 go_wp2_with fail
 clear cqa0 cqa1 cqb0 cqb1 cqR0 cqR1 cqR2
 have hq := lowest3 ns _ _ _ _ _ _ _ _ _ ua ub (Nat.le_trans HLA.out (by decide)) (Nat.le_trans HLB.out (by decide)) (by have h := HQ.out; rw [← HZB.out] at h; intro e; rw [e] at h; cases nb <;> exact h rfl)
 rw [HNS.out, div_signs, HZA.out, HZB.out, HZ.out] at hq
 have hszz := hsz
 refine (hq).mono ?_
 rintro e w3 ⟨v, rfl, hv, b⟩
 clear hq
 obtain ⟨m, d, rfl, hm, hd, hap⟩ := hv
 obtain ⟨mo, ml, mc, rfl⟩ := hm.sl
 obtain ⟨mO, mL, mC, rfl⟩ := hd.sl
 replace ua := ua.below (Nat.le_refl _) b
 replace ub := ub.below (Nat.le_refl _) b
 replace qa := qa.below b
 replace qb := qb.below b
 replace qR := qR.below b
 replace hb := bstep hb b
 replace hsz := Nat.lt_of_lt_of_le hsz b.size
 clear b
 have qq := qR
 have HE : Hid (REnd w Z (.returned (.agg #[.bool (decide (Z.num < 0)), .slice mo ml mc, .slice mO mL mC])) (((w3.setCell ⟨g + 1 + 1, 0, none⟩ (.bool (decide (Z.num < 0)))).setCell ⟨g + 1 + 1, 1, none⟩ (.slice mo ml mc)).setCell ⟨g + 1 + 1, 2, none⟩ (.slice mO mL mC))) := rat_done rfl (by rw [HG.out]; omega) hm hd hap hszz (hb)
 have HW : Hid (QCell (((w3.setCell ⟨g + 1 + 1, 0, none⟩ (.bool (decide (Z.num < 0)))).setCell ⟨g + 1 + 1, 1, none⟩ (.slice mo ml mc)).setCell ⟨g + 1 + 1, 2, none⟩ (.slice mO mL mC)) (g + 1 + 1) (decide (Z.num < 0)) (.slice mo ml mc) (.slice mO mL mC)) := qq.write _ _ _
 obtain ⟨y0, y1, y2⟩ := qq.cells
 have f0 := qq.thaw 0
 have f1 := qq.thaw 1
 have f2 := qq.thaw 2
 generalize decide (Z.num < 0) = bb at *
 clear qq hap
 clear hb hsz hszz hm hd qa qb qR ua ub hns2
 go_wp2_with fail
 (try simp only [Exit.inBlock, Exit.then])
 exact bodyPost_ret (results_ct (p := 4) (u := 5) rfl _ _ (g + 1 + 1) 27 _ (0, 0) _ rfl HW.out Tryz.underlying27 rfl (by kernel_rfl)) rfl HE.out.t
theorem of3_yes {n d : Int} {w : World} (h1 : -9223372036854775808 ≤ n) (h2 : n ≤ 9223372036854775807) (h3 : -9223372036854775808 ≤ d) (h4 : d ≤ 9223372036854775807) (hd : d ≠ 0) : Calls Tryz.prog 67 #[.int .i64 n, .int .i64 d] w fun e w' => RTEnd w (Rat.divInt n d) e w' := by
 obtain ⟨Z, hZ⟩ : ∃ Z, Z = Rat.divInt n d := ⟨_, rfl⟩
 have HZ : Hid (Rat.divInt n d = Z) := hZ.symm
 rw [← hZ]
 clear hZ
 have HD : Hid (d ≠ 0) := hd
 clear hd
 obtain ⟨W1, hW1⟩ : ∃ W1, W1 = w.alloc (.cells #[.bool false, .slice none 0 0, .slice none 0 0] 27) := ⟨_, rfl⟩
 have qR : QCell W1 (w.heap.size) false (.slice none 0 0) (.slice none 0 0) := by rw [hW1]; exact (qcell_new _ (by simp))
 have hb : Below w.heap.size w W1 := by rw [hW1]; exact belowA w _
 have hsz : w.heap.size < W1.heap.size := by rw [hW1]; simp
 have HW1 : Hid (W1 = w.alloc (.cells #[.bool false, .slice none 0 0, .slice none 0 0] 27)) := hW1
 clear hW1
 go_enter Tryz.func67, Tryz.ntmps67
 go_wp2_with fail
 rw [← HW1.out]
 clear HW1
 obtain ⟨g, hg⟩ : ∃ g, g = w.heap.size := ⟨_, rfl⟩
 rw [← hg] at qR hsz ⊢
 have HG : Hid (g = w.heap.size) := hg
 clear hg
 refine (r_of n _ h1 h2).mono ?_
 rintro e w2 ⟨v, rfl, hv, b⟩
 have ia := hv.ib (lim_i64 h1 h2)
 obtain ⟨m, rfl, hm⟩ := hv
 obtain ⟨ao, al, ac, rfl⟩ := hm.sl
 clear hm
 generalize decide (n < 0) = na at *
 replace qR := qR.below b
 replace hb := bstep hb b
 replace hsz := Nat.lt_of_lt_of_le hsz b.size
 clear b
 obtain ⟨cqR0, cqR1, cqR2⟩ := qR.cells
 go_wp2_with fail
 clear cqR0 cqR1 cqR2
 refine (r_of d _ h3 h4).mono ?_
 rintro e w3 ⟨v, rfl, hv, b⟩
 have ib := hv.ib (lim_i64 h3 h4)
 obtain ⟨m, rfl, hm⟩ := hv
 obtain ⟨bo, bl, bc, rfl⟩ := hm.sl
 clear hm
 generalize decide (d < 0) = nb at *
 replace ia := ia.below b
 replace qR := qR.below b
 replace hb := bstep hb b
 replace hsz := Nat.lt_of_lt_of_le hsz b.size
 clear b
 obtain ⟨cqR0, cqR1, cqR2⟩ := qR.cells
 go_wp2_with fail
 clear cqR0 cqR1 cqR2
 have hq := new3_yes ia ib HD.out
 rw [HZ.out] at hq
 have hszz := hsz
 refine (hq).mono ?_
 rintro e w4 ⟨v, rfl, hv, b⟩
 clear hq
 obtain ⟨m, d, rfl, hm, hd, hap⟩ := hv
 obtain ⟨mo, ml, mc, rfl⟩ := hm.sl
 obtain ⟨mO, mL, mC, rfl⟩ := hd.sl
 replace ia := ia.below b
 replace ib := ib.below b
 replace qR := qR.below b
 replace hb := bstep hb b
 replace hsz := Nat.lt_of_lt_of_le hsz b.size
 clear b
 have qq := qR
 have HE : Hid (REnd w Z (.returned (.agg #[.bool (decide (Z.num < 0)), .slice mo ml mc, .slice mO mL mC])) (((w4.setCell ⟨g, 0, none⟩ (.bool (decide (Z.num < 0)))).setCell ⟨g, 1, none⟩ (.slice mo ml mc)).setCell ⟨g, 2, none⟩ (.slice mO mL mC))) := rat_done rfl (by rw [HG.out]; omega) hm hd hap hszz (hb)
 have HW : Hid (QCell (((w4.setCell ⟨g, 0, none⟩ (.bool (decide (Z.num < 0)))).setCell ⟨g, 1, none⟩ (.slice mo ml mc)).setCell ⟨g, 2, none⟩ (.slice mO mL mC)) (g) (decide (Z.num < 0)) (.slice mo ml mc) (.slice mO mL mC)) := qq.write _ _ _
 obtain ⟨y0, y1, y2⟩ := qq.cells
 have f0 := qq.thaw 0
 have f1 := qq.thaw 1
 have f2 := qq.thaw 2
 generalize decide (Z.num < 0) = bb at *
 clear qq hap
 clear hb hsz hszz hm hd qR ia ib 
 go_wp2_with fail
 (try simp only [Exit.inBlock, Exit.then])
 exact bodyPost_ret (results_ct (p := 4) (u := 5) rfl _ _ (g) 27 _ (0, 0) _ rfl HW.out Tryz.underlying27 rfl (by kernel_rfl)) rfl HE.out.t
theorem same02g (bb : Bool) (mo ko : Option Addr) (n mc kc : Nat) (xs : List Nat) (w : World) (hm : Num w (.slice mo n mc) xs) (hk : Num w (.slice ko n kc) xs) :
  Calls Tryz.prog 11 #[.agg #[.bool bb, .slice mo n mc], .agg #[.bool bb, .slice ko n kc]] w fun e w' => e = .returned (.bool true) ∧ Below w.heap.size w w' := by
 have hself : (bb == bb) = true := by simp
 obtain ⟨W1, hW1⟩ : ∃ W1, W1 = (w.alloc (.cells #[.bool bb, .slice mo n mc] 25)).alloc (.cells #[.bool bb, .slice ko n kc] 25) := ⟨_, rfl⟩
 have q0 : ICell W1 (w.heap.size) bb (.slice mo n mc) := by rw [hW1]; exact icell_step (icell_new _ (by simp))
 have q1 : ICell W1 (w.heap.size + 1) bb (.slice ko n kc) := by rw [hW1]; exact icell_new _ (by simp)
 have hB : Below w.heap.size w W1 := by rw [hW1]; exact bstep (belowA w _) (belowA _ _)
 have HW1 : Hid (W1 = (w.alloc (.cells #[.bool bb, .slice mo n mc] 25)).alloc (.cells #[.bool bb, .slice ko n kc] 25)) := hW1
 clear hW1
 replace hm := hm.below (Nat.le_refl _) hB
 replace hk := hk.below (Nat.le_refl _) hB
 go_enter Tryz.func11, Tryz.ntmps11
 go_wp2_with fail
 rw [← HW1.out]
 clear HW1
 obtain ⟨g, hg⟩ : ∃ g, g = w.heap.size := ⟨_, rfl⟩
 rw [← hg] at q0 q1 ⊢
 have HB : Hid (Below w.heap.size w W1) := hB
 clear hg hB
 obtain ⟨c0, d0⟩ := q0.cells
 obtain ⟨c1, d1⟩ := q1.cells
 clear q0 q1
 go_wp2_with fail
 refine (same_yes _ _ _ _ hm hk).mono ?_
 rintro e w2 ⟨rfl, q, hq⟩
 have HE : Hid (Below w.heap.size w w2) := by rw [hq]; exact bstep HB.out (below_drewN (Below.refl _ _) q)
 clear hq hm hk HB c0 d0 c1 d1
 go_wp2_with fail
 go_ret
 exact ⟨rfl, HE.out⟩
theorem same3 (na : Bool) (ao bo aO bO : Option Addr) (al ac bc aL aC bC : Nat) (xs ys : List Nat) (w : World) (ma : Num w (.slice ao al ac) xs) (mb : Num w (.slice bo al bc) xs) (da : Num w (.slice aO aL aC) ys) (db : Num w (.slice bO aL bC) ys) :
  Calls Tryz.prog 14 #[.agg #[.bool na, .slice ao al ac, .slice aO aL aC], .agg #[.bool na, .slice bo al bc, .slice bO aL bC]] w fun e w' => e = .returned (.bool true) ∧ Below w.heap.size w w' := by
 obtain ⟨W1, hW1⟩ : ∃ W1, W1 = (w.alloc (.cells #[.bool na, .slice ao al ac, .slice aO aL aC] 27)).alloc (.cells #[.bool na, .slice bo al bc, .slice bO aL bC] 27) := ⟨_, rfl⟩
 have qa : QCell W1 (w.heap.size) na (.slice ao al ac) (.slice aO aL aC) := by rw [hW1]; exact (qcell_step (qcell_new _ (by simp)))
 have qb : QCell W1 (w.heap.size + 1) na (.slice bo al bc) (.slice bO aL bC) := by rw [hW1]; exact (qcell_new _ (by simp))
 have hb : Below w.heap.size w W1 := by rw [hW1]; exact bstep (belowA w _) (belowA _ _)
 have hsz : w.heap.size + 1 < W1.heap.size := by rw [hW1]; simp
 replace da := da.below (Nat.le_refl _) hb
 replace db := db.below (Nat.le_refl _) hb
 replace ma := ma.below (Nat.le_refl _) hb
 replace mb := mb.below (Nat.le_refl _) hb
 have HW1 : Hid (W1 = (w.alloc (.cells #[.bool na, .slice ao al ac, .slice aO aL aC] 27)).alloc (.cells #[.bool na, .slice bo al bc, .slice bO aL bC] 27)) := hW1
 clear hW1
 go_enter Tryz.func14, Tryz.ntmps14
 go_wp2_with fail
 rw [← HW1.out]
 clear HW1
 obtain ⟨g, hg⟩ : ∃ g, g = w.heap.size := ⟨_, rfl⟩
 rw [← hg] at qa qb hsz ⊢
 have HG : Hid (g = w.heap.size) := hg
 clear hg
 obtain ⟨cqa0, cqa1, cqa2⟩ := qa.cells
 obtain ⟨cqb0, cqb1, cqb2⟩ := qb.cells
 go_wp2_with fail
 clear cqa0 cqa1 cqa2 cqb0 cqb1 cqb2
 have hs := same02g na ao bo al ac bc xs _ ma mb
 refine (hs).mono ?_
 rintro e w2 ⟨rfl, b⟩
 clear hs
 replace ma := ma.below (Nat.le_refl _) b
 replace mb := mb.below (Nat.le_refl _) b
 replace da := da.below (Nat.le_refl _) b
 replace db := db.below (Nat.le_refl _) b
 replace qa := qa.below b
 replace qb := qb.below b
 replace hb := bstep hb b
 replace hsz := Nat.lt_of_lt_of_le hsz b.size
 clear b
 obtain ⟨cqa0, cqa1, cqa2⟩ := qa.cells
 obtain ⟨cqb0, cqb1, cqb2⟩ := qb.cells
 go_wp2_with fail
 clear cqa0 cqa1 cqa2 cqb0 cqb1 cqb2
 refine (same_yes _ _ _ _ da db).mono ?_
 rintro e w3 ⟨rfl, q, hq⟩
 have HE : Hid (Below w.heap.size w w3) := by rw [hq]; exact bstep hb (below_drewN (Below.refl _ _) q)
 clear hq hb hsz qa qb ma mb da db
 go_wp2
 go_ret
 exact ⟨rfl, HE.out⟩
theorem lendInt3 (na : Bool) (ao : Option Addr) (al ac : Nat) (xa : List Nat) (w : World) (ua : Num w (.slice ao al ac) xa) (la : xa.length ≤ 1099511627776) :
  Calls Tryz.prog 22 #[.agg #[.bool na, .slice ao al ac]] w fun e w' => ∃ u, e = .returned (.agg #[.bool na, u]) ∧ RoomL w.heap.size w' u xa ∧ Below w.heap.size w w' := by
 obtain ⟨W1, hW1⟩ : ∃ W1, W1 = (w.alloc (.cells #[.bool na, .slice ao al ac] 25)).alloc (.cells #[.bool false, .slice none 0 0] 25) := ⟨_, rfl⟩
 have qa : ICell W1 (w.heap.size) na (.slice ao al ac) := by rw [hW1]; exact (icell_step (icell_new _ (by simp)))
 have qR : ICell W1 (w.heap.size + 1) false (.slice none 0 0) := by rw [hW1]; exact (icell_new _ (by simp))
 have hb : Below w.heap.size w W1 := by rw [hW1]; exact bstep (belowA w _) (belowA _ _)
 have hsz : w.heap.size + 1 < W1.heap.size := by rw [hW1]; simp
 replace ua := ua.below (Nat.le_refl _) hb
 have HW1 : Hid (W1 = (w.alloc (.cells #[.bool na, .slice ao al ac] 25)).alloc (.cells #[.bool false, .slice none 0 0] 25)) := hW1
 clear hW1
 go_enter Tryz.func22, Tryz.ntmps22
 go_wp2_with fail
 rw [← HW1.out]
 clear HW1
 obtain ⟨g, hg⟩ : ∃ g, g = w.heap.size := ⟨_, rfl⟩
 rw [← hg] at qa qR hsz ⊢
 have HG : Hid (g = w.heap.size) := hg
 clear hg
 refine region_late [(1, fun w' => w'.cell? ⟨g, 0, none⟩ = some (.bool na)), (3, fun w' => w'.cell? ⟨g, 1, none⟩ = some (.slice ao al ac))] (by kernel_rfl) ?_
 have hHeld : AllL W1.drew [(1, fun w' => w'.cell? ⟨g, 0, none⟩ = some (.bool na)), (3, fun w' => w'.cell? ⟨g, 1, none⟩ = some (.slice ao al ac))] := ⟨(show ICell W1.drew (g) na (.slice ao al ac) from qa).cells.1, (show ICell W1.drew (g) na (.slice ao al ac) from qa).cells.2, trivial⟩
 refine late_fr 0 (v := .pointer (some ⟨g, 0, none⟩)) rfl (Or.inl ⟨by rfl, ?_⟩) hHeld ?_
 · (intro u _; go_simp)
 try simp only [pu1, pu2, pu3, pu4]
 refine late_tk 1 (v := .bool na) rfl (List.Mem.head _) (Or.inl ⟨by rfl, ?_⟩) hHeld ?_
 · (intro u hu; (try dsimp only at hu); go_split_ands; go_simp)
 try simp only [pu1, pu2, pu3, pu4]
 refine late_fr 2 (v := .pointer (some ⟨g, 1, none⟩)) rfl (Or.inl ⟨by rfl, ?_⟩) hHeld ?_
 · (intro u _; go_simp)
 try simp only [pu1, pu2, pu3, pu4]
 refine late_tk 3 (v := .slice ao al ac) rfl (List.Mem.tail _ (List.Mem.head _)) (Or.inl ⟨by rfl, ?_⟩) hHeld ?_
 · (intro u hu; (try dsimp only at hu); go_split_ands; go_simp)
 try simp only [pu1, pu2, pu3, pu4]
 refine late_st 4 rfl (fun K hK => ?_)
 go_simp
 refine (limbs3_any _ _ _ (ua.below (Nat.le_refl _) (below_drew' _)) la).mono ?_
 rintro e w2 ⟨u, rfl, hu, b2⟩
 obtain ⟨uo, ul, uc, rfl⟩ := hu.own.sl
 have B2 : Below W1.heap.size W1 w2 := bstep (below_drew' _) b2
 replace hHeld := AllL.mv (w' := w2) hHeld ⟨(qa.below B2).cells.1, (qa.below B2).cells.2, trivial⟩
 go_wp2_with fail
 refine hK.out _ _ (AllL.kept hHeld) ?_
 clear hK K
 try simp only [pu1, pu2, pu3, pu4]
 refine late_st 5 rfl (fun K hK => ?_)
 go_simp
 refine hK.out _ _ ⟨kpt 5, kpt 4, trivial⟩ ?_
 clear hK K
 try simp only [pu1, pu2, pu3, pu4]
 have qq := qR.below B2
 have HE : Hid (RoomL w.heap.size ((w2.setCell ⟨g + 1, 0, none⟩ (.bool na)).setCell ⟨g + 1, 1, none⟩ (.slice uo ul uc)) (.slice uo ul uc) xa ∧ Below w.heap.size w ((w2.setCell ⟨g + 1, 0, none⟩ (.bool na)).setCell ⟨g + 1, 1, none⟩ (.slice uo ul uc))) := ⟨(hu.set2 (show g + 1 < W1.drew.heap.size from hsz) _ _).mono (Nat.le_trans hb.size (below_drew' _).size), iend2 (bstep hb B2) (by rw [HG.out]; omega)⟩
 have HW : Hid (ICell ((w2.setCell ⟨g + 1, 0, none⟩ (.bool na)).setCell ⟨g + 1, 1, none⟩ (.slice uo ul uc)) (g + 1) na (.slice uo ul uc)) := qq.write _ _
 obtain ⟨y0, y1⟩ := qq.cells
 have f0 := qq.thaw 0
 have f1 := qq.thaw 1
 clear qq hu
 refine late_st 6 rfl (fun K hK => ?_)
 go_simp
 refine hK.out _ _ ⟨kpt 5, kpt 4, trivial⟩ ?_
 clear hK K
 try simp only [pu1, pu2, pu3, pu4]
 refine late_done (by kernel_rfl) ?_ _
 clear hHeld
 clear hb hsz qa qR ua b2 B2
 go_wp2_with fail
 (try simp only [Exit.inBlock, Exit.then])
 exact bodyPost_ret (results_cell_row rfl _ _ (g + 1) 25 _ (0, 0) _ rfl HW.out Tryz.underlying25 rfl (by kernel_rfl)) rfl ⟨_, rfl, HE.out⟩
theorem keptInt3 (B : Nat) (na : Bool) (ao bo : Option Addr) (al ac bl bc : Nat) (xb : List Nat) (w : World) (ra : RoomL B w (.slice ao al ac) xb) (ub : Num w (.slice bo bl bc) xb) (lb : xb.length ≤ 1099511627776) :
  Calls Tryz.prog 35 #[.agg #[.bool na, .slice ao al ac], .agg #[.bool na, .slice bo bl bc]] w fun e w' => e = .returned (.bool true) ∧ Below w.heap.size w w' := by
 obtain ⟨W1, hW1⟩ : ∃ W1, W1 = (w.alloc (.cells #[.bool na, .slice ao al ac] 25)).alloc (.cells #[.bool na, .slice bo bl bc] 25) := ⟨_, rfl⟩
 have qa : ICell W1 (w.heap.size) na (.slice ao al ac) := by rw [hW1]; exact (icell_step (icell_new _ (by simp)))
 have qb : ICell W1 (w.heap.size + 1) na (.slice bo bl bc) := by rw [hW1]; exact (icell_new _ (by simp))
 have hb : Below w.heap.size w W1 := by rw [hW1]; exact bstep (belowA w _) (belowA _ _)
 have hsz : w.heap.size + 1 < W1.heap.size := by rw [hW1]; simp
 replace ra := ra.below hb
 replace ub := ub.below (Nat.le_refl _) hb
 have HW1 : Hid (W1 = (w.alloc (.cells #[.bool na, .slice ao al ac] 25)).alloc (.cells #[.bool na, .slice bo bl bc] 25)) := hW1
 clear hW1
 go_enter Tryz.func35, Tryz.ntmps35
 go_wp2_with fail
 rw [← HW1.out]
 clear HW1
 obtain ⟨g, hg⟩ : ∃ g, g = w.heap.size := ⟨_, rfl⟩
 rw [← hg] at qa qb hsz ⊢
 have HG : Hid (g = w.heap.size) := hg
 clear hg
 obtain ⟨cqa0, cqa1⟩ := qa.cells
 obtain ⟨cqb0, cqb1⟩ := qb.cells
 have hself : (na == na) = true := by simp
 go_wp2_with fail
 clear cqa0 cqa1 cqb0 cqb1
 refine (stands_yes _ _ _ _ _ ra ub lb).mono ?_
 rintro e w2 ⟨rfl, q, hq⟩
 have HE : Hid (Below w.heap.size w w2) := by rw [hq]; exact bstep hb (below_drewN (Below.refl _ _) q)
 clear hq hb hsz qa qb ra ub
 go_wp2
 go_ret
 exact ⟨rfl, HE.out⟩
end Go.Proofs.YtfnafgjnimfmjaaGreatDoor
