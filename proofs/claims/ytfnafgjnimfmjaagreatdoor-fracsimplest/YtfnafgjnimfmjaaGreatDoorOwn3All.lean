/-
  Proved here: what the document's lowest of layer 3 answers.
  Proved here: credenceref03's Own, of numbers each in a row of its own: it answers true.
-/
import Derived.Test.YtfnafgjnimfmjaaGreatDoorRefGcd
import Derived.Test.YtfnafgjnimfmjaaGreatDoorValAtAll
import Derived.Test.YtfnafgjnimfmjaaGreatDoorR2B
import Derived.Test.YtfnafgjnimfmjaaGreatDoorFracC
import Derived.Test.YtfnafgjnimfmjaaGreatDoorMulMathAll
import Derived.Test.YtfnafgjnimfmjaaGreatDoorSubAll
import Derived.WalkSmall
namespace Go.Proofs.YtfnafgjnimfmjaaGreatDoor
open Go.RowKit

theorem low_ref3 {na : Bool} {A D : Nat} (hD : D ≠ 0) : (Rat.divInt (zv na A) (D : Int)).num = zv na (A / Nat.gcd A D) ∧ (Rat.divInt (zv na A) (D : Int)).den = D / Nat.gcd A D := by
  have hq : (D : Int) ≠ 0 := by omega
  have h1 := low_num (p := zv na A) hq
  have h2 := low_den (p := zv na A) hq
  rw [zv_abs, Int.natAbs_natCast, decide_eq_false (by omega)] at h1 h2
  have e : zv false (Nat.gcd A D) = ((Nat.gcd A D : Nat) : Int) := rfl
  rw [e] at h1 h2
  refine ⟨?_, ?_⟩
  · rw [← h1]
    cases na
    · show (A : Int).tdiv _ = ((A / Nat.gcd A D : Nat) : Int)
      exact (Int.ofNat_tdiv A _).symm
    · show (-(A : Int)).tdiv _ = -((A / Nat.gcd A D : Nat) : Int)
      rw [Int.neg_tdiv, ← Int.ofNat_tdiv]
  · have h3 : ((D / Nat.gcd A D : Nat) : Int) = ((Rat.divInt (zv na A) (D : Int)).den : Int) := by rw [← h2, Int.ofNat_tdiv]
    omega
theorem lim_len_mono3 {a b k : Nat} (h : a ≤ b) (hk : (lim b).length ≤ k) : (lim a).length ≤ k := lim_len_le (Nat.lt_of_le_of_lt h (lim_lt_of_len hk))

set_option maxRecDepth 100000 in
set_option maxHeartbeats 6400000 in
theorem lowest3 (na : Bool) (ao dO : Option Addr) (al ac dl dc : Nat) (xa yd : List Nat) (w : World) (ua : Num w (.slice ao al ac) xa) (ud : Num w (.slice dO dl dc) yd) (la : xa.length ≤ 3000) (ld : yd.length ≤ 3000) (hd0 : val yd ≠ 0) :
    Calls Tryz.prog 63 #[.agg #[.bool na, .slice ao al ac], .slice dO dl dc] w fun e w' => REnd w (Rat.divInt (zv na (val xa)) (val yd : Int)) e w' := by
  obtain ⟨A, hA⟩ : ∃ A, A = val xa := ⟨_, rfl⟩
  obtain ⟨Z, hZ⟩ : ∃ D, D = val yd := ⟨_, rfl⟩
  have HA : Hid (val xa = A) := hA.symm
  have HD : Hid (val yd = Z) := hZ.symm
  rw [← hA, ← hZ]
  rw [← hZ] at hd0
  have HD0 : Hid (Z ≠ 0) := hd0
  have HLA : Hid (xa.length ≤ 3000) := la
  have HLD : Hid (yd.length ≤ 3000) := ld
  obtain ⟨r, hr⟩ : ∃ r, r = Rat.divInt (zv na A) (Z : Int) := ⟨_, rfl⟩
  have HRN : Hid (zv na (A / Nat.gcd A Z) = r.num) := by show _ = _; rw [hr, (low_ref3 hd0).1]
  have HRD : Hid (Z / Nat.gcd A Z = r.den) := by show _ = _; rw [hr, (low_ref3 hd0).2]
  rw [← hr]
  clear hr hA hZ hd0 la ld
  obtain ⟨W1, hW1⟩ : ∃ W1, W1 = (w.alloc (.cells #[.bool na, .slice ao al ac] 25)).alloc (.cells #[.bool false, .slice none 0 0, .slice none 0 0] 27) := ⟨_, rfl⟩
  have qa : ICell W1 (w.heap.size) na (.slice ao al ac) := by rw [hW1]; exact (icell_step (icell_new _ (by simp)))
  have qR : QCell W1 (w.heap.size + 1) false (.slice none 0 0) (.slice none 0 0) := by rw [hW1]; exact (qcell_new _ (by simp))
  have hb : Below w.heap.size w W1 := by rw [hW1]; exact bstep (belowA w _) (belowA _ _)
  have hsz : w.heap.size + 1 < W1.heap.size := by rw [hW1]; simp
  replace ua := ua.below (Nat.le_refl _) hb
  replace ud := ud.below (Nat.le_refl _) hb
  have HW1 : Hid (W1 = (w.alloc (.cells #[.bool na, .slice ao al ac] 25)).alloc (.cells #[.bool false, .slice none 0 0, .slice none 0 0] 27)) := hW1
  clear hW1
  go_enter Tryz.func63, Tryz.ntmps63
  go_wp2_with fail
  rw [← HW1.out]
  clear HW1
  obtain ⟨g, hg⟩ : ∃ g, g = w.heap.size := ⟨_, rfl⟩
  rw [← hg] at qa qR hsz ⊢
  have HG : Hid (g = w.heap.size) := hg
  clear hg
  obtain ⟨B0, hB0⟩ : ∃ B, B = W1.heap.size := ⟨_, rfl⟩
  have HB0 : Hid (g + 1 < B0) := by show _ < _; rw [hB0]; exact hsz
  replace hB0 := Nat.le_of_eq hB0
  have hq := gcd_ref _ _ _ _ _ ua ud (Nat.le_trans HLA.out (by decide)) (Nat.le_trans HLD.out (by decide))
  rw [HA.out, HD.out] at hq
  refine (hq).mono ?_
  rintro e w2 ⟨v, rfl, ho, b⟩
  clear hq
  obtain ⟨go, gl, gc, rfl⟩ := ho.sl
  have ug := ho.num
  clear ho
  replace ua := ua.below (Nat.le_refl _) b
  replace ud := ud.below (Nat.le_refl _) b
  replace hB0 := Nat.le_trans hB0 b.size
  replace qa := qa.below b
  replace qR := qR.below b
  replace hb := bstep hb b
  replace hsz := Nat.lt_of_lt_of_le hsz b.size
  clear b
  obtain ⟨cqa0, cqa1⟩ := qa.cells
  obtain ⟨cqR0, cqR1, cqR2⟩ := qR.cells
  go_wp2_with fail
  clear cqa0 cqa1 cqR0 cqR1 cqR2
  obtain ⟨G, hG⟩ : ∃ G, G = Nat.gcd A Z := ⟨_, rfl⟩
  rw [← hG] at ug
  have HGc : Hid (G = Nat.gcd A Z) := hG
  have HLG : Hid ((lim G).length ≤ 3000) := by show _ ≤ _; exact lim_len_mono3 (by rw [hG]; exact Nat.gcd_le_right _ (Nat.pos_of_ne_zero HD0.out)) (by rw [← HD.out]; exact Nat.le_trans (lim_len_le (val_lt ud.1)) HLD.out)
  clear hG
  have hq := divMod_ref _ _ _ _ _ ua ug (Nat.le_trans HLA.out (by decide)) (Nat.le_trans HLG.out (by decide))
  rw [HA.out, val_lim] at hq
  refine (hq).mono ?_
  rintro e w3 ⟨p, q, rfl, ho, ho2, b⟩
  clear hq
  obtain ⟨po, pl, pc, rfl⟩ := ho.sl
  obtain ⟨qo, ql, qc, rfl⟩ := ho2.sl
  have up := ho.num
  clear ho ho2
  replace ua := ua.below (Nat.le_refl _) b
  replace ud := ud.below (Nat.le_refl _) b
  replace hB0 := Nat.le_trans hB0 b.size
  replace ug := ug.below (Nat.le_refl _) b
  replace qa := qa.below b
  replace qR := qR.below b
  replace hb := bstep hb b
  replace hsz := Nat.lt_of_lt_of_le hsz b.size
  clear b
  obtain ⟨cqa0, cqa1⟩ := qa.cells
  obtain ⟨cqR0, cqR1, cqR2⟩ := qR.cells
  go_wp2_with fail
  clear cqa0 cqa1 cqR0 cqR1 cqR2
  have hq := divMod_ref _ _ _ _ _ ud ug (Nat.le_trans HLD.out (by decide)) (Nat.le_trans HLG.out (by decide))
  rw [HD.out, val_lim] at hq
  refine (hq).mono ?_
  rintro e w4 ⟨p, q, rfl, hd, ho2, b⟩
  clear hq
  obtain ⟨mO, mL, mC, rfl⟩ := hd.sl
  obtain ⟨so, sl, sc, rfl⟩ := ho2.sl
  replace hd := hd.mono hB0
  clear ho2
  replace ua := ua.below (Nat.le_refl _) b
  replace ud := ud.below (Nat.le_refl _) b
  replace hB0 := Nat.le_trans hB0 b.size
  replace ug := ug.below (Nat.le_refl _) b
  replace up := up.below (Nat.le_refl _) b
  replace qa := qa.below b
  replace qR := qR.below b
  replace hb := bstep hb b
  replace hsz := Nat.lt_of_lt_of_le hsz b.size
  clear b
  obtain ⟨cqa0, cqa1⟩ := qa.cells
  obtain ⟨cqR0, cqR1, cqR2⟩ := qR.cells
  go_wp2_with fail
  clear cqa0 cqa1 cqR0 cqR1 cqR2
  have hla : (lim (A / G)).length ≤ 3000 := lim_len_mono3 (Nat.div_le_self A G) (k := 3000) (by rw [← HA.out]; exact Nat.le_trans (lim_len_le (val_lt ua.1)) HLA.out)
  have hld : (lim (Z / G)).length ≤ 3000 := lim_len_mono3 (Nat.div_le_self Z G) (k := 3000) (by rw [← HD.out]; exact Nat.le_trans (lim_len_le (val_lt ud.1)) HLD.out)
  have hi : INum w4 (.agg #[.bool na, .slice po pl pc]) r.num := ⟨_, _, _, _, _, rfl, up, by omega, by rw [val_lim, HGc.out]; exact HRN.out⟩
  have hq := r_norm hi
  have un := hd.num
  clear hi hd
  refine (hq).mono ?_
  rintro e w5 ⟨v, rfl, ⟨m, rfl, hm⟩, b⟩
  clear hq
  obtain ⟨mo, ml, mc, rfl⟩ := hm.sl
  replace hm := hm.mono hB0
  replace un := un.below (Nat.le_refl _) b
  replace hB0 := Nat.le_trans hB0 b.size
  replace qa := qa.below b
  replace qR := qR.below b
  replace hb := bstep hb b
  replace hsz := Nat.lt_of_lt_of_le hsz b.size
  clear b ua ud ug up
  obtain ⟨cqa0, cqa1⟩ := qa.cells
  obtain ⟨cqR0, cqR1, cqR2⟩ := qR.cells
  generalize hbb : decide (r.num < 0) = bb at *
  go_wp2_with fail
  clear cqa0 cqa1 cqR0 cqR1 cqR2
  have hq := norm_ref _ _ _ un (by omega)
  rw [val_lim] at hq
  refine (hq).mono ?_
  rintro e w6 ⟨u, rfl, hd, b⟩
  clear hq un
  obtain ⟨nO, nL, nC, rfl⟩ := hd.sl
  have hap := apart_later hm hd (Nat.le_refl _)
  replace hd := hd.mono hB0
  replace hm := hm.below b
  replace qR := qR.below b
  replace hb := bstep hb b
  clear b
  rw [HGc.out, HRD.out] at hd
  have HE : Hid (REnd w r (.returned (.agg #[.bool bb, .slice mo ml mc, .slice nO nL nC])) (((w6.setCell ⟨g + 1, 0, none⟩ (.bool bb)).setCell ⟨g + 1, 1, none⟩ (.slice mo ml mc)).setCell ⟨g + 1, 2, none⟩ (.slice nO nL nC))) := rat_done hbb.symm (by rw [HG.out]; omega) hm hd hap HB0.out hb
  have HW : Hid (QCell (((w6.setCell ⟨g + 1, 0, none⟩ (.bool bb)).setCell ⟨g + 1, 1, none⟩ (.slice mo ml mc)).setCell ⟨g + 1, 2, none⟩ (.slice nO nL nC)) (g + 1) bb (.slice mo ml mc) (.slice nO nL nC)) := qR.write _ _ _
  obtain ⟨y0, y1, y2⟩ := qR.cells
  have f0 := qR.thaw 0
  have f1 := qR.thaw 1
  have f2 := qR.thaw 2
  clear hb hsz hm hap qa qR hB0 hd hla hld hbb
  go_wp2_with fail
  (try simp only [Exit.inBlock, Exit.then])
  exact bodyPost_ret (results_cell_row rfl _ _ (g + 1) 27 _ (0, 0) _ rfl HW.out Tryz.underlying27 rfl (by kernel_rfl)) rfl HE.out
end Go.Proofs.YtfnafgjnimfmjaaGreatDoor

namespace Go.Proofs.YtfnafgjnimfmjaaGreatDoor
open Go.RowKit

theorem Tryz.infoN3 : (Tryz.prog.info? 23).map (fun i => (i.zero, i.size, i.bytes)) = some (some (.slice none 0 0), 1, 24) := by kernel_rfl
theorem Tryz.infoU3 : (Tryz.prog.info? 37).map (fun i => (i.zero, i.size, i.bytes)) = some (some (.int .u32 0), 1, 4) := by kernel_rfl
theorem rowO_other {w : World} {B g k e e' n : Nat} {v : Value} {xs : List Value} {cur : Array Value} {u : Value} (h : w.ownsRow B e 1 v n xs) (h' : w.heap[g]? = some (.cells cur e' (0, 0))) (hne : e ≠ e') : (w.setCell ⟨g, k, none⟩ u).ownsRow B e 1 v n xs := by
  obtain ⟨h1, h2⟩ := h
  refine ⟨h1, ?_⟩
  rcases h2 with h2 | ⟨g', cap, cur', rfl, h3, h4, h5⟩
  · exact Or.inl h2
  · refine Or.inr ⟨g', cap, cur', rfl, h3, ?_, h5⟩
    rw [heap_setCell_other]
    · exact h4
    · intro he
      simp only at he
      subst he
      rw [h4] at h'
      simp only [Option.some.injEq, Obj.cells.injEq, and_true] at h'
      exact hne h'.2

/-- Where the marks are written: i numbers are full of them, and the first k limbs of the next one. -/
def SO3 (B gb m cg : Nat) (gs : List Value) (len : Nat → Nat) (w : World) (i k : Nat) (wr : World) : Prop :=
  ∃ ys, Fam B wr gs ys ∧ (∀ j, j < gs.length → (ys j).length = len j) ∧ (∀ j, j < i → ys j = List.replicate (len j) (100000 + j)) ∧ (∀ q, q < k → (ys i).getD q 0 = 100000 + i) ∧
    wr.ownsRow B 23 1 (.slice (some ⟨gb, 0, none⟩) m cg) m gs ∧ Bex gs w wr


theorem SO3.value {B gb m cg i k : Nat} {gs : List Value} {len : Nat → Nat} {w wr : World} (h : SO3 B gb m cg gs len w i k wr) (hi : i < gs.length) : ∃ ao cap, at_ gs i = .slice ao (len i) cap ∧ (0 < len i → ∃ g, ao = some ⟨g, 0, none⟩) ∧ len i ≤ cap ∧ cap ≤ 9223372036854775807 := by
  obtain ⟨ys, hf, hl, _⟩ := h
  rw [← hl i hi]
  exact (hf i hi).ao


theorem SO3.got {B gb m cg i k : Nat} {gs : List Value} {len : Nat → Nat} {w wr : World} (h : SO3 B gb m cg gs len w i k wr) (hi : i < gs.length) : wr.cell? ⟨gb, i, none⟩ = some (at_ gs i) := by
  obtain ⟨ys, _, _, _, _, h, _⟩ := h
  have h1 := h.1
  rw [World.ownsRow.cellAt h i (by omega), List.getElem?_eq_getElem (by omega)]
  simp [at_, hi]

theorem SO3.cell {B gb m cg i k g cap : Nat} {gs : List Value} {len : Nat → Nat} {w wr : World} (h : SO3 B gb m cg gs len w i k wr) (hi : i < gs.length) (hv : at_ gs i = .slice (some ⟨g, 0, none⟩) (len i) cap) (hk : k < len i) :
    (∃ x : Nat, wr.cell? ⟨g, k, none⟩ = some (.int .u32 (x : Int))) ∧ wr.frozen? ⟨g, k, none⟩ = false := by
  obtain ⟨ys, hf, hl, _⟩ := h
  have := hf i hi
  rw [hv] at this
  have := this.cell (k := k) (by rw [hl i hi]; exact hk)
  exact ⟨⟨_, this.1⟩, this.2⟩


theorem SO3.step {B gb m cg i k g cap : Nat} {gs : List Value} {len : Nat → Nat} {w wr : World} (h : SO3 B gb m cg gs len w i k wr) (hd : Dist gs) (hi : i < gs.length) (hv : at_ gs i = .slice (some ⟨g, 0, none⟩) (len i) cap) (hk : k < len i) (hm : i < 1000) :
    SO3 B gb m cg gs len w i (k + 1) (wr.setCell ⟨g, k, none⟩ (.int .u32 (100000 + (i : Int)))) := by
  obtain ⟨ys, hf, hl, h1, h2, h3, h4⟩ := h
  have hU : (.int .u32 (100000 + (i : Int)) : Value) = U (100000 + i) := by simp [U]
  rw [hU]
  have ho := hf i hi
  rw [hv] at ho
  obtain ⟨_, _, cur, hh, _⟩ := ho.heap
  refine ⟨upd ys i ((ys i).set k (100000 + i)), hf.set hd hi hv (hl i hi) k (100000 + i) (by omega), ?_, ?_, ?_, rowO_other h3 hh (by decide), h4.setCell (Or.inl ⟨i, hi, by rw [hv]; rfl⟩) _⟩
  · intro j hj
    unfold upd
    by_cases hji : j = i
    · subst hji; rw [if_pos rfl, List.length_set]; exact hl j hj
    · rw [if_neg hji]; exact hl j hj
  · intro j hj
    unfold upd
    rw [if_neg (by omega)]
    exact h1 j hj
  · intro q hq
    unfold upd
    rw [if_pos rfl]
    by_cases hqk : q = k
    · subst hqk; exact getD_set_self _ _ _ (by rw [hl i hi]; exact hk)
    · rw [getD_set_ne _ _ _ _ hqk]; exact h2 q (by omega)

theorem SO3.done {B gb m cg i : Nat} {gs : List Value} {len : Nat → Nat} {w wr : World} (h : SO3 B gb m cg gs len w i (len i) wr) (hi : i < gs.length) : SO3 B gb m cg gs len w (i + 1) 0 wr := by
  obtain ⟨ys, hf, hl, h1, h2, h3, h4⟩ := h
  refine ⟨ys, hf, hl, fun j hj => ?_, fun q hq => by omega, h3, h4⟩
  by_cases hji : j = i
  · subst hji; exact eq_replicate (hl j hi) h2
  · exact h1 j (by omega)
def mkO (len : Nat → Nat) (j : Nat) : List Nat := List.replicate (len j) (100000 + j)
def tlO (len : Nat → Nat) (j k : Nat) : List Nat := mkO len j ++ List.replicate k (500000 + j)
theorem mkO_len (len : Nat → Nat) (j : Nat) : (mkO len j).length = len j := by simp [mkO]
theorem tlO_len (len : Nat → Nat) (j k : Nat) : (tlO len j k).length = len j + k := by simp [tlO, mkO]
theorem tlO_zero (len : Nat → Nat) (j : Nat) : tlO len j 0 = mkO len j := by simp [tlO]
theorem tlO_succ (len : Nat → Nat) (j k : Nat) : tlO len j (k + 1) = tlO len j k ++ [500000 + j] := by
  simp only [tlO, List.append_assoc, List.replicate_succ']
theorem tlO_lo (len : Nat → Nat) (j k q : Nat) (h : q < len j) : (tlO len j k).getD q 0 = 100000 + j := by
  rw [List.getD_eq_getElem?_getD, tlO, List.getElem?_append_left (by rw [mkO_len]; exact h), mkO, List.getElem?_replicate, if_pos h]; rfl
theorem tlO_hi (len : Nat → Nat) (j k q : Nat) (h : len j ≤ q) (h2 : q < len j + k) : (tlO len j k).getD q 0 = 500000 + j := by
  rw [List.getD_eq_getElem?_getD, tlO, List.getElem?_append_right (by rw [mkO_len]; exact h), mkO_len, List.getElem?_replicate, if_pos (by omega)]; rfl
theorem mkO_at (len : Nat → Nat) (j q : Nat) (h : q < len j) : (mkO len j).getD q 0 = 100000 + j := by rw [← tlO_zero]; exact tlO_lo len j 0 q h

structure CO3 (B gb m cg : Nat) (gs : List Value) (len : Nat → Nat) (w : World) (i : Nat) (ls : List Value) (long : Value) (wr : World) : Prop where
  fam : Fam B wr gs (mkO len)
  got : wr.ownsRow B 23 1 (.slice (some ⟨gb, 0, none⟩) m cg) m gs
  bel : Bex gs w wr
  ll : ls.length = i
  lo : wr.ownsRow B 23 1 long i ls
  lso : ∀ j, j < i → Own B 37 wr (at_ ls j) (tlO len j 8)
  lsd : ∀ j, j < i → ∀ j', j' < gs.length → j' ≠ j → (at_ ls j).ownBlock = none ∨ (at_ ls j).ownBlock ≠ (at_ gs j').ownBlock
  lg : long.ownBlock ≠ some gb
  ln : ∀ k, long.ownBlock = some k → w.heap.size ≤ k

theorem CO3.keep {B gb m cg : Nat} {gs : List Value} {len : Nat → Nat} {w : World} {i : Nat} {ls : List Value} {long : Value} {wr w' : World} (h : CO3 B gb m cg gs len w i ls long wr) {v : Value} {n : Nat} (hk : Keeps wr w' v n) (hb : Bex gs w w')
    (h1 : ∀ j, j < gs.length → (at_ gs j).ownBlock = v.ownBlock → len j ≤ n) (h2 : some gb ≠ v.ownBlock) (h3 : long.ownBlock = v.ownBlock → i ≤ n) (h4 : ∀ j, j < i → (at_ ls j).ownBlock = v.ownBlock → len j + 8 ≤ n) :
    CO3 B gb m cg gs len w i ls long w' := by
  refine ⟨fun j hj => ⟨(h.fam j hj).1, hk _ _ _ _ _ (h.fam j hj).2 (by rw [mkO_len]; exact h1 j hj)⟩, hk _ _ _ _ _ h.got (fun e => absurd e h2), hb, h.ll, hk _ _ _ _ _ h.lo h3, fun j hj => ⟨(h.lso j hj).1, hk _ _ _ _ _ (h.lso j hj).2 (by rw [tlO_len]; exact h4 j hj)⟩, h.lsd, h.lg, h.ln⟩

theorem CO3.alloc {B gb m cg : Nat} {gs : List Value} {len : Nat → Nat} {w : World} {i : Nat} {ls : List Value} {long : Value} {wr : World} (h : CO3 B gb m cg gs len w i ls long wr) (o : Obj) :
    CO3 B gb m cg gs len w i ls long (wr.alloc o) :=
  ⟨fun j hj => ⟨(h.fam j hj).1, (h.fam j hj).2.alloc o⟩, h.got.alloc o, h.bel.alloc o, h.ll, h.lo.alloc o, fun j hj => ⟨(h.lso j hj).1, (h.lso j hj).2.alloc o⟩, h.lsd, h.lg, h.ln⟩

/-- The number that is gone on with. -/
structure VO3 (B : Nat) (gs : List Value) (len : Nat → Nat) (w : World) (i k : Nat) (ls : List Value) (v : Value) (wr : World) : Prop where
  vo : Own B 37 wr v (tlO len i k)
  vg : ∀ j, j < gs.length → j ≠ i → v.ownBlock = none ∨ v.ownBlock ≠ (at_ gs j).ownBlock
  vl : ∀ j, j < i → v.ownBlock = none ∨ v.ownBlock ≠ (at_ ls j).ownBlock
  vm : ∀ k, v.ownBlock = some k → May gs w k

theorem push_stepO {B gb m cg : Nat} {gs : List Value} {len : Nat → Nat} {w : World} {i k : Nat} {ls : List Value} {long v v' : Value} {wr w' : World} {o : Obj} (h : CO3 B gb m cg gs len w i ls long wr) (hv : VO3 B gs len w i k ls v wr) (hB : B ≤ wr.heap.size) (hi : i < 1000)
    (ho : w'.ownsRow B 37 1 v' (len i + k + 1) ((tlO len i k).map U ++ [.int .u32 (500000 + (i : Int))])) (hg : (wr.alloc o).grownBy w' v.ownBlock) (hk : Keeps (wr.alloc o) w' v (len i + k))
    (hb : v'.ownBlock = v.ownBlock ∨ ∀ g, v'.ownBlock = some g → wr.heap.size + 1 ≤ g) :
    CO3 B gb m cg gs len w i ls long w' ∧ VO3 B gs len w i (k + 1) ls v' w' ∧ B ≤ w'.heap.size := by
  have hsz : (wr.alloc o).heap.size = wr.heap.size + 1 := by simp
  have hB1 : B ≤ (wr.alloc o).heap.size := by omega
  have h1 := h.alloc o
  have hvo1 : Own B 37 (wr.alloc o) v (tlO len i k) := ⟨hv.vo.1, hv.vo.2.alloc o⟩
  have hbel : Bex gs w w' := h1.bel.grown hg hv.vm
  refine ⟨h1.keep hk hbel ?_ ?_ ?_ ?_, ⟨⟨?_, ?_⟩, ?_, ?_, ?_⟩, Nat.le_trans hB1 hg.size⟩
  · intro j hj he
    by_cases hji : j = i
    · subst hji; omega
    · have := short_of (n := len i + k) (h1.fam j hj).2 (hv.vg j hj hji) he
      rw [mkO_len] at this; exact this
  · have := own_types h1.got hvo1.2 (by decide)
    simp only [Value.ownBlock] at this
    rcases this with h | h
    · simp at h
    · exact h
  · intro he
    rcases own_types h1.lo hvo1.2 (by decide) with h | h
    · have := own_none h1.lo h; omega
    · exact absurd he h
  · intro j hj he
    have := short_of (n := len i + k) (h1.lso j hj).2 (hv.vl j hj) he
    rw [tlO_len] at this; exact this
  · rw [tlO_succ]
    intro x hx
    rcases List.mem_append.1 hx with hx | hx
    · exact hv.vo.1 x hx
    · simp at hx; omega
  · rw [tlO_len, tlO_succ, List.map_append]
    have hU : [(.int .u32 (500000 + (i : Int)) : Value)] = List.map U [500000 + i] := by simp [U]
    rw [← hU]
    exact ho
  · intro j hj hji
    rcases hb with hb | hb
    · rw [hb]; exact hv.vg j hj hji
    · rcases hg' : v'.ownBlock with _ | g
      · exact Or.inl rfl
      · right
        have h5 := hb g hg'
        rcases hj' : (at_ gs j).ownBlock with _ | g2
        · simp
        · have := ((h1.fam j hj).block g2 hj').2
          simp only [ne_eq, Option.some.injEq]; omega
  · intro j hj
    rcases hb with hb | hb
    · rw [hb]; exact hv.vl j hj
    · rcases hg' : v'.ownBlock with _ | g
      · exact Or.inl rfl
      · right
        have h5 := hb g hg'
        rcases hj' : (at_ ls j).ownBlock with _ | g2
        · simp
        · have := ((h1.lso j hj).block g2 hj').2
          simp only [ne_eq, Option.some.injEq]; omega
  · intro g hg'
    rcases hb with hb | hb
    · exact hv.vm g (by rw [← hb]; exact hg')
    · have h5 := hb g hg'
      have h6 := h.bel.size
      exact Or.inr (by omega)

theorem long_stepO {B gb m cg : Nat} {gs : List Value} {len : Nat → Nat} {w : World} {i : Nat} {ls : List Value} {long v long' : Value} {wr w' : World} {o : Obj} (h : CO3 B gb m cg gs len w i ls long wr) (hv : VO3 B gs len w i 8 ls v wr) (hB : B ≤ wr.heap.size)
    (ho : w'.ownsRow B 23 1 long' (i + 1) (ls ++ [v])) (hg : (wr.alloc o).grownBy w' long.ownBlock) (hk : Keeps (wr.alloc o) w' long i)
    (hb : long'.ownBlock = long.ownBlock ∨ ∀ g, long'.ownBlock = some g → wr.heap.size + 1 ≤ g) :
    CO3 B gb m cg gs len w (i + 1) (ls ++ [v]) long' w' ∧ B ≤ w'.heap.size := by
  have hsz : (wr.alloc o).heap.size = wr.heap.size + 1 := by simp
  have hB1 : B ≤ (wr.alloc o).heap.size := by omega
  have h1 := h.alloc o
  have hvo1 : Own B 37 (wr.alloc o) v (tlO len i 8) := ⟨hv.vo.1, hv.vo.2.alloc o⟩
  have hbel : Bex gs w w' := h1.bel.grown hg (fun g e => Or.inr (h.ln g e))
  have typ : ∀ u xs, Own B 37 (wr.alloc o) u xs → Own B 37 w' u xs := fun u xs hu => ⟨hu.1, hk _ _ _ _ _ hu.2 (fun he => by
    rcases own_types hu.2 h1.lo (by decide) with h | h
    · have := own_none hu.2 h; omega
    · exact absurd he h)⟩
  refine ⟨⟨fun j hj => typ _ _ (h1.fam j hj), hk _ _ _ _ _ h1.got (fun e => absurd e.symm (by simpa [Value.ownBlock] using h1.lg)), hbel, by rw [List.length_append, h.ll]; rfl, ho, ?_, ?_, ?_, ?_⟩, Nat.le_trans hB1 hg.size⟩
  · intro j hj
    by_cases hji : j = i
    · subst hji; rw [at_snoc_eq h.ll]; exact typ _ _ hvo1
    · rw [at_snoc_lt h.ll (by omega)]; exact typ _ _ (h1.lso j (by omega))
  · intro j hj j' hj' hne
    by_cases hji : j = i
    · subst hji; rw [at_snoc_eq h.ll]; exact hv.vg j' hj' hne
    · rw [at_snoc_lt h.ll (by omega)]; exact h.lsd j (by omega) j' hj' hne
  · rcases hb with hb | hb
    · rw [hb]; exact h.lg
    · intro e
      have h5 := hb gb e
      have := World.ownsRow.lt h1.got gb rfl
      omega
  · intro g e
    rcases hb with hb | hb
    · exact h.ln g (by rw [← hb]; exact e)
    · have h5 := hb g e
      have h6 := h.bel.size
      omega

theorem vst_startO {B gb m cg : Nat} {gs : List Value} {len : Nat → Nat} {w : World} {i : Nat} {ls : List Value} {long : Value} {wr : World} (h : CO3 B gb m cg gs len w i ls long wr) (hd : Dist gs) (hi : i < gs.length) : VO3 B gs len w i 0 ls (at_ gs i) wr :=
  ⟨by rw [tlO_zero]; exact h.fam i hi, fun j hj hne => hd i j hi hj (fun e => hne e.symm), fun j hj => apart_symm (h.lsd j hj i hi (by omega)), fun k hk => Or.inl ⟨i, hi, hk⟩⟩

theorem cst_startO {B gb m cg : Nat} {gs : List Value} {len : Nat → Nat} {w wr : World} (hs : SO3 B gb m cg gs len w m 0 wr) (hm : gs.length = m) : CO3 B gb m cg gs len w 0 [] (.slice none 0 0) wr := by
  obtain ⟨ys, hf, hl, h1, h2, h3, h4⟩ := hs
  refine ⟨fun j hj => ?_, h3, h4, rfl, World.ownsRow_nil _ _ _ _, fun j hj => by omega, fun j hj => by omega, by simp [Value.ownBlock], fun k hk => by simp [Value.ownBlock] at hk⟩
  have := hf j hj
  rw [h1 j (by omega)] at this
  exact this

theorem CO3.gotCell {B gb m cg : Nat} {gs : List Value} {len : Nat → Nat} {w : World} {i : Nat} {ls : List Value} {long : Value} {wr : World} (h : CO3 B gb m cg gs len w i ls long wr) (hm : gs.length = m) {j : Nat} (hj : j < m) : wr.cell? ⟨gb, j, none⟩ = some (at_ gs j) := by
  rw [World.ownsRow.cellAt h.got j (by simpa using hj)]
  rw [List.getElem?_eq_getElem (by omega)]
  simp [at_, hm, hj]
theorem CO3.longShape {B gb m cg : Nat} {gs : List Value} {len : Nat → Nat} {w : World} {i : Nat} {ls : List Value} {long : Value} {wr : World} (h : CO3 B gb m cg gs len w i ls long wr) : ∃ ao cap, long = .slice ao i cap ∧ i ≤ cap ∧ cap ≤ 9223372036854775807 ∧ (∀ j, j < i → ∃ lb, ao = some ⟨lb, 0, none⟩ ∧ wr.cell? ⟨lb, j, none⟩ = some (at_ ls j)) := by
  have hlo := h.lo
  rcases h.lo.2 with ⟨rfl, h0⟩ | ⟨g, cap, cur, rfl, h3, h4, h5, h6, h7, h8⟩
  · exact ⟨none, 0, by rw [h0], by omega, by omega, fun j hj => by omega⟩
  · refine ⟨_, cap, rfl, h5, h6, fun j hj => ⟨g, rfl, ?_⟩⟩
    rw [World.ownsRow.cellAt hlo j (by simpa using hj), List.getElem?_eq_getElem (by have := h.ll; omega)]
    simp [at_, h.ll, hj]

set_option maxRecDepth 100000 in
set_option maxHeartbeats 2000000 in
theorem own_yes (B gb cg m : Nat) (gs : List Value) (xs : Nat → List Nat) (w : World) (hB : B ≤ w.heap.size) (hm : m ≤ 1000)
    (hgot : w.ownsRow B 23 1 (.slice (some ⟨gb, 0, none⟩) m cg) m gs)
    (hfam : Fam B w gs xs) (hd : Dist gs) (hlen : ∀ j, j < m → (xs j).length ≤ 1099511627776) :
    Calls Tryz.prog 44 #[.slice (some ⟨gb, 0, none⟩) m cg] w fun e w' => e = .returned (.bool true) ∧ Bex gs w w' := by
  have HG : Hid (gs.length = m) := by have := hgot.1; show _ = _; omega
  have S0 : SO3 B gb m cg gs (fun j => (xs j).length) w 0 0 w := ⟨xs, hfam, fun _ _ => rfl, fun j hj => by omega, fun q hq => by omega, hgot, Bex.same (Below.refl _ _)⟩
  obtain ⟨len, hlenE⟩ : ∃ len : Nat → Nat, len = fun j => (xs j).length := ⟨_, rfl⟩
  rw [← hlenE] at S0
  have hlen2 : Hid (∀ j, j < m → len j ≤ 1099511627776) := by intro j hj; rw [hlenE]; exact hlen j hj
  clear hlenE hfam hgot hlen
  go_enter Tryz.func44, Tryz.ntmps44
  go_wp2
  go_loopw [3] (fun t wr => ∃ i : Nat, i ≤ m ∧ t = .int .i64 i ∧ SO3 B gb m cg gs len w i 0 wr) (fun t _ => m - (intOf t).toNat)
  case atStart => exact ⟨0, Nat.zero_le _, rfl, S0⟩
  case round =>
    clear S0
    obtain ⟨i, hi, rfl, hst⟩ := hrel
    by_cases him : i < m
    · have hig : i < gs.length := by rw [HG.out]; exact him
      obtain ⟨ao, cap, hv, hao, hnc, hcm⟩ := hst.value hig
      obtain ⟨n, hn⟩ : ∃ n, n = len i := ⟨_, rfl⟩
      rw [← hn] at hv hao hnc
      have HN : Hid (n = len i) := hn
      have HV : Hid (at_ gs i = .slice ao n cap) := hv
      have HI : Hid (i < gs.length) := hig
      clear hn hv hig
      have hlt : (i : Int) < (m : Int) := by omega
      go_wp2
      go_loopw [4] (fun t wr => ∃ k : Nat, k ≤ n ∧ t = .int .i64 k ∧ SO3 B gb m cg gs len w i k wr) (fun t _ => n - (intOf t).toNat)
      case atStart => exact ⟨0, Nat.zero_le _, rfl, hst⟩
      case round =>
        clear hst
        obtain ⟨k, hk, rfl, hst⟩ := hrel
        have c0 := hst.got HI.out
        rw [HV.out] at c0
        by_cases hkn : k < n
        · obtain ⟨g, rfl⟩ := hao (by omega)
          have hv' : at_ gs i = .slice (some ⟨g, 0, none⟩) (len i) cap := by rw [← HN.out]; exact HV.out
          obtain ⟨⟨x, hx⟩, hfz⟩ := hst.cell HI.out hv' (by rw [← HN.out]; exact hkn)
          have hs2 := hst.step hd HI.out hv' (by rw [← HN.out]; exact hkn) (by omega)
          clear hst hv' hao
          have hkn' : (k : Int) < (n : Int) := by omega
          go_wp2
          go_roundw
          case rel => exact ⟨k + 1, by omega, by go_num, hs2⟩
          case measure => simp [intOf]; omega
        · have hkn' : ¬ (k : Int) < (n : Int) := by omega
          have hkk : k = len i := by rw [← HN.out]; omega
          rw [hkk] at hst
          have hs2 := hst.done HI.out
          have HK : Hid (k = len i) := hkk
          clear hst hkk
          go_wp2
          go_roundw
          case rel => exact ⟨i + 1, by omega, by go_num, hs2⟩
          case measure => simp [intOf]; omega
    · have hge : ¬ (i : Int) < (m : Int) := by omega
      have him' : i = m := by omega
      rw [him'] at hst
      have hC := cst_startO hst HG.out
      have HI : Hid (i = m) := him'
      have hB2 : B ≤ wr.heap.size := Nat.le_trans hB hC.bel.size
      clear hst him'
      obtain ⟨iN, hiN, hzN0, hzN1, hzN2⟩ := info_parts Tryz.infoN3
      obtain ⟨iU, hiU, hzU0, hzU1, hzU2⟩ := info_parts Tryz.infoU3
      go_wp2
      go_loopw [5, 6] (fun lo t wr => ∃ (i : Nat) (ls : List Value), i ≤ m ∧ t = .int .i64 i ∧ CO3 B gb m cg gs len w i ls lo wr ∧ B ≤ wr.heap.size) (fun _ t _ => m - (intOf t).toNat)
      case atStart => exact ⟨0, [], Nat.zero_le _, rfl, hC, hB2⟩
      case round =>
        clear hC hB2 HI hge him hi
        obtain ⟨i, ls, hi, rfl, hC, hB2⟩ := hrel
        by_cases him : i < m
        · have hig : i < gs.length := by rw [HG.out]; exact him
          have c0 := hC.gotCell HG.out him
          have hV := vst_startO hC hd hig
          obtain ⟨v0, hv0⟩ : ∃ v, v = at_ gs i := ⟨_, rfl⟩
          rw [← hv0] at c0 hV
          have HV0 : Hid (v0 = at_ gs i) := hv0
          have HI : Hid (i < gs.length) := hig
          clear hv0 hig
          have hlt : (i : Int) < (m : Int) := by omega
          have hlb := hlen2.out i him
          go_wp2
          go_loopw [7, 8] (fun l t wr => ∃ k : Nat, k ≤ 8 ∧ t = .int .i64 k ∧ CO3 B gb m cg gs len w i ls u5 wr ∧ VO3 B gs len w i k ls l wr ∧ B ≤ wr.heap.size) (fun _ t _ => 8 - (intOf t).toNat)
          case atStart => exact ⟨0, Nat.zero_le _, rfl, hC, hV, hB2⟩
          case round =>
            clear hC hV hB2 c0
            obtain ⟨k, hk, rfl, hC, hV, hB2⟩ := hrel
            by_cases hk9 : k < 8
            · have hlt9 : (k : Int) < 8 := by omega
              have hvo : wr.ownsRow B 37 1 u7 (len i + k) ((tlO len i k).map U) := by have := hV.vo.2; rw [tlO_len] at this; exact this
              have hB3 : B ≤ (wr.alloc (.cells #[.int .u32 (500000 + (i : Int))] 37)).heap.size := by simp; omega
              go_wp2_with (at_builtin; refine wpList_push _ rfl _ _ 23 rfl B 37 iU (.int .u32 0) 4 Tryz.underlying23 hiU hzU0 hzU1 hzU2 rfl _ (len i + k) ((tlO len i k).map U) rfl (hvo.alloc _) ⟨wr.heap.size, 0, none⟩ 1 1 [.int .u32 (500000 + (i : Int))] rfl rfl (cell_one_new _ _ _) (fun u hu => by simp at hu; subst hu; rfl) (by decide) (by unfold maxLen; omega) (by omega) hB3 ?_)
              intro v' w1 ho hgr hkp hbk
              obtain ⟨hC1, hV1, hB4⟩ := push_stepO hC hV hB2 (by omega) ho hgr hkp hbk
              clear ho hgr hkp hbk hC hV hB2 hB3 hvo
              go_wp2
              go_roundw
              case rel => exact ⟨k + 1, by omega, by go_num, hC1, hV1, hB4⟩
              case measure => simp [intOf]; omega
            · have hlt9 : ¬ (k : Int) < 8 := by omega
              have hk9' : k = 8 := by omega
              rw [hk9'] at hV
              have HK : Hid (k = 8) := hk9'
              clear hk9'
              obtain ⟨ao, cap, hv11, _⟩ := hV.vo.ao
              obtain ⟨n11, hn11⟩ : ∃ n, n = (tlO len i 8).length := ⟨_, rfl⟩
              rw [← hn11] at hv11
              clear hn11
              subst hv11
              have hB3 : B ≤ (wr.alloc (.cells #[.slice ao n11 cap] 23)).heap.size := by simp; omega
              go_wp2_with (at_builtin; refine wpList_push _ rfl _ _ 63 rfl B 23 iN (.slice none 0 0) 24 Tryz.underlying63 hiN hzN0 hzN1 hzN2 rfl _ i ls rfl (hC.lo.alloc _) ⟨wr.heap.size, 0, none⟩ 1 1 [.slice ao n11 cap] rfl rfl (cell_one_new _ _ _) (fun u hu => by simp at hu; subst hu; rfl) (by decide) (by unfold maxLen; omega) (by omega) hB3 ?_)
              intro v' w1 ho hgr hkp hbk
              obtain ⟨hC1, hB4⟩ := long_stepO hC hV hB2 ho hgr hkp hbk
              clear ho hgr hkp hbk hC hV hB2 hB3
              go_wp2
              go_roundw
              case rel => exact ⟨i + 1, ls ++ [.slice ao n11 cap], by omega, by go_num, hC1, hB4⟩
              case measure => simp [intOf]; omega
        · have hge2 : ¬ (i : Int) < (m : Int) := by omega
          have him' : i = m := by omega
          rw [him'] at hC
          have HI2 : Hid (i = m) := him'
          clear him' hB2
          obtain ⟨aoL, capL, hL, hL1, hL2, hLc⟩ := hC.longShape
          subst hL
          have HB : Hid (Bex gs w wr) := hC.bel
          go_wp2
          go_loop [9] (fun t => ∃ i : Nat, i ≤ m ∧ t = .int .i64 i) (fun t => m - (intOf t).toNat)
          case atStart => exact ⟨0, Nat.zero_le _, rfl⟩
          case round =>
            clear hge2 HI2 him hi
            obtain ⟨i, hi, rfl⟩ := hrel
            by_cases him : i < m
            · have hig : i < gs.length := by rw [HG.out]; exact him
              have c0 := hC.gotCell HG.out him
              obtain ⟨lb, rfl, c1⟩ := hLc i him
              have ho0 := hC.fam i hig
              have ho1 := hC.lso i him
              obtain ⟨ao0, cap0, e0, hp0, hn0, hm0⟩ := ho0.ao
              obtain ⟨ao1, cap1, e1, hp1, hn1, hm1⟩ := ho1.ao
              rw [e0] at c0 ho0
              rw [e1] at c1 ho1
              rw [tlO_len] at c1 ho1 hp1 hn1
              rw [mkO_len] at c0 ho0 hp0 hn0
              have hlb := hlen2.out i him
              obtain ⟨n, hn⟩ : ∃ n, n = len i := ⟨_, rfl⟩
              rw [← hn] at c0 c1 ho0 ho1 hp0 hp1 hn0 hn1 hlb
              have HN : Hid (n = len i) := hn
              obtain ⟨g1, rfl⟩ := hp1 (by omega)
              clear hn e0 e1 hLc hC hp1 hd hig
              have hlt : (i : Int) < (m : Int) := by omega
              go_wp2
              go_loop [10] (fun t => ∃ k : Nat, k ≤ n + 8 ∧ t = .int .i64 k) (fun t => n + 8 - (intOf t).toNat)
              case atStart => exact ⟨0, Nat.zero_le _, rfl⟩
              case round =>
                obtain ⟨k, hk, rfl⟩ := hrel
                by_cases hk1 : k < n + 8
                · have hk1' : (k : Int) < ((n + 8 : Nat) : Int) := by omega
                  by_cases hk2 : k < n
                  · have hk2' : (k : Int) < (n : Int) := by omega
                    obtain ⟨g0, rfl⟩ := hp0 (by omega)
                    have d0 := (ho0.cell (k := k) (by rw [mkO_len, ← HN.out]; exact hk2)).1
                    have d1 := (ho1.cell (k := k) (by rw [tlO_len, ← HN.out]; exact hk1)).1
                    rw [mkO_at len i k (by rw [← HN.out]; exact hk2)] at d0
                    rw [tlO_lo len i 8 k (by rw [← HN.out]; exact hk2)] at d1
                    clear ho0 ho1 hp0
                    have e0 : (((100000 + i : Nat) : Int) != (100000 + (i : Int))) = false := by simp
                    go_wp2
                    go_round
                    case rel => exact ⟨k + 1, by omega, by go_num⟩
                    case measure => simp [intOf]; omega
                  · have hk2' : ¬ (k : Int) < (n : Int) := by omega
                    have d1 := (ho1.cell (k := k) (by rw [tlO_len, ← HN.out]; exact hk1)).1
                    rw [tlO_hi len i 8 k (by rw [← HN.out]; omega) (by rw [← HN.out]; exact hk1)] at d1
                    clear ho0 ho1 hp0
                    have e0 : (((500000 + i : Nat) : Int) != (500000 + (i : Int))) = false := by simp
                    go_wp2
                    go_round
                    case rel => exact ⟨k + 1, by omega, by go_num⟩
                    case measure => simp [intOf]; omega
                · have hk1' : ¬ (k : Int) < ((n + 8 : Nat) : Int) := by omega
                  clear ho0 ho1 hp0
                  go_wp2
                  go_round
                  case rel => exact ⟨i + 1, by omega, by go_num⟩
                  case measure => simp [intOf]; omega
            · have hge3 : ¬ (i : Int) < (m : Int) := by omega
              clear hLc hC hd
              go_wp2
              go_ret
              exact ⟨rfl, HB.out⟩
end Go.Proofs.YtfnafgjnimfmjaaGreatDoor
