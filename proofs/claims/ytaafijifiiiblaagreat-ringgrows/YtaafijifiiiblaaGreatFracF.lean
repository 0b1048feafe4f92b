/-
  Proved here: what Sum of package frac answers.
-/
import Derived.Test.YtaafijifiiiblaaGreatFracEAll
namespace Go.Proofs.YtaafijifiiiblaaGreat
open Go.RowKit

/-- A row of fractions that can be read. -/
def RRow (w : World) (b n : Nat) (xs : Nat → Rat) (L : Nat) : Prop := ∀ i, i < n → ∃ nn ao al ac bo bl bc, w.cell? ⟨b, i * 3, none⟩ = some (.bool nn) ∧ w.cell? ⟨b, i * 3 + 1, none⟩ = some (.slice ao al ac) ∧ w.cell? ⟨b, i * 3 + 2, none⟩ = some (.slice bo bl bc) ∧ RNum w (.agg #[.bool nn, .slice ao al ac, .slice bo bl bc]) (xs i) L
theorem RRow.below {w w' : World} {b n : Nat} {xs : Nat → Rat} {L : Nat} (h : RRow w b n xs L) (hb : Below w.heap.size w w') : RRow w' b n xs L := by
  intro i hi
  obtain ⟨nn, ao, al, ac, bo, bl, bc, h1, h2, h3, h4⟩ := h i hi
  exact ⟨nn, ao, al, ac, bo, bl, bc, keepB hb h1, keepB hb h2, keepB hb h3, h4.below hb⟩
/-- The sum of the first. -/
def rsum (xs : Nat → Rat) : Nat → Rat
  | 0 => 0
  | i + 1 => rsum xs i + xs i
theorem rsum_succ (xs : Nat → Rat) (i : Nat) : rsum xs (i + 1) = rsum xs i + xs i := rfl
theorem rown_store {B B0 g : Nat} {w : World} {r : Rat} {b : Bool} {m d : Value} (hb : b = decide (r.num < 0)) (hm : Own B0 100 w m (lim r.num.natAbs)) (hd : Own B0 100 w d (lim r.den)) (hap : m.ownBlock = none ∨ m.ownBlock ≠ d.ownBlock) (hg : g < B0) (hB : B ≤ B0) :
    ROwn B (((w.setCell ⟨g, 0, none⟩ (.bool b)).setCell ⟨g, 1, none⟩ m).setCell ⟨g, 2, none⟩ d) (.agg #[.bool b, m, d]) r :=
  ⟨m, d, by rw [hb], (((hm.other _ (own_ne hm hg)).other _ (own_ne hm hg)).other _ (own_ne hm hg)).mono hB, (((hd.other _ (own_ne hd hg)).other _ (own_ne hd hg)).other _ (own_ne hd hg)).mono hB, hap⟩
theorem RSz.zero : RSz 0 1 := ⟨Sz.zero, Sz.one⟩
set_option maxRecDepth 100000 in
set_option maxHeartbeats 6400000 in
theorem c_rsum (lo : Option Addr) (b0 n cap : Nat) (xs : Nat → Rat) (L : Nat) (w : World) (hlo : 0 < n → lo = some ⟨b0, 0, none⟩) (hrow : RRow w b0 n xs L) (hK : n * (L + 1) + L + 2 ≤ 1000000) : Calls Tryz.prog 67 #[.slice lo n cap] w fun e w' => REnd w (rsum xs n) e w' := by
  have hsum : ∀ i, i ≤ n → RSz (rsum xs i) (i * (L + 1) + 1) := by
    intro i
    induction i with
    | zero => intro _; rw [Nat.zero_mul]; exact RSz.zero
    | succ i ih =>
      intro hi
      obtain ⟨_, _, _, _, _, _, _, _, _, _, hx⟩ := hrow i (by omega)
      have h1 := ih (by omega)
      rw [rsum_succ]
      have h2 := rsz_add (p := (rsum xs i).num) (q := (rsum xs i).den) (p' := (xs i).num) (q' := (xs i).den) h1.num (by unfold und; rw [if_neg (Rat.den_nz _)]; exact h1.den) hx.sz.num (by unfold und; rw [if_neg (Rat.den_nz _)]; exact hx.sz.den)
      rw [rq_std, rq_std] at h2
      exact h2.mono (by rw [Nat.succ_mul]; omega)
  have HSUM : Hid (∀ i, i ≤ n → RSz (rsum xs i) (i * (L + 1) + 1)) := hsum
  clear hsum
  have hmul : ∀ i, i ≤ n → i * (L + 1) ≤ n * (L + 1) := fun i hi => Nat.mul_le_mul_right _ hi
  have HMUL : Hid (∀ i, i ≤ n → i * (L + 1) ≤ n * (L + 1)) := hmul
  have HK : Hid (n * (L + 1) + L + 2 ≤ 1000000) := hK
  have hn6 : n ≤ 1000000 := by have h9 := Nat.le_mul_of_pos_right n (Nat.succ_pos L); have h8 : n * L.succ = n * (L + 1) := rfl; omega
  clear hmul hK
  have HROW : Hid (RRow w b0 n xs L) := hrow
  clear hrow
  obtain ⟨r, hr⟩ : ∃ r, r = rsum xs n := ⟨_, rfl⟩
  have HR : Hid (r = rsum xs n) := hr
  rw [← hr]
  clear hr
  obtain ⟨W1, hW1⟩ : ∃ W1, W1 = w.alloc (.cells #[.bool false, .slice none 0 0, .slice none 0 0] 27) := ⟨_, rfl⟩
  have qR : QCell W1 (w.heap.size) false (.slice none 0 0) (.slice none 0 0) := by rw [hW1]; exact (qcell_new _ (by simp))
  have hb : Below w.heap.size w W1 := by rw [hW1]; exact belowA w _
  have hsz : w.heap.size < W1.heap.size := by rw [hW1]; simp
  have HW1 : Hid (W1 = w.alloc (.cells #[.bool false, .slice none 0 0, .slice none 0 0] 27)) := hW1
  clear hW1
  go_enter Tryz.func67, Tryz.ntmps67
  go_wp2_with fail
  rw [← HW1.out]
  clear HW1
  obtain ⟨g, hg⟩ : ∃ g, g = w.heap.size := ⟨_, rfl⟩
  rw [← hg] at qR hsz ⊢
  have HG : Hid (g = w.heap.size) := hg
  clear hg
  refine (c_of (n := 0) (by decide) (by decide)).mono ?_
  rintro e w2 ⟨v, rfl, hv, b⟩
  obtain ⟨na, ao, al, ac, rfl, ia⟩ := hv.see Sz.zero (by decide)
  clear hv
  replace qR := qR.below b
  replace hb := bstep hb b
  replace hsz := Nat.lt_of_lt_of_le hsz b.size
  clear b
  obtain ⟨cqR0, cqR1, cqR2⟩ := qR.cells
  go_wp2_with fail
  clear cqR0 cqR1 cqR2
  refine (c_of (n := 1) (by decide) (by decide)).mono ?_
  rintro e w3 ⟨v, rfl, hv, b⟩
  obtain ⟨nb, bo, bl, bc, rfl, ib⟩ := hv.see Sz.one (by decide)
  clear hv
  replace ia := ia.below b
  replace qR := qR.below b
  replace hb := bstep hb b
  replace hsz := Nat.lt_of_lt_of_le hsz b.size
  clear b
  obtain ⟨cqR0, cqR1, cqR2⟩ := qR.cells
  go_wp2_with fail
  clear cqR0 cqR1 cqR2
  have hq := c_lowest ia ib (by decide)
  rw [show Rat.divInt 0 1 = 0 by decide] at hq
  have hszz := hsz
  refine (hq).mono ?_
  rintro e w4 ⟨v, rfl, hv, b⟩
  clear hq
  replace hv := hv.rehome (B' := g + 1) hszz
  obtain ⟨m, d, rfl, hm, hd, hap⟩ := hv
  obtain ⟨mo, ml, mc, rfl⟩ := hm.sl
  obtain ⟨mO, mL, mC, rfl⟩ := hd.sl
  generalize hbb : decide ((0 : Rat).num < 0) = bb
  have hown : ROwn (g + 1) w4 (.agg #[.bool bb, .slice mo ml mc, .slice mO mL mC]) (rsum xs 0) := ⟨_, _, by rw [← hbb]; rfl, hm, hd, hap⟩
  clear hbb hm hd hap hszz
  replace ia := ia.below b
  replace ib := ib.below b
  replace qR := qR.below b
  replace hb := bstep hb b
  replace hsz := Nat.lt_of_lt_of_le hsz b.size
  clear b
  clear ia ib
  have hszP := hsz
  obtain ⟨W5, hW5⟩ : ∃ W, W = w4.alloc (.cells #[.bool bb, .slice mo ml mc, .slice mO mL mC] 27) := ⟨_, rfl⟩
  have qA : QCell W5 (w4.heap.size) bb (.slice mo ml mc) (.slice mO mL mC) := by rw [hW5]; exact (qcell_new _ rfl)
  have b : Below w4.heap.size w4 W5 := by rw [hW5]; exact belowA _ _
  replace hown := hown.below b
  replace qR := qR.below b
  replace hb := bstep hb b
  replace hsz := Nat.lt_of_lt_of_le hsz b.size
  clear b
  have rqR0 : (w4.alloc (.cells #[.bool bb, .slice mo ml mc, .slice mO mL mC] 27)).cell? ⟨g, 0, none⟩ = some (.bool false) := by rw [← hW5]; exact qR.cells.1
  have rqR1 : (w4.alloc (.cells #[.bool bb, .slice mo ml mc, .slice mO mL mC] 27)).cell? ⟨g, 1, none⟩ = some (.slice none 0 0) := by rw [← hW5]; exact qR.cells.2.1
  have rqR2 : (w4.alloc (.cells #[.bool bb, .slice mo ml mc, .slice mO mL mC] 27)).cell? ⟨g, 2, none⟩ = some (.slice none 0 0) := by rw [← hW5]; exact qR.cells.2.2
  have rqA0 : (w4.alloc (.cells #[.bool bb, .slice mo ml mc, .slice mO mL mC] 27)).cell? ⟨w4.heap.size, 0, none⟩ = some (.bool bb) := by rw [← hW5]; exact qA.cells.1
  have rqA1 : (w4.alloc (.cells #[.bool bb, .slice mo ml mc, .slice mO mL mC] 27)).cell? ⟨w4.heap.size, 1, none⟩ = some (.slice mo ml mc) := by rw [← hW5]; exact qA.cells.2.1
  have rqA2 : (w4.alloc (.cells #[.bool bb, .slice mo ml mc, .slice mO mL mC] 27)).cell? ⟨w4.heap.size, 2, none⟩ = some (.slice mO mL mC) := by rw [← hW5]; exact qA.cells.2.2
  obtain ⟨v5, hv5⟩ : ∃ v, v = w4.heap.size := ⟨_, rfl⟩
  rw [← hv5] at qA
  have HW5 : Hid (W5 = w4.alloc (.cells #[.bool bb, .slice mo ml mc, .slice mO mL mC] 27)) := hW5
  have Hv5 : Hid (v5 = w4.heap.size) := hv5
  clear hW5 hv5
  go_wp2_with fail
  rw [← HW5.out, ← Hv5.out]
  have hgA : g < v5 := by rw [Hv5.out]; exact hszP
  clear hszP
  clear HW5 Hv5 rqR0 rqR1 rqR2 rqA0 rqA1 rqA2
  go_loopw [11] (fun iv wr => ∃ i : Nat, i ≤ n ∧ iv = .int .i64 i ∧ ∃ bb mo ml mc mO mL mC, Below w.heap.size w wr ∧ QCell wr v5 bb (.slice mo ml mc) (.slice mO mL mC) ∧ ROwn (g + 1) wr (.agg #[.bool bb, .slice mo ml mc, .slice mO mL mC]) (rsum xs i) ∧ QCell wr g false (.slice none 0 0) (.slice none 0 0)) (fun iv _ => n - (intOf iv).toNat)
  case atStart => exact ⟨0, Nat.zero_le _, rfl, _, _, _, _, _, _, _, hb, qA, hown, qR⟩
  case round =>
    clear hb qA hown qR hsz
    obtain ⟨i, hi, rfl, bb, mo, ml, mc, mO, mL, mC, hb, qA, hown, qR⟩ := hrel
    have hsz : v5 < wr.heap.size := (Array.getElem?_eq_some_iff.1 (show wr.heap[v5]? = _ from qA)).1
    have hszg : g < wr.heap.size := (Array.getElem?_eq_some_iff.1 (show wr.heap[g]? = _ from qR)).1
    by_cases hlt : i < n
    · have hlt2 : (i : Int) < (n : Int) := by omega
      obtain rfl := hlo (by omega)
      obtain ⟨ne, eo, el, ec, eO, eL, eC, k0, k1, k2, rx⟩ := (HROW.out.below hb) i hlt
      obtain ⟨W31, hW31⟩ : ∃ W, W = wr.alloc (.cells #[.bool ne, .slice eo el ec, .slice eO eL eC] 27) := ⟨_, rfl⟩
      have qE : QCell W31 (wr.heap.size) ne (.slice eo el ec) (.slice eO eL eC) := by rw [hW31]; exact (qcell_new _ rfl)
      have b : Below wr.heap.size wr W31 := by rw [hW31]; exact belowA _ _
      replace hown := hown.below b
      replace rx := rx.below b
      replace qA := qA.below b
      replace qR := qR.below b
      replace hb := bstep hb b
      replace hsz := Nat.lt_of_lt_of_le hsz b.size
      replace hszg := Nat.lt_of_lt_of_le hszg b.size
      clear b
      have rqA0 : (wr.alloc (.cells #[.bool ne, .slice eo el ec, .slice eO eL eC] 27)).cell? ⟨v5, 0, none⟩ = some (.bool bb) := by rw [← hW31]; exact qA.cells.1
      have rqA1 : (wr.alloc (.cells #[.bool ne, .slice eo el ec, .slice eO eL eC] 27)).cell? ⟨v5, 1, none⟩ = some (.slice mo ml mc) := by rw [← hW31]; exact qA.cells.2.1
      have rqA2 : (wr.alloc (.cells #[.bool ne, .slice eo el ec, .slice eO eL eC] 27)).cell? ⟨v5, 2, none⟩ = some (.slice mO mL mC) := by rw [← hW31]; exact qA.cells.2.2
      have rqR0 : (wr.alloc (.cells #[.bool ne, .slice eo el ec, .slice eO eL eC] 27)).cell? ⟨g, 0, none⟩ = some (.bool false) := by rw [← hW31]; exact qR.cells.1
      have rqR1 : (wr.alloc (.cells #[.bool ne, .slice eo el ec, .slice eO eL eC] 27)).cell? ⟨g, 1, none⟩ = some (.slice none 0 0) := by rw [← hW31]; exact qR.cells.2.1
      have rqR2 : (wr.alloc (.cells #[.bool ne, .slice eo el ec, .slice eO eL eC] 27)).cell? ⟨g, 2, none⟩ = some (.slice none 0 0) := by rw [← hW31]; exact qR.cells.2.2
      have rqE0 : (wr.alloc (.cells #[.bool ne, .slice eo el ec, .slice eO eL eC] 27)).cell? ⟨wr.heap.size, 0, none⟩ = some (.bool ne) := by rw [← hW31]; exact qE.cells.1
      have rqE1 : (wr.alloc (.cells #[.bool ne, .slice eo el ec, .slice eO eL eC] 27)).cell? ⟨wr.heap.size, 1, none⟩ = some (.slice eo el ec) := by rw [← hW31]; exact qE.cells.2.1
      have rqE2 : (wr.alloc (.cells #[.bool ne, .slice eo el ec, .slice eO eL eC] 27)).cell? ⟨wr.heap.size, 2, none⟩ = some (.slice eO eL eC) := by rw [← hW31]; exact qE.cells.2.2
      obtain ⟨v31, hv31⟩ : ∃ v, v = wr.heap.size := ⟨_, rfl⟩
      rw [← hv31] at qE
      have HW31 : Hid (W31 = wr.alloc (.cells #[.bool ne, .slice eo el ec, .slice eO eL eC] 27)) := hW31
      have Hv31 : Hid (v31 = wr.heap.size) := hv31
      clear hW31 hv31
      go_wp2_with fail
      rw [← HW31.out, ← Hv31.out]
      clear HW31 Hv31 rqA0 rqA1 rqA2 rqR0 rqR1 rqR2 rqE0 rqE1 rqE2
      have hcc := c_radd (hown.std.num (HSUM.out i hi) (by have h1 := HMUL.out i hi; have h2 := HK.out; omega)) rx (by have h1 := HMUL.out i hi; have h2 := HK.out; omega)
      rw [← rsum_succ] at hcc
      have hszz := hsz
      have hszy : g + 1 ≤ W31.heap.size := hszg
      refine (hcc).mono ?_
      rintro e w32 ⟨v, rfl, hv, b⟩
      clear hcc
      obtain ⟨m, d, rfl, hm, hd, hap⟩ := hv
      obtain ⟨mo2, ml2, mc2, rfl⟩ := hm.sl
      obtain ⟨mO2, mL2, mC2, rfl⟩ := hd.sl
      obtain ⟨bb2, hbb2⟩ : ∃ b, b = decide ((rsum xs (i + 1)).num < 0) := ⟨_, rfl⟩
      rw [← hbb2]
      replace hown := hown.below b
      replace rx := rx.below b
      replace qA := qA.below b
      replace qR := qR.below b
      replace qE := qE.below b
      replace hb := bstep hb b
      replace hsz := Nat.lt_of_lt_of_le hsz b.size
      clear b
      have HN1 : Hid (Below w.heap.size w (((w32.setCell ⟨v5, 0, none⟩ (.bool bb2)).setCell ⟨v5, 1, none⟩ (.slice mo2 ml2 mc2)).setCell ⟨v5, 2, none⟩ (.slice mO2 mL2 mC2))) := iend3 hb (by have := HG.out; omega)
      have HN2 : Hid (QCell (((w32.setCell ⟨v5, 0, none⟩ (.bool bb2)).setCell ⟨v5, 1, none⟩ (.slice mo2 ml2 mc2)).setCell ⟨v5, 2, none⟩ (.slice mO2 mL2 mC2)) (v5) bb2 (.slice mo2 ml2 mc2) (.slice mO2 mL2 mC2)) := qA.write _ _ _
      have HN3 : Hid (ROwn (g + 1) (((w32.setCell ⟨v5, 0, none⟩ (.bool bb2)).setCell ⟨v5, 1, none⟩ (.slice mo2 ml2 mc2)).setCell ⟨v5, 2, none⟩ (.slice mO2 mL2 mC2)) (.agg #[.bool bb2, .slice mo2 ml2 mc2, .slice mO2 mL2 mC2]) (rsum xs (i + 1))) := rown_store hbb2 hm hd hap hszz hszy
      have HN4 : Hid (QCell (((w32.setCell ⟨v5, 0, none⟩ (.bool bb2)).setCell ⟨v5, 1, none⟩ (.slice mo2 ml2 mc2)).setCell ⟨v5, 2, none⟩ (.slice mO2 mL2 mC2)) g false (.slice none 0 0) (.slice none 0 0)) := ((qR.other (by omega) _ _).other (by omega) _ _).other (by omega) _ _
      obtain ⟨y0, y1, y2⟩ := qA.cells
      have f0 := qA.thaw 0
      have f1 := qA.thaw 1
      have f2 := qA.thaw 2
      clear hbb2 hm hd hap hszz hszy hsz hszg hb k0 k1 k2 qA qR qE hown rx
      go_wp2_with fail
      go_roundw
      case rel => exact ⟨i + 1, by omega, by go_num, _, _, _, _, _, _, _, HN1.out, HN2.out, HN3.out, HN4.out⟩
      case measure => simp [intOf]; omega
    · have hin : i = n := by omega
      subst hin
      have hlt2 : ¬ (i : Int) < (i : Int) := by omega
      rw [← HR.out] at hown
      obtain ⟨m, d, he, hm, hd, hap⟩ := hown
      simp only [Value.agg.injEq, Array.mk.injEq, List.cons.injEq, Value.bool.injEq, and_true] at he
      obtain ⟨hbb, rfl, rfl⟩ := he
      have qq := qR
      have HE : Hid (REnd w r (.returned (.agg #[.bool bb, .slice mo ml mc, .slice mO mL mC])) (((wr.setCell ⟨g, 0, none⟩ (.bool bb)).setCell ⟨g, 1, none⟩ (.slice mo ml mc)).setCell ⟨g, 2, none⟩ (.slice mO mL mC))) := rat_done hbb (by rw [HG.out]; exact Nat.le_refl _) hm hd hap (Nat.lt_succ_self g) hb
      have HW : Hid (QCell (((wr.setCell ⟨g, 0, none⟩ (.bool bb)).setCell ⟨g, 1, none⟩ (.slice mo ml mc)).setCell ⟨g, 2, none⟩ (.slice mO mL mC)) g bb (.slice mo ml mc) (.slice mO mL mC)) := qq.write _ _ _
      obtain ⟨y0, y1, y2⟩ := qR.cells
      have f0 := qR.thaw 0
      have f1 := qR.thaw 1
      have f2 := qR.thaw 2
      obtain ⟨c0, c1, c2⟩ := qA.cells
      clear hbb hm hd hap hb hsz hszg qq qA qR
      go_wp2_with fail
      (try simp only [Exit.inBlock, Exit.then])
      exact bodyPost_ret (results_cell_row rfl _ _ (g) 27 _ (0, 0) _ rfl HW.out Tryz.underlying27 rfl (by kernel_rfl)) rfl HE.out
end Go.Proofs.YtaafijifiiiblaaGreat
