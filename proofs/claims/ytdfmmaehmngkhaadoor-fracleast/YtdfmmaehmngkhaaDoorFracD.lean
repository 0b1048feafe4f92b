/-
  Proved here: what Of and Text of package frac answer, and Parse of one text.
-/
import Derived.Test.YtdfmmaehmngkhaaDoorFracSAll
namespace Go.Proofs.YtdfmmaehmngkhaaDoor
open Go.RowKit

theorem dig1 (c : UInt8) (h1 : 48 ≤ c.toNat) (h2 : c.toNat ≤ 57) : DigOk ⟨#[c]⟩ ∧ 0 < (⟨#[c]⟩ : ByteArray).size := by
  refine ⟨fun i hi => ?_, Nat.zero_lt_one⟩
  have h0 : i = 0 := by change i < 1 at hi; omega
  subst h0
  exact ⟨h1, h2⟩
theorem sz_of {n : Int} (h1 : -9223372036854775808 ≤ n) (h2 : n ≤ 9223372036854775807) : Sz n 8 := Sz.of (by show n.natAbs < 4294967296 ^ 8; omega)
set_option maxRecDepth 100000 in
set_option maxHeartbeats 6400000 in
theorem c_fof {n d : Int} {w : World} (h1 : -9223372036854775808 ≤ n) (h2 : n ≤ 9223372036854775807) (h3 : -9223372036854775808 ≤ d) (h4 : d ≤ 9223372036854775807) (hd : d ≠ 0) : Calls Tryd.prog 12 #[.int .i64 n, .int .i64 d] w fun e w' => RTEnd w (Rat.divInt n d) e w' := by
  obtain ⟨Z, hZ⟩ : ∃ Z, Z = Rat.divInt n d := ⟨_, rfl⟩
  have HZ : Hid (Rat.divInt n d = Z) := hZ.symm
  rw [← hZ]
  clear hZ
  have HD : Hid (d ≠ 0) := hd
  clear hd
  obtain ⟨W1, hW1⟩ : ∃ W1, W1 = w.alloc (.cells #[.bool false, .slice none 0 0, .slice none 0 0] 27) := ⟨_, rfl⟩
  have qR : QCell W1 (w.heap.size) false (.slice none 0 0) (.slice none 0 0) := by rw [hW1]; exact (qcell_new _ (by simp))
  have hb : Below w.heap.size w W1 := by rw [hW1]; exact belowA w _
  have hsz : w.heap.size < W1.heap.size := by rw [hW1]; simp
  have HW1 : Hid (W1 = w.alloc (.cells #[.bool false, .slice none 0 0, .slice none 0 0] 27)) := hW1
  clear hW1
  go_enter Tryd.func12, Tryd.ntmps12
  go_wp2_with fail
  rw [← HW1.out]
  clear HW1
  obtain ⟨g, hg⟩ : ∃ g, g = w.heap.size := ⟨_, rfl⟩
  rw [← hg] at qR hsz ⊢
  have HG : Hid (g = w.heap.size) := hg
  clear hg
  refine (c_of h1 h2).mono ?_
  rintro e w2 ⟨v, rfl, hv, b⟩
  obtain ⟨na, ao, al, ac, rfl, ia⟩ := hv.see (sz_of h1 h2) (by decide)
  clear hv
  replace qR := qR.below b
  replace hb := bstep hb b
  replace hsz := Nat.lt_of_lt_of_le hsz b.size
  clear b
  obtain ⟨cqR0, cqR1, cqR2⟩ := qR.cells
  go_wp2_with fail
  clear cqR0 cqR1 cqR2
  refine (c_of h3 h4).mono ?_
  rintro e w3 ⟨v, rfl, hv, b⟩
  obtain ⟨nb, bo, bl, bc, rfl, ib⟩ := hv.see (sz_of h3 h4) (by decide)
  clear hv
  replace ia := ia.below b
  replace qR := qR.below b
  replace hb := bstep hb b
  replace hsz := Nat.lt_of_lt_of_le hsz b.size
  clear b
  obtain ⟨cqR0, cqR1, cqR2⟩ := qR.cells
  go_wp2_with fail
  clear cqR0 cqR1 cqR2
  have hq := c_new_yes ia ib HD.out
  rw [HZ.out] at hq
  have hszz := hsz
  refine (hq).mono ?_
  rintro e w4 ⟨v, rfl, hv, b⟩
  clear hq
  obtain ⟨m, d, rfl, hm, hd, hap⟩ := hv
  obtain ⟨mo, ml, mc, rfl⟩ := hm.sl
  obtain ⟨mO, mL, mC, rfl⟩ := hd.sl
  replace ia := ia.below b
  replace ib := ib.below b
  replace qR := qR.below b
  replace hb := bstep hb b
  replace hsz := Nat.lt_of_lt_of_le hsz b.size
  clear b
  have qq := qR
  have HE : Hid (REnd w Z (.returned (.agg #[.bool (decide (Z.num < 0)), .slice mo ml mc, .slice mO mL mC])) (((w4.setCell ⟨g, 0, none⟩ (.bool (decide (Z.num < 0)))).setCell ⟨g, 1, none⟩ (.slice mo ml mc)).setCell ⟨g, 2, none⟩ (.slice mO mL mC))) := rat_done rfl (by rw [HG.out]; omega) hm hd hap hszz (hb)
  have HW : Hid (QCell (((w4.setCell ⟨g, 0, none⟩ (.bool (decide (Z.num < 0)))).setCell ⟨g, 1, none⟩ (.slice mo ml mc)).setCell ⟨g, 2, none⟩ (.slice mO mL mC)) (g) (decide (Z.num < 0)) (.slice mo ml mc) (.slice mO mL mC)) := qq.write _ _ _
  obtain ⟨y0, y1, y2⟩ := qq.cells
  have f0 := qq.thaw 0
  have f1 := qq.thaw 1
  have f2 := qq.thaw 2
  generalize decide (Z.num < 0) = bb at *
  clear qq hap
  clear hb hsz hszz hm hd qR ia ib
  go_wp2_with fail
  (try simp only [Exit.inBlock, Exit.then])
  exact bodyPost_ret (results_ct (p := 4) (u := 5) rfl _ _ (g) 27 _ (0, 0) _ rfl HW.out Tryd.underlying27 rfl (by kernel_rfl)) rfl HE.out.t
set_option maxRecDepth 100000 in
set_option maxHeartbeats 6400000 in
theorem c_parse56 {w : World} : Calls Tryd.prog 26 #[.string ⟨#[53, 47, 54]⟩] w fun e w' => RTEnd w (Rat.divInt 5 6) e w' := by
  obtain ⟨W1, hW1⟩ : ∃ W1, W1 = w.alloc (.cells #[.bool false, .slice none 0 0, .slice none 0 0] 27) := ⟨_, rfl⟩
  have qR : QCell W1 (w.heap.size) false (.slice none 0 0) (.slice none 0 0) := by rw [hW1]; exact (qcell_new _ (by simp))
  have hb : Below w.heap.size w W1 := by rw [hW1]; exact belowA w _
  have hsz : w.heap.size < W1.heap.size := by rw [hW1]; simp
  have HW1 : Hid (W1 = w.alloc (.cells #[.bool false, .slice none 0 0, .slice none 0 0] 27)) := hW1
  clear hW1
  go_enter Tryd.func26, Tryd.ntmps26
  go_wp2_with fail
  rw [← HW1.out]
  clear HW1
  obtain ⟨g, hg⟩ : ∃ g, g = w.heap.size := ⟨_, rfl⟩
  rw [← hg] at qR hsz ⊢
  have HG : Hid (g = w.heap.size) := hg
  clear hg
  refine (cut56 _).mono ?_
  rintro e w2 ⟨rfl, b⟩
  replace qR := qR.below b
  replace hb := bstep hb b
  replace hsz := Nat.lt_of_lt_of_le hsz b.size
  clear b
  obtain ⟨cqR0, cqR1, cqR2⟩ := qR.cells
  go_wp2_with fail
  clear cqR0 cqR1 cqR2
  have hq := parse_of (s := ⟨#[53]⟩) (t := ⟨#[53]⟩) (k := false) (z := 5) (dig_first (dig1 53 (by decide) (by decide)).1 (by decide)).1 (dig_first (dig1 53 (by decide) (by decide)).1 (by decide)).2 (dig1 53 (by decide) (by decide)) (by decide) (by decide) w2
  refine (hq).mono ?_
  rintro e w3 ⟨v, rfl, hv, b⟩
  clear hq
  obtain ⟨na, ao, al, ac, rfl, ia⟩ := hv.see (L := 8) (Sz.of (by decide)) (by decide)
  clear hv
  replace qR := qR.below b
  replace hb := bstep hb b
  replace hsz := Nat.lt_of_lt_of_le hsz b.size
  clear b
  obtain ⟨W4, hW4⟩ : ∃ W, W = w3.alloc (.cells #[.bool na, .slice ao al ac] 25) := ⟨_, rfl⟩
  have qA : ICell W4 (w3.heap.size) na (.slice ao al ac) := by rw [hW4]; exact (icell_new _ rfl)
  have b : Below w3.heap.size w3 W4 := by rw [hW4]; exact belowA _ _
  replace ia := ia.below b
  replace qR := qR.below b
  replace hb := bstep hb b
  replace hsz := Nat.lt_of_lt_of_le hsz b.size
  clear b
  have rqR0 : (w3.alloc (.cells #[.bool na, .slice ao al ac] 25)).cell? ⟨g, 0, none⟩ = some (.bool false) := by rw [← hW4]; exact qR.cells.1
  have rqR1 : (w3.alloc (.cells #[.bool na, .slice ao al ac] 25)).cell? ⟨g, 1, none⟩ = some (.slice none 0 0) := by rw [← hW4]; exact qR.cells.2.1
  have rqR2 : (w3.alloc (.cells #[.bool na, .slice ao al ac] 25)).cell? ⟨g, 2, none⟩ = some (.slice none 0 0) := by rw [← hW4]; exact qR.cells.2.2
  have rqA0 : (w3.alloc (.cells #[.bool na, .slice ao al ac] 25)).cell? ⟨w3.heap.size, 0, none⟩ = some (.bool na) := by rw [← hW4]; exact qA.cells.1
  have rqA1 : (w3.alloc (.cells #[.bool na, .slice ao al ac] 25)).cell? ⟨w3.heap.size, 1, none⟩ = some (.slice ao al ac) := by rw [← hW4]; exact qA.cells.2
  obtain ⟨v4, hv4⟩ : ∃ v, v = w3.heap.size := ⟨_, rfl⟩
  rw [← hv4] at qA
  have HW4 : Hid (W4 = w3.alloc (.cells #[.bool na, .slice ao al ac] 25)) := hW4
  have Hv4 : Hid (v4 = w3.heap.size) := hv4
  clear hW4 hv4
  go_wp2_with fail
  rw [← HW4.out, ← Hv4.out]
  clear HW4 Hv4 rqR0 rqR1 rqR2 rqA0 rqA1
  have hq := parse_any ⟨#[54]⟩ W4 (by decide)
  refine (hq).mono ?_
  rintro e w5 ⟨u, rfl, hu, b⟩
  clear hq
  rw [if_pos (dig1 54 (by decide) (by decide))]
  rw [if_pos (dig1 54 (by decide) (by decide)), show bval (dgs ⟨#[54]⟩) = 6 by decide] at hu
  obtain ⟨bo, bl, bc, rfl⟩ := hu.sl
  have ub := hu.num
  clear hu
  replace ia := ia.below b
  replace qR := qR.below b
  replace qA := qA.below b
  replace hb := bstep hb b
  replace hsz := Nat.lt_of_lt_of_le hsz b.size
  clear b
  obtain ⟨cqR0, cqR1, cqR2⟩ := qR.cells
  obtain ⟨cqA0, cqA1⟩ := qA.cells
  go_wp2_with fail
  clear cqR0 cqR1 cqR2 cqA0 cqA1
  have ib : INum w5 (.agg #[.bool false, .slice bo bl bc]) 6 := ⟨_, _, _, _, _, rfl, ub, Nat.le_trans (lim_len_le (n := 6) (k := 1) (by decide)) (by decide), by rw [val_lim]; rfl⟩
  have hq := c_new_yes ia ib (by decide)
  obtain ⟨Z, hZ⟩ : ∃ Z, Z = Rat.divInt 5 6 := ⟨_, rfl⟩
  have HZ : Hid (Z = Rat.divInt 5 6) := hZ
  rw [← hZ] at hq
  clear hZ
  have hszz := hsz
  clear ib
  refine (hq).mono ?_
  rintro e w6 ⟨v, rfl, hv, b⟩
  clear hq
  obtain ⟨m, d, rfl, hm, hd, hap⟩ := hv
  obtain ⟨mo, ml, mc, rfl⟩ := hm.sl
  obtain ⟨mO, mL, mC, rfl⟩ := hd.sl
  replace ia := ia.below b
  replace ub := ub.below (Nat.le_refl _) b
  replace qR := qR.below b
  replace qA := qA.below b
  replace hb := bstep hb b
  replace hsz := Nat.lt_of_lt_of_le hsz b.size
  clear b
  have qq := qR
  have HE : Hid (REnd w Z (.returned (.agg #[.bool (decide (Z.num < 0)), .slice mo ml mc, .slice mO mL mC])) (((w6.setCell ⟨g, 0, none⟩ (.bool (decide (Z.num < 0)))).setCell ⟨g, 1, none⟩ (.slice mo ml mc)).setCell ⟨g, 2, none⟩ (.slice mO mL mC))) := rat_done rfl (by rw [HG.out]; omega) hm hd hap hszz (hb)
  have HW : Hid (QCell (((w6.setCell ⟨g, 0, none⟩ (.bool (decide (Z.num < 0)))).setCell ⟨g, 1, none⟩ (.slice mo ml mc)).setCell ⟨g, 2, none⟩ (.slice mO mL mC)) (g) (decide (Z.num < 0)) (.slice mo ml mc) (.slice mO mL mC)) := qq.write _ _ _
  obtain ⟨y0, y1, y2⟩ := qq.cells
  have f0 := qq.thaw 0
  have f1 := qq.thaw 1
  have f2 := qq.thaw 2
  generalize decide (Z.num < 0) = bb at *
  clear qq hap
  clear hb hsz hszz hm hd qR qA ia ub
  go_wp2_with fail
  (try simp only [Exit.inBlock, Exit.then])
  exact bodyPost_ret (results_ct (p := 2) (u := 3) rfl _ _ (g) 27 _ (0, 0) _ rfl HW.out Tryd.underlying27 rfl (by kernel_rfl)) rfl (by rw [← HZ.out]; exact HE.out.t)
end Go.Proofs.YtdfmmaehmngkhaaDoor
