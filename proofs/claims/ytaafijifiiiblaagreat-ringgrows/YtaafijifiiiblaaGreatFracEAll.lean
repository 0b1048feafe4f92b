/-
  Proved here: what the document's lowest of layer 3 answers.
  Proved here: credenceref03's Own, of numbers each in a row of its own: it answers true.
  Proved here: credenceref03's limbs and stands: a list that is lent, with marked room behind; what was lent stands as it did.
  Proved here: what strings.Cut answers of a text and a stroke.
  Proved here: what Of and Text of package frac answer, and Parse of one text.
  Proved here: what Text of package frac answers.
-/
import Derived.Test.YtaafijifiiiblaaGreatRefGcd
import Derived.Test.YtaafijifiiiblaaGreatRefDivMod
import Derived.Test.YtaafijifiiiblaaGreatR2B
import Derived.Test.YtaafijifiiiblaaGreatFracC
import Derived.Test.YtaafijifiiiblaaGreatSmallAll
import Derived.Test.YtaafijifiiiblaaGreatSubAll
import Derived.WalkSmall
import Derived.Test.YtaafijifiiiblaaGreatAllAll
import Derived.Laws.Externs
import Derived.Test.YtaafijifiiiblaaGreatRefOfAll
namespace Go.Proofs.YtaafijifiiiblaaGreat
open Go.RowKit

theorem low_ref3 {na : Bool} {A D : Nat} (hD : D ≠ 0) : (Rat.divInt (zv na A) (D : Int)).num = zv na (A / Nat.gcd A D) ∧ (Rat.divInt (zv na A) (D : Int)).den = D / Nat.gcd A D := by
  have hq : (D : Int) ≠ 0 := by omega
  have h1 := low_num (p := zv na A) hq
  have h2 := low_den (p := zv na A) hq
  rw [zv_abs, Int.natAbs_natCast, decide_eq_false (by omega)] at h1 h2
  have e : zv false (Nat.gcd A D) = ((Nat.gcd A D : Nat) : Int) := rfl
  rw [e] at h1 h2
  refine ⟨?_, ?_⟩
  · rw [← h1]
    cases na
    · show (A : Int).tdiv _ = ((A / Nat.gcd A D : Nat) : Int)
      exact (Int.ofNat_tdiv A _).symm
    · show (-(A : Int)).tdiv _ = -((A / Nat.gcd A D : Nat) : Int)
      rw [Int.neg_tdiv, ← Int.ofNat_tdiv]
  · have h3 : ((D / Nat.gcd A D : Nat) : Int) = ((Rat.divInt (zv na A) (D : Int)).den : Int) := by rw [← h2, Int.ofNat_tdiv]
    omega
theorem lim_len_mono3 {a b k : Nat} (h : a ≤ b) (hk : (lim b).length ≤ k) : (lim a).length ≤ k := lim_len_le (Nat.lt_of_le_of_lt h (lim_lt_of_len hk))

set_option maxRecDepth 100000 in
set_option maxHeartbeats 6400000 in
theorem lowest3 (na : Bool) (ao dO : Option Addr) (al ac dl dc : Nat) (xa yd : List Nat) (w : World) (ua : Num w (.slice ao al ac) xa) (ud : Num w (.slice dO dl dc) yd) (la : xa.length ≤ 3000) (ld : yd.length ≤ 3000) (hd0 : val yd ≠ 0) :
    Calls Tryz.prog 81 #[.agg #[.bool na, .slice ao al ac], .slice dO dl dc] w fun e w' => REnd w (Rat.divInt (zv na (val xa)) (val yd : Int)) e w' := by
  obtain ⟨A, hA⟩ : ∃ A, A = val xa := ⟨_, rfl⟩
  obtain ⟨Z, hZ⟩ : ∃ D, D = val yd := ⟨_, rfl⟩
  have HA : Hid (val xa = A) := hA.symm
  have HD : Hid (val yd = Z) := hZ.symm
  rw [← hA, ← hZ]
  rw [← hZ] at hd0
  have HD0 : Hid (Z ≠ 0) := hd0
  have HLA : Hid (xa.length ≤ 3000) := la
  have HLD : Hid (yd.length ≤ 3000) := ld
  obtain ⟨r, hr⟩ : ∃ r, r = Rat.divInt (zv na A) (Z : Int) := ⟨_, rfl⟩
  have HRN : Hid (zv na (A / Nat.gcd A Z) = r.num) := by show _ = _; rw [hr, (low_ref3 hd0).1]
  have HRD : Hid (Z / Nat.gcd A Z = r.den) := by show _ = _; rw [hr, (low_ref3 hd0).2]
  rw [← hr]
  clear hr hA hZ hd0 la ld
  obtain ⟨W1, hW1⟩ : ∃ W1, W1 = (w.alloc (.cells #[.bool na, .slice ao al ac] 25)).alloc (.cells #[.bool false, .slice none 0 0, .slice none 0 0] 27) := ⟨_, rfl⟩
  have qa : ICell W1 (w.heap.size) na (.slice ao al ac) := by rw [hW1]; exact (icell_step (icell_new _ (by simp)))
  have qR : QCell W1 (w.heap.size + 1) false (.slice none 0 0) (.slice none 0 0) := by rw [hW1]; exact (qcell_new _ (by simp))
  have hb : Below w.heap.size w W1 := by rw [hW1]; exact bstep (belowA w _) (belowA _ _)
  have hsz : w.heap.size + 1 < W1.heap.size := by rw [hW1]; simp
  replace ua := ua.below (Nat.le_refl _) hb
  replace ud := ud.below (Nat.le_refl _) hb
  have HW1 : Hid (W1 = (w.alloc (.cells #[.bool na, .slice ao al ac] 25)).alloc (.cells #[.bool false, .slice none 0 0, .slice none 0 0] 27)) := hW1
  clear hW1
  go_enter Tryz.func81, Tryz.ntmps81
  go_wp2_with fail
  rw [← HW1.out]
  clear HW1
  obtain ⟨g, hg⟩ : ∃ g, g = w.heap.size := ⟨_, rfl⟩
  rw [← hg] at qa qR hsz ⊢
  have HG : Hid (g = w.heap.size) := hg
  clear hg
  obtain ⟨B0, hB0⟩ : ∃ B, B = W1.heap.size := ⟨_, rfl⟩
  have HB0 : Hid (g + 1 < B0) := by show _ < _; rw [hB0]; exact hsz
  replace hB0 := Nat.le_of_eq hB0
  have hq := gcd_ref _ _ _ _ _ ua ud (Nat.le_trans HLA.out (by decide)) (Nat.le_trans HLD.out (by decide))
  rw [HA.out, HD.out] at hq
  refine (hq).mono ?_
  rintro e w2 ⟨v, rfl, ho, b⟩
  clear hq
  obtain ⟨go, gl, gc, rfl⟩ := ho.sl
  have ug := ho.num
  clear ho
  replace ua := ua.below (Nat.le_refl _) b
  replace ud := ud.below (Nat.le_refl _) b
  replace hB0 := Nat.le_trans hB0 b.size
  replace qa := qa.below b
  replace qR := qR.below b
  replace hb := bstep hb b
  replace hsz := Nat.lt_of_lt_of_le hsz b.size
  clear b
  obtain ⟨cqa0, cqa1⟩ := qa.cells
  obtain ⟨cqR0, cqR1, cqR2⟩ := qR.cells
  go_wp2_with fail
  clear cqa0 cqa1 cqR0 cqR1 cqR2
  obtain ⟨G, hG⟩ : ∃ G, G = Nat.gcd A Z := ⟨_, rfl⟩
  rw [← hG] at ug
  have HGc : Hid (G = Nat.gcd A Z) := hG
  have HLG : Hid ((lim G).length ≤ 3000) := by show _ ≤ _; exact lim_len_mono3 (by rw [hG]; exact Nat.gcd_le_right _ (Nat.pos_of_ne_zero HD0.out)) (by rw [← HD.out]; exact Nat.le_trans (lim_len_le (val_lt ud.1)) HLD.out)
  clear hG
  have hq := divMod_ref _ _ _ _ _ ua ug (Nat.le_trans HLA.out (by decide)) (Nat.le_trans HLG.out (by decide))
  rw [HA.out, val_lim] at hq
  refine (hq).mono ?_
  rintro e w3 ⟨p, q, rfl, ho, ho2, b⟩
  clear hq
  obtain ⟨po, pl, pc, rfl⟩ := ho.sl
  obtain ⟨qo, ql, qc, rfl⟩ := ho2.sl
  have up := ho.num
  clear ho ho2
  replace ua := ua.below (Nat.le_refl _) b
  replace ud := ud.below (Nat.le_refl _) b
  replace hB0 := Nat.le_trans hB0 b.size
  replace ug := ug.below (Nat.le_refl _) b
  replace qa := qa.below b
  replace qR := qR.below b
  replace hb := bstep hb b
  replace hsz := Nat.lt_of_lt_of_le hsz b.size
  clear b
  obtain ⟨cqa0, cqa1⟩ := qa.cells
  obtain ⟨cqR0, cqR1, cqR2⟩ := qR.cells
  go_wp2_with fail
  clear cqa0 cqa1 cqR0 cqR1 cqR2
  have hq := divMod_ref _ _ _ _ _ ud ug (Nat.le_trans HLD.out (by decide)) (Nat.le_trans HLG.out (by decide))
  rw [HD.out, val_lim] at hq
  refine (hq).mono ?_
  rintro e w4 ⟨p, q, rfl, hd, ho2, b⟩
  clear hq
  obtain ⟨mO, mL, mC, rfl⟩ := hd.sl
  obtain ⟨so, sl, sc, rfl⟩ := ho2.sl
  replace hd := hd.mono hB0
  clear ho2
  replace ua := ua.below (Nat.le_refl _) b
  replace ud := ud.below (Nat.le_refl _) b
  replace hB0 := Nat.le_trans hB0 b.size
  replace ug := ug.below (Nat.le_refl _) b
  replace up := up.below (Nat.le_refl _) b
  replace qa := qa.below b
  replace qR := qR.below b
  replace hb := bstep hb b
  replace hsz := Nat.lt_of_lt_of_le hsz b.size
  clear b
  obtain ⟨cqa0, cqa1⟩ := qa.cells
  obtain ⟨cqR0, cqR1, cqR2⟩ := qR.cells
  go_wp2_with fail
  clear cqa0 cqa1 cqR0 cqR1 cqR2
  have hla : (lim (A / G)).length ≤ 3000 := lim_len_mono3 (Nat.div_le_self A G) (k := 3000) (by rw [← HA.out]; exact Nat.le_trans (lim_len_le (val_lt ua.1)) HLA.out)
  have hld : (lim (Z / G)).length ≤ 3000 := lim_len_mono3 (Nat.div_le_self Z G) (k := 3000) (by rw [← HD.out]; exact Nat.le_trans (lim_len_le (val_lt ud.1)) HLD.out)
  have hi : INum w4 (.agg #[.bool na, .slice po pl pc]) r.num := ⟨_, _, _, _, _, rfl, up, by omega, by rw [val_lim, HGc.out]; exact HRN.out⟩
  have hq := r_norm hi
  have un := hd.num
  clear hi hd
  refine (hq).mono ?_
  rintro e w5 ⟨v, rfl, ⟨m, rfl, hm⟩, b⟩
  clear hq
  obtain ⟨mo, ml, mc, rfl⟩ := hm.sl
  replace hm := hm.mono hB0
  replace un := un.below (Nat.le_refl _) b
  replace hB0 := Nat.le_trans hB0 b.size
  replace qa := qa.below b
  replace qR := qR.below b
  replace hb := bstep hb b
  replace hsz := Nat.lt_of_lt_of_le hsz b.size
  clear b ua ud ug up
  obtain ⟨cqa0, cqa1⟩ := qa.cells
  obtain ⟨cqR0, cqR1, cqR2⟩ := qR.cells
  generalize hbb : decide (r.num < 0) = bb at *
  go_wp2_with fail
  clear cqa0 cqa1 cqR0 cqR1 cqR2
  have hq := norm_ref _ _ _ un (by omega)
  rw [val_lim] at hq
  refine (hq).mono ?_
  rintro e w6 ⟨u, rfl, hd, b⟩
  clear hq un
  obtain ⟨nO, nL, nC, rfl⟩ := hd.sl
  have hap := apart_later hm hd (Nat.le_refl _)
  replace hd := hd.mono hB0
  replace hm := hm.below b
  replace qR := qR.below b
  replace hb := bstep hb b
  clear b
  rw [HGc.out, HRD.out] at hd
  have HE : Hid (REnd w r (.returned (.agg #[.bool bb, .slice mo ml mc, .slice nO nL nC])) (((w6.setCell ⟨g + 1, 0, none⟩ (.bool bb)).setCell ⟨g + 1, 1, none⟩ (.slice mo ml mc)).setCell ⟨g + 1, 2, none⟩ (.slice nO nL nC))) := rat_done hbb.symm (by rw [HG.out]; omega) hm hd hap HB0.out hb
  have HW : Hid (QCell (((w6.setCell ⟨g + 1, 0, none⟩ (.bool bb)).setCell ⟨g + 1, 1, none⟩ (.slice mo ml mc)).setCell ⟨g + 1, 2, none⟩ (.slice nO nL nC)) (g + 1) bb (.slice mo ml mc) (.slice nO nL nC)) := qR.write _ _ _
  obtain ⟨y0, y1, y2⟩ := qR.cells
  have f0 := qR.thaw 0
  have f1 := qR.thaw 1
  have f2 := qR.thaw 2
  clear hb hsz hm hap qa qR hB0 hd hla hld hbb
  go_wp2_with fail
  (try simp only [Exit.inBlock, Exit.then])
  exact bodyPost_ret (results_cell_row rfl _ _ (g + 1) 27 _ (0, 0) _ rfl HW.out Tryz.underlying27 rfl (by kernel_rfl)) rfl HE.out
end Go.Proofs.YtaafijifiiiblaaGreat

namespace Go.Proofs.YtaafijifiiiblaaGreat
open Go.RowKit

end Go.Proofs.YtaafijifiiiblaaGreat

namespace Go.Proofs.YtaafijifiiiblaaGreat
open Go.RowKit

end Go.Proofs.YtaafijifiiiblaaGreat

namespace Go.Proofs.YtaafijifiiiblaaGreat
open Go.RowKit
end Go.Proofs.YtaafijifiiiblaaGreat

namespace Go.Proofs.YtaafijifiiiblaaGreat
open Go.RowKit

theorem sz_of {n : Int} (h1 : -9223372036854775808 ≤ n) (h2 : n ≤ 9223372036854775807) : Sz n 8 := Sz.of (by show n.natAbs < 4294967296 ^ 8; omega)
set_option maxRecDepth 100000 in
set_option maxHeartbeats 6400000 in
theorem c_fof {n d : Int} {w : World} (h1 : -9223372036854775808 ≤ n) (h2 : n ≤ 9223372036854775807) (h3 : -9223372036854775808 ≤ d) (h4 : d ≤ 9223372036854775807) (hd : d ≠ 0) : Calls Tryz.prog 77 #[.int .i64 n, .int .i64 d] w fun e w' => RTEnd w (Rat.divInt n d) e w' := by
  obtain ⟨Z, hZ⟩ : ∃ Z, Z = Rat.divInt n d := ⟨_, rfl⟩
  have HZ : Hid (Rat.divInt n d = Z) := hZ.symm
  rw [← hZ]
  clear hZ
  have HD : Hid (d ≠ 0) := hd
  clear hd
  obtain ⟨W1, hW1⟩ : ∃ W1, W1 = w.alloc (.cells #[.bool false, .slice none 0 0, .slice none 0 0] 27) := ⟨_, rfl⟩
  have qR : QCell W1 (w.heap.size) false (.slice none 0 0) (.slice none 0 0) := by rw [hW1]; exact (qcell_new _ (by simp))
  have hb : Below w.heap.size w W1 := by rw [hW1]; exact belowA w _
  have hsz : w.heap.size < W1.heap.size := by rw [hW1]; simp
  have HW1 : Hid (W1 = w.alloc (.cells #[.bool false, .slice none 0 0, .slice none 0 0] 27)) := hW1
  clear hW1
  go_enter Tryz.func77, Tryz.ntmps77
  go_wp2_with fail
  rw [← HW1.out]
  clear HW1
  obtain ⟨g, hg⟩ : ∃ g, g = w.heap.size := ⟨_, rfl⟩
  rw [← hg] at qR hsz ⊢
  have HG : Hid (g = w.heap.size) := hg
  clear hg
  refine (c_of h1 h2).mono ?_
  rintro e w2 ⟨v, rfl, hv, b⟩
  obtain ⟨na, ao, al, ac, rfl, ia⟩ := hv.see (sz_of h1 h2) (by decide)
  clear hv
  replace qR := qR.below b
  replace hb := bstep hb b
  replace hsz := Nat.lt_of_lt_of_le hsz b.size
  clear b
  obtain ⟨cqR0, cqR1, cqR2⟩ := qR.cells
  go_wp2_with fail
  clear cqR0 cqR1 cqR2
  refine (c_of h3 h4).mono ?_
  rintro e w3 ⟨v, rfl, hv, b⟩
  obtain ⟨nb, bo, bl, bc, rfl, ib⟩ := hv.see (sz_of h3 h4) (by decide)
  clear hv
  replace ia := ia.below b
  replace qR := qR.below b
  replace hb := bstep hb b
  replace hsz := Nat.lt_of_lt_of_le hsz b.size
  clear b
  obtain ⟨cqR0, cqR1, cqR2⟩ := qR.cells
  go_wp2_with fail
  clear cqR0 cqR1 cqR2
  have hq := c_new_yes ia ib HD.out
  rw [HZ.out] at hq
  have hszz := hsz
  refine (hq).mono ?_
  rintro e w4 ⟨v, rfl, hv, b⟩
  clear hq
  obtain ⟨m, d, rfl, hm, hd, hap⟩ := hv
  obtain ⟨mo, ml, mc, rfl⟩ := hm.sl
  obtain ⟨mO, mL, mC, rfl⟩ := hd.sl
  replace ia := ia.below b
  replace ib := ib.below b
  replace qR := qR.below b
  replace hb := bstep hb b
  replace hsz := Nat.lt_of_lt_of_le hsz b.size
  clear b
  have qq := qR
  have HE : Hid (REnd w Z (.returned (.agg #[.bool (decide (Z.num < 0)), .slice mo ml mc, .slice mO mL mC])) (((w4.setCell ⟨g, 0, none⟩ (.bool (decide (Z.num < 0)))).setCell ⟨g, 1, none⟩ (.slice mo ml mc)).setCell ⟨g, 2, none⟩ (.slice mO mL mC))) := rat_done rfl (by rw [HG.out]; omega) hm hd hap hszz (hb)
  have HW : Hid (QCell (((w4.setCell ⟨g, 0, none⟩ (.bool (decide (Z.num < 0)))).setCell ⟨g, 1, none⟩ (.slice mo ml mc)).setCell ⟨g, 2, none⟩ (.slice mO mL mC)) (g) (decide (Z.num < 0)) (.slice mo ml mc) (.slice mO mL mC)) := qq.write _ _ _
  obtain ⟨y0, y1, y2⟩ := qq.cells
  have f0 := qq.thaw 0
  have f1 := qq.thaw 1
  have f2 := qq.thaw 2
  generalize decide (Z.num < 0) = bb at *
  clear qq hap
  clear hb hsz hszz hm hd qR ia ib
  go_wp2_with fail
  (try simp only [Exit.inBlock, Exit.then])
  exact bodyPost_ret (results_ct (p := 4) (u := 5) rfl _ _ (g) 27 _ (0, 0) _ rfl HW.out Tryz.underlying27 rfl (by kernel_rfl)) rfl HE.out.t
end Go.Proofs.YtaafijifiiiblaaGreat

namespace Go.Proofs.YtaafijifiiiblaaGreat
open Go.RowKit

theorem RNum.sz {w : World} {v : Value} {x : Rat} {L : Nat} (h : RNum w v x L) : RSz x L := by
  obtain ⟨p, q, _, rfl, h1, h2⟩ := h
  exact RSz.of (und_ne _) h1 h2
end Go.Proofs.YtaafijifiiiblaaGreat
