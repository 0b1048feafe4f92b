/-
  Proved here: what strings.Cut answers of a text and a stroke.
  Proved here: what Of and Text of package frac answer, and Parse of one text.
-/
import Derived.Test.YtaekaikkldnikaaDoorFracC
import Derived.Laws.Externs
import Derived.Test.YtaekaikkldnikaaDoorBaseAll
namespace Go.Proofs.YtaekaikkldnikaaDoor
open Go.RowKit
theorem ixb (s : ByteArray) (w : World) : (callFunc 107 #[.string s, .int .u8 47]).run Tryd.prog w = .ok (.value (.int .i64 (firstIdx s 47))) w := by
  rw [run_callFunc_extern (e := Extern.BytealgIndexByte.indexByte) Tryd.func107 (by kernel_rfl) (by kernel_rfl) (by kernel_rfl) (by kernel_rfl), run_indexByte_string]
  rfl
theorem b47 : ((({ data := #[47] } : ByteArray)[0]'(by decide)).toNat : Int) = 47 := rfl
end Go.Proofs.YtaekaikkldnikaaDoor

namespace Go.Proofs.YtaekaikkldnikaaDoor
open Go.RowKit

theorem dig1 (c : UInt8) (h1 : 48 ≤ c.toNat) (h2 : c.toNat ≤ 57) : DigOk ⟨#[c]⟩ ∧ 0 < (⟨#[c]⟩ : ByteArray).size := by
  refine ⟨fun i hi => ?_, Nat.zero_lt_one⟩
  have h0 : i = 0 := by change i < 1 at hi; omega
  subst h0
  exact ⟨h1, h2⟩
theorem sz_of {n : Int} (h1 : -9223372036854775808 ≤ n) (h2 : n ≤ 9223372036854775807) : Sz n 8 := Sz.of (by show n.natAbs < 4294967296 ^ 8; omega)
set_option maxRecDepth 100000 in
set_option maxHeartbeats 6400000 in
theorem c_fof {n d : Int} {w : World} (h1 : -9223372036854775808 ≤ n) (h2 : n ≤ 9223372036854775807) (h3 : -9223372036854775808 ≤ d) (h4 : d ≤ 9223372036854775807) (hd : d ≠ 0) : Calls Tryd.prog 17 #[.int .i64 n, .int .i64 d] w fun e w' => RTEnd w (Rat.divInt n d) e w' := by
  obtain ⟨Z, hZ⟩ : ∃ Z, Z = Rat.divInt n d := ⟨_, rfl⟩
  have HZ : Hid (Rat.divInt n d = Z) := hZ.symm
  rw [← hZ]
  clear hZ
  have HD : Hid (d ≠ 0) := hd
  clear hd
  obtain ⟨W1, hW1⟩ : ∃ W1, W1 = w.alloc (.cells #[.bool false, .slice none 0 0, .slice none 0 0] 30) := ⟨_, rfl⟩
  have qR : QCell W1 (w.heap.size) false (.slice none 0 0) (.slice none 0 0) := by rw [hW1]; exact (qcell_new _ (by simp))
  have hb : Below w.heap.size w W1 := by rw [hW1]; exact belowA w _
  have hsz : w.heap.size < W1.heap.size := by rw [hW1]; simp
  have HW1 : Hid (W1 = w.alloc (.cells #[.bool false, .slice none 0 0, .slice none 0 0] 30)) := hW1
  clear hW1
  go_enter Tryd.func17, Tryd.ntmps17
  go_wp2_with fail
  rw [← HW1.out]
  clear HW1
  obtain ⟨g, hg⟩ : ∃ g, g = w.heap.size := ⟨_, rfl⟩
  rw [← hg] at qR hsz ⊢
  have HG : Hid (g = w.heap.size) := hg
  clear hg
  refine (c_of h1 h2).mono ?_
  rintro e w2 ⟨v, rfl, hv, b⟩
  obtain ⟨na, ao, al, ac, rfl, ia⟩ := hv.see (sz_of h1 h2) (by decide)
  clear hv
  replace qR := qR.below b
  replace hb := bstep hb b
  replace hsz := Nat.lt_of_lt_of_le hsz b.size
  clear b
  obtain ⟨cqR0, cqR1, cqR2⟩ := qR.cells
  go_wp2_with fail
  clear cqR0 cqR1 cqR2
  refine (c_of h3 h4).mono ?_
  rintro e w3 ⟨v, rfl, hv, b⟩
  obtain ⟨nb, bo, bl, bc, rfl, ib⟩ := hv.see (sz_of h3 h4) (by decide)
  clear hv
  replace ia := ia.below b
  replace qR := qR.below b
  replace hb := bstep hb b
  replace hsz := Nat.lt_of_lt_of_le hsz b.size
  clear b
  obtain ⟨cqR0, cqR1, cqR2⟩ := qR.cells
  go_wp2_with fail
  clear cqR0 cqR1 cqR2
  have hq := c_new_yes ia ib HD.out
  rw [HZ.out] at hq
  have hszz := hsz
  refine (hq).mono ?_
  rintro e w4 ⟨v, rfl, hv, b⟩
  clear hq
  obtain ⟨m, d, rfl, hm, hd, hap⟩ := hv
  obtain ⟨mo, ml, mc, rfl⟩ := hm.sl
  obtain ⟨mO, mL, mC, rfl⟩ := hd.sl
  replace ia := ia.below b
  replace ib := ib.below b
  replace qR := qR.below b
  replace hb := bstep hb b
  replace hsz := Nat.lt_of_lt_of_le hsz b.size
  clear b
  have qq := qR
  have HE : Hid (REnd w Z (.returned (.agg #[.bool (decide (Z.num < 0)), .slice mo ml mc, .slice mO mL mC])) (((w4.setCell ⟨g, 0, none⟩ (.bool (decide (Z.num < 0)))).setCell ⟨g, 1, none⟩ (.slice mo ml mc)).setCell ⟨g, 2, none⟩ (.slice mO mL mC))) := rat_done rfl (by rw [HG.out]; omega) hm hd hap hszz (hb)
  have HW : Hid (QCell (((w4.setCell ⟨g, 0, none⟩ (.bool (decide (Z.num < 0)))).setCell ⟨g, 1, none⟩ (.slice mo ml mc)).setCell ⟨g, 2, none⟩ (.slice mO mL mC)) (g) (decide (Z.num < 0)) (.slice mo ml mc) (.slice mO mL mC)) := qq.write _ _ _
  obtain ⟨y0, y1, y2⟩ := qq.cells
  have f0 := qq.thaw 0
  have f1 := qq.thaw 1
  have f2 := qq.thaw 2
  generalize decide (Z.num < 0) = bb at *
  clear qq hap
  clear hb hsz hszz hm hd qR ia ib
  go_wp2_with fail
  (try simp only [Exit.inBlock, Exit.then])
  exact bodyPost_ret (results_ct (p := 4) (u := 5) rfl _ _ (g) 30 _ (0, 0) _ rfl HW.out Tryd.underlying30 rfl (by kernel_rfl)) rfl HE.out.t
end Go.Proofs.YtaekaikkldnikaaDoor
