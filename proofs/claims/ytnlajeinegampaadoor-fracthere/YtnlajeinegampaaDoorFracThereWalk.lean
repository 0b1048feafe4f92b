/-
  Proved here: FracThere of any fraction and any two ints returns true, and writes nothing that was there.
-/
import Derived.Test.YtnlajeinegampaaDoorFracV
import Derived.Test.YtnlajeinegampaaDoorFracIAll
namespace Go.Proofs.YtnlajeinegampaaDoor
open Go.RowKit

theorem i64_bd {n : Int} (h : (Lit.int .i64 n).wf = true) : -9223372036854775808 ≤ n ∧ n ≤ 9223372036854775807 := by
  have h1 : IntKind.i64.min ≤ n ∧ n ≤ IntKind.i64.max := by simpa [Lit.wf] using h
  have e1 : IntKind.i64.min = -9223372036854775808 := by decide
  have e2 : IntKind.i64.max = 9223372036854775807 := by decide
  rw [e1, e2] at h1
  exact h1
theorem neg_neg_div (n d : Int) : -Rat.divInt n (-d) = Rat.divInt n d := by
  rw [Rat.neg_divInt]
  by_cases h : d = 0
  · rw [h]; simp
  · exact (Rat.divInt_eq_divInt_iff (by omega) h).2 (by rw [Int.neg_mul, Int.mul_neg])

set_option maxRecDepth 100000 in
set_option maxHeartbeats 25600000 in
theorem fracThere_top (nx : Bool) (xo xO : Option Addr) (xl xc xL xC : Nat) (vx ex : List Nat) (n d : Int) (w1 : World) (ux : Num w1 (.slice xo xl xc) vx) (dx : Num w1 (.slice xO xL xC) ex) (hn : (Lit.int .i64 n).wf = true) (hd : (Lit.int .i64 d).wf = true) :
    Calls Tryd.prog 4 #[.agg #[.bool nx, .slice xo xl xc, .slice xO xL xC], .int .i64 n, .int .i64 d] w1 fun e w' => e = .returned (.bool true) ∧ Below w1.heap.size w1 w' := by
  obtain ⟨hn1, hn2⟩ := i64_bd hn
  obtain ⟨hd1, hd2⟩ := i64_bd hd
  clear hn hd
  rcases Int.lt_trichotomy d 0 with hd0 | hd0 | hd0
  · obtain ⟨e, he⟩ : ∃ e : Nat, e = d.natAbs := ⟨_, rfl⟩
    obtain ⟨C, hC⟩ : ∃ C, C = Rat.divInt n d := ⟨_, rfl⟩
    have sC : RSz C 8 := by rw [hC]; exact RSz.of (by omega) (sz_of hn1 hn2) (sz_of hd1 hd2)
    obtain ⟨G, hG⟩ : ∃ C, C = Rat.divInt n (e : Int) := ⟨_, rfl⟩
    have he2 : (e : Int) = -d := by omega
    have se : Sz (e : Int) 8 := by rw [he2]; exact (sz_of hd1 hd2).neg
    have sG : RSz G 8 := by rw [hG]; exact RSz.of (by omega) (sz_of hn1 hn2) se
    have HGC : Hid (-G = C) := by show _ = _; rw [hG, hC, he2]; exact neg_neg_div n d
    have HC : Hid (Rat.divInt n d = C) := hC.symm
    have HG : Hid (Rat.divInt n (e : Int) = G) := hG.symm
    have he0 : e ≠ 0 := by omega
    have HE0 : Hid (e ≠ 0) := he0
    have HDE : Hid (d.natAbs = e) := he.symm
    have hdne : d ≠ 0 := by omega
    have HDN : Hid (d ≠ 0) := hdne
    have hde0 : (d == 0) = false := by simpa using hdne
    have hdn0 : (d != 0) = true := by simpa using hdne
    have lee := se.len
    rw [Int.natAbs_natCast] at lee
    clear hC hG he2 he0 hdne he se
    have hdl : d < 0 := hd0
    have hpn : Calls Tryd.prog 17 #[.string (two47 (zt n) (txt e))] = Calls Tryd.prog 17 #[.string (two47 (zt n) (txt e))] := rfl
    clear hpn
    have hz1 := zt_size (sz_of hn1 hn2)
    have hz2 := txt_short (n := e) (L := 8) lee
    have hpf := fun w => c_fparse2_yes n e 8 w (sz_of hn1 hn2) (by decide) (by omega) (by omega) (by omega) HE0.out
    rw [HG.out] at hpf
    obtain ⟨t1, ht1⟩ : ∃ t, t = zt n := ⟨_, rfl⟩
    have HT1 : Hid (zt n = t1) := ht1.symm
    obtain ⟨t2, ht2⟩ : ∃ t, t = txt e := ⟨_, rfl⟩
    have HT2 : Hid (txt e = t2) := ht2.symm
    rw [← ht1] at hpf hz1
    rw [← ht2] at hpf hz2
    obtain ⟨t3, ht3⟩ : ∃ t, t1 ++ ⟨#[47]⟩ = t := ⟨_, rfl⟩
    have hz3 : t3.size ≤ 1000 := by rw [← ht3, ByteArray.size_append]; show t1.size + 1 ≤ 1000; omega
    obtain ⟨ts, hts⟩ : ∃ t, t3 ++ t2 = t := ⟨_, rfl⟩
    rw [show two47 t1 t2 = ts by unfold two47; rw [ht3, hts]] at hpf
    clear ht1 ht2
    obtain ⟨W1, hW1⟩ : ∃ W1, W1 = w1.alloc (.cells #[.bool nx, .slice xo xl xc, .slice xO xL xC] 27) := ⟨_, rfl⟩
    have qx : QCell W1 (w1.heap.size) nx (.slice xo xl xc) (.slice xO xL xC) := by rw [hW1]; exact (qcell_new _ (by simp))
    have hb : Below w1.heap.size w1 W1 := by rw [hW1]; exact belowA w1 _
    have hsz : w1.heap.size < W1.heap.size := by rw [hW1]; simp
    replace ux := ux.below (Nat.le_refl _) hb
    replace dx := dx.below (Nat.le_refl _) hb
    have HW1 : Hid (W1 = w1.alloc (.cells #[.bool nx, .slice xo xl xc, .slice xO xL xC] 27)) := hW1
    clear hW1
    go_enter Tryd.func4, Tryd.ntmps4
    go_wp2_with fail
    rw [← HW1.out]
    clear HW1
    obtain ⟨g, hg⟩ : ∃ g, g = w1.heap.size := ⟨_, rfl⟩
    rw [← hg] at qx hsz ⊢
    have HG : Hid (g = w1.heap.size) := hg
    clear hg
    clear hsz
    refine (l_awake).mono ?_
    rintro e w2 ⟨rfl, b⟩
    replace ux := ux.below (Nat.le_refl _) b
    replace dx := dx.below (Nat.le_refl _) b
    replace qx := qx.below b
    replace hb := bstep hb b
    clear b
    obtain ⟨cqx0, cqx1, cqx2⟩ := qx.cells
    go_wp2_with fail
    clear cqx0 cqx1 cqx2
    refine (c_cut nx xo xO xl xc xL xC 12 vx ex _ ux dx (by decide)).mono ?_
    rintro e w3 ⟨rfl, b⟩
    replace ux := ux.below (Nat.le_refl _) b
    replace dx := dx.below (Nat.le_refl _) b
    replace qx := qx.below b
    replace hb := bstep hb b
    clear b
    obtain ⟨al, hal⟩ : ∃ l, l = min xl 12 := ⟨_, rfl⟩
    obtain ⟨aL, haL⟩ : ∃ l, l = min xL 12 := ⟨_, rfl⟩
    rw [← hal, ← haL]
    have k1 := num_cut (k := al) ux (by omega)
    have k2 := num_cut (k := aL) dx (by omega)
    have ia := rnum_of (n := nx) (L := 12) k1 k2 (by rw [List.length_take]; omega) (by rw [List.length_take]; omega) (by decide) (by decide)
    obtain ⟨A, hA⟩ : ∃ A, A = rq (zv nx (val (vx.take al))) (val (ex.take aL)) := ⟨_, rfl⟩
    rw [← hA] at ia
    have sA : RSz A 12 := ia.sz
    clear k1 k2 hal haL hA
    clear ux dx qx
    obtain ⟨W4, hW4⟩ : ∃ W, W = w3.alloc (.cells #[.bool nx, .slice xo al xc, .slice xO aL xC] 27) := ⟨_, rfl⟩
    have qa : QCell W4 (w3.heap.size) nx (.slice xo al xc) (.slice xO aL xC) := by rw [hW4]; exact (qcell_new _ rfl)
    have b : Below w3.heap.size w3 W4 := by rw [hW4]; exact belowA _ _
    replace ia := ia.below b
    replace hb := bstep hb b
    clear b
    have rqa0 : (w3.alloc (.cells #[.bool nx, .slice xo al xc, .slice xO aL xC] 27)).cell? ⟨w3.heap.size, 0, none⟩ = some (.bool nx) := by rw [← hW4]; exact qa.cells.1
    have rqa1 : (w3.alloc (.cells #[.bool nx, .slice xo al xc, .slice xO aL xC] 27)).cell? ⟨w3.heap.size, 1, none⟩ = some (.slice xo al xc) := by rw [← hW4]; exact qa.cells.2.1
    have rqa2 : (w3.alloc (.cells #[.bool nx, .slice xo al xc, .slice xO aL xC] 27)).cell? ⟨w3.heap.size, 2, none⟩ = some (.slice xO aL xC) := by rw [← hW4]; exact qa.cells.2.2
    obtain ⟨v4, hv4⟩ : ∃ v, v = w3.heap.size := ⟨_, rfl⟩
    rw [← hv4] at qa
    have HW4 : Hid (W4 = w3.alloc (.cells #[.bool nx, .slice xo al xc, .slice xO aL xC] 27)) := hW4
    have Hv4 : Hid (v4 = w3.heap.size) := hv4
    clear hW4 hv4
    go_wp2_with fail
    rw [← HW4.out, ← Hv4.out]
    clear HW4 Hv4 rqa0 rqa1 rqa2
    have hq := c_rtext ia (by decide)
    have hpr := fun w => c_parse_rt (w := w) sA (by decide)
    obtain ⟨tr, htr⟩ : ∃ t, t = rt A := ⟨_, rfl⟩
    rw [← htr] at hq hpr
    clear htr
    refine (hq).mono ?_
    rintro e w5 ⟨rfl, b⟩
    clear hq
    replace ia := ia.below b
    replace qa := qa.below b
    replace hb := bstep hb b
    clear b
    obtain ⟨cqa0, cqa1, cqa2⟩ := qa.cells
    go_wp2_with fail
    clear cqa0 cqa1 cqa2
    refine (hpr _).mono ?_
    rintro e w6 ⟨v, rfl, hv, b⟩
    clear hpr
    obtain ⟨nk, ko, kl, kc, kO, kL, kC, rfl, tk⟩ := hv.seeS
    clear hv
    replace ia := ia.below b
    replace qa := qa.below b
    replace hb := bstep hb b
    clear b
    obtain ⟨W7, hW7⟩ : ∃ W, W = w6.alloc (.cells #[.bool nk, .slice ko kl kc, .slice kO kL kC] 27) := ⟨_, rfl⟩
    have qk : QCell W7 (w6.heap.size) nk (.slice ko kl kc) (.slice kO kL kC) := by rw [hW7]; exact (qcell_new _ rfl)
    have b : Below w6.heap.size w6 W7 := by rw [hW7]; exact belowA _ _
    replace ia := ia.below b
    replace tk := tk.below b
    replace qa := qa.below b
    replace hb := bstep hb b
    clear b
    have rqa0 : (w6.alloc (.cells #[.bool nk, .slice ko kl kc, .slice kO kL kC] 27)).cell? ⟨v4, 0, none⟩ = some (.bool nx) := by rw [← hW7]; exact qa.cells.1
    have rqa1 : (w6.alloc (.cells #[.bool nk, .slice ko kl kc, .slice kO kL kC] 27)).cell? ⟨v4, 1, none⟩ = some (.slice xo al xc) := by rw [← hW7]; exact qa.cells.2.1
    have rqa2 : (w6.alloc (.cells #[.bool nk, .slice ko kl kc, .slice kO kL kC] 27)).cell? ⟨v4, 2, none⟩ = some (.slice xO aL xC) := by rw [← hW7]; exact qa.cells.2.2
    have rqk0 : (w6.alloc (.cells #[.bool nk, .slice ko kl kc, .slice kO kL kC] 27)).cell? ⟨w6.heap.size, 0, none⟩ = some (.bool nk) := by rw [← hW7]; exact qk.cells.1
    have rqk1 : (w6.alloc (.cells #[.bool nk, .slice ko kl kc, .slice kO kL kC] 27)).cell? ⟨w6.heap.size, 1, none⟩ = some (.slice ko kl kc) := by rw [← hW7]; exact qk.cells.2.1
    have rqk2 : (w6.alloc (.cells #[.bool nk, .slice ko kl kc, .slice kO kL kC] 27)).cell? ⟨w6.heap.size, 2, none⟩ = some (.slice kO kL kC) := by rw [← hW7]; exact qk.cells.2.2
    obtain ⟨v7, hv7⟩ : ∃ v, v = w6.heap.size := ⟨_, rfl⟩
    rw [← hv7] at qk
    have HW7 : Hid (W7 = w6.alloc (.cells #[.bool nk, .slice ko kl kc, .slice kO kL kC] 27)) := hW7
    have Hv7 : Hid (v7 = w6.heap.size) := hv7
    clear hW7 hv7
    go_wp2_with fail
    rw [← HW7.out, ← Hv7.out]
    clear HW7 Hv7 rqa0 rqa1 rqa2 rqk0 rqk1 rqk2
    have hq := c_fof (w := W7) hn1 hn2 hd1 hd2 HDN.out
    rw [HC.out] at hq
    refine (hq).mono ?_
    rintro e w8 ⟨v, rfl, hv, b⟩
    clear hq
    obtain ⟨nc, co, cl, cc, cO, cL, cC, rfl, tc⟩ := hv.seeS
    clear hv
    replace ia := ia.below b
    replace tk := tk.below b
    replace qa := qa.below b
    replace qk := qk.below b
    replace hb := bstep hb b
    clear b
    obtain ⟨W9, hW9⟩ : ∃ W, W = w8.alloc (.cells #[.bool nc, .slice co cl cc, .slice cO cL cC] 27) := ⟨_, rfl⟩
    have qc : QCell W9 (w8.heap.size) nc (.slice co cl cc) (.slice cO cL cC) := by rw [hW9]; exact (qcell_new _ rfl)
    have b : Below w8.heap.size w8 W9 := by rw [hW9]; exact belowA _ _
    replace ia := ia.below b
    replace tk := tk.below b
    replace tc := tc.below b
    replace qa := qa.below b
    replace qk := qk.below b
    replace hb := bstep hb b
    clear b
    have rqa0 : (w8.alloc (.cells #[.bool nc, .slice co cl cc, .slice cO cL cC] 27)).cell? ⟨v4, 0, none⟩ = some (.bool nx) := by rw [← hW9]; exact qa.cells.1
    have rqa1 : (w8.alloc (.cells #[.bool nc, .slice co cl cc, .slice cO cL cC] 27)).cell? ⟨v4, 1, none⟩ = some (.slice xo al xc) := by rw [← hW9]; exact qa.cells.2.1
    have rqa2 : (w8.alloc (.cells #[.bool nc, .slice co cl cc, .slice cO cL cC] 27)).cell? ⟨v4, 2, none⟩ = some (.slice xO aL xC) := by rw [← hW9]; exact qa.cells.2.2
    have rqk0 : (w8.alloc (.cells #[.bool nc, .slice co cl cc, .slice cO cL cC] 27)).cell? ⟨v7, 0, none⟩ = some (.bool nk) := by rw [← hW9]; exact qk.cells.1
    have rqk1 : (w8.alloc (.cells #[.bool nc, .slice co cl cc, .slice cO cL cC] 27)).cell? ⟨v7, 1, none⟩ = some (.slice ko kl kc) := by rw [← hW9]; exact qk.cells.2.1
    have rqk2 : (w8.alloc (.cells #[.bool nc, .slice co cl cc, .slice cO cL cC] 27)).cell? ⟨v7, 2, none⟩ = some (.slice kO kL kC) := by rw [← hW9]; exact qk.cells.2.2
    have rqc0 : (w8.alloc (.cells #[.bool nc, .slice co cl cc, .slice cO cL cC] 27)).cell? ⟨w8.heap.size, 0, none⟩ = some (.bool nc) := by rw [← hW9]; exact qc.cells.1
    have rqc1 : (w8.alloc (.cells #[.bool nc, .slice co cl cc, .slice cO cL cC] 27)).cell? ⟨w8.heap.size, 1, none⟩ = some (.slice co cl cc) := by rw [← hW9]; exact qc.cells.2.1
    have rqc2 : (w8.alloc (.cells #[.bool nc, .slice co cl cc, .slice cO cL cC] 27)).cell? ⟨w8.heap.size, 2, none⟩ = some (.slice cO cL cC) := by rw [← hW9]; exact qc.cells.2.2
    obtain ⟨v9, hv9⟩ : ∃ v, v = w8.heap.size := ⟨_, rfl⟩
    rw [← hv9] at qc
    have HW9 : Hid (W9 = w8.alloc (.cells #[.bool nc, .slice co cl cc, .slice cO cL cC] 27)) := hW9
    have Hv9 : Hid (v9 = w8.heap.size) := hv9
    clear hW9 hv9
    go_wp2_with fail
    rw [← HW9.out, ← Hv9.out]
    clear HW9 Hv9 rqa0 rqa1 rqa2 rqk0 rqk1 rqk2 rqc0 rqc1 rqc2
    refine (c_of hn1 hn2).mono ?_
    rintro e w10 ⟨v, rfl, hv, b⟩
    obtain ⟨nm, mo, ml, mc, rfl, im⟩ := hv.see (sz_of hn1 hn2) (by decide)
    clear hv
    replace ia := ia.below b
    replace tk := tk.below b
    replace tc := tc.below b
    replace qa := qa.below b
    replace qk := qk.below b
    replace qc := qc.below b
    replace hb := bstep hb b
    clear b
    obtain ⟨cqa0, cqa1, cqa2⟩ := qa.cells
    obtain ⟨cqk0, cqk1, cqk2⟩ := qk.cells
    obtain ⟨cqc0, cqc1, cqc2⟩ := qc.cells
    go_wp2_with fail
    clear cqa0 cqa1 cqa2 cqk0 cqk1 cqk2 cqc0 cqc1 cqc2
    have hq := c_text im
    rw [HT1.out] at hq
    refine (hq).mono ?_
    rintro e w11 ⟨rfl, b⟩
    clear hq
    replace ia := ia.below b
    replace tk := tk.below b
    replace tc := tc.below b
    replace im := im.below b
    replace qa := qa.below b
    replace qk := qk.below b
    replace qc := qc.below b
    replace hb := bstep hb b
    clear b
    clear im
    obtain ⟨cqa0, cqa1, cqa2⟩ := qa.cells
    obtain ⟨cqk0, cqk1, cqk2⟩ := qk.cells
    obtain ⟨cqc0, cqc1, cqc2⟩ := qc.cells
    go_wp2_with fail
    clear cqa0 cqa1 cqa2 cqk0 cqk1 cqk2 cqc0 cqc1 cqc2
    refine (c_of hd1 hd2).mono ?_
    rintro e w12 ⟨v, rfl, ⟨m, rfl, hm⟩, b⟩
    obtain ⟨mo, ml, mc, rfl⟩ := hm.sl
    have um := hm.num
    clear hm
    generalize decide (d < 0) = nb
    replace ia := ia.below b
    replace tk := tk.below b
    replace tc := tc.below b
    replace qa := qa.below b
    replace qk := qk.below b
    replace qc := qc.below b
    replace hb := bstep hb b
    clear b
    have hfd : ∀ w : World, (Instr.field 25 (.agg #[.bool nb, .slice mo ml mc]) 1).run Tryd.prog w = .ok (.slice mo ml mc) w := fun _ => by kernel_rfl
    obtain ⟨cqa0, cqa1, cqa2⟩ := qa.cells
    obtain ⟨cqk0, cqk1, cqk2⟩ := qk.cells
    obtain ⟨cqc0, cqc1, cqc2⟩ := qc.cells
    go_wp2_with fail
    clear cqa0 cqa1 cqa2 cqk0 cqk1 cqk2 cqc0 cqc1 cqc2
    clear hfd
    have hq := text_any _ _ _ um (by rw [HDE.out]; omega)
    rw [val_lim, HDE.out, HT2.out] at hq
    refine (hq).mono ?_
    rintro e w13 ⟨rfl, b⟩
    clear hq
    replace ia := ia.below b
    replace tk := tk.below b
    replace tc := tc.below b
    replace um := um.below (Nat.le_refl _) b
    replace qa := qa.below b
    replace qk := qk.below b
    replace qc := qc.below b
    replace hb := bstep hb b
    clear b
    clear um
    obtain ⟨cqa0, cqa1, cqa2⟩ := qa.cells
    obtain ⟨cqk0, cqk1, cqk2⟩ := qk.cells
    obtain ⟨cqc0, cqc1, cqc2⟩ := qc.cells
    go_wp2_with fail
    clear cqa0 cqa1 cqa2 cqk0 cqk1 cqk2 cqc0 cqc1 cqc2
    refine (hpf _).mono ?_
    rintro e w14 ⟨v, rfl, hv, b⟩
    clear hpf
    obtain ⟨ny, yo, yl, yc, yO, yL, yC, rfl, ty⟩ := hv.seeS
    clear hv
    replace ia := ia.below b
    replace tk := tk.below b
    replace tc := tc.below b
    replace qa := qa.below b
    replace qk := qk.below b
    replace qc := qc.below b
    replace hb := bstep hb b
    clear b
    have ia0 := ia
    have tk0 := tk
    have tc0 := tc
    have qa0 := qa
    have qk0 := qk
    have qc0 := qc
    have hb0 := hb
    have hbu := Below.refl w14.heap.size w14
    obtain ⟨W15, hW15⟩ : ∃ W, W = w14.alloc (.cells #[.bool ny, .slice yo yl yc, .slice yO yL yC] 27) := ⟨_, rfl⟩
    have qy : QCell W15 (w14.heap.size) ny (.slice yo yl yc) (.slice yO yL yC) := by rw [hW15]; exact (qcell_new _ rfl)
    have b : Below w14.heap.size w14 W15 := by rw [hW15]; exact belowA _ _
    replace ia := ia.below b
    replace tk := tk.below b
    replace tc := tc.below b
    replace ty := ty.below b
    replace hbu := bstep hbu b
    replace qa := qa.below b
    replace qk := qk.below b
    replace qc := qc.below b
    replace hb := bstep hb b
    clear b
    have rqa0 : (w14.alloc (.cells #[.bool ny, .slice yo yl yc, .slice yO yL yC] 27)).cell? ⟨v4, 0, none⟩ = some (.bool nx) := by rw [← hW15]; exact qa.cells.1
    have rqa1 : (w14.alloc (.cells #[.bool ny, .slice yo yl yc, .slice yO yL yC] 27)).cell? ⟨v4, 1, none⟩ = some (.slice xo al xc) := by rw [← hW15]; exact qa.cells.2.1
    have rqa2 : (w14.alloc (.cells #[.bool ny, .slice yo yl yc, .slice yO yL yC] 27)).cell? ⟨v4, 2, none⟩ = some (.slice xO aL xC) := by rw [← hW15]; exact qa.cells.2.2
    have rqk0 : (w14.alloc (.cells #[.bool ny, .slice yo yl yc, .slice yO yL yC] 27)).cell? ⟨v7, 0, none⟩ = some (.bool nk) := by rw [← hW15]; exact qk.cells.1
    have rqk1 : (w14.alloc (.cells #[.bool ny, .slice yo yl yc, .slice yO yL yC] 27)).cell? ⟨v7, 1, none⟩ = some (.slice ko kl kc) := by rw [← hW15]; exact qk.cells.2.1
    have rqk2 : (w14.alloc (.cells #[.bool ny, .slice yo yl yc, .slice yO yL yC] 27)).cell? ⟨v7, 2, none⟩ = some (.slice kO kL kC) := by rw [← hW15]; exact qk.cells.2.2
    have rqc0 : (w14.alloc (.cells #[.bool ny, .slice yo yl yc, .slice yO yL yC] 27)).cell? ⟨v9, 0, none⟩ = some (.bool nc) := by rw [← hW15]; exact qc.cells.1
    have rqc1 : (w14.alloc (.cells #[.bool ny, .slice yo yl yc, .slice yO yL yC] 27)).cell? ⟨v9, 1, none⟩ = some (.slice co cl cc) := by rw [← hW15]; exact qc.cells.2.1
    have rqc2 : (w14.alloc (.cells #[.bool ny, .slice yo yl yc, .slice yO yL yC] 27)).cell? ⟨v9, 2, none⟩ = some (.slice cO cL cC) := by rw [← hW15]; exact qc.cells.2.2
    have rqy0 : (w14.alloc (.cells #[.bool ny, .slice yo yl yc, .slice yO yL yC] 27)).cell? ⟨w14.heap.size, 0, none⟩ = some (.bool ny) := by rw [← hW15]; exact qy.cells.1
    have rqy1 : (w14.alloc (.cells #[.bool ny, .slice yo yl yc, .slice yO yL yC] 27)).cell? ⟨w14.heap.size, 1, none⟩ = some (.slice yo yl yc) := by rw [← hW15]; exact qy.cells.2.1
    have rqy2 : (w14.alloc (.cells #[.bool ny, .slice yo yl yc, .slice yO yL yC] 27)).cell? ⟨w14.heap.size, 2, none⟩ = some (.slice yO yL yC) := by rw [← hW15]; exact qy.cells.2.2
    obtain ⟨v15, hv15⟩ : ∃ v, v = w14.heap.size := ⟨_, rfl⟩
    rw [← hv15] at qy
    have HW15 : Hid (W15 = w14.alloc (.cells #[.bool ny, .slice yo yl yc, .slice yO yL yC] 27)) := hW15
    have Hv15 : Hid (v15 = w14.heap.size) := hv15
    clear hW15 hv15
    go_wp2_with fail
    rw [← HW15.out, ← Hv15.out]
    have HV : Hid (v15 = w14.heap.size) := Hv15.out
    clear HW15 Hv15 rqa0 rqa1 rqa2 rqk0 rqk1 rqk2 rqc0 rqc1 rqc2 rqy0 rqy1 rqy2
    have hq := c_rneg (ty.num sG (by decide)) (by decide)
    rw [HGC.out] at hq
    have hszz : v15 < W15.heap.size := (Array.getElem?_eq_some_iff.1 (show W15.heap[v15]? = _ from qy)).1
    refine (hq).mono ?_
    rintro e w16 ⟨v, rfl, hv, b⟩
    clear hq
    obtain ⟨m, m2, rfl, hm, hd9, hap⟩ := hv
    obtain ⟨zo, zl, zc, rfl⟩ := hm.sl
    obtain ⟨zO, zL, zC, rfl⟩ := hd9.sl
    obtain ⟨nz, hnz⟩ : ∃ b, b = decide (C.num < 0) := ⟨_, rfl⟩
    rw [← hnz]
    replace ia := ia.below b
    replace tk := tk.below b
    replace tc := tc.below b
    replace ty := ty.below b
    replace hbu := bstep hbu b
    replace qa := qa.below b
    replace qk := qk.below b
    replace qc := qc.below b
    replace qy := qy.below b
    replace hb := bstep hb b
    clear b
    obtain ⟨Y, hY⟩ : ∃ Y, Y = (((w16.setCell ⟨v15, 0, none⟩ (.bool nz)).setCell ⟨v15, 1, none⟩ (.slice zo zl zc)).setCell ⟨v15, 2, none⟩ (.slice zO zL zC)) := ⟨_, rfl⟩
    have tz : RStd Y (.agg #[.bool nz, .slice zo zl zc, .slice zO zL zC]) C := by rw [hY]; exact (rown_store (B := 0) hnz hm hd9 hap hszz (Nat.zero_le _)).std
    have hbY : Below w14.heap.size w14 Y := by rw [hY]; exact iend3 hbu (by rw [HV.out]; exact Nat.le_refl _)
    have qyY : QCell Y v15 nz (.slice zo zl zc) (.slice zO zL zC) := by rw [hY]; exact qy.write _ _ _
    obtain ⟨y0, y1, y2⟩ := qy.cells
    have f0 := qy.thaw 0
    have f1 := qy.thaw 1
    have f2 := qy.thaw 2
    clear hb hbu ia tk tc ty qa qk qc qy hm hd9 hap hnz hszz
    have ia := ia0.below hbY
    have tk := tk0.below hbY
    have tc := tc0.below hbY
    have qa := qa0.below hbY
    have qk := qk0.below hbY
    have qc := qc0.below hbY
    have hb := bstep hb0 hbY
    have qy := qyY
    clear ia0 tk0 tc0 qa0 qk0 qc0 hb0 qyY hbY HV
    have rqa0 : (((w16.setCell ⟨v15, 0, none⟩ (.bool nz)).setCell ⟨v15, 1, none⟩ (.slice zo zl zc)).setCell ⟨v15, 2, none⟩ (.slice zO zL zC)).cell? ⟨v4, 0, none⟩ = some (.bool nx) := by rw [← hY]; exact qa.cells.1
    have rqa1 : (((w16.setCell ⟨v15, 0, none⟩ (.bool nz)).setCell ⟨v15, 1, none⟩ (.slice zo zl zc)).setCell ⟨v15, 2, none⟩ (.slice zO zL zC)).cell? ⟨v4, 1, none⟩ = some (.slice xo al xc) := by rw [← hY]; exact qa.cells.2.1
    have rqa2 : (((w16.setCell ⟨v15, 0, none⟩ (.bool nz)).setCell ⟨v15, 1, none⟩ (.slice zo zl zc)).setCell ⟨v15, 2, none⟩ (.slice zO zL zC)).cell? ⟨v4, 2, none⟩ = some (.slice xO aL xC) := by rw [← hY]; exact qa.cells.2.2
    have rqk0 : (((w16.setCell ⟨v15, 0, none⟩ (.bool nz)).setCell ⟨v15, 1, none⟩ (.slice zo zl zc)).setCell ⟨v15, 2, none⟩ (.slice zO zL zC)).cell? ⟨v7, 0, none⟩ = some (.bool nk) := by rw [← hY]; exact qk.cells.1
    have rqk1 : (((w16.setCell ⟨v15, 0, none⟩ (.bool nz)).setCell ⟨v15, 1, none⟩ (.slice zo zl zc)).setCell ⟨v15, 2, none⟩ (.slice zO zL zC)).cell? ⟨v7, 1, none⟩ = some (.slice ko kl kc) := by rw [← hY]; exact qk.cells.2.1
    have rqk2 : (((w16.setCell ⟨v15, 0, none⟩ (.bool nz)).setCell ⟨v15, 1, none⟩ (.slice zo zl zc)).setCell ⟨v15, 2, none⟩ (.slice zO zL zC)).cell? ⟨v7, 2, none⟩ = some (.slice kO kL kC) := by rw [← hY]; exact qk.cells.2.2
    have rqc0 : (((w16.setCell ⟨v15, 0, none⟩ (.bool nz)).setCell ⟨v15, 1, none⟩ (.slice zo zl zc)).setCell ⟨v15, 2, none⟩ (.slice zO zL zC)).cell? ⟨v9, 0, none⟩ = some (.bool nc) := by rw [← hY]; exact qc.cells.1
    have rqc1 : (((w16.setCell ⟨v15, 0, none⟩ (.bool nz)).setCell ⟨v15, 1, none⟩ (.slice zo zl zc)).setCell ⟨v15, 2, none⟩ (.slice zO zL zC)).cell? ⟨v9, 1, none⟩ = some (.slice co cl cc) := by rw [← hY]; exact qc.cells.2.1
    have rqc2 : (((w16.setCell ⟨v15, 0, none⟩ (.bool nz)).setCell ⟨v15, 1, none⟩ (.slice zo zl zc)).setCell ⟨v15, 2, none⟩ (.slice zO zL zC)).cell? ⟨v9, 2, none⟩ = some (.slice cO cL cC) := by rw [← hY]; exact qc.cells.2.2
    have rqy0 : (((w16.setCell ⟨v15, 0, none⟩ (.bool nz)).setCell ⟨v15, 1, none⟩ (.slice zo zl zc)).setCell ⟨v15, 2, none⟩ (.slice zO zL zC)).cell? ⟨v15, 0, none⟩ = some (.bool nz) := by rw [← hY]; exact qy.cells.1
    have rqy1 : (((w16.setCell ⟨v15, 0, none⟩ (.bool nz)).setCell ⟨v15, 1, none⟩ (.slice zo zl zc)).setCell ⟨v15, 2, none⟩ (.slice zO zL zC)).cell? ⟨v15, 1, none⟩ = some (.slice zo zl zc) := by rw [← hY]; exact qy.cells.2.1
    have rqy2 : (((w16.setCell ⟨v15, 0, none⟩ (.bool nz)).setCell ⟨v15, 1, none⟩ (.slice zo zl zc)).setCell ⟨v15, 2, none⟩ (.slice zO zL zC)).cell? ⟨v15, 2, none⟩ = some (.slice zO zL zC) := by rw [← hY]; exact qy.cells.2.2
    have HY : Hid (Y = (((w16.setCell ⟨v15, 0, none⟩ (.bool nz)).setCell ⟨v15, 1, none⟩ (.slice zo zl zc)).setCell ⟨v15, 2, none⟩ (.slice zO zL zC))) := hY
    clear hY
    go_wp2_with fail
    rw [← HY.out]
    clear HY y0 y1 y2 f0 f1 f2 rqa0 rqa1 rqa2 rqk0 rqk1 rqk2 rqc0 rqc1 rqc2 rqy0 rqy1 rqy2
    have hq := c_rcmp ia (tk.num sA (by decide)) (by decide)
    rw [cmpQ_self] at hq
    refine (hq).mono ?_
    rintro e w17 ⟨rfl, b⟩
    clear hq
    replace ia := ia.below b
    replace tk := tk.below b
    replace tc := tc.below b
    replace tz := tz.below b
    replace qa := qa.below b
    replace qk := qk.below b
    replace qc := qc.below b
    replace qy := qy.below b
    replace hb := bstep hb b
    clear b
    obtain ⟨cqa0, cqa1, cqa2⟩ := qa.cells
    obtain ⟨cqk0, cqk1, cqk2⟩ := qk.cells
    obtain ⟨cqc0, cqc1, cqc2⟩ := qc.cells
    obtain ⟨cqy0, cqy1, cqy2⟩ := qy.cells
    go_wp2_with fail
    clear cqa0 cqa1 cqa2 cqk0 cqk1 cqk2 cqc0 cqc1 cqc2 cqy0 cqy1 cqy2
    refine (l_lowest tk sA (by decide)).mono ?_
    rintro e w18 ⟨rfl, b⟩
    replace ia := ia.below b
    replace tk := tk.below b
    replace tc := tc.below b
    replace tz := tz.below b
    replace qa := qa.below b
    replace qk := qk.below b
    replace qc := qc.below b
    replace qy := qy.below b
    replace hb := bstep hb b
    clear b
    obtain ⟨cqa0, cqa1, cqa2⟩ := qa.cells
    obtain ⟨cqk0, cqk1, cqk2⟩ := qk.cells
    obtain ⟨cqc0, cqc1, cqc2⟩ := qc.cells
    obtain ⟨cqy0, cqy1, cqy2⟩ := qy.cells
    go_wp2_with fail
    clear cqa0 cqa1 cqa2 cqk0 cqk1 cqk2 cqc0 cqc1 cqc2 cqy0 cqy1 cqy2
    have hq := l_alike tc tz sC (by decide) (by decide)
    refine (hq).mono ?_
    rintro e w19 ⟨rfl, b⟩
    clear hq
    replace ia := ia.below b
    replace tk := tk.below b
    replace tc := tc.below b
    replace tz := tz.below b
    replace qa := qa.below b
    replace qk := qk.below b
    replace qc := qc.below b
    replace qy := qy.below b
    replace hb := bstep hb b
    clear b
    have HE : Hid (Below w1.heap.size w1 w19) := hb
    clear hb qa qk qc qy ia tk tc tz
    go_wp2_with fail
    go_ret
    exact ⟨rfl, HE.out⟩
  · subst hd0
    have hpn : Calls Tryd.prog 17 #[.string (two47 (zt n) (txt 0))] = Calls Tryd.prog 17 #[.string (two47 (zt n) (txt 0))] := rfl
    clear hpn
    have hz1 := zt_size (sz_of hn1 hn2)
    have hz2 := txt_short (n := 0) (L := 8) (by decide)
    have hpf := fun w => c_fparse2_no n 0 8 w (sz_of hn1 hn2) (by decide) (by decide) (by omega) (by omega) rfl
    obtain ⟨t1, ht1⟩ : ∃ t, t = zt n := ⟨_, rfl⟩
    have HT1 : Hid (zt n = t1) := ht1.symm
    obtain ⟨t2, ht2⟩ : ∃ t, t = txt 0 := ⟨_, rfl⟩
    have HT2 : Hid (txt 0 = t2) := ht2.symm
    rw [← ht1] at hpf hz1
    rw [← ht2] at hpf hz2
    obtain ⟨t3, ht3⟩ : ∃ t, t1 ++ ⟨#[47]⟩ = t := ⟨_, rfl⟩
    have hz3 : t3.size ≤ 1000 := by rw [← ht3, ByteArray.size_append]; show t1.size + 1 ≤ 1000; omega
    obtain ⟨ts, hts⟩ : ∃ t, t3 ++ t2 = t := ⟨_, rfl⟩
    rw [show two47 t1 t2 = ts by unfold two47; rw [ht3, hts]] at hpf
    clear ht1 ht2
    obtain ⟨W1, hW1⟩ : ∃ W1, W1 = w1.alloc (.cells #[.bool nx, .slice xo xl xc, .slice xO xL xC] 27) := ⟨_, rfl⟩
    have qx : QCell W1 (w1.heap.size) nx (.slice xo xl xc) (.slice xO xL xC) := by rw [hW1]; exact (qcell_new _ (by simp))
    have hb : Below w1.heap.size w1 W1 := by rw [hW1]; exact belowA w1 _
    have hsz : w1.heap.size < W1.heap.size := by rw [hW1]; simp
    replace ux := ux.below (Nat.le_refl _) hb
    replace dx := dx.below (Nat.le_refl _) hb
    have HW1 : Hid (W1 = w1.alloc (.cells #[.bool nx, .slice xo xl xc, .slice xO xL xC] 27)) := hW1
    clear hW1
    go_enter Tryd.func4, Tryd.ntmps4
    go_wp2_with fail
    rw [← HW1.out]
    clear HW1
    obtain ⟨g, hg⟩ : ∃ g, g = w1.heap.size := ⟨_, rfl⟩
    rw [← hg] at qx hsz ⊢
    have HG : Hid (g = w1.heap.size) := hg
    clear hg
    clear hsz
    refine (l_awake).mono ?_
    rintro e w2 ⟨rfl, b⟩
    replace ux := ux.below (Nat.le_refl _) b
    replace dx := dx.below (Nat.le_refl _) b
    replace qx := qx.below b
    replace hb := bstep hb b
    clear b
    obtain ⟨cqx0, cqx1, cqx2⟩ := qx.cells
    go_wp2_with fail
    clear cqx0 cqx1 cqx2
    refine (c_cut nx xo xO xl xc xL xC 12 vx ex _ ux dx (by decide)).mono ?_
    rintro e w3 ⟨rfl, b⟩
    replace ux := ux.below (Nat.le_refl _) b
    replace dx := dx.below (Nat.le_refl _) b
    replace qx := qx.below b
    replace hb := bstep hb b
    clear b
    obtain ⟨al, hal⟩ : ∃ l, l = min xl 12 := ⟨_, rfl⟩
    obtain ⟨aL, haL⟩ : ∃ l, l = min xL 12 := ⟨_, rfl⟩
    rw [← hal, ← haL]
    have k1 := num_cut (k := al) ux (by omega)
    have k2 := num_cut (k := aL) dx (by omega)
    have ia := rnum_of (n := nx) (L := 12) k1 k2 (by rw [List.length_take]; omega) (by rw [List.length_take]; omega) (by decide) (by decide)
    obtain ⟨A, hA⟩ : ∃ A, A = rq (zv nx (val (vx.take al))) (val (ex.take aL)) := ⟨_, rfl⟩
    rw [← hA] at ia
    have sA : RSz A 12 := ia.sz
    clear k1 k2 hal haL hA
    clear ux dx qx
    obtain ⟨W4, hW4⟩ : ∃ W, W = w3.alloc (.cells #[.bool nx, .slice xo al xc, .slice xO aL xC] 27) := ⟨_, rfl⟩
    have qa : QCell W4 (w3.heap.size) nx (.slice xo al xc) (.slice xO aL xC) := by rw [hW4]; exact (qcell_new _ rfl)
    have b : Below w3.heap.size w3 W4 := by rw [hW4]; exact belowA _ _
    replace ia := ia.below b
    replace hb := bstep hb b
    clear b
    have rqa0 : (w3.alloc (.cells #[.bool nx, .slice xo al xc, .slice xO aL xC] 27)).cell? ⟨w3.heap.size, 0, none⟩ = some (.bool nx) := by rw [← hW4]; exact qa.cells.1
    have rqa1 : (w3.alloc (.cells #[.bool nx, .slice xo al xc, .slice xO aL xC] 27)).cell? ⟨w3.heap.size, 1, none⟩ = some (.slice xo al xc) := by rw [← hW4]; exact qa.cells.2.1
    have rqa2 : (w3.alloc (.cells #[.bool nx, .slice xo al xc, .slice xO aL xC] 27)).cell? ⟨w3.heap.size, 2, none⟩ = some (.slice xO aL xC) := by rw [← hW4]; exact qa.cells.2.2
    obtain ⟨v4, hv4⟩ : ∃ v, v = w3.heap.size := ⟨_, rfl⟩
    rw [← hv4] at qa
    have HW4 : Hid (W4 = w3.alloc (.cells #[.bool nx, .slice xo al xc, .slice xO aL xC] 27)) := hW4
    have Hv4 : Hid (v4 = w3.heap.size) := hv4
    clear hW4 hv4
    go_wp2_with fail
    rw [← HW4.out, ← Hv4.out]
    clear HW4 Hv4 rqa0 rqa1 rqa2
    have hq := c_rtext ia (by decide)
    have hpr := fun w => c_parse_rt (w := w) sA (by decide)
    obtain ⟨tr, htr⟩ : ∃ t, t = rt A := ⟨_, rfl⟩
    rw [← htr] at hq hpr
    clear htr
    refine (hq).mono ?_
    rintro e w5 ⟨rfl, b⟩
    clear hq
    replace ia := ia.below b
    replace qa := qa.below b
    replace hb := bstep hb b
    clear b
    obtain ⟨cqa0, cqa1, cqa2⟩ := qa.cells
    go_wp2_with fail
    clear cqa0 cqa1 cqa2
    refine (hpr _).mono ?_
    rintro e w6 ⟨v, rfl, hv, b⟩
    clear hpr
    obtain ⟨nk, ko, kl, kc, kO, kL, kC, rfl, tk⟩ := hv.seeS
    clear hv
    replace ia := ia.below b
    replace qa := qa.below b
    replace hb := bstep hb b
    clear b
    obtain ⟨W7, hW7⟩ : ∃ W, W = w6.alloc (.cells #[.bool nk, .slice ko kl kc, .slice kO kL kC] 27) := ⟨_, rfl⟩
    have qk : QCell W7 (w6.heap.size) nk (.slice ko kl kc) (.slice kO kL kC) := by rw [hW7]; exact (qcell_new _ rfl)
    have b : Below w6.heap.size w6 W7 := by rw [hW7]; exact belowA _ _
    replace ia := ia.below b
    replace tk := tk.below b
    replace qa := qa.below b
    replace hb := bstep hb b
    clear b
    have rqa0 : (w6.alloc (.cells #[.bool nk, .slice ko kl kc, .slice kO kL kC] 27)).cell? ⟨v4, 0, none⟩ = some (.bool nx) := by rw [← hW7]; exact qa.cells.1
    have rqa1 : (w6.alloc (.cells #[.bool nk, .slice ko kl kc, .slice kO kL kC] 27)).cell? ⟨v4, 1, none⟩ = some (.slice xo al xc) := by rw [← hW7]; exact qa.cells.2.1
    have rqa2 : (w6.alloc (.cells #[.bool nk, .slice ko kl kc, .slice kO kL kC] 27)).cell? ⟨v4, 2, none⟩ = some (.slice xO aL xC) := by rw [← hW7]; exact qa.cells.2.2
    have rqk0 : (w6.alloc (.cells #[.bool nk, .slice ko kl kc, .slice kO kL kC] 27)).cell? ⟨w6.heap.size, 0, none⟩ = some (.bool nk) := by rw [← hW7]; exact qk.cells.1
    have rqk1 : (w6.alloc (.cells #[.bool nk, .slice ko kl kc, .slice kO kL kC] 27)).cell? ⟨w6.heap.size, 1, none⟩ = some (.slice ko kl kc) := by rw [← hW7]; exact qk.cells.2.1
    have rqk2 : (w6.alloc (.cells #[.bool nk, .slice ko kl kc, .slice kO kL kC] 27)).cell? ⟨w6.heap.size, 2, none⟩ = some (.slice kO kL kC) := by rw [← hW7]; exact qk.cells.2.2
    obtain ⟨v7, hv7⟩ : ∃ v, v = w6.heap.size := ⟨_, rfl⟩
    rw [← hv7] at qk
    have HW7 : Hid (W7 = w6.alloc (.cells #[.bool nk, .slice ko kl kc, .slice kO kL kC] 27)) := hW7
    have Hv7 : Hid (v7 = w6.heap.size) := hv7
    clear hW7 hv7
    go_wp2_with fail
    rw [← HW7.out, ← Hv7.out]
    clear HW7 Hv7 rqa0 rqa1 rqa2 rqk0 rqk1 rqk2
    refine (c_fof_no hn1 hn2).mono ?_
    rintro e w8 ⟨rfl, b⟩
    replace ia := ia.below b
    replace tk := tk.below b
    replace qa := qa.below b
    replace qk := qk.below b
    replace hb := bstep hb b
    clear b
    obtain ⟨W9, hW9⟩ : ∃ W, W = w8.alloc (.cells #[.bool false, .slice none 0 0, .slice none 0 0] 27) := ⟨_, rfl⟩
    have qc : QCell W9 (w8.heap.size) false (.slice none 0 0) (.slice none 0 0) := by rw [hW9]; exact (qcell_new _ rfl)
    have b : Below w8.heap.size w8 W9 := by rw [hW9]; exact belowA _ _
    replace ia := ia.below b
    replace tk := tk.below b
    replace qa := qa.below b
    replace qk := qk.below b
    replace hb := bstep hb b
    clear b
    have rqa0 : (w8.alloc (.cells #[.bool false, .slice none 0 0, .slice none 0 0] 27)).cell? ⟨v4, 0, none⟩ = some (.bool nx) := by rw [← hW9]; exact qa.cells.1
    have rqa1 : (w8.alloc (.cells #[.bool false, .slice none 0 0, .slice none 0 0] 27)).cell? ⟨v4, 1, none⟩ = some (.slice xo al xc) := by rw [← hW9]; exact qa.cells.2.1
    have rqa2 : (w8.alloc (.cells #[.bool false, .slice none 0 0, .slice none 0 0] 27)).cell? ⟨v4, 2, none⟩ = some (.slice xO aL xC) := by rw [← hW9]; exact qa.cells.2.2
    have rqk0 : (w8.alloc (.cells #[.bool false, .slice none 0 0, .slice none 0 0] 27)).cell? ⟨v7, 0, none⟩ = some (.bool nk) := by rw [← hW9]; exact qk.cells.1
    have rqk1 : (w8.alloc (.cells #[.bool false, .slice none 0 0, .slice none 0 0] 27)).cell? ⟨v7, 1, none⟩ = some (.slice ko kl kc) := by rw [← hW9]; exact qk.cells.2.1
    have rqk2 : (w8.alloc (.cells #[.bool false, .slice none 0 0, .slice none 0 0] 27)).cell? ⟨v7, 2, none⟩ = some (.slice kO kL kC) := by rw [← hW9]; exact qk.cells.2.2
    have rqc0 : (w8.alloc (.cells #[.bool false, .slice none 0 0, .slice none 0 0] 27)).cell? ⟨w8.heap.size, 0, none⟩ = some (.bool false) := by rw [← hW9]; exact qc.cells.1
    have rqc1 : (w8.alloc (.cells #[.bool false, .slice none 0 0, .slice none 0 0] 27)).cell? ⟨w8.heap.size, 1, none⟩ = some (.slice none 0 0) := by rw [← hW9]; exact qc.cells.2.1
    have rqc2 : (w8.alloc (.cells #[.bool false, .slice none 0 0, .slice none 0 0] 27)).cell? ⟨w8.heap.size, 2, none⟩ = some (.slice none 0 0) := by rw [← hW9]; exact qc.cells.2.2
    obtain ⟨v9, hv9⟩ : ∃ v, v = w8.heap.size := ⟨_, rfl⟩
    rw [← hv9] at qc
    have HW9 : Hid (W9 = w8.alloc (.cells #[.bool false, .slice none 0 0, .slice none 0 0] 27)) := hW9
    have Hv9 : Hid (v9 = w8.heap.size) := hv9
    clear hW9 hv9
    go_wp2_with fail
    rw [← HW9.out, ← Hv9.out]
    clear HW9 Hv9 rqa0 rqa1 rqa2 rqk0 rqk1 rqk2 rqc0 rqc1 rqc2
    refine (c_of hn1 hn2).mono ?_
    rintro e w10 ⟨v, rfl, hv, b⟩
    obtain ⟨nm, mo, ml, mc, rfl, im⟩ := hv.see (sz_of hn1 hn2) (by decide)
    clear hv
    replace ia := ia.below b
    replace tk := tk.below b
    replace qa := qa.below b
    replace qk := qk.below b
    replace qc := qc.below b
    replace hb := bstep hb b
    clear b
    obtain ⟨cqa0, cqa1, cqa2⟩ := qa.cells
    obtain ⟨cqk0, cqk1, cqk2⟩ := qk.cells
    obtain ⟨cqc0, cqc1, cqc2⟩ := qc.cells
    go_wp2_with fail
    clear cqa0 cqa1 cqa2 cqk0 cqk1 cqk2 cqc0 cqc1 cqc2
    have hq := c_text im
    rw [HT1.out] at hq
    refine (hq).mono ?_
    rintro e w11 ⟨rfl, b⟩
    clear hq
    replace ia := ia.below b
    replace tk := tk.below b
    replace im := im.below b
    replace qa := qa.below b
    replace qk := qk.below b
    replace qc := qc.below b
    replace hb := bstep hb b
    clear b
    clear im
    obtain ⟨cqa0, cqa1, cqa2⟩ := qa.cells
    obtain ⟨cqk0, cqk1, cqk2⟩ := qk.cells
    obtain ⟨cqc0, cqc1, cqc2⟩ := qc.cells
    go_wp2_with fail
    clear cqa0 cqa1 cqa2 cqk0 cqk1 cqk2 cqc0 cqc1 cqc2
    refine (c_of (n := 0) (by decide) (by decide)).mono ?_
    rintro e w12 ⟨v, rfl, ⟨m, rfl, hm⟩, b⟩
    obtain ⟨mo, ml, mc, rfl⟩ := hm.sl
    have um := hm.num
    clear hm
    generalize decide ((0 : Int) < 0) = nb
    replace ia := ia.below b
    replace tk := tk.below b
    replace qa := qa.below b
    replace qk := qk.below b
    replace qc := qc.below b
    replace hb := bstep hb b
    clear b
    have hfd : ∀ w : World, (Instr.field 25 (.agg #[.bool nb, .slice mo ml mc]) 1).run Tryd.prog w = .ok (.slice mo ml mc) w := fun _ => by kernel_rfl
    obtain ⟨cqa0, cqa1, cqa2⟩ := qa.cells
    obtain ⟨cqk0, cqk1, cqk2⟩ := qk.cells
    obtain ⟨cqc0, cqc1, cqc2⟩ := qc.cells
    go_wp2_with fail
    clear cqa0 cqa1 cqa2 cqk0 cqk1 cqk2 cqc0 cqc1 cqc2
    clear hfd
    have hq := text_any _ _ _ um (by decide)
    rw [val_lim, show (0 : Int).natAbs = 0 from rfl, HT2.out] at hq
    refine (hq).mono ?_
    rintro e w13 ⟨rfl, b⟩
    clear hq
    replace ia := ia.below b
    replace tk := tk.below b
    replace um := um.below (Nat.le_refl _) b
    replace qa := qa.below b
    replace qk := qk.below b
    replace qc := qc.below b
    replace hb := bstep hb b
    clear b
    clear um
    obtain ⟨cqa0, cqa1, cqa2⟩ := qa.cells
    obtain ⟨cqk0, cqk1, cqk2⟩ := qk.cells
    obtain ⟨cqc0, cqc1, cqc2⟩ := qc.cells
    go_wp2_with fail
    clear cqa0 cqa1 cqa2 cqk0 cqk1 cqk2 cqc0 cqc1 cqc2
    refine (hpf _).mono ?_
    rintro e w14 ⟨rfl, b⟩
    clear hpf
    replace ia := ia.below b
    replace tk := tk.below b
    replace qa := qa.below b
    replace qk := qk.below b
    replace qc := qc.below b
    replace hb := bstep hb b
    clear b
    obtain ⟨W15, hW15⟩ : ∃ W, W = w14.alloc (.cells #[.bool false, .slice none 0 0, .slice none 0 0] 27) := ⟨_, rfl⟩
    have qy : QCell W15 (w14.heap.size) false (.slice none 0 0) (.slice none 0 0) := by rw [hW15]; exact (qcell_new _ rfl)
    have b : Below w14.heap.size w14 W15 := by rw [hW15]; exact belowA _ _
    replace ia := ia.below b
    replace tk := tk.below b
    replace qa := qa.below b
    replace qk := qk.below b
    replace qc := qc.below b
    replace hb := bstep hb b
    clear b
    have rqa0 : (w14.alloc (.cells #[.bool false, .slice none 0 0, .slice none 0 0] 27)).cell? ⟨v4, 0, none⟩ = some (.bool nx) := by rw [← hW15]; exact qa.cells.1
    have rqa1 : (w14.alloc (.cells #[.bool false, .slice none 0 0, .slice none 0 0] 27)).cell? ⟨v4, 1, none⟩ = some (.slice xo al xc) := by rw [← hW15]; exact qa.cells.2.1
    have rqa2 : (w14.alloc (.cells #[.bool false, .slice none 0 0, .slice none 0 0] 27)).cell? ⟨v4, 2, none⟩ = some (.slice xO aL xC) := by rw [← hW15]; exact qa.cells.2.2
    have rqk0 : (w14.alloc (.cells #[.bool false, .slice none 0 0, .slice none 0 0] 27)).cell? ⟨v7, 0, none⟩ = some (.bool nk) := by rw [← hW15]; exact qk.cells.1
    have rqk1 : (w14.alloc (.cells #[.bool false, .slice none 0 0, .slice none 0 0] 27)).cell? ⟨v7, 1, none⟩ = some (.slice ko kl kc) := by rw [← hW15]; exact qk.cells.2.1
    have rqk2 : (w14.alloc (.cells #[.bool false, .slice none 0 0, .slice none 0 0] 27)).cell? ⟨v7, 2, none⟩ = some (.slice kO kL kC) := by rw [← hW15]; exact qk.cells.2.2
    have rqc0 : (w14.alloc (.cells #[.bool false, .slice none 0 0, .slice none 0 0] 27)).cell? ⟨v9, 0, none⟩ = some (.bool false) := by rw [← hW15]; exact qc.cells.1
    have rqc1 : (w14.alloc (.cells #[.bool false, .slice none 0 0, .slice none 0 0] 27)).cell? ⟨v9, 1, none⟩ = some (.slice none 0 0) := by rw [← hW15]; exact qc.cells.2.1
    have rqc2 : (w14.alloc (.cells #[.bool false, .slice none 0 0, .slice none 0 0] 27)).cell? ⟨v9, 2, none⟩ = some (.slice none 0 0) := by rw [← hW15]; exact qc.cells.2.2
    have rqy0 : (w14.alloc (.cells #[.bool false, .slice none 0 0, .slice none 0 0] 27)).cell? ⟨w14.heap.size, 0, none⟩ = some (.bool false) := by rw [← hW15]; exact qy.cells.1
    have rqy1 : (w14.alloc (.cells #[.bool false, .slice none 0 0, .slice none 0 0] 27)).cell? ⟨w14.heap.size, 1, none⟩ = some (.slice none 0 0) := by rw [← hW15]; exact qy.cells.2.1
    have rqy2 : (w14.alloc (.cells #[.bool false, .slice none 0 0, .slice none 0 0] 27)).cell? ⟨w14.heap.size, 2, none⟩ = some (.slice none 0 0) := by rw [← hW15]; exact qy.cells.2.2
    obtain ⟨v15, hv15⟩ : ∃ v, v = w14.heap.size := ⟨_, rfl⟩
    rw [← hv15] at qy
    have HW15 : Hid (W15 = w14.alloc (.cells #[.bool false, .slice none 0 0, .slice none 0 0] 27)) := hW15
    have Hv15 : Hid (v15 = w14.heap.size) := hv15
    clear hW15 hv15
    go_wp2_with fail
    rw [← HW15.out, ← Hv15.out]
    clear HW15 Hv15 rqa0 rqa1 rqa2 rqk0 rqk1 rqk2 rqc0 rqc1 rqc2 rqy0 rqy1 rqy2
    have hq := c_rcmp ia (tk.num sA (by decide)) (by decide)
    rw [cmpQ_self] at hq
    refine (hq).mono ?_
    rintro e w16 ⟨rfl, b⟩
    clear hq
    replace ia := ia.below b
    replace tk := tk.below b
    replace qa := qa.below b
    replace qk := qk.below b
    replace qc := qc.below b
    replace qy := qy.below b
    replace hb := bstep hb b
    clear b
    obtain ⟨cqa0, cqa1, cqa2⟩ := qa.cells
    obtain ⟨cqk0, cqk1, cqk2⟩ := qk.cells
    obtain ⟨cqc0, cqc1, cqc2⟩ := qc.cells
    obtain ⟨cqy0, cqy1, cqy2⟩ := qy.cells
    go_wp2_with fail
    clear cqa0 cqa1 cqa2 cqk0 cqk1 cqk2 cqc0 cqc1 cqc2 cqy0 cqy1 cqy2
    refine (l_lowest tk sA (by decide)).mono ?_
    rintro e w17 ⟨rfl, b⟩
    replace ia := ia.below b
    replace tk := tk.below b
    replace qa := qa.below b
    replace qk := qk.below b
    replace qc := qc.below b
    replace qy := qy.below b
    replace hb := bstep hb b
    clear b
    have HE : Hid (Below w1.heap.size w1 w17) := hb
    clear hb qa qk qc qy ia tk
    go_wp2_with fail
    go_ret
    exact ⟨rfl, HE.out⟩
  · obtain ⟨e, he⟩ : ∃ e : Nat, e = d.natAbs := ⟨_, rfl⟩
    obtain ⟨C, hC⟩ : ∃ C, C = Rat.divInt n d := ⟨_, rfl⟩
    have sC : RSz C 8 := by rw [hC]; exact RSz.of (by omega) (sz_of hn1 hn2) (sz_of hd1 hd2)
    obtain ⟨G, hG⟩ : ∃ C, C = Rat.divInt n (e : Int) := ⟨_, rfl⟩
    have he2 : (e : Int) = d := by omega
    have se : Sz (e : Int) 8 := by rw [he2]; exact sz_of hd1 hd2
    have sG : RSz G 8 := by rw [hG]; exact RSz.of (by omega) (sz_of hn1 hn2) se
    have HGC : Hid (G = C) := by show _ = _; rw [hG, hC, he2]
    have HC : Hid (Rat.divInt n d = C) := hC.symm
    have HG : Hid (Rat.divInt n (e : Int) = G) := hG.symm
    have he0 : e ≠ 0 := by omega
    have HE0 : Hid (e ≠ 0) := he0
    have HDE : Hid (d.natAbs = e) := he.symm
    have hdne : d ≠ 0 := by omega
    have HDN : Hid (d ≠ 0) := hdne
    have hde0 : (d == 0) = false := by simpa using hdne
    have hdn0 : (d != 0) = true := by simpa using hdne
    have lee := se.len
    rw [Int.natAbs_natCast] at lee
    clear hC hG he2 he0 hdne he se
    have hdl : ¬ d < 0 := by omega
    have hpn : Calls Tryd.prog 17 #[.string (two47 (zt n) (txt e))] = Calls Tryd.prog 17 #[.string (two47 (zt n) (txt e))] := rfl
    clear hpn
    have hz1 := zt_size (sz_of hn1 hn2)
    have hz2 := txt_short (n := e) (L := 8) lee
    have hpf := fun w => c_fparse2_yes n e 8 w (sz_of hn1 hn2) (by decide) (by omega) (by omega) (by omega) HE0.out
    rw [HG.out] at hpf
    obtain ⟨t1, ht1⟩ : ∃ t, t = zt n := ⟨_, rfl⟩
    have HT1 : Hid (zt n = t1) := ht1.symm
    obtain ⟨t2, ht2⟩ : ∃ t, t = txt e := ⟨_, rfl⟩
    have HT2 : Hid (txt e = t2) := ht2.symm
    rw [← ht1] at hpf hz1
    rw [← ht2] at hpf hz2
    obtain ⟨t3, ht3⟩ : ∃ t, t1 ++ ⟨#[47]⟩ = t := ⟨_, rfl⟩
    have hz3 : t3.size ≤ 1000 := by rw [← ht3, ByteArray.size_append]; show t1.size + 1 ≤ 1000; omega
    obtain ⟨ts, hts⟩ : ∃ t, t3 ++ t2 = t := ⟨_, rfl⟩
    rw [show two47 t1 t2 = ts by unfold two47; rw [ht3, hts]] at hpf
    clear ht1 ht2
    obtain ⟨W1, hW1⟩ : ∃ W1, W1 = w1.alloc (.cells #[.bool nx, .slice xo xl xc, .slice xO xL xC] 27) := ⟨_, rfl⟩
    have qx : QCell W1 (w1.heap.size) nx (.slice xo xl xc) (.slice xO xL xC) := by rw [hW1]; exact (qcell_new _ (by simp))
    have hb : Below w1.heap.size w1 W1 := by rw [hW1]; exact belowA w1 _
    have hsz : w1.heap.size < W1.heap.size := by rw [hW1]; simp
    replace ux := ux.below (Nat.le_refl _) hb
    replace dx := dx.below (Nat.le_refl _) hb
    have HW1 : Hid (W1 = w1.alloc (.cells #[.bool nx, .slice xo xl xc, .slice xO xL xC] 27)) := hW1
    clear hW1
    go_enter Tryd.func4, Tryd.ntmps4
    go_wp2_with fail
    rw [← HW1.out]
    clear HW1
    obtain ⟨g, hg⟩ : ∃ g, g = w1.heap.size := ⟨_, rfl⟩
    rw [← hg] at qx hsz ⊢
    have HG : Hid (g = w1.heap.size) := hg
    clear hg
    clear hsz
    refine (l_awake).mono ?_
    rintro e w2 ⟨rfl, b⟩
    replace ux := ux.below (Nat.le_refl _) b
    replace dx := dx.below (Nat.le_refl _) b
    replace qx := qx.below b
    replace hb := bstep hb b
    clear b
    obtain ⟨cqx0, cqx1, cqx2⟩ := qx.cells
    go_wp2_with fail
    clear cqx0 cqx1 cqx2
    refine (c_cut nx xo xO xl xc xL xC 12 vx ex _ ux dx (by decide)).mono ?_
    rintro e w3 ⟨rfl, b⟩
    replace ux := ux.below (Nat.le_refl _) b
    replace dx := dx.below (Nat.le_refl _) b
    replace qx := qx.below b
    replace hb := bstep hb b
    clear b
    obtain ⟨al, hal⟩ : ∃ l, l = min xl 12 := ⟨_, rfl⟩
    obtain ⟨aL, haL⟩ : ∃ l, l = min xL 12 := ⟨_, rfl⟩
    rw [← hal, ← haL]
    have k1 := num_cut (k := al) ux (by omega)
    have k2 := num_cut (k := aL) dx (by omega)
    have ia := rnum_of (n := nx) (L := 12) k1 k2 (by rw [List.length_take]; omega) (by rw [List.length_take]; omega) (by decide) (by decide)
    obtain ⟨A, hA⟩ : ∃ A, A = rq (zv nx (val (vx.take al))) (val (ex.take aL)) := ⟨_, rfl⟩
    rw [← hA] at ia
    have sA : RSz A 12 := ia.sz
    clear k1 k2 hal haL hA
    clear ux dx qx
    obtain ⟨W4, hW4⟩ : ∃ W, W = w3.alloc (.cells #[.bool nx, .slice xo al xc, .slice xO aL xC] 27) := ⟨_, rfl⟩
    have qa : QCell W4 (w3.heap.size) nx (.slice xo al xc) (.slice xO aL xC) := by rw [hW4]; exact (qcell_new _ rfl)
    have b : Below w3.heap.size w3 W4 := by rw [hW4]; exact belowA _ _
    replace ia := ia.below b
    replace hb := bstep hb b
    clear b
    have rqa0 : (w3.alloc (.cells #[.bool nx, .slice xo al xc, .slice xO aL xC] 27)).cell? ⟨w3.heap.size, 0, none⟩ = some (.bool nx) := by rw [← hW4]; exact qa.cells.1
    have rqa1 : (w3.alloc (.cells #[.bool nx, .slice xo al xc, .slice xO aL xC] 27)).cell? ⟨w3.heap.size, 1, none⟩ = some (.slice xo al xc) := by rw [← hW4]; exact qa.cells.2.1
    have rqa2 : (w3.alloc (.cells #[.bool nx, .slice xo al xc, .slice xO aL xC] 27)).cell? ⟨w3.heap.size, 2, none⟩ = some (.slice xO aL xC) := by rw [← hW4]; exact qa.cells.2.2
    obtain ⟨v4, hv4⟩ : ∃ v, v = w3.heap.size := ⟨_, rfl⟩
    rw [← hv4] at qa
    have HW4 : Hid (W4 = w3.alloc (.cells #[.bool nx, .slice xo al xc, .slice xO aL xC] 27)) := hW4
    have Hv4 : Hid (v4 = w3.heap.size) := hv4
    clear hW4 hv4
    go_wp2_with fail
    rw [← HW4.out, ← Hv4.out]
    clear HW4 Hv4 rqa0 rqa1 rqa2
    have hq := c_rtext ia (by decide)
    have hpr := fun w => c_parse_rt (w := w) sA (by decide)
    obtain ⟨tr, htr⟩ : ∃ t, t = rt A := ⟨_, rfl⟩
    rw [← htr] at hq hpr
    clear htr
    refine (hq).mono ?_
    rintro e w5 ⟨rfl, b⟩
    clear hq
    replace ia := ia.below b
    replace qa := qa.below b
    replace hb := bstep hb b
    clear b
    obtain ⟨cqa0, cqa1, cqa2⟩ := qa.cells
    go_wp2_with fail
    clear cqa0 cqa1 cqa2
    refine (hpr _).mono ?_
    rintro e w6 ⟨v, rfl, hv, b⟩
    clear hpr
    obtain ⟨nk, ko, kl, kc, kO, kL, kC, rfl, tk⟩ := hv.seeS
    clear hv
    replace ia := ia.below b
    replace qa := qa.below b
    replace hb := bstep hb b
    clear b
    obtain ⟨W7, hW7⟩ : ∃ W, W = w6.alloc (.cells #[.bool nk, .slice ko kl kc, .slice kO kL kC] 27) := ⟨_, rfl⟩
    have qk : QCell W7 (w6.heap.size) nk (.slice ko kl kc) (.slice kO kL kC) := by rw [hW7]; exact (qcell_new _ rfl)
    have b : Below w6.heap.size w6 W7 := by rw [hW7]; exact belowA _ _
    replace ia := ia.below b
    replace tk := tk.below b
    replace qa := qa.below b
    replace hb := bstep hb b
    clear b
    have rqa0 : (w6.alloc (.cells #[.bool nk, .slice ko kl kc, .slice kO kL kC] 27)).cell? ⟨v4, 0, none⟩ = some (.bool nx) := by rw [← hW7]; exact qa.cells.1
    have rqa1 : (w6.alloc (.cells #[.bool nk, .slice ko kl kc, .slice kO kL kC] 27)).cell? ⟨v4, 1, none⟩ = some (.slice xo al xc) := by rw [← hW7]; exact qa.cells.2.1
    have rqa2 : (w6.alloc (.cells #[.bool nk, .slice ko kl kc, .slice kO kL kC] 27)).cell? ⟨v4, 2, none⟩ = some (.slice xO aL xC) := by rw [← hW7]; exact qa.cells.2.2
    have rqk0 : (w6.alloc (.cells #[.bool nk, .slice ko kl kc, .slice kO kL kC] 27)).cell? ⟨w6.heap.size, 0, none⟩ = some (.bool nk) := by rw [← hW7]; exact qk.cells.1
    have rqk1 : (w6.alloc (.cells #[.bool nk, .slice ko kl kc, .slice kO kL kC] 27)).cell? ⟨w6.heap.size, 1, none⟩ = some (.slice ko kl kc) := by rw [← hW7]; exact qk.cells.2.1
    have rqk2 : (w6.alloc (.cells #[.bool nk, .slice ko kl kc, .slice kO kL kC] 27)).cell? ⟨w6.heap.size, 2, none⟩ = some (.slice kO kL kC) := by rw [← hW7]; exact qk.cells.2.2
    obtain ⟨v7, hv7⟩ : ∃ v, v = w6.heap.size := ⟨_, rfl⟩
    rw [← hv7] at qk
    have HW7 : Hid (W7 = w6.alloc (.cells #[.bool nk, .slice ko kl kc, .slice kO kL kC] 27)) := hW7
    have Hv7 : Hid (v7 = w6.heap.size) := hv7
    clear hW7 hv7
    go_wp2_with fail
    rw [← HW7.out, ← Hv7.out]
    clear HW7 Hv7 rqa0 rqa1 rqa2 rqk0 rqk1 rqk2
    have hq := c_fof (w := W7) hn1 hn2 hd1 hd2 HDN.out
    rw [HC.out] at hq
    refine (hq).mono ?_
    rintro e w8 ⟨v, rfl, hv, b⟩
    clear hq
    obtain ⟨nc, co, cl, cc, cO, cL, cC, rfl, tc⟩ := hv.seeS
    clear hv
    replace ia := ia.below b
    replace tk := tk.below b
    replace qa := qa.below b
    replace qk := qk.below b
    replace hb := bstep hb b
    clear b
    obtain ⟨W9, hW9⟩ : ∃ W, W = w8.alloc (.cells #[.bool nc, .slice co cl cc, .slice cO cL cC] 27) := ⟨_, rfl⟩
    have qc : QCell W9 (w8.heap.size) nc (.slice co cl cc) (.slice cO cL cC) := by rw [hW9]; exact (qcell_new _ rfl)
    have b : Below w8.heap.size w8 W9 := by rw [hW9]; exact belowA _ _
    replace ia := ia.below b
    replace tk := tk.below b
    replace tc := tc.below b
    replace qa := qa.below b
    replace qk := qk.below b
    replace hb := bstep hb b
    clear b
    have rqa0 : (w8.alloc (.cells #[.bool nc, .slice co cl cc, .slice cO cL cC] 27)).cell? ⟨v4, 0, none⟩ = some (.bool nx) := by rw [← hW9]; exact qa.cells.1
    have rqa1 : (w8.alloc (.cells #[.bool nc, .slice co cl cc, .slice cO cL cC] 27)).cell? ⟨v4, 1, none⟩ = some (.slice xo al xc) := by rw [← hW9]; exact qa.cells.2.1
    have rqa2 : (w8.alloc (.cells #[.bool nc, .slice co cl cc, .slice cO cL cC] 27)).cell? ⟨v4, 2, none⟩ = some (.slice xO aL xC) := by rw [← hW9]; exact qa.cells.2.2
    have rqk0 : (w8.alloc (.cells #[.bool nc, .slice co cl cc, .slice cO cL cC] 27)).cell? ⟨v7, 0, none⟩ = some (.bool nk) := by rw [← hW9]; exact qk.cells.1
    have rqk1 : (w8.alloc (.cells #[.bool nc, .slice co cl cc, .slice cO cL cC] 27)).cell? ⟨v7, 1, none⟩ = some (.slice ko kl kc) := by rw [← hW9]; exact qk.cells.2.1
    have rqk2 : (w8.alloc (.cells #[.bool nc, .slice co cl cc, .slice cO cL cC] 27)).cell? ⟨v7, 2, none⟩ = some (.slice kO kL kC) := by rw [← hW9]; exact qk.cells.2.2
    have rqc0 : (w8.alloc (.cells #[.bool nc, .slice co cl cc, .slice cO cL cC] 27)).cell? ⟨w8.heap.size, 0, none⟩ = some (.bool nc) := by rw [← hW9]; exact qc.cells.1
    have rqc1 : (w8.alloc (.cells #[.bool nc, .slice co cl cc, .slice cO cL cC] 27)).cell? ⟨w8.heap.size, 1, none⟩ = some (.slice co cl cc) := by rw [← hW9]; exact qc.cells.2.1
    have rqc2 : (w8.alloc (.cells #[.bool nc, .slice co cl cc, .slice cO cL cC] 27)).cell? ⟨w8.heap.size, 2, none⟩ = some (.slice cO cL cC) := by rw [← hW9]; exact qc.cells.2.2
    obtain ⟨v9, hv9⟩ : ∃ v, v = w8.heap.size := ⟨_, rfl⟩
    rw [← hv9] at qc
    have HW9 : Hid (W9 = w8.alloc (.cells #[.bool nc, .slice co cl cc, .slice cO cL cC] 27)) := hW9
    have Hv9 : Hid (v9 = w8.heap.size) := hv9
    clear hW9 hv9
    go_wp2_with fail
    rw [← HW9.out, ← Hv9.out]
    clear HW9 Hv9 rqa0 rqa1 rqa2 rqk0 rqk1 rqk2 rqc0 rqc1 rqc2
    refine (c_of hn1 hn2).mono ?_
    rintro e w10 ⟨v, rfl, hv, b⟩
    obtain ⟨nm, mo, ml, mc, rfl, im⟩ := hv.see (sz_of hn1 hn2) (by decide)
    clear hv
    replace ia := ia.below b
    replace tk := tk.below b
    replace tc := tc.below b
    replace qa := qa.below b
    replace qk := qk.below b
    replace qc := qc.below b
    replace hb := bstep hb b
    clear b
    obtain ⟨cqa0, cqa1, cqa2⟩ := qa.cells
    obtain ⟨cqk0, cqk1, cqk2⟩ := qk.cells
    obtain ⟨cqc0, cqc1, cqc2⟩ := qc.cells
    go_wp2_with fail
    clear cqa0 cqa1 cqa2 cqk0 cqk1 cqk2 cqc0 cqc1 cqc2
    have hq := c_text im
    rw [HT1.out] at hq
    refine (hq).mono ?_
    rintro e w11 ⟨rfl, b⟩
    clear hq
    replace ia := ia.below b
    replace tk := tk.below b
    replace tc := tc.below b
    replace im := im.below b
    replace qa := qa.below b
    replace qk := qk.below b
    replace qc := qc.below b
    replace hb := bstep hb b
    clear b
    clear im
    obtain ⟨cqa0, cqa1, cqa2⟩ := qa.cells
    obtain ⟨cqk0, cqk1, cqk2⟩ := qk.cells
    obtain ⟨cqc0, cqc1, cqc2⟩ := qc.cells
    go_wp2_with fail
    clear cqa0 cqa1 cqa2 cqk0 cqk1 cqk2 cqc0 cqc1 cqc2
    refine (c_of hd1 hd2).mono ?_
    rintro e w12 ⟨v, rfl, ⟨m, rfl, hm⟩, b⟩
    obtain ⟨mo, ml, mc, rfl⟩ := hm.sl
    have um := hm.num
    clear hm
    generalize decide (d < 0) = nb
    replace ia := ia.below b
    replace tk := tk.below b
    replace tc := tc.below b
    replace qa := qa.below b
    replace qk := qk.below b
    replace qc := qc.below b
    replace hb := bstep hb b
    clear b
    have hfd : ∀ w : World, (Instr.field 25 (.agg #[.bool nb, .slice mo ml mc]) 1).run Tryd.prog w = .ok (.slice mo ml mc) w := fun _ => by kernel_rfl
    obtain ⟨cqa0, cqa1, cqa2⟩ := qa.cells
    obtain ⟨cqk0, cqk1, cqk2⟩ := qk.cells
    obtain ⟨cqc0, cqc1, cqc2⟩ := qc.cells
    go_wp2_with fail
    clear cqa0 cqa1 cqa2 cqk0 cqk1 cqk2 cqc0 cqc1 cqc2
    clear hfd
    have hq := text_any _ _ _ um (by rw [HDE.out]; omega)
    rw [val_lim, HDE.out, HT2.out] at hq
    refine (hq).mono ?_
    rintro e w13 ⟨rfl, b⟩
    clear hq
    replace ia := ia.below b
    replace tk := tk.below b
    replace tc := tc.below b
    replace um := um.below (Nat.le_refl _) b
    replace qa := qa.below b
    replace qk := qk.below b
    replace qc := qc.below b
    replace hb := bstep hb b
    clear b
    clear um
    obtain ⟨cqa0, cqa1, cqa2⟩ := qa.cells
    obtain ⟨cqk0, cqk1, cqk2⟩ := qk.cells
    obtain ⟨cqc0, cqc1, cqc2⟩ := qc.cells
    go_wp2_with fail
    clear cqa0 cqa1 cqa2 cqk0 cqk1 cqk2 cqc0 cqc1 cqc2
    refine (hpf _).mono ?_
    rintro e w14 ⟨v, rfl, hv, b⟩
    clear hpf
    obtain ⟨ny, yo, yl, yc, yO, yL, yC, rfl, ty⟩ := hv.seeS
    clear hv
    replace ia := ia.below b
    replace tk := tk.below b
    replace tc := tc.below b
    replace qa := qa.below b
    replace qk := qk.below b
    replace qc := qc.below b
    replace hb := bstep hb b
    clear b
    obtain ⟨W15, hW15⟩ : ∃ W, W = w14.alloc (.cells #[.bool ny, .slice yo yl yc, .slice yO yL yC] 27) := ⟨_, rfl⟩
    have qy : QCell W15 (w14.heap.size) ny (.slice yo yl yc) (.slice yO yL yC) := by rw [hW15]; exact (qcell_new _ rfl)
    have b : Below w14.heap.size w14 W15 := by rw [hW15]; exact belowA _ _
    replace ia := ia.below b
    replace tk := tk.below b
    replace tc := tc.below b
    replace ty := ty.below b
    replace qa := qa.below b
    replace qk := qk.below b
    replace qc := qc.below b
    replace hb := bstep hb b
    clear b
    have rqa0 : (w14.alloc (.cells #[.bool ny, .slice yo yl yc, .slice yO yL yC] 27)).cell? ⟨v4, 0, none⟩ = some (.bool nx) := by rw [← hW15]; exact qa.cells.1
    have rqa1 : (w14.alloc (.cells #[.bool ny, .slice yo yl yc, .slice yO yL yC] 27)).cell? ⟨v4, 1, none⟩ = some (.slice xo al xc) := by rw [← hW15]; exact qa.cells.2.1
    have rqa2 : (w14.alloc (.cells #[.bool ny, .slice yo yl yc, .slice yO yL yC] 27)).cell? ⟨v4, 2, none⟩ = some (.slice xO aL xC) := by rw [← hW15]; exact qa.cells.2.2
    have rqk0 : (w14.alloc (.cells #[.bool ny, .slice yo yl yc, .slice yO yL yC] 27)).cell? ⟨v7, 0, none⟩ = some (.bool nk) := by rw [← hW15]; exact qk.cells.1
    have rqk1 : (w14.alloc (.cells #[.bool ny, .slice yo yl yc, .slice yO yL yC] 27)).cell? ⟨v7, 1, none⟩ = some (.slice ko kl kc) := by rw [← hW15]; exact qk.cells.2.1
    have rqk2 : (w14.alloc (.cells #[.bool ny, .slice yo yl yc, .slice yO yL yC] 27)).cell? ⟨v7, 2, none⟩ = some (.slice kO kL kC) := by rw [← hW15]; exact qk.cells.2.2
    have rqc0 : (w14.alloc (.cells #[.bool ny, .slice yo yl yc, .slice yO yL yC] 27)).cell? ⟨v9, 0, none⟩ = some (.bool nc) := by rw [← hW15]; exact qc.cells.1
    have rqc1 : (w14.alloc (.cells #[.bool ny, .slice yo yl yc, .slice yO yL yC] 27)).cell? ⟨v9, 1, none⟩ = some (.slice co cl cc) := by rw [← hW15]; exact qc.cells.2.1
    have rqc2 : (w14.alloc (.cells #[.bool ny, .slice yo yl yc, .slice yO yL yC] 27)).cell? ⟨v9, 2, none⟩ = some (.slice cO cL cC) := by rw [← hW15]; exact qc.cells.2.2
    have rqy0 : (w14.alloc (.cells #[.bool ny, .slice yo yl yc, .slice yO yL yC] 27)).cell? ⟨w14.heap.size, 0, none⟩ = some (.bool ny) := by rw [← hW15]; exact qy.cells.1
    have rqy1 : (w14.alloc (.cells #[.bool ny, .slice yo yl yc, .slice yO yL yC] 27)).cell? ⟨w14.heap.size, 1, none⟩ = some (.slice yo yl yc) := by rw [← hW15]; exact qy.cells.2.1
    have rqy2 : (w14.alloc (.cells #[.bool ny, .slice yo yl yc, .slice yO yL yC] 27)).cell? ⟨w14.heap.size, 2, none⟩ = some (.slice yO yL yC) := by rw [← hW15]; exact qy.cells.2.2
    obtain ⟨v15, hv15⟩ : ∃ v, v = w14.heap.size := ⟨_, rfl⟩
    rw [← hv15] at qy
    have HW15 : Hid (W15 = w14.alloc (.cells #[.bool ny, .slice yo yl yc, .slice yO yL yC] 27)) := hW15
    have Hv15 : Hid (v15 = w14.heap.size) := hv15
    clear hW15 hv15
    go_wp2_with fail
    rw [← HW15.out, ← Hv15.out]
    clear HW15 Hv15 rqa0 rqa1 rqa2 rqk0 rqk1 rqk2 rqc0 rqc1 rqc2 rqy0 rqy1 rqy2
    have hq := c_rcmp ia (tk.num sA (by decide)) (by decide)
    rw [cmpQ_self] at hq
    refine (hq).mono ?_
    rintro e w16 ⟨rfl, b⟩
    clear hq
    replace ia := ia.below b
    replace tk := tk.below b
    replace tc := tc.below b
    replace ty := ty.below b
    replace qa := qa.below b
    replace qk := qk.below b
    replace qc := qc.below b
    replace qy := qy.below b
    replace hb := bstep hb b
    clear b
    obtain ⟨cqa0, cqa1, cqa2⟩ := qa.cells
    obtain ⟨cqk0, cqk1, cqk2⟩ := qk.cells
    obtain ⟨cqc0, cqc1, cqc2⟩ := qc.cells
    obtain ⟨cqy0, cqy1, cqy2⟩ := qy.cells
    go_wp2_with fail
    clear cqa0 cqa1 cqa2 cqk0 cqk1 cqk2 cqc0 cqc1 cqc2 cqy0 cqy1 cqy2
    refine (l_lowest tk sA (by decide)).mono ?_
    rintro e w17 ⟨rfl, b⟩
    replace ia := ia.below b
    replace tk := tk.below b
    replace tc := tc.below b
    replace ty := ty.below b
    replace qa := qa.below b
    replace qk := qk.below b
    replace qc := qc.below b
    replace qy := qy.below b
    replace hb := bstep hb b
    clear b
    obtain ⟨cqa0, cqa1, cqa2⟩ := qa.cells
    obtain ⟨cqk0, cqk1, cqk2⟩ := qk.cells
    obtain ⟨cqc0, cqc1, cqc2⟩ := qc.cells
    obtain ⟨cqy0, cqy1, cqy2⟩ := qy.cells
    go_wp2_with fail
    clear cqa0 cqa1 cqa2 cqk0 cqk1 cqk2 cqc0 cqc1 cqc2 cqy0 cqy1 cqy2
    rw [HGC.out] at ty
    have hq := l_alike tc ty sC (by decide) (by decide)
    refine (hq).mono ?_
    rintro e w18 ⟨rfl, b⟩
    clear hq
    replace ia := ia.below b
    replace tk := tk.below b
    replace tc := tc.below b
    replace ty := ty.below b
    replace qa := qa.below b
    replace qk := qk.below b
    replace qc := qc.below b
    replace qy := qy.below b
    replace hb := bstep hb b
    clear b
    have HE : Hid (Below w1.heap.size w1 w18) := hb
    clear hb qa qk qc qy ia tk tc ty
    go_wp2_with fail
    go_ret
    exact ⟨rfl, HE.out⟩
end Go.Proofs.YtnlajeinegampaaDoor
