/-
  Proved here: the walk of FracText.
-/
import Derived.Test.YtcmclmhfjmmffaaGreatDoorRParse3
import Derived.Test.YtcmclmhfjmmffaaGreatDoorFracH
namespace Go.Proofs.YtcmclmhfjmmffaaGreatDoor
open Go.RowKit

theorem fam2 {B : Nat} {w : World} {m d : Value} {xm xd : List Nat} (h1 : Own B 69 w m xm) (h2 : Own B 69 w d xd) : Fam B w (prs (fun _ => m) (fun _ => d) 1) (fun j => [xm, xd].getD j []) := by
  intro j hj
  match j, hj with
  | 0, _ => exact h1
  | 1, _ => exact h2
  | n + 2, h => exact absurd h (by show ¬ n + 2 < 2; omega)
theorem dist2 {m d : Value} (h1 : m.ownBlock = none ∨ m.ownBlock ≠ d.ownBlock) : Dist (prs (fun _ => m) (fun _ => d) 1) := by
  intro i j hi hj hne
  match i, j, hi, hj, hne with
  | 0, 0, _, _, h => exact absurd rfl h
  | 0, 1, _, _, _ => exact h1
  | 1, 0, _, _, _ => exact apart_symm h1
  | 1, 1, _, _, h => exact absurd rfl h
  | n + 2, _, h, _, _ => exact absurd h (by show ¬ n + 2 < 2; omega)
  | 0, n + 2, _, h, _ => exact absurd h (by show ¬ n + 2 < 2; omega)
  | 1, n + 2, _, h, _ => exact absurd h (by show ¬ n + 2 < 2; omega)
theorem from2 {m d v : Value} (h1 : v.ownBlock = none ∨ v.ownBlock ≠ m.ownBlock) (h2 : v.ownBlock = none ∨ v.ownBlock ≠ d.ownBlock) :
    ∀ j, j < (prs (fun _ => m) (fun _ => d) 1).length → (at_ (prs (fun _ => m) (fun _ => d) 1) j).ownBlock = none ∨ (at_ (prs (fun _ => m) (fun _ => d) 1) j).ownBlock ≠ v.ownBlock := by
  intro j hj
  match j, hj with
  | 0, _ => exact apart_symm h1
  | 1, _ => exact apart_symm h2
  | n + 2, h => exact absurd h (by show ¬ n + 2 < 2; omega)
theorem QCell.bexT {B : Nat} {gs : List Value} {ys : Nat → List Nat} {w w' : World} {g : Nat} {n : Bool} {m d : Value} (h : QCell w g n m d) (hb : Bex gs w w') (hf : Fam B w gs ys) : QCell w' g n m d := by
  have h' : w.heap[g]? = some (.cells #[.bool n, m, d] 27 (0, 0)) := h
  show w'.heap[g]? = some (.cells #[.bool n, m, d] 27 (0, 0))
  rw [hb.block g (Array.getElem?_eq_some_iff.1 h').1 (fun j hj e => ?_)]
  · exact h'
  · obtain ⟨o, l, c, hv⟩ := (hf j hj).sl
    have ho := hf j hj
    rw [hv] at ho e
    cases o with
    | none => cases e
    | some a =>
      obtain ⟨b, of, sp⟩ := a
      rcases ho.shape with ⟨hs, _⟩ | ⟨g2, cap, hs, _, _⟩
      · cases hs
      · simp only [Value.slice.injEq, Option.some.injEq, Addr.mk.injEq] at hs
        obtain ⟨⟨rfl, rfl, rfl⟩, _, _⟩ := hs
        have eb : b = g := Option.some.inj e
        obtain ⟨_, _, cur, hh, _⟩ := ho.heap
        rw [eb, h'] at hh
        simp only [Option.some.injEq, Obj.cells.injEq] at hh
        exact absurd hh.2.1 (by decide)
set_option maxRecDepth 100000 in
set_option maxHeartbeats 6400000 in
theorem fracText_long (na : Bool) (ao aO : Option Addr) (al ac aL aC : Nat) (xa ya : List Nat) (s0 : ByteArray) (w : World) (ua : Num w (.slice ao al ac) xa) (va : Num w (.slice aO aL aC) ya) (hsl : 400 < s0.size) : Calls Tryz.prog 6 #[.agg #[.bool na, .slice ao al ac, .slice aO aL aC], .string s0] w fun e w' => e = .returned (.bool true) ∧ Below w.heap.size w w' := by
  have hxl := (num_len ua).1
  have hyl := (num_len va).1
  have ua2 := num_cut ua (k := min al 40) (Nat.min_le_left _ _)
  have va2 := num_cut va (k := min aL 40) (Nat.min_le_left _ _)
  have HLA : Hid ((xa.take (min al 40)).length ≤ 40) := by show _ ≤ _; rw [List.length_take]; omega
  have HLB : Hid ((ya.take (min aL 40)).length ≤ 40) := by show _ ≤ _; rw [List.length_take]; omega
  clear hxl hyl
  have hli : (400 : Int) < (s0.size : Int) := by omega
  have hli2 : (400 : Int) ≤ (s0.size : Int) := by omega
  obtain ⟨s, hs⟩ : ∃ s, s = s0.extract 0 400 := ⟨_, rfl⟩
  have hss : s.size ≤ 400 := by rw [hs, ByteArray.size_extract]; omega
  have hs2 := hs.symm
  clear hs
  obtain ⟨top, bot, st, hsp⟩ := sp_any s
  have C1 := fun w => fparse (w := w) hsp hss
  have C2 := fun w => rparse (w := w) hsp hss
  have HL1 : Hid ((prM top (botF bot st)).length ≤ 50 ∧ (prD top (botF bot st)).length ≤ 50) := pr_len (sp_sizes hsp hss).1 (sp_sizes hsp hss).2
  clear hsp hss hsl
  unfold PT at C1 C2
  generalize prS top (botF bot st) = s1 at *
  generalize prE top (botF bot st) = e1 at *
  generalize prM top (botF bot st) = xm at *
  generalize prD top (botF bot st) = xd at *
  obtain ⟨lx, hlx⟩ : ∃ l, l = xm.length := ⟨_, rfl⟩
  obtain ⟨lX, hlX⟩ : ∃ l, l = xd.length := ⟨_, rfl⟩
  unfold TEx at C1 C2
  simp only [← hlx, ← hlX] at C1 C2
  clear hlx hlX
  obtain ⟨W1, hW1⟩ : ∃ W1, W1 = w.alloc (.cells #[.bool na, .slice ao al ac, .slice aO aL aC] 27) := ⟨_, rfl⟩
  have qa : QCell W1 (w.heap.size) na (.slice ao al ac) (.slice aO aL aC) := by rw [hW1]; exact (qcell_new _ (by simp))
  have hb : Below w.heap.size w W1 := by rw [hW1]; exact belowA w _
  have hsz : w.heap.size < W1.heap.size := by rw [hW1]; simp
  have HW1 : Hid (W1 = w.alloc (.cells #[.bool na, .slice ao al ac, .slice aO aL aC] 27)) := hW1
  clear hW1
  go_enter Tryz.func6, Tryz.ntmps6
  go_wp2_with fail
  rw [← HW1.out]
  clear HW1
  obtain ⟨g, hg⟩ : ∃ g, g = w.heap.size := ⟨_, rfl⟩
  rw [← hg] at qa hsz ⊢
  have HG : Hid (g = w.heap.size) := hg
  clear hg
  refine (l_awake).mono ?_
  rintro e w2 ⟨rfl, b⟩
  replace qa := qa.below b
  replace hb := bstep hb b
  replace hsz := Nat.lt_of_lt_of_le hsz b.size
  clear b
  obtain ⟨cqa0, cqa1, cqa2⟩ := qa.cells
  go_wp2_with fail
  clear cqa0 cqa1 cqa2
  refine (c_cut na ao aO al ac aL aC 40 xa ya _ (ua.below (Nat.le_refl _) hb) (va.below (Nat.le_refl _) hb) (by decide)).mono ?_
  rintro e w3 ⟨rfl, b⟩
  replace qa := qa.below b
  replace hb := bstep hb b
  replace hsz := Nat.lt_of_lt_of_le hsz b.size
  clear b
  generalize min al 40 = al2 at *
  generalize xa.take al2 = xa2 at *
  generalize min aL 40 = aL2 at *
  generalize ya.take aL2 = ya2 at *
  obtain ⟨y0, y1, y2⟩ := qa.cells
  have f0 := qa.thaw 0
  have f1 := qa.thaw 1
  have f2 := qa.thaw 2
  obtain ⟨X4, hX4⟩ : ∃ X, X = (((w3.setCell ⟨g, 0, none⟩ (.bool na)).setCell ⟨g, 1, none⟩ (.slice ao al2 ac)).setCell ⟨g, 2, none⟩ (.slice aO aL2 aC)) := ⟨_, rfl⟩
  have qa_ : QCell X4 (g) na (.slice ao al2 ac) (.slice aO aL2 aC) := by rw [hX4]; exact qa.write _ _ _
  replace hb : Below w.heap.size w X4 := by rw [hX4]; exact iend3 hb (by rw [HG.out]; omega)
  replace hsz : g < X4.heap.size := by rw [hX4]; simpa [World.setCell] using hsz
  replace qa := qa_
  clear qa_
  have rqa0 : ((((w3.setCell ⟨g, 0, none⟩ (.bool na)).setCell ⟨g, 1, none⟩ (.slice ao al2 ac)).setCell ⟨g, 2, none⟩ (.slice aO aL2 aC))).cell? ⟨g, 0, none⟩ = some (.bool na) := by rw [← hX4]; exact qa.cells.1
  have rqa1 : ((((w3.setCell ⟨g, 0, none⟩ (.bool na)).setCell ⟨g, 1, none⟩ (.slice ao al2 ac)).setCell ⟨g, 2, none⟩ (.slice aO aL2 aC))).cell? ⟨g, 1, none⟩ = some (.slice ao al2 ac) := by rw [← hX4]; exact qa.cells.2.1
  have rqa2 : ((((w3.setCell ⟨g, 0, none⟩ (.bool na)).setCell ⟨g, 1, none⟩ (.slice ao al2 ac)).setCell ⟨g, 2, none⟩ (.slice aO aL2 aC))).cell? ⟨g, 2, none⟩ = some (.slice aO aL2 aC) := by rw [← hX4]; exact qa.cells.2.2
  have HX4 : Hid (X4 = (((w3.setCell ⟨g, 0, none⟩ (.bool na)).setCell ⟨g, 1, none⟩ (.slice ao al2 ac)).setCell ⟨g, 2, none⟩ (.slice aO aL2 aC))) := hX4
  clear hX4
  go_wp2_with fail
  rw [← HX4.out]
  clear HX4 y0 y1 y2 f0 f1 f2 rqa0 rqa1 rqa2
  clear ua va
  have ua := ua2.below (Nat.le_refl _) hb
  have va := va2.below (Nat.le_refl _) hb
  have HUA : Hid (Num w (.slice ao al2 ac) xa2) := ua2
  have HVA : Hid (Num w (.slice aO aL2 aC) ya2) := va2
  clear ua2 va2 hli
  clear hli2
  refine (lend3 na ao aO al2 ac aL2 aC xa2 ya2 _ ua va (Nat.le_trans HLA.out (by decide)) (Nat.le_trans HLB.out (by decide))).mono ?_
  rintro e w5 ⟨u, v, rfl, ra, rb, _, b⟩
  obtain ⟨uo, ul, uc, rfl⟩ := ra.own.sl
  obtain ⟨vo, vl, vc, rfl⟩ := rb.own.sl
  replace ua := ua.below (Nat.le_refl _) b
  replace va := va.below (Nat.le_refl _) b
  replace qa := qa.below b
  replace hb := bstep hb b
  replace hsz := Nat.lt_of_lt_of_le hsz b.size
  clear b
  have hq0 : QCell (w5.alloc (.cells #[.bool false, .slice none 0 0, .slice none 0 0] 27)) w5.heap.size false (.slice none 0 0) (.slice none 0 0) := qcell_new _ rfl
  obtain ⟨W6, hW6⟩ : ∃ W, W = w5.alloc (.cells #[.bool na, .slice uo ul uc, .slice vo vl vc] 27) := ⟨_, rfl⟩
  have qu : QCell W6 (w5.heap.size) na (.slice uo ul uc) (.slice vo vl vc) := by rw [hW6]; exact qcell_new _ rfl
  have b : Below w5.heap.size w5 W6 := by rw [hW6]; exact belowA _ _
  obtain ⟨z0, z1, z2⟩ := hq0.cells
  have t0 := hq0.thaw 0
  have t1 := hq0.thaw 1
  have t2 := hq0.thaw 2
  clear hq0
  replace ua := ua.below (Nat.le_refl _) b
  replace va := va.below (Nat.le_refl _) b
  replace ra := ra.below b
  replace rb := rb.below b
  replace qa := qa.below b
  replace hb := bstep hb b
  replace hsz := Nat.lt_of_lt_of_le hsz b.size
  clear b
  have rqa0 : (w5.alloc (.cells #[.bool na, .slice uo ul uc, .slice vo vl vc] 27)).cell? ⟨g, 0, none⟩ = some (.bool na) := by rw [← hW6]; exact qa.cells.1
  have rqa1 : (w5.alloc (.cells #[.bool na, .slice uo ul uc, .slice vo vl vc] 27)).cell? ⟨g, 1, none⟩ = some (.slice ao al2 ac) := by rw [← hW6]; exact qa.cells.2.1
  have rqa2 : (w5.alloc (.cells #[.bool na, .slice uo ul uc, .slice vo vl vc] 27)).cell? ⟨g, 2, none⟩ = some (.slice aO aL2 aC) := by rw [← hW6]; exact qa.cells.2.2
  have rqu0 : (w5.alloc (.cells #[.bool na, .slice uo ul uc, .slice vo vl vc] 27)).cell? ⟨w5.heap.size, 0, none⟩ = some (.bool na) := by rw [← hW6]; exact qu.cells.1
  have rqu1 : (w5.alloc (.cells #[.bool na, .slice uo ul uc, .slice vo vl vc] 27)).cell? ⟨w5.heap.size, 1, none⟩ = some (.slice uo ul uc) := by rw [← hW6]; exact qu.cells.2.1
  have rqu2 : (w5.alloc (.cells #[.bool na, .slice uo ul uc, .slice vo vl vc] 27)).cell? ⟨w5.heap.size, 2, none⟩ = some (.slice vo vl vc) := by rw [← hW6]; exact qu.cells.2.2
  obtain ⟨v6, hv6⟩ : ∃ v, v = w5.heap.size := ⟨_, rfl⟩
  rw [← hv6] at qu
  have HW6 : Hid (W6 = w5.alloc (.cells #[.bool na, .slice uo ul uc, .slice vo vl vc] 27)) := hW6
  have Hv6 : Hid (v6 = w5.heap.size) := hv6
  clear hW6 hv6
  go_wp2_with fail
  rw [← HW6.out, ← Hv6.out]
  clear HW6 Hv6 z0 t0 z1 t1 z2 t2 rqa0 rqa1 rqa2 rqu0 rqu1 rqu2 
  have iu : IB W6 (.agg #[.bool na, .slice uo ul uc]) (zv na (val xa2)) 40 := ⟨_, _, _, _, _, rfl, ra.own.num, HLA.out, rfl⟩
  have du : NB W6 (.slice vo vl vc) ((val ya2 : Nat) : Int) 40 := ⟨_, _, _, _, rfl, rb.own.num, HLB.out, rfl⟩
  have hq := c_rtext (rnum_of iu du (by decide) (by decide)) (by decide)
  clear iu du
  have HTX := fun W (h1 : Num W (.slice ao al2 ac) xa2) (h2 : Num W (.slice aO aL2 aC) ya2) => text3 (p := zv na (val xa2)) (q := val ya2) (L := 40) na ao aO al2 ac aL2 aC (w := W) ⟨_, _, _, _, _, rfl, h1, HLA.out, rfl⟩ ⟨_, _, _, _, rfl, h2, HLB.out, rfl⟩ (by decide) (by decide)
  generalize rt (rq (zv na (val xa2)) (val ya2)) = tx at *
  refine (hq).mono ?_
  rintro e w7 ⟨rfl, b⟩
  clear hq
  replace ua := ua.below (Nat.le_refl _) b
  replace va := va.below (Nat.le_refl _) b
  replace ra := ra.below b
  replace rb := rb.below b
  replace qa := qa.below b
  replace qu := qu.below b
  replace hb := bstep hb b
  replace hsz := Nat.lt_of_lt_of_le hsz b.size
  clear b
  obtain ⟨cqa0, cqa1, cqa2⟩ := qa.cells
  obtain ⟨cqu0, cqu1, cqu2⟩ := qu.cells
  go_wp2_with fail
  clear cqa0 cqa1 cqa2 cqu0 cqu1 cqu2
  obtain ⟨B0, hB0e⟩ : ∃ B, B = w7.heap.size := ⟨_, rfl⟩
  have hB0 : B0 ≤ w7.heap.size := Nat.le_of_eq hB0e
  have HWB : Hid (w.heap.size ≤ B0) := by show _ ≤ _; rw [hB0e]; exact hb.size
  refine (C1 _).mono ?_
  rintro e w8 ⟨mxo, mxc, dxo, dxc, rfl, hmx, hdx, px, b⟩
  clear C1
  rw [← hB0e] at hmx hdx
  have pa1 := apart_later ra.own hmx (Nat.le_of_eq hB0e.symm)
  have pa2 := apart_later ra.own hdx (Nat.le_of_eq hB0e.symm)
  have pb1 := apart_later rb.own hmx (Nat.le_of_eq hB0e.symm)
  have pb2 := apart_later rb.own hdx (Nat.le_of_eq hB0e.symm)
  clear hB0e
  replace ua := ua.below (Nat.le_refl _) b
  replace va := va.below (Nat.le_refl _) b
  replace ra := ra.below b
  replace rb := rb.below b
  replace hB0 := Nat.le_trans hB0 b.size
  replace qa := qa.below b
  replace qu := qu.below b
  replace hb := bstep hb b
  replace hsz := Nat.lt_of_lt_of_le hsz b.size
  clear b
  have hq0 : QCell (w8.alloc (.cells #[.bool false, .slice none 0 0, .slice none 0 0] 27)) w8.heap.size false (.slice none 0 0) (.slice none 0 0) := qcell_new _ rfl
  obtain ⟨W9, hW9⟩ : ∃ W, W = w8.alloc (.cells #[.bool s1, .slice mxo lx mxc, .slice dxo lX dxc] 27) := ⟨_, rfl⟩
  have qx : QCell W9 (w8.heap.size) s1 (.slice mxo lx mxc) (.slice dxo lX dxc) := by rw [hW9]; exact qcell_new _ rfl
  have b : Below w8.heap.size w8 W9 := by rw [hW9]; exact belowA _ _
  obtain ⟨z0, z1, z2⟩ := hq0.cells
  have t0 := hq0.thaw 0
  have t1 := hq0.thaw 1
  have t2 := hq0.thaw 2
  clear hq0
  replace ua := ua.below (Nat.le_refl _) b
  replace va := va.below (Nat.le_refl _) b
  replace ra := ra.below b
  replace rb := rb.below b
  replace hB0 := Nat.le_trans hB0 b.size
  replace hmx := hmx.below b
  replace hdx := hdx.below b
  replace qa := qa.below b
  replace qu := qu.below b
  replace hb := bstep hb b
  replace hsz := Nat.lt_of_lt_of_le hsz b.size
  clear b
  have rqa0 : (w8.alloc (.cells #[.bool s1, .slice mxo lx mxc, .slice dxo lX dxc] 27)).cell? ⟨g, 0, none⟩ = some (.bool na) := by rw [← hW9]; exact qa.cells.1
  have rqa1 : (w8.alloc (.cells #[.bool s1, .slice mxo lx mxc, .slice dxo lX dxc] 27)).cell? ⟨g, 1, none⟩ = some (.slice ao al2 ac) := by rw [← hW9]; exact qa.cells.2.1
  have rqa2 : (w8.alloc (.cells #[.bool s1, .slice mxo lx mxc, .slice dxo lX dxc] 27)).cell? ⟨g, 2, none⟩ = some (.slice aO aL2 aC) := by rw [← hW9]; exact qa.cells.2.2
  have rqu0 : (w8.alloc (.cells #[.bool s1, .slice mxo lx mxc, .slice dxo lX dxc] 27)).cell? ⟨v6, 0, none⟩ = some (.bool na) := by rw [← hW9]; exact qu.cells.1
  have rqu1 : (w8.alloc (.cells #[.bool s1, .slice mxo lx mxc, .slice dxo lX dxc] 27)).cell? ⟨v6, 1, none⟩ = some (.slice uo ul uc) := by rw [← hW9]; exact qu.cells.2.1
  have rqu2 : (w8.alloc (.cells #[.bool s1, .slice mxo lx mxc, .slice dxo lX dxc] 27)).cell? ⟨v6, 2, none⟩ = some (.slice vo vl vc) := by rw [← hW9]; exact qu.cells.2.2
  have rqx0 : (w8.alloc (.cells #[.bool s1, .slice mxo lx mxc, .slice dxo lX dxc] 27)).cell? ⟨w8.heap.size, 0, none⟩ = some (.bool s1) := by rw [← hW9]; exact qx.cells.1
  have rqx1 : (w8.alloc (.cells #[.bool s1, .slice mxo lx mxc, .slice dxo lX dxc] 27)).cell? ⟨w8.heap.size, 1, none⟩ = some (.slice mxo lx mxc) := by rw [← hW9]; exact qx.cells.2.1
  have rqx2 : (w8.alloc (.cells #[.bool s1, .slice mxo lx mxc, .slice dxo lX dxc] 27)).cell? ⟨w8.heap.size, 2, none⟩ = some (.slice dxo lX dxc) := by rw [← hW9]; exact qx.cells.2.2
  obtain ⟨v9, hv9⟩ : ∃ v, v = w8.heap.size := ⟨_, rfl⟩
  rw [← hv9] at qx
  have HW9 : Hid (W9 = w8.alloc (.cells #[.bool s1, .slice mxo lx mxc, .slice dxo lX dxc] 27)) := hW9
  have Hv9 : Hid (v9 = w8.heap.size) := hv9
  clear hW9 hv9
  go_wp2_with fail
  rw [← HW9.out, ← Hv9.out]
  clear HW9 Hv9 z0 t0 z1 t1 z2 t2 rqa0 rqa1 rqa2 rqu0 rqu1 rqu2 rqx0 rqx1 rqx2 
  refine (C2 _).mono ?_
  rintro e w10 ⟨myo, myc, dyo, dyc, rfl, hmy, hdy, _, b⟩
  clear C2
  replace hmy := hmy.num
  replace hdy := hdy.num
  replace ua := ua.below (Nat.le_refl _) b
  replace va := va.below (Nat.le_refl _) b
  replace ra := ra.below b
  replace rb := rb.below b
  replace hB0 := Nat.le_trans hB0 b.size
  replace hmx := hmx.below b
  replace hdx := hdx.below b
  replace qa := qa.below b
  replace qu := qu.below b
  replace qx := qx.below b
  replace hb := bstep hb b
  replace hsz := Nat.lt_of_lt_of_le hsz b.size
  clear b
  have hq0 : QCell (w10.alloc (.cells #[.bool false, .slice none 0 0, .slice none 0 0] 27)) w10.heap.size false (.slice none 0 0) (.slice none 0 0) := qcell_new _ rfl
  obtain ⟨W11, hW11⟩ : ∃ W, W = w10.alloc (.cells #[.bool s1, .slice myo lx myc, .slice dyo lX dyc] 27) := ⟨_, rfl⟩
  have qy : QCell W11 (w10.heap.size) s1 (.slice myo lx myc) (.slice dyo lX dyc) := by rw [hW11]; exact qcell_new _ rfl
  have b : Below w10.heap.size w10 W11 := by rw [hW11]; exact belowA _ _
  obtain ⟨z0, z1, z2⟩ := hq0.cells
  have t0 := hq0.thaw 0
  have t1 := hq0.thaw 1
  have t2 := hq0.thaw 2
  clear hq0
  replace ua := ua.below (Nat.le_refl _) b
  replace va := va.below (Nat.le_refl _) b
  replace ra := ra.below b
  replace rb := rb.below b
  replace hB0 := Nat.le_trans hB0 b.size
  replace hmx := hmx.below b
  replace hdx := hdx.below b
  replace hmy := hmy.below (Nat.le_refl _) b
  replace hdy := hdy.below (Nat.le_refl _) b
  replace qa := qa.below b
  replace qu := qu.below b
  replace qx := qx.below b
  replace hb := bstep hb b
  replace hsz := Nat.lt_of_lt_of_le hsz b.size
  clear b
  have rqa0 : (w10.alloc (.cells #[.bool s1, .slice myo lx myc, .slice dyo lX dyc] 27)).cell? ⟨g, 0, none⟩ = some (.bool na) := by rw [← hW11]; exact qa.cells.1
  have rqa1 : (w10.alloc (.cells #[.bool s1, .slice myo lx myc, .slice dyo lX dyc] 27)).cell? ⟨g, 1, none⟩ = some (.slice ao al2 ac) := by rw [← hW11]; exact qa.cells.2.1
  have rqa2 : (w10.alloc (.cells #[.bool s1, .slice myo lx myc, .slice dyo lX dyc] 27)).cell? ⟨g, 2, none⟩ = some (.slice aO aL2 aC) := by rw [← hW11]; exact qa.cells.2.2
  have rqu0 : (w10.alloc (.cells #[.bool s1, .slice myo lx myc, .slice dyo lX dyc] 27)).cell? ⟨v6, 0, none⟩ = some (.bool na) := by rw [← hW11]; exact qu.cells.1
  have rqu1 : (w10.alloc (.cells #[.bool s1, .slice myo lx myc, .slice dyo lX dyc] 27)).cell? ⟨v6, 1, none⟩ = some (.slice uo ul uc) := by rw [← hW11]; exact qu.cells.2.1
  have rqu2 : (w10.alloc (.cells #[.bool s1, .slice myo lx myc, .slice dyo lX dyc] 27)).cell? ⟨v6, 2, none⟩ = some (.slice vo vl vc) := by rw [← hW11]; exact qu.cells.2.2
  have rqx0 : (w10.alloc (.cells #[.bool s1, .slice myo lx myc, .slice dyo lX dyc] 27)).cell? ⟨v9, 0, none⟩ = some (.bool s1) := by rw [← hW11]; exact qx.cells.1
  have rqx1 : (w10.alloc (.cells #[.bool s1, .slice myo lx myc, .slice dyo lX dyc] 27)).cell? ⟨v9, 1, none⟩ = some (.slice mxo lx mxc) := by rw [← hW11]; exact qx.cells.2.1
  have rqx2 : (w10.alloc (.cells #[.bool s1, .slice myo lx myc, .slice dyo lX dyc] 27)).cell? ⟨v9, 2, none⟩ = some (.slice dxo lX dxc) := by rw [← hW11]; exact qx.cells.2.2
  have rqy0 : (w10.alloc (.cells #[.bool s1, .slice myo lx myc, .slice dyo lX dyc] 27)).cell? ⟨w10.heap.size, 0, none⟩ = some (.bool s1) := by rw [← hW11]; exact qy.cells.1
  have rqy1 : (w10.alloc (.cells #[.bool s1, .slice myo lx myc, .slice dyo lX dyc] 27)).cell? ⟨w10.heap.size, 1, none⟩ = some (.slice myo lx myc) := by rw [← hW11]; exact qy.cells.2.1
  have rqy2 : (w10.alloc (.cells #[.bool s1, .slice myo lx myc, .slice dyo lX dyc] 27)).cell? ⟨w10.heap.size, 2, none⟩ = some (.slice dyo lX dyc) := by rw [← hW11]; exact qy.cells.2.2
  obtain ⟨v11, hv11⟩ : ∃ v, v = w10.heap.size := ⟨_, rfl⟩
  rw [← hv11] at qy
  have HW11 : Hid (W11 = w10.alloc (.cells #[.bool s1, .slice myo lx myc, .slice dyo lX dyc] 27)) := hW11
  have Hv11 : Hid (v11 = w10.heap.size) := hv11
  clear hW11 hv11
  go_wp2_with fail
  rw [← HW11.out, ← Hv11.out]
  clear HW11 Hv11 z0 t0 z1 t1 z2 t2 rqa0 rqa1 rqa2 rqu0 rqu1 rqu2 rqx0 rqx1 rqx2 rqy0 rqy1 rqy2 
  refine (HTX _ ua va).mono ?_
  rintro e w12 ⟨rfl, b⟩
  clear HTX
  replace ua := ua.below (Nat.le_refl _) b
  replace va := va.below (Nat.le_refl _) b
  replace ra := ra.below b
  replace rb := rb.below b
  replace hB0 := Nat.le_trans hB0 b.size
  replace hmx := hmx.below b
  replace hdx := hdx.below b
  replace hmy := hmy.below (Nat.le_refl _) b
  replace hdy := hdy.below (Nat.le_refl _) b
  replace qa := qa.below b
  replace qu := qu.below b
  replace qx := qx.below b
  replace qy := qy.below b
  replace hb := bstep hb b
  replace hsz := Nat.lt_of_lt_of_le hsz b.size
  clear b
  obtain ⟨cqa0, cqa1, cqa2⟩ := qa.cells
  obtain ⟨cqu0, cqu1, cqu2⟩ := qu.cells
  obtain ⟨cqx0, cqx1, cqx2⟩ := qx.cells
  obtain ⟨cqy0, cqy1, cqy2⟩ := qy.cells
  go_wp2_with fail
  clear cqa0 cqa1 cqa2 cqu0 cqu1 cqu2 cqx0 cqx1 cqx2 cqy0 cqy1 cqy2
  refine (same3 s1 mxo myo dxo dyo lx mxc myc lX dxc dyc xm xd _ hmx.num hmy hdx.num hdy).mono ?_
  rintro e w13 ⟨rfl, b⟩
  replace ua := ua.below (Nat.le_refl _) b
  replace va := va.below (Nat.le_refl _) b
  replace ra := ra.below b
  replace rb := rb.below b
  replace hB0 := Nat.le_trans hB0 b.size
  replace hmx := hmx.below b
  replace hdx := hdx.below b
  replace hmy := hmy.below (Nat.le_refl _) b
  replace hdy := hdy.below (Nat.le_refl _) b
  replace qa := qa.below b
  replace qu := qu.below b
  replace qx := qx.below b
  replace qy := qy.below b
  replace hb := bstep hb b
  replace hsz := Nat.lt_of_lt_of_le hsz b.size
  clear b
  clear hmy hdy
  obtain ⟨WO, hWO⟩ : ∃ W, W = w13.alloc (.cells #[.bool s1, .slice mxo lx mxc, .slice dxo lX dxc] 27) := ⟨_, rfl⟩
  have hrow : ∀ i, i < 1 → WO.cell? ⟨w13.heap.size, i * 3 + 1, none⟩ = some ((fun _ => Value.slice mxo lx mxc) i) ∧ WO.cell? ⟨w13.heap.size, i * 3 + 2, none⟩ = some ((fun _ => Value.slice dxo lX dxc) i) := by
    intro i hi
    rw [hWO, World.cell?_alloc_at _ _ _ _ rfl, World.cell?_alloc_at _ _ _ _ rfl]
    match i, hi with
    | 0, _ => exact ⟨rfl, rfl⟩
  have b : Below w13.heap.size w13 WO := by rw [hWO]; exact belowA _ _
  obtain ⟨cqa0, cqa1, cqa2⟩ := qa.cells
  obtain ⟨cqu0, cqu1, cqu2⟩ := qu.cells
  obtain ⟨cqx0, cqx1, cqx2⟩ := qx.cells
  obtain ⟨cqy0, cqy1, cqy2⟩ := qy.cells
  have HWO : Hid (WO = w13.alloc (.cells #[.bool s1, .slice mxo lx mxc, .slice dxo lX dxc] 27)) := hWO
  clear hWO
  go_wp2_with fail
  rw [← HWO.out]
  clear HWO cqa0 cqa1 cqa2 cqu0 cqu1 cqu2 cqx0 cqx1 cqx2 cqy0 cqy1 cqy2
  replace ua := ua.below (Nat.le_refl _) b
  replace va := va.below (Nat.le_refl _) b
  replace ra := ra.below b
  replace rb := rb.below b
  replace hB0 := Nat.le_trans hB0 b.size
  replace hmx := hmx.below b
  replace hdx := hdx.below b
  replace qa := qa.below b
  replace qu := qu.below b
  replace qx := qx.below b
  replace qy := qy.below b
  replace hb := bstep hb b
  replace hsz := Nat.lt_of_lt_of_le hsz b.size
  clear b
  have hfam := fam2 hmx hdx
  have hdist := dist2 px
  have hq := ownRats3 B0 _ 1 1 _ _ _ WO hB0 (by decide) (by decide) hrow (fun i hi => ⟨⟨_, _, _, rfl⟩, _, _, _, rfl⟩) hfam hdist (fun j hj => by
    match j, hj with
    | 0, _ => exact Nat.le_trans HL1.out.1 (by decide)
    | 1, _ => exact Nat.le_trans HL1.out.2 (by decide))
  refine hq.mono ?_
  rintro e wK ⟨rfl, hx⟩
  clear hq
  replace hb := hb.trans (hx.below (B := w.heap.size) hb.size (fun j k hj e => Nat.le_trans HWB.out ((hfam j hj).block k e).1))
  replace ra := ra.bex hx (from2 pa1 pa2)
  replace rb := rb.bex hx (from2 pb1 pb2)
  replace ua := HUA.out.below (Nat.le_refl _) hb
  replace va := HVA.out.below (Nat.le_refl _) hb
  replace qa := qa.bexT hx hfam
  replace qu := qu.bexT hx hfam
  clear hx hfam hdist hrow hmx hdx px pa1 pa2 pb1 pb2 hB0 qx qy hsz
  obtain ⟨cqa0, cqa1, cqa2⟩ := qa.cells
  obtain ⟨cqu0, cqu1, cqu2⟩ := qu.cells
  go_wp2_with fail
  clear cqa0 cqa1 cqa2 cqu0 cqu1 cqu2
  refine (kept3 _ na uo ao vo aO ul uc al2 ac vl vc aL2 aC xa2 ya2 _ ra rb ua va (Nat.le_trans HLA.out (by decide)) (Nat.le_trans HLB.out (by decide))).mono ?_
  rintro e w14 ⟨rfl, b⟩
  replace ra := ra.below b
  replace rb := rb.below b
  replace ua := ua.below (Nat.le_refl _) b
  replace va := va.below (Nat.le_refl _) b
  replace qa := qa.below b
  replace qu := qu.below b
  replace hb := bstep hb b
  clear b
  have HE : Hid (Below w.heap.size w w14) := hb
  clear hb qa qu ra rb ua va
  go_wp2
  go_ret
  exact ⟨rfl, HE.out⟩
set_option maxRecDepth 100000 in
set_option maxHeartbeats 6400000 in
theorem fracText_short (na : Bool) (ao aO : Option Addr) (al ac aL aC : Nat) (xa ya : List Nat) (s0 : ByteArray) (w : World) (ua : Num w (.slice ao al ac) xa) (va : Num w (.slice aO aL aC) ya) (hsl : ¬ 400 < s0.size) : Calls Tryz.prog 6 #[.agg #[.bool na, .slice ao al ac, .slice aO aL aC], .string s0] w fun e w' => e = .returned (.bool true) ∧ Below w.heap.size w w' := by
  have hxl := (num_len ua).1
  have hyl := (num_len va).1
  have ua2 := num_cut ua (k := min al 40) (Nat.min_le_left _ _)
  have va2 := num_cut va (k := min aL 40) (Nat.min_le_left _ _)
  have HLA : Hid ((xa.take (min al 40)).length ≤ 40) := by show _ ≤ _; rw [List.length_take]; omega
  have HLB : Hid ((ya.take (min aL 40)).length ≤ 40) := by show _ ≤ _; rw [List.length_take]; omega
  clear hxl hyl
  have hli : ¬ (400 : Int) < (s0.size : Int) := by omega
  obtain ⟨s, hs⟩ : ∃ s, s = s0 := ⟨_, rfl⟩
  have hss : s.size ≤ 400 := by rw [hs]; omega
  subst hs
  obtain ⟨top, bot, st, hsp⟩ := sp_any s
  have C1 := fun w => fparse (w := w) hsp hss
  have C2 := fun w => rparse (w := w) hsp hss
  have HL1 : Hid ((prM top (botF bot st)).length ≤ 50 ∧ (prD top (botF bot st)).length ≤ 50) := pr_len (sp_sizes hsp hss).1 (sp_sizes hsp hss).2
  clear hsp hss hsl
  unfold PT at C1 C2
  generalize prS top (botF bot st) = s1 at *
  generalize prE top (botF bot st) = e1 at *
  generalize prM top (botF bot st) = xm at *
  generalize prD top (botF bot st) = xd at *
  obtain ⟨lx, hlx⟩ : ∃ l, l = xm.length := ⟨_, rfl⟩
  obtain ⟨lX, hlX⟩ : ∃ l, l = xd.length := ⟨_, rfl⟩
  unfold TEx at C1 C2
  simp only [← hlx, ← hlX] at C1 C2
  clear hlx hlX
  obtain ⟨W1, hW1⟩ : ∃ W1, W1 = w.alloc (.cells #[.bool na, .slice ao al ac, .slice aO aL aC] 27) := ⟨_, rfl⟩
  have qa : QCell W1 (w.heap.size) na (.slice ao al ac) (.slice aO aL aC) := by rw [hW1]; exact (qcell_new _ (by simp))
  have hb : Below w.heap.size w W1 := by rw [hW1]; exact belowA w _
  have hsz : w.heap.size < W1.heap.size := by rw [hW1]; simp
  have HW1 : Hid (W1 = w.alloc (.cells #[.bool na, .slice ao al ac, .slice aO aL aC] 27)) := hW1
  clear hW1
  go_enter Tryz.func6, Tryz.ntmps6
  go_wp2_with fail
  rw [← HW1.out]
  clear HW1
  obtain ⟨g, hg⟩ : ∃ g, g = w.heap.size := ⟨_, rfl⟩
  rw [← hg] at qa hsz ⊢
  have HG : Hid (g = w.heap.size) := hg
  clear hg
  refine (l_awake).mono ?_
  rintro e w2 ⟨rfl, b⟩
  replace qa := qa.below b
  replace hb := bstep hb b
  replace hsz := Nat.lt_of_lt_of_le hsz b.size
  clear b
  obtain ⟨cqa0, cqa1, cqa2⟩ := qa.cells
  go_wp2_with fail
  clear cqa0 cqa1 cqa2
  refine (c_cut na ao aO al ac aL aC 40 xa ya _ (ua.below (Nat.le_refl _) hb) (va.below (Nat.le_refl _) hb) (by decide)).mono ?_
  rintro e w3 ⟨rfl, b⟩
  replace qa := qa.below b
  replace hb := bstep hb b
  replace hsz := Nat.lt_of_lt_of_le hsz b.size
  clear b
  generalize min al 40 = al2 at *
  generalize xa.take al2 = xa2 at *
  generalize min aL 40 = aL2 at *
  generalize ya.take aL2 = ya2 at *
  obtain ⟨y0, y1, y2⟩ := qa.cells
  have f0 := qa.thaw 0
  have f1 := qa.thaw 1
  have f2 := qa.thaw 2
  obtain ⟨X4, hX4⟩ : ∃ X, X = (((w3.setCell ⟨g, 0, none⟩ (.bool na)).setCell ⟨g, 1, none⟩ (.slice ao al2 ac)).setCell ⟨g, 2, none⟩ (.slice aO aL2 aC)) := ⟨_, rfl⟩
  have qa_ : QCell X4 (g) na (.slice ao al2 ac) (.slice aO aL2 aC) := by rw [hX4]; exact qa.write _ _ _
  replace hb : Below w.heap.size w X4 := by rw [hX4]; exact iend3 hb (by rw [HG.out]; omega)
  replace hsz : g < X4.heap.size := by rw [hX4]; simpa [World.setCell] using hsz
  replace qa := qa_
  clear qa_
  have rqa0 : ((((w3.setCell ⟨g, 0, none⟩ (.bool na)).setCell ⟨g, 1, none⟩ (.slice ao al2 ac)).setCell ⟨g, 2, none⟩ (.slice aO aL2 aC))).cell? ⟨g, 0, none⟩ = some (.bool na) := by rw [← hX4]; exact qa.cells.1
  have rqa1 : ((((w3.setCell ⟨g, 0, none⟩ (.bool na)).setCell ⟨g, 1, none⟩ (.slice ao al2 ac)).setCell ⟨g, 2, none⟩ (.slice aO aL2 aC))).cell? ⟨g, 1, none⟩ = some (.slice ao al2 ac) := by rw [← hX4]; exact qa.cells.2.1
  have rqa2 : ((((w3.setCell ⟨g, 0, none⟩ (.bool na)).setCell ⟨g, 1, none⟩ (.slice ao al2 ac)).setCell ⟨g, 2, none⟩ (.slice aO aL2 aC))).cell? ⟨g, 2, none⟩ = some (.slice aO aL2 aC) := by rw [← hX4]; exact qa.cells.2.2
  have HX4 : Hid (X4 = (((w3.setCell ⟨g, 0, none⟩ (.bool na)).setCell ⟨g, 1, none⟩ (.slice ao al2 ac)).setCell ⟨g, 2, none⟩ (.slice aO aL2 aC))) := hX4
  clear hX4
  go_wp2_with fail
  rw [← HX4.out]
  clear HX4 y0 y1 y2 f0 f1 f2 rqa0 rqa1 rqa2
  clear ua va
  have ua := ua2.below (Nat.le_refl _) hb
  have va := va2.below (Nat.le_refl _) hb
  have HUA : Hid (Num w (.slice ao al2 ac) xa2) := ua2
  have HVA : Hid (Num w (.slice aO aL2 aC) ya2) := va2
  clear ua2 va2 hli
  refine (lend3 na ao aO al2 ac aL2 aC xa2 ya2 _ ua va (Nat.le_trans HLA.out (by decide)) (Nat.le_trans HLB.out (by decide))).mono ?_
  rintro e w5 ⟨u, v, rfl, ra, rb, _, b⟩
  obtain ⟨uo, ul, uc, rfl⟩ := ra.own.sl
  obtain ⟨vo, vl, vc, rfl⟩ := rb.own.sl
  replace ua := ua.below (Nat.le_refl _) b
  replace va := va.below (Nat.le_refl _) b
  replace qa := qa.below b
  replace hb := bstep hb b
  replace hsz := Nat.lt_of_lt_of_le hsz b.size
  clear b
  have hq0 : QCell (w5.alloc (.cells #[.bool false, .slice none 0 0, .slice none 0 0] 27)) w5.heap.size false (.slice none 0 0) (.slice none 0 0) := qcell_new _ rfl
  obtain ⟨W6, hW6⟩ : ∃ W, W = w5.alloc (.cells #[.bool na, .slice uo ul uc, .slice vo vl vc] 27) := ⟨_, rfl⟩
  have qu : QCell W6 (w5.heap.size) na (.slice uo ul uc) (.slice vo vl vc) := by rw [hW6]; exact qcell_new _ rfl
  have b : Below w5.heap.size w5 W6 := by rw [hW6]; exact belowA _ _
  obtain ⟨z0, z1, z2⟩ := hq0.cells
  have t0 := hq0.thaw 0
  have t1 := hq0.thaw 1
  have t2 := hq0.thaw 2
  clear hq0
  replace ua := ua.below (Nat.le_refl _) b
  replace va := va.below (Nat.le_refl _) b
  replace ra := ra.below b
  replace rb := rb.below b
  replace qa := qa.below b
  replace hb := bstep hb b
  replace hsz := Nat.lt_of_lt_of_le hsz b.size
  clear b
  have rqa0 : (w5.alloc (.cells #[.bool na, .slice uo ul uc, .slice vo vl vc] 27)).cell? ⟨g, 0, none⟩ = some (.bool na) := by rw [← hW6]; exact qa.cells.1
  have rqa1 : (w5.alloc (.cells #[.bool na, .slice uo ul uc, .slice vo vl vc] 27)).cell? ⟨g, 1, none⟩ = some (.slice ao al2 ac) := by rw [← hW6]; exact qa.cells.2.1
  have rqa2 : (w5.alloc (.cells #[.bool na, .slice uo ul uc, .slice vo vl vc] 27)).cell? ⟨g, 2, none⟩ = some (.slice aO aL2 aC) := by rw [← hW6]; exact qa.cells.2.2
  have rqu0 : (w5.alloc (.cells #[.bool na, .slice uo ul uc, .slice vo vl vc] 27)).cell? ⟨w5.heap.size, 0, none⟩ = some (.bool na) := by rw [← hW6]; exact qu.cells.1
  have rqu1 : (w5.alloc (.cells #[.bool na, .slice uo ul uc, .slice vo vl vc] 27)).cell? ⟨w5.heap.size, 1, none⟩ = some (.slice uo ul uc) := by rw [← hW6]; exact qu.cells.2.1
  have rqu2 : (w5.alloc (.cells #[.bool na, .slice uo ul uc, .slice vo vl vc] 27)).cell? ⟨w5.heap.size, 2, none⟩ = some (.slice vo vl vc) := by rw [← hW6]; exact qu.cells.2.2
  obtain ⟨v6, hv6⟩ : ∃ v, v = w5.heap.size := ⟨_, rfl⟩
  rw [← hv6] at qu
  have HW6 : Hid (W6 = w5.alloc (.cells #[.bool na, .slice uo ul uc, .slice vo vl vc] 27)) := hW6
  have Hv6 : Hid (v6 = w5.heap.size) := hv6
  clear hW6 hv6
  go_wp2_with fail
  rw [← HW6.out, ← Hv6.out]
  clear HW6 Hv6 z0 t0 z1 t1 z2 t2 rqa0 rqa1 rqa2 rqu0 rqu1 rqu2 
  have iu : IB W6 (.agg #[.bool na, .slice uo ul uc]) (zv na (val xa2)) 40 := ⟨_, _, _, _, _, rfl, ra.own.num, HLA.out, rfl⟩
  have du : NB W6 (.slice vo vl vc) ((val ya2 : Nat) : Int) 40 := ⟨_, _, _, _, rfl, rb.own.num, HLB.out, rfl⟩
  have hq := c_rtext (rnum_of iu du (by decide) (by decide)) (by decide)
  clear iu du
  have HTX := fun W (h1 : Num W (.slice ao al2 ac) xa2) (h2 : Num W (.slice aO aL2 aC) ya2) => text3 (p := zv na (val xa2)) (q := val ya2) (L := 40) na ao aO al2 ac aL2 aC (w := W) ⟨_, _, _, _, _, rfl, h1, HLA.out, rfl⟩ ⟨_, _, _, _, rfl, h2, HLB.out, rfl⟩ (by decide) (by decide)
  generalize rt (rq (zv na (val xa2)) (val ya2)) = tx at *
  refine (hq).mono ?_
  rintro e w7 ⟨rfl, b⟩
  clear hq
  replace ua := ua.below (Nat.le_refl _) b
  replace va := va.below (Nat.le_refl _) b
  replace ra := ra.below b
  replace rb := rb.below b
  replace qa := qa.below b
  replace qu := qu.below b
  replace hb := bstep hb b
  replace hsz := Nat.lt_of_lt_of_le hsz b.size
  clear b
  obtain ⟨cqa0, cqa1, cqa2⟩ := qa.cells
  obtain ⟨cqu0, cqu1, cqu2⟩ := qu.cells
  go_wp2_with fail
  clear cqa0 cqa1 cqa2 cqu0 cqu1 cqu2
  obtain ⟨B0, hB0e⟩ : ∃ B, B = w7.heap.size := ⟨_, rfl⟩
  have hB0 : B0 ≤ w7.heap.size := Nat.le_of_eq hB0e
  have HWB : Hid (w.heap.size ≤ B0) := by show _ ≤ _; rw [hB0e]; exact hb.size
  refine (C1 _).mono ?_
  rintro e w8 ⟨mxo, mxc, dxo, dxc, rfl, hmx, hdx, px, b⟩
  clear C1
  rw [← hB0e] at hmx hdx
  have pa1 := apart_later ra.own hmx (Nat.le_of_eq hB0e.symm)
  have pa2 := apart_later ra.own hdx (Nat.le_of_eq hB0e.symm)
  have pb1 := apart_later rb.own hmx (Nat.le_of_eq hB0e.symm)
  have pb2 := apart_later rb.own hdx (Nat.le_of_eq hB0e.symm)
  clear hB0e
  replace ua := ua.below (Nat.le_refl _) b
  replace va := va.below (Nat.le_refl _) b
  replace ra := ra.below b
  replace rb := rb.below b
  replace hB0 := Nat.le_trans hB0 b.size
  replace qa := qa.below b
  replace qu := qu.below b
  replace hb := bstep hb b
  replace hsz := Nat.lt_of_lt_of_le hsz b.size
  clear b
  have hq0 : QCell (w8.alloc (.cells #[.bool false, .slice none 0 0, .slice none 0 0] 27)) w8.heap.size false (.slice none 0 0) (.slice none 0 0) := qcell_new _ rfl
  obtain ⟨W9, hW9⟩ : ∃ W, W = w8.alloc (.cells #[.bool s1, .slice mxo lx mxc, .slice dxo lX dxc] 27) := ⟨_, rfl⟩
  have qx : QCell W9 (w8.heap.size) s1 (.slice mxo lx mxc) (.slice dxo lX dxc) := by rw [hW9]; exact qcell_new _ rfl
  have b : Below w8.heap.size w8 W9 := by rw [hW9]; exact belowA _ _
  obtain ⟨z0, z1, z2⟩ := hq0.cells
  have t0 := hq0.thaw 0
  have t1 := hq0.thaw 1
  have t2 := hq0.thaw 2
  clear hq0
  replace ua := ua.below (Nat.le_refl _) b
  replace va := va.below (Nat.le_refl _) b
  replace ra := ra.below b
  replace rb := rb.below b
  replace hB0 := Nat.le_trans hB0 b.size
  replace hmx := hmx.below b
  replace hdx := hdx.below b
  replace qa := qa.below b
  replace qu := qu.below b
  replace hb := bstep hb b
  replace hsz := Nat.lt_of_lt_of_le hsz b.size
  clear b
  have rqa0 : (w8.alloc (.cells #[.bool s1, .slice mxo lx mxc, .slice dxo lX dxc] 27)).cell? ⟨g, 0, none⟩ = some (.bool na) := by rw [← hW9]; exact qa.cells.1
  have rqa1 : (w8.alloc (.cells #[.bool s1, .slice mxo lx mxc, .slice dxo lX dxc] 27)).cell? ⟨g, 1, none⟩ = some (.slice ao al2 ac) := by rw [← hW9]; exact qa.cells.2.1
  have rqa2 : (w8.alloc (.cells #[.bool s1, .slice mxo lx mxc, .slice dxo lX dxc] 27)).cell? ⟨g, 2, none⟩ = some (.slice aO aL2 aC) := by rw [← hW9]; exact qa.cells.2.2
  have rqu0 : (w8.alloc (.cells #[.bool s1, .slice mxo lx mxc, .slice dxo lX dxc] 27)).cell? ⟨v6, 0, none⟩ = some (.bool na) := by rw [← hW9]; exact qu.cells.1
  have rqu1 : (w8.alloc (.cells #[.bool s1, .slice mxo lx mxc, .slice dxo lX dxc] 27)).cell? ⟨v6, 1, none⟩ = some (.slice uo ul uc) := by rw [← hW9]; exact qu.cells.2.1
  have rqu2 : (w8.alloc (.cells #[.bool s1, .slice mxo lx mxc, .slice dxo lX dxc] 27)).cell? ⟨v6, 2, none⟩ = some (.slice vo vl vc) := by rw [← hW9]; exact qu.cells.2.2
  have rqx0 : (w8.alloc (.cells #[.bool s1, .slice mxo lx mxc, .slice dxo lX dxc] 27)).cell? ⟨w8.heap.size, 0, none⟩ = some (.bool s1) := by rw [← hW9]; exact qx.cells.1
  have rqx1 : (w8.alloc (.cells #[.bool s1, .slice mxo lx mxc, .slice dxo lX dxc] 27)).cell? ⟨w8.heap.size, 1, none⟩ = some (.slice mxo lx mxc) := by rw [← hW9]; exact qx.cells.2.1
  have rqx2 : (w8.alloc (.cells #[.bool s1, .slice mxo lx mxc, .slice dxo lX dxc] 27)).cell? ⟨w8.heap.size, 2, none⟩ = some (.slice dxo lX dxc) := by rw [← hW9]; exact qx.cells.2.2
  obtain ⟨v9, hv9⟩ : ∃ v, v = w8.heap.size := ⟨_, rfl⟩
  rw [← hv9] at qx
  have HW9 : Hid (W9 = w8.alloc (.cells #[.bool s1, .slice mxo lx mxc, .slice dxo lX dxc] 27)) := hW9
  have Hv9 : Hid (v9 = w8.heap.size) := hv9
  clear hW9 hv9
  go_wp2_with fail
  rw [← HW9.out, ← Hv9.out]
  clear HW9 Hv9 z0 t0 z1 t1 z2 t2 rqa0 rqa1 rqa2 rqu0 rqu1 rqu2 rqx0 rqx1 rqx2 
  refine (C2 _).mono ?_
  rintro e w10 ⟨myo, myc, dyo, dyc, rfl, hmy, hdy, _, b⟩
  clear C2
  replace hmy := hmy.num
  replace hdy := hdy.num
  replace ua := ua.below (Nat.le_refl _) b
  replace va := va.below (Nat.le_refl _) b
  replace ra := ra.below b
  replace rb := rb.below b
  replace hB0 := Nat.le_trans hB0 b.size
  replace hmx := hmx.below b
  replace hdx := hdx.below b
  replace qa := qa.below b
  replace qu := qu.below b
  replace qx := qx.below b
  replace hb := bstep hb b
  replace hsz := Nat.lt_of_lt_of_le hsz b.size
  clear b
  have hq0 : QCell (w10.alloc (.cells #[.bool false, .slice none 0 0, .slice none 0 0] 27)) w10.heap.size false (.slice none 0 0) (.slice none 0 0) := qcell_new _ rfl
  obtain ⟨W11, hW11⟩ : ∃ W, W = w10.alloc (.cells #[.bool s1, .slice myo lx myc, .slice dyo lX dyc] 27) := ⟨_, rfl⟩
  have qy : QCell W11 (w10.heap.size) s1 (.slice myo lx myc) (.slice dyo lX dyc) := by rw [hW11]; exact qcell_new _ rfl
  have b : Below w10.heap.size w10 W11 := by rw [hW11]; exact belowA _ _
  obtain ⟨z0, z1, z2⟩ := hq0.cells
  have t0 := hq0.thaw 0
  have t1 := hq0.thaw 1
  have t2 := hq0.thaw 2
  clear hq0
  replace ua := ua.below (Nat.le_refl _) b
  replace va := va.below (Nat.le_refl _) b
  replace ra := ra.below b
  replace rb := rb.below b
  replace hB0 := Nat.le_trans hB0 b.size
  replace hmx := hmx.below b
  replace hdx := hdx.below b
  replace hmy := hmy.below (Nat.le_refl _) b
  replace hdy := hdy.below (Nat.le_refl _) b
  replace qa := qa.below b
  replace qu := qu.below b
  replace qx := qx.below b
  replace hb := bstep hb b
  replace hsz := Nat.lt_of_lt_of_le hsz b.size
  clear b
  have rqa0 : (w10.alloc (.cells #[.bool s1, .slice myo lx myc, .slice dyo lX dyc] 27)).cell? ⟨g, 0, none⟩ = some (.bool na) := by rw [← hW11]; exact qa.cells.1
  have rqa1 : (w10.alloc (.cells #[.bool s1, .slice myo lx myc, .slice dyo lX dyc] 27)).cell? ⟨g, 1, none⟩ = some (.slice ao al2 ac) := by rw [← hW11]; exact qa.cells.2.1
  have rqa2 : (w10.alloc (.cells #[.bool s1, .slice myo lx myc, .slice dyo lX dyc] 27)).cell? ⟨g, 2, none⟩ = some (.slice aO aL2 aC) := by rw [← hW11]; exact qa.cells.2.2
  have rqu0 : (w10.alloc (.cells #[.bool s1, .slice myo lx myc, .slice dyo lX dyc] 27)).cell? ⟨v6, 0, none⟩ = some (.bool na) := by rw [← hW11]; exact qu.cells.1
  have rqu1 : (w10.alloc (.cells #[.bool s1, .slice myo lx myc, .slice dyo lX dyc] 27)).cell? ⟨v6, 1, none⟩ = some (.slice uo ul uc) := by rw [← hW11]; exact qu.cells.2.1
  have rqu2 : (w10.alloc (.cells #[.bool s1, .slice myo lx myc, .slice dyo lX dyc] 27)).cell? ⟨v6, 2, none⟩ = some (.slice vo vl vc) := by rw [← hW11]; exact qu.cells.2.2
  have rqx0 : (w10.alloc (.cells #[.bool s1, .slice myo lx myc, .slice dyo lX dyc] 27)).cell? ⟨v9, 0, none⟩ = some (.bool s1) := by rw [← hW11]; exact qx.cells.1
  have rqx1 : (w10.alloc (.cells #[.bool s1, .slice myo lx myc, .slice dyo lX dyc] 27)).cell? ⟨v9, 1, none⟩ = some (.slice mxo lx mxc) := by rw [← hW11]; exact qx.cells.2.1
  have rqx2 : (w10.alloc (.cells #[.bool s1, .slice myo lx myc, .slice dyo lX dyc] 27)).cell? ⟨v9, 2, none⟩ = some (.slice dxo lX dxc) := by rw [← hW11]; exact qx.cells.2.2
  have rqy0 : (w10.alloc (.cells #[.bool s1, .slice myo lx myc, .slice dyo lX dyc] 27)).cell? ⟨w10.heap.size, 0, none⟩ = some (.bool s1) := by rw [← hW11]; exact qy.cells.1
  have rqy1 : (w10.alloc (.cells #[.bool s1, .slice myo lx myc, .slice dyo lX dyc] 27)).cell? ⟨w10.heap.size, 1, none⟩ = some (.slice myo lx myc) := by rw [← hW11]; exact qy.cells.2.1
  have rqy2 : (w10.alloc (.cells #[.bool s1, .slice myo lx myc, .slice dyo lX dyc] 27)).cell? ⟨w10.heap.size, 2, none⟩ = some (.slice dyo lX dyc) := by rw [← hW11]; exact qy.cells.2.2
  obtain ⟨v11, hv11⟩ : ∃ v, v = w10.heap.size := ⟨_, rfl⟩
  rw [← hv11] at qy
  have HW11 : Hid (W11 = w10.alloc (.cells #[.bool s1, .slice myo lx myc, .slice dyo lX dyc] 27)) := hW11
  have Hv11 : Hid (v11 = w10.heap.size) := hv11
  clear hW11 hv11
  go_wp2_with fail
  rw [← HW11.out, ← Hv11.out]
  clear HW11 Hv11 z0 t0 z1 t1 z2 t2 rqa0 rqa1 rqa2 rqu0 rqu1 rqu2 rqx0 rqx1 rqx2 rqy0 rqy1 rqy2 
  refine (HTX _ ua va).mono ?_
  rintro e w12 ⟨rfl, b⟩
  clear HTX
  replace ua := ua.below (Nat.le_refl _) b
  replace va := va.below (Nat.le_refl _) b
  replace ra := ra.below b
  replace rb := rb.below b
  replace hB0 := Nat.le_trans hB0 b.size
  replace hmx := hmx.below b
  replace hdx := hdx.below b
  replace hmy := hmy.below (Nat.le_refl _) b
  replace hdy := hdy.below (Nat.le_refl _) b
  replace qa := qa.below b
  replace qu := qu.below b
  replace qx := qx.below b
  replace qy := qy.below b
  replace hb := bstep hb b
  replace hsz := Nat.lt_of_lt_of_le hsz b.size
  clear b
  obtain ⟨cqa0, cqa1, cqa2⟩ := qa.cells
  obtain ⟨cqu0, cqu1, cqu2⟩ := qu.cells
  obtain ⟨cqx0, cqx1, cqx2⟩ := qx.cells
  obtain ⟨cqy0, cqy1, cqy2⟩ := qy.cells
  go_wp2_with fail
  clear cqa0 cqa1 cqa2 cqu0 cqu1 cqu2 cqx0 cqx1 cqx2 cqy0 cqy1 cqy2
  refine (same3 s1 mxo myo dxo dyo lx mxc myc lX dxc dyc xm xd _ hmx.num hmy hdx.num hdy).mono ?_
  rintro e w13 ⟨rfl, b⟩
  replace ua := ua.below (Nat.le_refl _) b
  replace va := va.below (Nat.le_refl _) b
  replace ra := ra.below b
  replace rb := rb.below b
  replace hB0 := Nat.le_trans hB0 b.size
  replace hmx := hmx.below b
  replace hdx := hdx.below b
  replace hmy := hmy.below (Nat.le_refl _) b
  replace hdy := hdy.below (Nat.le_refl _) b
  replace qa := qa.below b
  replace qu := qu.below b
  replace qx := qx.below b
  replace qy := qy.below b
  replace hb := bstep hb b
  replace hsz := Nat.lt_of_lt_of_le hsz b.size
  clear b
  clear hmy hdy
  obtain ⟨WO, hWO⟩ : ∃ W, W = w13.alloc (.cells #[.bool s1, .slice mxo lx mxc, .slice dxo lX dxc] 27) := ⟨_, rfl⟩
  have hrow : ∀ i, i < 1 → WO.cell? ⟨w13.heap.size, i * 3 + 1, none⟩ = some ((fun _ => Value.slice mxo lx mxc) i) ∧ WO.cell? ⟨w13.heap.size, i * 3 + 2, none⟩ = some ((fun _ => Value.slice dxo lX dxc) i) := by
    intro i hi
    rw [hWO, World.cell?_alloc_at _ _ _ _ rfl, World.cell?_alloc_at _ _ _ _ rfl]
    match i, hi with
    | 0, _ => exact ⟨rfl, rfl⟩
  have b : Below w13.heap.size w13 WO := by rw [hWO]; exact belowA _ _
  obtain ⟨cqa0, cqa1, cqa2⟩ := qa.cells
  obtain ⟨cqu0, cqu1, cqu2⟩ := qu.cells
  obtain ⟨cqx0, cqx1, cqx2⟩ := qx.cells
  obtain ⟨cqy0, cqy1, cqy2⟩ := qy.cells
  have HWO : Hid (WO = w13.alloc (.cells #[.bool s1, .slice mxo lx mxc, .slice dxo lX dxc] 27)) := hWO
  clear hWO
  go_wp2_with fail
  rw [← HWO.out]
  clear HWO cqa0 cqa1 cqa2 cqu0 cqu1 cqu2 cqx0 cqx1 cqx2 cqy0 cqy1 cqy2
  replace ua := ua.below (Nat.le_refl _) b
  replace va := va.below (Nat.le_refl _) b
  replace ra := ra.below b
  replace rb := rb.below b
  replace hB0 := Nat.le_trans hB0 b.size
  replace hmx := hmx.below b
  replace hdx := hdx.below b
  replace qa := qa.below b
  replace qu := qu.below b
  replace qx := qx.below b
  replace qy := qy.below b
  replace hb := bstep hb b
  replace hsz := Nat.lt_of_lt_of_le hsz b.size
  clear b
  have hfam := fam2 hmx hdx
  have hdist := dist2 px
  have hq := ownRats3 B0 _ 1 1 _ _ _ WO hB0 (by decide) (by decide) hrow (fun i hi => ⟨⟨_, _, _, rfl⟩, _, _, _, rfl⟩) hfam hdist (fun j hj => by
    match j, hj with
    | 0, _ => exact Nat.le_trans HL1.out.1 (by decide)
    | 1, _ => exact Nat.le_trans HL1.out.2 (by decide))
  refine hq.mono ?_
  rintro e wK ⟨rfl, hx⟩
  clear hq
  replace hb := hb.trans (hx.below (B := w.heap.size) hb.size (fun j k hj e => Nat.le_trans HWB.out ((hfam j hj).block k e).1))
  replace ra := ra.bex hx (from2 pa1 pa2)
  replace rb := rb.bex hx (from2 pb1 pb2)
  replace ua := HUA.out.below (Nat.le_refl _) hb
  replace va := HVA.out.below (Nat.le_refl _) hb
  replace qa := qa.bexT hx hfam
  replace qu := qu.bexT hx hfam
  clear hx hfam hdist hrow hmx hdx px pa1 pa2 pb1 pb2 hB0 qx qy hsz
  obtain ⟨cqa0, cqa1, cqa2⟩ := qa.cells
  obtain ⟨cqu0, cqu1, cqu2⟩ := qu.cells
  go_wp2_with fail
  clear cqa0 cqa1 cqa2 cqu0 cqu1 cqu2
  refine (kept3 _ na uo ao vo aO ul uc al2 ac vl vc aL2 aC xa2 ya2 _ ra rb ua va (Nat.le_trans HLA.out (by decide)) (Nat.le_trans HLB.out (by decide))).mono ?_
  rintro e w14 ⟨rfl, b⟩
  replace ra := ra.below b
  replace rb := rb.below b
  replace ua := ua.below (Nat.le_refl _) b
  replace va := va.below (Nat.le_refl _) b
  replace qa := qa.below b
  replace qu := qu.below b
  replace hb := bstep hb b
  clear b
  have HE : Hid (Below w.heap.size w w14) := hb
  clear hb qa qu ra rb ua va
  go_wp2
  go_ret
  exact ⟨rfl, HE.out⟩
theorem fracText_top (na : Bool) (ao aO : Option Addr) (al ac aL aC : Nat) (xa ya : List Nat) (s0 : ByteArray) (w : World) (ua : Num w (.slice ao al ac) xa) (va : Num w (.slice aO aL aC) ya) (_ : s0.size ≤ maxLen) : Calls Tryz.prog 6 #[.agg #[.bool na, .slice ao al ac, .slice aO aL aC], .string s0] w fun e w' => e = .returned (.bool true) ∧ Below w.heap.size w w' := by
  by_cases h : 400 < s0.size
  · exact fracText_long na ao aO al ac aL aC xa ya s0 w ua va h
  · exact fracText_short na ao aO al ac aL aC xa ya s0 w ua va h
end Go.Proofs.YtcmclmhfjmmffaaGreatDoor
