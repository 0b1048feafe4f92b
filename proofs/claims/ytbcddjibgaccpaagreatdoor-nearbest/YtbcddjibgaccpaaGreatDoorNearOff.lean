/-
  Proved here: what off of the laws of near answers.
-/
import Derived.Test.YtbcddjibgaccpaaGreatDoorNearBestMAll
import Derived.WalkLawsBesides
namespace Go.Proofs.YtbcddjibgaccpaaGreatDoor
open Go.RowKit

/-- What off leaves of a finite float. -/
def OffEnd (w : World) (r : Rat) (e : Ending) (w' : World) : Prop := ∃ v, e = .returned (.tuple #[v, .bool true]) ∧ ROwn w.heap.size w' v r ∧ Below w.heap.size w w'
/-- What off leaves of one that is not. -/
def OffNo (w : World) (e : Ending) (w' : World) : Prop := ∃ n ao al ac bo bl bc, e = .returned (.tuple #[.agg #[.bool n, .slice ao al ac, .slice bo bl bc], .bool false]) ∧ Below w.heap.size w w'
theorem REnd.off {w w' : World} {r : Rat} {v : Value} (h : REnd w r (.returned v) w') : OffEnd w r (.returned (.tuple #[v, .bool true])) w' := by
  obtain ⟨v', e, h1, h2⟩ := h
  cases e
  exact ⟨v, rfl, h1, h2⟩
theorem ROwn.done {w w3 : World} {g B : Nat} {r : Rat} {n : Bool} {m d : Value} (h : ROwn B w3 (.agg #[.bool n, m, d]) r) (hg : w.heap.size ≤ g) (hgB : g < B) (hbel : Below w.heap.size w w3) :
    REnd w r (.returned (.agg #[.bool n, m, d])) (((w3.setCell ⟨g, 0, none⟩ (.bool n)).setCell ⟨g, 1, none⟩ m).setCell ⟨g, 2, none⟩ d) := by
  obtain ⟨m', d', e, hm, hd, hap⟩ := h
  simp only [Value.agg.injEq, Array.mk.injEq, List.cons.injEq, Value.bool.injEq, and_true] at e
  obtain ⟨e1, rfl, rfl⟩ := e
  exact rat_done e1 hg hm hd hap hgB hbel
theorem own_off {B e g : Nat} {w : World} {v : Value} {xs : List Nat} (ho : Own B e w v xs) (hg : g < B) : v.ownBlock = none ∨ v.ownBlock ≠ some g := by
  cases hm : v.ownBlock with
  | none => exact Or.inl rfl
  | some k =>
    right
    intro e
    rw [Option.some.injEq] at e
    have := (ho.block k hm).1
    omega
theorem ROwn.set3 {B g : Nat} {w : World} {v a b c : Value} {r : Rat} (h : ROwn B w v r) (hg : g < B) : ROwn B (((w.setCell ⟨g, 0, none⟩ a).setCell ⟨g, 1, none⟩ b).setCell ⟨g, 2, none⟩ c) v r := by
  obtain ⟨m, d, e, hm, hd, hap⟩ := h
  exact ⟨m, d, e, ((hm.other _ (own_off hm hg)).other _ (own_off hm hg)).other _ (own_off hm hg), ((hd.other _ (own_off hd hg)).other _ (own_off hd hg)).other _ (own_off hd hg), hap⟩
theorem rs_subx {w : World} {v : Value} {x y : Rat} {L M : Nat} (h : RNum w v x L) (k : RSz y M) : RSz (x - y) (L + M + 1) := by
  obtain ⟨p, q, _, e, h1, h2⟩ := h
  have h3 : Sz (und y.den) M := by unfold und; rw [if_neg y.den_nz]; exact k.den
  have h4 := rsz_sub h1 h2 k.num h3
  rw [rq_std, ← e] at h4
  exact h4
theorem QCell.lt {w : World} {g : Nat} {n : Bool} {m d : Value} (h : QCell w g n m d) : g < w.heap.size := (Array.getElem?_eq_some_iff.1 h).1

set_option maxRecDepth 100000 in
set_option maxHeartbeats 6400000 in
theorem off_pos (na : Bool) (ao aO : Option Addr) (al ac aL aC f : Nat) (x : Rat) (w : World) (ma : RNum w (.agg #[.bool na, .slice ao al ac, .slice aO aL aC]) x 200) (hb64 : f < 18446744073709551616) (hf : f % 2 ^ 63 < 9218868437227405312) (hs : ¬ (x - fR f).num < 0) :
    Calls Tryz.prog 8 #[.agg #[.bool na, .slice ao al ac, .slice aO aL aC], .float .f64 f] w fun e w' => OffEnd w (absQ (x - fR f)) e w' := by
  have HF64 : Hid (f < 18446744073709551616) := hb64
  have HFF : Hid (f % 2 ^ 63 < 9218868437227405312) := hf
  obtain ⟨R0, hR0⟩ : ∃ r, r = x - fR f := ⟨_, rfl⟩
  have HD : Hid (x - fR f = R0) := hR0.symm
  have hszd := rs_subx ma (fR_sz hf)
  rw [← hR0] at hs hszd
  have HSZ : Hid (RSz R0 301) := hszd
  obtain ⟨R, hR⟩ : ∃ r, r = R0 := ⟨_, rfl⟩
  have HA : absQ (x - fR f) = R := by rw [← hR0, hR]; unfold absQ; exact if_neg hs
  have HR : Hid (R0 = R) := hR.symm
  rw [HA]
  clear HA hR
  obtain ⟨sg, hsg⟩ : ∃ s, s = sgnQ R0 := ⟨_, rfl⟩
  have HSG : Hid (sgnQ R0 = sg) := hsg.symm
  have hsd : decide (sg < 0) = false := by rw [hsg]; unfold sgnQ; rw [cmpZ_neg]; exact decide_eq_false hs
  clear hsg hR0 hszd hs hf hb64
  obtain ⟨W1, hW1⟩ : ∃ W1, W1 = (w.alloc (.cells #[.bool na, .slice ao al ac, .slice aO aL aC] 27)).alloc (.cells #[.bool false, .slice none 0 0, .slice none 0 0] 27) := ⟨_, rfl⟩
  have qa : QCell W1 (w.heap.size) na (.slice ao al ac) (.slice aO aL aC) := by rw [hW1]; exact (qcell_step (qcell_new _ (by simp)))
  have qR : QCell W1 (w.heap.size + 1) false (.slice none 0 0) (.slice none 0 0) := by rw [hW1]; exact (qcell_new _ (by simp))
  have hb : Below w.heap.size w W1 := by rw [hW1]; exact bstep (belowA w _) (belowA _ _)
  have hsz : w.heap.size + 1 < W1.heap.size := by rw [hW1]; simp
  replace ma := ma.below hb
  have HW1 : Hid (W1 = (w.alloc (.cells #[.bool na, .slice ao al ac, .slice aO aL aC] 27)).alloc (.cells #[.bool false, .slice none 0 0, .slice none 0 0] 27)) := hW1
  clear hW1
  go_enter Tryz.func8, Tryz.ntmps8
  go_wp2_with fail
  rw [← HW1.out]
  clear HW1
  obtain ⟨g, hg⟩ : ∃ g, g = w.heap.size := ⟨_, rfl⟩
  rw [← hg] at qa qR hsz ⊢
  have HG : Hid (g = w.heap.size) := hg
  clear hg
  obtain ⟨B0, hB0⟩ : ∃ B, B = W1.heap.size := ⟨_, rfl⟩
  have HB0 : Hid (g + 1 < B0) := by show _ < _; rw [hB0]; exact hsz
  replace hB0 := Nat.le_of_eq hB0
  refine (of64_yes f _ HF64.out HFF.out).mono ?_
  rintro e w2 ⟨v, rfl, hv, b⟩
  obtain ⟨np, po, pl, pc, pO, pL, pC, rfl, rp⟩ := hv.seeS
  clear hv
  replace ma := ma.below b
  replace hB0 := Nat.le_trans hB0 b.size
  replace qa := qa.below b
  replace qR := qR.below b
  replace hb := bstep hb b
  replace hsz := Nat.lt_of_lt_of_le hsz b.size
  clear b
  have hq0 : QCell (w2.alloc (.cells #[.bool false, .slice none 0 0, .slice none 0 0] 27)) w2.heap.size false (.slice none 0 0) (.slice none 0 0) := qcell_new _ rfl
  obtain ⟨W3, hW3⟩ : ∃ W, W = w2.alloc (.cells #[.bool np, .slice po pl pc, .slice pO pL pC] 27) := ⟨_, rfl⟩
  have qp : QCell W3 (w2.heap.size) np (.slice po pl pc) (.slice pO pL pC) := by rw [hW3]; exact qcell_new _ rfl
  have b : Below w2.heap.size w2 W3 := by rw [hW3]; exact belowA _ _
  obtain ⟨z0, z1, z2⟩ := hq0.cells
  have t0 := hq0.thaw 0
  have t1 := hq0.thaw 1
  have t2 := hq0.thaw 2
  clear hq0
  replace ma := ma.below b
  replace hB0 := Nat.le_trans hB0 b.size
  replace rp := rp.below b
  replace qa := qa.below b
  replace qR := qR.below b
  replace hb := bstep hb b
  replace hsz := Nat.lt_of_lt_of_le hsz b.size
  clear b
  have rqa0 : (w2.alloc (.cells #[.bool np, .slice po pl pc, .slice pO pL pC] 27)).cell? ⟨g, 0, none⟩ = some (.bool na) := by rw [← hW3]; exact qa.cells.1
  have rqa1 : (w2.alloc (.cells #[.bool np, .slice po pl pc, .slice pO pL pC] 27)).cell? ⟨g, 1, none⟩ = some (.slice ao al ac) := by rw [← hW3]; exact qa.cells.2.1
  have rqa2 : (w2.alloc (.cells #[.bool np, .slice po pl pc, .slice pO pL pC] 27)).cell? ⟨g, 2, none⟩ = some (.slice aO aL aC) := by rw [← hW3]; exact qa.cells.2.2
  have rqR0 : (w2.alloc (.cells #[.bool np, .slice po pl pc, .slice pO pL pC] 27)).cell? ⟨g + 1, 0, none⟩ = some (.bool false) := by rw [← hW3]; exact qR.cells.1
  have rqR1 : (w2.alloc (.cells #[.bool np, .slice po pl pc, .slice pO pL pC] 27)).cell? ⟨g + 1, 1, none⟩ = some (.slice none 0 0) := by rw [← hW3]; exact qR.cells.2.1
  have rqR2 : (w2.alloc (.cells #[.bool np, .slice po pl pc, .slice pO pL pC] 27)).cell? ⟨g + 1, 2, none⟩ = some (.slice none 0 0) := by rw [← hW3]; exact qR.cells.2.2
  have rqp0 : (w2.alloc (.cells #[.bool np, .slice po pl pc, .slice pO pL pC] 27)).cell? ⟨w2.heap.size, 0, none⟩ = some (.bool np) := by rw [← hW3]; exact qp.cells.1
  have rqp1 : (w2.alloc (.cells #[.bool np, .slice po pl pc, .slice pO pL pC] 27)).cell? ⟨w2.heap.size, 1, none⟩ = some (.slice po pl pc) := by rw [← hW3]; exact qp.cells.2.1
  have rqp2 : (w2.alloc (.cells #[.bool np, .slice po pl pc, .slice pO pL pC] 27)).cell? ⟨w2.heap.size, 2, none⟩ = some (.slice pO pL pC) := by rw [← hW3]; exact qp.cells.2.2
  obtain ⟨v3, hv3⟩ : ∃ v, v = w2.heap.size := ⟨_, rfl⟩
  rw [← hv3] at qp
  have HW3 : Hid (W3 = w2.alloc (.cells #[.bool np, .slice po pl pc, .slice pO pL pC] 27)) := hW3
  have Hv3 : Hid (v3 = w2.heap.size) := hv3
  clear hW3 hv3
  go_wp2_with fail
  rw [← HW3.out, ← Hv3.out]
  clear HW3 Hv3 z0 z1 z2 t0 t1 t2 rqa0 rqa1 rqa2 rqR0 rqR1 rqR2 rqp0 rqp1 rqp2
  refine (c_rsub ma (rp.num (fR_sz HFF.out) (by decide)) (by decide)).mono ?_
  rintro e w4 ⟨v, rfl, ok, b⟩
  obtain ⟨nk, ko, kl, kc, kO, kL, kC, rfl, rk⟩ := ok.seeS
  rw [HD.out] at ok rk
  replace ok := ok.rehome hB0
  replace ma := ma.below b
  replace hB0 := Nat.le_trans hB0 b.size
  replace rp := rp.below b
  replace qa := qa.below b
  replace qR := qR.below b
  replace qp := qp.below b
  replace hb := bstep hb b
  replace hsz := Nat.lt_of_lt_of_le hsz b.size
  clear b
  have hszK := hsz
  have hbK := hb.size
  have hq0 : QCell (w4.alloc (.cells #[.bool false, .slice none 0 0, .slice none 0 0] 27)) w4.heap.size false (.slice none 0 0) (.slice none 0 0) := qcell_new _ rfl
  obtain ⟨W5, hW5⟩ : ∃ W, W = w4.alloc (.cells #[.bool nk, .slice ko kl kc, .slice kO kL kC] 27) := ⟨_, rfl⟩
  have qk : QCell W5 (w4.heap.size) nk (.slice ko kl kc) (.slice kO kL kC) := by rw [hW5]; exact qcell_new _ rfl
  have b : Below w4.heap.size w4 W5 := by rw [hW5]; exact belowA _ _
  obtain ⟨z0, z1, z2⟩ := hq0.cells
  have t0 := hq0.thaw 0
  have t1 := hq0.thaw 1
  have t2 := hq0.thaw 2
  clear hq0
  replace ma := ma.below b
  replace hB0 := Nat.le_trans hB0 b.size
  replace rp := rp.below b
  replace ok := ok.below b
  replace rk := rk.below b
  replace qa := qa.below b
  replace qR := qR.below b
  replace qp := qp.below b
  replace hb := bstep hb b
  replace hsz := Nat.lt_of_lt_of_le hsz b.size
  clear b
  have rqa0 : (w4.alloc (.cells #[.bool nk, .slice ko kl kc, .slice kO kL kC] 27)).cell? ⟨g, 0, none⟩ = some (.bool na) := by rw [← hW5]; exact qa.cells.1
  have rqa1 : (w4.alloc (.cells #[.bool nk, .slice ko kl kc, .slice kO kL kC] 27)).cell? ⟨g, 1, none⟩ = some (.slice ao al ac) := by rw [← hW5]; exact qa.cells.2.1
  have rqa2 : (w4.alloc (.cells #[.bool nk, .slice ko kl kc, .slice kO kL kC] 27)).cell? ⟨g, 2, none⟩ = some (.slice aO aL aC) := by rw [← hW5]; exact qa.cells.2.2
  have rqR0 : (w4.alloc (.cells #[.bool nk, .slice ko kl kc, .slice kO kL kC] 27)).cell? ⟨g + 1, 0, none⟩ = some (.bool false) := by rw [← hW5]; exact qR.cells.1
  have rqR1 : (w4.alloc (.cells #[.bool nk, .slice ko kl kc, .slice kO kL kC] 27)).cell? ⟨g + 1, 1, none⟩ = some (.slice none 0 0) := by rw [← hW5]; exact qR.cells.2.1
  have rqR2 : (w4.alloc (.cells #[.bool nk, .slice ko kl kc, .slice kO kL kC] 27)).cell? ⟨g + 1, 2, none⟩ = some (.slice none 0 0) := by rw [← hW5]; exact qR.cells.2.2
  have rqp0 : (w4.alloc (.cells #[.bool nk, .slice ko kl kc, .slice kO kL kC] 27)).cell? ⟨v3, 0, none⟩ = some (.bool np) := by rw [← hW5]; exact qp.cells.1
  have rqp1 : (w4.alloc (.cells #[.bool nk, .slice ko kl kc, .slice kO kL kC] 27)).cell? ⟨v3, 1, none⟩ = some (.slice po pl pc) := by rw [← hW5]; exact qp.cells.2.1
  have rqp2 : (w4.alloc (.cells #[.bool nk, .slice ko kl kc, .slice kO kL kC] 27)).cell? ⟨v3, 2, none⟩ = some (.slice pO pL pC) := by rw [← hW5]; exact qp.cells.2.2
  have rqk0 : (w4.alloc (.cells #[.bool nk, .slice ko kl kc, .slice kO kL kC] 27)).cell? ⟨w4.heap.size, 0, none⟩ = some (.bool nk) := by rw [← hW5]; exact qk.cells.1
  have rqk1 : (w4.alloc (.cells #[.bool nk, .slice ko kl kc, .slice kO kL kC] 27)).cell? ⟨w4.heap.size, 1, none⟩ = some (.slice ko kl kc) := by rw [← hW5]; exact qk.cells.2.1
  have rqk2 : (w4.alloc (.cells #[.bool nk, .slice ko kl kc, .slice kO kL kC] 27)).cell? ⟨w4.heap.size, 2, none⟩ = some (.slice kO kL kC) := by rw [← hW5]; exact qk.cells.2.2
  obtain ⟨v5, hv5⟩ : ∃ v, v = w4.heap.size := ⟨_, rfl⟩
  rw [← hv5] at qk
  have HW5 : Hid (W5 = w4.alloc (.cells #[.bool nk, .slice ko kl kc, .slice kO kL kC] 27)) := hW5
  have Hv5 : Hid (v5 = w4.heap.size) := hv5
  clear hW5 hv5
  have HVD : Hid (g + 1 ≠ v5) := by show _ ≠ _; rw [Hv5.out]; omega
  have HVW : Hid (w.heap.size ≤ v5) := by show _ ≤ _; rw [Hv5.out]; exact hbK
  clear hszK hbK
  go_wp2_with fail
  rw [← HW5.out, ← Hv5.out]
  clear HW5 Hv5 z0 z1 z2 t0 t1 t2 rqa0 rqa1 rqa2 rqR0 rqR1 rqR2 rqp0 rqp1 rqp2 rqk0 rqk1 rqk2
  have hq := c_rsign (rk.num HSZ.out (by decide))
  rw [HSG.out] at hq
  refine (hq).mono ?_
  rintro e w6 ⟨rfl, b⟩
  replace ma := ma.below b
  replace hB0 := Nat.le_trans hB0 b.size
  replace rp := rp.below b
  replace ok := ok.below b
  replace rk := rk.below b
  replace qa := qa.below b
  replace qR := qR.below b
  replace qp := qp.below b
  replace qk := qk.below b
  replace hb := bstep hb b
  replace hsz := Nat.lt_of_lt_of_le hsz b.size
  clear b
  clear hq
  have HE : Hid (OffEnd w R (.returned (.tuple #[.agg #[.bool nk, .slice ko kl kc, .slice kO kL kC], .bool true])) (((w6.setCell ⟨g + 1, 0, none⟩ (.bool nk)).setCell ⟨g + 1, 1, none⟩ (.slice ko kl kc)).setCell ⟨g + 1, 2, none⟩ (.slice kO kL kC))) := (ROwn.done (HR.out ▸ ok) (by rw [HG.out]; omega) HB0.out hb).off
  have HW : Hid (QCell (((w6.setCell ⟨g + 1, 0, none⟩ (.bool nk)).setCell ⟨g + 1, 1, none⟩ (.slice ko kl kc)).setCell ⟨g + 1, 2, none⟩ (.slice kO kL kC)) (g + 1) nk (.slice ko kl kc) (.slice kO kL kC)) := qR.write _ _ _
  obtain ⟨cqa0, cqa1, cqa2⟩ := qa.cells
  obtain ⟨cqR0, cqR1, cqR2⟩ := qR.cells
  obtain ⟨cqp0, cqp1, cqp2⟩ := qp.cells
  obtain ⟨cqk0, cqk1, cqk2⟩ := qk.cells
  have fR_0 := qR.thaw 0
  have fR_1 := qR.thaw 1
  have fR_2 := qR.thaw 2
  clear hb hsz qa qR qp qk ma hB0 rp ok rk
  go_wp2_with fail
  (try simp only [Exit.inBlock, Exit.then])
  exact bodyPost_ret (results_ct (p := 4) (u := 5) rfl _ _ (g + 1) 27 _ (0, 0) _ rfl HW.out Tryz.underlying27 rfl (by kernel_rfl)) rfl HE.out
set_option maxRecDepth 100000 in
set_option maxHeartbeats 6400000 in
theorem off_neg (na : Bool) (ao aO : Option Addr) (al ac aL aC f : Nat) (x : Rat) (w : World) (ma : RNum w (.agg #[.bool na, .slice ao al ac, .slice aO aL aC]) x 200) (hb64 : f < 18446744073709551616) (hf : f % 2 ^ 63 < 9218868437227405312) (hs : (x - fR f).num < 0) :
    Calls Tryz.prog 8 #[.agg #[.bool na, .slice ao al ac, .slice aO aL aC], .float .f64 f] w fun e w' => OffEnd w (absQ (x - fR f)) e w' := by
  have HF64 : Hid (f < 18446744073709551616) := hb64
  have HFF : Hid (f % 2 ^ 63 < 9218868437227405312) := hf
  obtain ⟨R0, hR0⟩ : ∃ r, r = x - fR f := ⟨_, rfl⟩
  have HD : Hid (x - fR f = R0) := hR0.symm
  have hszd := rs_subx ma (fR_sz hf)
  rw [← hR0] at hs hszd
  have HSZ : Hid (RSz R0 301) := hszd
  obtain ⟨R, hR⟩ : ∃ r, r = -R0 := ⟨_, rfl⟩
  have HA : absQ (x - fR f) = R := by rw [← hR0, hR]; unfold absQ; exact if_pos hs
  have HR : Hid (-R0 = R) := hR.symm
  rw [HA]
  clear HA hR
  obtain ⟨sg, hsg⟩ : ∃ s, s = sgnQ R0 := ⟨_, rfl⟩
  have HSG : Hid (sgnQ R0 = sg) := hsg.symm
  have hsd : decide (sg < 0) = true := by rw [hsg]; unfold sgnQ; rw [cmpZ_neg]; exact decide_eq_true hs
  clear hsg hR0 hszd hs hf hb64
  obtain ⟨W1, hW1⟩ : ∃ W1, W1 = (w.alloc (.cells #[.bool na, .slice ao al ac, .slice aO aL aC] 27)).alloc (.cells #[.bool false, .slice none 0 0, .slice none 0 0] 27) := ⟨_, rfl⟩
  have qa : QCell W1 (w.heap.size) na (.slice ao al ac) (.slice aO aL aC) := by rw [hW1]; exact (qcell_step (qcell_new _ (by simp)))
  have qR : QCell W1 (w.heap.size + 1) false (.slice none 0 0) (.slice none 0 0) := by rw [hW1]; exact (qcell_new _ (by simp))
  have hb : Below w.heap.size w W1 := by rw [hW1]; exact bstep (belowA w _) (belowA _ _)
  have hsz : w.heap.size + 1 < W1.heap.size := by rw [hW1]; simp
  replace ma := ma.below hb
  have HW1 : Hid (W1 = (w.alloc (.cells #[.bool na, .slice ao al ac, .slice aO aL aC] 27)).alloc (.cells #[.bool false, .slice none 0 0, .slice none 0 0] 27)) := hW1
  clear hW1
  go_enter Tryz.func8, Tryz.ntmps8
  go_wp2_with fail
  rw [← HW1.out]
  clear HW1
  obtain ⟨g, hg⟩ : ∃ g, g = w.heap.size := ⟨_, rfl⟩
  rw [← hg] at qa qR hsz ⊢
  have HG : Hid (g = w.heap.size) := hg
  clear hg
  obtain ⟨B0, hB0⟩ : ∃ B, B = W1.heap.size := ⟨_, rfl⟩
  have HB0 : Hid (g + 1 < B0) := by show _ < _; rw [hB0]; exact hsz
  replace hB0 := Nat.le_of_eq hB0
  refine (of64_yes f _ HF64.out HFF.out).mono ?_
  rintro e w2 ⟨v, rfl, hv, b⟩
  obtain ⟨np, po, pl, pc, pO, pL, pC, rfl, rp⟩ := hv.seeS
  clear hv
  replace ma := ma.below b
  replace hB0 := Nat.le_trans hB0 b.size
  replace qa := qa.below b
  replace qR := qR.below b
  replace hb := bstep hb b
  replace hsz := Nat.lt_of_lt_of_le hsz b.size
  clear b
  have hq0 : QCell (w2.alloc (.cells #[.bool false, .slice none 0 0, .slice none 0 0] 27)) w2.heap.size false (.slice none 0 0) (.slice none 0 0) := qcell_new _ rfl
  obtain ⟨W3, hW3⟩ : ∃ W, W = w2.alloc (.cells #[.bool np, .slice po pl pc, .slice pO pL pC] 27) := ⟨_, rfl⟩
  have qp : QCell W3 (w2.heap.size) np (.slice po pl pc) (.slice pO pL pC) := by rw [hW3]; exact qcell_new _ rfl
  have b : Below w2.heap.size w2 W3 := by rw [hW3]; exact belowA _ _
  obtain ⟨z0, z1, z2⟩ := hq0.cells
  have t0 := hq0.thaw 0
  have t1 := hq0.thaw 1
  have t2 := hq0.thaw 2
  clear hq0
  replace ma := ma.below b
  replace hB0 := Nat.le_trans hB0 b.size
  replace rp := rp.below b
  replace qa := qa.below b
  replace qR := qR.below b
  replace hb := bstep hb b
  replace hsz := Nat.lt_of_lt_of_le hsz b.size
  clear b
  have rqa0 : (w2.alloc (.cells #[.bool np, .slice po pl pc, .slice pO pL pC] 27)).cell? ⟨g, 0, none⟩ = some (.bool na) := by rw [← hW3]; exact qa.cells.1
  have rqa1 : (w2.alloc (.cells #[.bool np, .slice po pl pc, .slice pO pL pC] 27)).cell? ⟨g, 1, none⟩ = some (.slice ao al ac) := by rw [← hW3]; exact qa.cells.2.1
  have rqa2 : (w2.alloc (.cells #[.bool np, .slice po pl pc, .slice pO pL pC] 27)).cell? ⟨g, 2, none⟩ = some (.slice aO aL aC) := by rw [← hW3]; exact qa.cells.2.2
  have rqR0 : (w2.alloc (.cells #[.bool np, .slice po pl pc, .slice pO pL pC] 27)).cell? ⟨g + 1, 0, none⟩ = some (.bool false) := by rw [← hW3]; exact qR.cells.1
  have rqR1 : (w2.alloc (.cells #[.bool np, .slice po pl pc, .slice pO pL pC] 27)).cell? ⟨g + 1, 1, none⟩ = some (.slice none 0 0) := by rw [← hW3]; exact qR.cells.2.1
  have rqR2 : (w2.alloc (.cells #[.bool np, .slice po pl pc, .slice pO pL pC] 27)).cell? ⟨g + 1, 2, none⟩ = some (.slice none 0 0) := by rw [← hW3]; exact qR.cells.2.2
  have rqp0 : (w2.alloc (.cells #[.bool np, .slice po pl pc, .slice pO pL pC] 27)).cell? ⟨w2.heap.size, 0, none⟩ = some (.bool np) := by rw [← hW3]; exact qp.cells.1
  have rqp1 : (w2.alloc (.cells #[.bool np, .slice po pl pc, .slice pO pL pC] 27)).cell? ⟨w2.heap.size, 1, none⟩ = some (.slice po pl pc) := by rw [← hW3]; exact qp.cells.2.1
  have rqp2 : (w2.alloc (.cells #[.bool np, .slice po pl pc, .slice pO pL pC] 27)).cell? ⟨w2.heap.size, 2, none⟩ = some (.slice pO pL pC) := by rw [← hW3]; exact qp.cells.2.2
  obtain ⟨v3, hv3⟩ : ∃ v, v = w2.heap.size := ⟨_, rfl⟩
  rw [← hv3] at qp
  have HW3 : Hid (W3 = w2.alloc (.cells #[.bool np, .slice po pl pc, .slice pO pL pC] 27)) := hW3
  have Hv3 : Hid (v3 = w2.heap.size) := hv3
  clear hW3 hv3
  go_wp2_with fail
  rw [← HW3.out, ← Hv3.out]
  clear HW3 Hv3 z0 z1 z2 t0 t1 t2 rqa0 rqa1 rqa2 rqR0 rqR1 rqR2 rqp0 rqp1 rqp2
  refine (c_rsub ma (rp.num (fR_sz HFF.out) (by decide)) (by decide)).mono ?_
  rintro e w4 ⟨v, rfl, ok, b⟩
  obtain ⟨nk, ko, kl, kc, kO, kL, kC, rfl, rk⟩ := ok.seeS
  rw [HD.out] at ok rk
  replace ok := ok.rehome hB0
  replace ma := ma.below b
  replace hB0 := Nat.le_trans hB0 b.size
  replace rp := rp.below b
  replace qa := qa.below b
  replace qR := qR.below b
  replace qp := qp.below b
  replace hb := bstep hb b
  replace hsz := Nat.lt_of_lt_of_le hsz b.size
  clear b
  have hszK := hsz
  have hbK := hb.size
  have hq0 : QCell (w4.alloc (.cells #[.bool false, .slice none 0 0, .slice none 0 0] 27)) w4.heap.size false (.slice none 0 0) (.slice none 0 0) := qcell_new _ rfl
  obtain ⟨W5, hW5⟩ : ∃ W, W = w4.alloc (.cells #[.bool nk, .slice ko kl kc, .slice kO kL kC] 27) := ⟨_, rfl⟩
  have qk : QCell W5 (w4.heap.size) nk (.slice ko kl kc) (.slice kO kL kC) := by rw [hW5]; exact qcell_new _ rfl
  have b : Below w4.heap.size w4 W5 := by rw [hW5]; exact belowA _ _
  obtain ⟨z0, z1, z2⟩ := hq0.cells
  have t0 := hq0.thaw 0
  have t1 := hq0.thaw 1
  have t2 := hq0.thaw 2
  clear hq0
  replace ma := ma.below b
  replace hB0 := Nat.le_trans hB0 b.size
  replace rp := rp.below b
  replace ok := ok.below b
  replace rk := rk.below b
  replace qa := qa.below b
  replace qR := qR.below b
  replace qp := qp.below b
  replace hb := bstep hb b
  replace hsz := Nat.lt_of_lt_of_le hsz b.size
  clear b
  have rqa0 : (w4.alloc (.cells #[.bool nk, .slice ko kl kc, .slice kO kL kC] 27)).cell? ⟨g, 0, none⟩ = some (.bool na) := by rw [← hW5]; exact qa.cells.1
  have rqa1 : (w4.alloc (.cells #[.bool nk, .slice ko kl kc, .slice kO kL kC] 27)).cell? ⟨g, 1, none⟩ = some (.slice ao al ac) := by rw [← hW5]; exact qa.cells.2.1
  have rqa2 : (w4.alloc (.cells #[.bool nk, .slice ko kl kc, .slice kO kL kC] 27)).cell? ⟨g, 2, none⟩ = some (.slice aO aL aC) := by rw [← hW5]; exact qa.cells.2.2
  have rqR0 : (w4.alloc (.cells #[.bool nk, .slice ko kl kc, .slice kO kL kC] 27)).cell? ⟨g + 1, 0, none⟩ = some (.bool false) := by rw [← hW5]; exact qR.cells.1
  have rqR1 : (w4.alloc (.cells #[.bool nk, .slice ko kl kc, .slice kO kL kC] 27)).cell? ⟨g + 1, 1, none⟩ = some (.slice none 0 0) := by rw [← hW5]; exact qR.cells.2.1
  have rqR2 : (w4.alloc (.cells #[.bool nk, .slice ko kl kc, .slice kO kL kC] 27)).cell? ⟨g + 1, 2, none⟩ = some (.slice none 0 0) := by rw [← hW5]; exact qR.cells.2.2
  have rqp0 : (w4.alloc (.cells #[.bool nk, .slice ko kl kc, .slice kO kL kC] 27)).cell? ⟨v3, 0, none⟩ = some (.bool np) := by rw [← hW5]; exact qp.cells.1
  have rqp1 : (w4.alloc (.cells #[.bool nk, .slice ko kl kc, .slice kO kL kC] 27)).cell? ⟨v3, 1, none⟩ = some (.slice po pl pc) := by rw [← hW5]; exact qp.cells.2.1
  have rqp2 : (w4.alloc (.cells #[.bool nk, .slice ko kl kc, .slice kO kL kC] 27)).cell? ⟨v3, 2, none⟩ = some (.slice pO pL pC) := by rw [← hW5]; exact qp.cells.2.2
  have rqk0 : (w4.alloc (.cells #[.bool nk, .slice ko kl kc, .slice kO kL kC] 27)).cell? ⟨w4.heap.size, 0, none⟩ = some (.bool nk) := by rw [← hW5]; exact qk.cells.1
  have rqk1 : (w4.alloc (.cells #[.bool nk, .slice ko kl kc, .slice kO kL kC] 27)).cell? ⟨w4.heap.size, 1, none⟩ = some (.slice ko kl kc) := by rw [← hW5]; exact qk.cells.2.1
  have rqk2 : (w4.alloc (.cells #[.bool nk, .slice ko kl kc, .slice kO kL kC] 27)).cell? ⟨w4.heap.size, 2, none⟩ = some (.slice kO kL kC) := by rw [← hW5]; exact qk.cells.2.2
  obtain ⟨v5, hv5⟩ : ∃ v, v = w4.heap.size := ⟨_, rfl⟩
  rw [← hv5] at qk
  have HW5 : Hid (W5 = w4.alloc (.cells #[.bool nk, .slice ko kl kc, .slice kO kL kC] 27)) := hW5
  have Hv5 : Hid (v5 = w4.heap.size) := hv5
  clear hW5 hv5
  have HVD : Hid (g + 1 ≠ v5) := by show _ ≠ _; rw [Hv5.out]; omega
  have HVW : Hid (w.heap.size ≤ v5) := by show _ ≤ _; rw [Hv5.out]; exact hbK
  clear hszK hbK
  go_wp2_with fail
  rw [← HW5.out, ← Hv5.out]
  clear HW5 Hv5 z0 z1 z2 t0 t1 t2 rqa0 rqa1 rqa2 rqR0 rqR1 rqR2 rqp0 rqp1 rqp2 rqk0 rqk1 rqk2
  have hq := c_rsign (rk.num HSZ.out (by decide))
  rw [HSG.out] at hq
  refine (hq).mono ?_
  rintro e w6 ⟨rfl, b⟩
  replace ma := ma.below b
  replace hB0 := Nat.le_trans hB0 b.size
  replace rp := rp.below b
  replace ok := ok.below b
  replace rk := rk.below b
  replace qa := qa.below b
  replace qR := qR.below b
  replace qp := qp.below b
  replace qk := qk.below b
  replace hb := bstep hb b
  replace hsz := Nat.lt_of_lt_of_le hsz b.size
  clear b
  clear hq
  obtain ⟨cqa0, cqa1, cqa2⟩ := qa.cells
  obtain ⟨cqR0, cqR1, cqR2⟩ := qR.cells
  obtain ⟨cqp0, cqp1, cqp2⟩ := qp.cells
  obtain ⟨cqk0, cqk1, cqk2⟩ := qk.cells
  go_wp2_with fail
  clear cqa0 cqa1 cqa2 cqR0 cqR1 cqR2 cqp0 cqp1 cqp2 cqk0 cqk1 cqk2
  have hBd : v5 < w6.heap.size := qk.lt
  refine (c_rneg (rk.num HSZ.out (by decide)) (by decide)).mono ?_
  rintro e w7 ⟨v, rfl, oj, b⟩
  obtain ⟨nj, jo, jl, jc, jO, jL, jC, rfl, rj⟩ := oj.seeS
  rw [HR.out] at oj rj
  have hBg : B0 ≤ _ := hB0
  have oj2 := oj.rehome hB0
  have oj3 : ROwn B0 (((w7.setCell ⟨v5, 0, none⟩ (.bool nj)).setCell ⟨v5, 1, none⟩ (.slice jo jl jc)).setCell ⟨v5, 2, none⟩ (.slice jO jL jC)) (.agg #[.bool nj, .slice jo jl jc, .slice jO jL jC]) R := (oj.set3 hBd).rehome hB0
  replace ma := ma.below b
  replace hB0 := Nat.le_trans hB0 b.size
  replace rp := rp.below b
  replace ok := ok.below b
  replace rk := rk.below b
  replace qa := qa.below b
  replace qR := qR.below b
  replace qp := qp.below b
  replace qk := qk.below b
  replace hb := bstep hb b
  replace hsz := Nat.lt_of_lt_of_le hsz b.size
  clear b
  obtain ⟨W8, hW8⟩ : ∃ W, W = (((w7.setCell ⟨v5, 0, none⟩ (.bool nj)).setCell ⟨v5, 1, none⟩ (.slice jo jl jc)).setCell ⟨v5, 2, none⟩ (.slice jO jL jC)) := ⟨_, rfl⟩
  have hvd : g + 1 ≠ v5 := HVD.out
  rw [← hW8] at oj3
  have qR8 : QCell W8 (g + 1) false (.slice none 0 0) (.slice none 0 0) := by rw [hW8]; exact ((qR.other hvd _ _).other hvd _ _).other hvd _ _
  have hb8 : Below w.heap.size w W8 := by rw [hW8]; exact iend3 hb HVW.out
  have HE : Hid (OffEnd w R (.returned (.tuple #[.agg #[.bool nj, .slice jo jl jc, .slice jO jL jC], .bool true])) (((W8.setCell ⟨g + 1, 0, none⟩ (.bool nj)).setCell ⟨g + 1, 1, none⟩ (.slice jo jl jc)).setCell ⟨g + 1, 2, none⟩ (.slice jO jL jC))) := (ROwn.done oj3 (by rw [HG.out]; omega) HB0.out hb8).off
  have HW : Hid (QCell (((W8.setCell ⟨g + 1, 0, none⟩ (.bool nj)).setCell ⟨g + 1, 1, none⟩ (.slice jo jl jc)).setCell ⟨g + 1, 2, none⟩ (.slice jO jL jC)) (g + 1) nj (.slice jo jl jc) (.slice jO jL jC)) := qR8.write _ _ _
  obtain ⟨cqa0, cqa1, cqa2⟩ := qa.cells
  obtain ⟨cqR0, cqR1, cqR2⟩ := qR.cells
  obtain ⟨cqp0, cqp1, cqp2⟩ := qp.cells
  obtain ⟨cqk0, cqk1, cqk2⟩ := qk.cells
  have fR_0 := qR.thaw 0
  have fR_1 := qR.thaw 1
  have fR_2 := qR.thaw 2
  have fk_0 := qk.thaw 0
  have fk_1 := qk.thaw 1
  have fk_2 := qk.thaw 2
  obtain ⟨e0, e1, e2⟩ := qR8.cells
  have s0 := qR8.thaw 0
  have s1 := qR8.thaw 1
  have s2 := qR8.thaw 2
  have HW8 : Hid ((((w7.setCell ⟨v5, 0, none⟩ (.bool nj)).setCell ⟨v5, 1, none⟩ (.slice jo jl jc)).setCell ⟨v5, 2, none⟩ (.slice jO jL jC)) = W8) := hW8.symm
  rw [hW8] at e0 e1 e2 s0 s1 s2
  clear hW8
  clear hb hsz hb8 hvd oj oj2 oj3 qR8 rj hBd hBg qa qR qp qk ma hB0 rp ok rk
  go_wp2_with fail
  rw [HW8.out]
  (try simp only [Exit.inBlock, Exit.then])
  exact bodyPost_ret (results_ct (p := 4) (u := 5) rfl _ _ (g + 1) 27 _ (0, 0) _ rfl HW.out Tryz.underlying27 rfl (by kernel_rfl)) rfl HE.out
set_option maxRecDepth 100000 in
set_option maxHeartbeats 6400000 in
theorem off_no (na : Bool) (ao aO : Option Addr) (al ac aL aC f : Nat) (x : Rat) (w : World) (ma : RNum w (.agg #[.bool na, .slice ao al ac, .slice aO aL aC]) x 200) (hb64 : f < 18446744073709551616) (hf : 9218868437227405312 ≤ f % 2 ^ 63) :
    Calls Tryz.prog 8 #[.agg #[.bool na, .slice ao al ac, .slice aO aL aC], .float .f64 f] w fun e w' => OffNo w e w' := by
  have HF64 : Hid (f < 18446744073709551616) := hb64
  have HFF : Hid (9218868437227405312 ≤ f % 2 ^ 63) := hf
  clear hf hb64
  obtain ⟨W1, hW1⟩ : ∃ W1, W1 = (w.alloc (.cells #[.bool na, .slice ao al ac, .slice aO aL aC] 27)).alloc (.cells #[.bool false, .slice none 0 0, .slice none 0 0] 27) := ⟨_, rfl⟩
  have qa : QCell W1 (w.heap.size) na (.slice ao al ac) (.slice aO aL aC) := by rw [hW1]; exact (qcell_step (qcell_new _ (by simp)))
  have qR : QCell W1 (w.heap.size + 1) false (.slice none 0 0) (.slice none 0 0) := by rw [hW1]; exact (qcell_new _ (by simp))
  have hb : Below w.heap.size w W1 := by rw [hW1]; exact bstep (belowA w _) (belowA _ _)
  have hsz : w.heap.size + 1 < W1.heap.size := by rw [hW1]; simp
  replace ma := ma.below hb
  have HW1 : Hid (W1 = (w.alloc (.cells #[.bool na, .slice ao al ac, .slice aO aL aC] 27)).alloc (.cells #[.bool false, .slice none 0 0, .slice none 0 0] 27)) := hW1
  clear hW1
  go_enter Tryz.func8, Tryz.ntmps8
  go_wp2_with fail
  rw [← HW1.out]
  clear HW1
  obtain ⟨g, hg⟩ : ∃ g, g = w.heap.size := ⟨_, rfl⟩
  rw [← hg] at qa qR hsz ⊢
  have HG : Hid (g = w.heap.size) := hg
  clear hg
  obtain ⟨B0, hB0⟩ : ∃ B, B = W1.heap.size := ⟨_, rfl⟩
  have HB0 : Hid (g + 1 < B0) := by show _ < _; rw [hB0]; exact hsz
  replace hB0 := Nat.le_of_eq hB0
  refine (of64_no f _ HF64.out HFF.out).mono ?_
  rintro e w2 ⟨rfl, b⟩
  replace ma := ma.below b
  replace hB0 := Nat.le_trans hB0 b.size
  replace qa := qa.below b
  replace qR := qR.below b
  replace hb := bstep hb b
  replace hsz := Nat.lt_of_lt_of_le hsz b.size
  clear b
  obtain ⟨W3, hW3⟩ : ∃ W, W = w2.alloc (.cells #[.bool false, .slice none 0 0, .slice none 0 0] 27) := ⟨_, rfl⟩
  have hq0 : QCell (w2.alloc (.cells #[.bool false, .slice none 0 0, .slice none 0 0] 27)) w2.heap.size false (.slice none 0 0) (.slice none 0 0) := qcell_new _ rfl
  have b : Below w2.heap.size w2 W3 := by rw [hW3]; exact belowA _ _
  obtain ⟨z0, z1, z2⟩ := hq0.cells
  have t0 := hq0.thaw 0
  have t1 := hq0.thaw 1
  have t2 := hq0.thaw 2
  clear hq0
  replace ma := ma.below b
  replace hB0 := Nat.le_trans hB0 b.size
  replace qa := qa.below b
  replace qR := qR.below b
  replace hb := bstep hb b
  replace hsz := Nat.lt_of_lt_of_le hsz b.size
  clear b
  have rqa0 : (w2.alloc (.cells #[.bool false, .slice none 0 0, .slice none 0 0] 27)).cell? ⟨g, 0, none⟩ = some (.bool na) := by rw [← hW3]; exact qa.cells.1
  have rqa1 : (w2.alloc (.cells #[.bool false, .slice none 0 0, .slice none 0 0] 27)).cell? ⟨g, 1, none⟩ = some (.slice ao al ac) := by rw [← hW3]; exact qa.cells.2.1
  have rqa2 : (w2.alloc (.cells #[.bool false, .slice none 0 0, .slice none 0 0] 27)).cell? ⟨g, 2, none⟩ = some (.slice aO aL aC) := by rw [← hW3]; exact qa.cells.2.2
  have rqR0 : (w2.alloc (.cells #[.bool false, .slice none 0 0, .slice none 0 0] 27)).cell? ⟨g + 1, 0, none⟩ = some (.bool false) := by rw [← hW3]; exact qR.cells.1
  have rqR1 : (w2.alloc (.cells #[.bool false, .slice none 0 0, .slice none 0 0] 27)).cell? ⟨g + 1, 1, none⟩ = some (.slice none 0 0) := by rw [← hW3]; exact qR.cells.2.1
  have rqR2 : (w2.alloc (.cells #[.bool false, .slice none 0 0, .slice none 0 0] 27)).cell? ⟨g + 1, 2, none⟩ = some (.slice none 0 0) := by rw [← hW3]; exact qR.cells.2.2
  have HW3 : Hid (W3 = w2.alloc (.cells #[.bool false, .slice none 0 0, .slice none 0 0] 27)) := hW3
  clear hW3
  have qz := qR
  have HE : Hid (Below w.heap.size w (((W3.setCell ⟨g + 1, 0, none⟩ (.bool false)).setCell ⟨g + 1, 1, none⟩ (.slice none 0 0)).setCell ⟨g + 1, 2, none⟩ (.slice none 0 0))) := iend3 hb (by rw [HG.out]; omega)
  have HW : Hid (QCell (((W3.setCell ⟨g + 1, 0, none⟩ (.bool false)).setCell ⟨g + 1, 1, none⟩ (.slice none 0 0)).setCell ⟨g + 1, 2, none⟩ (.slice none 0 0)) (g + 1) false (.slice none 0 0) (.slice none 0 0)) := qz.write _ _ _
  have k0 : (w2.alloc (.cells #[.bool false, .slice none 0 0, .slice none 0 0] 27)).frozen? ⟨g + 1, 0, none⟩ = false := by rw [← HW3.out]; exact qz.thaw 0
  have k1 : (w2.alloc (.cells #[.bool false, .slice none 0 0, .slice none 0 0] 27)).frozen? ⟨g + 1, 1, none⟩ = false := by rw [← HW3.out]; exact qz.thaw 1
  have k2 : (w2.alloc (.cells #[.bool false, .slice none 0 0, .slice none 0 0] 27)).frozen? ⟨g + 1, 2, none⟩ = false := by rw [← HW3.out]; exact qz.thaw 2
  clear hb hsz qz qa qR ma hB0
  go_wp2_with fail
  rw [← HW3.out]
  (try simp only [Exit.inBlock, Exit.then])
  exact bodyPost_ret (results_ct (p := 4) (u := 5) rfl _ _ (g + 1) 27 _ (0, 0) _ rfl HW.out Tryz.underlying27 rfl (by kernel_rfl)) rfl ⟨_, _, _, _, _, _, _, rfl, HE.out⟩
theorem off_yes (na : Bool) (ao aO : Option Addr) (al ac aL aC f : Nat) (x : Rat) (w : World) (ma : RNum w (.agg #[.bool na, .slice ao al ac, .slice aO aL aC]) x 200) (hb64 : f < 18446744073709551616) (hf : f % 2 ^ 63 < 9218868437227405312) :
    Calls Tryz.prog 8 #[.agg #[.bool na, .slice ao al ac, .slice aO aL aC], .float .f64 f] w fun e w' => OffEnd w (absQ (x - fR f)) e w' := by
  by_cases hs : (x - fR f).num < 0
  · exact off_neg na ao aO al ac aL aC f x w ma hb64 hf hs
  · exact off_pos na ao aO al ac aL aC f x w ma hb64 hf hs
end Go.Proofs.YtbcddjibgaccpaaGreatDoor
