/-
  Proved here: what the document's functions of layer 3 that reckon answer.
-/
import Derived.Test.YtaafijifiiiblaaGreatR3All
import Derived.Deep.RegionHeld3
import Derived.Deep.DrawnRows
namespace Go.Proofs.YtaafijifiiiblaaGreat
open Go.RowKit
attribute [local go_sem ↓] Go.wp_at_zero Go.wp_at_succ

/-- A natural number that can be read, of so many limbs. -/
def NB (w : World) (v : Value) (z : Int) (L : Nat) : Prop := ∃ o l c xs, v = .slice o l c ∧ Num w (.slice o l c) xs ∧ xs.length ≤ L ∧ (val xs : Int) = z
theorem NB.below {w w' : World} {v : Value} {z : Int} {L : Nat} (h : NB w v z L) (hb : Below w.heap.size w w') : NB w' v z L := by
  obtain ⟨o, l, c, xs, e, h1, h2⟩ := h
  exact ⟨o, l, c, xs, e, h1.below (Nat.le_refl _) hb, h2⟩
theorem NB.ib {w : World} {o : Option Addr} {l c : Nat} {z : Int} {L : Nat} (h : NB w (.slice o l c) z L) : IB w (.agg #[.bool false, .slice o l c]) z L := by
  obtain ⟨o', l', c', xs, e, h1, h2, h3⟩ := h
  cases e
  exact ⟨_, _, _, _, _, rfl, h1, h2, h3⟩
theorem IB.num {w : World} {v : Value} {z : Int} {L : Nat} (h : IB w v z L) (hL : L ≤ 1000000) : INum w v z := by
  obtain ⟨n, o, l, c, xs, e, h1, h2, h3⟩ := h
  exact ⟨n, o, l, c, xs, e, h1, Nat.le_trans h2 hL, h3⟩
theorem IB.sz {w : World} {v : Value} {z : Int} {L : Nat} (h : IB w v z L) : Sz z L := by
  obtain ⟨n, o, l, c, xs, e, h1, h2, h3⟩ := h
  rw [← h3]
  exact Sz.of_num h1 h2
theorem NB.sz {w : World} {v : Value} {z : Int} {L : Nat} (h : NB w v z L) : Sz z L := by
  obtain ⟨o, l, c, xs, e, h1, h2, h3⟩ := h
  have := Sz.of_num (neg := false) h1 h2
  rw [show zv false (val xs) = z from h3] at this
  exact this
/-- A made whole number, opened. -/
theorem IOwn.seeB {B : Nat} {w : World} {v : Value} {z : Int} {L : Nat} (h : IOwn B w v z) (hs : Sz z L) : ∃ n o l c, v = .agg #[.bool n, .slice o l c] ∧ IB w (.agg #[.bool n, .slice o l c]) z L := by
  have h2 := h.ib hs.len
  obtain ⟨n, o, l, c, xs, rfl, h1⟩ := h2
  exact ⟨n, o, l, c, rfl, _, _, _, _, _, rfl, h1⟩
def IE (w : World) (z : Int) (L : Nat) (e : Ending) (w' : World) : Prop := ∃ n o l c, e = .returned (.agg #[.bool n, .slice o l c]) ∧ IB w' (.agg #[.bool n, .slice o l c]) z L ∧ Below w.heap.size w w'
def NE (w : World) (z : Int) (L : Nat) (e : Ending) (w' : World) : Prop := ∃ o l c, e = .returned (.slice o l c) ∧ NB w' (.slice o l c) z L ∧ Below w.heap.size w w'
theorem IEnd.b {w w' : World} {z : Int} {L : Nat} {e : Ending} (h : IEnd w z e w') (hs : Sz z L) : IE w z L e w' := by
  obtain ⟨v, rfl, ho, hb⟩ := h
  obtain ⟨n, o, l, c, rfl, hi⟩ := ho.seeB hs
  exact ⟨n, o, l, c, rfl, hi, hb⟩
theorem raddB {a b : Value} {x y : Int} {L M : Nat} {w : World} (ha : IB w a x L) (hb' : IB w b y M) (hL : L + M ≤ 4000) : Calls Tryz.prog 82 #[a, b] w fun e w' => IE w (x + y) (L + M + 1) e w' :=
  (r_add (ha.num (by omega)) (hb'.num (by omega))).mono fun _ _ h => h.b ((ha.sz.mono (Nat.le_add_right L M)).add (hb'.sz.mono (Nat.le_add_left M L)))
theorem rcmpB {a b : Value} {x y : Int} {L M : Nat} {w : World} (ha : IB w a x L) (hb' : IB w b y M) (hL : L + M ≤ 4000) : Calls Tryz.prog 107 #[a, b] w fun e w' => e = .returned (.int .i64 (cmpZ x y)) ∧ Below w.heap.size w w' :=
  r_cmp (ha.num (by omega)) (hb'.num (by omega)) (K := L + M) ha.sz hb'.sz (by omega) (by omega) (by omega)
theorem nmulB {a b : Value} {x y : Int} {L M : Nat} {w : World} (ha : NB w a x L) (hb' : NB w b y M) (hL : L + M ≤ 4000) : Calls Tryz.prog 83 #[a, b] w fun e w' => NE w (x * y) (L + M) e w' := by
  have hs := ha.sz.mul hb'.sz
  obtain ⟨o, l, c, xs, rfl, h1, h2, h3⟩ := ha
  obtain ⟨o', l', c', ys, rfl, k1, k2, k3⟩ := hb'
  refine (mul_ref _ _ _ _ _ h1 k1 (by omega) (by omega)).mono ?_
  rintro e w' ⟨v, rfl, ho, hb⟩
  obtain ⟨vo, vl, vc, rfl⟩ := ho.sl
  have e1 : ((val xs * val ys : Nat) : Int) = x * y := by rw [Int.natCast_mul, h3, k3]
  refine ⟨vo, vl, vc, rfl, ⟨_, _, _, _, rfl, ho.num, ?_, by rw [val_lim]; exact e1⟩, hb⟩
  have e2 : val xs * val ys = (x * y).natAbs := by omega
  rw [e2]; exact hs.len
theorem lowB {a b : Value} {z y : Int} {L M : Nat} {w : World} (ha : IB w a z L) (hb' : NB w b y M) (hL : L ≤ 3000) (hM : M ≤ 3000) (hy : y ≠ 0) : Calls Tryz.prog 81 #[a, b] w fun e w' => REnd w (Rat.divInt z y) e w' := by
  obtain ⟨n, o, l, c, xs, rfl, h1, h2, h3⟩ := ha
  obtain ⟨o', l', c', ys, rfl, k1, k2, k3⟩ := hb'
  have h := lowest3 n o o' l c l' c' xs ys w h1 k1 (by omega) (by omega) (fun e => hy (by rw [← k3, e]; rfl))
  rw [h3, k3] at h
  exact h
theorem und_sz {q L : Nat} (h : Sz (q : Int) L) (hL : 1 ≤ L) : Sz (und q) L := by
  unfold und
  split
  · exact Sz.one.mono hL
  · exact h
theorem keepS2 {w : World} {g v i : Nat} {x a b : Value} (h : w.cell? ⟨v, i, none⟩ = some x) (hne : g ≠ v) : ((w.setCell ⟨g, 0, none⟩ a).setCell ⟨g, 1, none⟩ b).cell? ⟨v, i, none⟩ = some x := by
  have e : ∀ (w : World) (k : Nat) (y : Value), (w.setCell ⟨g, k, none⟩ y).heap[v]? = w.heap[v]? := fun w k y => by rw [heap_setCell_other]; exact hne.symm
  have e2 : ((w.setCell ⟨g, 0, none⟩ a).setCell ⟨g, 1, none⟩ b).heap[v]? = w.heap[v]? := by rw [e, e]
  rw [← h]
  simp only [World.cell?, e2]
theorem num_one_new (w : World) : Num (w.alloc (.cells #[.int .u32 1] 100)) (.slice (some ⟨w.heap.size, 0, none⟩) 1 1) [1] := by
  refine ⟨fun x hx => by rw [List.mem_singleton.1 hx]; decide, some ⟨w.heap.size, 0, none⟩, 1, rfl, Nat.le_refl _, by decide, (fun h => by cases h), fun j hj => ⟨w.heap.size, 0, rfl, ?_⟩⟩
  have hj0 : j = 0 := by have : j < 1 := hj; omega
  subst hj0
  exact World.cell?_alloc_at _ _ _ _ rfl
set_option maxRecDepth 100000 in
set_option maxHeartbeats 3200000 in
theorem one3 (w : World) : Calls Tryz.prog 101 #[] w fun e w' => NE w 1 1 e w' := by
  have HN : Hid (Num (w.alloc (.cells #[.int .u32 1] 100)) (.slice (some ⟨w.heap.size, 0, none⟩) 1 1) [1]) := num_one_new w
  go_enter Tryz.func101, Tryz.ntmps101
  go_wp2
  go_ret
  exact ⟨_, _, _, rfl, ⟨_, _, _, _, rfl, HN.out, Nat.le_refl _, by decide⟩, belowA _ _⟩
set_option maxRecDepth 100000 in
set_option maxHeartbeats 6400000 in
theorem whole3 (o : Option Addr) (l c : Nat) (w : World) : Calls Tryz.prog 79 #[.slice o l c] w fun e w' => e = .returned (.agg #[.bool false, .slice o l c]) ∧ Below w.heap.size w w' := by
  go_enter Tryz.func79, Tryz.ntmps79
  go_wp2
  (try simp only [Exit.inBlock, Exit.then])
  exact bodyPost_ret (results_cell_row rfl _ _ w.heap.size 25 _ (0, 0) _ rfl (heap_alloc_new w _) Tryz.underlying25 rfl (by kernel_rfl)) rfl ⟨rfl, belowA _ _⟩
theorem lim_len_pos3 {n : Nat} (h : n ≠ 0) : 0 < (lim n).length := by
  rcases Nat.eq_zero_or_pos (lim n).length with h0 | h0
  · exfalso; apply h
    have : lim n = [] := List.eq_nil_of_length_eq_zero h0
    rw [← val_lim n, this]; rfl
  · exact h0
set_option maxRecDepth 100000 in
set_option maxHeartbeats 6400000 in
theorem den3_no (na : Bool) (ao aO : Option Addr) (al ac aL aC : Nat) (ya : List Nat) (q L : Nat) (w : World) (da : Num w (.slice aO aL aC) ya) (la : ya.length ≤ L) (he : val ya = q) (hL : 1 ≤ L ∧ L ≤ 4000) (hz : q = 0) : Calls Tryz.prog 80 #[.agg #[.bool na, .slice ao al ac, .slice aO aL aC]] w fun e w' => NE w (und q) L e w' := by
  have hL300 := hL
  obtain ⟨W1, hW1⟩ : ∃ W1, W1 = w.alloc (.cells #[.bool na, .slice ao al ac, .slice aO aL aC] 27) := ⟨_, rfl⟩
  have qa : QCell W1 (w.heap.size) na (.slice ao al ac) (.slice aO aL aC) := by rw [hW1]; exact (qcell_new _ (by simp))
  have hb : Below w.heap.size w W1 := by rw [hW1]; exact belowA w _
  have hsz : w.heap.size < W1.heap.size := by rw [hW1]; simp
  replace da := da.below (Nat.le_refl _) hb
  have HW1 : Hid (W1 = w.alloc (.cells #[.bool na, .slice ao al ac, .slice aO aL aC] 27)) := hW1
  clear hW1
  go_enter Tryz.func80, Tryz.ntmps80
  go_wp2_with fail
  rw [← HW1.out]
  clear HW1
  obtain ⟨g, hg⟩ : ∃ g, g = w.heap.size := ⟨_, rfl⟩
  rw [← hg] at qa hsz ⊢
  have HG : Hid (g = w.heap.size) := hg
  clear hg
  obtain ⟨cqa0, cqa1, cqa2⟩ := qa.cells
  go_wp2_with fail
  clear cqa0 cqa1 cqa2
  have hq := norm_ref _ _ _ da (by omega)
  refine (hq).mono ?_
  rintro e w2 ⟨u, rfl, hu, b⟩
  clear hq
  obtain ⟨uo, ul, uc, rfl⟩ := hu.sl
  have hul := (num_len hu.num).1
  replace da := da.below (Nat.le_refl _) b
  replace qa := qa.below b
  replace hb := bstep hb b
  replace hsz := Nat.lt_of_lt_of_le hsz b.size
  clear b
  have hul0 : ul = 0 := by rw [← hul, he, hz]; rfl
  clear hul
  subst hul0
  obtain ⟨cqa0, cqa1, cqa2⟩ := qa.cells
  go_wp2_with fail
  clear cqa0 cqa1 cqa2
  refine (one3 _).mono ?_
  rintro e w3 ⟨yo, yl, yc, rfl, hn, b⟩
  replace da := da.below (Nat.le_refl _) b
  replace hu := hu.below b
  replace qa := qa.below b
  replace hb := bstep hb b
  replace hsz := Nat.lt_of_lt_of_le hsz b.size
  clear b
  have HE : Hid (NE w (und q) L (.returned (.slice yo yl yc)) w3) := ⟨_, _, _, rfl, by obtain ⟨o2, l2, c2, zs, e2, k1, k2, k3⟩ := hn; cases e2; exact ⟨_, _, _, _, rfl, k1, by omega, by rw [k3, hz]; rfl⟩, hb⟩
  clear hb hsz hn qa da hu
  go_wp2
  go_ret
  exact HE.out
set_option maxRecDepth 100000 in
set_option maxHeartbeats 6400000 in
theorem den3_yes (na : Bool) (ao aO : Option Addr) (al ac aL aC : Nat) (ya : List Nat) (q L : Nat) (w : World) (da : Num w (.slice aO aL aC) ya) (la : ya.length ≤ L) (he : val ya = q) (hL : 1 ≤ L ∧ L ≤ 4000) (hz : q ≠ 0) : Calls Tryz.prog 80 #[.agg #[.bool na, .slice ao al ac, .slice aO aL aC]] w fun e w' => NE w (und q) L e w' := by
  have hL300 := hL
  obtain ⟨W1, hW1⟩ : ∃ W1, W1 = w.alloc (.cells #[.bool na, .slice ao al ac, .slice aO aL aC] 27) := ⟨_, rfl⟩
  have qa : QCell W1 (w.heap.size) na (.slice ao al ac) (.slice aO aL aC) := by rw [hW1]; exact (qcell_new _ (by simp))
  have hb : Below w.heap.size w W1 := by rw [hW1]; exact belowA w _
  have hsz : w.heap.size < W1.heap.size := by rw [hW1]; simp
  replace da := da.below (Nat.le_refl _) hb
  have HW1 : Hid (W1 = w.alloc (.cells #[.bool na, .slice ao al ac, .slice aO aL aC] 27)) := hW1
  clear hW1
  go_enter Tryz.func80, Tryz.ntmps80
  go_wp2_with fail
  rw [← HW1.out]
  clear HW1
  obtain ⟨g, hg⟩ : ∃ g, g = w.heap.size := ⟨_, rfl⟩
  rw [← hg] at qa hsz ⊢
  have HG : Hid (g = w.heap.size) := hg
  clear hg
  obtain ⟨cqa0, cqa1, cqa2⟩ := qa.cells
  go_wp2_with fail
  clear cqa0 cqa1 cqa2
  have hq := norm_ref _ _ _ da (by omega)
  refine (hq).mono ?_
  rintro e w2 ⟨u, rfl, hu, b⟩
  clear hq
  obtain ⟨uo, ul, uc, rfl⟩ := hu.sl
  have hul := (num_len hu.num).1
  replace da := da.below (Nat.le_refl _) b
  replace qa := qa.below b
  replace hb := bstep hb b
  replace hsz := Nat.lt_of_lt_of_le hsz b.size
  clear b
  have hul0 : ((ul : Int) == 0) = false := nz_int2 (by rw [← hul, he]; exact lim_len_pos3 hz)
  clear hul
  obtain ⟨cqa0, cqa1, cqa2⟩ := qa.cells
  have HE : Hid (NE w (und q) L (.returned (.slice uo ul uc)) w2) := ⟨_, _, _, rfl, ⟨_, _, _, _, rfl, hu.num, Nat.le_trans (lim_short da) la, by rw [val_lim, he]; unfold und; rw [if_neg hz]⟩, hb⟩
  clear hb hsz qa da hu
  go_wp2
  go_ret
  exact HE.out
theorem den3 {na : Bool} {ao aO : Option Addr} {al ac aL aC : Nat} {q L : Nat} {w : World} (h : NB w (.slice aO aL aC) (q : Int) L) (hL : 1 ≤ L ∧ L ≤ 4000) : Calls Tryz.prog 80 #[.agg #[.bool na, .slice ao al ac, .slice aO aL aC]] w fun e w' => NE w (und q) L e w' := by
  obtain ⟨o, l, c, xs, e, h1, h2, h3⟩ := h
  cases e
  have h3 : val xs = q := by omega
  by_cases hz : q = 0
  · exact den3_no na ao _ al ac _ _ xs q L w h1 h2 h3 hL hz
  · exact den3_yes na ao _ al ac _ _ xs q L w h1 h2 h3 hL hz
set_option maxRecDepth 100000 in
set_option maxHeartbeats 6400000 in
theorem rmulE {a b : Value} {x y : Int} {L M : Nat} {w : World} (ha : IB w a x L) (hb' : IB w b y M) (hL : L + M ≤ 4000) : Calls Tryz.prog 78 #[a, b] w fun e w' => IEnd w (x * y) e w' := by
  have hs := ha.sz.mul hb'.sz
  obtain ⟨na, ao, al, ac, xa, rfl, ua, la, za⟩ := ha
  obtain ⟨nb, bo, bl, bc, xb, rfl, ub, lb, zb⟩ := hb'
  obtain ⟨ns, hns⟩ : ∃ s, s = (na != nb) := ⟨_, rfl⟩
  have hns2 : (na != nb) = ns := hns.symm
  obtain ⟨Z, hZ⟩ : ∃ Z, Z = x * y := ⟨_, rfl⟩
  rw [← hZ] at hs ⊢
  have HZ : Hid (zv ns (val xa * val xb) = Z) := by show _ = _; rw [hns, ← zv_mul, za, zb, hZ]
  clear hns hZ za zb
  have HL : Hid (xa.length ≤ 4000 ∧ xb.length ≤ 4000) := ⟨by omega, by omega⟩
  have HS : Hid (Sz Z (L + M)) := hs
  clear hs la lb
  obtain ⟨W1, hW1⟩ : ∃ W1, W1 = ((w.alloc (.cells #[.bool na, .slice ao al ac] 25)).alloc (.cells #[.bool nb, .slice bo bl bc] 25)).alloc (.cells #[.bool false, .slice none 0 0] 25) := ⟨_, rfl⟩
  have qa : ICell W1 (w.heap.size) na (.slice ao al ac) := by rw [hW1]; exact (icell_step (icell_step (icell_new _ (by simp))))
  have qb : ICell W1 (w.heap.size + 1) nb (.slice bo bl bc) := by rw [hW1]; exact (icell_step (icell_new _ (by simp)))
  have qR : ICell W1 (w.heap.size + 1 + 1) false (.slice none 0 0) := by rw [hW1]; exact (icell_new _ (by simp))
  have hb : Below w.heap.size w W1 := by rw [hW1]; exact bstep (bstep (belowA w _) (belowA _ _)) (belowA _ _)
  have hsz : w.heap.size + 1 + 1 < W1.heap.size := by rw [hW1]; simp
  replace ua := ua.below (Nat.le_refl _) hb
  replace ub := ub.below (Nat.le_refl _) hb
  have HW1 : Hid (W1 = ((w.alloc (.cells #[.bool na, .slice ao al ac] 25)).alloc (.cells #[.bool nb, .slice bo bl bc] 25)).alloc (.cells #[.bool false, .slice none 0 0] 25)) := hW1
  clear hW1
  go_enter Tryz.func78, Tryz.ntmps78
  go_wp2_with fail
  rw [← HW1.out]
  clear HW1
  obtain ⟨g, hg⟩ : ∃ g, g = w.heap.size := ⟨_, rfl⟩
  rw [← hg] at qa qb qR hsz ⊢
  have HG : Hid (g = w.heap.size) := hg
  clear hg
  obtain ⟨cqa0, cqa1⟩ := qa.cells
  obtain ⟨cqb0, cqb1⟩ := qb.cells
  obtain ⟨cqR0, cqR1⟩ := qR.cells
  have hns3 : (na == nb) = !ns := by rw [← hns2]; cases na <;> cases nb <;> rfl
  clear cqR0 cqR1
  go_region_held3 (fun w' => w'.cell? ⟨g, 0, none⟩ = some (.bool na) ∧ w'.cell? ⟨g + 1, 0, none⟩ = some (.bool nb) ∧ w'.cell? ⟨g, 1, none⟩ = some (.slice ao al ac) ∧ w'.cell? ⟨g + 1, 1, none⟩ = some (.slice bo bl bc)) (((try dsimp only); go_split_ands; refine ⟨?_, ?_, ?_, ?_⟩ <;> first | exact keepB (by with_reducible assumption) (by with_reducible assumption) | exact keepS2 (by with_reducible assumption) (by omega) | go_keep)) (first
    | (go_at_call 83; refine (mul_ref _ _ _ _ _ (ua.same (w' := W1.drew) rfl) (ub.same (w' := W1.drew) rfl) (by have := HL.out.1; omega) (by have := HL.out.2; omega)).mono ?_; rintro e w2 ⟨k, rfl, hk, b2⟩; obtain ⟨ko, kl, kc, rfl⟩ := hk.sl; have hkl : (lim (val xa * val xb)).length ≤ 1000000 := (by have h9 := HS.out.len; rw [← HZ.out, zv_abs] at h9; omega))
    | (go_at_call 99; have hq := make_ref ns _ _ _ hk.num (by omega); rw [val_lim, HZ.out] at hq; refine hq.mono ?_; rintro e w3 ⟨v, rfl, ⟨m, rfl, hm⟩, b3⟩; obtain ⟨mo, ml, mc, rfl⟩ := hm.sl; have qq := ((show ICell W1.drew (g + 1 + 1) false (.slice none 0 0) from qR).below b2).below b3; obtain ⟨y0, y1⟩ := qq.cells; have f0 := qq.thaw 0; have f1 := qq.thaw 1; have HE : Hid (IEnd w Z (.returned (.agg #[.bool (decide (Z < 0)), .slice mo ml mc])) ((w3.setCell ⟨g + 1 + 1, 0, none⟩ (.bool (decide (Z < 0)))).setCell ⟨g + 1 + 1, 1, none⟩ (.slice mo ml mc))) := (int_done rfl (by rw [HG.out]; omega) hm (Nat.lt_of_lt_of_le hsz b2.size) (bstep hb (bstep (bstep (below_drew' _) b2) b3))).i; have HW : Hid (ICell ((w3.setCell ⟨g + 1 + 1, 0, none⟩ (.bool (decide (Z < 0)))).setCell ⟨g + 1 + 1, 1, none⟩ (.slice mo ml mc)) (g + 1 + 1) (decide (Z < 0)) (.slice mo ml mc)) := qq.write _ _; generalize decide (Z < 0) = bb at *))
  go_wp2_with fail
  (try simp only [Exit.inBlock, Exit.then])
  exact bodyPost_ret (results_cell_row rfl _ _ (g + 1 + 1) 25 _ (0, 0) _ rfl HW.out Tryz.underlying25 rfl (by kernel_rfl)) rfl HE.out
theorem rmulB {a b : Value} {x y : Int} {L M : Nat} {w : World} (ha : IB w a x L) (hb' : IB w b y M) (hL : L + M ≤ 4000) : Calls Tryz.prog 78 #[a, b] w fun e w' => IE w (x * y) (L + M) e w' :=
  (rmulE ha hb' hL).mono fun _ _ h => h.b (ha.sz.mul hb'.sz)
end Go.Proofs.YtaafijifiiiblaaGreat
