/-
  Proved here: what Sum of package frac answers.
  Proved here: what the small functions of credencelaw03 answer.
  Proved here: awake answers true.
  Proved here: plain facts on fractions that a law reads. No condition.
  Proved here: what near answers of a fraction as it is read: its side, its size above and below the line.
  Proved here: alive of the laws of near returns true.
  Proved here: how many limbs a float's value has; which floats are noughts; plain mathematics.
-/
import Derived.Test.YtbcddjibgaccpaaGreatDoorFracE
import Derived.Test.YtbcddjibgaccpaaGreatDoorNearFAll
import Derived.Test.YtbcddjibgaccpaaGreatDoorFracDAll
namespace Go.Proofs.YtbcddjibgaccpaaGreatDoor
open Go.RowKit

/-- A row of fractions that can be read. -/
def RRow (w : World) (b n : Nat) (xs : Nat → Rat) (L : Nat) : Prop := ∀ i, i < n → ∃ nn ao al ac bo bl bc, w.cell? ⟨b, i * 3, none⟩ = some (.bool nn) ∧ w.cell? ⟨b, i * 3 + 1, none⟩ = some (.slice ao al ac) ∧ w.cell? ⟨b, i * 3 + 2, none⟩ = some (.slice bo bl bc) ∧ RNum w (.agg #[.bool nn, .slice ao al ac, .slice bo bl bc]) (xs i) L
theorem RRow.below {w w' : World} {b n : Nat} {xs : Nat → Rat} {L : Nat} (h : RRow w b n xs L) (hb : Below w.heap.size w w') : RRow w' b n xs L := by
  intro i hi
  obtain ⟨nn, ao, al, ac, bo, bl, bc, h1, h2, h3, h4⟩ := h i hi
  exact ⟨nn, ao, al, ac, bo, bl, bc, keepB hb h1, keepB hb h2, keepB hb h3, h4.below hb⟩
/-- The sum of the first. -/
def rsum (xs : Nat → Rat) : Nat → Rat
  | 0 => 0
  | i + 1 => rsum xs i + xs i
theorem rsum_succ (xs : Nat → Rat) (i : Nat) : rsum xs (i + 1) = rsum xs i + xs i := rfl
theorem rown_store {B B0 g : Nat} {w : World} {r : Rat} {b : Bool} {m d : Value} (hb : b = decide (r.num < 0)) (hm : Own B0 39 w m (lim r.num.natAbs)) (hd : Own B0 39 w d (lim r.den)) (hap : m.ownBlock = none ∨ m.ownBlock ≠ d.ownBlock) (hg : g < B0) (hB : B ≤ B0) :
    ROwn B (((w.setCell ⟨g, 0, none⟩ (.bool b)).setCell ⟨g, 1, none⟩ m).setCell ⟨g, 2, none⟩ d) (.agg #[.bool b, m, d]) r :=
  ⟨m, d, by rw [hb], (((hm.other _ (own_ne hm hg)).other _ (own_ne hm hg)).other _ (own_ne hm hg)).mono hB, (((hd.other _ (own_ne hd hg)).other _ (own_ne hd hg)).other _ (own_ne hd hg)).mono hB, hap⟩
theorem RSz.zero : RSz 0 1 := ⟨Sz.zero, Sz.one⟩
end Go.Proofs.YtbcddjibgaccpaaGreatDoor

namespace Go.Proofs.YtbcddjibgaccpaaGreatDoor
open Go.RowKit

theorem num_len {w : World} {o : Option Addr} {l c : Nat} {xs : List Nat} (h : Num w (.slice o l c) xs) : xs.length = l ∧ l ≤ c ∧ c ≤ 9223372036854775807 := by
  obtain ⟨ao, cap, e, h1, h2⟩ := h.ao
  simp only [Value.slice.injEq] at e
  obtain ⟨_, rfl, rfl⟩ := e
  exact ⟨rfl, h1, h2⟩
/-- A number cut to so many limbs. -/
theorem num_cut {w : World} {o : Option Addr} {l c : Nat} {xs : List Nat} (h : Num w (.slice o l c) xs) {k : Nat} (hk : k ≤ l) : Num w (.slice o k c) (xs.take k) := by
  have h1 := h.cut (k := k) (by rw [(num_len h).1]; exact hk)
  exact h1
theorem lim_top {n k : Nat} (hk : (lim n).length = k + 1) : (lim n).getD k 0 ≠ 0 := by
  have hn : n ≠ 0 := by intro h; rw [h, show (lim 0).length = 0 from rfl] at hk; omega
  obtain ⟨k', t, h1, h2, h3, _⟩ := lim_last hn
  have e : k' = k := by omega
  rw [e] at h2
  rw [h2]
  exact h3
end Go.Proofs.YtbcddjibgaccpaaGreatDoor

namespace Go.Proofs.YtbcddjibgaccpaaGreatDoor
open Go.RowKit

theorem ROwn.see {B : Nat} {w : World} {v : Value} {r : Rat} {L : Nat} (h : ROwn B w v r) (hs : RSz r L) (hL : L ≤ 1000000) : ∃ n ao al ac bo bl bc, v = .agg #[.bool n, .slice ao al ac, .slice bo bl bc] ∧ RNum w (.agg #[.bool n, .slice ao al ac, .slice bo bl bc]) r L := by
  have h1 := h.std
  have h2 := h1.num hs hL
  obtain ⟨n, ao, al, ac, bo, bl, bc, rfl, _⟩ := h1
  exact ⟨n, ao, al, ac, bo, bl, bc, rfl, h2⟩
end Go.Proofs.YtbcddjibgaccpaaGreatDoor

namespace Go.Proofs.YtbcddjibgaccpaaGreatDoor
open Go.RowKit

theorem ROwn.seeS {B : Nat} {w : World} {v : Value} {r : Rat} (h : ROwn B w v r) : ∃ n ao al ac bo bl bc, v = .agg #[.bool n, .slice ao al ac, .slice bo bl bc] ∧ RStd w (.agg #[.bool n, .slice ao al ac, .slice bo bl bc]) r := by
  have h1 := h.std
  have h2 := h.std
  obtain ⟨n, ao, al, ac, bo, bl, bc, rfl, _⟩ := h1
  exact ⟨n, ao, al, ac, bo, bl, bc, rfl, h2⟩
theorem rnum_of {w : World} {n : Bool} {ao bo : Option Addr} {al ac bl bc : Nat} {xs ys : List Nat} {L : Nat} (hx : Num w (.slice ao al ac) xs) (hy : Num w (.slice bo bl bc) ys) (lx : xs.length ≤ L) (ly : ys.length ≤ L) (h1 : 1 ≤ L) (hL : L ≤ 1000000) : RNum w (.agg #[.bool n, .slice ao al ac, .slice bo bl bc]) (rq (zv n (val xs)) (val ys)) L := by
  refine ⟨_, _, ⟨_, _, _, _, _, _, _, _, rfl, ⟨_, _, _, _, _, rfl, hx, by omega, rfl⟩, hy, by omega, rfl⟩, rfl, Sz.of_num hx lx, ?_⟩
  unfold und
  split
  · exact Sz.one.mono h1
  · exact (Sz.of_num (neg := false) hy ly)
end Go.Proofs.YtbcddjibgaccpaaGreatDoor

namespace Go.Proofs.YtbcddjibgaccpaaGreatDoor
open Go.RowKit

/-- A fraction that can be read, of at most 1000 limbs: its side, what stands above, what counts below. -/
def QN (w : World) (v : Value) (s : Bool) (N D : Nat) : Prop := ∃ na po pl pc qo ql qc xs ys, v = .agg #[.bool na, .slice po pl pc, .slice qo ql qc] ∧ Num w (.slice po pl pc) xs ∧ Num w (.slice qo ql qc) ys ∧ xs.length ≤ 1000 ∧ ys.length ≤ 1000 ∧ val xs = N ∧ undN (val ys) = D ∧ decide (cmpZ (zv na (val xs)) 0 < 0) = s
theorem QN.below {w w' : World} {v : Value} {s : Bool} {N D : Nat} (h : QN w v s N D) (hb : Below w.heap.size w w') : QN w' v s N D := by
  obtain ⟨na, po, pl, pc, qo, ql, qc, xs, ys, e, h1, h2, h3⟩ := h
  exact ⟨na, po, pl, pc, qo, ql, qc, xs, ys, e, h1.below (Nat.le_refl _) hb, h2.below (Nat.le_refl _) hb, h3⟩
theorem cmpZ_neg {z : Int} : decide (cmpZ z 0 < 0) = decide (z < 0) := by
  unfold cmpZ
  by_cases h : z < 0
  · rw [if_pos h, decide_eq_true h]; rfl
  · rw [if_neg h, decide_eq_false h]; split <;> rfl
theorem RStd.qn {w : World} {v : Value} {r : Rat} {L : Nat} (h : RStd w v r) (hs : RSz r L) (hL : L ≤ 1000) : QN w v (decide (r.num < 0)) r.num.natAbs r.den := by
  obtain ⟨n, ao, al, ac, bo, bl, bc, e, e2, h1, h2⟩ := h
  have hd := hs.den.len
  rw [Int.natAbs_natCast] at hd
  refine ⟨n, ao, al, ac, bo, bl, bc, _, _, e, h1, h2, Nat.le_trans hs.num.len hL, Nat.le_trans hd hL, val_lim _, ?_, ?_⟩
  · rw [val_lim]; exact if_neg r.den_nz
  · rw [val_lim, cmpZ_neg, e2, zv_self]
theorem q_nearest {w : World} {v : Value} {s : Bool} {N D : Nat} (h : QN w v s N D) : Calls Tryz.prog 6 #[v] w fun e w' => e = .returned (.float .f64 (sidedF s (nearestF (findF 53 (-1074) 1024 N D)))) ∧ Below w.heap.size w w' := by
  obtain ⟨na, po, pl, pc, qo, ql, qc, xs, ys, rfl, h1, h2, h3, h4, rfl, rfl, rfl⟩ := h
  exact nearest_any na po qo pl pc ql qc xs ys w h1 h2 h3 h4
theorem q_single {w : World} {v : Value} {s : Bool} {N D : Nat} (h : QN w v s N D) : Calls Tryz.prog 7 #[v] w fun e w' => e = .returned (.float .f32 (sidedS s (nearestF (findF 24 (-149) 128 N D)))) ∧ Below w.heap.size w w' := by
  obtain ⟨na, po, pl, pc, qo, ql, qc, xs, ys, rfl, h1, h2, h3, h4, rfl, rfl, rfl⟩ := h
  exact single_any na po qo pl pc ql qc xs ys w h1 h2 h3 h4
theorem q_around {w : World} {v : Value} {s : Bool} {N D : Nat} (h : QN w v s N D) : Calls Tryz.prog 13 #[v] w fun e w' => e = .returned (.tuple #[.float .f64 (arLo s (findF 53 (-1074) 1024 N D).1 (aboveF (findF 53 (-1074) 1024 N D))), .float .f64 (arHi s (findF 53 (-1074) 1024 N D).1 (aboveF (findF 53 (-1074) 1024 N D)))]) ∧ Below w.heap.size w w' := by
  obtain ⟨na, po, pl, pc, qo, ql, qc, xs, ys, rfl, h1, h2, h3, h4, rfl, rfl, rfl⟩ := h
  exact around_near na po qo pl pc ql qc xs ys w h1 h2 h3 h4 _ rfl _ _ rfl
end Go.Proofs.YtbcddjibgaccpaaGreatDoor

namespace Go.Proofs.YtbcddjibgaccpaaGreatDoor
open Go.RowKit

theorem sz_half : RSz (Rat.divInt 1 2) 1 := RSz.of (by decide) ⟨by decide⟩ ⟨by decide⟩
theorem sz_third : RSz (Rat.divInt (-1) 3) 1 := RSz.of (by decide) ⟨by decide⟩ ⟨by decide⟩
theorem sz_quart : RSz (Rat.divInt 3 4) 1 := RSz.of (by decide) ⟨by decide⟩ ⟨by decide⟩
theorem fR_quart : fR 4604930618986332160 = Rat.divInt 3 4 := by decide +kernel
theorem half_bits : sidedF (decide ((Rat.divInt 1 2).num < 0)) (nearestF (findF 53 (-1074) 1024 (Rat.divInt 1 2).num.natAbs (Rat.divInt 1 2).den)) = 4602678819172646912 := by decide +kernel
theorem half_bits2 : sidedS (decide ((Rat.divInt 1 2).num < 0)) (nearestF (findF 24 (-149) 128 (Rat.divInt 1 2).num.natAbs (Rat.divInt 1 2).den)) = 1056964608 := by decide +kernel
theorem third_lo : arLo (decide ((Rat.divInt (-1) 3).num < 0)) (findF 53 (-1074) 1024 (Rat.divInt (-1) 3).num.natAbs (Rat.divInt (-1) 3).den).1 (aboveF (findF 53 (-1074) 1024 (Rat.divInt (-1) 3).num.natAbs (Rat.divInt (-1) 3).den)) = 13823048456275842390 := by decide +kernel
theorem third_hi : arHi (decide ((Rat.divInt (-1) 3).num < 0)) (findF 53 (-1074) 1024 (Rat.divInt (-1) 3).num.natAbs (Rat.divInt (-1) 3).den).1 (aboveF (findF 53 (-1074) 1024 (Rat.divInt (-1) 3).num.natAbs (Rat.divInt (-1) 3).den)) = 13823048456275842389 := by decide +kernel
theorem quart_text : rt (Rat.divInt 3 4) = ⟨#[51, 47, 52]⟩ := by decide +kernel
theorem same_bits : (FloatKind.f64.format.order 4602678819172646912 4602678819172646912 == some .eq) = true ∧ (FloatKind.f64.format.order 13823048456275842390 13823048456275842390 == some .eq) = true ∧ (FloatKind.f64.format.order 13823048456275842389 13823048456275842389 == some .eq) = true ∧ (FloatKind.f32.format.order 1056964608 1056964608 == some .eq) = true := by decide +kernel

set_option maxRecDepth 100000 in
set_option maxHeartbeats 6400000 in
theorem alive5_yes (w : World) : Calls Tryz.prog 4 #[] w fun e w' => e = .returned (.bool true) ∧ Below w.heap.size w w' := by
  obtain ⟨e1, e2, e3, e4⟩ := same_bits
  have hb : Below w.heap.size w w := Below.refl _ _
  go_enter Tryz.func4, Tryz.ntmps4
  go_wp2_with fail
  refine (c_fof (n := 1) (d := 2) (by decide) (by decide) (by decide) (by decide) (by decide)).mono ?_
  rintro e w2 ⟨v, rfl, hv, b⟩
  obtain ⟨na, ao, al, ac, aO, aL, aC, rfl, ra⟩ := hv.seeS
  clear hv
  replace hb := bstep hb b
  clear b
  have hq0 : QCell (w2.alloc (.cells #[.bool false, .slice none 0 0, .slice none 0 0] 27)) w2.heap.size false (.slice none 0 0) (.slice none 0 0) := qcell_new _ rfl
  obtain ⟨W3, hW3⟩ : ∃ W, W = w2.alloc (.cells #[.bool na, .slice ao al ac, .slice aO aL aC] 27) := ⟨_, rfl⟩
  have qa : QCell W3 (w2.heap.size) na (.slice ao al ac) (.slice aO aL aC) := by rw [hW3]; exact qcell_new _ rfl
  have b : Below w2.heap.size w2 W3 := by rw [hW3]; exact belowA _ _
  obtain ⟨z0, z1, z2⟩ := hq0.cells
  have t0 := hq0.thaw 0
  have t1 := hq0.thaw 1
  have t2 := hq0.thaw 2
  clear hq0
  replace ra := ra.below b
  replace hb := bstep hb b
  clear b
  have rqa0 : (w2.alloc (.cells #[.bool na, .slice ao al ac, .slice aO aL aC] 27)).cell? ⟨w2.heap.size, 0, none⟩ = some (.bool na) := by rw [← hW3]; exact qa.cells.1
  have rqa1 : (w2.alloc (.cells #[.bool na, .slice ao al ac, .slice aO aL aC] 27)).cell? ⟨w2.heap.size, 1, none⟩ = some (.slice ao al ac) := by rw [← hW3]; exact qa.cells.2.1
  have rqa2 : (w2.alloc (.cells #[.bool na, .slice ao al ac, .slice aO aL aC] 27)).cell? ⟨w2.heap.size, 2, none⟩ = some (.slice aO aL aC) := by rw [← hW3]; exact qa.cells.2.2
  obtain ⟨v3, hv3⟩ : ∃ v, v = w2.heap.size := ⟨_, rfl⟩
  rw [← hv3] at qa
  have HW3 : Hid (W3 = w2.alloc (.cells #[.bool na, .slice ao al ac, .slice aO aL aC] 27)) := hW3
  have Hv3 : Hid (v3 = w2.heap.size) := hv3
  clear hW3 hv3
  go_wp2_with fail
  rw [← HW3.out, ← Hv3.out]
  clear HW3 Hv3 z0 z1 z2 t0 t1 t2 rqa0 rqa1 rqa2
  refine (c_fof (n := -1) (d := 3) (by decide) (by decide) (by decide) (by decide) (by decide)).mono ?_
  rintro e w4 ⟨v, rfl, hv, b⟩
  obtain ⟨nb, bo, bl, bc, bO, bL, bC, rfl, rb⟩ := hv.seeS
  clear hv
  replace ra := ra.below b
  replace qa := qa.below b
  replace hb := bstep hb b
  clear b
  have hq0 : QCell (w4.alloc (.cells #[.bool false, .slice none 0 0, .slice none 0 0] 27)) w4.heap.size false (.slice none 0 0) (.slice none 0 0) := qcell_new _ rfl
  obtain ⟨W5, hW5⟩ : ∃ W, W = w4.alloc (.cells #[.bool nb, .slice bo bl bc, .slice bO bL bC] 27) := ⟨_, rfl⟩
  have qb : QCell W5 (w4.heap.size) nb (.slice bo bl bc) (.slice bO bL bC) := by rw [hW5]; exact qcell_new _ rfl
  have b : Below w4.heap.size w4 W5 := by rw [hW5]; exact belowA _ _
  obtain ⟨z0, z1, z2⟩ := hq0.cells
  have t0 := hq0.thaw 0
  have t1 := hq0.thaw 1
  have t2 := hq0.thaw 2
  clear hq0
  replace ra := ra.below b
  replace rb := rb.below b
  replace qa := qa.below b
  replace hb := bstep hb b
  clear b
  have rqa0 : (w4.alloc (.cells #[.bool nb, .slice bo bl bc, .slice bO bL bC] 27)).cell? ⟨v3, 0, none⟩ = some (.bool na) := by rw [← hW5]; exact qa.cells.1
  have rqa1 : (w4.alloc (.cells #[.bool nb, .slice bo bl bc, .slice bO bL bC] 27)).cell? ⟨v3, 1, none⟩ = some (.slice ao al ac) := by rw [← hW5]; exact qa.cells.2.1
  have rqa2 : (w4.alloc (.cells #[.bool nb, .slice bo bl bc, .slice bO bL bC] 27)).cell? ⟨v3, 2, none⟩ = some (.slice aO aL aC) := by rw [← hW5]; exact qa.cells.2.2
  have rqb0 : (w4.alloc (.cells #[.bool nb, .slice bo bl bc, .slice bO bL bC] 27)).cell? ⟨w4.heap.size, 0, none⟩ = some (.bool nb) := by rw [← hW5]; exact qb.cells.1
  have rqb1 : (w4.alloc (.cells #[.bool nb, .slice bo bl bc, .slice bO bL bC] 27)).cell? ⟨w4.heap.size, 1, none⟩ = some (.slice bo bl bc) := by rw [← hW5]; exact qb.cells.2.1
  have rqb2 : (w4.alloc (.cells #[.bool nb, .slice bo bl bc, .slice bO bL bC] 27)).cell? ⟨w4.heap.size, 2, none⟩ = some (.slice bO bL bC) := by rw [← hW5]; exact qb.cells.2.2
  obtain ⟨v5, hv5⟩ : ∃ v, v = w4.heap.size := ⟨_, rfl⟩
  rw [← hv5] at qb
  have HW5 : Hid (W5 = w4.alloc (.cells #[.bool nb, .slice bo bl bc, .slice bO bL bC] 27)) := hW5
  have Hv5 : Hid (v5 = w4.heap.size) := hv5
  clear hW5 hv5
  go_wp2_with fail
  rw [← HW5.out, ← Hv5.out]
  clear HW5 Hv5 z0 z1 z2 t0 t1 t2 rqa0 rqa1 rqa2 rqb0 rqb1 rqb2
  have hq := q_around (rb.qn sz_third (by decide))
  rw [third_lo, third_hi] at hq
  refine (hq).mono ?_
  rintro e w6 ⟨rfl, b⟩
  replace ra := ra.below b
  replace rb := rb.below b
  replace qa := qa.below b
  replace qb := qb.below b
  replace hb := bstep hb b
  clear b
  clear hq
  obtain ⟨cqa0, cqa1, cqa2⟩ := qa.cells
  obtain ⟨cqb0, cqb1, cqb2⟩ := qb.cells
  go_wp2_with fail
  clear cqa0 cqa1 cqa2 cqb0 cqb1 cqb2
  have hq := fun w => of64_yes 4604930618986332160 w (by decide) (by decide)
  rw [fR_quart] at hq
  refine (hq _).mono ?_
  rintro e w7 ⟨v, rfl, hv, b⟩
  obtain ⟨nc, co, cl, cc, cO, cL, cC, rfl, rc⟩ := hv.seeS
  clear hv
  replace ra := ra.below b
  replace rb := rb.below b
  replace qa := qa.below b
  replace qb := qb.below b
  replace hb := bstep hb b
  clear b
  clear hq
  have hq0 : QCell (w7.alloc (.cells #[.bool false, .slice none 0 0, .slice none 0 0] 27)) w7.heap.size false (.slice none 0 0) (.slice none 0 0) := qcell_new _ rfl
  obtain ⟨W8, hW8⟩ : ∃ W, W = w7.alloc (.cells #[.bool nc, .slice co cl cc, .slice cO cL cC] 27) := ⟨_, rfl⟩
  have qc : QCell W8 (w7.heap.size) nc (.slice co cl cc) (.slice cO cL cC) := by rw [hW8]; exact qcell_new _ rfl
  have b : Below w7.heap.size w7 W8 := by rw [hW8]; exact belowA _ _
  obtain ⟨z0, z1, z2⟩ := hq0.cells
  have t0 := hq0.thaw 0
  have t1 := hq0.thaw 1
  have t2 := hq0.thaw 2
  clear hq0
  replace ra := ra.below b
  replace rb := rb.below b
  replace rc := rc.below b
  replace qa := qa.below b
  replace qb := qb.below b
  replace hb := bstep hb b
  clear b
  have rqa0 : (w7.alloc (.cells #[.bool nc, .slice co cl cc, .slice cO cL cC] 27)).cell? ⟨v3, 0, none⟩ = some (.bool na) := by rw [← hW8]; exact qa.cells.1
  have rqa1 : (w7.alloc (.cells #[.bool nc, .slice co cl cc, .slice cO cL cC] 27)).cell? ⟨v3, 1, none⟩ = some (.slice ao al ac) := by rw [← hW8]; exact qa.cells.2.1
  have rqa2 : (w7.alloc (.cells #[.bool nc, .slice co cl cc, .slice cO cL cC] 27)).cell? ⟨v3, 2, none⟩ = some (.slice aO aL aC) := by rw [← hW8]; exact qa.cells.2.2
  have rqb0 : (w7.alloc (.cells #[.bool nc, .slice co cl cc, .slice cO cL cC] 27)).cell? ⟨v5, 0, none⟩ = some (.bool nb) := by rw [← hW8]; exact qb.cells.1
  have rqb1 : (w7.alloc (.cells #[.bool nc, .slice co cl cc, .slice cO cL cC] 27)).cell? ⟨v5, 1, none⟩ = some (.slice bo bl bc) := by rw [← hW8]; exact qb.cells.2.1
  have rqb2 : (w7.alloc (.cells #[.bool nc, .slice co cl cc, .slice cO cL cC] 27)).cell? ⟨v5, 2, none⟩ = some (.slice bO bL bC) := by rw [← hW8]; exact qb.cells.2.2
  have rqc0 : (w7.alloc (.cells #[.bool nc, .slice co cl cc, .slice cO cL cC] 27)).cell? ⟨w7.heap.size, 0, none⟩ = some (.bool nc) := by rw [← hW8]; exact qc.cells.1
  have rqc1 : (w7.alloc (.cells #[.bool nc, .slice co cl cc, .slice cO cL cC] 27)).cell? ⟨w7.heap.size, 1, none⟩ = some (.slice co cl cc) := by rw [← hW8]; exact qc.cells.2.1
  have rqc2 : (w7.alloc (.cells #[.bool nc, .slice co cl cc, .slice cO cL cC] 27)).cell? ⟨w7.heap.size, 2, none⟩ = some (.slice cO cL cC) := by rw [← hW8]; exact qc.cells.2.2
  obtain ⟨v8, hv8⟩ : ∃ v, v = w7.heap.size := ⟨_, rfl⟩
  rw [← hv8] at qc
  have HW8 : Hid (W8 = w7.alloc (.cells #[.bool nc, .slice co cl cc, .slice cO cL cC] 27)) := hW8
  have Hv8 : Hid (v8 = w7.heap.size) := hv8
  clear hW8 hv8
  go_wp2_with fail
  rw [← HW8.out, ← Hv8.out]
  clear HW8 Hv8 z0 z1 z2 t0 t1 t2 rqa0 rqa1 rqa2 rqb0 rqb1 rqb2 rqc0 rqc1 rqc2
  have hq := c_rtext (rc.num sz_quart (by decide)) (by decide)
  rw [quart_text] at hq
  refine (hq).mono ?_
  rintro e w9 ⟨rfl, b⟩
  replace ra := ra.below b
  replace rb := rb.below b
  replace rc := rc.below b
  replace qa := qa.below b
  replace qb := qb.below b
  replace qc := qc.below b
  replace hb := bstep hb b
  clear b
  clear hq
  obtain ⟨cqa0, cqa1, cqa2⟩ := qa.cells
  obtain ⟨cqb0, cqb1, cqb2⟩ := qb.cells
  obtain ⟨cqc0, cqc1, cqc2⟩ := qc.cells
  go_wp2_with fail
  clear cqa0 cqa1 cqa2 cqb0 cqb1 cqb2 cqc0 cqc1 cqc2
  have hq := q_nearest (ra.qn sz_half (by decide))
  rw [half_bits] at hq
  refine (hq).mono ?_
  rintro e w10 ⟨rfl, b⟩
  replace ra := ra.below b
  replace rb := rb.below b
  replace rc := rc.below b
  replace qa := qa.below b
  replace qb := qb.below b
  replace qc := qc.below b
  replace hb := bstep hb b
  clear b
  clear hq
  obtain ⟨cqa0, cqa1, cqa2⟩ := qa.cells
  obtain ⟨cqb0, cqb1, cqb2⟩ := qb.cells
  obtain ⟨cqc0, cqc1, cqc2⟩ := qc.cells
  go_wp2_with fail
  clear cqa0 cqa1 cqa2 cqb0 cqb1 cqb2 cqc0 cqc1 cqc2
  have hq := q_single (ra.qn sz_half (by decide))
  rw [half_bits2] at hq
  refine (hq).mono ?_
  rintro e w11 ⟨rfl, b⟩
  replace ra := ra.below b
  replace rb := rb.below b
  replace rc := rc.below b
  replace qa := qa.below b
  replace qb := qb.below b
  replace qc := qc.below b
  replace hb := bstep hb b
  clear b
  clear hq
  have HE : Hid (Below w.heap.size w w11) := hb
  clear hb ra rb rc qa qb qc
  go_wp2
  go_ret
  exact ⟨rfl, HE.out⟩
end Go.Proofs.YtbcddjibgaccpaaGreatDoor

namespace Go.Proofs.YtbcddjibgaccpaaGreatDoor
open Go.RowKit

theorem fR_sz {b : Nat} (h : b % 2 ^ 63 < 9218868437227405312) : RSz (fR b) 100 := by
  have hd : Sz ((2 ^ eD : Nat) : Int) 100 := ⟨by decide +kernel⟩
  have hi : fval 52 9218868437227405312 < 4294967296 ^ 100 := by decide +kernel
  have h1 := Nat.lt_trans (fval_mono 52 h) hi
  rw [fR_div]
  refine RSz.of (two_pow_ne _) ⟨?_⟩ hd
  have h2 := zv_bd (sgnb b) (fval 52 (b % 2 ^ 63))
  show (zv (sgnb b) (fval 52 (b % 2 ^ 63))).natAbs < _
  rw [zv_abs]
  exact h1
theorem eq_nought {b : Nat} (hb : b < 18446744073709551616) (h : b % 2 ^ 63 < 9218868437227405312) : (FloatKind.f64.format.order b 0 == some .eq) = decide (b % 2 ^ 63 = 0) := by
  have h1 : FloatKind.f64.format.order b 0 = some (compare (fv b) (fv 0)) := order_fvb hb (by decide) (Nat.le_of_lt h) (by decide)
  have h2 : fv 0 = 0 := by decide
  have e2 : ∀ x y : Int, compare x y = if x < y then .lt else if x = y then .eq else .gt := fun _ _ => rfl
  rw [h1, h2, e2]
  have hz : fval 52 0 = 0 := by decide
  have hp : 0 < b % 2 ^ 63 → 0 < fval 52 (b % 2 ^ 63) := fun h => Nat.lt_of_le_of_lt (Nat.zero_le _) (fval_mono 52 h)
  unfold fv zv
  by_cases h0 : b % 2 ^ 63 = 0
  · rw [h0, hz]
    cases sgnb b <;> rfl
  · have hp := hp (Nat.pos_of_ne_zero h0)
    rw [decide_eq_false h0]
    obtain ⟨y, hy⟩ : ∃ y, y = fval 52 (b % 2 ^ 63) := ⟨_, rfl⟩
    rw [← hy] at hp ⊢
    cases sgnb b
    · have a1 : ¬ ((y : Int) < 0) := by omega
      have a2 : ¬ ((y : Int) = 0) := by omega
      show (some (if (y : Int) < 0 then Ordering.lt else if (y : Int) = 0 then Ordering.eq else Ordering.gt) == some Ordering.eq) = false
      rw [if_neg a1, if_neg a2]; rfl
    · rw [if_pos rfl, if_pos (by omega)]; rfl
end Go.Proofs.YtbcddjibgaccpaaGreatDoor
