/-
  Proved here: FracField of any three fractions returns true, and writes nothing that was there.
-/
import Derived.Test.YtcbfhakolfcmgaaDoorFracH
import Derived.Deep.DeepCutAuto
namespace Go.Proofs.YtcbfhakolfcmgaaDoor
open Go.RowKit

theorem rs_std {x : Rat} {L : Nat} (h : RSz x L) : Sz (und x.den) L := by unfold und; rw [if_neg x.den_nz]; exact h.den
theorem rs_add {x y : Rat} {L M : Nat} (h : RSz x L) (k : RSz y M) : RSz (x + y) (L + M + 1) := by
  have h2 := rsz_add h.num (rs_std h) k.num (rs_std k)
  rw [rq_std, rq_std] at h2
  exact h2
theorem rs_sub {x y : Rat} {L M : Nat} (h : RSz x L) (k : RSz y M) : RSz (x - y) (L + M + 1) := by
  have h2 := rsz_sub h.num (rs_std h) k.num (rs_std k)
  rw [rq_std, rq_std] at h2
  exact h2
theorem rs_mul {x y : Rat} {L M : Nat} (h : RSz x L) (k : RSz y M) : RSz (x * y) (L + M) := by
  have h2 := rsz_mul h.num (rs_std h) k.num (rs_std k)
  rw [rq_std, rq_std] at h2
  exact h2
theorem rs_neg {x : Rat} {L : Nat} (h : RSz x L) : RSz (-x) L := by
  have h2 := rsz_neg h.num (rs_std h)
  rw [rq_std] at h2
  exact h2
theorem rs_div {x y : Rat} {L M : Nat} (hy : y ≠ 0) (h : RSz x L) (k : RSz y M) : RSz (x / y) (L + M) := by
  have h2 := rsz_div (p' := y.num) (fun e => hy (Rat.num_eq_zero.1 e)) h.num (rs_std h) k.num (rs_std k)
  rw [rq_std, rq_std] at h2
  exact h2
theorem ROwn.seeS {B : Nat} {w : World} {v : Value} {r : Rat} (h : ROwn B w v r) : ∃ n ao al ac bo bl bc, v = .agg #[.bool n, .slice ao al ac, .slice bo bl bc] ∧ RStd w (.agg #[.bool n, .slice ao al ac, .slice bo bl bc]) r := by
  have h1 := h.std
  have h2 := h.std
  obtain ⟨n, ao, al, ac, bo, bl, bc, rfl, _⟩ := h1
  exact ⟨n, ao, al, ac, bo, bl, bc, rfl, h2⟩
theorem rnum_of {w : World} {n : Bool} {ao bo : Option Addr} {al ac bl bc : Nat} {xs ys : List Nat} {L : Nat} (hx : Num w (.slice ao al ac) xs) (hy : Num w (.slice bo bl bc) ys) (lx : xs.length ≤ L) (ly : ys.length ≤ L) (h1 : 1 ≤ L) (hL : L ≤ 1000000) : RNum w (.agg #[.bool n, .slice ao al ac, .slice bo bl bc]) (rq (zv n (val xs)) (val ys)) L := by
  refine ⟨_, _, ⟨_, _, _, _, _, _, _, _, rfl, ⟨_, _, _, _, _, rfl, hx, by omega, rfl⟩, hy, by omega, rfl⟩, rfl, Sz.of_num hx lx, ?_⟩
  unfold und
  split
  · exact Sz.one.mono h1
  · exact (Sz.of_num (neg := false) hy ly)
/-- Each condition stays where nothing that was there is written. -/
def Pres : List (Nat × (World → Prop)) → Prop
  | [] => True
  | p :: r => (∀ u u' : World, Below u.heap.size u u' → p.2 u → p.2 u') ∧ Pres r
theorem AllL.onto {u u' : World} : ∀ {L : List (Nat × (World → Prop))}, AllL u L → Pres L → Below u.heap.size u u' → AllL u' L
  | [], _, _, _ => trivial
  | _ :: _, h, hp, hb => ⟨hp.1 _ _ hb h.1, AllL.onto h.2 hp.2 hb⟩
theorem stay3 {p q r : Addr} {a b c : Value} (u u' : World) (hb : Below u.heap.size u u') (h : u.cell? p = some a ∧ u.cell? q = some b ∧ u.cell? r = some c) : u'.cell? p = some a ∧ u'.cell? q = some b ∧ u'.cell? r = some c := ⟨keepB hb h.1, keepB hb h.2.1, keepB hb h.2.2⟩
theorem sum_turn (A B C : Rat) : 0 + C + A + B = 0 + A + B + C := by
  rw [Rat.zero_add, Rat.zero_add, Rat.add_assoc C A B, Rat.add_comm C]
theorem cmpZ_three (x y : Int) : cmpZ x y = -1 ∨ cmpZ x y = 0 ∨ cmpZ x y = 1 := by
  unfold cmpZ
  split
  · exact Or.inl rfl
  · split
    · exact Or.inr (Or.inl rfl)
    · exact Or.inr (Or.inr rfl)
theorem sub_back (A B : Rat) : A + B - B = A := by rw [Rat.sub_eq_add_neg, Rat.add_assoc, Rat.add_neg_cancel, Rat.add_zero]
/-- Three fractions. -/
def three (A B C : Rat) : Nat → Rat
  | 0 => A
  | 1 => B
  | _ => C
theorem rrow3 {w : World} {g : Nat} {na nb nc : Bool} {ao aO bo bO co cO : Option Addr} {al ac aL aC bl bc bL bC cl cc cL cC : Nat} {A B C : Rat} {L : Nat} (h : w.heap[g]? = some (.cells #[.bool na, .slice ao al ac, .slice aO aL aC, .bool nb, .slice bo bl bc, .slice bO bL bC, .bool nc, .slice co cl cc, .slice cO cL cC] 42 (0, 0)))
    (ha : RNum w (.agg #[.bool na, .slice ao al ac, .slice aO aL aC]) A L) (hb : RNum w (.agg #[.bool nb, .slice bo bl bc, .slice bO bL bC]) B L) (hc : RNum w (.agg #[.bool nc, .slice co cl cc, .slice cO cL cC]) C L) : RRow w g 3 (three A B C) L := by
  intro i hi
  have h3 : i = 0 ∨ i = 1 ∨ i = 2 := by omega
  rcases h3 with rfl | rfl | rfl
  · exact ⟨_, _, _, _, _, _, _, by rw [cell_of_row w g _ _ _ _ h]; rfl, by rw [cell_of_row w g _ _ _ _ h]; rfl, by rw [cell_of_row w g _ _ _ _ h]; rfl, ha⟩
  · exact ⟨_, _, _, _, _, _, _, by rw [cell_of_row w g _ _ _ _ h]; rfl, by rw [cell_of_row w g _ _ _ _ h]; rfl, by rw [cell_of_row w g _ _ _ _ h]; rfl, hb⟩
  · exact ⟨_, _, _, _, _, _, _, by rw [cell_of_row w g _ _ _ _ h]; rfl, by rw [cell_of_row w g _ _ _ _ h]; rfl, by rw [cell_of_row w g _ _ _ _ h]; rfl, hc⟩

set_option maxRecDepth 100000 in
set_option maxHeartbeats 25600000 in
theorem fracField_top (nx : Bool) (xo xO : Option Addr) (xl xc xL xC : Nat) (vx ex : List Nat) (ny : Bool) (yo yO : Option Addr) (yl yc yL yC : Nat) (vy ey : List Nat) (nz : Bool) (zo zO : Option Addr) (zl zc zL zC : Nat) (vz ez : List Nat) (w1 : World) (ux : Num w1 (.slice xo xl xc) vx) (dx : Num w1 (.slice xO xL xC) ex) (uy : Num w1 (.slice yo yl yc) vy) (dy : Num w1 (.slice yO yL yC) ey) (uz : Num w1 (.slice zo zl zc) vz) (dz : Num w1 (.slice zO zL zC) ez) :
    Calls Tryd.prog 5 #[.agg #[.bool nx, .slice xo xl xc, .slice xO xL xC], .agg #[.bool ny, .slice yo yl yc, .slice yO yL yC], .agg #[.bool nz, .slice zo zl zc, .slice zO zL zC]] w1 fun e w' => e = .returned (.bool true) ∧ Below w1.heap.size w1 w' := by
  obtain ⟨W1, hW1⟩ : ∃ W1, W1 = ((w1.alloc (.cells #[.bool nx, .slice xo xl xc, .slice xO xL xC] 42)).alloc (.cells #[.bool ny, .slice yo yl yc, .slice yO yL yC] 42)).alloc (.cells #[.bool nz, .slice zo zl zc, .slice zO zL zC] 42) := ⟨_, rfl⟩
  have qx : QCell W1 (w1.heap.size) nx (.slice xo xl xc) (.slice xO xL xC) := by rw [hW1]; exact (qcell_step (qcell_step (qcell_new _ (by simp))))
  have qy : QCell W1 (w1.heap.size + 1) ny (.slice yo yl yc) (.slice yO yL yC) := by rw [hW1]; exact (qcell_step (qcell_new _ (by simp)))
  have qz : QCell W1 (w1.heap.size + 1 + 1) nz (.slice zo zl zc) (.slice zO zL zC) := by rw [hW1]; exact (qcell_new _ (by simp))
  have hb : Below w1.heap.size w1 W1 := by rw [hW1]; exact bstep (bstep (belowA w1 _) (belowA _ _)) (belowA _ _)
  have hsz : w1.heap.size + 1 + 1 < W1.heap.size := by rw [hW1]; simp
  replace uz := uz.below (Nat.le_refl _) hb
  replace dz := dz.below (Nat.le_refl _) hb
  replace uy := uy.below (Nat.le_refl _) hb
  replace dy := dy.below (Nat.le_refl _) hb
  replace ux := ux.below (Nat.le_refl _) hb
  replace dx := dx.below (Nat.le_refl _) hb
  have HW1 : Hid (W1 = ((w1.alloc (.cells #[.bool nx, .slice xo xl xc, .slice xO xL xC] 42)).alloc (.cells #[.bool ny, .slice yo yl yc, .slice yO yL yC] 42)).alloc (.cells #[.bool nz, .slice zo zl zc, .slice zO zL zC] 42)) := hW1
  clear hW1
  go_enter Tryd.func5, Tryd.ntmps5
  go_wp2_with fail
  rw [← HW1.out]
  clear HW1
  obtain ⟨g, hg⟩ : ∃ g, g = w1.heap.size := ⟨_, rfl⟩
  rw [← hg] at qx qy qz hsz ⊢
  have HG : Hid (g = w1.heap.size) := hg
  clear hg
  refine (l_awake).mono ?_
  rintro e w2 ⟨rfl, b⟩
  replace ux := ux.below (Nat.le_refl _) b
  replace dx := dx.below (Nat.le_refl _) b
  replace uy := uy.below (Nat.le_refl _) b
  replace dy := dy.below (Nat.le_refl _) b
  replace uz := uz.below (Nat.le_refl _) b
  replace dz := dz.below (Nat.le_refl _) b
  replace qx := qx.below b
  replace qy := qy.below b
  replace qz := qz.below b
  replace hb := bstep hb b
  replace hsz := Nat.lt_of_lt_of_le hsz b.size
  clear b
  obtain ⟨cqx0, cqx1, cqx2⟩ := qx.cells
  obtain ⟨cqy0, cqy1, cqy2⟩ := qy.cells
  obtain ⟨cqz0, cqz1, cqz2⟩ := qz.cells
  go_wp2_with fail
  clear cqx0 cqx1 cqx2 cqy0 cqy1 cqy2 cqz0 cqz1 cqz2
  refine (c_cut nx xo xO xl xc xL xC 12 vx ex _ ux dx (by decide)).mono ?_
  rintro e w3 ⟨rfl, b⟩
  replace ux := ux.below (Nat.le_refl _) b
  replace dx := dx.below (Nat.le_refl _) b
  replace uy := uy.below (Nat.le_refl _) b
  replace dy := dy.below (Nat.le_refl _) b
  replace uz := uz.below (Nat.le_refl _) b
  replace dz := dz.below (Nat.le_refl _) b
  replace qx := qx.below b
  replace qy := qy.below b
  replace qz := qz.below b
  replace hb := bstep hb b
  replace hsz := Nat.lt_of_lt_of_le hsz b.size
  clear b
  obtain ⟨al, hal⟩ : ∃ l, l = min xl 12 := ⟨_, rfl⟩
  obtain ⟨aL, haL⟩ : ∃ l, l = min xL 12 := ⟨_, rfl⟩
  rw [← hal, ← haL]
  have k1 := num_cut (k := al) ux (by omega)
  have k2 := num_cut (k := aL) dx (by omega)
  have ia := rnum_of (n := nx) (L := 12) k1 k2 (by rw [List.length_take]; omega) (by rw [List.length_take]; omega) (by decide) (by decide)
  obtain ⟨A, hA⟩ : ∃ A, A = rq (zv nx (val (vx.take al))) (val (ex.take aL)) := ⟨_, rfl⟩
  rw [← hA] at ia
  have sA : RSz A 12 := ia.sz
  clear k1 k2 hal haL hA
  clear ux dx
  clear qx
  obtain ⟨W4, hW4⟩ : ∃ W, W = w3.alloc (.cells #[.bool nx, .slice xo al xc, .slice xO aL xC] 42) := ⟨_, rfl⟩
  have qa : QCell W4 (w3.heap.size) nx (.slice xo al xc) (.slice xO aL xC) := by rw [hW4]; exact (qcell_new _ rfl)
  have b : Below w3.heap.size w3 W4 := by rw [hW4]; exact belowA _ _
  replace uy := uy.below (Nat.le_refl _) b
  replace dy := dy.below (Nat.le_refl _) b
  replace uz := uz.below (Nat.le_refl _) b
  replace dz := dz.below (Nat.le_refl _) b
  replace ia := ia.below b
  replace qy := qy.below b
  replace qz := qz.below b
  replace hb := bstep hb b
  replace hsz := Nat.lt_of_lt_of_le hsz b.size
  clear b
  have rqy0 : (w3.alloc (.cells #[.bool nx, .slice xo al xc, .slice xO aL xC] 42)).cell? ⟨g + 1, 0, none⟩ = some (.bool ny) := by rw [← hW4]; exact qy.cells.1
  have rqy1 : (w3.alloc (.cells #[.bool nx, .slice xo al xc, .slice xO aL xC] 42)).cell? ⟨g + 1, 1, none⟩ = some (.slice yo yl yc) := by rw [← hW4]; exact qy.cells.2.1
  have rqy2 : (w3.alloc (.cells #[.bool nx, .slice xo al xc, .slice xO aL xC] 42)).cell? ⟨g + 1, 2, none⟩ = some (.slice yO yL yC) := by rw [← hW4]; exact qy.cells.2.2
  have rqz0 : (w3.alloc (.cells #[.bool nx, .slice xo al xc, .slice xO aL xC] 42)).cell? ⟨g + 1 + 1, 0, none⟩ = some (.bool nz) := by rw [← hW4]; exact qz.cells.1
  have rqz1 : (w3.alloc (.cells #[.bool nx, .slice xo al xc, .slice xO aL xC] 42)).cell? ⟨g + 1 + 1, 1, none⟩ = some (.slice zo zl zc) := by rw [← hW4]; exact qz.cells.2.1
  have rqz2 : (w3.alloc (.cells #[.bool nx, .slice xo al xc, .slice xO aL xC] 42)).cell? ⟨g + 1 + 1, 2, none⟩ = some (.slice zO zL zC) := by rw [← hW4]; exact qz.cells.2.2
  have rqa0 : (w3.alloc (.cells #[.bool nx, .slice xo al xc, .slice xO aL xC] 42)).cell? ⟨w3.heap.size, 0, none⟩ = some (.bool nx) := by rw [← hW4]; exact qa.cells.1
  have rqa1 : (w3.alloc (.cells #[.bool nx, .slice xo al xc, .slice xO aL xC] 42)).cell? ⟨w3.heap.size, 1, none⟩ = some (.slice xo al xc) := by rw [← hW4]; exact qa.cells.2.1
  have rqa2 : (w3.alloc (.cells #[.bool nx, .slice xo al xc, .slice xO aL xC] 42)).cell? ⟨w3.heap.size, 2, none⟩ = some (.slice xO aL xC) := by rw [← hW4]; exact qa.cells.2.2
  obtain ⟨v4, hv4⟩ : ∃ v, v = w3.heap.size := ⟨_, rfl⟩
  rw [← hv4] at qa
  have HW4 : Hid (W4 = w3.alloc (.cells #[.bool nx, .slice xo al xc, .slice xO aL xC] 42)) := hW4
  have Hv4 : Hid (v4 = w3.heap.size) := hv4
  clear hW4 hv4
  go_wp2_with fail
  rw [← HW4.out, ← Hv4.out]
  clear HW4 Hv4 rqy0 rqy1 rqy2 rqz0 rqz1 rqz2 rqa0 rqa1 rqa2
  refine (c_cut ny yo yO yl yc yL yC 12 vy ey _ uy dy (by decide)).mono ?_
  rintro e w5 ⟨rfl, b⟩
  replace uy := uy.below (Nat.le_refl _) b
  replace dy := dy.below (Nat.le_refl _) b
  replace uz := uz.below (Nat.le_refl _) b
  replace dz := dz.below (Nat.le_refl _) b
  replace ia := ia.below b
  replace qy := qy.below b
  replace qz := qz.below b
  replace qa := qa.below b
  replace hb := bstep hb b
  replace hsz := Nat.lt_of_lt_of_le hsz b.size
  clear b
  obtain ⟨bl, hbl⟩ : ∃ l, l = min yl 12 := ⟨_, rfl⟩
  obtain ⟨bL, hbL⟩ : ∃ l, l = min yL 12 := ⟨_, rfl⟩
  rw [← hbl, ← hbL]
  have k1 := num_cut (k := bl) uy (by omega)
  have k2 := num_cut (k := bL) dy (by omega)
  have ib := rnum_of (n := ny) (L := 12) k1 k2 (by rw [List.length_take]; omega) (by rw [List.length_take]; omega) (by decide) (by decide)
  obtain ⟨B, hB⟩ : ∃ A, A = rq (zv ny (val (vy.take bl))) (val (ey.take bL)) := ⟨_, rfl⟩
  rw [← hB] at ib
  have sB : RSz B 12 := ib.sz
  clear k1 k2 hbl hbL hB
  clear uy dy
  clear qy
  obtain ⟨W6, hW6⟩ : ∃ W, W = w5.alloc (.cells #[.bool ny, .slice yo bl yc, .slice yO bL yC] 42) := ⟨_, rfl⟩
  have qb : QCell W6 (w5.heap.size) ny (.slice yo bl yc) (.slice yO bL yC) := by rw [hW6]; exact (qcell_new _ rfl)
  have b : Below w5.heap.size w5 W6 := by rw [hW6]; exact belowA _ _
  replace uz := uz.below (Nat.le_refl _) b
  replace dz := dz.below (Nat.le_refl _) b
  replace ia := ia.below b
  replace ib := ib.below b
  replace qz := qz.below b
  replace qa := qa.below b
  replace hb := bstep hb b
  replace hsz := Nat.lt_of_lt_of_le hsz b.size
  clear b
  have rqz0 : (w5.alloc (.cells #[.bool ny, .slice yo bl yc, .slice yO bL yC] 42)).cell? ⟨g + 1 + 1, 0, none⟩ = some (.bool nz) := by rw [← hW6]; exact qz.cells.1
  have rqz1 : (w5.alloc (.cells #[.bool ny, .slice yo bl yc, .slice yO bL yC] 42)).cell? ⟨g + 1 + 1, 1, none⟩ = some (.slice zo zl zc) := by rw [← hW6]; exact qz.cells.2.1
  have rqz2 : (w5.alloc (.cells #[.bool ny, .slice yo bl yc, .slice yO bL yC] 42)).cell? ⟨g + 1 + 1, 2, none⟩ = some (.slice zO zL zC) := by rw [← hW6]; exact qz.cells.2.2
  have rqa0 : (w5.alloc (.cells #[.bool ny, .slice yo bl yc, .slice yO bL yC] 42)).cell? ⟨v4, 0, none⟩ = some (.bool nx) := by rw [← hW6]; exact qa.cells.1
  have rqa1 : (w5.alloc (.cells #[.bool ny, .slice yo bl yc, .slice yO bL yC] 42)).cell? ⟨v4, 1, none⟩ = some (.slice xo al xc) := by rw [← hW6]; exact qa.cells.2.1
  have rqa2 : (w5.alloc (.cells #[.bool ny, .slice yo bl yc, .slice yO bL yC] 42)).cell? ⟨v4, 2, none⟩ = some (.slice xO aL xC) := by rw [← hW6]; exact qa.cells.2.2
  have rqb0 : (w5.alloc (.cells #[.bool ny, .slice yo bl yc, .slice yO bL yC] 42)).cell? ⟨w5.heap.size, 0, none⟩ = some (.bool ny) := by rw [← hW6]; exact qb.cells.1
  have rqb1 : (w5.alloc (.cells #[.bool ny, .slice yo bl yc, .slice yO bL yC] 42)).cell? ⟨w5.heap.size, 1, none⟩ = some (.slice yo bl yc) := by rw [← hW6]; exact qb.cells.2.1
  have rqb2 : (w5.alloc (.cells #[.bool ny, .slice yo bl yc, .slice yO bL yC] 42)).cell? ⟨w5.heap.size, 2, none⟩ = some (.slice yO bL yC) := by rw [← hW6]; exact qb.cells.2.2
  obtain ⟨v6, hv6⟩ : ∃ v, v = w5.heap.size := ⟨_, rfl⟩
  rw [← hv6] at qb
  have HW6 : Hid (W6 = w5.alloc (.cells #[.bool ny, .slice yo bl yc, .slice yO bL yC] 42)) := hW6
  have Hv6 : Hid (v6 = w5.heap.size) := hv6
  clear hW6 hv6
  go_wp2_with fail
  rw [← HW6.out, ← Hv6.out]
  clear HW6 Hv6 rqz0 rqz1 rqz2 rqa0 rqa1 rqa2 rqb0 rqb1 rqb2
  refine (c_cut nz zo zO zl zc zL zC 12 vz ez _ uz dz (by decide)).mono ?_
  rintro e w7 ⟨rfl, b⟩
  replace uz := uz.below (Nat.le_refl _) b
  replace dz := dz.below (Nat.le_refl _) b
  replace ia := ia.below b
  replace ib := ib.below b
  replace qz := qz.below b
  replace qa := qa.below b
  replace qb := qb.below b
  replace hb := bstep hb b
  replace hsz := Nat.lt_of_lt_of_le hsz b.size
  clear b
  obtain ⟨cl, hcl⟩ : ∃ l, l = min zl 12 := ⟨_, rfl⟩
  obtain ⟨cL, hcL⟩ : ∃ l, l = min zL 12 := ⟨_, rfl⟩
  rw [← hcl, ← hcL]
  have k1 := num_cut (k := cl) uz (by omega)
  have k2 := num_cut (k := cL) dz (by omega)
  have ic := rnum_of (n := nz) (L := 12) k1 k2 (by rw [List.length_take]; omega) (by rw [List.length_take]; omega) (by decide) (by decide)
  obtain ⟨C, hC⟩ : ∃ A, A = rq (zv nz (val (vz.take cl))) (val (ez.take cL)) := ⟨_, rfl⟩
  rw [← hC] at ic
  have sC : RSz C 12 := ic.sz
  clear k1 k2 hcl hcL hC
  clear uz dz
  clear qz
  obtain ⟨W8, hW8⟩ : ∃ W, W = w7.alloc (.cells #[.bool nz, .slice zo cl zc, .slice zO cL zC] 42) := ⟨_, rfl⟩
  have qc : QCell W8 (w7.heap.size) nz (.slice zo cl zc) (.slice zO cL zC) := by rw [hW8]; exact (qcell_new _ rfl)
  have b : Below w7.heap.size w7 W8 := by rw [hW8]; exact belowA _ _
  replace ia := ia.below b
  replace ib := ib.below b
  replace ic := ic.below b
  replace qa := qa.below b
  replace qb := qb.below b
  replace hb := bstep hb b
  replace hsz := Nat.lt_of_lt_of_le hsz b.size
  clear b
  have rqa0 : (w7.alloc (.cells #[.bool nz, .slice zo cl zc, .slice zO cL zC] 42)).cell? ⟨v4, 0, none⟩ = some (.bool nx) := by rw [← hW8]; exact qa.cells.1
  have rqa1 : (w7.alloc (.cells #[.bool nz, .slice zo cl zc, .slice zO cL zC] 42)).cell? ⟨v4, 1, none⟩ = some (.slice xo al xc) := by rw [← hW8]; exact qa.cells.2.1
  have rqa2 : (w7.alloc (.cells #[.bool nz, .slice zo cl zc, .slice zO cL zC] 42)).cell? ⟨v4, 2, none⟩ = some (.slice xO aL xC) := by rw [← hW8]; exact qa.cells.2.2
  have rqb0 : (w7.alloc (.cells #[.bool nz, .slice zo cl zc, .slice zO cL zC] 42)).cell? ⟨v6, 0, none⟩ = some (.bool ny) := by rw [← hW8]; exact qb.cells.1
  have rqb1 : (w7.alloc (.cells #[.bool nz, .slice zo cl zc, .slice zO cL zC] 42)).cell? ⟨v6, 1, none⟩ = some (.slice yo bl yc) := by rw [← hW8]; exact qb.cells.2.1
  have rqb2 : (w7.alloc (.cells #[.bool nz, .slice zo cl zc, .slice zO cL zC] 42)).cell? ⟨v6, 2, none⟩ = some (.slice yO bL yC) := by rw [← hW8]; exact qb.cells.2.2
  have rqc0 : (w7.alloc (.cells #[.bool nz, .slice zo cl zc, .slice zO cL zC] 42)).cell? ⟨w7.heap.size, 0, none⟩ = some (.bool nz) := by rw [← hW8]; exact qc.cells.1
  have rqc1 : (w7.alloc (.cells #[.bool nz, .slice zo cl zc, .slice zO cL zC] 42)).cell? ⟨w7.heap.size, 1, none⟩ = some (.slice zo cl zc) := by rw [← hW8]; exact qc.cells.2.1
  have rqc2 : (w7.alloc (.cells #[.bool nz, .slice zo cl zc, .slice zO cL zC] 42)).cell? ⟨w7.heap.size, 2, none⟩ = some (.slice zO cL zC) := by rw [← hW8]; exact qc.cells.2.2
  obtain ⟨v8, hv8⟩ : ∃ v, v = w7.heap.size := ⟨_, rfl⟩
  rw [← hv8] at qc
  have HW8 : Hid (W8 = w7.alloc (.cells #[.bool nz, .slice zo cl zc, .slice zO cL zC] 42)) := hW8
  have Hv8 : Hid (v8 = w7.heap.size) := hv8
  clear hW8 hv8
  go_wp2_with fail
  rw [← HW8.out, ← Hv8.out]
  clear HW8 Hv8 rqa0 rqa1 rqa2 rqb0 rqb1 rqb2 rqc0 rqc1 rqc2
  go_cut [11] (fun t wc => t = .bool true ∧ Below w1.heap.size w1 wc ∧ QCell wc (v4) nx (.slice xo al xc) (.slice xO aL xC) ∧ QCell wc (v6) ny (.slice yo bl yc) (.slice yO bL yC) ∧ QCell wc (v8) nz (.slice zo cl zc) (.slice zO cL zC) ∧ RNum wc (.agg #[.bool nx, .slice xo al xc, .slice xO aL xC]) A 12 ∧ RNum wc (.agg #[.bool ny, .slice yo bl yc, .slice yO bL yC]) B 12 ∧ RNum wc (.agg #[.bool nz, .slice zo cl zc, .slice zO cL zC]) C 12)
  case first =>
    have sm28 : RSz (A + B) 25 := rs_add sA sB
    have sm31 : RSz (B + A) 25 := rs_add sB sA
    have Hb11 : Hid (B + A = A + B) := Rat.add_comm B A
    have sm36 : RSz (A + B) 25 := rs_add sA sB
    have sm38 : RSz ((A + B) + C) 38 := rs_add sm36 sC
    have sm42 : RSz (B + C) 25 := rs_add sB sC
    have sm43 : RSz (A + (B + C)) 38 := rs_add sA sm42
    have Hb16 : Hid (A + (B + C) = (A + B) + C) := (Rat.add_assoc A B C).symm
    have sm51 : RSz (0 + A + B + C) 40 := rs_add (rs_add (rs_add RSz.zero sA) sB) sC
    have sm56 : RSz (0 + C + A + B) 40 := rs_add (rs_add (rs_add RSz.zero sC) sA) sB
    have Hb124 : Hid (0 + C + A + B = 0 + A + B + C) := sum_turn A B C
    have Hb144 : Hid (0 + C + A + B = 0 + A + B + C) := sum_turn A B C
    have Hb165 : Hid (0 + C + A + B = 0 + A + B + C) := sum_turn A B C
    refine region_late [(0, fun w' => w'.cell? ⟨v4, 0, none⟩ = some (.bool nx) ∧ w'.cell? ⟨v4, 1, none⟩ = some (.slice xo al xc) ∧ w'.cell? ⟨v4, 2, none⟩ = some (.slice xO aL xC)), (1, fun w' => w'.cell? ⟨v6, 0, none⟩ = some (.bool ny) ∧ w'.cell? ⟨v6, 1, none⟩ = some (.slice yo bl yc) ∧ w'.cell? ⟨v6, 2, none⟩ = some (.slice yO bL yC)), (3, fun w' => w'.cell? ⟨v6, 0, none⟩ = some (.bool ny) ∧ w'.cell? ⟨v6, 1, none⟩ = some (.slice yo bl yc) ∧ w'.cell? ⟨v6, 2, none⟩ = some (.slice yO bL yC)), (4, fun w' => w'.cell? ⟨v4, 0, none⟩ = some (.bool nx) ∧ w'.cell? ⟨v4, 1, none⟩ = some (.slice xo al xc) ∧ w'.cell? ⟨v4, 2, none⟩ = some (.slice xO aL xC)), (8, fun w' => w'.cell? ⟨v4, 0, none⟩ = some (.bool nx) ∧ w'.cell? ⟨v4, 1, none⟩ = some (.slice xo al xc) ∧ w'.cell? ⟨v4, 2, none⟩ = some (.slice xO aL xC)), (9, fun w' => w'.cell? ⟨v6, 0, none⟩ = some (.bool ny) ∧ w'.cell? ⟨v6, 1, none⟩ = some (.slice yo bl yc) ∧ w'.cell? ⟨v6, 2, none⟩ = some (.slice yO bL yC)), (11, fun w' => w'.cell? ⟨v8, 0, none⟩ = some (.bool nz) ∧ w'.cell? ⟨v8, 1, none⟩ = some (.slice zo cl zc) ∧ w'.cell? ⟨v8, 2, none⟩ = some (.slice zO cL zC)), (13, fun w' => w'.cell? ⟨v4, 0, none⟩ = some (.bool nx) ∧ w'.cell? ⟨v4, 1, none⟩ = some (.slice xo al xc) ∧ w'.cell? ⟨v4, 2, none⟩ = some (.slice xO aL xC)), (14, fun w' => w'.cell? ⟨v6, 0, none⟩ = some (.bool ny) ∧ w'.cell? ⟨v6, 1, none⟩ = some (.slice yo bl yc) ∧ w'.cell? ⟨v6, 2, none⟩ = some (.slice yO bL yC)), (15, fun w' => w'.cell? ⟨v8, 0, none⟩ = some (.bool nz) ∧ w'.cell? ⟨v8, 1, none⟩ = some (.slice zo cl zc) ∧ w'.cell? ⟨v8, 2, none⟩ = some (.slice zO cL zC)), (21, fun w' => w'.cell? ⟨v4, 0, none⟩ = some (.bool nx) ∧ w'.cell? ⟨v4, 1, none⟩ = some (.slice xo al xc) ∧ w'.cell? ⟨v4, 2, none⟩ = some (.slice xO aL xC)), (22, fun w' => w'.cell? ⟨v6, 0, none⟩ = some (.bool ny) ∧ w'.cell? ⟨v6, 1, none⟩ = some (.slice yo bl yc) ∧ w'.cell? ⟨v6, 2, none⟩ = some (.slice yO bL yC)), (23, fun w' => w'.cell? ⟨v8, 0, none⟩ = some (.bool nz) ∧ w'.cell? ⟨v8, 1, none⟩ = some (.slice zo cl zc) ∧ w'.cell? ⟨v8, 2, none⟩ = some (.slice zO cL zC)), (26, fun w' => w'.cell? ⟨v8, 0, none⟩ = some (.bool nz) ∧ w'.cell? ⟨v8, 1, none⟩ = some (.slice zo cl zc) ∧ w'.cell? ⟨v8, 2, none⟩ = some (.slice zO cL zC)), (27, fun w' => w'.cell? ⟨v4, 0, none⟩ = some (.bool nx) ∧ w'.cell? ⟨v4, 1, none⟩ = some (.slice xo al xc) ∧ w'.cell? ⟨v4, 2, none⟩ = some (.slice xO aL xC)), (28, fun w' => w'.cell? ⟨v6, 0, none⟩ = some (.bool ny) ∧ w'.cell? ⟨v6, 1, none⟩ = some (.slice yo bl yc) ∧ w'.cell? ⟨v6, 2, none⟩ = some (.slice yO bL yC))] (by kernel_rfl) ?_
    have hHeld : AllL W8.drew [(0, fun w' => w'.cell? ⟨v4, 0, none⟩ = some (.bool nx) ∧ w'.cell? ⟨v4, 1, none⟩ = some (.slice xo al xc) ∧ w'.cell? ⟨v4, 2, none⟩ = some (.slice xO aL xC)), (1, fun w' => w'.cell? ⟨v6, 0, none⟩ = some (.bool ny) ∧ w'.cell? ⟨v6, 1, none⟩ = some (.slice yo bl yc) ∧ w'.cell? ⟨v6, 2, none⟩ = some (.slice yO bL yC)), (3, fun w' => w'.cell? ⟨v6, 0, none⟩ = some (.bool ny) ∧ w'.cell? ⟨v6, 1, none⟩ = some (.slice yo bl yc) ∧ w'.cell? ⟨v6, 2, none⟩ = some (.slice yO bL yC)), (4, fun w' => w'.cell? ⟨v4, 0, none⟩ = some (.bool nx) ∧ w'.cell? ⟨v4, 1, none⟩ = some (.slice xo al xc) ∧ w'.cell? ⟨v4, 2, none⟩ = some (.slice xO aL xC)), (8, fun w' => w'.cell? ⟨v4, 0, none⟩ = some (.bool nx) ∧ w'.cell? ⟨v4, 1, none⟩ = some (.slice xo al xc) ∧ w'.cell? ⟨v4, 2, none⟩ = some (.slice xO aL xC)), (9, fun w' => w'.cell? ⟨v6, 0, none⟩ = some (.bool ny) ∧ w'.cell? ⟨v6, 1, none⟩ = some (.slice yo bl yc) ∧ w'.cell? ⟨v6, 2, none⟩ = some (.slice yO bL yC)), (11, fun w' => w'.cell? ⟨v8, 0, none⟩ = some (.bool nz) ∧ w'.cell? ⟨v8, 1, none⟩ = some (.slice zo cl zc) ∧ w'.cell? ⟨v8, 2, none⟩ = some (.slice zO cL zC)), (13, fun w' => w'.cell? ⟨v4, 0, none⟩ = some (.bool nx) ∧ w'.cell? ⟨v4, 1, none⟩ = some (.slice xo al xc) ∧ w'.cell? ⟨v4, 2, none⟩ = some (.slice xO aL xC)), (14, fun w' => w'.cell? ⟨v6, 0, none⟩ = some (.bool ny) ∧ w'.cell? ⟨v6, 1, none⟩ = some (.slice yo bl yc) ∧ w'.cell? ⟨v6, 2, none⟩ = some (.slice yO bL yC)), (15, fun w' => w'.cell? ⟨v8, 0, none⟩ = some (.bool nz) ∧ w'.cell? ⟨v8, 1, none⟩ = some (.slice zo cl zc) ∧ w'.cell? ⟨v8, 2, none⟩ = some (.slice zO cL zC)), (21, fun w' => w'.cell? ⟨v4, 0, none⟩ = some (.bool nx) ∧ w'.cell? ⟨v4, 1, none⟩ = some (.slice xo al xc) ∧ w'.cell? ⟨v4, 2, none⟩ = some (.slice xO aL xC)), (22, fun w' => w'.cell? ⟨v6, 0, none⟩ = some (.bool ny) ∧ w'.cell? ⟨v6, 1, none⟩ = some (.slice yo bl yc) ∧ w'.cell? ⟨v6, 2, none⟩ = some (.slice yO bL yC)), (23, fun w' => w'.cell? ⟨v8, 0, none⟩ = some (.bool nz) ∧ w'.cell? ⟨v8, 1, none⟩ = some (.slice zo cl zc) ∧ w'.cell? ⟨v8, 2, none⟩ = some (.slice zO cL zC)), (26, fun w' => w'.cell? ⟨v8, 0, none⟩ = some (.bool nz) ∧ w'.cell? ⟨v8, 1, none⟩ = some (.slice zo cl zc) ∧ w'.cell? ⟨v8, 2, none⟩ = some (.slice zO cL zC)), (27, fun w' => w'.cell? ⟨v4, 0, none⟩ = some (.bool nx) ∧ w'.cell? ⟨v4, 1, none⟩ = some (.slice xo al xc) ∧ w'.cell? ⟨v4, 2, none⟩ = some (.slice xO aL xC)), (28, fun w' => w'.cell? ⟨v6, 0, none⟩ = some (.bool ny) ∧ w'.cell? ⟨v6, 1, none⟩ = some (.slice yo bl yc) ∧ w'.cell? ⟨v6, 2, none⟩ = some (.slice yO bL yC))] := ⟨(show QCell W8.drew (v4) nx (.slice xo al xc) (.slice xO aL xC) from qa).cells, (show QCell W8.drew (v6) ny (.slice yo bl yc) (.slice yO bL yC) from qb).cells, (show QCell W8.drew (v6) ny (.slice yo bl yc) (.slice yO bL yC) from qb).cells, (show QCell W8.drew (v4) nx (.slice xo al xc) (.slice xO aL xC) from qa).cells, (show QCell W8.drew (v4) nx (.slice xo al xc) (.slice xO aL xC) from qa).cells, (show QCell W8.drew (v6) ny (.slice yo bl yc) (.slice yO bL yC) from qb).cells, (show QCell W8.drew (v8) nz (.slice zo cl zc) (.slice zO cL zC) from qc).cells, (show QCell W8.drew (v4) nx (.slice xo al xc) (.slice xO aL xC) from qa).cells, (show QCell W8.drew (v6) ny (.slice yo bl yc) (.slice yO bL yC) from qb).cells, (show QCell W8.drew (v8) nz (.slice zo cl zc) (.slice zO cL zC) from qc).cells, (show QCell W8.drew (v4) nx (.slice xo al xc) (.slice xO aL xC) from qa).cells, (show QCell W8.drew (v6) ny (.slice yo bl yc) (.slice yO bL yC) from qb).cells, (show QCell W8.drew (v8) nz (.slice zo cl zc) (.slice zO cL zC) from qc).cells, (show QCell W8.drew (v8) nz (.slice zo cl zc) (.slice zO cL zC) from qc).cells, (show QCell W8.drew (v4) nx (.slice xo al xc) (.slice xO aL xC) from qa).cells, (show QCell W8.drew (v6) ny (.slice yo bl yc) (.slice yO bL yC) from qb).cells, trivial⟩
    have hPres : Pres [(0, fun w' => w'.cell? ⟨v4, 0, none⟩ = some (.bool nx) ∧ w'.cell? ⟨v4, 1, none⟩ = some (.slice xo al xc) ∧ w'.cell? ⟨v4, 2, none⟩ = some (.slice xO aL xC)), (1, fun w' => w'.cell? ⟨v6, 0, none⟩ = some (.bool ny) ∧ w'.cell? ⟨v6, 1, none⟩ = some (.slice yo bl yc) ∧ w'.cell? ⟨v6, 2, none⟩ = some (.slice yO bL yC)), (3, fun w' => w'.cell? ⟨v6, 0, none⟩ = some (.bool ny) ∧ w'.cell? ⟨v6, 1, none⟩ = some (.slice yo bl yc) ∧ w'.cell? ⟨v6, 2, none⟩ = some (.slice yO bL yC)), (4, fun w' => w'.cell? ⟨v4, 0, none⟩ = some (.bool nx) ∧ w'.cell? ⟨v4, 1, none⟩ = some (.slice xo al xc) ∧ w'.cell? ⟨v4, 2, none⟩ = some (.slice xO aL xC)), (8, fun w' => w'.cell? ⟨v4, 0, none⟩ = some (.bool nx) ∧ w'.cell? ⟨v4, 1, none⟩ = some (.slice xo al xc) ∧ w'.cell? ⟨v4, 2, none⟩ = some (.slice xO aL xC)), (9, fun w' => w'.cell? ⟨v6, 0, none⟩ = some (.bool ny) ∧ w'.cell? ⟨v6, 1, none⟩ = some (.slice yo bl yc) ∧ w'.cell? ⟨v6, 2, none⟩ = some (.slice yO bL yC)), (11, fun w' => w'.cell? ⟨v8, 0, none⟩ = some (.bool nz) ∧ w'.cell? ⟨v8, 1, none⟩ = some (.slice zo cl zc) ∧ w'.cell? ⟨v8, 2, none⟩ = some (.slice zO cL zC)), (13, fun w' => w'.cell? ⟨v4, 0, none⟩ = some (.bool nx) ∧ w'.cell? ⟨v4, 1, none⟩ = some (.slice xo al xc) ∧ w'.cell? ⟨v4, 2, none⟩ = some (.slice xO aL xC)), (14, fun w' => w'.cell? ⟨v6, 0, none⟩ = some (.bool ny) ∧ w'.cell? ⟨v6, 1, none⟩ = some (.slice yo bl yc) ∧ w'.cell? ⟨v6, 2, none⟩ = some (.slice yO bL yC)), (15, fun w' => w'.cell? ⟨v8, 0, none⟩ = some (.bool nz) ∧ w'.cell? ⟨v8, 1, none⟩ = some (.slice zo cl zc) ∧ w'.cell? ⟨v8, 2, none⟩ = some (.slice zO cL zC)), (21, fun w' => w'.cell? ⟨v4, 0, none⟩ = some (.bool nx) ∧ w'.cell? ⟨v4, 1, none⟩ = some (.slice xo al xc) ∧ w'.cell? ⟨v4, 2, none⟩ = some (.slice xO aL xC)), (22, fun w' => w'.cell? ⟨v6, 0, none⟩ = some (.bool ny) ∧ w'.cell? ⟨v6, 1, none⟩ = some (.slice yo bl yc) ∧ w'.cell? ⟨v6, 2, none⟩ = some (.slice yO bL yC)), (23, fun w' => w'.cell? ⟨v8, 0, none⟩ = some (.bool nz) ∧ w'.cell? ⟨v8, 1, none⟩ = some (.slice zo cl zc) ∧ w'.cell? ⟨v8, 2, none⟩ = some (.slice zO cL zC)), (26, fun w' => w'.cell? ⟨v8, 0, none⟩ = some (.bool nz) ∧ w'.cell? ⟨v8, 1, none⟩ = some (.slice zo cl zc) ∧ w'.cell? ⟨v8, 2, none⟩ = some (.slice zO cL zC)), (27, fun w' => w'.cell? ⟨v4, 0, none⟩ = some (.bool nx) ∧ w'.cell? ⟨v4, 1, none⟩ = some (.slice xo al xc) ∧ w'.cell? ⟨v4, 2, none⟩ = some (.slice xO aL xC)), (28, fun w' => w'.cell? ⟨v6, 0, none⟩ = some (.bool ny) ∧ w'.cell? ⟨v6, 1, none⟩ = some (.slice yo bl yc) ∧ w'.cell? ⟨v6, 2, none⟩ = some (.slice yO bL yC))] := ⟨stay3, stay3, stay3, stay3, stay3, stay3, stay3, stay3, stay3, stay3, stay3, stay3, stay3, stay3, stay3, stay3, trivial⟩
    refine late_take 0 (v := .agg #[.bool nx, .slice xo al xc, .slice xO aL xC]) rfl (by kernel_rfl) (List.Mem.head _) (by kernel_rfl) (by kernel_rfl) (by kernel_rfl) (by kernel_rfl) (fun _ _ _ h => h) (Or.inl ⟨by rfl, ?_⟩) hHeld ?_
    · (intro u hu; (try dsimp only at hu); go_split_ands; go_simp)
    (try simp only [Act.put, List.setIfInBounds_toArray, List.set_cons_zero, List.set_cons_succ])
    refine late_take 1 (v := .agg #[.bool ny, .slice yo bl yc, .slice yO bL yC]) rfl (by kernel_rfl) (List.Mem.tail _ (List.Mem.head _)) (by kernel_rfl) (by kernel_rfl) (by kernel_rfl) (by kernel_rfl) (fun _ _ _ h => h) (Or.inl ⟨by rfl, ?_⟩) hHeld ?_
    · (intro u hu; (try dsimp only at hu); go_split_ands; go_simp)
    (try simp only [Act.put, List.setIfInBounds_toArray, List.set_cons_zero, List.set_cons_succ])
    refine late_take 3 (v := .agg #[.bool ny, .slice yo bl yc, .slice yO bL yC]) rfl (by kernel_rfl) (List.Mem.tail _ (List.Mem.tail _ (List.Mem.head _))) (by kernel_rfl) (by kernel_rfl) (by kernel_rfl) (by kernel_rfl) (fun _ _ _ h => h) (Or.inl ⟨by rfl, ?_⟩) hHeld ?_
    · (intro u hu; (try dsimp only at hu); go_split_ands; go_simp)
    (try simp only [Act.put, List.setIfInBounds_toArray, List.set_cons_zero, List.set_cons_succ])
    refine late_take 4 (v := .agg #[.bool nx, .slice xo al xc, .slice xO aL xC]) rfl (by kernel_rfl) (List.Mem.tail _ (List.Mem.tail _ (List.Mem.tail _ (List.Mem.head _)))) (by kernel_rfl) (by kernel_rfl) (by kernel_rfl) (by kernel_rfl) (fun _ _ _ h => h) (Or.inl ⟨by rfl, ?_⟩) hHeld ?_
    · (intro u hu; (try dsimp only at hu); go_split_ands; go_simp)
    (try simp only [Act.put, List.setIfInBounds_toArray, List.set_cons_zero, List.set_cons_succ])
    refine late_step 2 (by kernel_rfl) rfl (fun K hK => ?_)
    go_simp
    refine (c_radd (ia.below (below_drew' _)) (ib.below (below_drew' _)) (by decide)).mono ?_
    rintro e w9 ⟨v, rfl, hv, b9⟩
    obtain ⟨nm28, m28o, m28l, m28c, m28O, m28L, m28C, rfl, tm28⟩ := hv.seeS
    clear hv
    have B9 : Below W8.heap.size W8 w9 := bstep (below_drew' _) b9
    replace hHeld := hHeld.onto hPres b9
    go_wp2_with fail
    refine hK.out _ _ (AllL.kept hHeld) ?_
    clear hK K
    (try simp only [Act.put, List.setIfInBounds_toArray, List.set_cons_zero, List.set_cons_succ])
    refine late_step 5 (by kernel_rfl) rfl (fun K hK => ?_)
    go_simp
    refine (c_radd ((ib.below (below_drew' _)).below b9) ((ia.below (below_drew' _)).below b9) (by decide)).mono ?_
    rintro e w10 ⟨v, rfl, hv, b10⟩
    obtain ⟨nm31, m31o, m31l, m31c, m31O, m31L, m31C, rfl, tm31⟩ := hv.seeS
    clear hv
    have B10 : Below W8.heap.size W8 w10 := bstep B9 b10
    replace hHeld := hHeld.onto hPres b10
    go_wp2_with fail
    refine hK.out _ _ (AllL.kept hHeld) ?_
    clear hK K
    (try simp only [Act.put, List.setIfInBounds_toArray, List.set_cons_zero, List.set_cons_succ])
    refine late_step 6 (by kernel_rfl) rfl (fun K hK => ?_)
    go_simp
    have t9 := tm31
    rw [Hb11.out] at t9
    refine (l_alike (tm28.below b10) t9 sm28 (by decide) (by decide)).mono ?_
    rintro e w11 ⟨rfl, b11⟩
    clear t9
    have B11 : Below W8.heap.size W8 w11 := bstep B10 b11
    replace hHeld := hHeld.onto hPres b11
    go_wp2_with fail
    refine hK.out _ _ (AllL.kept hHeld) ?_
    clear hK K
    (try simp only [Act.put, List.setIfInBounds_toArray, List.set_cons_zero, List.set_cons_succ])
    refine late_free 7 (v := .bool true) rfl (by kernel_rfl) (by kernel_rfl) (by kernel_rfl) (by kernel_rfl) (by kernel_rfl) (by kernel_rfl) (fun _ _ _ h => h) (Or.inl ⟨by rfl, ?_⟩) hHeld ?_
    · (intro u _; go_simp)
    (try simp only [Act.put, List.setIfInBounds_toArray, List.set_cons_zero, List.set_cons_succ])
    refine late_take 8 (v := .agg #[.bool nx, .slice xo al xc, .slice xO aL xC]) rfl (by kernel_rfl) (List.Mem.tail _ (List.Mem.tail _ (List.Mem.tail _ (List.Mem.tail _ (List.Mem.head _))))) (by kernel_rfl) (by kernel_rfl) (by kernel_rfl) (by kernel_rfl) (fun _ _ _ h => h) (Or.inl ⟨by rfl, ?_⟩) hHeld ?_
    · (intro u hu; (try dsimp only at hu); go_split_ands; go_simp)
    (try simp only [Act.put, List.setIfInBounds_toArray, List.set_cons_zero, List.set_cons_succ])
    refine late_take 9 (v := .agg #[.bool ny, .slice yo bl yc, .slice yO bL yC]) rfl (by kernel_rfl) (List.Mem.tail _ (List.Mem.tail _ (List.Mem.tail _ (List.Mem.tail _ (List.Mem.tail _ (List.Mem.head _)))))) (by kernel_rfl) (by kernel_rfl) (by kernel_rfl) (by kernel_rfl) (fun _ _ _ h => h) (Or.inl ⟨by rfl, ?_⟩) hHeld ?_
    · (intro u hu; (try dsimp only at hu); go_split_ands; go_simp)
    (try simp only [Act.put, List.setIfInBounds_toArray, List.set_cons_zero, List.set_cons_succ])
    refine late_take 11 (v := .agg #[.bool nz, .slice zo cl zc, .slice zO cL zC]) rfl (by kernel_rfl) (List.Mem.tail _ (List.Mem.tail _ (List.Mem.tail _ (List.Mem.tail _ (List.Mem.tail _ (List.Mem.tail _ (List.Mem.head _))))))) (by kernel_rfl) (by kernel_rfl) (by kernel_rfl) (by kernel_rfl) (fun _ _ _ h => h) (Or.inl ⟨by rfl, ?_⟩) hHeld ?_
    · (intro u hu; (try dsimp only at hu); go_split_ands; go_simp)
    (try simp only [Act.put, List.setIfInBounds_toArray, List.set_cons_zero, List.set_cons_succ])
    refine late_take 13 (v := .agg #[.bool nx, .slice xo al xc, .slice xO aL xC]) rfl (by kernel_rfl) (List.Mem.tail _ (List.Mem.tail _ (List.Mem.tail _ (List.Mem.tail _ (List.Mem.tail _ (List.Mem.tail _ (List.Mem.tail _ (List.Mem.head _)))))))) (by kernel_rfl) (by kernel_rfl) (by kernel_rfl) (by kernel_rfl) (fun _ _ _ h => h) (Or.inl ⟨by rfl, ?_⟩) hHeld ?_
    · (intro u hu; (try dsimp only at hu); go_split_ands; go_simp)
    (try simp only [Act.put, List.setIfInBounds_toArray, List.set_cons_zero, List.set_cons_succ])
    refine late_take 14 (v := .agg #[.bool ny, .slice yo bl yc, .slice yO bL yC]) rfl (by kernel_rfl) (List.Mem.tail _ (List.Mem.tail _ (List.Mem.tail _ (List.Mem.tail _ (List.Mem.tail _ (List.Mem.tail _ (List.Mem.tail _ (List.Mem.tail _ (List.Mem.head _))))))))) (by kernel_rfl) (by kernel_rfl) (by kernel_rfl) (by kernel_rfl) (fun _ _ _ h => h) (Or.inl ⟨by rfl, ?_⟩) hHeld ?_
    · (intro u hu; (try dsimp only at hu); go_split_ands; go_simp)
    (try simp only [Act.put, List.setIfInBounds_toArray, List.set_cons_zero, List.set_cons_succ])
    refine late_take 15 (v := .agg #[.bool nz, .slice zo cl zc, .slice zO cL zC]) rfl (by kernel_rfl) (List.Mem.tail _ (List.Mem.tail _ (List.Mem.tail _ (List.Mem.tail _ (List.Mem.tail _ (List.Mem.tail _ (List.Mem.tail _ (List.Mem.tail _ (List.Mem.tail _ (List.Mem.head _)))))))))) (by kernel_rfl) (by kernel_rfl) (by kernel_rfl) (by kernel_rfl) (fun _ _ _ h => h) (Or.inl ⟨by rfl, ?_⟩) hHeld ?_
    · (intro u hu; (try dsimp only at hu); go_split_ands; go_simp)
    (try simp only [Act.put, List.setIfInBounds_toArray, List.set_cons_zero, List.set_cons_succ])
    refine late_step 10 (by kernel_rfl) rfl (fun K hK => ?_)
    go_simp
    refine (c_radd ((((ia.below (below_drew' _)).below b9).below b10).below b11) ((((ib.below (below_drew' _)).below b9).below b10).below b11) (by decide)).mono ?_
    rintro e w12 ⟨v, rfl, hv, b12⟩
    obtain ⟨nm36, m36o, m36l, m36c, m36O, m36L, m36C, rfl, tm36⟩ := hv.seeS
    clear hv
    have B12 : Below W8.heap.size W8 w12 := bstep B11 b12
    replace hHeld := hHeld.onto hPres b12
    go_wp2_with fail
    refine hK.out _ _ (AllL.kept hHeld) ?_
    clear hK K
    (try simp only [Act.put, List.setIfInBounds_toArray, List.set_cons_zero, List.set_cons_succ])
    refine late_step 12 (by kernel_rfl) rfl (fun K hK => ?_)
    go_simp
    refine (c_radd (tm36.num sm36 (by decide)) (((((ic.below (below_drew' _)).below b9).below b10).below b11).below b12) (by decide)).mono ?_
    rintro e w13 ⟨v, rfl, hv, b13⟩
    obtain ⟨nm38, m38o, m38l, m38c, m38O, m38L, m38C, rfl, tm38⟩ := hv.seeS
    clear hv
    have B13 : Below W8.heap.size W8 w13 := bstep B12 b13
    replace hHeld := hHeld.onto hPres b13
    go_wp2_with fail
    refine hK.out _ _ (AllL.kept hHeld) ?_
    clear hK K
    (try simp only [Act.put, List.setIfInBounds_toArray, List.set_cons_zero, List.set_cons_succ])
    refine late_step 16 (by kernel_rfl) rfl (fun K hK => ?_)
    go_simp
    refine (c_radd ((((((ib.below (below_drew' _)).below b9).below b10).below b11).below b12).below b13) ((((((ic.below (below_drew' _)).below b9).below b10).below b11).below b12).below b13) (by decide)).mono ?_
    rintro e w14 ⟨v, rfl, hv, b14⟩
    obtain ⟨nm42, m42o, m42l, m42c, m42O, m42L, m42C, rfl, tm42⟩ := hv.seeS
    clear hv
    have B14 : Below W8.heap.size W8 w14 := bstep B13 b14
    replace hHeld := hHeld.onto hPres b14
    go_wp2_with fail
    refine hK.out _ _ (AllL.kept hHeld) ?_
    clear hK K
    (try simp only [Act.put, List.setIfInBounds_toArray, List.set_cons_zero, List.set_cons_succ])
    refine late_step 17 (by kernel_rfl) rfl (fun K hK => ?_)
    go_simp
    refine (c_radd (((((((ia.below (below_drew' _)).below b9).below b10).below b11).below b12).below b13).below b14) (tm42.num sm42 (by decide)) (by decide)).mono ?_
    rintro e w15 ⟨v, rfl, hv, b15⟩
    obtain ⟨nm43, m43o, m43l, m43c, m43O, m43L, m43C, rfl, tm43⟩ := hv.seeS
    clear hv
    have B15 : Below W8.heap.size W8 w15 := bstep B14 b15
    replace hHeld := hHeld.onto hPres b15
    go_wp2_with fail
    refine hK.out _ _ (AllL.kept hHeld) ?_
    clear hK K
    (try simp only [Act.put, List.setIfInBounds_toArray, List.set_cons_zero, List.set_cons_succ])
    refine late_step 18 (by kernel_rfl) rfl (fun K hK => ?_)
    go_simp
    have t9 := tm43
    rw [Hb16.out] at t9
    refine (l_alike ((tm38.below b14).below b15) t9 sm38 (by decide) (by decide)).mono ?_
    rintro e w16 ⟨rfl, b16⟩
    clear t9
    have B16 : Below W8.heap.size W8 w16 := bstep B15 b16
    replace hHeld := hHeld.onto hPres b16
    go_wp2_with fail
    refine hK.out _ _ (AllL.kept hHeld) ?_
    clear hK K
    (try simp only [Act.put, List.setIfInBounds_toArray, List.set_cons_zero, List.set_cons_succ])
    refine late_free 19 (v := .bool true) rfl (by kernel_rfl) (by kernel_rfl) (by kernel_rfl) (by kernel_rfl) (by kernel_rfl) (by kernel_rfl) (fun _ _ _ h => h) (Or.inl ⟨by rfl, ?_⟩) hHeld ?_
    · (intro u _; go_simp)
    (try simp only [Act.put, List.setIfInBounds_toArray, List.set_cons_zero, List.set_cons_succ])
    refine late_free 20 (v := .bool true) rfl (by kernel_rfl) (by kernel_rfl) (by kernel_rfl) (by kernel_rfl) (by kernel_rfl) (by kernel_rfl) (fun _ _ _ h => h) (Or.inl ⟨by rfl, ?_⟩) hHeld ?_
    · (intro u _; go_simp)
    (try simp only [Act.put, List.setIfInBounds_toArray, List.set_cons_zero, List.set_cons_succ])
    refine late_take 21 (v := .agg #[.bool nx, .slice xo al xc, .slice xO aL xC]) rfl (by kernel_rfl) (List.Mem.tail _ (List.Mem.tail _ (List.Mem.tail _ (List.Mem.tail _ (List.Mem.tail _ (List.Mem.tail _ (List.Mem.tail _ (List.Mem.tail _ (List.Mem.tail _ (List.Mem.tail _ (List.Mem.head _))))))))))) (by kernel_rfl) (by kernel_rfl) (by kernel_rfl) (by kernel_rfl) (fun _ _ _ h => h) (Or.inl ⟨by rfl, ?_⟩) hHeld ?_
    · (intro u hu; (try dsimp only at hu); go_split_ands; go_simp)
    (try simp only [Act.put, List.setIfInBounds_toArray, List.set_cons_zero, List.set_cons_succ])
    refine late_take 22 (v := .agg #[.bool ny, .slice yo bl yc, .slice yO bL yC]) rfl (by kernel_rfl) (List.Mem.tail _ (List.Mem.tail _ (List.Mem.tail _ (List.Mem.tail _ (List.Mem.tail _ (List.Mem.tail _ (List.Mem.tail _ (List.Mem.tail _ (List.Mem.tail _ (List.Mem.tail _ (List.Mem.tail _ (List.Mem.head _)))))))))))) (by kernel_rfl) (by kernel_rfl) (by kernel_rfl) (by kernel_rfl) (fun _ _ _ h => h) (Or.inl ⟨by rfl, ?_⟩) hHeld ?_
    · (intro u hu; (try dsimp only at hu); go_split_ands; go_simp)
    (try simp only [Act.put, List.setIfInBounds_toArray, List.set_cons_zero, List.set_cons_succ])
    refine late_take 23 (v := .agg #[.bool nz, .slice zo cl zc, .slice zO cL zC]) rfl (by kernel_rfl) (List.Mem.tail _ (List.Mem.tail _ (List.Mem.tail _ (List.Mem.tail _ (List.Mem.tail _ (List.Mem.tail _ (List.Mem.tail _ (List.Mem.tail _ (List.Mem.tail _ (List.Mem.tail _ (List.Mem.tail _ (List.Mem.tail _ (List.Mem.head _))))))))))))) (by kernel_rfl) (by kernel_rfl) (by kernel_rfl) (by kernel_rfl) (fun _ _ _ h => h) (Or.inl ⟨by rfl, ?_⟩) hHeld ?_
    · (intro u hu; (try dsimp only at hu); go_split_ands; go_simp)
    (try simp only [Act.put, List.setIfInBounds_toArray, List.set_cons_zero, List.set_cons_succ])
    refine late_take 26 (v := .agg #[.bool nz, .slice zo cl zc, .slice zO cL zC]) rfl (by kernel_rfl) (List.Mem.tail _ (List.Mem.tail _ (List.Mem.tail _ (List.Mem.tail _ (List.Mem.tail _ (List.Mem.tail _ (List.Mem.tail _ (List.Mem.tail _ (List.Mem.tail _ (List.Mem.tail _ (List.Mem.tail _ (List.Mem.tail _ (List.Mem.tail _ (List.Mem.head _)))))))))))))) (by kernel_rfl) (by kernel_rfl) (by kernel_rfl) (by kernel_rfl) (fun _ _ _ h => h) (Or.inl ⟨by rfl, ?_⟩) hHeld ?_
    · (intro u hu; (try dsimp only at hu); go_split_ands; go_simp)
    (try simp only [Act.put, List.setIfInBounds_toArray, List.set_cons_zero, List.set_cons_succ])
    refine late_take 27 (v := .agg #[.bool nx, .slice xo al xc, .slice xO aL xC]) rfl (by kernel_rfl) (List.Mem.tail _ (List.Mem.tail _ (List.Mem.tail _ (List.Mem.tail _ (List.Mem.tail _ (List.Mem.tail _ (List.Mem.tail _ (List.Mem.tail _ (List.Mem.tail _ (List.Mem.tail _ (List.Mem.tail _ (List.Mem.tail _ (List.Mem.tail _ (List.Mem.tail _ (List.Mem.head _))))))))))))))) (by kernel_rfl) (by kernel_rfl) (by kernel_rfl) (by kernel_rfl) (fun _ _ _ h => h) (Or.inl ⟨by rfl, ?_⟩) hHeld ?_
    · (intro u hu; (try dsimp only at hu); go_split_ands; go_simp)
    (try simp only [Act.put, List.setIfInBounds_toArray, List.set_cons_zero, List.set_cons_succ])
    refine late_take 28 (v := .agg #[.bool ny, .slice yo bl yc, .slice yO bL yC]) rfl (by kernel_rfl) (List.Mem.tail _ (List.Mem.tail _ (List.Mem.tail _ (List.Mem.tail _ (List.Mem.tail _ (List.Mem.tail _ (List.Mem.tail _ (List.Mem.tail _ (List.Mem.tail _ (List.Mem.tail _ (List.Mem.tail _ (List.Mem.tail _ (List.Mem.tail _ (List.Mem.tail _ (List.Mem.tail _ (List.Mem.head _)))))))))))))))) (by kernel_rfl) (by kernel_rfl) (by kernel_rfl) (by kernel_rfl) (fun _ _ _ h => h) (Or.inl ⟨by rfl, ?_⟩) hHeld ?_
    · (intro u hu; (try dsimp only at hu); go_split_ands; go_simp)
    (try simp only [Act.put, List.setIfInBounds_toArray, List.set_cons_zero, List.set_cons_succ])
    refine late_two 24 29 (by kernel_rfl) rfl rfl (fun K hK => ?_) (fun K hK => ?_)
    · go_simp
      obtain ⟨w101, hw101⟩ : ∃ W, W = w16.alloc (.cells #[.bool nx, .slice xo al xc, .slice xO aL xC, .bool ny, .slice yo bl yc, .slice yO bL yC, .bool nz, .slice zo cl zc, .slice zO cL zC] 42) := ⟨_, rfl⟩
      have b101 : Below w16.heap.size w16 w101 := by rw [hw101]; exact belowA _ _
      have gw101 : w101.heap[w16.heap.size]? = some (.cells #[.bool nx, .slice xo al xc, .slice xO aL xC, .bool ny, .slice yo bl yc, .slice yO bL yC, .bool nz, .slice zo cl zc, .slice zO cL zC] 42 (0, 0)) := by rw [hw101]; exact heap_alloc_new _ _
      have B101 : Below W8.heap.size W8 w101 := bstep B16 b101
      have rw101 := rrow3 gw101 ((((((((((ia.below (below_drew' _)).below b9).below b10).below b11).below b12).below b13).below b14).below b15).below b16).below b101) ((((((((((ib.below (below_drew' _)).below b9).below b10).below b11).below b12).below b13).below b14).below b15).below b16).below b101) ((((((((((ic.below (below_drew' _)).below b9).below b10).below b11).below b12).below b13).below b14).below b15).below b16).below b101)
      rw [← hw101]
      obtain ⟨v101, hv101⟩ : ∃ v, v = w16.heap.size := ⟨_, rfl⟩
      rw [← hv101] at rw101 ⊢
      clear hw101 hv101 gw101
      replace hHeld := hHeld.onto hPres b101
      refine hK.out _ _ (AllL.kept hHeld) ?_
      clear hK K
      (try simp only [Act.put, List.setIfInBounds_toArray, List.set_cons_zero, List.set_cons_succ])
      refine late_two 25 29 (by kernel_rfl) rfl rfl (fun K hK => ?_) (fun K hK => ?_)
      · go_simp
        have hq := c_rsum _ v101 3 3 (three A B C) 12 _ (fun _ => rfl) rw101 (by decide)
        rw [show rsum (three A B C) 3 = 0 + A + B + C from rfl] at hq
        refine hq.mono ?_
        rintro e w121 ⟨v, rfl, hv, b121⟩
        clear hq
        obtain ⟨nm51, m51o, m51l, m51c, m51O, m51L, m51C, rfl, tm51⟩ := hv.seeS
        clear hv
        have B121 : Below W8.heap.size W8 w121 := bstep B101 b121
        replace hHeld := hHeld.onto hPres b121
        go_wp2_with fail
        refine hK.out _ _ (AllL.kept hHeld) ?_
        clear hK K
        (try simp only [Act.put, List.setIfInBounds_toArray, List.set_cons_zero, List.set_cons_succ])
        refine late_step 29 (by kernel_rfl) rfl (fun K hK => ?_)
        go_simp
        obtain ⟨w122, hw122⟩ : ∃ W, W = w121.alloc (.cells #[.bool nz, .slice zo cl zc, .slice zO cL zC, .bool nx, .slice xo al xc, .slice xO aL xC, .bool ny, .slice yo bl yc, .slice yO bL yC] 42) := ⟨_, rfl⟩
        have b122 : Below w121.heap.size w121 w122 := by rw [hw122]; exact belowA _ _
        have gw122 : w122.heap[w121.heap.size]? = some (.cells #[.bool nz, .slice zo cl zc, .slice zO cL zC, .bool nx, .slice xo al xc, .slice xO aL xC, .bool ny, .slice yo bl yc, .slice yO bL yC] 42 (0, 0)) := by rw [hw122]; exact heap_alloc_new _ _
        have B122 : Below W8.heap.size W8 w122 := bstep B121 b122
        have rw122 := rrow3 gw122 ((((((((((((ic.below (below_drew' _)).below b9).below b10).below b11).below b12).below b13).below b14).below b15).below b16).below b101).below b121).below b122) ((((((((((((ia.below (below_drew' _)).below b9).below b10).below b11).below b12).below b13).below b14).below b15).below b16).below b101).below b121).below b122) ((((((((((((ib.below (below_drew' _)).below b9).below b10).below b11).below b12).below b13).below b14).below b15).below b16).below b101).below b121).below b122)
        rw [← hw122]
        obtain ⟨v122, hv122⟩ : ∃ v, v = w121.heap.size := ⟨_, rfl⟩
        rw [← hv122] at rw122 ⊢
        clear hw122 hv122 gw122
        replace hHeld := hHeld.onto hPres b122
        refine hK.out _ _ (AllL.kept hHeld) ?_
        clear hK K
        (try simp only [Act.put, List.setIfInBounds_toArray, List.set_cons_zero, List.set_cons_succ])
        refine late_step 30 (by kernel_rfl) rfl (fun K hK => ?_)
        go_simp
        have hq := c_rsum _ v122 3 3 (three C A B) 12 _ (fun _ => rfl) rw122 (by decide)
        rw [show rsum (three C A B) 3 = 0 + C + A + B from rfl] at hq
        refine hq.mono ?_
        rintro e w123 ⟨v, rfl, hv, b123⟩
        clear hq
        obtain ⟨nm56, m56o, m56l, m56c, m56O, m56L, m56C, rfl, tm56⟩ := hv.seeS
        clear hv
        have B123 : Below W8.heap.size W8 w123 := bstep B122 b123
        replace hHeld := hHeld.onto hPres b123
        go_wp2_with fail
        refine hK.out _ _ (AllL.kept hHeld) ?_
        clear hK K
        (try simp only [Act.put, List.setIfInBounds_toArray, List.set_cons_zero, List.set_cons_succ])
        refine late_step 31 (by kernel_rfl) rfl (fun K hK => ?_)
        go_simp
        have t9 := tm56
        rw [Hb124.out] at t9
        refine (l_alike ((tm51.below b122).below b123) t9 sm51 (by decide) (by decide)).mono ?_
        rintro e w124 ⟨rfl, b124⟩
        clear t9
        have B124 : Below W8.heap.size W8 w124 := bstep B123 b124
        replace hHeld := hHeld.onto hPres b124
        go_wp2_with fail
        refine hK.out _ _ (AllL.kept hHeld) ?_
        clear hK K
        (try simp only [Act.put, List.setIfInBounds_toArray, List.set_cons_zero, List.set_cons_succ])
        refine late_free 32 (v := .bool true) rfl (by kernel_rfl) (by kernel_rfl) (by kernel_rfl) (by kernel_rfl) (by kernel_rfl) (by kernel_rfl) (fun _ _ _ h => h) (Or.inl ⟨by rfl, ?_⟩) hHeld ?_
        · (intro u _; go_simp)
        (try simp only [Act.put, List.setIfInBounds_toArray, List.set_cons_zero, List.set_cons_succ])
        refine late_step 33 (by kernel_rfl) rfl (fun K hK => ?_)
        go_simp
        refine hK.out _ _ ⟨Or.inl ⟨2, by kernel_rfl, by kernel_rfl⟩, Or.inl ⟨2, by kernel_rfl, by kernel_rfl⟩, Or.inl ⟨5, by kernel_rfl, by kernel_rfl⟩, Or.inl ⟨5, by kernel_rfl, by kernel_rfl⟩, Or.inl ⟨10, by kernel_rfl, by kernel_rfl⟩, Or.inl ⟨10, by kernel_rfl, by kernel_rfl⟩, Or.inl ⟨12, by kernel_rfl, by kernel_rfl⟩, Or.inl ⟨17, by kernel_rfl, by kernel_rfl⟩, Or.inl ⟨16, by kernel_rfl, by kernel_rfl⟩, Or.inl ⟨16, by kernel_rfl, by kernel_rfl⟩, Or.inl ⟨24, by kernel_rfl, by kernel_rfl⟩, Or.inl ⟨24, by kernel_rfl, by kernel_rfl⟩, Or.inl ⟨24, by kernel_rfl, by kernel_rfl⟩, Or.inl ⟨29, by kernel_rfl, by kernel_rfl⟩, Or.inl ⟨29, by kernel_rfl, by kernel_rfl⟩, Or.inl ⟨29, by kernel_rfl, by kernel_rfl⟩, trivial⟩ ?_
        clear hK K
        (try simp only [Act.put, List.setIfInBounds_toArray, List.set_cons_zero, List.set_cons_succ])
        refine late_done (by kernel_rfl) ?_ _
        clear hHeld
        have hbM := bstep hb B124
        go_wp2_with fail
        go_meet
        exact ⟨rfl, hbM, qa.below B124, qb.below B124, qc.below B124, ia.below B124, ib.below B124, ic.below B124⟩
      · go_simp
        obtain ⟨w141, hw141⟩ : ∃ W, W = w101.alloc (.cells #[.bool nz, .slice zo cl zc, .slice zO cL zC, .bool nx, .slice xo al xc, .slice xO aL xC, .bool ny, .slice yo bl yc, .slice yO bL yC] 42) := ⟨_, rfl⟩
        have b141 : Below w101.heap.size w101 w141 := by rw [hw141]; exact belowA _ _
        have gw141 : w141.heap[w101.heap.size]? = some (.cells #[.bool nz, .slice zo cl zc, .slice zO cL zC, .bool nx, .slice xo al xc, .slice xO aL xC, .bool ny, .slice yo bl yc, .slice yO bL yC] 42 (0, 0)) := by rw [hw141]; exact heap_alloc_new _ _
        have B141 : Below W8.heap.size W8 w141 := bstep B101 b141
        have rw141 := rrow3 gw141 (((((((((((ic.below (below_drew' _)).below b9).below b10).below b11).below b12).below b13).below b14).below b15).below b16).below b101).below b141) (((((((((((ia.below (below_drew' _)).below b9).below b10).below b11).below b12).below b13).below b14).below b15).below b16).below b101).below b141) (((((((((((ib.below (below_drew' _)).below b9).below b10).below b11).below b12).below b13).below b14).below b15).below b16).below b101).below b141)
        rw [← hw141]
        obtain ⟨v141, hv141⟩ : ∃ v, v = w101.heap.size := ⟨_, rfl⟩
        rw [← hv141] at rw141 ⊢
        clear hw141 hv141 gw141
        replace hHeld := hHeld.onto hPres b141
        refine hK.out _ _ (AllL.kept hHeld) ?_
        clear hK K
        (try simp only [Act.put, List.setIfInBounds_toArray, List.set_cons_zero, List.set_cons_succ])
        refine late_step 25 (by kernel_rfl) rfl (fun K hK => ?_)
        go_simp
        have hq := c_rsum _ v101 3 3 (three A B C) 12 _ (fun _ => rfl) (rw101.below b141) (by decide)
        rw [show rsum (three A B C) 3 = 0 + A + B + C from rfl] at hq
        refine hq.mono ?_
        rintro e w142 ⟨v, rfl, hv, b142⟩
        clear hq
        obtain ⟨nm51, m51o, m51l, m51c, m51O, m51L, m51C, rfl, tm51⟩ := hv.seeS
        clear hv
        have B142 : Below W8.heap.size W8 w142 := bstep B141 b142
        replace hHeld := hHeld.onto hPres b142
        go_wp2_with fail
        refine hK.out _ _ (AllL.kept hHeld) ?_
        clear hK K
        (try simp only [Act.put, List.setIfInBounds_toArray, List.set_cons_zero, List.set_cons_succ])
        refine late_step 30 (by kernel_rfl) rfl (fun K hK => ?_)
        go_simp
        have hq := c_rsum _ v141 3 3 (three C A B) 12 _ (fun _ => rfl) (rw141.below b142) (by decide)
        rw [show rsum (three C A B) 3 = 0 + C + A + B from rfl] at hq
        refine hq.mono ?_
        rintro e w143 ⟨v, rfl, hv, b143⟩
        clear hq
        obtain ⟨nm56, m56o, m56l, m56c, m56O, m56L, m56C, rfl, tm56⟩ := hv.seeS
        clear hv
        have B143 : Below W8.heap.size W8 w143 := bstep B142 b143
        replace hHeld := hHeld.onto hPres b143
        go_wp2_with fail
        refine hK.out _ _ (AllL.kept hHeld) ?_
        clear hK K
        (try simp only [Act.put, List.setIfInBounds_toArray, List.set_cons_zero, List.set_cons_succ])
        refine late_step 31 (by kernel_rfl) rfl (fun K hK => ?_)
        go_simp
        have t9 := tm56
        rw [Hb144.out] at t9
        refine (l_alike (tm51.below b143) t9 sm51 (by decide) (by decide)).mono ?_
        rintro e w144 ⟨rfl, b144⟩
        clear t9
        have B144 : Below W8.heap.size W8 w144 := bstep B143 b144
        replace hHeld := hHeld.onto hPres b144
        go_wp2_with fail
        refine hK.out _ _ (AllL.kept hHeld) ?_
        clear hK K
        (try simp only [Act.put, List.setIfInBounds_toArray, List.set_cons_zero, List.set_cons_succ])
        refine late_free 32 (v := .bool true) rfl (by kernel_rfl) (by kernel_rfl) (by kernel_rfl) (by kernel_rfl) (by kernel_rfl) (by kernel_rfl) (fun _ _ _ h => h) (Or.inl ⟨by rfl, ?_⟩) hHeld ?_
        · (intro u _; go_simp)
        (try simp only [Act.put, List.setIfInBounds_toArray, List.set_cons_zero, List.set_cons_succ])
        refine late_step 33 (by kernel_rfl) rfl (fun K hK => ?_)
        go_simp
        refine hK.out _ _ ⟨Or.inl ⟨2, by kernel_rfl, by kernel_rfl⟩, Or.inl ⟨2, by kernel_rfl, by kernel_rfl⟩, Or.inl ⟨5, by kernel_rfl, by kernel_rfl⟩, Or.inl ⟨5, by kernel_rfl, by kernel_rfl⟩, Or.inl ⟨10, by kernel_rfl, by kernel_rfl⟩, Or.inl ⟨10, by kernel_rfl, by kernel_rfl⟩, Or.inl ⟨12, by kernel_rfl, by kernel_rfl⟩, Or.inl ⟨17, by kernel_rfl, by kernel_rfl⟩, Or.inl ⟨16, by kernel_rfl, by kernel_rfl⟩, Or.inl ⟨16, by kernel_rfl, by kernel_rfl⟩, Or.inl ⟨24, by kernel_rfl, by kernel_rfl⟩, Or.inl ⟨24, by kernel_rfl, by kernel_rfl⟩, Or.inl ⟨24, by kernel_rfl, by kernel_rfl⟩, Or.inl ⟨29, by kernel_rfl, by kernel_rfl⟩, Or.inl ⟨29, by kernel_rfl, by kernel_rfl⟩, Or.inl ⟨29, by kernel_rfl, by kernel_rfl⟩, trivial⟩ ?_
        clear hK K
        (try simp only [Act.put, List.setIfInBounds_toArray, List.set_cons_zero, List.set_cons_succ])
        refine late_done (by kernel_rfl) ?_ _
        clear hHeld
        have hbM := bstep hb B144
        go_wp2_with fail
        go_meet
        exact ⟨rfl, hbM, qa.below B144, qb.below B144, qc.below B144, ia.below B144, ib.below B144, ic.below B144⟩
    · go_simp
      obtain ⟨w161, hw161⟩ : ∃ W, W = w16.alloc (.cells #[.bool nz, .slice zo cl zc, .slice zO cL zC, .bool nx, .slice xo al xc, .slice xO aL xC, .bool ny, .slice yo bl yc, .slice yO bL yC] 42) := ⟨_, rfl⟩
      have b161 : Below w16.heap.size w16 w161 := by rw [hw161]; exact belowA _ _
      have gw161 : w161.heap[w16.heap.size]? = some (.cells #[.bool nz, .slice zo cl zc, .slice zO cL zC, .bool nx, .slice xo al xc, .slice xO aL xC, .bool ny, .slice yo bl yc, .slice yO bL yC] 42 (0, 0)) := by rw [hw161]; exact heap_alloc_new _ _
      have B161 : Below W8.heap.size W8 w161 := bstep B16 b161
      have rw161 := rrow3 gw161 ((((((((((ic.below (below_drew' _)).below b9).below b10).below b11).below b12).below b13).below b14).below b15).below b16).below b161) ((((((((((ia.below (below_drew' _)).below b9).below b10).below b11).below b12).below b13).below b14).below b15).below b16).below b161) ((((((((((ib.below (below_drew' _)).below b9).below b10).below b11).below b12).below b13).below b14).below b15).below b16).below b161)
      rw [← hw161]
      obtain ⟨v161, hv161⟩ : ∃ v, v = w16.heap.size := ⟨_, rfl⟩
      rw [← hv161] at rw161 ⊢
      clear hw161 hv161 gw161
      replace hHeld := hHeld.onto hPres b161
      refine hK.out _ _ (AllL.kept hHeld) ?_
      clear hK K
      (try simp only [Act.put, List.setIfInBounds_toArray, List.set_cons_zero, List.set_cons_succ])
      refine late_step 24 (by kernel_rfl) rfl (fun K hK => ?_)
      go_simp
      obtain ⟨w162, hw162⟩ : ∃ W, W = w161.alloc (.cells #[.bool nx, .slice xo al xc, .slice xO aL xC, .bool ny, .slice yo bl yc, .slice yO bL yC, .bool nz, .slice zo cl zc, .slice zO cL zC] 42) := ⟨_, rfl⟩
      have b162 : Below w161.heap.size w161 w162 := by rw [hw162]; exact belowA _ _
      have gw162 : w162.heap[w161.heap.size]? = some (.cells #[.bool nx, .slice xo al xc, .slice xO aL xC, .bool ny, .slice yo bl yc, .slice yO bL yC, .bool nz, .slice zo cl zc, .slice zO cL zC] 42 (0, 0)) := by rw [hw162]; exact heap_alloc_new _ _
      have B162 : Below W8.heap.size W8 w162 := bstep B161 b162
      have rw162 := rrow3 gw162 (((((((((((ia.below (below_drew' _)).below b9).below b10).below b11).below b12).below b13).below b14).below b15).below b16).below b161).below b162) (((((((((((ib.below (below_drew' _)).below b9).below b10).below b11).below b12).below b13).below b14).below b15).below b16).below b161).below b162) (((((((((((ic.below (below_drew' _)).below b9).below b10).below b11).below b12).below b13).below b14).below b15).below b16).below b161).below b162)
      rw [← hw162]
      obtain ⟨v162, hv162⟩ : ∃ v, v = w161.heap.size := ⟨_, rfl⟩
      rw [← hv162] at rw162 ⊢
      clear hw162 hv162 gw162
      replace hHeld := hHeld.onto hPres b162
      refine hK.out _ _ (AllL.kept hHeld) ?_
      clear hK K
      (try simp only [Act.put, List.setIfInBounds_toArray, List.set_cons_zero, List.set_cons_succ])
      refine late_step 25 (by kernel_rfl) rfl (fun K hK => ?_)
      go_simp
      have hq := c_rsum _ v162 3 3 (three A B C) 12 _ (fun _ => rfl) rw162 (by decide)
      rw [show rsum (three A B C) 3 = 0 + A + B + C from rfl] at hq
      refine hq.mono ?_
      rintro e w163 ⟨v, rfl, hv, b163⟩
      clear hq
      obtain ⟨nm51, m51o, m51l, m51c, m51O, m51L, m51C, rfl, tm51⟩ := hv.seeS
      clear hv
      have B163 : Below W8.heap.size W8 w163 := bstep B162 b163
      replace hHeld := hHeld.onto hPres b163
      go_wp2_with fail
      refine hK.out _ _ (AllL.kept hHeld) ?_
      clear hK K
      (try simp only [Act.put, List.setIfInBounds_toArray, List.set_cons_zero, List.set_cons_succ])
      refine late_step 30 (by kernel_rfl) rfl (fun K hK => ?_)
      go_simp
      have hq := c_rsum _ v161 3 3 (three C A B) 12 _ (fun _ => rfl) ((rw161.below b162).below b163) (by decide)
      rw [show rsum (three C A B) 3 = 0 + C + A + B from rfl] at hq
      refine hq.mono ?_
      rintro e w164 ⟨v, rfl, hv, b164⟩
      clear hq
      obtain ⟨nm56, m56o, m56l, m56c, m56O, m56L, m56C, rfl, tm56⟩ := hv.seeS
      clear hv
      have B164 : Below W8.heap.size W8 w164 := bstep B163 b164
      replace hHeld := hHeld.onto hPres b164
      go_wp2_with fail
      refine hK.out _ _ (AllL.kept hHeld) ?_
      clear hK K
      (try simp only [Act.put, List.setIfInBounds_toArray, List.set_cons_zero, List.set_cons_succ])
      refine late_step 31 (by kernel_rfl) rfl (fun K hK => ?_)
      go_simp
      have t9 := tm56
      rw [Hb165.out] at t9
      refine (l_alike (tm51.below b164) t9 sm51 (by decide) (by decide)).mono ?_
      rintro e w165 ⟨rfl, b165⟩
      clear t9
      have B165 : Below W8.heap.size W8 w165 := bstep B164 b165
      replace hHeld := hHeld.onto hPres b165
      go_wp2_with fail
      refine hK.out _ _ (AllL.kept hHeld) ?_
      clear hK K
      (try simp only [Act.put, List.setIfInBounds_toArray, List.set_cons_zero, List.set_cons_succ])
      refine late_free 32 (v := .bool true) rfl (by kernel_rfl) (by kernel_rfl) (by kernel_rfl) (by kernel_rfl) (by kernel_rfl) (by kernel_rfl) (fun _ _ _ h => h) (Or.inl ⟨by rfl, ?_⟩) hHeld ?_
      · (intro u _; go_simp)
      (try simp only [Act.put, List.setIfInBounds_toArray, List.set_cons_zero, List.set_cons_succ])
      refine late_step 33 (by kernel_rfl) rfl (fun K hK => ?_)
      go_simp
      refine hK.out _ _ ⟨Or.inl ⟨2, by kernel_rfl, by kernel_rfl⟩, Or.inl ⟨2, by kernel_rfl, by kernel_rfl⟩, Or.inl ⟨5, by kernel_rfl, by kernel_rfl⟩, Or.inl ⟨5, by kernel_rfl, by kernel_rfl⟩, Or.inl ⟨10, by kernel_rfl, by kernel_rfl⟩, Or.inl ⟨10, by kernel_rfl, by kernel_rfl⟩, Or.inl ⟨12, by kernel_rfl, by kernel_rfl⟩, Or.inl ⟨17, by kernel_rfl, by kernel_rfl⟩, Or.inl ⟨16, by kernel_rfl, by kernel_rfl⟩, Or.inl ⟨16, by kernel_rfl, by kernel_rfl⟩, Or.inl ⟨24, by kernel_rfl, by kernel_rfl⟩, Or.inl ⟨24, by kernel_rfl, by kernel_rfl⟩, Or.inl ⟨24, by kernel_rfl, by kernel_rfl⟩, Or.inl ⟨29, by kernel_rfl, by kernel_rfl⟩, Or.inl ⟨29, by kernel_rfl, by kernel_rfl⟩, Or.inl ⟨29, by kernel_rfl, by kernel_rfl⟩, trivial⟩ ?_
      clear hK K
      (try simp only [Act.put, List.setIfInBounds_toArray, List.set_cons_zero, List.set_cons_succ])
      refine late_done (by kernel_rfl) ?_ _
      clear hHeld
      have hbM := bstep hb B165
      go_wp2_with fail
      go_meet
      exact ⟨rfl, hbM, qa.below B165, qb.below B165, qc.below B165, ia.below B165, ib.below B165, ic.below B165⟩
  case rest =>
    clear hb qa qb qc ia ib ic hsz
    obtain ⟨rfl, hb, qa, qb, qc, ia, ib, ic⟩ := hcut
    go_wp2_with fail
    have sm61 : RSz (A * B) 24 := rs_mul sA sB
    have sm64 : RSz (B * A) 24 := rs_mul sB sA
    have Hb203 : Hid (B * A = A * B) := Rat.mul_comm B A
    have sm69 : RSz (A * B) 24 := rs_mul sA sB
    have sm71 : RSz ((A * B) * C) 36 := rs_mul sm69 sC
    have sm75 : RSz (B * C) 24 := rs_mul sB sC
    have sm76 : RSz (A * (B * C)) 36 := rs_mul sA sm75
    have Hb208 : Hid (A * (B * C) = (A * B) * C) := (Rat.mul_assoc A B C).symm
    refine region_late [(0, fun w' => w'.cell? ⟨v4, 0, none⟩ = some (.bool nx) ∧ w'.cell? ⟨v4, 1, none⟩ = some (.slice xo al xc) ∧ w'.cell? ⟨v4, 2, none⟩ = some (.slice xO aL xC)), (1, fun w' => w'.cell? ⟨v6, 0, none⟩ = some (.bool ny) ∧ w'.cell? ⟨v6, 1, none⟩ = some (.slice yo bl yc) ∧ w'.cell? ⟨v6, 2, none⟩ = some (.slice yO bL yC)), (3, fun w' => w'.cell? ⟨v6, 0, none⟩ = some (.bool ny) ∧ w'.cell? ⟨v6, 1, none⟩ = some (.slice yo bl yc) ∧ w'.cell? ⟨v6, 2, none⟩ = some (.slice yO bL yC)), (4, fun w' => w'.cell? ⟨v4, 0, none⟩ = some (.bool nx) ∧ w'.cell? ⟨v4, 1, none⟩ = some (.slice xo al xc) ∧ w'.cell? ⟨v4, 2, none⟩ = some (.slice xO aL xC)), (8, fun w' => w'.cell? ⟨v4, 0, none⟩ = some (.bool nx) ∧ w'.cell? ⟨v4, 1, none⟩ = some (.slice xo al xc) ∧ w'.cell? ⟨v4, 2, none⟩ = some (.slice xO aL xC)), (9, fun w' => w'.cell? ⟨v6, 0, none⟩ = some (.bool ny) ∧ w'.cell? ⟨v6, 1, none⟩ = some (.slice yo bl yc) ∧ w'.cell? ⟨v6, 2, none⟩ = some (.slice yO bL yC)), (11, fun w' => w'.cell? ⟨v8, 0, none⟩ = some (.bool nz) ∧ w'.cell? ⟨v8, 1, none⟩ = some (.slice zo cl zc) ∧ w'.cell? ⟨v8, 2, none⟩ = some (.slice zO cL zC)), (13, fun w' => w'.cell? ⟨v4, 0, none⟩ = some (.bool nx) ∧ w'.cell? ⟨v4, 1, none⟩ = some (.slice xo al xc) ∧ w'.cell? ⟨v4, 2, none⟩ = some (.slice xO aL xC)), (14, fun w' => w'.cell? ⟨v6, 0, none⟩ = some (.bool ny) ∧ w'.cell? ⟨v6, 1, none⟩ = some (.slice yo bl yc) ∧ w'.cell? ⟨v6, 2, none⟩ = some (.slice yO bL yC)), (15, fun w' => w'.cell? ⟨v8, 0, none⟩ = some (.bool nz) ∧ w'.cell? ⟨v8, 1, none⟩ = some (.slice zo cl zc) ∧ w'.cell? ⟨v8, 2, none⟩ = some (.slice zO cL zC))] (by kernel_rfl) ?_
    have hHeld : AllL wc.drew [(0, fun w' => w'.cell? ⟨v4, 0, none⟩ = some (.bool nx) ∧ w'.cell? ⟨v4, 1, none⟩ = some (.slice xo al xc) ∧ w'.cell? ⟨v4, 2, none⟩ = some (.slice xO aL xC)), (1, fun w' => w'.cell? ⟨v6, 0, none⟩ = some (.bool ny) ∧ w'.cell? ⟨v6, 1, none⟩ = some (.slice yo bl yc) ∧ w'.cell? ⟨v6, 2, none⟩ = some (.slice yO bL yC)), (3, fun w' => w'.cell? ⟨v6, 0, none⟩ = some (.bool ny) ∧ w'.cell? ⟨v6, 1, none⟩ = some (.slice yo bl yc) ∧ w'.cell? ⟨v6, 2, none⟩ = some (.slice yO bL yC)), (4, fun w' => w'.cell? ⟨v4, 0, none⟩ = some (.bool nx) ∧ w'.cell? ⟨v4, 1, none⟩ = some (.slice xo al xc) ∧ w'.cell? ⟨v4, 2, none⟩ = some (.slice xO aL xC)), (8, fun w' => w'.cell? ⟨v4, 0, none⟩ = some (.bool nx) ∧ w'.cell? ⟨v4, 1, none⟩ = some (.slice xo al xc) ∧ w'.cell? ⟨v4, 2, none⟩ = some (.slice xO aL xC)), (9, fun w' => w'.cell? ⟨v6, 0, none⟩ = some (.bool ny) ∧ w'.cell? ⟨v6, 1, none⟩ = some (.slice yo bl yc) ∧ w'.cell? ⟨v6, 2, none⟩ = some (.slice yO bL yC)), (11, fun w' => w'.cell? ⟨v8, 0, none⟩ = some (.bool nz) ∧ w'.cell? ⟨v8, 1, none⟩ = some (.slice zo cl zc) ∧ w'.cell? ⟨v8, 2, none⟩ = some (.slice zO cL zC)), (13, fun w' => w'.cell? ⟨v4, 0, none⟩ = some (.bool nx) ∧ w'.cell? ⟨v4, 1, none⟩ = some (.slice xo al xc) ∧ w'.cell? ⟨v4, 2, none⟩ = some (.slice xO aL xC)), (14, fun w' => w'.cell? ⟨v6, 0, none⟩ = some (.bool ny) ∧ w'.cell? ⟨v6, 1, none⟩ = some (.slice yo bl yc) ∧ w'.cell? ⟨v6, 2, none⟩ = some (.slice yO bL yC)), (15, fun w' => w'.cell? ⟨v8, 0, none⟩ = some (.bool nz) ∧ w'.cell? ⟨v8, 1, none⟩ = some (.slice zo cl zc) ∧ w'.cell? ⟨v8, 2, none⟩ = some (.slice zO cL zC))] := ⟨(show QCell wc.drew (v4) nx (.slice xo al xc) (.slice xO aL xC) from qa).cells, (show QCell wc.drew (v6) ny (.slice yo bl yc) (.slice yO bL yC) from qb).cells, (show QCell wc.drew (v6) ny (.slice yo bl yc) (.slice yO bL yC) from qb).cells, (show QCell wc.drew (v4) nx (.slice xo al xc) (.slice xO aL xC) from qa).cells, (show QCell wc.drew (v4) nx (.slice xo al xc) (.slice xO aL xC) from qa).cells, (show QCell wc.drew (v6) ny (.slice yo bl yc) (.slice yO bL yC) from qb).cells, (show QCell wc.drew (v8) nz (.slice zo cl zc) (.slice zO cL zC) from qc).cells, (show QCell wc.drew (v4) nx (.slice xo al xc) (.slice xO aL xC) from qa).cells, (show QCell wc.drew (v6) ny (.slice yo bl yc) (.slice yO bL yC) from qb).cells, (show QCell wc.drew (v8) nz (.slice zo cl zc) (.slice zO cL zC) from qc).cells, trivial⟩
    have hPres : Pres [(0, fun w' => w'.cell? ⟨v4, 0, none⟩ = some (.bool nx) ∧ w'.cell? ⟨v4, 1, none⟩ = some (.slice xo al xc) ∧ w'.cell? ⟨v4, 2, none⟩ = some (.slice xO aL xC)), (1, fun w' => w'.cell? ⟨v6, 0, none⟩ = some (.bool ny) ∧ w'.cell? ⟨v6, 1, none⟩ = some (.slice yo bl yc) ∧ w'.cell? ⟨v6, 2, none⟩ = some (.slice yO bL yC)), (3, fun w' => w'.cell? ⟨v6, 0, none⟩ = some (.bool ny) ∧ w'.cell? ⟨v6, 1, none⟩ = some (.slice yo bl yc) ∧ w'.cell? ⟨v6, 2, none⟩ = some (.slice yO bL yC)), (4, fun w' => w'.cell? ⟨v4, 0, none⟩ = some (.bool nx) ∧ w'.cell? ⟨v4, 1, none⟩ = some (.slice xo al xc) ∧ w'.cell? ⟨v4, 2, none⟩ = some (.slice xO aL xC)), (8, fun w' => w'.cell? ⟨v4, 0, none⟩ = some (.bool nx) ∧ w'.cell? ⟨v4, 1, none⟩ = some (.slice xo al xc) ∧ w'.cell? ⟨v4, 2, none⟩ = some (.slice xO aL xC)), (9, fun w' => w'.cell? ⟨v6, 0, none⟩ = some (.bool ny) ∧ w'.cell? ⟨v6, 1, none⟩ = some (.slice yo bl yc) ∧ w'.cell? ⟨v6, 2, none⟩ = some (.slice yO bL yC)), (11, fun w' => w'.cell? ⟨v8, 0, none⟩ = some (.bool nz) ∧ w'.cell? ⟨v8, 1, none⟩ = some (.slice zo cl zc) ∧ w'.cell? ⟨v8, 2, none⟩ = some (.slice zO cL zC)), (13, fun w' => w'.cell? ⟨v4, 0, none⟩ = some (.bool nx) ∧ w'.cell? ⟨v4, 1, none⟩ = some (.slice xo al xc) ∧ w'.cell? ⟨v4, 2, none⟩ = some (.slice xO aL xC)), (14, fun w' => w'.cell? ⟨v6, 0, none⟩ = some (.bool ny) ∧ w'.cell? ⟨v6, 1, none⟩ = some (.slice yo bl yc) ∧ w'.cell? ⟨v6, 2, none⟩ = some (.slice yO bL yC)), (15, fun w' => w'.cell? ⟨v8, 0, none⟩ = some (.bool nz) ∧ w'.cell? ⟨v8, 1, none⟩ = some (.slice zo cl zc) ∧ w'.cell? ⟨v8, 2, none⟩ = some (.slice zO cL zC))] := ⟨stay3, stay3, stay3, stay3, stay3, stay3, stay3, stay3, stay3, stay3, trivial⟩
    refine late_take 0 (v := .agg #[.bool nx, .slice xo al xc, .slice xO aL xC]) rfl (by kernel_rfl) (List.Mem.head _) (by kernel_rfl) (by kernel_rfl) (by kernel_rfl) (by kernel_rfl) (fun _ _ _ h => h) (Or.inl ⟨by rfl, ?_⟩) hHeld ?_
    · (intro u hu; (try dsimp only at hu); go_split_ands; go_simp)
    (try simp only [Act.put, List.setIfInBounds_toArray, List.set_cons_zero, List.set_cons_succ])
    refine late_take 1 (v := .agg #[.bool ny, .slice yo bl yc, .slice yO bL yC]) rfl (by kernel_rfl) (List.Mem.tail _ (List.Mem.head _)) (by kernel_rfl) (by kernel_rfl) (by kernel_rfl) (by kernel_rfl) (fun _ _ _ h => h) (Or.inl ⟨by rfl, ?_⟩) hHeld ?_
    · (intro u hu; (try dsimp only at hu); go_split_ands; go_simp)
    (try simp only [Act.put, List.setIfInBounds_toArray, List.set_cons_zero, List.set_cons_succ])
    refine late_take 3 (v := .agg #[.bool ny, .slice yo bl yc, .slice yO bL yC]) rfl (by kernel_rfl) (List.Mem.tail _ (List.Mem.tail _ (List.Mem.head _))) (by kernel_rfl) (by kernel_rfl) (by kernel_rfl) (by kernel_rfl) (fun _ _ _ h => h) (Or.inl ⟨by rfl, ?_⟩) hHeld ?_
    · (intro u hu; (try dsimp only at hu); go_split_ands; go_simp)
    (try simp only [Act.put, List.setIfInBounds_toArray, List.set_cons_zero, List.set_cons_succ])
    refine late_take 4 (v := .agg #[.bool nx, .slice xo al xc, .slice xO aL xC]) rfl (by kernel_rfl) (List.Mem.tail _ (List.Mem.tail _ (List.Mem.tail _ (List.Mem.head _)))) (by kernel_rfl) (by kernel_rfl) (by kernel_rfl) (by kernel_rfl) (fun _ _ _ h => h) (Or.inl ⟨by rfl, ?_⟩) hHeld ?_
    · (intro u hu; (try dsimp only at hu); go_split_ands; go_simp)
    (try simp only [Act.put, List.setIfInBounds_toArray, List.set_cons_zero, List.set_cons_succ])
    refine late_step 2 (by kernel_rfl) rfl (fun K hK => ?_)
    go_simp
    refine (c_rmul (ia.below (below_drew' _)) (ib.below (below_drew' _)) (by decide)).mono ?_
    rintro e w201 ⟨v, rfl, hv, b201⟩
    obtain ⟨nm61, m61o, m61l, m61c, m61O, m61L, m61C, rfl, tm61⟩ := hv.seeS
    clear hv
    have B201 : Below wc.heap.size wc w201 := bstep (below_drew' _) b201
    replace hHeld := hHeld.onto hPres b201
    go_wp2_with fail
    refine hK.out _ _ (AllL.kept hHeld) ?_
    clear hK K
    (try simp only [Act.put, List.setIfInBounds_toArray, List.set_cons_zero, List.set_cons_succ])
    refine late_step 5 (by kernel_rfl) rfl (fun K hK => ?_)
    go_simp
    refine (c_rmul ((ib.below (below_drew' _)).below b201) ((ia.below (below_drew' _)).below b201) (by decide)).mono ?_
    rintro e w202 ⟨v, rfl, hv, b202⟩
    obtain ⟨nm64, m64o, m64l, m64c, m64O, m64L, m64C, rfl, tm64⟩ := hv.seeS
    clear hv
    have B202 : Below wc.heap.size wc w202 := bstep B201 b202
    replace hHeld := hHeld.onto hPres b202
    go_wp2_with fail
    refine hK.out _ _ (AllL.kept hHeld) ?_
    clear hK K
    (try simp only [Act.put, List.setIfInBounds_toArray, List.set_cons_zero, List.set_cons_succ])
    refine late_step 6 (by kernel_rfl) rfl (fun K hK => ?_)
    go_simp
    have t9 := tm64
    rw [Hb203.out] at t9
    refine (l_alike (tm61.below b202) t9 sm61 (by decide) (by decide)).mono ?_
    rintro e w203 ⟨rfl, b203⟩
    clear t9
    have B203 : Below wc.heap.size wc w203 := bstep B202 b203
    replace hHeld := hHeld.onto hPres b203
    go_wp2_with fail
    refine hK.out _ _ (AllL.kept hHeld) ?_
    clear hK K
    (try simp only [Act.put, List.setIfInBounds_toArray, List.set_cons_zero, List.set_cons_succ])
    refine late_free 7 (v := .bool true) rfl (by kernel_rfl) (by kernel_rfl) (by kernel_rfl) (by kernel_rfl) (by kernel_rfl) (by kernel_rfl) (fun _ _ _ h => h) (Or.inl ⟨by rfl, ?_⟩) hHeld ?_
    · (intro u _; go_simp)
    (try simp only [Act.put, List.setIfInBounds_toArray, List.set_cons_zero, List.set_cons_succ])
    refine late_take 8 (v := .agg #[.bool nx, .slice xo al xc, .slice xO aL xC]) rfl (by kernel_rfl) (List.Mem.tail _ (List.Mem.tail _ (List.Mem.tail _ (List.Mem.tail _ (List.Mem.head _))))) (by kernel_rfl) (by kernel_rfl) (by kernel_rfl) (by kernel_rfl) (fun _ _ _ h => h) (Or.inl ⟨by rfl, ?_⟩) hHeld ?_
    · (intro u hu; (try dsimp only at hu); go_split_ands; go_simp)
    (try simp only [Act.put, List.setIfInBounds_toArray, List.set_cons_zero, List.set_cons_succ])
    refine late_take 9 (v := .agg #[.bool ny, .slice yo bl yc, .slice yO bL yC]) rfl (by kernel_rfl) (List.Mem.tail _ (List.Mem.tail _ (List.Mem.tail _ (List.Mem.tail _ (List.Mem.tail _ (List.Mem.head _)))))) (by kernel_rfl) (by kernel_rfl) (by kernel_rfl) (by kernel_rfl) (fun _ _ _ h => h) (Or.inl ⟨by rfl, ?_⟩) hHeld ?_
    · (intro u hu; (try dsimp only at hu); go_split_ands; go_simp)
    (try simp only [Act.put, List.setIfInBounds_toArray, List.set_cons_zero, List.set_cons_succ])
    refine late_take 11 (v := .agg #[.bool nz, .slice zo cl zc, .slice zO cL zC]) rfl (by kernel_rfl) (List.Mem.tail _ (List.Mem.tail _ (List.Mem.tail _ (List.Mem.tail _ (List.Mem.tail _ (List.Mem.tail _ (List.Mem.head _))))))) (by kernel_rfl) (by kernel_rfl) (by kernel_rfl) (by kernel_rfl) (fun _ _ _ h => h) (Or.inl ⟨by rfl, ?_⟩) hHeld ?_
    · (intro u hu; (try dsimp only at hu); go_split_ands; go_simp)
    (try simp only [Act.put, List.setIfInBounds_toArray, List.set_cons_zero, List.set_cons_succ])
    refine late_take 13 (v := .agg #[.bool nx, .slice xo al xc, .slice xO aL xC]) rfl (by kernel_rfl) (List.Mem.tail _ (List.Mem.tail _ (List.Mem.tail _ (List.Mem.tail _ (List.Mem.tail _ (List.Mem.tail _ (List.Mem.tail _ (List.Mem.head _)))))))) (by kernel_rfl) (by kernel_rfl) (by kernel_rfl) (by kernel_rfl) (fun _ _ _ h => h) (Or.inl ⟨by rfl, ?_⟩) hHeld ?_
    · (intro u hu; (try dsimp only at hu); go_split_ands; go_simp)
    (try simp only [Act.put, List.setIfInBounds_toArray, List.set_cons_zero, List.set_cons_succ])
    refine late_take 14 (v := .agg #[.bool ny, .slice yo bl yc, .slice yO bL yC]) rfl (by kernel_rfl) (List.Mem.tail _ (List.Mem.tail _ (List.Mem.tail _ (List.Mem.tail _ (List.Mem.tail _ (List.Mem.tail _ (List.Mem.tail _ (List.Mem.tail _ (List.Mem.head _))))))))) (by kernel_rfl) (by kernel_rfl) (by kernel_rfl) (by kernel_rfl) (fun _ _ _ h => h) (Or.inl ⟨by rfl, ?_⟩) hHeld ?_
    · (intro u hu; (try dsimp only at hu); go_split_ands; go_simp)
    (try simp only [Act.put, List.setIfInBounds_toArray, List.set_cons_zero, List.set_cons_succ])
    refine late_take 15 (v := .agg #[.bool nz, .slice zo cl zc, .slice zO cL zC]) rfl (by kernel_rfl) (List.Mem.tail _ (List.Mem.tail _ (List.Mem.tail _ (List.Mem.tail _ (List.Mem.tail _ (List.Mem.tail _ (List.Mem.tail _ (List.Mem.tail _ (List.Mem.tail _ (List.Mem.head _)))))))))) (by kernel_rfl) (by kernel_rfl) (by kernel_rfl) (by kernel_rfl) (fun _ _ _ h => h) (Or.inl ⟨by rfl, ?_⟩) hHeld ?_
    · (intro u hu; (try dsimp only at hu); go_split_ands; go_simp)
    (try simp only [Act.put, List.setIfInBounds_toArray, List.set_cons_zero, List.set_cons_succ])
    refine late_step 10 (by kernel_rfl) rfl (fun K hK => ?_)
    go_simp
    refine (c_rmul ((((ia.below (below_drew' _)).below b201).below b202).below b203) ((((ib.below (below_drew' _)).below b201).below b202).below b203) (by decide)).mono ?_
    rintro e w204 ⟨v, rfl, hv, b204⟩
    obtain ⟨nm69, m69o, m69l, m69c, m69O, m69L, m69C, rfl, tm69⟩ := hv.seeS
    clear hv
    have B204 : Below wc.heap.size wc w204 := bstep B203 b204
    replace hHeld := hHeld.onto hPres b204
    go_wp2_with fail
    refine hK.out _ _ (AllL.kept hHeld) ?_
    clear hK K
    (try simp only [Act.put, List.setIfInBounds_toArray, List.set_cons_zero, List.set_cons_succ])
    refine late_step 12 (by kernel_rfl) rfl (fun K hK => ?_)
    go_simp
    refine (c_rmul (tm69.num sm69 (by decide)) (((((ic.below (below_drew' _)).below b201).below b202).below b203).below b204) (by decide)).mono ?_
    rintro e w205 ⟨v, rfl, hv, b205⟩
    obtain ⟨nm71, m71o, m71l, m71c, m71O, m71L, m71C, rfl, tm71⟩ := hv.seeS
    clear hv
    have B205 : Below wc.heap.size wc w205 := bstep B204 b205
    replace hHeld := hHeld.onto hPres b205
    go_wp2_with fail
    refine hK.out _ _ (AllL.kept hHeld) ?_
    clear hK K
    (try simp only [Act.put, List.setIfInBounds_toArray, List.set_cons_zero, List.set_cons_succ])
    refine late_step 16 (by kernel_rfl) rfl (fun K hK => ?_)
    go_simp
    refine (c_rmul ((((((ib.below (below_drew' _)).below b201).below b202).below b203).below b204).below b205) ((((((ic.below (below_drew' _)).below b201).below b202).below b203).below b204).below b205) (by decide)).mono ?_
    rintro e w206 ⟨v, rfl, hv, b206⟩
    obtain ⟨nm75, m75o, m75l, m75c, m75O, m75L, m75C, rfl, tm75⟩ := hv.seeS
    clear hv
    have B206 : Below wc.heap.size wc w206 := bstep B205 b206
    replace hHeld := hHeld.onto hPres b206
    go_wp2_with fail
    refine hK.out _ _ (AllL.kept hHeld) ?_
    clear hK K
    (try simp only [Act.put, List.setIfInBounds_toArray, List.set_cons_zero, List.set_cons_succ])
    refine late_step 17 (by kernel_rfl) rfl (fun K hK => ?_)
    go_simp
    refine (c_rmul (((((((ia.below (below_drew' _)).below b201).below b202).below b203).below b204).below b205).below b206) (tm75.num sm75 (by decide)) (by decide)).mono ?_
    rintro e w207 ⟨v, rfl, hv, b207⟩
    obtain ⟨nm76, m76o, m76l, m76c, m76O, m76L, m76C, rfl, tm76⟩ := hv.seeS
    clear hv
    have B207 : Below wc.heap.size wc w207 := bstep B206 b207
    replace hHeld := hHeld.onto hPres b207
    go_wp2_with fail
    refine hK.out _ _ (AllL.kept hHeld) ?_
    clear hK K
    (try simp only [Act.put, List.setIfInBounds_toArray, List.set_cons_zero, List.set_cons_succ])
    refine late_step 18 (by kernel_rfl) rfl (fun K hK => ?_)
    go_simp
    have t9 := tm76
    rw [Hb208.out] at t9
    refine (l_alike ((tm71.below b206).below b207) t9 sm71 (by decide) (by decide)).mono ?_
    rintro e w208 ⟨rfl, b208⟩
    clear t9
    have B208 : Below wc.heap.size wc w208 := bstep B207 b208
    replace hHeld := hHeld.onto hPres b208
    go_wp2_with fail
    refine hK.out _ _ (AllL.kept hHeld) ?_
    clear hK K
    (try simp only [Act.put, List.setIfInBounds_toArray, List.set_cons_zero, List.set_cons_succ])
    refine late_free 19 (v := .bool true) rfl (by kernel_rfl) (by kernel_rfl) (by kernel_rfl) (by kernel_rfl) (by kernel_rfl) (by kernel_rfl) (fun _ _ _ h => h) (Or.inl ⟨by rfl, ?_⟩) hHeld ?_
    · (intro u _; go_simp)
    (try simp only [Act.put, List.setIfInBounds_toArray, List.set_cons_zero, List.set_cons_succ])
    refine late_step 20 (by kernel_rfl) rfl (fun K hK => ?_)
    go_simp
    refine hK.out _ _ ⟨Or.inl ⟨2, by kernel_rfl, by kernel_rfl⟩, Or.inl ⟨2, by kernel_rfl, by kernel_rfl⟩, Or.inl ⟨5, by kernel_rfl, by kernel_rfl⟩, Or.inl ⟨5, by kernel_rfl, by kernel_rfl⟩, Or.inl ⟨10, by kernel_rfl, by kernel_rfl⟩, Or.inl ⟨10, by kernel_rfl, by kernel_rfl⟩, Or.inl ⟨12, by kernel_rfl, by kernel_rfl⟩, Or.inl ⟨17, by kernel_rfl, by kernel_rfl⟩, Or.inl ⟨16, by kernel_rfl, by kernel_rfl⟩, Or.inl ⟨16, by kernel_rfl, by kernel_rfl⟩, trivial⟩ ?_
    clear hK K
    (try simp only [Act.put, List.setIfInBounds_toArray, List.set_cons_zero, List.set_cons_succ])
    refine late_done (by kernel_rfl) ?_ _
    clear hHeld
    clear hPres
    clear tm61 tm64 tm69 tm71 tm75 tm76
    have b := B208
    clear b201 b202 b203 b204 b205 b206 b207 b208 B201 B202 B203 B204 B205 B206 B207 B208
    replace ia := ia.below b
    replace ib := ib.below b
    replace ic := ic.below b
    replace qa := qa.below b
    replace qb := qb.below b
    replace qc := qc.below b
    replace hb := bstep hb b
    clear b
    go_wp2_with fail
    have sm82 : RSz (B + C) 25 := rs_add sB sC
    have sm83 : RSz (A * (B + C)) 37 := rs_mul sA sm82
    have sm86 : RSz (A * B) 24 := rs_mul sA sB
    have sm89 : RSz (A * C) 24 := rs_mul sA sC
    have sm90 : RSz ((A * B) + (A * C)) 49 := rs_add sm86 sm89
    have Hb214 : Hid ((A * B) + (A * C) = A * (B + C)) := (Rat.mul_add A B C).symm
    have sm95 : RSz (A + B) 25 := rs_add sA sB
    have sm97 : RSz ((A + B) - B) 38 := rs_sub sm95 sB
    have Hb217 : Hid (cmpQ ((A + B) - B) A = 0) := by show _ = _; rw [sub_back A B]; exact cmpQ_self A
    have sm105 : RSz (-A) 12 := rs_neg sA
    have sm106 : RSz (A + -A) 25 := rs_add sA sm105
    have Hb220 : Hid (sgnQ (A + -A) = 0) := by show _ = _; rw [Rat.add_neg_cancel]; rfl
    refine region_late [(0, fun w' => w'.cell? ⟨v4, 0, none⟩ = some (.bool nx) ∧ w'.cell? ⟨v4, 1, none⟩ = some (.slice xo al xc) ∧ w'.cell? ⟨v4, 2, none⟩ = some (.slice xO aL xC)), (1, fun w' => w'.cell? ⟨v6, 0, none⟩ = some (.bool ny) ∧ w'.cell? ⟨v6, 1, none⟩ = some (.slice yo bl yc) ∧ w'.cell? ⟨v6, 2, none⟩ = some (.slice yO bL yC)), (2, fun w' => w'.cell? ⟨v8, 0, none⟩ = some (.bool nz) ∧ w'.cell? ⟨v8, 1, none⟩ = some (.slice zo cl zc) ∧ w'.cell? ⟨v8, 2, none⟩ = some (.slice zO cL zC)), (5, fun w' => w'.cell? ⟨v4, 0, none⟩ = some (.bool nx) ∧ w'.cell? ⟨v4, 1, none⟩ = some (.slice xo al xc) ∧ w'.cell? ⟨v4, 2, none⟩ = some (.slice xO aL xC)), (6, fun w' => w'.cell? ⟨v6, 0, none⟩ = some (.bool ny) ∧ w'.cell? ⟨v6, 1, none⟩ = some (.slice yo bl yc) ∧ w'.cell? ⟨v6, 2, none⟩ = some (.slice yO bL yC)), (8, fun w' => w'.cell? ⟨v4, 0, none⟩ = some (.bool nx) ∧ w'.cell? ⟨v4, 1, none⟩ = some (.slice xo al xc) ∧ w'.cell? ⟨v4, 2, none⟩ = some (.slice xO aL xC)), (9, fun w' => w'.cell? ⟨v8, 0, none⟩ = some (.bool nz) ∧ w'.cell? ⟨v8, 1, none⟩ = some (.slice zo cl zc) ∧ w'.cell? ⟨v8, 2, none⟩ = some (.slice zO cL zC)), (14, fun w' => w'.cell? ⟨v4, 0, none⟩ = some (.bool nx) ∧ w'.cell? ⟨v4, 1, none⟩ = some (.slice xo al xc) ∧ w'.cell? ⟨v4, 2, none⟩ = some (.slice xO aL xC)), (15, fun w' => w'.cell? ⟨v6, 0, none⟩ = some (.bool ny) ∧ w'.cell? ⟨v6, 1, none⟩ = some (.slice yo bl yc) ∧ w'.cell? ⟨v6, 2, none⟩ = some (.slice yO bL yC)), (17, fun w' => w'.cell? ⟨v6, 0, none⟩ = some (.bool ny) ∧ w'.cell? ⟨v6, 1, none⟩ = some (.slice yo bl yc) ∧ w'.cell? ⟨v6, 2, none⟩ = some (.slice yO bL yC)), (19, fun w' => w'.cell? ⟨v4, 0, none⟩ = some (.bool nx) ∧ w'.cell? ⟨v4, 1, none⟩ = some (.slice xo al xc) ∧ w'.cell? ⟨v4, 2, none⟩ = some (.slice xO aL xC)), (24, fun w' => w'.cell? ⟨v4, 0, none⟩ = some (.bool nx) ∧ w'.cell? ⟨v4, 1, none⟩ = some (.slice xo al xc) ∧ w'.cell? ⟨v4, 2, none⟩ = some (.slice xO aL xC)), (25, fun w' => w'.cell? ⟨v4, 0, none⟩ = some (.bool nx) ∧ w'.cell? ⟨v4, 1, none⟩ = some (.slice xo al xc) ∧ w'.cell? ⟨v4, 2, none⟩ = some (.slice xO aL xC))] (by kernel_rfl) ?_
    have hHeld : AllL w208.drew [(0, fun w' => w'.cell? ⟨v4, 0, none⟩ = some (.bool nx) ∧ w'.cell? ⟨v4, 1, none⟩ = some (.slice xo al xc) ∧ w'.cell? ⟨v4, 2, none⟩ = some (.slice xO aL xC)), (1, fun w' => w'.cell? ⟨v6, 0, none⟩ = some (.bool ny) ∧ w'.cell? ⟨v6, 1, none⟩ = some (.slice yo bl yc) ∧ w'.cell? ⟨v6, 2, none⟩ = some (.slice yO bL yC)), (2, fun w' => w'.cell? ⟨v8, 0, none⟩ = some (.bool nz) ∧ w'.cell? ⟨v8, 1, none⟩ = some (.slice zo cl zc) ∧ w'.cell? ⟨v8, 2, none⟩ = some (.slice zO cL zC)), (5, fun w' => w'.cell? ⟨v4, 0, none⟩ = some (.bool nx) ∧ w'.cell? ⟨v4, 1, none⟩ = some (.slice xo al xc) ∧ w'.cell? ⟨v4, 2, none⟩ = some (.slice xO aL xC)), (6, fun w' => w'.cell? ⟨v6, 0, none⟩ = some (.bool ny) ∧ w'.cell? ⟨v6, 1, none⟩ = some (.slice yo bl yc) ∧ w'.cell? ⟨v6, 2, none⟩ = some (.slice yO bL yC)), (8, fun w' => w'.cell? ⟨v4, 0, none⟩ = some (.bool nx) ∧ w'.cell? ⟨v4, 1, none⟩ = some (.slice xo al xc) ∧ w'.cell? ⟨v4, 2, none⟩ = some (.slice xO aL xC)), (9, fun w' => w'.cell? ⟨v8, 0, none⟩ = some (.bool nz) ∧ w'.cell? ⟨v8, 1, none⟩ = some (.slice zo cl zc) ∧ w'.cell? ⟨v8, 2, none⟩ = some (.slice zO cL zC)), (14, fun w' => w'.cell? ⟨v4, 0, none⟩ = some (.bool nx) ∧ w'.cell? ⟨v4, 1, none⟩ = some (.slice xo al xc) ∧ w'.cell? ⟨v4, 2, none⟩ = some (.slice xO aL xC)), (15, fun w' => w'.cell? ⟨v6, 0, none⟩ = some (.bool ny) ∧ w'.cell? ⟨v6, 1, none⟩ = some (.slice yo bl yc) ∧ w'.cell? ⟨v6, 2, none⟩ = some (.slice yO bL yC)), (17, fun w' => w'.cell? ⟨v6, 0, none⟩ = some (.bool ny) ∧ w'.cell? ⟨v6, 1, none⟩ = some (.slice yo bl yc) ∧ w'.cell? ⟨v6, 2, none⟩ = some (.slice yO bL yC)), (19, fun w' => w'.cell? ⟨v4, 0, none⟩ = some (.bool nx) ∧ w'.cell? ⟨v4, 1, none⟩ = some (.slice xo al xc) ∧ w'.cell? ⟨v4, 2, none⟩ = some (.slice xO aL xC)), (24, fun w' => w'.cell? ⟨v4, 0, none⟩ = some (.bool nx) ∧ w'.cell? ⟨v4, 1, none⟩ = some (.slice xo al xc) ∧ w'.cell? ⟨v4, 2, none⟩ = some (.slice xO aL xC)), (25, fun w' => w'.cell? ⟨v4, 0, none⟩ = some (.bool nx) ∧ w'.cell? ⟨v4, 1, none⟩ = some (.slice xo al xc) ∧ w'.cell? ⟨v4, 2, none⟩ = some (.slice xO aL xC))] := ⟨(show QCell w208.drew (v4) nx (.slice xo al xc) (.slice xO aL xC) from qa).cells, (show QCell w208.drew (v6) ny (.slice yo bl yc) (.slice yO bL yC) from qb).cells, (show QCell w208.drew (v8) nz (.slice zo cl zc) (.slice zO cL zC) from qc).cells, (show QCell w208.drew (v4) nx (.slice xo al xc) (.slice xO aL xC) from qa).cells, (show QCell w208.drew (v6) ny (.slice yo bl yc) (.slice yO bL yC) from qb).cells, (show QCell w208.drew (v4) nx (.slice xo al xc) (.slice xO aL xC) from qa).cells, (show QCell w208.drew (v8) nz (.slice zo cl zc) (.slice zO cL zC) from qc).cells, (show QCell w208.drew (v4) nx (.slice xo al xc) (.slice xO aL xC) from qa).cells, (show QCell w208.drew (v6) ny (.slice yo bl yc) (.slice yO bL yC) from qb).cells, (show QCell w208.drew (v6) ny (.slice yo bl yc) (.slice yO bL yC) from qb).cells, (show QCell w208.drew (v4) nx (.slice xo al xc) (.slice xO aL xC) from qa).cells, (show QCell w208.drew (v4) nx (.slice xo al xc) (.slice xO aL xC) from qa).cells, (show QCell w208.drew (v4) nx (.slice xo al xc) (.slice xO aL xC) from qa).cells, trivial⟩
    have hPres : Pres [(0, fun w' => w'.cell? ⟨v4, 0, none⟩ = some (.bool nx) ∧ w'.cell? ⟨v4, 1, none⟩ = some (.slice xo al xc) ∧ w'.cell? ⟨v4, 2, none⟩ = some (.slice xO aL xC)), (1, fun w' => w'.cell? ⟨v6, 0, none⟩ = some (.bool ny) ∧ w'.cell? ⟨v6, 1, none⟩ = some (.slice yo bl yc) ∧ w'.cell? ⟨v6, 2, none⟩ = some (.slice yO bL yC)), (2, fun w' => w'.cell? ⟨v8, 0, none⟩ = some (.bool nz) ∧ w'.cell? ⟨v8, 1, none⟩ = some (.slice zo cl zc) ∧ w'.cell? ⟨v8, 2, none⟩ = some (.slice zO cL zC)), (5, fun w' => w'.cell? ⟨v4, 0, none⟩ = some (.bool nx) ∧ w'.cell? ⟨v4, 1, none⟩ = some (.slice xo al xc) ∧ w'.cell? ⟨v4, 2, none⟩ = some (.slice xO aL xC)), (6, fun w' => w'.cell? ⟨v6, 0, none⟩ = some (.bool ny) ∧ w'.cell? ⟨v6, 1, none⟩ = some (.slice yo bl yc) ∧ w'.cell? ⟨v6, 2, none⟩ = some (.slice yO bL yC)), (8, fun w' => w'.cell? ⟨v4, 0, none⟩ = some (.bool nx) ∧ w'.cell? ⟨v4, 1, none⟩ = some (.slice xo al xc) ∧ w'.cell? ⟨v4, 2, none⟩ = some (.slice xO aL xC)), (9, fun w' => w'.cell? ⟨v8, 0, none⟩ = some (.bool nz) ∧ w'.cell? ⟨v8, 1, none⟩ = some (.slice zo cl zc) ∧ w'.cell? ⟨v8, 2, none⟩ = some (.slice zO cL zC)), (14, fun w' => w'.cell? ⟨v4, 0, none⟩ = some (.bool nx) ∧ w'.cell? ⟨v4, 1, none⟩ = some (.slice xo al xc) ∧ w'.cell? ⟨v4, 2, none⟩ = some (.slice xO aL xC)), (15, fun w' => w'.cell? ⟨v6, 0, none⟩ = some (.bool ny) ∧ w'.cell? ⟨v6, 1, none⟩ = some (.slice yo bl yc) ∧ w'.cell? ⟨v6, 2, none⟩ = some (.slice yO bL yC)), (17, fun w' => w'.cell? ⟨v6, 0, none⟩ = some (.bool ny) ∧ w'.cell? ⟨v6, 1, none⟩ = some (.slice yo bl yc) ∧ w'.cell? ⟨v6, 2, none⟩ = some (.slice yO bL yC)), (19, fun w' => w'.cell? ⟨v4, 0, none⟩ = some (.bool nx) ∧ w'.cell? ⟨v4, 1, none⟩ = some (.slice xo al xc) ∧ w'.cell? ⟨v4, 2, none⟩ = some (.slice xO aL xC)), (24, fun w' => w'.cell? ⟨v4, 0, none⟩ = some (.bool nx) ∧ w'.cell? ⟨v4, 1, none⟩ = some (.slice xo al xc) ∧ w'.cell? ⟨v4, 2, none⟩ = some (.slice xO aL xC)), (25, fun w' => w'.cell? ⟨v4, 0, none⟩ = some (.bool nx) ∧ w'.cell? ⟨v4, 1, none⟩ = some (.slice xo al xc) ∧ w'.cell? ⟨v4, 2, none⟩ = some (.slice xO aL xC))] := ⟨stay3, stay3, stay3, stay3, stay3, stay3, stay3, stay3, stay3, stay3, stay3, stay3, stay3, trivial⟩
    refine late_take 0 (v := .agg #[.bool nx, .slice xo al xc, .slice xO aL xC]) rfl (by kernel_rfl) (List.Mem.head _) (by kernel_rfl) (by kernel_rfl) (by kernel_rfl) (by kernel_rfl) (fun _ _ _ h => h) (Or.inl ⟨by rfl, ?_⟩) hHeld ?_
    · (intro u hu; (try dsimp only at hu); go_split_ands; go_simp)
    (try simp only [Act.put, List.setIfInBounds_toArray, List.set_cons_zero, List.set_cons_succ])
    refine late_take 1 (v := .agg #[.bool ny, .slice yo bl yc, .slice yO bL yC]) rfl (by kernel_rfl) (List.Mem.tail _ (List.Mem.head _)) (by kernel_rfl) (by kernel_rfl) (by kernel_rfl) (by kernel_rfl) (fun _ _ _ h => h) (Or.inl ⟨by rfl, ?_⟩) hHeld ?_
    · (intro u hu; (try dsimp only at hu); go_split_ands; go_simp)
    (try simp only [Act.put, List.setIfInBounds_toArray, List.set_cons_zero, List.set_cons_succ])
    refine late_take 2 (v := .agg #[.bool nz, .slice zo cl zc, .slice zO cL zC]) rfl (by kernel_rfl) (List.Mem.tail _ (List.Mem.tail _ (List.Mem.head _))) (by kernel_rfl) (by kernel_rfl) (by kernel_rfl) (by kernel_rfl) (fun _ _ _ h => h) (Or.inl ⟨by rfl, ?_⟩) hHeld ?_
    · (intro u hu; (try dsimp only at hu); go_split_ands; go_simp)
    (try simp only [Act.put, List.setIfInBounds_toArray, List.set_cons_zero, List.set_cons_succ])
    refine late_take 5 (v := .agg #[.bool nx, .slice xo al xc, .slice xO aL xC]) rfl (by kernel_rfl) (List.Mem.tail _ (List.Mem.tail _ (List.Mem.tail _ (List.Mem.head _)))) (by kernel_rfl) (by kernel_rfl) (by kernel_rfl) (by kernel_rfl) (fun _ _ _ h => h) (Or.inl ⟨by rfl, ?_⟩) hHeld ?_
    · (intro u hu; (try dsimp only at hu); go_split_ands; go_simp)
    (try simp only [Act.put, List.setIfInBounds_toArray, List.set_cons_zero, List.set_cons_succ])
    refine late_take 6 (v := .agg #[.bool ny, .slice yo bl yc, .slice yO bL yC]) rfl (by kernel_rfl) (List.Mem.tail _ (List.Mem.tail _ (List.Mem.tail _ (List.Mem.tail _ (List.Mem.head _))))) (by kernel_rfl) (by kernel_rfl) (by kernel_rfl) (by kernel_rfl) (fun _ _ _ h => h) (Or.inl ⟨by rfl, ?_⟩) hHeld ?_
    · (intro u hu; (try dsimp only at hu); go_split_ands; go_simp)
    (try simp only [Act.put, List.setIfInBounds_toArray, List.set_cons_zero, List.set_cons_succ])
    refine late_take 8 (v := .agg #[.bool nx, .slice xo al xc, .slice xO aL xC]) rfl (by kernel_rfl) (List.Mem.tail _ (List.Mem.tail _ (List.Mem.tail _ (List.Mem.tail _ (List.Mem.tail _ (List.Mem.head _)))))) (by kernel_rfl) (by kernel_rfl) (by kernel_rfl) (by kernel_rfl) (fun _ _ _ h => h) (Or.inl ⟨by rfl, ?_⟩) hHeld ?_
    · (intro u hu; (try dsimp only at hu); go_split_ands; go_simp)
    (try simp only [Act.put, List.setIfInBounds_toArray, List.set_cons_zero, List.set_cons_succ])
    refine late_take 9 (v := .agg #[.bool nz, .slice zo cl zc, .slice zO cL zC]) rfl (by kernel_rfl) (List.Mem.tail _ (List.Mem.tail _ (List.Mem.tail _ (List.Mem.tail _ (List.Mem.tail _ (List.Mem.tail _ (List.Mem.head _))))))) (by kernel_rfl) (by kernel_rfl) (by kernel_rfl) (by kernel_rfl) (fun _ _ _ h => h) (Or.inl ⟨by rfl, ?_⟩) hHeld ?_
    · (intro u hu; (try dsimp only at hu); go_split_ands; go_simp)
    (try simp only [Act.put, List.setIfInBounds_toArray, List.set_cons_zero, List.set_cons_succ])
    refine late_step 3 (by kernel_rfl) rfl (fun K hK => ?_)
    go_simp
    refine (c_radd (ib.below (below_drew' _)) (ic.below (below_drew' _)) (by decide)).mono ?_
    rintro e w209 ⟨v, rfl, hv, b209⟩
    obtain ⟨nm82, m82o, m82l, m82c, m82O, m82L, m82C, rfl, tm82⟩ := hv.seeS
    clear hv
    have B209 : Below w208.heap.size w208 w209 := bstep (below_drew' _) b209
    replace hHeld := hHeld.onto hPres b209
    go_wp2_with fail
    refine hK.out _ _ (AllL.kept hHeld) ?_
    clear hK K
    (try simp only [Act.put, List.setIfInBounds_toArray, List.set_cons_zero, List.set_cons_succ])
    refine late_step 4 (by kernel_rfl) rfl (fun K hK => ?_)
    go_simp
    refine (c_rmul ((ia.below (below_drew' _)).below b209) (tm82.num sm82 (by decide)) (by decide)).mono ?_
    rintro e w210 ⟨v, rfl, hv, b210⟩
    obtain ⟨nm83, m83o, m83l, m83c, m83O, m83L, m83C, rfl, tm83⟩ := hv.seeS
    clear hv
    have B210 : Below w208.heap.size w208 w210 := bstep B209 b210
    replace hHeld := hHeld.onto hPres b210
    go_wp2_with fail
    refine hK.out _ _ (AllL.kept hHeld) ?_
    clear hK K
    (try simp only [Act.put, List.setIfInBounds_toArray, List.set_cons_zero, List.set_cons_succ])
    refine late_step 7 (by kernel_rfl) rfl (fun K hK => ?_)
    go_simp
    refine (c_rmul (((ia.below (below_drew' _)).below b209).below b210) (((ib.below (below_drew' _)).below b209).below b210) (by decide)).mono ?_
    rintro e w211 ⟨v, rfl, hv, b211⟩
    obtain ⟨nm86, m86o, m86l, m86c, m86O, m86L, m86C, rfl, tm86⟩ := hv.seeS
    clear hv
    have B211 : Below w208.heap.size w208 w211 := bstep B210 b211
    replace hHeld := hHeld.onto hPres b211
    go_wp2_with fail
    refine hK.out _ _ (AllL.kept hHeld) ?_
    clear hK K
    (try simp only [Act.put, List.setIfInBounds_toArray, List.set_cons_zero, List.set_cons_succ])
    refine late_step 10 (by kernel_rfl) rfl (fun K hK => ?_)
    go_simp
    refine (c_rmul ((((ia.below (below_drew' _)).below b209).below b210).below b211) ((((ic.below (below_drew' _)).below b209).below b210).below b211) (by decide)).mono ?_
    rintro e w212 ⟨v, rfl, hv, b212⟩
    obtain ⟨nm89, m89o, m89l, m89c, m89O, m89L, m89C, rfl, tm89⟩ := hv.seeS
    clear hv
    have B212 : Below w208.heap.size w208 w212 := bstep B211 b212
    replace hHeld := hHeld.onto hPres b212
    go_wp2_with fail
    refine hK.out _ _ (AllL.kept hHeld) ?_
    clear hK K
    (try simp only [Act.put, List.setIfInBounds_toArray, List.set_cons_zero, List.set_cons_succ])
    refine late_step 11 (by kernel_rfl) rfl (fun K hK => ?_)
    go_simp
    refine (c_radd ((tm86.below b212).num sm86 (by decide)) (tm89.num sm89 (by decide)) (by decide)).mono ?_
    rintro e w213 ⟨v, rfl, hv, b213⟩
    obtain ⟨nm90, m90o, m90l, m90c, m90O, m90L, m90C, rfl, tm90⟩ := hv.seeS
    clear hv
    have B213 : Below w208.heap.size w208 w213 := bstep B212 b213
    replace hHeld := hHeld.onto hPres b213
    go_wp2_with fail
    refine hK.out _ _ (AllL.kept hHeld) ?_
    clear hK K
    (try simp only [Act.put, List.setIfInBounds_toArray, List.set_cons_zero, List.set_cons_succ])
    refine late_step 12 (by kernel_rfl) rfl (fun K hK => ?_)
    go_simp
    have t9 := tm90
    rw [Hb214.out] at t9
    refine (l_alike (((tm83.below b211).below b212).below b213) t9 sm83 (by decide) (by decide)).mono ?_
    rintro e w214 ⟨rfl, b214⟩
    clear t9
    have B214 : Below w208.heap.size w208 w214 := bstep B213 b214
    replace hHeld := hHeld.onto hPres b214
    go_wp2_with fail
    refine hK.out _ _ (AllL.kept hHeld) ?_
    clear hK K
    (try simp only [Act.put, List.setIfInBounds_toArray, List.set_cons_zero, List.set_cons_succ])
    refine late_free 13 (v := .bool true) rfl (by kernel_rfl) (by kernel_rfl) (by kernel_rfl) (by kernel_rfl) (by kernel_rfl) (by kernel_rfl) (fun _ _ _ h => h) (Or.inl ⟨by rfl, ?_⟩) hHeld ?_
    · (intro u _; go_simp)
    (try simp only [Act.put, List.setIfInBounds_toArray, List.set_cons_zero, List.set_cons_succ])
    refine late_take 14 (v := .agg #[.bool nx, .slice xo al xc, .slice xO aL xC]) rfl (by kernel_rfl) (List.Mem.tail _ (List.Mem.tail _ (List.Mem.tail _ (List.Mem.tail _ (List.Mem.tail _ (List.Mem.tail _ (List.Mem.tail _ (List.Mem.head _)))))))) (by kernel_rfl) (by kernel_rfl) (by kernel_rfl) (by kernel_rfl) (fun _ _ _ h => h) (Or.inl ⟨by rfl, ?_⟩) hHeld ?_
    · (intro u hu; (try dsimp only at hu); go_split_ands; go_simp)
    (try simp only [Act.put, List.setIfInBounds_toArray, List.set_cons_zero, List.set_cons_succ])
    refine late_take 15 (v := .agg #[.bool ny, .slice yo bl yc, .slice yO bL yC]) rfl (by kernel_rfl) (List.Mem.tail _ (List.Mem.tail _ (List.Mem.tail _ (List.Mem.tail _ (List.Mem.tail _ (List.Mem.tail _ (List.Mem.tail _ (List.Mem.tail _ (List.Mem.head _))))))))) (by kernel_rfl) (by kernel_rfl) (by kernel_rfl) (by kernel_rfl) (fun _ _ _ h => h) (Or.inl ⟨by rfl, ?_⟩) hHeld ?_
    · (intro u hu; (try dsimp only at hu); go_split_ands; go_simp)
    (try simp only [Act.put, List.setIfInBounds_toArray, List.set_cons_zero, List.set_cons_succ])
    refine late_take 17 (v := .agg #[.bool ny, .slice yo bl yc, .slice yO bL yC]) rfl (by kernel_rfl) (List.Mem.tail _ (List.Mem.tail _ (List.Mem.tail _ (List.Mem.tail _ (List.Mem.tail _ (List.Mem.tail _ (List.Mem.tail _ (List.Mem.tail _ (List.Mem.tail _ (List.Mem.head _)))))))))) (by kernel_rfl) (by kernel_rfl) (by kernel_rfl) (by kernel_rfl) (fun _ _ _ h => h) (Or.inl ⟨by rfl, ?_⟩) hHeld ?_
    · (intro u hu; (try dsimp only at hu); go_split_ands; go_simp)
    (try simp only [Act.put, List.setIfInBounds_toArray, List.set_cons_zero, List.set_cons_succ])
    refine late_take 19 (v := .agg #[.bool nx, .slice xo al xc, .slice xO aL xC]) rfl (by kernel_rfl) (List.Mem.tail _ (List.Mem.tail _ (List.Mem.tail _ (List.Mem.tail _ (List.Mem.tail _ (List.Mem.tail _ (List.Mem.tail _ (List.Mem.tail _ (List.Mem.tail _ (List.Mem.tail _ (List.Mem.head _))))))))))) (by kernel_rfl) (by kernel_rfl) (by kernel_rfl) (by kernel_rfl) (fun _ _ _ h => h) (Or.inl ⟨by rfl, ?_⟩) hHeld ?_
    · (intro u hu; (try dsimp only at hu); go_split_ands; go_simp)
    (try simp only [Act.put, List.setIfInBounds_toArray, List.set_cons_zero, List.set_cons_succ])
    refine late_step 16 (by kernel_rfl) rfl (fun K hK => ?_)
    go_simp
    refine (c_radd (((((((ia.below (below_drew' _)).below b209).below b210).below b211).below b212).below b213).below b214) (((((((ib.below (below_drew' _)).below b209).below b210).below b211).below b212).below b213).below b214) (by decide)).mono ?_
    rintro e w215 ⟨v, rfl, hv, b215⟩
    obtain ⟨nm95, m95o, m95l, m95c, m95O, m95L, m95C, rfl, tm95⟩ := hv.seeS
    clear hv
    have B215 : Below w208.heap.size w208 w215 := bstep B214 b215
    replace hHeld := hHeld.onto hPres b215
    go_wp2_with fail
    refine hK.out _ _ (AllL.kept hHeld) ?_
    clear hK K
    (try simp only [Act.put, List.setIfInBounds_toArray, List.set_cons_zero, List.set_cons_succ])
    refine late_step 18 (by kernel_rfl) rfl (fun K hK => ?_)
    go_simp
    refine (c_rsub (tm95.num sm95 (by decide)) ((((((((ib.below (below_drew' _)).below b209).below b210).below b211).below b212).below b213).below b214).below b215) (by decide)).mono ?_
    rintro e w216 ⟨v, rfl, hv, b216⟩
    obtain ⟨nm97, m97o, m97l, m97c, m97O, m97L, m97C, rfl, tm97⟩ := hv.seeS
    clear hv
    have B216 : Below w208.heap.size w208 w216 := bstep B215 b216
    replace hHeld := hHeld.onto hPres b216
    go_wp2_with fail
    refine hK.out _ _ (AllL.kept hHeld) ?_
    clear hK K
    (try simp only [Act.put, List.setIfInBounds_toArray, List.set_cons_zero, List.set_cons_succ])
    refine late_step 20 (by kernel_rfl) rfl (fun K hK => ?_)
    go_simp
    have hq := c_rcmp (tm97.num sm97 (by decide)) (((((((((ia.below (below_drew' _)).below b209).below b210).below b211).below b212).below b213).below b214).below b215).below b216) (by decide)
    rw [Hb217.out] at hq
    refine hq.mono ?_
    rintro e w217 ⟨rfl, b217⟩
    clear hq
    have B217 : Below w208.heap.size w208 w217 := bstep B216 b217
    replace hHeld := hHeld.onto hPres b217
    go_wp2_with fail
    refine hK.out _ _ (AllL.kept hHeld) ?_
    clear hK K
    (try simp only [Act.put, List.setIfInBounds_toArray, List.set_cons_zero, List.set_cons_succ])
    refine late_free 21 (v := .bool true) rfl (by kernel_rfl) (by kernel_rfl) (by kernel_rfl) (by kernel_rfl) (by kernel_rfl) (by kernel_rfl) (fun _ _ _ h => h) (Or.inl ⟨by rfl, ?_⟩) hHeld ?_
    · (intro u _; go_simp)
    (try simp only [Act.put, List.setIfInBounds_toArray, List.set_cons_zero, List.set_cons_succ])
    refine late_free 22 (v := .bool true) rfl (by kernel_rfl) (by kernel_rfl) (by kernel_rfl) (by kernel_rfl) (by kernel_rfl) (by kernel_rfl) (fun _ _ _ h => h) (Or.inl ⟨by rfl, ?_⟩) hHeld ?_
    · (intro u _; go_simp)
    (try simp only [Act.put, List.setIfInBounds_toArray, List.set_cons_zero, List.set_cons_succ])
    refine late_free 23 (v := .bool true) rfl (by kernel_rfl) (by kernel_rfl) (by kernel_rfl) (by kernel_rfl) (by kernel_rfl) (by kernel_rfl) (fun _ _ _ h => h) (Or.inl ⟨by rfl, ?_⟩) hHeld ?_
    · (intro u _; go_simp)
    (try simp only [Act.put, List.setIfInBounds_toArray, List.set_cons_zero, List.set_cons_succ])
    refine late_take 24 (v := .agg #[.bool nx, .slice xo al xc, .slice xO aL xC]) rfl (by kernel_rfl) (List.Mem.tail _ (List.Mem.tail _ (List.Mem.tail _ (List.Mem.tail _ (List.Mem.tail _ (List.Mem.tail _ (List.Mem.tail _ (List.Mem.tail _ (List.Mem.tail _ (List.Mem.tail _ (List.Mem.tail _ (List.Mem.head _)))))))))))) (by kernel_rfl) (by kernel_rfl) (by kernel_rfl) (by kernel_rfl) (fun _ _ _ h => h) (Or.inl ⟨by rfl, ?_⟩) hHeld ?_
    · (intro u hu; (try dsimp only at hu); go_split_ands; go_simp)
    (try simp only [Act.put, List.setIfInBounds_toArray, List.set_cons_zero, List.set_cons_succ])
    refine late_take 25 (v := .agg #[.bool nx, .slice xo al xc, .slice xO aL xC]) rfl (by kernel_rfl) (List.Mem.tail _ (List.Mem.tail _ (List.Mem.tail _ (List.Mem.tail _ (List.Mem.tail _ (List.Mem.tail _ (List.Mem.tail _ (List.Mem.tail _ (List.Mem.tail _ (List.Mem.tail _ (List.Mem.tail _ (List.Mem.tail _ (List.Mem.head _))))))))))))) (by kernel_rfl) (by kernel_rfl) (by kernel_rfl) (by kernel_rfl) (fun _ _ _ h => h) (Or.inl ⟨by rfl, ?_⟩) hHeld ?_
    · (intro u hu; (try dsimp only at hu); go_split_ands; go_simp)
    (try simp only [Act.put, List.setIfInBounds_toArray, List.set_cons_zero, List.set_cons_succ])
    refine late_step 26 (by kernel_rfl) rfl (fun K hK => ?_)
    go_simp
    refine (c_rneg ((((((((((ia.below (below_drew' _)).below b209).below b210).below b211).below b212).below b213).below b214).below b215).below b216).below b217) (by decide)).mono ?_
    rintro e w218 ⟨v, rfl, hv, b218⟩
    obtain ⟨nm105, m105o, m105l, m105c, m105O, m105L, m105C, rfl, tm105⟩ := hv.seeS
    clear hv
    have B218 : Below w208.heap.size w208 w218 := bstep B217 b218
    replace hHeld := hHeld.onto hPres b218
    go_wp2_with fail
    refine hK.out _ _ (AllL.kept hHeld) ?_
    clear hK K
    (try simp only [Act.put, List.setIfInBounds_toArray, List.set_cons_zero, List.set_cons_succ])
    refine late_step 27 (by kernel_rfl) rfl (fun K hK => ?_)
    go_simp
    refine (c_radd (((((((((((ia.below (below_drew' _)).below b209).below b210).below b211).below b212).below b213).below b214).below b215).below b216).below b217).below b218) (tm105.num sm105 (by decide)) (by decide)).mono ?_
    rintro e w219 ⟨v, rfl, hv, b219⟩
    obtain ⟨nm106, m106o, m106l, m106c, m106O, m106L, m106C, rfl, tm106⟩ := hv.seeS
    clear hv
    have B219 : Below w208.heap.size w208 w219 := bstep B218 b219
    replace hHeld := hHeld.onto hPres b219
    go_wp2_with fail
    refine hK.out _ _ (AllL.kept hHeld) ?_
    clear hK K
    (try simp only [Act.put, List.setIfInBounds_toArray, List.set_cons_zero, List.set_cons_succ])
    refine late_step 28 (by kernel_rfl) rfl (fun K hK => ?_)
    go_simp
    have hq := c_rsign (tm106.num sm106 (by decide))
    rw [Hb220.out] at hq
    refine hq.mono ?_
    rintro e w220 ⟨rfl, b220⟩
    clear hq
    have B220 : Below w208.heap.size w208 w220 := bstep B219 b220
    replace hHeld := hHeld.onto hPres b220
    go_wp2_with fail
    refine hK.out _ _ (AllL.kept hHeld) ?_
    clear hK K
    (try simp only [Act.put, List.setIfInBounds_toArray, List.set_cons_zero, List.set_cons_succ])
    refine late_free 29 (v := .bool true) rfl (by kernel_rfl) (by kernel_rfl) (by kernel_rfl) (by kernel_rfl) (by kernel_rfl) (by kernel_rfl) (fun _ _ _ h => h) (Or.inl ⟨by rfl, ?_⟩) hHeld ?_
    · (intro u _; go_simp)
    (try simp only [Act.put, List.setIfInBounds_toArray, List.set_cons_zero, List.set_cons_succ])
    refine late_free 30 (v := .bool true) rfl (by kernel_rfl) (by kernel_rfl) (by kernel_rfl) (by kernel_rfl) (by kernel_rfl) (by kernel_rfl) (fun _ _ _ h => h) (Or.inl ⟨by rfl, ?_⟩) hHeld ?_
    · (intro u _; go_simp)
    (try simp only [Act.put, List.setIfInBounds_toArray, List.set_cons_zero, List.set_cons_succ])
    refine late_step 31 (by kernel_rfl) rfl (fun K hK => ?_)
    go_simp
    refine hK.out _ _ ⟨Or.inl ⟨4, by kernel_rfl, by kernel_rfl⟩, Or.inl ⟨3, by kernel_rfl, by kernel_rfl⟩, Or.inl ⟨3, by kernel_rfl, by kernel_rfl⟩, Or.inl ⟨7, by kernel_rfl, by kernel_rfl⟩, Or.inl ⟨7, by kernel_rfl, by kernel_rfl⟩, Or.inl ⟨10, by kernel_rfl, by kernel_rfl⟩, Or.inl ⟨10, by kernel_rfl, by kernel_rfl⟩, Or.inl ⟨16, by kernel_rfl, by kernel_rfl⟩, Or.inl ⟨16, by kernel_rfl, by kernel_rfl⟩, Or.inl ⟨18, by kernel_rfl, by kernel_rfl⟩, Or.inl ⟨20, by kernel_rfl, by kernel_rfl⟩, Or.inl ⟨27, by kernel_rfl, by kernel_rfl⟩, Or.inl ⟨26, by kernel_rfl, by kernel_rfl⟩, trivial⟩ ?_
    clear hK K
    (try simp only [Act.put, List.setIfInBounds_toArray, List.set_cons_zero, List.set_cons_succ])
    refine late_done (by kernel_rfl) ?_ _
    clear hHeld
    clear hPres
    clear tm82 tm83 tm86 tm89 tm90 tm95 tm97 tm105 tm106
    have b := B220
    clear b209 b210 b211 b212 b213 b214 b215 b216 b217 b218 b219 b220 B209 B210 B211 B212 B213 B214 B215 B216 B217 B218 B219 B220
    replace ia := ia.below b
    replace ib := ib.below b
    replace ic := ic.below b
    replace qa := qa.below b
    replace qb := qb.below b
    replace qc := qc.below b
    replace hb := bstep hb b
    clear b
    obtain ⟨cqa0, cqa1, cqa2⟩ := qa.cells
    obtain ⟨cqb0, cqb1, cqb2⟩ := qb.cells
    obtain ⟨cqc0, cqc1, cqc2⟩ := qc.cells
    go_wp2_with fail
    clear cqa0 cqa1 cqa2 cqb0 cqb1 cqb2 cqc0 cqc1 cqc2
    refine (c_radd ia ib (by decide)).mono ?_
    rintro e w221 ⟨v, rfl, hv, b⟩
    obtain ⟨nk0, k0o, k0l, k0c, k0O, k0L, k0C, rfl, tk0⟩ := hv.seeS
    clear hv
    replace ia := ia.below b
    replace ib := ib.below b
    replace ic := ic.below b
    replace qa := qa.below b
    replace qb := qb.below b
    replace qc := qc.below b
    replace hb := bstep hb b
    clear b
    obtain ⟨cqa0, cqa1, cqa2⟩ := qa.cells
    obtain ⟨cqb0, cqb1, cqb2⟩ := qb.cells
    obtain ⟨cqc0, cqc1, cqc2⟩ := qc.cells
    go_wp2_with fail
    clear cqa0 cqa1 cqa2 cqb0 cqb1 cqb2 cqc0 cqc1 cqc2
    have sk : RSz (A + B) 25 := rs_add sA sB
    refine (l_lowest tk0 sk (by decide)).mono ?_
    rintro e w222 ⟨rfl, b⟩
    replace ia := ia.below b
    replace ib := ib.below b
    replace ic := ic.below b
    replace tk0 := tk0.below b
    replace qa := qa.below b
    replace qb := qb.below b
    replace qc := qc.below b
    replace hb := bstep hb b
    clear b
    clear tk0
    clear sk
    obtain ⟨cqa0, cqa1, cqa2⟩ := qa.cells
    obtain ⟨cqb0, cqb1, cqb2⟩ := qb.cells
    obtain ⟨cqc0, cqc1, cqc2⟩ := qc.cells
    go_wp2_with fail
    clear cqa0 cqa1 cqa2 cqb0 cqb1 cqb2 cqc0 cqc1 cqc2
    refine (c_rmul ia ic (by decide)).mono ?_
    rintro e w223 ⟨v, rfl, hv, b⟩
    obtain ⟨nk1, k1o, k1l, k1c, k1O, k1L, k1C, rfl, tk1⟩ := hv.seeS
    clear hv
    replace ia := ia.below b
    replace ib := ib.below b
    replace ic := ic.below b
    replace qa := qa.below b
    replace qb := qb.below b
    replace qc := qc.below b
    replace hb := bstep hb b
    clear b
    obtain ⟨cqa0, cqa1, cqa2⟩ := qa.cells
    obtain ⟨cqb0, cqb1, cqb2⟩ := qb.cells
    obtain ⟨cqc0, cqc1, cqc2⟩ := qc.cells
    go_wp2_with fail
    clear cqa0 cqa1 cqa2 cqb0 cqb1 cqb2 cqc0 cqc1 cqc2
    have sk : RSz (A * C) 24 := rs_mul sA sC
    refine (l_lowest tk1 sk (by decide)).mono ?_
    rintro e w224 ⟨rfl, b⟩
    replace ia := ia.below b
    replace ib := ib.below b
    replace ic := ic.below b
    replace tk1 := tk1.below b
    replace qa := qa.below b
    replace qb := qb.below b
    replace qc := qc.below b
    replace hb := bstep hb b
    clear b
    clear tk1
    clear sk
    obtain ⟨cqa0, cqa1, cqa2⟩ := qa.cells
    obtain ⟨cqb0, cqb1, cqb2⟩ := qb.cells
    obtain ⟨cqc0, cqc1, cqc2⟩ := qc.cells
    go_wp2_with fail
    clear cqa0 cqa1 cqa2 cqb0 cqb1 cqb2 cqc0 cqc1 cqc2
    refine (c_rsub ib ic (by decide)).mono ?_
    rintro e w225 ⟨v, rfl, hv, b⟩
    obtain ⟨nk2, k2o, k2l, k2c, k2O, k2L, k2C, rfl, tk2⟩ := hv.seeS
    clear hv
    replace ia := ia.below b
    replace ib := ib.below b
    replace ic := ic.below b
    replace qa := qa.below b
    replace qb := qb.below b
    replace qc := qc.below b
    replace hb := bstep hb b
    clear b
    obtain ⟨cqa0, cqa1, cqa2⟩ := qa.cells
    obtain ⟨cqb0, cqb1, cqb2⟩ := qb.cells
    obtain ⟨cqc0, cqc1, cqc2⟩ := qc.cells
    go_wp2_with fail
    clear cqa0 cqa1 cqa2 cqb0 cqb1 cqb2 cqc0 cqc1 cqc2
    have sk : RSz (B - C) 25 := rs_sub sB sC
    refine (l_lowest tk2 sk (by decide)).mono ?_
    rintro e w226 ⟨rfl, b⟩
    replace ia := ia.below b
    replace ib := ib.below b
    replace ic := ic.below b
    replace tk2 := tk2.below b
    replace qa := qa.below b
    replace qb := qb.below b
    replace qc := qc.below b
    replace hb := bstep hb b
    clear b
    clear tk2
    clear sk
    obtain ⟨cqa0, cqa1, cqa2⟩ := qa.cells
    obtain ⟨cqb0, cqb1, cqb2⟩ := qb.cells
    obtain ⟨cqc0, cqc1, cqc2⟩ := qc.cells
    go_wp2_with fail
    clear cqa0 cqa1 cqa2 cqb0 cqb1 cqb2 cqc0 cqc1 cqc2
    refine (c_rneg ia (by decide)).mono ?_
    rintro e w227 ⟨v, rfl, hv, b⟩
    obtain ⟨nk3, k3o, k3l, k3c, k3O, k3L, k3C, rfl, tk3⟩ := hv.seeS
    clear hv
    replace ia := ia.below b
    replace ib := ib.below b
    replace ic := ic.below b
    replace qa := qa.below b
    replace qb := qb.below b
    replace qc := qc.below b
    replace hb := bstep hb b
    clear b
    obtain ⟨cqa0, cqa1, cqa2⟩ := qa.cells
    obtain ⟨cqb0, cqb1, cqb2⟩ := qb.cells
    obtain ⟨cqc0, cqc1, cqc2⟩ := qc.cells
    go_wp2_with fail
    clear cqa0 cqa1 cqa2 cqb0 cqb1 cqb2 cqc0 cqc1 cqc2
    have sk : RSz (-A) 12 := rs_neg sA
    refine (l_lowest tk3 sk (by decide)).mono ?_
    rintro e w228 ⟨rfl, b⟩
    replace ia := ia.below b
    replace ib := ib.below b
    replace ic := ic.below b
    replace tk3 := tk3.below b
    replace qa := qa.below b
    replace qb := qb.below b
    replace qc := qc.below b
    replace hb := bstep hb b
    clear b
    clear tk3
    clear sk
    obtain ⟨cqa0, cqa1, cqa2⟩ := qa.cells
    obtain ⟨cqb0, cqb1, cqb2⟩ := qb.cells
    obtain ⟨cqc0, cqc1, cqc2⟩ := qc.cells
    go_wp2_with fail
    clear cqa0 cqa1 cqa2 cqb0 cqb1 cqb2 cqc0 cqc1 cqc2
    refine (c_rsub ia ia (by decide)).mono ?_
    rintro e w229 ⟨v, rfl, hv, b⟩
    obtain ⟨nk4, k4o, k4l, k4c, k4O, k4L, k4C, rfl, tk4⟩ := hv.seeS
    clear hv
    replace ia := ia.below b
    replace ib := ib.below b
    replace ic := ic.below b
    replace qa := qa.below b
    replace qb := qb.below b
    replace qc := qc.below b
    replace hb := bstep hb b
    clear b
    obtain ⟨cqa0, cqa1, cqa2⟩ := qa.cells
    obtain ⟨cqb0, cqb1, cqb2⟩ := qb.cells
    obtain ⟨cqc0, cqc1, cqc2⟩ := qc.cells
    go_wp2_with fail
    clear cqa0 cqa1 cqa2 cqb0 cqb1 cqb2 cqc0 cqc1 cqc2
    have sk : RSz (A - A) 25 := rs_sub sA sA
    refine (l_lowest tk4 sk (by decide)).mono ?_
    rintro e w230 ⟨rfl, b⟩
    replace ia := ia.below b
    replace ib := ib.below b
    replace ic := ic.below b
    replace tk4 := tk4.below b
    replace qa := qa.below b
    replace qb := qb.below b
    replace qc := qc.below b
    replace hb := bstep hb b
    clear b
    clear tk4
    clear sk
    obtain ⟨cqa0, cqa1, cqa2⟩ := qa.cells
    obtain ⟨cqb0, cqb1, cqb2⟩ := qb.cells
    obtain ⟨cqc0, cqc1, cqc2⟩ := qc.cells
    go_wp2_with fail
    clear cqa0 cqa1 cqa2 cqb0 cqb1 cqb2 cqc0 cqc1 cqc2
    by_cases hB : B = 0
    · have hs0 : sgnQ B = 0 := by rw [hB]; rfl
      have HS0 : Hid (sgnQ B = 0) := hs0
      have HB0 : Hid (B = 0) := hB
      clear hs0 hB
      refine (c_rdiv_no ia ib (by decide) HB0.out).mono ?_
      rintro e w231 ⟨rfl, b⟩
      replace ia := ia.below b
      replace ib := ib.below b
      replace ic := ic.below b
      replace qa := qa.below b
      replace qb := qb.below b
      replace qc := qc.below b
      replace hb := bstep hb b
      clear b
      obtain ⟨W232, hW232⟩ : ∃ W, W = w231.alloc (.cells #[.bool false, .slice none 0 0, .slice none 0 0] 42) := ⟨_, rfl⟩
      have qk : QCell W232 (w231.heap.size) false (.slice none 0 0) (.slice none 0 0) := by rw [hW232]; exact (qcell_new _ rfl)
      have b : Below w231.heap.size w231 W232 := by rw [hW232]; exact belowA _ _
      replace ia := ia.below b
      replace ib := ib.below b
      replace ic := ic.below b
      replace qa := qa.below b
      replace qb := qb.below b
      replace qc := qc.below b
      replace hb := bstep hb b
      clear b
      have rqa0 : (w231.alloc (.cells #[.bool false, .slice none 0 0, .slice none 0 0] 42)).cell? ⟨v4, 0, none⟩ = some (.bool nx) := by rw [← hW232]; exact qa.cells.1
      have rqa1 : (w231.alloc (.cells #[.bool false, .slice none 0 0, .slice none 0 0] 42)).cell? ⟨v4, 1, none⟩ = some (.slice xo al xc) := by rw [← hW232]; exact qa.cells.2.1
      have rqa2 : (w231.alloc (.cells #[.bool false, .slice none 0 0, .slice none 0 0] 42)).cell? ⟨v4, 2, none⟩ = some (.slice xO aL xC) := by rw [← hW232]; exact qa.cells.2.2
      have rqb0 : (w231.alloc (.cells #[.bool false, .slice none 0 0, .slice none 0 0] 42)).cell? ⟨v6, 0, none⟩ = some (.bool ny) := by rw [← hW232]; exact qb.cells.1
      have rqb1 : (w231.alloc (.cells #[.bool false, .slice none 0 0, .slice none 0 0] 42)).cell? ⟨v6, 1, none⟩ = some (.slice yo bl yc) := by rw [← hW232]; exact qb.cells.2.1
      have rqb2 : (w231.alloc (.cells #[.bool false, .slice none 0 0, .slice none 0 0] 42)).cell? ⟨v6, 2, none⟩ = some (.slice yO bL yC) := by rw [← hW232]; exact qb.cells.2.2
      have rqc0 : (w231.alloc (.cells #[.bool false, .slice none 0 0, .slice none 0 0] 42)).cell? ⟨v8, 0, none⟩ = some (.bool nz) := by rw [← hW232]; exact qc.cells.1
      have rqc1 : (w231.alloc (.cells #[.bool false, .slice none 0 0, .slice none 0 0] 42)).cell? ⟨v8, 1, none⟩ = some (.slice zo cl zc) := by rw [← hW232]; exact qc.cells.2.1
      have rqc2 : (w231.alloc (.cells #[.bool false, .slice none 0 0, .slice none 0 0] 42)).cell? ⟨v8, 2, none⟩ = some (.slice zO cL zC) := by rw [← hW232]; exact qc.cells.2.2
      have rqk0 : (w231.alloc (.cells #[.bool false, .slice none 0 0, .slice none 0 0] 42)).cell? ⟨w231.heap.size, 0, none⟩ = some (.bool false) := by rw [← hW232]; exact qk.cells.1
      have rqk1 : (w231.alloc (.cells #[.bool false, .slice none 0 0, .slice none 0 0] 42)).cell? ⟨w231.heap.size, 1, none⟩ = some (.slice none 0 0) := by rw [← hW232]; exact qk.cells.2.1
      have rqk2 : (w231.alloc (.cells #[.bool false, .slice none 0 0, .slice none 0 0] 42)).cell? ⟨w231.heap.size, 2, none⟩ = some (.slice none 0 0) := by rw [← hW232]; exact qk.cells.2.2
      obtain ⟨v232, hv232⟩ : ∃ v, v = w231.heap.size := ⟨_, rfl⟩
      rw [← hv232] at qk
      have HW232 : Hid (W232 = w231.alloc (.cells #[.bool false, .slice none 0 0, .slice none 0 0] 42)) := hW232
      have Hv232 : Hid (v232 = w231.heap.size) := hv232
      clear hW232 hv232
      go_wp2_with fail
      rw [← HW232.out, ← Hv232.out]
      clear HW232 Hv232 rqa0 rqa1 rqa2 rqb0 rqb1 rqb2 rqc0 rqc1 rqc2 rqk0 rqk1 rqk2
      have hq := c_rsign ib
      rw [HS0.out] at hq
      refine (hq).mono ?_
      rintro e w233 ⟨rfl, b⟩
      clear hq
      replace ia := ia.below b
      replace ib := ib.below b
      replace ic := ic.below b
      replace qa := qa.below b
      replace qb := qb.below b
      replace qc := qc.below b
      replace qk := qk.below b
      replace hb := bstep hb b
      clear b
      have HE : Hid (Below w1.heap.size w1 w233) := hb
      clear hb qa qb qc qk ia ib ic
      go_wp2_with fail
      go_ret
      exact ⟨rfl, HE.out⟩
    · have HB0 : Hid (B ≠ 0) := hB
      obtain ⟨sg, hsg⟩ : ∃ c, c = sgnQ B := ⟨_, rfl⟩
      have HSG : Hid (sgnQ B = sg) := hsg.symm
      have hsg0 : (sg == 0) = false := by
        have h9 : ¬ sg = 0 := by rw [hsg]; exact fun h => hB (sgnQ_zero.1 h)
        simpa using h9
      clear hsg hB
      have sQ : RSz (A / B) 24 := rs_div HB0.out sA sB
      obtain ⟨Q, hQ⟩ : ∃ Q, Q = A / B := ⟨_, rfl⟩
      have HQ : Hid (Q = A / B) := hQ
      rw [← hQ] at sQ
      have hdv := c_rdiv_yes ia ib (by decide) HB0.out
      rw [← hQ] at hdv
      clear hQ
      refine (hdv).mono ?_
      rintro e w231 ⟨v, rfl, hv, b⟩
      clear hdv
      obtain ⟨nk, ko, kl, kc, kO, kL, kC, rfl, tk⟩ := hv.seeS
      clear hv
      replace ia := ia.below b
      replace ib := ib.below b
      replace ic := ic.below b
      replace qa := qa.below b
      replace qb := qb.below b
      replace qc := qc.below b
      replace hb := bstep hb b
      clear b
      obtain ⟨W232, hW232⟩ : ∃ W, W = w231.alloc (.cells #[.bool nk, .slice ko kl kc, .slice kO kL kC] 42) := ⟨_, rfl⟩
      have qk : QCell W232 (w231.heap.size) nk (.slice ko kl kc) (.slice kO kL kC) := by rw [hW232]; exact (qcell_new _ rfl)
      have b : Below w231.heap.size w231 W232 := by rw [hW232]; exact belowA _ _
      replace ia := ia.below b
      replace ib := ib.below b
      replace ic := ic.below b
      replace tk := tk.below b
      replace qa := qa.below b
      replace qb := qb.below b
      replace qc := qc.below b
      replace hb := bstep hb b
      clear b
      have rqa0 : (w231.alloc (.cells #[.bool nk, .slice ko kl kc, .slice kO kL kC] 42)).cell? ⟨v4, 0, none⟩ = some (.bool nx) := by rw [← hW232]; exact qa.cells.1
      have rqa1 : (w231.alloc (.cells #[.bool nk, .slice ko kl kc, .slice kO kL kC] 42)).cell? ⟨v4, 1, none⟩ = some (.slice xo al xc) := by rw [← hW232]; exact qa.cells.2.1
      have rqa2 : (w231.alloc (.cells #[.bool nk, .slice ko kl kc, .slice kO kL kC] 42)).cell? ⟨v4, 2, none⟩ = some (.slice xO aL xC) := by rw [← hW232]; exact qa.cells.2.2
      have rqb0 : (w231.alloc (.cells #[.bool nk, .slice ko kl kc, .slice kO kL kC] 42)).cell? ⟨v6, 0, none⟩ = some (.bool ny) := by rw [← hW232]; exact qb.cells.1
      have rqb1 : (w231.alloc (.cells #[.bool nk, .slice ko kl kc, .slice kO kL kC] 42)).cell? ⟨v6, 1, none⟩ = some (.slice yo bl yc) := by rw [← hW232]; exact qb.cells.2.1
      have rqb2 : (w231.alloc (.cells #[.bool nk, .slice ko kl kc, .slice kO kL kC] 42)).cell? ⟨v6, 2, none⟩ = some (.slice yO bL yC) := by rw [← hW232]; exact qb.cells.2.2
      have rqc0 : (w231.alloc (.cells #[.bool nk, .slice ko kl kc, .slice kO kL kC] 42)).cell? ⟨v8, 0, none⟩ = some (.bool nz) := by rw [← hW232]; exact qc.cells.1
      have rqc1 : (w231.alloc (.cells #[.bool nk, .slice ko kl kc, .slice kO kL kC] 42)).cell? ⟨v8, 1, none⟩ = some (.slice zo cl zc) := by rw [← hW232]; exact qc.cells.2.1
      have rqc2 : (w231.alloc (.cells #[.bool nk, .slice ko kl kc, .slice kO kL kC] 42)).cell? ⟨v8, 2, none⟩ = some (.slice zO cL zC) := by rw [← hW232]; exact qc.cells.2.2
      have rqk0 : (w231.alloc (.cells #[.bool nk, .slice ko kl kc, .slice kO kL kC] 42)).cell? ⟨w231.heap.size, 0, none⟩ = some (.bool nk) := by rw [← hW232]; exact qk.cells.1
      have rqk1 : (w231.alloc (.cells #[.bool nk, .slice ko kl kc, .slice kO kL kC] 42)).cell? ⟨w231.heap.size, 1, none⟩ = some (.slice ko kl kc) := by rw [← hW232]; exact qk.cells.2.1
      have rqk2 : (w231.alloc (.cells #[.bool nk, .slice ko kl kc, .slice kO kL kC] 42)).cell? ⟨w231.heap.size, 2, none⟩ = some (.slice kO kL kC) := by rw [← hW232]; exact qk.cells.2.2
      obtain ⟨v232, hv232⟩ : ∃ v, v = w231.heap.size := ⟨_, rfl⟩
      rw [← hv232] at qk
      have HW232 : Hid (W232 = w231.alloc (.cells #[.bool nk, .slice ko kl kc, .slice kO kL kC] 42)) := hW232
      have Hv232 : Hid (v232 = w231.heap.size) := hv232
      clear hW232 hv232
      go_wp2_with fail
      rw [← HW232.out, ← Hv232.out]
      clear HW232 Hv232 rqa0 rqa1 rqa2 rqb0 rqb1 rqb2 rqc0 rqc1 rqc2 rqk0 rqk1 rqk2
      have hq := c_rsign ib
      rw [HSG.out] at hq
      refine (hq).mono ?_
      rintro e w233 ⟨rfl, b⟩
      clear hq
      replace ia := ia.below b
      replace ib := ib.below b
      replace ic := ic.below b
      replace tk := tk.below b
      replace qa := qa.below b
      replace qb := qb.below b
      replace qc := qc.below b
      replace qk := qk.below b
      replace hb := bstep hb b
      clear b
      have ik := tk.num sQ (by decide)
      obtain ⟨cqa0, cqa1, cqa2⟩ := qa.cells
      obtain ⟨cqb0, cqb1, cqb2⟩ := qb.cells
      obtain ⟨cqc0, cqc1, cqc2⟩ := qc.cells
      obtain ⟨cqk0, cqk1, cqk2⟩ := qk.cells
      go_wp2_with fail
      clear cqa0 cqa1 cqa2 cqb0 cqb1 cqb2 cqc0 cqc1 cqc2 cqk0 cqk1 cqk2
      have sm172 : RSz (Q * B) 36 := rs_mul sQ sB
      have Hb236 : Hid (cmpQ (Q * B) A = 0) := by show _ = _; rw [HQ.out, Rat.div_mul_cancel HB0.out]; exact cmpQ_self A
      refine region_late [(3, fun w' => w'.cell? ⟨v232, 0, none⟩ = some (.bool nk) ∧ w'.cell? ⟨v232, 1, none⟩ = some (.slice ko kl kc) ∧ w'.cell? ⟨v232, 2, none⟩ = some (.slice kO kL kC)), (7, fun w' => w'.cell? ⟨v232, 0, none⟩ = some (.bool nk) ∧ w'.cell? ⟨v232, 1, none⟩ = some (.slice ko kl kc) ∧ w'.cell? ⟨v232, 2, none⟩ = some (.slice kO kL kC)), (8, fun w' => w'.cell? ⟨v6, 0, none⟩ = some (.bool ny) ∧ w'.cell? ⟨v6, 1, none⟩ = some (.slice yo bl yc) ∧ w'.cell? ⟨v6, 2, none⟩ = some (.slice yO bL yC)), (10, fun w' => w'.cell? ⟨v4, 0, none⟩ = some (.bool nx) ∧ w'.cell? ⟨v4, 1, none⟩ = some (.slice xo al xc) ∧ w'.cell? ⟨v4, 2, none⟩ = some (.slice xO aL xC))] (by kernel_rfl) ?_
      have hHeld : AllL w233.drew [(3, fun w' => w'.cell? ⟨v232, 0, none⟩ = some (.bool nk) ∧ w'.cell? ⟨v232, 1, none⟩ = some (.slice ko kl kc) ∧ w'.cell? ⟨v232, 2, none⟩ = some (.slice kO kL kC)), (7, fun w' => w'.cell? ⟨v232, 0, none⟩ = some (.bool nk) ∧ w'.cell? ⟨v232, 1, none⟩ = some (.slice ko kl kc) ∧ w'.cell? ⟨v232, 2, none⟩ = some (.slice kO kL kC)), (8, fun w' => w'.cell? ⟨v6, 0, none⟩ = some (.bool ny) ∧ w'.cell? ⟨v6, 1, none⟩ = some (.slice yo bl yc) ∧ w'.cell? ⟨v6, 2, none⟩ = some (.slice yO bL yC)), (10, fun w' => w'.cell? ⟨v4, 0, none⟩ = some (.bool nx) ∧ w'.cell? ⟨v4, 1, none⟩ = some (.slice xo al xc) ∧ w'.cell? ⟨v4, 2, none⟩ = some (.slice xO aL xC))] := ⟨(show QCell w233.drew (v232) nk (.slice ko kl kc) (.slice kO kL kC) from qk).cells, (show QCell w233.drew (v232) nk (.slice ko kl kc) (.slice kO kL kC) from qk).cells, (show QCell w233.drew (v6) ny (.slice yo bl yc) (.slice yO bL yC) from qb).cells, (show QCell w233.drew (v4) nx (.slice xo al xc) (.slice xO aL xC) from qa).cells, trivial⟩
      have hPres : Pres [(3, fun w' => w'.cell? ⟨v232, 0, none⟩ = some (.bool nk) ∧ w'.cell? ⟨v232, 1, none⟩ = some (.slice ko kl kc) ∧ w'.cell? ⟨v232, 2, none⟩ = some (.slice kO kL kC)), (7, fun w' => w'.cell? ⟨v232, 0, none⟩ = some (.bool nk) ∧ w'.cell? ⟨v232, 1, none⟩ = some (.slice ko kl kc) ∧ w'.cell? ⟨v232, 2, none⟩ = some (.slice kO kL kC)), (8, fun w' => w'.cell? ⟨v6, 0, none⟩ = some (.bool ny) ∧ w'.cell? ⟨v6, 1, none⟩ = some (.slice yo bl yc) ∧ w'.cell? ⟨v6, 2, none⟩ = some (.slice yO bL yC)), (10, fun w' => w'.cell? ⟨v4, 0, none⟩ = some (.bool nx) ∧ w'.cell? ⟨v4, 1, none⟩ = some (.slice xo al xc) ∧ w'.cell? ⟨v4, 2, none⟩ = some (.slice xO aL xC))] := ⟨stay3, stay3, stay3, stay3, trivial⟩
      refine late_free 0 (v := .int .i64 0) rfl (by kernel_rfl) (by kernel_rfl) (by kernel_rfl) (by kernel_rfl) (by kernel_rfl) (by kernel_rfl) (fun _ _ _ h => h) (Or.inl ⟨by rfl, ?_⟩) hHeld ?_
      · (intro u _; go_simp)
      (try simp only [Act.put, List.setIfInBounds_toArray, List.set_cons_zero, List.set_cons_succ])
      refine late_free 1 (v := .bool true) rfl (by kernel_rfl) (by kernel_rfl) (by kernel_rfl) (by kernel_rfl) (by kernel_rfl) (by kernel_rfl) (fun _ _ _ h => h) (Or.inl ⟨by rfl, ?_⟩) hHeld ?_
      · (intro u _; go_simp)
      (try simp only [Act.put, List.setIfInBounds_toArray, List.set_cons_zero, List.set_cons_succ])
      refine late_free 2 (v := .bool true) rfl (by kernel_rfl) (by kernel_rfl) (by kernel_rfl) (by kernel_rfl) (by kernel_rfl) (by kernel_rfl) (fun _ _ _ h => h) (Or.inl ⟨by rfl, ?_⟩) hHeld ?_
      · (intro u _; go_simp)
      (try simp only [Act.put, List.setIfInBounds_toArray, List.set_cons_zero, List.set_cons_succ])
      refine late_take 3 (v := .agg #[.bool nk, .slice ko kl kc, .slice kO kL kC]) rfl (by kernel_rfl) (List.Mem.head _) (by kernel_rfl) (by kernel_rfl) (by kernel_rfl) (by kernel_rfl) (fun _ _ _ h => h) (Or.inl ⟨by rfl, ?_⟩) hHeld ?_
      · (intro u hu; (try dsimp only at hu); go_split_ands; go_simp)
      (try simp only [Act.put, List.setIfInBounds_toArray, List.set_cons_zero, List.set_cons_succ])
      refine late_step 4 (by kernel_rfl) rfl (fun K hK => ?_)
      go_simp
      refine (l_lowest (tk.below (below_drew' _)) sQ (by decide)).mono ?_
      rintro e w234 ⟨rfl, b234⟩
      have B234 : Below w233.heap.size w233 w234 := bstep (below_drew' _) b234
      replace hHeld := hHeld.onto hPres b234
      go_wp2_with fail
      refine hK.out _ _ (AllL.kept hHeld) ?_
      clear hK K
      (try simp only [Act.put, List.setIfInBounds_toArray, List.set_cons_zero, List.set_cons_succ])
      refine late_free 5 (v := .bool true) rfl (by kernel_rfl) (by kernel_rfl) (by kernel_rfl) (by kernel_rfl) (by kernel_rfl) (by kernel_rfl) (fun _ _ _ h => h) (Or.inl ⟨by rfl, ?_⟩) hHeld ?_
      · (intro u _; go_simp)
      (try simp only [Act.put, List.setIfInBounds_toArray, List.set_cons_zero, List.set_cons_succ])
      refine late_free 6 (v := .bool true) rfl (by kernel_rfl) (by kernel_rfl) (by kernel_rfl) (by kernel_rfl) (by kernel_rfl) (by kernel_rfl) (fun _ _ _ h => h) (Or.inl ⟨by rfl, ?_⟩) hHeld ?_
      · (intro u _; go_simp)
      (try simp only [Act.put, List.setIfInBounds_toArray, List.set_cons_zero, List.set_cons_succ])
      refine late_take 7 (v := .agg #[.bool nk, .slice ko kl kc, .slice kO kL kC]) rfl (by kernel_rfl) (List.Mem.tail _ (List.Mem.head _)) (by kernel_rfl) (by kernel_rfl) (by kernel_rfl) (by kernel_rfl) (fun _ _ _ h => h) (Or.inl ⟨by rfl, ?_⟩) hHeld ?_
      · (intro u hu; (try dsimp only at hu); go_split_ands; go_simp)
      (try simp only [Act.put, List.setIfInBounds_toArray, List.set_cons_zero, List.set_cons_succ])
      refine late_take 8 (v := .agg #[.bool ny, .slice yo bl yc, .slice yO bL yC]) rfl (by kernel_rfl) (List.Mem.tail _ (List.Mem.tail _ (List.Mem.head _))) (by kernel_rfl) (by kernel_rfl) (by kernel_rfl) (by kernel_rfl) (fun _ _ _ h => h) (Or.inl ⟨by rfl, ?_⟩) hHeld ?_
      · (intro u hu; (try dsimp only at hu); go_split_ands; go_simp)
      (try simp only [Act.put, List.setIfInBounds_toArray, List.set_cons_zero, List.set_cons_succ])
      refine late_take 10 (v := .agg #[.bool nx, .slice xo al xc, .slice xO aL xC]) rfl (by kernel_rfl) (List.Mem.tail _ (List.Mem.tail _ (List.Mem.tail _ (List.Mem.head _)))) (by kernel_rfl) (by kernel_rfl) (by kernel_rfl) (by kernel_rfl) (fun _ _ _ h => h) (Or.inl ⟨by rfl, ?_⟩) hHeld ?_
      · (intro u hu; (try dsimp only at hu); go_split_ands; go_simp)
      (try simp only [Act.put, List.setIfInBounds_toArray, List.set_cons_zero, List.set_cons_succ])
      refine late_step 9 (by kernel_rfl) rfl (fun K hK => ?_)
      go_simp
      refine (c_rmul ((ik.below (below_drew' _)).below b234) ((ib.below (below_drew' _)).below b234) (by decide)).mono ?_
      rintro e w235 ⟨v, rfl, hv, b235⟩
      obtain ⟨nm172, m172o, m172l, m172c, m172O, m172L, m172C, rfl, tm172⟩ := hv.seeS
      clear hv
      have B235 : Below w233.heap.size w233 w235 := bstep B234 b235
      replace hHeld := hHeld.onto hPres b235
      go_wp2_with fail
      refine hK.out _ _ (AllL.kept hHeld) ?_
      clear hK K
      (try simp only [Act.put, List.setIfInBounds_toArray, List.set_cons_zero, List.set_cons_succ])
      refine late_step 11 (by kernel_rfl) rfl (fun K hK => ?_)
      go_simp
      have hq := c_rcmp (tm172.num sm172 (by decide)) (((ia.below (below_drew' _)).below b234).below b235) (by decide)
      rw [Hb236.out] at hq
      refine hq.mono ?_
      rintro e w236 ⟨rfl, b236⟩
      clear hq
      have B236 : Below w233.heap.size w233 w236 := bstep B235 b236
      replace hHeld := hHeld.onto hPres b236
      go_wp2_with fail
      refine hK.out _ _ (AllL.kept hHeld) ?_
      clear hK K
      (try simp only [Act.put, List.setIfInBounds_toArray, List.set_cons_zero, List.set_cons_succ])
      refine late_free 12 (v := .bool true) rfl (by kernel_rfl) (by kernel_rfl) (by kernel_rfl) (by kernel_rfl) (by kernel_rfl) (by kernel_rfl) (fun _ _ _ h => h) (Or.inl ⟨by rfl, ?_⟩) hHeld ?_
      · (intro u _; go_simp)
      (try simp only [Act.put, List.setIfInBounds_toArray, List.set_cons_zero, List.set_cons_succ])
      refine late_free 13 (v := .bool true) rfl (by kernel_rfl) (by kernel_rfl) (by kernel_rfl) (by kernel_rfl) (by kernel_rfl) (by kernel_rfl) (fun _ _ _ h => h) (Or.inl ⟨by rfl, ?_⟩) hHeld ?_
      · (intro u _; go_simp)
      (try simp only [Act.put, List.setIfInBounds_toArray, List.set_cons_zero, List.set_cons_succ])
      refine late_step 14 (by kernel_rfl) rfl (fun K hK => ?_)
      go_simp
      refine hK.out _ _ ⟨Or.inl ⟨4, by kernel_rfl, by kernel_rfl⟩, Or.inl ⟨9, by kernel_rfl, by kernel_rfl⟩, Or.inl ⟨9, by kernel_rfl, by kernel_rfl⟩, Or.inl ⟨11, by kernel_rfl, by kernel_rfl⟩, trivial⟩ ?_
      clear hK K
      (try simp only [Act.put, List.setIfInBounds_toArray, List.set_cons_zero, List.set_cons_succ])
      refine late_done (by kernel_rfl) ?_ _
      clear hHeld
      clear hPres
      clear tm172
      have b := B236
      clear b234 b235 b236 B234 B235 B236
      replace ia := ia.below b
      replace ib := ib.below b
      replace ic := ic.below b
      replace tk := tk.below b
      replace ik := ik.below b
      replace qa := qa.below b
      replace qb := qb.below b
      replace qc := qc.below b
      replace qk := qk.below b
      replace hb := bstep hb b
      clear b
      go_wp2_with fail
      clear tk ik qk
      have hc3 : cmpQ A B = -1 ∨ cmpQ A B = 0 ∨ cmpQ A B = 1 := cmpZ_three _ _
      rcases hc3 with hc | hc | hc
      · have Hb237 : Hid (cmpQ A B = (-1)) := hc
        have sm182 : RSz (A - B) 25 := rs_sub sA sB
        have Hb239 : Hid (sgnQ (A - B) = (-1)) := by show _ = _; rw [← cmpQ_sub]; exact hc
        have Hb240 : Hid (cmpQ A B = (-1)) := hc
        have Hb241 : Hid (cmpQ B A = 1) := by show _ = _; rw [cmpQ_anti, hc] <;> rfl
        refine region_late [(0, fun w' => w'.cell? ⟨v4, 0, none⟩ = some (.bool nx) ∧ w'.cell? ⟨v4, 1, none⟩ = some (.slice xo al xc) ∧ w'.cell? ⟨v4, 2, none⟩ = some (.slice xO aL xC)), (1, fun w' => w'.cell? ⟨v6, 0, none⟩ = some (.bool ny) ∧ w'.cell? ⟨v6, 1, none⟩ = some (.slice yo bl yc) ∧ w'.cell? ⟨v6, 2, none⟩ = some (.slice yO bL yC)), (3, fun w' => w'.cell? ⟨v4, 0, none⟩ = some (.bool nx) ∧ w'.cell? ⟨v4, 1, none⟩ = some (.slice xo al xc) ∧ w'.cell? ⟨v4, 2, none⟩ = some (.slice xO aL xC)), (4, fun w' => w'.cell? ⟨v6, 0, none⟩ = some (.bool ny) ∧ w'.cell? ⟨v6, 1, none⟩ = some (.slice yo bl yc) ∧ w'.cell? ⟨v6, 2, none⟩ = some (.slice yO bL yC)), (9, fun w' => w'.cell? ⟨v4, 0, none⟩ = some (.bool nx) ∧ w'.cell? ⟨v4, 1, none⟩ = some (.slice xo al xc) ∧ w'.cell? ⟨v4, 2, none⟩ = some (.slice xO aL xC)), (10, fun w' => w'.cell? ⟨v6, 0, none⟩ = some (.bool ny) ∧ w'.cell? ⟨v6, 1, none⟩ = some (.slice yo bl yc) ∧ w'.cell? ⟨v6, 2, none⟩ = some (.slice yO bL yC)), (12, fun w' => w'.cell? ⟨v6, 0, none⟩ = some (.bool ny) ∧ w'.cell? ⟨v6, 1, none⟩ = some (.slice yo bl yc) ∧ w'.cell? ⟨v6, 2, none⟩ = some (.slice yO bL yC)), (13, fun w' => w'.cell? ⟨v4, 0, none⟩ = some (.bool nx) ∧ w'.cell? ⟨v4, 1, none⟩ = some (.slice xo al xc) ∧ w'.cell? ⟨v4, 2, none⟩ = some (.slice xO aL xC))] (by kernel_rfl) ?_
        have hHeld : AllL w236.drew [(0, fun w' => w'.cell? ⟨v4, 0, none⟩ = some (.bool nx) ∧ w'.cell? ⟨v4, 1, none⟩ = some (.slice xo al xc) ∧ w'.cell? ⟨v4, 2, none⟩ = some (.slice xO aL xC)), (1, fun w' => w'.cell? ⟨v6, 0, none⟩ = some (.bool ny) ∧ w'.cell? ⟨v6, 1, none⟩ = some (.slice yo bl yc) ∧ w'.cell? ⟨v6, 2, none⟩ = some (.slice yO bL yC)), (3, fun w' => w'.cell? ⟨v4, 0, none⟩ = some (.bool nx) ∧ w'.cell? ⟨v4, 1, none⟩ = some (.slice xo al xc) ∧ w'.cell? ⟨v4, 2, none⟩ = some (.slice xO aL xC)), (4, fun w' => w'.cell? ⟨v6, 0, none⟩ = some (.bool ny) ∧ w'.cell? ⟨v6, 1, none⟩ = some (.slice yo bl yc) ∧ w'.cell? ⟨v6, 2, none⟩ = some (.slice yO bL yC)), (9, fun w' => w'.cell? ⟨v4, 0, none⟩ = some (.bool nx) ∧ w'.cell? ⟨v4, 1, none⟩ = some (.slice xo al xc) ∧ w'.cell? ⟨v4, 2, none⟩ = some (.slice xO aL xC)), (10, fun w' => w'.cell? ⟨v6, 0, none⟩ = some (.bool ny) ∧ w'.cell? ⟨v6, 1, none⟩ = some (.slice yo bl yc) ∧ w'.cell? ⟨v6, 2, none⟩ = some (.slice yO bL yC)), (12, fun w' => w'.cell? ⟨v6, 0, none⟩ = some (.bool ny) ∧ w'.cell? ⟨v6, 1, none⟩ = some (.slice yo bl yc) ∧ w'.cell? ⟨v6, 2, none⟩ = some (.slice yO bL yC)), (13, fun w' => w'.cell? ⟨v4, 0, none⟩ = some (.bool nx) ∧ w'.cell? ⟨v4, 1, none⟩ = some (.slice xo al xc) ∧ w'.cell? ⟨v4, 2, none⟩ = some (.slice xO aL xC))] := ⟨(show QCell w236.drew (v4) nx (.slice xo al xc) (.slice xO aL xC) from qa).cells, (show QCell w236.drew (v6) ny (.slice yo bl yc) (.slice yO bL yC) from qb).cells, (show QCell w236.drew (v4) nx (.slice xo al xc) (.slice xO aL xC) from qa).cells, (show QCell w236.drew (v6) ny (.slice yo bl yc) (.slice yO bL yC) from qb).cells, (show QCell w236.drew (v4) nx (.slice xo al xc) (.slice xO aL xC) from qa).cells, (show QCell w236.drew (v6) ny (.slice yo bl yc) (.slice yO bL yC) from qb).cells, (show QCell w236.drew (v6) ny (.slice yo bl yc) (.slice yO bL yC) from qb).cells, (show QCell w236.drew (v4) nx (.slice xo al xc) (.slice xO aL xC) from qa).cells, trivial⟩
        have hPres : Pres [(0, fun w' => w'.cell? ⟨v4, 0, none⟩ = some (.bool nx) ∧ w'.cell? ⟨v4, 1, none⟩ = some (.slice xo al xc) ∧ w'.cell? ⟨v4, 2, none⟩ = some (.slice xO aL xC)), (1, fun w' => w'.cell? ⟨v6, 0, none⟩ = some (.bool ny) ∧ w'.cell? ⟨v6, 1, none⟩ = some (.slice yo bl yc) ∧ w'.cell? ⟨v6, 2, none⟩ = some (.slice yO bL yC)), (3, fun w' => w'.cell? ⟨v4, 0, none⟩ = some (.bool nx) ∧ w'.cell? ⟨v4, 1, none⟩ = some (.slice xo al xc) ∧ w'.cell? ⟨v4, 2, none⟩ = some (.slice xO aL xC)), (4, fun w' => w'.cell? ⟨v6, 0, none⟩ = some (.bool ny) ∧ w'.cell? ⟨v6, 1, none⟩ = some (.slice yo bl yc) ∧ w'.cell? ⟨v6, 2, none⟩ = some (.slice yO bL yC)), (9, fun w' => w'.cell? ⟨v4, 0, none⟩ = some (.bool nx) ∧ w'.cell? ⟨v4, 1, none⟩ = some (.slice xo al xc) ∧ w'.cell? ⟨v4, 2, none⟩ = some (.slice xO aL xC)), (10, fun w' => w'.cell? ⟨v6, 0, none⟩ = some (.bool ny) ∧ w'.cell? ⟨v6, 1, none⟩ = some (.slice yo bl yc) ∧ w'.cell? ⟨v6, 2, none⟩ = some (.slice yO bL yC)), (12, fun w' => w'.cell? ⟨v6, 0, none⟩ = some (.bool ny) ∧ w'.cell? ⟨v6, 1, none⟩ = some (.slice yo bl yc) ∧ w'.cell? ⟨v6, 2, none⟩ = some (.slice yO bL yC)), (13, fun w' => w'.cell? ⟨v4, 0, none⟩ = some (.bool nx) ∧ w'.cell? ⟨v4, 1, none⟩ = some (.slice xo al xc) ∧ w'.cell? ⟨v4, 2, none⟩ = some (.slice xO aL xC))] := ⟨stay3, stay3, stay3, stay3, stay3, stay3, stay3, stay3, trivial⟩
        refine late_take 0 (v := .agg #[.bool nx, .slice xo al xc, .slice xO aL xC]) rfl (by kernel_rfl) (List.Mem.head _) (by kernel_rfl) (by kernel_rfl) (by kernel_rfl) (by kernel_rfl) (fun _ _ _ h => h) (Or.inl ⟨by rfl, ?_⟩) hHeld ?_
        · (intro u hu; (try dsimp only at hu); go_split_ands; go_simp)
        (try simp only [Act.put, List.setIfInBounds_toArray, List.set_cons_zero, List.set_cons_succ])
        refine late_take 1 (v := .agg #[.bool ny, .slice yo bl yc, .slice yO bL yC]) rfl (by kernel_rfl) (List.Mem.tail _ (List.Mem.head _)) (by kernel_rfl) (by kernel_rfl) (by kernel_rfl) (by kernel_rfl) (fun _ _ _ h => h) (Or.inl ⟨by rfl, ?_⟩) hHeld ?_
        · (intro u hu; (try dsimp only at hu); go_split_ands; go_simp)
        (try simp only [Act.put, List.setIfInBounds_toArray, List.set_cons_zero, List.set_cons_succ])
        refine late_take 3 (v := .agg #[.bool nx, .slice xo al xc, .slice xO aL xC]) rfl (by kernel_rfl) (List.Mem.tail _ (List.Mem.tail _ (List.Mem.head _))) (by kernel_rfl) (by kernel_rfl) (by kernel_rfl) (by kernel_rfl) (fun _ _ _ h => h) (Or.inl ⟨by rfl, ?_⟩) hHeld ?_
        · (intro u hu; (try dsimp only at hu); go_split_ands; go_simp)
        (try simp only [Act.put, List.setIfInBounds_toArray, List.set_cons_zero, List.set_cons_succ])
        refine late_take 4 (v := .agg #[.bool ny, .slice yo bl yc, .slice yO bL yC]) rfl (by kernel_rfl) (List.Mem.tail _ (List.Mem.tail _ (List.Mem.tail _ (List.Mem.head _)))) (by kernel_rfl) (by kernel_rfl) (by kernel_rfl) (by kernel_rfl) (fun _ _ _ h => h) (Or.inl ⟨by rfl, ?_⟩) hHeld ?_
        · (intro u hu; (try dsimp only at hu); go_split_ands; go_simp)
        (try simp only [Act.put, List.setIfInBounds_toArray, List.set_cons_zero, List.set_cons_succ])
        refine late_step 2 (by kernel_rfl) rfl (fun K hK => ?_)
        go_simp
        have hq := c_rcmp (ia.below (below_drew' _)) (ib.below (below_drew' _)) (by decide)
        rw [Hb237.out] at hq
        refine hq.mono ?_
        rintro e w237 ⟨rfl, b237⟩
        clear hq
        have B237 : Below w236.heap.size w236 w237 := bstep (below_drew' _) b237
        replace hHeld := hHeld.onto hPres b237
        go_wp2_with fail
        refine hK.out _ _ (AllL.kept hHeld) ?_
        clear hK K
        (try simp only [Act.put, List.setIfInBounds_toArray, List.set_cons_zero, List.set_cons_succ])
        refine late_step 5 (by kernel_rfl) rfl (fun K hK => ?_)
        go_simp
        refine (c_rsub ((ia.below (below_drew' _)).below b237) ((ib.below (below_drew' _)).below b237) (by decide)).mono ?_
        rintro e w238 ⟨v, rfl, hv, b238⟩
        obtain ⟨nm182, m182o, m182l, m182c, m182O, m182L, m182C, rfl, tm182⟩ := hv.seeS
        clear hv
        have B238 : Below w236.heap.size w236 w238 := bstep B237 b238
        replace hHeld := hHeld.onto hPres b238
        go_wp2_with fail
        refine hK.out _ _ (AllL.kept hHeld) ?_
        clear hK K
        (try simp only [Act.put, List.setIfInBounds_toArray, List.set_cons_zero, List.set_cons_succ])
        refine late_step 6 (by kernel_rfl) rfl (fun K hK => ?_)
        go_simp
        have hq := c_rsign (tm182.num sm182 (by decide))
        rw [Hb239.out] at hq
        refine hq.mono ?_
        rintro e w239 ⟨rfl, b239⟩
        clear hq
        have B239 : Below w236.heap.size w236 w239 := bstep B238 b239
        replace hHeld := hHeld.onto hPres b239
        go_wp2_with fail
        refine hK.out _ _ (AllL.kept hHeld) ?_
        clear hK K
        (try simp only [Act.put, List.setIfInBounds_toArray, List.set_cons_zero, List.set_cons_succ])
        refine late_free 7 (v := .bool true) rfl (by kernel_rfl) (by kernel_rfl) (by kernel_rfl) (by kernel_rfl) (by kernel_rfl) (by kernel_rfl) (fun _ _ _ h => h) (Or.inl ⟨by rfl, ?_⟩) hHeld ?_
        · (intro u _; go_simp)
        (try simp only [Act.put, List.setIfInBounds_toArray, List.set_cons_zero, List.set_cons_succ])
        refine late_free 8 (v := .bool true) rfl (by kernel_rfl) (by kernel_rfl) (by kernel_rfl) (by kernel_rfl) (by kernel_rfl) (by kernel_rfl) (fun _ _ _ h => h) (Or.inl ⟨by rfl, ?_⟩) hHeld ?_
        · (intro u _; go_simp)
        (try simp only [Act.put, List.setIfInBounds_toArray, List.set_cons_zero, List.set_cons_succ])
        refine late_take 9 (v := .agg #[.bool nx, .slice xo al xc, .slice xO aL xC]) rfl (by kernel_rfl) (List.Mem.tail _ (List.Mem.tail _ (List.Mem.tail _ (List.Mem.tail _ (List.Mem.head _))))) (by kernel_rfl) (by kernel_rfl) (by kernel_rfl) (by kernel_rfl) (fun _ _ _ h => h) (Or.inl ⟨by rfl, ?_⟩) hHeld ?_
        · (intro u hu; (try dsimp only at hu); go_split_ands; go_simp)
        (try simp only [Act.put, List.setIfInBounds_toArray, List.set_cons_zero, List.set_cons_succ])
        refine late_take 10 (v := .agg #[.bool ny, .slice yo bl yc, .slice yO bL yC]) rfl (by kernel_rfl) (List.Mem.tail _ (List.Mem.tail _ (List.Mem.tail _ (List.Mem.tail _ (List.Mem.tail _ (List.Mem.head _)))))) (by kernel_rfl) (by kernel_rfl) (by kernel_rfl) (by kernel_rfl) (fun _ _ _ h => h) (Or.inl ⟨by rfl, ?_⟩) hHeld ?_
        · (intro u hu; (try dsimp only at hu); go_split_ands; go_simp)
        (try simp only [Act.put, List.setIfInBounds_toArray, List.set_cons_zero, List.set_cons_succ])
        refine late_take 12 (v := .agg #[.bool ny, .slice yo bl yc, .slice yO bL yC]) rfl (by kernel_rfl) (List.Mem.tail _ (List.Mem.tail _ (List.Mem.tail _ (List.Mem.tail _ (List.Mem.tail _ (List.Mem.tail _ (List.Mem.head _))))))) (by kernel_rfl) (by kernel_rfl) (by kernel_rfl) (by kernel_rfl) (fun _ _ _ h => h) (Or.inl ⟨by rfl, ?_⟩) hHeld ?_
        · (intro u hu; (try dsimp only at hu); go_split_ands; go_simp)
        (try simp only [Act.put, List.setIfInBounds_toArray, List.set_cons_zero, List.set_cons_succ])
        refine late_take 13 (v := .agg #[.bool nx, .slice xo al xc, .slice xO aL xC]) rfl (by kernel_rfl) (List.Mem.tail _ (List.Mem.tail _ (List.Mem.tail _ (List.Mem.tail _ (List.Mem.tail _ (List.Mem.tail _ (List.Mem.tail _ (List.Mem.head _)))))))) (by kernel_rfl) (by kernel_rfl) (by kernel_rfl) (by kernel_rfl) (fun _ _ _ h => h) (Or.inl ⟨by rfl, ?_⟩) hHeld ?_
        · (intro u hu; (try dsimp only at hu); go_split_ands; go_simp)
        (try simp only [Act.put, List.setIfInBounds_toArray, List.set_cons_zero, List.set_cons_succ])
        refine late_step 11 (by kernel_rfl) rfl (fun K hK => ?_)
        go_simp
        have hq := c_rcmp ((((ia.below (below_drew' _)).below b237).below b238).below b239) ((((ib.below (below_drew' _)).below b237).below b238).below b239) (by decide)
        rw [Hb240.out] at hq
        refine hq.mono ?_
        rintro e w240 ⟨rfl, b240⟩
        clear hq
        have B240 : Below w236.heap.size w236 w240 := bstep B239 b240
        replace hHeld := hHeld.onto hPres b240
        go_wp2_with fail
        refine hK.out _ _ (AllL.kept hHeld) ?_
        clear hK K
        (try simp only [Act.put, List.setIfInBounds_toArray, List.set_cons_zero, List.set_cons_succ])
        refine late_step 14 (by kernel_rfl) rfl (fun K hK => ?_)
        go_simp
        have hq := c_rcmp (((((ib.below (below_drew' _)).below b237).below b238).below b239).below b240) (((((ia.below (below_drew' _)).below b237).below b238).below b239).below b240) (by decide)
        rw [Hb241.out] at hq
        refine hq.mono ?_
        rintro e w241 ⟨rfl, b241⟩
        clear hq
        have B241 : Below w236.heap.size w236 w241 := bstep B240 b241
        replace hHeld := hHeld.onto hPres b241
        go_wp2_with fail
        refine hK.out _ _ (AllL.kept hHeld) ?_
        clear hK K
        (try simp only [Act.put, List.setIfInBounds_toArray, List.set_cons_zero, List.set_cons_succ])
        refine late_free 15 (v := .int .i64 (-1)) rfl (by kernel_rfl) (by kernel_rfl) (by kernel_rfl) (by kernel_rfl) (by kernel_rfl) (by kernel_rfl) (fun _ _ _ h => h) (Or.inl ⟨by rfl, ?_⟩) hHeld ?_
        · (intro u _; go_simp; first | done | decide)
        (try simp only [Act.put, List.setIfInBounds_toArray, List.set_cons_zero, List.set_cons_succ])
        refine late_free 16 (v := .bool true) rfl (by kernel_rfl) (by kernel_rfl) (by kernel_rfl) (by kernel_rfl) (by kernel_rfl) (by kernel_rfl) (fun _ _ _ h => h) (Or.inl ⟨by rfl, ?_⟩) hHeld ?_
        · (intro u _; go_simp)
        (try simp only [Act.put, List.setIfInBounds_toArray, List.set_cons_zero, List.set_cons_succ])
        refine late_free 17 (v := .bool true) rfl (by kernel_rfl) (by kernel_rfl) (by kernel_rfl) (by kernel_rfl) (by kernel_rfl) (by kernel_rfl) (fun _ _ _ h => h) (Or.inl ⟨by rfl, ?_⟩) hHeld ?_
        · (intro u _; go_simp)
        (try simp only [Act.put, List.setIfInBounds_toArray, List.set_cons_zero, List.set_cons_succ])
        refine late_step 18 (by kernel_rfl) rfl (fun K hK => ?_)
        go_simp
        refine hK.out _ _ ⟨Or.inl ⟨2, by kernel_rfl, by kernel_rfl⟩, Or.inl ⟨2, by kernel_rfl, by kernel_rfl⟩, Or.inl ⟨5, by kernel_rfl, by kernel_rfl⟩, Or.inl ⟨5, by kernel_rfl, by kernel_rfl⟩, Or.inl ⟨11, by kernel_rfl, by kernel_rfl⟩, Or.inl ⟨11, by kernel_rfl, by kernel_rfl⟩, Or.inl ⟨14, by kernel_rfl, by kernel_rfl⟩, Or.inl ⟨14, by kernel_rfl, by kernel_rfl⟩, trivial⟩ ?_
        clear hK K
        (try simp only [Act.put, List.setIfInBounds_toArray, List.set_cons_zero, List.set_cons_succ])
        refine late_done (by kernel_rfl) ?_ _
        clear hHeld
        clear hPres
        clear tm182
        have b := B241
        clear b237 b238 b239 b240 b241 B237 B238 B239 B240 B241
        replace ia := ia.below b
        replace ib := ib.below b
        replace ic := ic.below b
        replace qa := qa.below b
        replace qb := qb.below b
        replace qc := qc.below b
        replace hb := bstep hb b
        clear b
        have HE : Hid (Below w1.heap.size w1 w241) := hb
        clear hb qa qb qc ia ib ic
        go_wp2_with fail
        go_ret
        exact ⟨rfl, HE.out⟩
      · have Hb237 : Hid (cmpQ A B = 0) := hc
        have sm182 : RSz (A - B) 25 := rs_sub sA sB
        have Hb239 : Hid (sgnQ (A - B) = 0) := by show _ = _; rw [← cmpQ_sub]; exact hc
        have Hb240 : Hid (cmpQ A B = 0) := hc
        have Hb241 : Hid (cmpQ B A = 0) := by show _ = _; rw [cmpQ_anti, hc] <;> rfl
        refine region_late [(0, fun w' => w'.cell? ⟨v4, 0, none⟩ = some (.bool nx) ∧ w'.cell? ⟨v4, 1, none⟩ = some (.slice xo al xc) ∧ w'.cell? ⟨v4, 2, none⟩ = some (.slice xO aL xC)), (1, fun w' => w'.cell? ⟨v6, 0, none⟩ = some (.bool ny) ∧ w'.cell? ⟨v6, 1, none⟩ = some (.slice yo bl yc) ∧ w'.cell? ⟨v6, 2, none⟩ = some (.slice yO bL yC)), (3, fun w' => w'.cell? ⟨v4, 0, none⟩ = some (.bool nx) ∧ w'.cell? ⟨v4, 1, none⟩ = some (.slice xo al xc) ∧ w'.cell? ⟨v4, 2, none⟩ = some (.slice xO aL xC)), (4, fun w' => w'.cell? ⟨v6, 0, none⟩ = some (.bool ny) ∧ w'.cell? ⟨v6, 1, none⟩ = some (.slice yo bl yc) ∧ w'.cell? ⟨v6, 2, none⟩ = some (.slice yO bL yC)), (9, fun w' => w'.cell? ⟨v4, 0, none⟩ = some (.bool nx) ∧ w'.cell? ⟨v4, 1, none⟩ = some (.slice xo al xc) ∧ w'.cell? ⟨v4, 2, none⟩ = some (.slice xO aL xC)), (10, fun w' => w'.cell? ⟨v6, 0, none⟩ = some (.bool ny) ∧ w'.cell? ⟨v6, 1, none⟩ = some (.slice yo bl yc) ∧ w'.cell? ⟨v6, 2, none⟩ = some (.slice yO bL yC)), (12, fun w' => w'.cell? ⟨v6, 0, none⟩ = some (.bool ny) ∧ w'.cell? ⟨v6, 1, none⟩ = some (.slice yo bl yc) ∧ w'.cell? ⟨v6, 2, none⟩ = some (.slice yO bL yC)), (13, fun w' => w'.cell? ⟨v4, 0, none⟩ = some (.bool nx) ∧ w'.cell? ⟨v4, 1, none⟩ = some (.slice xo al xc) ∧ w'.cell? ⟨v4, 2, none⟩ = some (.slice xO aL xC))] (by kernel_rfl) ?_
        have hHeld : AllL w236.drew [(0, fun w' => w'.cell? ⟨v4, 0, none⟩ = some (.bool nx) ∧ w'.cell? ⟨v4, 1, none⟩ = some (.slice xo al xc) ∧ w'.cell? ⟨v4, 2, none⟩ = some (.slice xO aL xC)), (1, fun w' => w'.cell? ⟨v6, 0, none⟩ = some (.bool ny) ∧ w'.cell? ⟨v6, 1, none⟩ = some (.slice yo bl yc) ∧ w'.cell? ⟨v6, 2, none⟩ = some (.slice yO bL yC)), (3, fun w' => w'.cell? ⟨v4, 0, none⟩ = some (.bool nx) ∧ w'.cell? ⟨v4, 1, none⟩ = some (.slice xo al xc) ∧ w'.cell? ⟨v4, 2, none⟩ = some (.slice xO aL xC)), (4, fun w' => w'.cell? ⟨v6, 0, none⟩ = some (.bool ny) ∧ w'.cell? ⟨v6, 1, none⟩ = some (.slice yo bl yc) ∧ w'.cell? ⟨v6, 2, none⟩ = some (.slice yO bL yC)), (9, fun w' => w'.cell? ⟨v4, 0, none⟩ = some (.bool nx) ∧ w'.cell? ⟨v4, 1, none⟩ = some (.slice xo al xc) ∧ w'.cell? ⟨v4, 2, none⟩ = some (.slice xO aL xC)), (10, fun w' => w'.cell? ⟨v6, 0, none⟩ = some (.bool ny) ∧ w'.cell? ⟨v6, 1, none⟩ = some (.slice yo bl yc) ∧ w'.cell? ⟨v6, 2, none⟩ = some (.slice yO bL yC)), (12, fun w' => w'.cell? ⟨v6, 0, none⟩ = some (.bool ny) ∧ w'.cell? ⟨v6, 1, none⟩ = some (.slice yo bl yc) ∧ w'.cell? ⟨v6, 2, none⟩ = some (.slice yO bL yC)), (13, fun w' => w'.cell? ⟨v4, 0, none⟩ = some (.bool nx) ∧ w'.cell? ⟨v4, 1, none⟩ = some (.slice xo al xc) ∧ w'.cell? ⟨v4, 2, none⟩ = some (.slice xO aL xC))] := ⟨(show QCell w236.drew (v4) nx (.slice xo al xc) (.slice xO aL xC) from qa).cells, (show QCell w236.drew (v6) ny (.slice yo bl yc) (.slice yO bL yC) from qb).cells, (show QCell w236.drew (v4) nx (.slice xo al xc) (.slice xO aL xC) from qa).cells, (show QCell w236.drew (v6) ny (.slice yo bl yc) (.slice yO bL yC) from qb).cells, (show QCell w236.drew (v4) nx (.slice xo al xc) (.slice xO aL xC) from qa).cells, (show QCell w236.drew (v6) ny (.slice yo bl yc) (.slice yO bL yC) from qb).cells, (show QCell w236.drew (v6) ny (.slice yo bl yc) (.slice yO bL yC) from qb).cells, (show QCell w236.drew (v4) nx (.slice xo al xc) (.slice xO aL xC) from qa).cells, trivial⟩
        have hPres : Pres [(0, fun w' => w'.cell? ⟨v4, 0, none⟩ = some (.bool nx) ∧ w'.cell? ⟨v4, 1, none⟩ = some (.slice xo al xc) ∧ w'.cell? ⟨v4, 2, none⟩ = some (.slice xO aL xC)), (1, fun w' => w'.cell? ⟨v6, 0, none⟩ = some (.bool ny) ∧ w'.cell? ⟨v6, 1, none⟩ = some (.slice yo bl yc) ∧ w'.cell? ⟨v6, 2, none⟩ = some (.slice yO bL yC)), (3, fun w' => w'.cell? ⟨v4, 0, none⟩ = some (.bool nx) ∧ w'.cell? ⟨v4, 1, none⟩ = some (.slice xo al xc) ∧ w'.cell? ⟨v4, 2, none⟩ = some (.slice xO aL xC)), (4, fun w' => w'.cell? ⟨v6, 0, none⟩ = some (.bool ny) ∧ w'.cell? ⟨v6, 1, none⟩ = some (.slice yo bl yc) ∧ w'.cell? ⟨v6, 2, none⟩ = some (.slice yO bL yC)), (9, fun w' => w'.cell? ⟨v4, 0, none⟩ = some (.bool nx) ∧ w'.cell? ⟨v4, 1, none⟩ = some (.slice xo al xc) ∧ w'.cell? ⟨v4, 2, none⟩ = some (.slice xO aL xC)), (10, fun w' => w'.cell? ⟨v6, 0, none⟩ = some (.bool ny) ∧ w'.cell? ⟨v6, 1, none⟩ = some (.slice yo bl yc) ∧ w'.cell? ⟨v6, 2, none⟩ = some (.slice yO bL yC)), (12, fun w' => w'.cell? ⟨v6, 0, none⟩ = some (.bool ny) ∧ w'.cell? ⟨v6, 1, none⟩ = some (.slice yo bl yc) ∧ w'.cell? ⟨v6, 2, none⟩ = some (.slice yO bL yC)), (13, fun w' => w'.cell? ⟨v4, 0, none⟩ = some (.bool nx) ∧ w'.cell? ⟨v4, 1, none⟩ = some (.slice xo al xc) ∧ w'.cell? ⟨v4, 2, none⟩ = some (.slice xO aL xC))] := ⟨stay3, stay3, stay3, stay3, stay3, stay3, stay3, stay3, trivial⟩
        refine late_take 0 (v := .agg #[.bool nx, .slice xo al xc, .slice xO aL xC]) rfl (by kernel_rfl) (List.Mem.head _) (by kernel_rfl) (by kernel_rfl) (by kernel_rfl) (by kernel_rfl) (fun _ _ _ h => h) (Or.inl ⟨by rfl, ?_⟩) hHeld ?_
        · (intro u hu; (try dsimp only at hu); go_split_ands; go_simp)
        (try simp only [Act.put, List.setIfInBounds_toArray, List.set_cons_zero, List.set_cons_succ])
        refine late_take 1 (v := .agg #[.bool ny, .slice yo bl yc, .slice yO bL yC]) rfl (by kernel_rfl) (List.Mem.tail _ (List.Mem.head _)) (by kernel_rfl) (by kernel_rfl) (by kernel_rfl) (by kernel_rfl) (fun _ _ _ h => h) (Or.inl ⟨by rfl, ?_⟩) hHeld ?_
        · (intro u hu; (try dsimp only at hu); go_split_ands; go_simp)
        (try simp only [Act.put, List.setIfInBounds_toArray, List.set_cons_zero, List.set_cons_succ])
        refine late_take 3 (v := .agg #[.bool nx, .slice xo al xc, .slice xO aL xC]) rfl (by kernel_rfl) (List.Mem.tail _ (List.Mem.tail _ (List.Mem.head _))) (by kernel_rfl) (by kernel_rfl) (by kernel_rfl) (by kernel_rfl) (fun _ _ _ h => h) (Or.inl ⟨by rfl, ?_⟩) hHeld ?_
        · (intro u hu; (try dsimp only at hu); go_split_ands; go_simp)
        (try simp only [Act.put, List.setIfInBounds_toArray, List.set_cons_zero, List.set_cons_succ])
        refine late_take 4 (v := .agg #[.bool ny, .slice yo bl yc, .slice yO bL yC]) rfl (by kernel_rfl) (List.Mem.tail _ (List.Mem.tail _ (List.Mem.tail _ (List.Mem.head _)))) (by kernel_rfl) (by kernel_rfl) (by kernel_rfl) (by kernel_rfl) (fun _ _ _ h => h) (Or.inl ⟨by rfl, ?_⟩) hHeld ?_
        · (intro u hu; (try dsimp only at hu); go_split_ands; go_simp)
        (try simp only [Act.put, List.setIfInBounds_toArray, List.set_cons_zero, List.set_cons_succ])
        refine late_step 2 (by kernel_rfl) rfl (fun K hK => ?_)
        go_simp
        have hq := c_rcmp (ia.below (below_drew' _)) (ib.below (below_drew' _)) (by decide)
        rw [Hb237.out] at hq
        refine hq.mono ?_
        rintro e w237 ⟨rfl, b237⟩
        clear hq
        have B237 : Below w236.heap.size w236 w237 := bstep (below_drew' _) b237
        replace hHeld := hHeld.onto hPres b237
        go_wp2_with fail
        refine hK.out _ _ (AllL.kept hHeld) ?_
        clear hK K
        (try simp only [Act.put, List.setIfInBounds_toArray, List.set_cons_zero, List.set_cons_succ])
        refine late_step 5 (by kernel_rfl) rfl (fun K hK => ?_)
        go_simp
        refine (c_rsub ((ia.below (below_drew' _)).below b237) ((ib.below (below_drew' _)).below b237) (by decide)).mono ?_
        rintro e w238 ⟨v, rfl, hv, b238⟩
        obtain ⟨nm182, m182o, m182l, m182c, m182O, m182L, m182C, rfl, tm182⟩ := hv.seeS
        clear hv
        have B238 : Below w236.heap.size w236 w238 := bstep B237 b238
        replace hHeld := hHeld.onto hPres b238
        go_wp2_with fail
        refine hK.out _ _ (AllL.kept hHeld) ?_
        clear hK K
        (try simp only [Act.put, List.setIfInBounds_toArray, List.set_cons_zero, List.set_cons_succ])
        refine late_step 6 (by kernel_rfl) rfl (fun K hK => ?_)
        go_simp
        have hq := c_rsign (tm182.num sm182 (by decide))
        rw [Hb239.out] at hq
        refine hq.mono ?_
        rintro e w239 ⟨rfl, b239⟩
        clear hq
        have B239 : Below w236.heap.size w236 w239 := bstep B238 b239
        replace hHeld := hHeld.onto hPres b239
        go_wp2_with fail
        refine hK.out _ _ (AllL.kept hHeld) ?_
        clear hK K
        (try simp only [Act.put, List.setIfInBounds_toArray, List.set_cons_zero, List.set_cons_succ])
        refine late_free 7 (v := .bool true) rfl (by kernel_rfl) (by kernel_rfl) (by kernel_rfl) (by kernel_rfl) (by kernel_rfl) (by kernel_rfl) (fun _ _ _ h => h) (Or.inl ⟨by rfl, ?_⟩) hHeld ?_
        · (intro u _; go_simp)
        (try simp only [Act.put, List.setIfInBounds_toArray, List.set_cons_zero, List.set_cons_succ])
        refine late_free 8 (v := .bool true) rfl (by kernel_rfl) (by kernel_rfl) (by kernel_rfl) (by kernel_rfl) (by kernel_rfl) (by kernel_rfl) (fun _ _ _ h => h) (Or.inl ⟨by rfl, ?_⟩) hHeld ?_
        · (intro u _; go_simp)
        (try simp only [Act.put, List.setIfInBounds_toArray, List.set_cons_zero, List.set_cons_succ])
        refine late_take 9 (v := .agg #[.bool nx, .slice xo al xc, .slice xO aL xC]) rfl (by kernel_rfl) (List.Mem.tail _ (List.Mem.tail _ (List.Mem.tail _ (List.Mem.tail _ (List.Mem.head _))))) (by kernel_rfl) (by kernel_rfl) (by kernel_rfl) (by kernel_rfl) (fun _ _ _ h => h) (Or.inl ⟨by rfl, ?_⟩) hHeld ?_
        · (intro u hu; (try dsimp only at hu); go_split_ands; go_simp)
        (try simp only [Act.put, List.setIfInBounds_toArray, List.set_cons_zero, List.set_cons_succ])
        refine late_take 10 (v := .agg #[.bool ny, .slice yo bl yc, .slice yO bL yC]) rfl (by kernel_rfl) (List.Mem.tail _ (List.Mem.tail _ (List.Mem.tail _ (List.Mem.tail _ (List.Mem.tail _ (List.Mem.head _)))))) (by kernel_rfl) (by kernel_rfl) (by kernel_rfl) (by kernel_rfl) (fun _ _ _ h => h) (Or.inl ⟨by rfl, ?_⟩) hHeld ?_
        · (intro u hu; (try dsimp only at hu); go_split_ands; go_simp)
        (try simp only [Act.put, List.setIfInBounds_toArray, List.set_cons_zero, List.set_cons_succ])
        refine late_take 12 (v := .agg #[.bool ny, .slice yo bl yc, .slice yO bL yC]) rfl (by kernel_rfl) (List.Mem.tail _ (List.Mem.tail _ (List.Mem.tail _ (List.Mem.tail _ (List.Mem.tail _ (List.Mem.tail _ (List.Mem.head _))))))) (by kernel_rfl) (by kernel_rfl) (by kernel_rfl) (by kernel_rfl) (fun _ _ _ h => h) (Or.inl ⟨by rfl, ?_⟩) hHeld ?_
        · (intro u hu; (try dsimp only at hu); go_split_ands; go_simp)
        (try simp only [Act.put, List.setIfInBounds_toArray, List.set_cons_zero, List.set_cons_succ])
        refine late_take 13 (v := .agg #[.bool nx, .slice xo al xc, .slice xO aL xC]) rfl (by kernel_rfl) (List.Mem.tail _ (List.Mem.tail _ (List.Mem.tail _ (List.Mem.tail _ (List.Mem.tail _ (List.Mem.tail _ (List.Mem.tail _ (List.Mem.head _)))))))) (by kernel_rfl) (by kernel_rfl) (by kernel_rfl) (by kernel_rfl) (fun _ _ _ h => h) (Or.inl ⟨by rfl, ?_⟩) hHeld ?_
        · (intro u hu; (try dsimp only at hu); go_split_ands; go_simp)
        (try simp only [Act.put, List.setIfInBounds_toArray, List.set_cons_zero, List.set_cons_succ])
        refine late_step 11 (by kernel_rfl) rfl (fun K hK => ?_)
        go_simp
        have hq := c_rcmp ((((ia.below (below_drew' _)).below b237).below b238).below b239) ((((ib.below (below_drew' _)).below b237).below b238).below b239) (by decide)
        rw [Hb240.out] at hq
        refine hq.mono ?_
        rintro e w240 ⟨rfl, b240⟩
        clear hq
        have B240 : Below w236.heap.size w236 w240 := bstep B239 b240
        replace hHeld := hHeld.onto hPres b240
        go_wp2_with fail
        refine hK.out _ _ (AllL.kept hHeld) ?_
        clear hK K
        (try simp only [Act.put, List.setIfInBounds_toArray, List.set_cons_zero, List.set_cons_succ])
        refine late_step 14 (by kernel_rfl) rfl (fun K hK => ?_)
        go_simp
        have hq := c_rcmp (((((ib.below (below_drew' _)).below b237).below b238).below b239).below b240) (((((ia.below (below_drew' _)).below b237).below b238).below b239).below b240) (by decide)
        rw [Hb241.out] at hq
        refine hq.mono ?_
        rintro e w241 ⟨rfl, b241⟩
        clear hq
        have B241 : Below w236.heap.size w236 w241 := bstep B240 b241
        replace hHeld := hHeld.onto hPres b241
        go_wp2_with fail
        refine hK.out _ _ (AllL.kept hHeld) ?_
        clear hK K
        (try simp only [Act.put, List.setIfInBounds_toArray, List.set_cons_zero, List.set_cons_succ])
        refine late_free 15 (v := .int .i64 0) rfl (by kernel_rfl) (by kernel_rfl) (by kernel_rfl) (by kernel_rfl) (by kernel_rfl) (by kernel_rfl) (fun _ _ _ h => h) (Or.inl ⟨by rfl, ?_⟩) hHeld ?_
        · (intro u _; go_simp; first | done | decide)
        (try simp only [Act.put, List.setIfInBounds_toArray, List.set_cons_zero, List.set_cons_succ])
        refine late_free 16 (v := .bool true) rfl (by kernel_rfl) (by kernel_rfl) (by kernel_rfl) (by kernel_rfl) (by kernel_rfl) (by kernel_rfl) (fun _ _ _ h => h) (Or.inl ⟨by rfl, ?_⟩) hHeld ?_
        · (intro u _; go_simp)
        (try simp only [Act.put, List.setIfInBounds_toArray, List.set_cons_zero, List.set_cons_succ])
        refine late_free 17 (v := .bool true) rfl (by kernel_rfl) (by kernel_rfl) (by kernel_rfl) (by kernel_rfl) (by kernel_rfl) (by kernel_rfl) (fun _ _ _ h => h) (Or.inl ⟨by rfl, ?_⟩) hHeld ?_
        · (intro u _; go_simp)
        (try simp only [Act.put, List.setIfInBounds_toArray, List.set_cons_zero, List.set_cons_succ])
        refine late_step 18 (by kernel_rfl) rfl (fun K hK => ?_)
        go_simp
        refine hK.out _ _ ⟨Or.inl ⟨2, by kernel_rfl, by kernel_rfl⟩, Or.inl ⟨2, by kernel_rfl, by kernel_rfl⟩, Or.inl ⟨5, by kernel_rfl, by kernel_rfl⟩, Or.inl ⟨5, by kernel_rfl, by kernel_rfl⟩, Or.inl ⟨11, by kernel_rfl, by kernel_rfl⟩, Or.inl ⟨11, by kernel_rfl, by kernel_rfl⟩, Or.inl ⟨14, by kernel_rfl, by kernel_rfl⟩, Or.inl ⟨14, by kernel_rfl, by kernel_rfl⟩, trivial⟩ ?_
        clear hK K
        (try simp only [Act.put, List.setIfInBounds_toArray, List.set_cons_zero, List.set_cons_succ])
        refine late_done (by kernel_rfl) ?_ _
        clear hHeld
        clear hPres
        clear tm182
        have b := B241
        clear b237 b238 b239 b240 b241 B237 B238 B239 B240 B241
        replace ia := ia.below b
        replace ib := ib.below b
        replace ic := ic.below b
        replace qa := qa.below b
        replace qb := qb.below b
        replace qc := qc.below b
        replace hb := bstep hb b
        clear b
        have HE : Hid (Below w1.heap.size w1 w241) := hb
        clear hb qa qb qc ia ib ic
        go_wp2_with fail
        go_ret
        exact ⟨rfl, HE.out⟩
      · have Hb237 : Hid (cmpQ A B = 1) := hc
        have sm182 : RSz (A - B) 25 := rs_sub sA sB
        have Hb239 : Hid (sgnQ (A - B) = 1) := by show _ = _; rw [← cmpQ_sub]; exact hc
        have Hb240 : Hid (cmpQ A B = 1) := hc
        have Hb241 : Hid (cmpQ B A = (-1)) := by show _ = _; rw [cmpQ_anti, hc] <;> rfl
        refine region_late [(0, fun w' => w'.cell? ⟨v4, 0, none⟩ = some (.bool nx) ∧ w'.cell? ⟨v4, 1, none⟩ = some (.slice xo al xc) ∧ w'.cell? ⟨v4, 2, none⟩ = some (.slice xO aL xC)), (1, fun w' => w'.cell? ⟨v6, 0, none⟩ = some (.bool ny) ∧ w'.cell? ⟨v6, 1, none⟩ = some (.slice yo bl yc) ∧ w'.cell? ⟨v6, 2, none⟩ = some (.slice yO bL yC)), (3, fun w' => w'.cell? ⟨v4, 0, none⟩ = some (.bool nx) ∧ w'.cell? ⟨v4, 1, none⟩ = some (.slice xo al xc) ∧ w'.cell? ⟨v4, 2, none⟩ = some (.slice xO aL xC)), (4, fun w' => w'.cell? ⟨v6, 0, none⟩ = some (.bool ny) ∧ w'.cell? ⟨v6, 1, none⟩ = some (.slice yo bl yc) ∧ w'.cell? ⟨v6, 2, none⟩ = some (.slice yO bL yC)), (9, fun w' => w'.cell? ⟨v4, 0, none⟩ = some (.bool nx) ∧ w'.cell? ⟨v4, 1, none⟩ = some (.slice xo al xc) ∧ w'.cell? ⟨v4, 2, none⟩ = some (.slice xO aL xC)), (10, fun w' => w'.cell? ⟨v6, 0, none⟩ = some (.bool ny) ∧ w'.cell? ⟨v6, 1, none⟩ = some (.slice yo bl yc) ∧ w'.cell? ⟨v6, 2, none⟩ = some (.slice yO bL yC)), (12, fun w' => w'.cell? ⟨v6, 0, none⟩ = some (.bool ny) ∧ w'.cell? ⟨v6, 1, none⟩ = some (.slice yo bl yc) ∧ w'.cell? ⟨v6, 2, none⟩ = some (.slice yO bL yC)), (13, fun w' => w'.cell? ⟨v4, 0, none⟩ = some (.bool nx) ∧ w'.cell? ⟨v4, 1, none⟩ = some (.slice xo al xc) ∧ w'.cell? ⟨v4, 2, none⟩ = some (.slice xO aL xC))] (by kernel_rfl) ?_
        have hHeld : AllL w236.drew [(0, fun w' => w'.cell? ⟨v4, 0, none⟩ = some (.bool nx) ∧ w'.cell? ⟨v4, 1, none⟩ = some (.slice xo al xc) ∧ w'.cell? ⟨v4, 2, none⟩ = some (.slice xO aL xC)), (1, fun w' => w'.cell? ⟨v6, 0, none⟩ = some (.bool ny) ∧ w'.cell? ⟨v6, 1, none⟩ = some (.slice yo bl yc) ∧ w'.cell? ⟨v6, 2, none⟩ = some (.slice yO bL yC)), (3, fun w' => w'.cell? ⟨v4, 0, none⟩ = some (.bool nx) ∧ w'.cell? ⟨v4, 1, none⟩ = some (.slice xo al xc) ∧ w'.cell? ⟨v4, 2, none⟩ = some (.slice xO aL xC)), (4, fun w' => w'.cell? ⟨v6, 0, none⟩ = some (.bool ny) ∧ w'.cell? ⟨v6, 1, none⟩ = some (.slice yo bl yc) ∧ w'.cell? ⟨v6, 2, none⟩ = some (.slice yO bL yC)), (9, fun w' => w'.cell? ⟨v4, 0, none⟩ = some (.bool nx) ∧ w'.cell? ⟨v4, 1, none⟩ = some (.slice xo al xc) ∧ w'.cell? ⟨v4, 2, none⟩ = some (.slice xO aL xC)), (10, fun w' => w'.cell? ⟨v6, 0, none⟩ = some (.bool ny) ∧ w'.cell? ⟨v6, 1, none⟩ = some (.slice yo bl yc) ∧ w'.cell? ⟨v6, 2, none⟩ = some (.slice yO bL yC)), (12, fun w' => w'.cell? ⟨v6, 0, none⟩ = some (.bool ny) ∧ w'.cell? ⟨v6, 1, none⟩ = some (.slice yo bl yc) ∧ w'.cell? ⟨v6, 2, none⟩ = some (.slice yO bL yC)), (13, fun w' => w'.cell? ⟨v4, 0, none⟩ = some (.bool nx) ∧ w'.cell? ⟨v4, 1, none⟩ = some (.slice xo al xc) ∧ w'.cell? ⟨v4, 2, none⟩ = some (.slice xO aL xC))] := ⟨(show QCell w236.drew (v4) nx (.slice xo al xc) (.slice xO aL xC) from qa).cells, (show QCell w236.drew (v6) ny (.slice yo bl yc) (.slice yO bL yC) from qb).cells, (show QCell w236.drew (v4) nx (.slice xo al xc) (.slice xO aL xC) from qa).cells, (show QCell w236.drew (v6) ny (.slice yo bl yc) (.slice yO bL yC) from qb).cells, (show QCell w236.drew (v4) nx (.slice xo al xc) (.slice xO aL xC) from qa).cells, (show QCell w236.drew (v6) ny (.slice yo bl yc) (.slice yO bL yC) from qb).cells, (show QCell w236.drew (v6) ny (.slice yo bl yc) (.slice yO bL yC) from qb).cells, (show QCell w236.drew (v4) nx (.slice xo al xc) (.slice xO aL xC) from qa).cells, trivial⟩
        have hPres : Pres [(0, fun w' => w'.cell? ⟨v4, 0, none⟩ = some (.bool nx) ∧ w'.cell? ⟨v4, 1, none⟩ = some (.slice xo al xc) ∧ w'.cell? ⟨v4, 2, none⟩ = some (.slice xO aL xC)), (1, fun w' => w'.cell? ⟨v6, 0, none⟩ = some (.bool ny) ∧ w'.cell? ⟨v6, 1, none⟩ = some (.slice yo bl yc) ∧ w'.cell? ⟨v6, 2, none⟩ = some (.slice yO bL yC)), (3, fun w' => w'.cell? ⟨v4, 0, none⟩ = some (.bool nx) ∧ w'.cell? ⟨v4, 1, none⟩ = some (.slice xo al xc) ∧ w'.cell? ⟨v4, 2, none⟩ = some (.slice xO aL xC)), (4, fun w' => w'.cell? ⟨v6, 0, none⟩ = some (.bool ny) ∧ w'.cell? ⟨v6, 1, none⟩ = some (.slice yo bl yc) ∧ w'.cell? ⟨v6, 2, none⟩ = some (.slice yO bL yC)), (9, fun w' => w'.cell? ⟨v4, 0, none⟩ = some (.bool nx) ∧ w'.cell? ⟨v4, 1, none⟩ = some (.slice xo al xc) ∧ w'.cell? ⟨v4, 2, none⟩ = some (.slice xO aL xC)), (10, fun w' => w'.cell? ⟨v6, 0, none⟩ = some (.bool ny) ∧ w'.cell? ⟨v6, 1, none⟩ = some (.slice yo bl yc) ∧ w'.cell? ⟨v6, 2, none⟩ = some (.slice yO bL yC)), (12, fun w' => w'.cell? ⟨v6, 0, none⟩ = some (.bool ny) ∧ w'.cell? ⟨v6, 1, none⟩ = some (.slice yo bl yc) ∧ w'.cell? ⟨v6, 2, none⟩ = some (.slice yO bL yC)), (13, fun w' => w'.cell? ⟨v4, 0, none⟩ = some (.bool nx) ∧ w'.cell? ⟨v4, 1, none⟩ = some (.slice xo al xc) ∧ w'.cell? ⟨v4, 2, none⟩ = some (.slice xO aL xC))] := ⟨stay3, stay3, stay3, stay3, stay3, stay3, stay3, stay3, trivial⟩
        refine late_take 0 (v := .agg #[.bool nx, .slice xo al xc, .slice xO aL xC]) rfl (by kernel_rfl) (List.Mem.head _) (by kernel_rfl) (by kernel_rfl) (by kernel_rfl) (by kernel_rfl) (fun _ _ _ h => h) (Or.inl ⟨by rfl, ?_⟩) hHeld ?_
        · (intro u hu; (try dsimp only at hu); go_split_ands; go_simp)
        (try simp only [Act.put, List.setIfInBounds_toArray, List.set_cons_zero, List.set_cons_succ])
        refine late_take 1 (v := .agg #[.bool ny, .slice yo bl yc, .slice yO bL yC]) rfl (by kernel_rfl) (List.Mem.tail _ (List.Mem.head _)) (by kernel_rfl) (by kernel_rfl) (by kernel_rfl) (by kernel_rfl) (fun _ _ _ h => h) (Or.inl ⟨by rfl, ?_⟩) hHeld ?_
        · (intro u hu; (try dsimp only at hu); go_split_ands; go_simp)
        (try simp only [Act.put, List.setIfInBounds_toArray, List.set_cons_zero, List.set_cons_succ])
        refine late_take 3 (v := .agg #[.bool nx, .slice xo al xc, .slice xO aL xC]) rfl (by kernel_rfl) (List.Mem.tail _ (List.Mem.tail _ (List.Mem.head _))) (by kernel_rfl) (by kernel_rfl) (by kernel_rfl) (by kernel_rfl) (fun _ _ _ h => h) (Or.inl ⟨by rfl, ?_⟩) hHeld ?_
        · (intro u hu; (try dsimp only at hu); go_split_ands; go_simp)
        (try simp only [Act.put, List.setIfInBounds_toArray, List.set_cons_zero, List.set_cons_succ])
        refine late_take 4 (v := .agg #[.bool ny, .slice yo bl yc, .slice yO bL yC]) rfl (by kernel_rfl) (List.Mem.tail _ (List.Mem.tail _ (List.Mem.tail _ (List.Mem.head _)))) (by kernel_rfl) (by kernel_rfl) (by kernel_rfl) (by kernel_rfl) (fun _ _ _ h => h) (Or.inl ⟨by rfl, ?_⟩) hHeld ?_
        · (intro u hu; (try dsimp only at hu); go_split_ands; go_simp)
        (try simp only [Act.put, List.setIfInBounds_toArray, List.set_cons_zero, List.set_cons_succ])
        refine late_step 2 (by kernel_rfl) rfl (fun K hK => ?_)
        go_simp
        have hq := c_rcmp (ia.below (below_drew' _)) (ib.below (below_drew' _)) (by decide)
        rw [Hb237.out] at hq
        refine hq.mono ?_
        rintro e w237 ⟨rfl, b237⟩
        clear hq
        have B237 : Below w236.heap.size w236 w237 := bstep (below_drew' _) b237
        replace hHeld := hHeld.onto hPres b237
        go_wp2_with fail
        refine hK.out _ _ (AllL.kept hHeld) ?_
        clear hK K
        (try simp only [Act.put, List.setIfInBounds_toArray, List.set_cons_zero, List.set_cons_succ])
        refine late_step 5 (by kernel_rfl) rfl (fun K hK => ?_)
        go_simp
        refine (c_rsub ((ia.below (below_drew' _)).below b237) ((ib.below (below_drew' _)).below b237) (by decide)).mono ?_
        rintro e w238 ⟨v, rfl, hv, b238⟩
        obtain ⟨nm182, m182o, m182l, m182c, m182O, m182L, m182C, rfl, tm182⟩ := hv.seeS
        clear hv
        have B238 : Below w236.heap.size w236 w238 := bstep B237 b238
        replace hHeld := hHeld.onto hPres b238
        go_wp2_with fail
        refine hK.out _ _ (AllL.kept hHeld) ?_
        clear hK K
        (try simp only [Act.put, List.setIfInBounds_toArray, List.set_cons_zero, List.set_cons_succ])
        refine late_step 6 (by kernel_rfl) rfl (fun K hK => ?_)
        go_simp
        have hq := c_rsign (tm182.num sm182 (by decide))
        rw [Hb239.out] at hq
        refine hq.mono ?_
        rintro e w239 ⟨rfl, b239⟩
        clear hq
        have B239 : Below w236.heap.size w236 w239 := bstep B238 b239
        replace hHeld := hHeld.onto hPres b239
        go_wp2_with fail
        refine hK.out _ _ (AllL.kept hHeld) ?_
        clear hK K
        (try simp only [Act.put, List.setIfInBounds_toArray, List.set_cons_zero, List.set_cons_succ])
        refine late_free 7 (v := .bool true) rfl (by kernel_rfl) (by kernel_rfl) (by kernel_rfl) (by kernel_rfl) (by kernel_rfl) (by kernel_rfl) (fun _ _ _ h => h) (Or.inl ⟨by rfl, ?_⟩) hHeld ?_
        · (intro u _; go_simp)
        (try simp only [Act.put, List.setIfInBounds_toArray, List.set_cons_zero, List.set_cons_succ])
        refine late_free 8 (v := .bool true) rfl (by kernel_rfl) (by kernel_rfl) (by kernel_rfl) (by kernel_rfl) (by kernel_rfl) (by kernel_rfl) (fun _ _ _ h => h) (Or.inl ⟨by rfl, ?_⟩) hHeld ?_
        · (intro u _; go_simp)
        (try simp only [Act.put, List.setIfInBounds_toArray, List.set_cons_zero, List.set_cons_succ])
        refine late_take 9 (v := .agg #[.bool nx, .slice xo al xc, .slice xO aL xC]) rfl (by kernel_rfl) (List.Mem.tail _ (List.Mem.tail _ (List.Mem.tail _ (List.Mem.tail _ (List.Mem.head _))))) (by kernel_rfl) (by kernel_rfl) (by kernel_rfl) (by kernel_rfl) (fun _ _ _ h => h) (Or.inl ⟨by rfl, ?_⟩) hHeld ?_
        · (intro u hu; (try dsimp only at hu); go_split_ands; go_simp)
        (try simp only [Act.put, List.setIfInBounds_toArray, List.set_cons_zero, List.set_cons_succ])
        refine late_take 10 (v := .agg #[.bool ny, .slice yo bl yc, .slice yO bL yC]) rfl (by kernel_rfl) (List.Mem.tail _ (List.Mem.tail _ (List.Mem.tail _ (List.Mem.tail _ (List.Mem.tail _ (List.Mem.head _)))))) (by kernel_rfl) (by kernel_rfl) (by kernel_rfl) (by kernel_rfl) (fun _ _ _ h => h) (Or.inl ⟨by rfl, ?_⟩) hHeld ?_
        · (intro u hu; (try dsimp only at hu); go_split_ands; go_simp)
        (try simp only [Act.put, List.setIfInBounds_toArray, List.set_cons_zero, List.set_cons_succ])
        refine late_take 12 (v := .agg #[.bool ny, .slice yo bl yc, .slice yO bL yC]) rfl (by kernel_rfl) (List.Mem.tail _ (List.Mem.tail _ (List.Mem.tail _ (List.Mem.tail _ (List.Mem.tail _ (List.Mem.tail _ (List.Mem.head _))))))) (by kernel_rfl) (by kernel_rfl) (by kernel_rfl) (by kernel_rfl) (fun _ _ _ h => h) (Or.inl ⟨by rfl, ?_⟩) hHeld ?_
        · (intro u hu; (try dsimp only at hu); go_split_ands; go_simp)
        (try simp only [Act.put, List.setIfInBounds_toArray, List.set_cons_zero, List.set_cons_succ])
        refine late_take 13 (v := .agg #[.bool nx, .slice xo al xc, .slice xO aL xC]) rfl (by kernel_rfl) (List.Mem.tail _ (List.Mem.tail _ (List.Mem.tail _ (List.Mem.tail _ (List.Mem.tail _ (List.Mem.tail _ (List.Mem.tail _ (List.Mem.head _)))))))) (by kernel_rfl) (by kernel_rfl) (by kernel_rfl) (by kernel_rfl) (fun _ _ _ h => h) (Or.inl ⟨by rfl, ?_⟩) hHeld ?_
        · (intro u hu; (try dsimp only at hu); go_split_ands; go_simp)
        (try simp only [Act.put, List.setIfInBounds_toArray, List.set_cons_zero, List.set_cons_succ])
        refine late_step 11 (by kernel_rfl) rfl (fun K hK => ?_)
        go_simp
        have hq := c_rcmp ((((ia.below (below_drew' _)).below b237).below b238).below b239) ((((ib.below (below_drew' _)).below b237).below b238).below b239) (by decide)
        rw [Hb240.out] at hq
        refine hq.mono ?_
        rintro e w240 ⟨rfl, b240⟩
        clear hq
        have B240 : Below w236.heap.size w236 w240 := bstep B239 b240
        replace hHeld := hHeld.onto hPres b240
        go_wp2_with fail
        refine hK.out _ _ (AllL.kept hHeld) ?_
        clear hK K
        (try simp only [Act.put, List.setIfInBounds_toArray, List.set_cons_zero, List.set_cons_succ])
        refine late_step 14 (by kernel_rfl) rfl (fun K hK => ?_)
        go_simp
        have hq := c_rcmp (((((ib.below (below_drew' _)).below b237).below b238).below b239).below b240) (((((ia.below (below_drew' _)).below b237).below b238).below b239).below b240) (by decide)
        rw [Hb241.out] at hq
        refine hq.mono ?_
        rintro e w241 ⟨rfl, b241⟩
        clear hq
        have B241 : Below w236.heap.size w236 w241 := bstep B240 b241
        replace hHeld := hHeld.onto hPres b241
        go_wp2_with fail
        refine hK.out _ _ (AllL.kept hHeld) ?_
        clear hK K
        (try simp only [Act.put, List.setIfInBounds_toArray, List.set_cons_zero, List.set_cons_succ])
        refine late_free 15 (v := .int .i64 1) rfl (by kernel_rfl) (by kernel_rfl) (by kernel_rfl) (by kernel_rfl) (by kernel_rfl) (by kernel_rfl) (fun _ _ _ h => h) (Or.inl ⟨by rfl, ?_⟩) hHeld ?_
        · (intro u _; go_simp; first | done | decide)
        (try simp only [Act.put, List.setIfInBounds_toArray, List.set_cons_zero, List.set_cons_succ])
        refine late_free 16 (v := .bool true) rfl (by kernel_rfl) (by kernel_rfl) (by kernel_rfl) (by kernel_rfl) (by kernel_rfl) (by kernel_rfl) (fun _ _ _ h => h) (Or.inl ⟨by rfl, ?_⟩) hHeld ?_
        · (intro u _; go_simp)
        (try simp only [Act.put, List.setIfInBounds_toArray, List.set_cons_zero, List.set_cons_succ])
        refine late_free 17 (v := .bool true) rfl (by kernel_rfl) (by kernel_rfl) (by kernel_rfl) (by kernel_rfl) (by kernel_rfl) (by kernel_rfl) (fun _ _ _ h => h) (Or.inl ⟨by rfl, ?_⟩) hHeld ?_
        · (intro u _; go_simp)
        (try simp only [Act.put, List.setIfInBounds_toArray, List.set_cons_zero, List.set_cons_succ])
        refine late_step 18 (by kernel_rfl) rfl (fun K hK => ?_)
        go_simp
        refine hK.out _ _ ⟨Or.inl ⟨2, by kernel_rfl, by kernel_rfl⟩, Or.inl ⟨2, by kernel_rfl, by kernel_rfl⟩, Or.inl ⟨5, by kernel_rfl, by kernel_rfl⟩, Or.inl ⟨5, by kernel_rfl, by kernel_rfl⟩, Or.inl ⟨11, by kernel_rfl, by kernel_rfl⟩, Or.inl ⟨11, by kernel_rfl, by kernel_rfl⟩, Or.inl ⟨14, by kernel_rfl, by kernel_rfl⟩, Or.inl ⟨14, by kernel_rfl, by kernel_rfl⟩, trivial⟩ ?_
        clear hK K
        (try simp only [Act.put, List.setIfInBounds_toArray, List.set_cons_zero, List.set_cons_succ])
        refine late_done (by kernel_rfl) ?_ _
        clear hHeld
        clear hPres
        clear tm182
        have b := B241
        clear b237 b238 b239 b240 b241 B237 B238 B239 B240 B241
        replace ia := ia.below b
        replace ib := ib.below b
        replace ic := ic.below b
        replace qa := qa.below b
        replace qb := qb.below b
        replace qc := qc.below b
        replace hb := bstep hb b
        clear b
        have HE : Hid (Below w1.heap.size w1 w241) := hb
        clear hb qa qb qc ia ib ic
        go_wp2_with fail
        go_ret
        exact ⟨rfl, HE.out⟩
end Go.Proofs.YtcbfhakolfcmgaaDoor
