/-
 Proved here: what between of package frac answers.
-/
import Derived.Test.YtfnafgjnimfmjaaGreatDoorSimpQAll
import Derived.Test.YtfnafgjnimfmjaaGreatDoorLate2
import Derived.Deep.DeepCutAuto
namespace Go.Proofs.YtfnafgjnimfmjaaGreatDoor
set_option maxRecDepth 100000
set_option maxHeartbeats 12800000
open Go.RowKit
attribute [local go_sem ↓] Go.wp_at_zero Go.wp_at_succ

def NoInt (w : World) (g : Nat) : Prop := ∀ i k z, w.cell? ⟨g, i, none⟩ ≠ some (.int k z)
theorem ECell.noint {w : World} {g : Nat} {n n2 : Bool} {o O : Option Addr} {l c L C : Nat} (h : ECell w g n (.slice o l c) n2 (.slice O L C)) : NoInt w g := by
 intro i k z e
 rw [cell_of_row w g _ _ _ _ h] at e
 match i, e with
 | 0, e => cases e
 | 1, e => cases e
 | 2, e => cases e
 | 3, e => cases e
 | i + 4, e => simp at e
theorem Num.box {w w' : World} {v : Value} {xs : List Nat} {g : Nat} (h : Num w v xs) (hg : NoInt w g) (hw : ∀ b, b ≠ g → w'.heap[b]? = w.heap[b]?) : Num w' v xs := by
 obtain ⟨h0, ao, cap, rfl, h1, h2, h3, h4⟩ := h
 refine ⟨h0, ao, cap, rfl, h1, h2, h3, fun j hj => ?_⟩
 obtain ⟨b, off, e, hc⟩ := h4 j hj
 refine ⟨b, off, e, ?_⟩
 rw [← hc]
 apply World.cell?_of_block
 refine hw b fun e2 => ?_
 subst e2
 exact hg _ _ _ hc
theorem INum.box {w w' : World} {v : Value} {z : Int} {g : Nat} (h : INum w v z) (hg : NoInt w g) (hw : ∀ b, b ≠ g → w'.heap[b]? = w.heap[b]?) : INum w' v z := by
 obtain ⟨neg, ao, l, cap, xs, rfl, h1, h2, h3⟩ := h
 exact ⟨_, _, _, _, _, rfl, h1.box hg hw, h2, h3⟩
theorem EV.box {w w' : World} {v : Value} {x y : Int} {g : Nat} (h : EV w v x y) (hg : NoInt w g) (hw : ∀ b, b ≠ g → w'.heap[b]? = w.heap[b]?) : EV w' v x y := by
 obtain ⟨nr, ro, rl, rc, mr, rO, rL, rC, e, h1, h2⟩ := h
 exact ⟨nr, ro, rl, rc, mr, rO, rL, rC, e, h1.box hg hw, h2.box hg hw⟩
theorem four_other (w : World) (g : Nat) (a b c d : Value) : ∀ k, k ≠ g → ((((w.setCell ⟨g, 0, none⟩ a).setCell ⟨g, 1, none⟩ b).setCell ⟨g, 2, none⟩ c).setCell ⟨g, 3, none⟩ d).heap[k]? = w.heap[k]? := by
 intro k hk
 rw [heap_setCell_other _ _ _ _ hk, heap_setCell_other _ _ _ _ hk, heap_setCell_other _ _ _ _ hk, heap_setCell_other _ _ _ _ hk]
theorem cell_four {w : World} {g b i : Nat} {x y z u : Value} (h : b ≠ g) : ((((w.setCell ⟨g, 0, none⟩ x).setCell ⟨g, 1, none⟩ y).setCell ⟨g, 2, none⟩ z).setCell ⟨g, 3, none⟩ u).cell? ⟨b, i, none⟩ = w.cell? ⟨b, i, none⟩ := World.cell?_of_block (four_other w g x y z u b h)
structure R4 where
 n : Bool
 o : Option Addr
 l : Nat
 c : Nat
 m : Bool
 O : Option Addr
 L : Nat
 C : Nat
def R4.v (r : R4) : Value := .agg #[.bool r.n, .slice r.o r.l r.c, .bool r.m, .slice r.O r.L r.C]
def R4.put (r : R4) (w : World) (g : Nat) : World := (((w.setCell ⟨g, 0, none⟩ (.bool r.n)).setCell ⟨g, 1, none⟩ (.slice r.o r.l r.c)).setCell ⟨g, 2, none⟩ (.bool r.m)).setCell ⟨g, 3, none⟩ (.slice r.O r.L r.C)
def EC (w : World) (g : Nat) (r : R4) : Prop := ECell w g r.n (.slice r.o r.l r.c) r.m (.slice r.O r.L r.C)
theorem EC.below {w w' : World} {g : Nat} {r : R4} (h : EC w g r) (hb : Below w.heap.size w w') : EC w' g r := ECell.below h hb
theorem EC.put {w : World} {g : Nat} {r s : R4} (h : EC w g r) : EC (s.put w g) g s := ECell.write h _ _ _ _
theorem EC.other {w : World} {g g' : Nat} {r s : R4} (h : EC w g r) (hne : g ≠ g') : EC (s.put w g') g r := (((ECell.other h hne _ _).other hne _ _).other hne _ _).other hne _ _
theorem EV.put {w : World} {v : Value} {x y : Int} {g : Nat} {r s : R4} (h : EV w v x y) (hg : EC w g r) : EV (s.put w g) v x y := h.box (ECell.noint hg) (four_other w g _ _ _ _)
theorem below_put {B : Nat} {w w' : World} {g : Nat} {s : R4} (h : Below B w w') (hg : B ≤ g) : Below B w (s.put w' g) := (((h.setCell (p := ⟨g, 0, none⟩) hg _).setCell (p := ⟨g, 1, none⟩) hg _).setCell (p := ⟨g, 2, none⟩) hg _).setCell (p := ⟨g, 3, none⟩) hg _
structure PE (W1 w : World) (v : Nat) : Prop where
 c : EC w v ⟨false, none, 0, 0, false, none, 0, 0⟩
 lt : v < w.heap.size
 ge : W1.heap.size ≤ v
theorem PE.below {W1 w w' : World} {v : Nat} (h : PE W1 w v) (hb : Below w.heap.size w w') : PE W1 w' v := ⟨h.c.below hb, Nat.lt_of_lt_of_le h.lt hb.size, h.ge⟩
theorem new_pe {W1 c : World} (B : Below W1.heap.size W1 c) : ∃ wn v, c.alloc (.cells #[.bool false, .slice none 0 0, .bool false, .slice none 0 0] 58) = wn ∧ c.heap.size = v ∧ PE W1 wn v ∧ Below c.heap.size c wn ∧ Below W1.heap.size W1 wn :=
 ⟨_, _, rfl, rfl, ⟨ecell_new _ rfl, by simp, B.size⟩, belowA _ _, bstep B (belowA _ _)⟩
structure TB (W1 w : World) (vx vy : Nat) (a b : R4) (x y u v : Int) : Prop where
 ne : vx ≠ vy
 gx : W1.heap.size ≤ vx
 gy : W1.heap.size ≤ vy
 ca : EC w vx a
 cb : EC w vy b
 ea : EV w a.v x y
 eb : EV w b.v u v
 bel : Below W1.heap.size W1 w
theorem tb_end {W1 c : World} {vx vy : Nat} {a b : R4} {x y u v : Int} (hx : PE W1 c vx) (hy : PE W1 c vy) (hxy : vx ≠ vy) (ea : EV c a.v x y) (eb : EV c b.v u v) (B : Below W1.heap.size W1 c) : TB W1 (b.put (a.put c vx) vy) vx vy a b x y u v :=
 have hy2 : EC (a.put c vx) vy _ := hy.c.other (Ne.symm hxy)
 ⟨hxy, hx.ge, hy.ge, hx.c.put.other hxy, hy2.put, (ea.put hx.c).put hy2, (eb.put hx.c).put hy2, below_put (below_put B hx.ge) hy.ge⟩
theorem least_ex {P : Nat → Prop} (h : ∃ k, P k) : ∃ k, P k ∧ ∀ j, P j → k ≤ j := by
 obtain ⟨k, hk⟩ := h
 induction k using Nat.strongRecOn with
 | ind k ih =>
  by_cases hl : ∃ j, j < k ∧ P j
  ·
   obtain ⟨j, hj, hp⟩ := hl
   exact ih j hj hp
  ·
   refine ⟨k, hk, fun j hj => ?_⟩
   rcases Nat.lt_or_ge j k with h1 | h1
   · exact absurd ⟨j, h1, hj⟩ hl
   · exact h1
open Classical in
noncomputable def leastK (P : Nat → Prop) : Nat := if h : ∃ k, P k then Classical.choose (least_ex h) else 0
theorem leastK_spec {P : Nat → Prop} (h : ∃ k, P k) : P (leastK P) := by
 unfold leastK; rw [dif_pos h]; exact (Classical.choose_spec (least_ex h)).1
theorem leastK_le {P : Nat → Prop} {j : Nat} (h : P j) : leastK P ≤ j := by
 unfold leastK; rw [dif_pos ⟨j, h⟩]; exact (Classical.choose_spec (least_ex ⟨j, h⟩)).2 j h
structure BS (w : World) (g vx vy vz vu X Y : Nat) (wr : World) (k : Nat) : Prop where
 ex : ∃ (a b c d : R4) (lp lq hp hq lx ly nx ny : Nat), (EC wr vx a ∧ EC wr vy b ∧ EC wr vz c ∧ EC wr vu d) ∧ (EV wr a.v lp lq ∧ EV wr b.v hp hq ∧ EV wr c.v lx ly ∧ EV wr d.v nx ny) ∧
  (0 < lp ∧ 0 < lq ∧ 0 < hq ∧ lp * hq ≤ hp * lq ∧ lq + hq ≤ k) ∧ X = lx * (btw k lp lq hp hq).2 + nx * (btw k lp lq hp hq).1 ∧ Y = ly * (btw k lp lq hp hq).2 + ny * (btw k lp lq hp hq).1
 bel : Below w.heap.size w wr
 res : QCell wr g false (.slice none 0 0) (.slice none 0 0)
theorem qput {w : World} {g g' : Nat} {n : Bool} {m d : Value} {s : R4} (h : QCell w g n m d) (hne : g ≠ g') : QCell (s.put w g') g n m d := (((h.other hne _ _).other hne _ _).other hne _ _).other hne _ _
theorem aend_done {w w3 : World} {g B : Nat} {X Y : Int} {b : Bool} {m d : Value} (hb : b = decide (X < 0)) (hg : w.heap.size ≤ g) (hm : Own B 37 w3 m (lim X.natAbs)) (hd : Own B 37 w3 d (lim Y.natAbs)) (hap : m.ownBlock = none ∨ m.ownBlock ≠ d.ownBlock) (hgB : g < B) (hbel : Below w.heap.size w w3) :
  AEnd w X Y (.returned (.agg #[.bool b, m, d])) (((w3.setCell ⟨g, 0, none⟩ (.bool b)).setCell ⟨g, 1, none⟩ m).setCell ⟨g, 2, none⟩ d) := by
 subst hb
 have hl : w.heap.size ≤ B := Nat.le_trans hg (Nat.le_of_lt hgB)
 exact ⟨m, d, rfl, (((hm.other _ (own_ne hm hgB)).other _ (own_ne hm hgB)).other _ (own_ne hm hgB)).mono hl, (((hd.other _ (own_ne hd hgB)).other _ (own_ne hd hgB)).other _ (own_ne hd hgB)).mono hl, hap, ((hbel.setCell (p := ⟨g, 0, none⟩) hg _).setCell (p := ⟨g, 1, none⟩) hg _).setCell (p := ⟨g, 2, none⟩) hg _⟩
theorem sz_nat {a b L : Nat} (h : a ≤ b) (hs : Sz (b : Int) L) : Sz (a : Int) L := ⟨Nat.lt_of_le_of_lt (by rw [Int.natAbs_natCast, Int.natAbs_natCast]; exact h) hs.lt⟩
theorem EV.sz1 {w : World} {v : Value} {x y : Int} (h : EV w v x y) : Sz x 1000000 ∧ Sz y 1000000 := by
 obtain ⟨_, _, _, _, _, _, _, _, _, h1, h2⟩ := h
 exact ⟨h1.sz, h2.sz⟩
theorem btw_go {k lp lq hp hq lx ly nx ny X Y : Nat} (_ : 0 < lp) (h2 : 0 < lq) (h3 : 0 < hq) (h4 : lp * hq ≤ hp * lq) (h5 : lq + hq ≤ k + 1) (h0 : lp % lq ≠ 0) (h6 : ¬ lp / lq < hp / hq)
  (hX : X = lx * (btw (k + 1) lp lq hp hq).2 + nx * (btw (k + 1) lp lq hp hq).1) (hY : Y = ly * (btw (k + 1) lp lq hp hq).2 + ny * (btw (k + 1) lp lq hp hq).1) :
  (0 < hq ∧ 0 < hp % hq ∧ 0 < lp % lq ∧ hq * (lp % lq) ≤ lq * (hp % hq) ∧ hp % hq + lp % lq ≤ k) ∧
  (X = nx * (btw k hq (hp % hq) lq (lp % lq)).2 + (lx + lp / lq * nx) * (btw k hq (hp % hq) lq (lp % lq)).1 ∧ Y = ny * (btw k hq (hp % hq) lq (lp % lq)).2 + (ly + lp / lq * ny) * (btw k hq (hp % hq) lq (lp % lq)).1) ∧ lp / lq * nx ≤ X ∧ lp / lq * ny ≤ Y := by
 obtain ⟨r1, r2, r3⟩ := btw_rest h2 h3 h4 h0 h6
 have hp0 : 0 < lp % lq := Nat.pos_of_ne_zero h0
 have a1 := Nat.mod_lt lp h2
 have a2 := Nat.mod_lt hp h3
 have hs := btw_simp k hq (hp % hq) lq (lp % lq) h3 r2 hp0 r3 (by omega)
 have hx := hs.xpos h3
 rw [btw_step _ _ _ _ _ h0 h6] at hX hY
 generalize btw k hq (hp % hq) lq (lp % lq) = xy at *
 obtain ⟨x, y⟩ := xy
 simp only at *
 generalize lp / lq = T at *
 have e : ∀ l n : Nat, l * x + n * (T * x + y) = n * y + (l + T * n) * x := by
  intro l n
  rw [Nat.mul_add, Nat.add_mul]
  have : n * (T * x) = T * n * x := by rw [← Nat.mul_assoc, Nat.mul_comm n T]
  omega
 refine ⟨⟨h3, r2, hp0, r3, by omega⟩, ⟨by rw [hX]; exact e lx nx, by rw [hY]; exact e ly ny⟩, ?_, ?_⟩
 ·
  rw [hX, e]
  have b1 : (lx + T * nx) * 1 ≤ (lx + T * nx) * x := Nat.mul_le_mul_left _ hx
  omega
 ·
  rw [hY, e]
  have b1 : (ly + T * ny) * 1 ≤ (ly + T * ny) * x := Nat.mul_le_mul_left _ hx
  omega
theorem fq_nat (a b : Nat) (hb : 0 < b) : fq (a : Int) (b : Int) = ((a / b : Nat) : Int) ∧ fr (a : Int) (b : Int) = ((a % b : Nat) : Int) := by
 have h1 : rz (a : Int) (b : Int) = ((a % b : Nat) : Int) := by unfold rz; rw [if_neg (by omega)]; rfl
 have h2 : ¬ fup (a : Int) (b : Int) := by
  unfold fup
  rw [h1]
  have c1 : cmpZ (b : Int) 0 = 1 := by unfold cmpZ; rw [if_neg (by omega), if_neg (by omega)]
  rw [c1, Int.mul_one]
  unfold cmpZ
  rw [if_neg (by omega)]
  split <;> decide
 unfold fq fr
 rw [if_neg h2, if_neg h2, h1]
 exact ⟨rfl, rfl⟩
theorem c_between (na : Bool) (ao aO : Option Addr) (al ac aL aC : Nat) (nb : Bool) (bo bO : Option Addr) (bl bc bL bC : Nat) {p r : Int} {q k : Nat} {w : World} (P Q R S X Y : Nat) (hp : p = P ∧ und q = Q ∧ r = R ∧ und k = S) (hn : 0 < P ∧ 0 < Q ∧ 0 < S ∧ P * S ≤ R * Q) (hXY : X = (btw (Q + S) P Q R S).1 ∧ Y = (btw (Q + S) P Q R S).2) (hsX : Sz (X : Int) 1000000 ∧ Sz (Y : Int) 1000000) (ia : INum w (.agg #[.bool na, .slice ao al ac]) p) (ib : INum w (.agg #[.bool nb, .slice bo bl bc]) r) (ra : RRaw w (.agg #[.bool na, .slice ao al ac, .slice aO aL aC]) p q) (rb : RRaw w (.agg #[.bool nb, .slice bo bl bc, .slice bO bL bC]) r k) :
  Calls Tryz.prog 39 #[.agg #[.bool na, .slice ao al ac, .slice aO aL aC], .agg #[.bool nb, .slice bo bl bc, .slice bO bL bC]] w fun e w' => AEnd w X Y e w' := by
 obtain ⟨K, hK⟩ : ∃ K, K = Q + S := ⟨_, rfl⟩
 have HXY : Hid (X = (btw K P Q R S).1 ∧ Y = (btw K P Q R S).2) := by rw [hK]; exact hXY
 have HN : Hid (0 < P ∧ 0 < Q ∧ 0 < S ∧ P * S ≤ R * Q ∧ Q + S ≤ K) := ⟨hn.1, hn.2.1, hn.2.2.1, hn.2.2.2, by omega⟩
 have HP : Hid (p = P ∧ und q = Q ∧ r = R ∧ und k = S) := hp
 have HSX : Hid (Sz (X : Int) 1000000 ∧ Sz (Y : Int) 1000000) := hsX
 clear hK hXY hn hp hsX
 obtain ⟨W1, hW1⟩ : ∃ W1, W1 = ((w.alloc (.cells #[.bool na, .slice ao al ac, .slice aO aL aC] 27)).alloc (.cells #[.bool nb, .slice bo bl bc, .slice bO bL bC] 27)).alloc (.cells #[.bool false, .slice none 0 0, .slice none 0 0] 27) := ⟨_, rfl⟩
 have qa : QCell W1 (w.heap.size) na (.slice ao al ac) (.slice aO aL aC) := by rw [hW1]; exact (qcell_step (qcell_step (qcell_new _ (by simp))))
 have qb : QCell W1 (w.heap.size + 1) nb (.slice bo bl bc) (.slice bO bL bC) := by rw [hW1]; exact (qcell_step (qcell_new _ (by simp)))
 have qR : QCell W1 (w.heap.size + 1 + 1) false (.slice none 0 0) (.slice none 0 0) := by rw [hW1]; exact (qcell_new _ (by simp))
 have hb : Below w.heap.size w W1 := by rw [hW1]; exact bstep (bstep (belowA w _) (belowA _ _)) (belowA _ _)
 have hsz : w.heap.size + 1 + 1 < W1.heap.size := by rw [hW1]; simp
 replace ia := ia.below hb
 replace ib := ib.below hb
 replace ra := ra.below hb
 replace rb := rb.below hb
 have HW1 : Hid (W1 = ((w.alloc (.cells #[.bool na, .slice ao al ac, .slice aO aL aC] 27)).alloc (.cells #[.bool nb, .slice bo bl bc, .slice bO bL bC] 27)).alloc (.cells #[.bool false, .slice none 0 0, .slice none 0 0] 27)) := hW1
 clear hW1
 go_enter Tryz.func39, Tryz.ntmps39
 go_wp2_with fail
 rw [← HW1.out]
 clear HW1
 obtain ⟨g, hg⟩ : ∃ g, g = w.heap.size := ⟨_, rfl⟩
 rw [← hg] at qa qb qR hsz ⊢
 have HG : Hid (g = w.heap.size) := hg
 clear hg
 obtain ⟨cqa0, cqa1, cqa2⟩ := qa.cells
 obtain ⟨cqb0, cqb1, cqb2⟩ := qb.cells
 obtain ⟨cqR0, cqR1, cqR2⟩ := qR.cells
 go_wp2_with fail
 clear cqa0 cqa1 cqa2 cqb0 cqb1 cqb2 cqR0 cqR1 cqR2
 go_cut [5, 6] (fun t5 t6 wx => ∃ vx vy a b, t5 = .pointer (some ⟨vx, 0, none⟩) ∧ t6 = .pointer (some ⟨vy, 0, none⟩) ∧ TB W1 wx vx vy a b p (und q) r (und k))
 case first =>
  have KEEP : ∀ u, Below W1.heap.size W1 u → L2.AllL u [(1, fun w' => w'.cell? ⟨g, 0, none⟩ = some (.bool na) ∧ w'.cell? ⟨g, 1, none⟩ = some (.slice ao al ac)), (2, fun w' => w'.cell? ⟨g, 0, none⟩ = some (.bool na) ∧ w'.cell? ⟨g, 1, none⟩ = some (.slice ao al ac) ∧ w'.cell? ⟨g, 2, none⟩ = some (.slice aO aL aC)), (6, fun w' => w'.cell? ⟨g + 1, 0, none⟩ = some (.bool nb) ∧ w'.cell? ⟨g + 1, 1, none⟩ = some (.slice bo bl bc)), (7, fun w' => w'.cell? ⟨g + 1, 0, none⟩ = some (.bool nb) ∧ w'.cell? ⟨g + 1, 1, none⟩ = some (.slice bo bl bc) ∧ w'.cell? ⟨g + 1, 2, none⟩ = some (.slice bO bL bC))] := fun u B => ⟨⟨(qa.below B).cells.1, (qa.below B).cells.2.1⟩, (qa.below B).cells, ⟨(qb.below B).cells.1, (qb.below B).cells.2.1⟩, (qb.below B).cells, trivial⟩
  refine L2.region_late [(1, fun w' => w'.cell? ⟨g, 0, none⟩ = some (.bool na) ∧ w'.cell? ⟨g, 1, none⟩ = some (.slice ao al ac)), (2, fun w' => w'.cell? ⟨g, 0, none⟩ = some (.bool na) ∧ w'.cell? ⟨g, 1, none⟩ = some (.slice ao al ac) ∧ w'.cell? ⟨g, 2, none⟩ = some (.slice aO aL aC)), (6, fun w' => w'.cell? ⟨g + 1, 0, none⟩ = some (.bool nb) ∧ w'.cell? ⟨g + 1, 1, none⟩ = some (.slice bo bl bc)), (7, fun w' => w'.cell? ⟨g + 1, 0, none⟩ = some (.bool nb) ∧ w'.cell? ⟨g + 1, 1, none⟩ = some (.slice bo bl bc) ∧ w'.cell? ⟨g + 1, 2, none⟩ = some (.slice bO bL bC))] (by kernel_rfl) ?_
  have B0 : Below W1.heap.size W1 W1.drew := below_drew' _
  obtain ⟨w0, hw0⟩ : ∃ u, u = W1.drew := ⟨_, rfl⟩
  rw [← hw0] at B0 ⊢
  clear hw0
  have hHeld := KEEP _ B0
  replace ia := ia.below B0
  replace ib := ib.below B0
  replace ra := ra.below B0
  replace rb := rb.below B0
  refine L2.late_fr 0 (v := .pointer (some ⟨g, 0, none⟩)) rfl (Or.inl ⟨by rfl, ?_⟩) hHeld ?_
  · (intro u _; go_simp)
  try simp only [pu1, pu2, pu3, pu4]
  refine L2.late_tk 1 (v := .agg #[.bool na, .slice ao al ac]) rfl (List.Mem.head _) (Or.inl ⟨by rfl, ?_⟩) hHeld ?_
  · (intro u hu; (try dsimp only at hu); go_split_ands; go_simp)
  try simp only [pu1, pu2, pu3, pu4]
  refine L2.late_tk 2 (v := .agg #[.bool na, .slice ao al ac, .slice aO aL aC]) rfl (List.Mem.tail _ (List.Mem.head _)) (Or.inl ⟨by rfl, ?_⟩) hHeld ?_
  · (intro u hu; (try dsimp only at hu); go_split_ands; go_simp)
  try simp only [pu1, pu2, pu3, pu4]
  refine L2.late_fr 5 (v := .pointer (some ⟨g + 1, 0, none⟩)) rfl (Or.inl ⟨by rfl, ?_⟩) hHeld ?_
  · (intro u _; go_simp)
  try simp only [pu1, pu2, pu3, pu4]
  refine L2.late_tk 6 (v := .agg #[.bool nb, .slice bo bl bc]) rfl (List.Mem.tail _ (List.Mem.tail _ (List.Mem.head _))) (Or.inl ⟨by rfl, ?_⟩) hHeld ?_
  · (intro u hu; (try dsimp only at hu); go_split_ands; go_simp)
  try simp only [pu1, pu2, pu3, pu4]
  refine L2.late_tk 7 (v := .agg #[.bool nb, .slice bo bl bc, .slice bO bL bC]) rfl (List.Mem.tail _ (List.Mem.tail _ (List.Mem.tail _ (List.Mem.head _)))) (Or.inl ⟨by rfl, ?_⟩) hHeld ?_
  · (intro u hu; (try dsimp only at hu); go_split_ands; go_simp)
  try simp only [pu1, pu2, pu3, pu4]
  refine L2.late_three 3 10 11 (by kernel_rfl) rfl rfl rfl (fun K hK => ?t53) (fun K hK => ?t54) (fun K hK => ?t55)
  case' t53 =>
   go_simp
   refine (c_under ra).mono ?_
   rintro e w2 ⟨v, rfl, iu, b2⟩
   obtain ⟨un, uo, ul, uc, rfl, iu⟩ := iu.see
   clear ra
   replace ia := ia.below b2
   replace ib := ib.below b2
   replace rb := rb.below b2
   have B2 : Below W1.heap.size W1 w2 := bstep B0 b2
   clear b2
   replace hHeld := KEEP _ B2
   go_wp2_with fail
   refine hK.out _ _ (L2.AllL.kept hHeld) ?_
   clear hK K
   try simp only [pu1, pu2, pu3, pu4]
   refine L2.late_fr 4 (v := .agg #[.bool na, .slice ao al ac, .bool un, .slice uo ul uc]) rfl (Or.inl ⟨by rfl, ?_⟩) hHeld ?_
   · (intro u _; go_simp)
   try simp only [pu1, pu2, pu3, pu4]
   refine L2.late_three 8 10 11 (by kernel_rfl) rfl rfl rfl (fun K hK => ?t24) (fun K hK => ?t25) (fun K hK => ?t26)
   case' t24 =>
    go_simp
    refine (c_under rb).mono ?_
    rintro e w3 ⟨v, rfl, iv, b3⟩
    obtain ⟨vn, vo, vl, vc, rfl, iv⟩ := iv.see
    clear rb
    replace ia := ia.below b3
    replace ib := ib.below b3
    replace iu := iu.below b3
    have B3 : Below W1.heap.size W1 w3 := bstep B2 b3
    clear b3
    replace hHeld := KEEP _ B3
    go_wp2_with fail
    refine hK.out _ _ (L2.AllL.kept hHeld) ?_
    clear hK K
    try simp only [pu1, pu2, pu3, pu4]
    refine L2.late_fr 9 (v := .agg #[.bool nb, .slice bo bl bc, .bool vn, .slice vo vl vc]) rfl (Or.inl ⟨by rfl, ?_⟩) hHeld ?_
    · (intro u _; go_simp)
    try simp only [pu1, pu2, pu3, pu4]
    refine L2.late_two 10 11 (by kernel_rfl) rfl rfl (fun K hK => ?t8) (fun K hK => ?t9)
    case' t8 =>
     go_simp
     obtain ⟨w4, vx, hw, hv, pvx, b4, B4⟩ := new_pe B3
     rw [hw, hv]
     clear hw hv
     replace ia := ia.below b4
     replace ib := ib.below b4
     replace iu := iu.below b4
     replace iv := iv.below b4
     clear b4
     replace hHeld := KEEP _ B4
     refine hK.out _ _ (L2.AllL.kept hHeld) ?_
     clear hK K
     try simp only [pu1, pu2, pu3, pu4]
     refine L2.late_st 11 rfl (fun K hK => ?_)
     go_simp
     obtain ⟨w5, vy, hw, hv, pvy, b5, B5⟩ := new_pe B4
     rw [hw, hv]
     have hxy : vx ≠ vy := by have := pvx.lt; omega
     clear hw hv
     replace ia := ia.below b5
     replace ib := ib.below b5
     replace iu := iu.below b5
     replace iv := iv.below b5
     replace pvx := pvx.below b5
     clear b5
     replace hHeld := KEEP _ B5
     refine hK.out _ _ (L2.AllL.kept hHeld) ?_
     clear hK K
     try simp only [pu1, pu2, pu3, pu4]
     have Bz := B5
     obtain ⟨wl, rfl⟩ : ∃ u, u = w5 := ⟨_, rfl⟩
    case' t9 =>
     go_simp
     obtain ⟨w6, vy, hw, hv, pvy, b6, B6⟩ := new_pe B3
     rw [hw, hv]
     clear hw hv
     replace ia := ia.below b6
     replace ib := ib.below b6
     replace iu := iu.below b6
     replace iv := iv.below b6
     clear b6
     replace hHeld := KEEP _ B6
     refine hK.out _ _ (L2.AllL.kept hHeld) ?_
     clear hK K
     try simp only [pu1, pu2, pu3, pu4]
     refine L2.late_st 10 rfl (fun K hK => ?_)
     go_simp
     obtain ⟨w7, vx, hw, hv, pvx, b7, B7⟩ := new_pe B6
     rw [hw, hv]
     have hxy : vx ≠ vy := by have := pvy.lt; omega
     clear hw hv
     replace ia := ia.below b7
     replace ib := ib.below b7
     replace iu := iu.below b7
     replace iv := iv.below b7
     replace pvy := pvy.below b7
     clear b7
     replace hHeld := KEEP _ B7
     refine hK.out _ _ (L2.AllL.kept hHeld) ?_
     clear hK K
     try simp only [pu1, pu2, pu3, pu4]
     have Bz := B7
     obtain ⟨wl, rfl⟩ : ∃ u, u = w7 := ⟨_, rfl⟩
   case' t25 =>
    go_simp
    obtain ⟨w10, vx, hw, hv, pvx, b10, B10⟩ := new_pe B2
    rw [hw, hv]
    clear hw hv
    replace ia := ia.below b10
    replace ib := ib.below b10
    replace rb := rb.below b10
    replace iu := iu.below b10
    clear b10
    replace hHeld := KEEP _ B10
    refine hK.out _ _ (L2.AllL.kept hHeld) ?_
    clear hK K
    try simp only [pu1, pu2, pu3, pu4]
    refine L2.late_two 8 11 (by kernel_rfl) rfl rfl (fun K hK => ?t15) (fun K hK => ?t16)
    case' t15 =>
     go_simp
     refine (c_under rb).mono ?_
     rintro e w11 ⟨v, rfl, iv, b11⟩
     obtain ⟨vn, vo, vl, vc, rfl, iv⟩ := iv.see
     clear rb
     replace ia := ia.below b11
     replace ib := ib.below b11
     replace iu := iu.below b11
     replace pvx := pvx.below b11
     have B11 : Below W1.heap.size W1 w11 := bstep B10 b11
     clear b11
     replace hHeld := KEEP _ B11
     go_wp2_with fail
     refine hK.out _ _ (L2.AllL.kept hHeld) ?_
     clear hK K
     try simp only [pu1, pu2, pu3, pu4]
     refine L2.late_fr 9 (v := .agg #[.bool nb, .slice bo bl bc, .bool vn, .slice vo vl vc]) rfl (Or.inl ⟨by rfl, ?_⟩) hHeld ?_
     · (intro u _; go_simp)
     try simp only [pu1, pu2, pu3, pu4]
     refine L2.late_st 11 rfl (fun K hK => ?_)
     go_simp
     obtain ⟨w12, vy, hw, hv, pvy, b12, B12⟩ := new_pe B11
     rw [hw, hv]
     have hxy : vx ≠ vy := by have := pvx.lt; omega
     clear hw hv
     replace ia := ia.below b12
     replace ib := ib.below b12
     replace iu := iu.below b12
     replace iv := iv.below b12
     replace pvx := pvx.below b12
     clear b12
     replace hHeld := KEEP _ B12
     refine hK.out _ _ (L2.AllL.kept hHeld) ?_
     clear hK K
     try simp only [pu1, pu2, pu3, pu4]
     have Bz := B12
     obtain ⟨wl, rfl⟩ : ∃ u, u = w12 := ⟨_, rfl⟩
    case' t16 =>
     go_simp
     obtain ⟨w13, vy, hw, hv, pvy, b13, B13⟩ := new_pe B10
     rw [hw, hv]
     have hxy : vx ≠ vy := by have := pvx.lt; omega
     clear hw hv
     replace ia := ia.below b13
     replace ib := ib.below b13
     replace rb := rb.below b13
     replace iu := iu.below b13
     replace pvx := pvx.below b13
     clear b13
     replace hHeld := KEEP _ B13
     refine hK.out _ _ (L2.AllL.kept hHeld) ?_
     clear hK K
     try simp only [pu1, pu2, pu3, pu4]
     refine L2.late_st 8 rfl (fun K hK => ?_)
     go_simp
     refine (c_under rb).mono ?_
     rintro e w14 ⟨v, rfl, iv, b14⟩
     obtain ⟨vn, vo, vl, vc, rfl, iv⟩ := iv.see
     clear rb
     replace ia := ia.below b14
     replace ib := ib.below b14
     replace iu := iu.below b14
     replace pvx := pvx.below b14
     replace pvy := pvy.below b14
     have B14 : Below W1.heap.size W1 w14 := bstep B13 b14
     clear b14
     replace hHeld := KEEP _ B14
     go_wp2_with fail
     refine hK.out _ _ (L2.AllL.kept hHeld) ?_
     clear hK K
     try simp only [pu1, pu2, pu3, pu4]
     refine L2.late_fr 9 (v := .agg #[.bool nb, .slice bo bl bc, .bool vn, .slice vo vl vc]) rfl (Or.inl ⟨by rfl, ?_⟩) hHeld ?_
     · (intro u _; go_simp)
     try simp only [pu1, pu2, pu3, pu4]
     have Bz := B14
     obtain ⟨wl, rfl⟩ : ∃ u, u = w14 := ⟨_, rfl⟩
   case' t26 =>
    go_simp
    obtain ⟨w17, vy, hw, hv, pvy, b17, B17⟩ := new_pe B2
    rw [hw, hv]
    clear hw hv
    replace ia := ia.below b17
    replace ib := ib.below b17
    replace rb := rb.below b17
    replace iu := iu.below b17
    clear b17
    replace hHeld := KEEP _ B17
    refine hK.out _ _ (L2.AllL.kept hHeld) ?_
    clear hK K
    try simp only [pu1, pu2, pu3, pu4]
    refine L2.late_two 8 10 (by kernel_rfl) rfl rfl (fun K hK => ?t22) (fun K hK => ?t23)
    case' t22 =>
     go_simp
     refine (c_under rb).mono ?_
     rintro e w18 ⟨v, rfl, iv, b18⟩
     obtain ⟨vn, vo, vl, vc, rfl, iv⟩ := iv.see
     clear rb
     replace ia := ia.below b18
     replace ib := ib.below b18
     replace iu := iu.below b18
     replace pvy := pvy.below b18
     have B18 : Below W1.heap.size W1 w18 := bstep B17 b18
     clear b18
     replace hHeld := KEEP _ B18
     go_wp2_with fail
     refine hK.out _ _ (L2.AllL.kept hHeld) ?_
     clear hK K
     try simp only [pu1, pu2, pu3, pu4]
     refine L2.late_fr 9 (v := .agg #[.bool nb, .slice bo bl bc, .bool vn, .slice vo vl vc]) rfl (Or.inl ⟨by rfl, ?_⟩) hHeld ?_
     · (intro u _; go_simp)
     try simp only [pu1, pu2, pu3, pu4]
     refine L2.late_st 10 rfl (fun K hK => ?_)
     go_simp
     obtain ⟨w19, vx, hw, hv, pvx, b19, B19⟩ := new_pe B18
     rw [hw, hv]
     have hxy : vx ≠ vy := by have := pvy.lt; omega
     clear hw hv
     replace ia := ia.below b19
     replace ib := ib.below b19
     replace iu := iu.below b19
     replace iv := iv.below b19
     replace pvy := pvy.below b19
     clear b19
     replace hHeld := KEEP _ B19
     refine hK.out _ _ (L2.AllL.kept hHeld) ?_
     clear hK K
     try simp only [pu1, pu2, pu3, pu4]
     have Bz := B19
     obtain ⟨wl, rfl⟩ : ∃ u, u = w19 := ⟨_, rfl⟩
    case' t23 =>
     go_simp
     obtain ⟨w20, vx, hw, hv, pvx, b20, B20⟩ := new_pe B17
     rw [hw, hv]
     have hxy : vx ≠ vy := by have := pvy.lt; omega
     clear hw hv
     replace ia := ia.below b20
     replace ib := ib.below b20
     replace rb := rb.below b20
     replace iu := iu.below b20
     replace pvy := pvy.below b20
     clear b20
     replace hHeld := KEEP _ B20
     refine hK.out _ _ (L2.AllL.kept hHeld) ?_
     clear hK K
     try simp only [pu1, pu2, pu3, pu4]
     refine L2.late_st 8 rfl (fun K hK => ?_)
     go_simp
     refine (c_under rb).mono ?_
     rintro e w21 ⟨v, rfl, iv, b21⟩
     obtain ⟨vn, vo, vl, vc, rfl, iv⟩ := iv.see
     clear rb
     replace ia := ia.below b21
     replace ib := ib.below b21
     replace iu := iu.below b21
     replace pvy := pvy.below b21
     replace pvx := pvx.below b21
     have B21 : Below W1.heap.size W1 w21 := bstep B20 b21
     clear b21
     replace hHeld := KEEP _ B21
     go_wp2_with fail
     refine hK.out _ _ (L2.AllL.kept hHeld) ?_
     clear hK K
     try simp only [pu1, pu2, pu3, pu4]
     refine L2.late_fr 9 (v := .agg #[.bool nb, .slice bo bl bc, .bool vn, .slice vo vl vc]) rfl (Or.inl ⟨by rfl, ?_⟩) hHeld ?_
     · (intro u _; go_simp)
     try simp only [pu1, pu2, pu3, pu4]
     have Bz := B21
     obtain ⟨wl, rfl⟩ : ∃ u, u = w21 := ⟨_, rfl⟩
  case' t54 =>
   go_simp
   obtain ⟨w27, vx, hw, hv, pvx, b27, B27⟩ := new_pe B0
   rw [hw, hv]
   clear hw hv
   replace ia := ia.below b27
   replace ib := ib.below b27
   replace ra := ra.below b27
   replace rb := rb.below b27
   clear b27
   replace hHeld := KEEP _ B27
   refine hK.out _ _ (L2.AllL.kept hHeld) ?_
   clear hK K
   try simp only [pu1, pu2, pu3, pu4]
   refine L2.late_two 3 11 (by kernel_rfl) rfl rfl (fun K hK => ?t38) (fun K hK => ?t39)
   case' t38 =>
    go_simp
    refine (c_under ra).mono ?_
    rintro e w28 ⟨v, rfl, iu, b28⟩
    obtain ⟨un, uo, ul, uc, rfl, iu⟩ := iu.see
    clear ra
    replace ia := ia.below b28
    replace ib := ib.below b28
    replace rb := rb.below b28
    replace pvx := pvx.below b28
    have B28 : Below W1.heap.size W1 w28 := bstep B27 b28
    clear b28
    replace hHeld := KEEP _ B28
    go_wp2_with fail
    refine hK.out _ _ (L2.AllL.kept hHeld) ?_
    clear hK K
    try simp only [pu1, pu2, pu3, pu4]
    refine L2.late_fr 4 (v := .agg #[.bool na, .slice ao al ac, .bool un, .slice uo ul uc]) rfl (Or.inl ⟨by rfl, ?_⟩) hHeld ?_
    · (intro u _; go_simp)
    try simp only [pu1, pu2, pu3, pu4]
    refine L2.late_two 8 11 (by kernel_rfl) rfl rfl (fun K hK => ?t33) (fun K hK => ?t34)
    case' t33 =>
     go_simp
     refine (c_under rb).mono ?_
     rintro e w29 ⟨v, rfl, iv, b29⟩
     obtain ⟨vn, vo, vl, vc, rfl, iv⟩ := iv.see
     clear rb
     replace ia := ia.below b29
     replace ib := ib.below b29
     replace iu := iu.below b29
     replace pvx := pvx.below b29
     have B29 : Below W1.heap.size W1 w29 := bstep B28 b29
     clear b29
     replace hHeld := KEEP _ B29
     go_wp2_with fail
     refine hK.out _ _ (L2.AllL.kept hHeld) ?_
     clear hK K
     try simp only [pu1, pu2, pu3, pu4]
     refine L2.late_fr 9 (v := .agg #[.bool nb, .slice bo bl bc, .bool vn, .slice vo vl vc]) rfl (Or.inl ⟨by rfl, ?_⟩) hHeld ?_
     · (intro u _; go_simp)
     try simp only [pu1, pu2, pu3, pu4]
     refine L2.late_st 11 rfl (fun K hK => ?_)
     go_simp
     obtain ⟨w30, vy, hw, hv, pvy, b30, B30⟩ := new_pe B29
     rw [hw, hv]
     have hxy : vx ≠ vy := by have := pvx.lt; omega
     clear hw hv
     replace ia := ia.below b30
     replace ib := ib.below b30
     replace iu := iu.below b30
     replace iv := iv.below b30
     replace pvx := pvx.below b30
     clear b30
     replace hHeld := KEEP _ B30
     refine hK.out _ _ (L2.AllL.kept hHeld) ?_
     clear hK K
     try simp only [pu1, pu2, pu3, pu4]
     have Bz := B30
     obtain ⟨wl, rfl⟩ : ∃ u, u = w30 := ⟨_, rfl⟩
    case' t34 =>
     go_simp
     obtain ⟨w31, vy, hw, hv, pvy, b31, B31⟩ := new_pe B28
     rw [hw, hv]
     have hxy : vx ≠ vy := by have := pvx.lt; omega
     clear hw hv
     replace ia := ia.below b31
     replace ib := ib.below b31
     replace rb := rb.below b31
     replace iu := iu.below b31
     replace pvx := pvx.below b31
     clear b31
     replace hHeld := KEEP _ B31
     refine hK.out _ _ (L2.AllL.kept hHeld) ?_
     clear hK K
     try simp only [pu1, pu2, pu3, pu4]
     refine L2.late_st 8 rfl (fun K hK => ?_)
     go_simp
     refine (c_under rb).mono ?_
     rintro e w32 ⟨v, rfl, iv, b32⟩
     obtain ⟨vn, vo, vl, vc, rfl, iv⟩ := iv.see
     clear rb
     replace ia := ia.below b32
     replace ib := ib.below b32
     replace iu := iu.below b32
     replace pvx := pvx.below b32
     replace pvy := pvy.below b32
     have B32 : Below W1.heap.size W1 w32 := bstep B31 b32
     clear b32
     replace hHeld := KEEP _ B32
     go_wp2_with fail
     refine hK.out _ _ (L2.AllL.kept hHeld) ?_
     clear hK K
     try simp only [pu1, pu2, pu3, pu4]
     refine L2.late_fr 9 (v := .agg #[.bool nb, .slice bo bl bc, .bool vn, .slice vo vl vc]) rfl (Or.inl ⟨by rfl, ?_⟩) hHeld ?_
     · (intro u _; go_simp)
     try simp only [pu1, pu2, pu3, pu4]
     have Bz := B32
     obtain ⟨wl, rfl⟩ : ∃ u, u = w32 := ⟨_, rfl⟩
   case' t39 =>
    go_simp
    obtain ⟨w35, vy, hw, hv, pvy, b35, B35⟩ := new_pe B27
    rw [hw, hv]
    have hxy : vx ≠ vy := by have := pvx.lt; omega
    clear hw hv
    replace ia := ia.below b35
    replace ib := ib.below b35
    replace ra := ra.below b35
    replace rb := rb.below b35
    replace pvx := pvx.below b35
    clear b35
    replace hHeld := KEEP _ B35
    refine hK.out _ _ (L2.AllL.kept hHeld) ?_
    clear hK K
    try simp only [pu1, pu2, pu3, pu4]
    refine L2.late_st 3 rfl (fun K hK => ?_)
    go_simp
    refine (c_under ra).mono ?_
    rintro e w36 ⟨v, rfl, iu, b36⟩
    obtain ⟨un, uo, ul, uc, rfl, iu⟩ := iu.see
    clear ra
    replace ia := ia.below b36
    replace ib := ib.below b36
    replace rb := rb.below b36
    replace pvx := pvx.below b36
    replace pvy := pvy.below b36
    have B36 : Below W1.heap.size W1 w36 := bstep B35 b36
    clear b36
    replace hHeld := KEEP _ B36
    go_wp2_with fail
    refine hK.out _ _ (L2.AllL.kept hHeld) ?_
    clear hK K
    try simp only [pu1, pu2, pu3, pu4]
    refine L2.late_fr 4 (v := .agg #[.bool na, .slice ao al ac, .bool un, .slice uo ul uc]) rfl (Or.inl ⟨by rfl, ?_⟩) hHeld ?_
    · (intro u _; go_simp)
    try simp only [pu1, pu2, pu3, pu4]
    refine L2.late_st 8 rfl (fun K hK => ?_)
    go_simp
    refine (c_under rb).mono ?_
    rintro e w37 ⟨v, rfl, iv, b37⟩
    obtain ⟨vn, vo, vl, vc, rfl, iv⟩ := iv.see
    clear rb
    replace ia := ia.below b37
    replace ib := ib.below b37
    replace iu := iu.below b37
    replace pvx := pvx.below b37
    replace pvy := pvy.below b37
    have B37 : Below W1.heap.size W1 w37 := bstep B36 b37
    clear b37
    replace hHeld := KEEP _ B37
    go_wp2_with fail
    refine hK.out _ _ (L2.AllL.kept hHeld) ?_
    clear hK K
    try simp only [pu1, pu2, pu3, pu4]
    refine L2.late_fr 9 (v := .agg #[.bool nb, .slice bo bl bc, .bool vn, .slice vo vl vc]) rfl (Or.inl ⟨by rfl, ?_⟩) hHeld ?_
    · (intro u _; go_simp)
    try simp only [pu1, pu2, pu3, pu4]
    have Bz := B37
    obtain ⟨wl, rfl⟩ : ∃ u, u = w37 := ⟨_, rfl⟩
  case' t55 =>
   go_simp
   obtain ⟨w40, vy, hw, hv, pvy, b40, B40⟩ := new_pe B0
   rw [hw, hv]
   clear hw hv
   replace ia := ia.below b40
   replace ib := ib.below b40
   replace ra := ra.below b40
   replace rb := rb.below b40
   clear b40
   replace hHeld := KEEP _ B40
   refine hK.out _ _ (L2.AllL.kept hHeld) ?_
   clear hK K
   try simp only [pu1, pu2, pu3, pu4]
   refine L2.late_two 3 10 (by kernel_rfl) rfl rfl (fun K hK => ?t51) (fun K hK => ?t52)
   case' t51 =>
    go_simp
    refine (c_under ra).mono ?_
    rintro e w41 ⟨v, rfl, iu, b41⟩
    obtain ⟨un, uo, ul, uc, rfl, iu⟩ := iu.see
    clear ra
    replace ia := ia.below b41
    replace ib := ib.below b41
    replace rb := rb.below b41
    replace pvy := pvy.below b41
    have B41 : Below W1.heap.size W1 w41 := bstep B40 b41
    clear b41
    replace hHeld := KEEP _ B41
    go_wp2_with fail
    refine hK.out _ _ (L2.AllL.kept hHeld) ?_
    clear hK K
    try simp only [pu1, pu2, pu3, pu4]
    refine L2.late_fr 4 (v := .agg #[.bool na, .slice ao al ac, .bool un, .slice uo ul uc]) rfl (Or.inl ⟨by rfl, ?_⟩) hHeld ?_
    · (intro u _; go_simp)
    try simp only [pu1, pu2, pu3, pu4]
    refine L2.late_two 8 10 (by kernel_rfl) rfl rfl (fun K hK => ?t46) (fun K hK => ?t47)
    case' t46 =>
     go_simp
     refine (c_under rb).mono ?_
     rintro e w42 ⟨v, rfl, iv, b42⟩
     obtain ⟨vn, vo, vl, vc, rfl, iv⟩ := iv.see
     clear rb
     replace ia := ia.below b42
     replace ib := ib.below b42
     replace iu := iu.below b42
     replace pvy := pvy.below b42
     have B42 : Below W1.heap.size W1 w42 := bstep B41 b42
     clear b42
     replace hHeld := KEEP _ B42
     go_wp2_with fail
     refine hK.out _ _ (L2.AllL.kept hHeld) ?_
     clear hK K
     try simp only [pu1, pu2, pu3, pu4]
     refine L2.late_fr 9 (v := .agg #[.bool nb, .slice bo bl bc, .bool vn, .slice vo vl vc]) rfl (Or.inl ⟨by rfl, ?_⟩) hHeld ?_
     · (intro u _; go_simp)
     try simp only [pu1, pu2, pu3, pu4]
     refine L2.late_st 10 rfl (fun K hK => ?_)
     go_simp
     obtain ⟨w43, vx, hw, hv, pvx, b43, B43⟩ := new_pe B42
     rw [hw, hv]
     have hxy : vx ≠ vy := by have := pvy.lt; omega
     clear hw hv
     replace ia := ia.below b43
     replace ib := ib.below b43
     replace iu := iu.below b43
     replace iv := iv.below b43
     replace pvy := pvy.below b43
     clear b43
     replace hHeld := KEEP _ B43
     refine hK.out _ _ (L2.AllL.kept hHeld) ?_
     clear hK K
     try simp only [pu1, pu2, pu3, pu4]
     have Bz := B43
     obtain ⟨wl, rfl⟩ : ∃ u, u = w43 := ⟨_, rfl⟩
    case' t47 =>
     go_simp
     obtain ⟨w44, vx, hw, hv, pvx, b44, B44⟩ := new_pe B41
     rw [hw, hv]
     have hxy : vx ≠ vy := by have := pvy.lt; omega
     clear hw hv
     replace ia := ia.below b44
     replace ib := ib.below b44
     replace rb := rb.below b44
     replace iu := iu.below b44
     replace pvy := pvy.below b44
     clear b44
     replace hHeld := KEEP _ B44
     refine hK.out _ _ (L2.AllL.kept hHeld) ?_
     clear hK K
     try simp only [pu1, pu2, pu3, pu4]
     refine L2.late_st 8 rfl (fun K hK => ?_)
     go_simp
     refine (c_under rb).mono ?_
     rintro e w45 ⟨v, rfl, iv, b45⟩
     obtain ⟨vn, vo, vl, vc, rfl, iv⟩ := iv.see
     clear rb
     replace ia := ia.below b45
     replace ib := ib.below b45
     replace iu := iu.below b45
     replace pvy := pvy.below b45
     replace pvx := pvx.below b45
     have B45 : Below W1.heap.size W1 w45 := bstep B44 b45
     clear b45
     replace hHeld := KEEP _ B45
     go_wp2_with fail
     refine hK.out _ _ (L2.AllL.kept hHeld) ?_
     clear hK K
     try simp only [pu1, pu2, pu3, pu4]
     refine L2.late_fr 9 (v := .agg #[.bool nb, .slice bo bl bc, .bool vn, .slice vo vl vc]) rfl (Or.inl ⟨by rfl, ?_⟩) hHeld ?_
     · (intro u _; go_simp)
     try simp only [pu1, pu2, pu3, pu4]
     have Bz := B45
     obtain ⟨wl, rfl⟩ : ∃ u, u = w45 := ⟨_, rfl⟩
   case' t52 =>
    go_simp
    obtain ⟨w48, vx, hw, hv, pvx, b48, B48⟩ := new_pe B40
    rw [hw, hv]
    have hxy : vx ≠ vy := by have := pvy.lt; omega
    clear hw hv
    replace ia := ia.below b48
    replace ib := ib.below b48
    replace ra := ra.below b48
    replace rb := rb.below b48
    replace pvy := pvy.below b48
    clear b48
    replace hHeld := KEEP _ B48
    refine hK.out _ _ (L2.AllL.kept hHeld) ?_
    clear hK K
    try simp only [pu1, pu2, pu3, pu4]
    refine L2.late_st 3 rfl (fun K hK => ?_)
    go_simp
    refine (c_under ra).mono ?_
    rintro e w49 ⟨v, rfl, iu, b49⟩
    obtain ⟨un, uo, ul, uc, rfl, iu⟩ := iu.see
    clear ra
    replace ia := ia.below b49
    replace ib := ib.below b49
    replace rb := rb.below b49
    replace pvy := pvy.below b49
    replace pvx := pvx.below b49
    have B49 : Below W1.heap.size W1 w49 := bstep B48 b49
    clear b49
    replace hHeld := KEEP _ B49
    go_wp2_with fail
    refine hK.out _ _ (L2.AllL.kept hHeld) ?_
    clear hK K
    try simp only [pu1, pu2, pu3, pu4]
    refine L2.late_fr 4 (v := .agg #[.bool na, .slice ao al ac, .bool un, .slice uo ul uc]) rfl (Or.inl ⟨by rfl, ?_⟩) hHeld ?_
    · (intro u _; go_simp)
    try simp only [pu1, pu2, pu3, pu4]
    refine L2.late_st 8 rfl (fun K hK => ?_)
    go_simp
    refine (c_under rb).mono ?_
    rintro e w50 ⟨v, rfl, iv, b50⟩
    obtain ⟨vn, vo, vl, vc, rfl, iv⟩ := iv.see
    clear rb
    replace ia := ia.below b50
    replace ib := ib.below b50
    replace iu := iu.below b50
    replace pvy := pvy.below b50
    replace pvx := pvx.below b50
    have B50 : Below W1.heap.size W1 w50 := bstep B49 b50
    clear b50
    replace hHeld := KEEP _ B50
    go_wp2_with fail
    refine hK.out _ _ (L2.AllL.kept hHeld) ?_
    clear hK K
    try simp only [pu1, pu2, pu3, pu4]
    refine L2.late_fr 9 (v := .agg #[.bool nb, .slice bo bl bc, .bool vn, .slice vo vl vc]) rfl (Or.inl ⟨by rfl, ?_⟩) hHeld ?_
    · (intro u _; go_simp)
    try simp only [pu1, pu2, pu3, pu4]
    have Bz := B50
    obtain ⟨wl, rfl⟩ : ∃ u, u = w50 := ⟨_, rfl⟩
  all_goals
    have hgx : g + 1 ≠ vx := by have := pvx.ge; omega
    have H6 : ((((wl.setCell ⟨vx, 0, none⟩ (.bool na)).setCell ⟨vx, 1, none⟩ (.slice ao al ac)).setCell ⟨vx, 2, none⟩ (.bool un)).setCell ⟨vx, 3, none⟩ (.slice uo ul uc)).cell? ⟨g + 1, 0, none⟩ = some (.bool nb) ∧ ((((wl.setCell ⟨vx, 0, none⟩ (.bool na)).setCell ⟨vx, 1, none⟩ (.slice ao al ac)).setCell ⟨vx, 2, none⟩ (.bool un)).setCell ⟨vx, 3, none⟩ (.slice uo ul uc)).cell? ⟨g + 1, 1, none⟩ = some (.slice bo bl bc) := ⟨(cell_four hgx).trans hHeld.2.2.1.1, (cell_four hgx).trans hHeld.2.2.1.2⟩
    clear hgx
    have hyx : ¬ vy = vx := fun e => hxy e.symm
    have HTB : Hid (TB W1 _ vx vy ⟨na, ao, al, ac, un, uo, ul, uc⟩ ⟨nb, bo, bl, bc, vn, vo, vl, vc⟩ p (und q) r (und k)) := tb_end pvx pvy hxy ⟨_, _, _, _, _, _, _, _, rfl, ia, iu⟩ ⟨_, _, _, _, _, _, _, _, rfl, ib, iv⟩ Bz
    obtain ⟨y0, y1, y2, y3⟩ := ECell.cells pvx.c
    have f0 := ECell.thaw pvx.c 0
    have f1 := ECell.thaw pvx.c 1
    have f2 := ECell.thaw pvx.c 2
    have f3 := ECell.thaw pvx.c 3
    obtain ⟨z0, z1, z2, z3⟩ := ECell.cells pvy.c
    have g0 := ECell.thaw pvy.c 0
    have g1 := ECell.thaw pvy.c 1
    have g2 := ECell.thaw pvy.c 2
    have g3 := ECell.thaw pvy.c 3
    clear pvx pvy ia ib iu iv Bz KEEP
    refine L2.late_st 12 rfl (fun K hK => ?_)
    go_simp
    refine hK.out _ _ ⟨kpt 12, kpt 12, Or.inr H6, kpt 8, trivial⟩ ?_
    clear hK K
    try simp only [pu1, pu2, pu3, pu4]
    clear H6
    refine L2.late_st 13 rfl (fun K hK => ?_)
    go_simp
    refine hK.out _ _ ⟨kpt 12, kpt 12, kpt 13, kpt 8, trivial⟩ ?_
    clear hK K
    try simp only [pu1, pu2, pu3, pu4]
    refine L2.late_done (by kernel_rfl) ?_ _
    clear hHeld y0 y1 y2 y3 f0 f1 f2 f3 z0 z1 z2 z3 g0 g1 g2 g3 hxy hyx
    go_wp2_with fail
    go_meet
    exact ⟨_, _, _, _, rfl, rfl, HTB.out⟩
 case rest =>
  obtain ⟨vx, vy, ⟨n5, o5, l5, c5, m5, O5, L5, C5⟩, ⟨n6, o6, l6, c6, m6, O6, L6, C6⟩, rfl, rfl, T⟩ := hcut
  obtain ⟨hne, gx, gy, q5, q6, e5, e6, b⟩ := T
  replace q5 : ECell wc vx n5 (.slice o5 l5 c5) m5 (.slice O5 L5 C5) := q5
  replace q6 : ECell wc vy n6 (.slice o6 l6 c6) m6 (.slice O6 L6 C6) := q6
  replace e5 : EV wc (.agg #[.bool n5, .slice o5 l5 c5, .bool m5, .slice O5 L5 C5]) p (und q) := e5
  replace e6 : EV wc (.agg #[.bool n6, .slice o6 l6 c6, .bool m6, .slice O6 L6 C6]) r (und k) := e6
  clear ia ib ra rb qa qb
  replace qR := qR.below b
  replace hb := bstep hb b
  have hgx : g + 1 + 1 < vx := Nat.lt_of_lt_of_le hsz gx
  have hgy : g + 1 + 1 < vy := Nat.lt_of_lt_of_le hsz gy
  clear hsz gx gy b
  obtain ⟨cqR0, cqR1, cqR2⟩ := qR.cells
  obtain ⟨cq50, cq51, cq52, cq53⟩ := q5.cells
  obtain ⟨cq60, cq61, cq62, cq63⟩ := q6.cells
  go_wp2_with fail
  clear cqR0 cqR1 cqR2 cq50 cq51 cq52 cq53 cq60 cq61 cq62 cq63
  refine (c_of (n := 0) (by decide) (by decide)).mono ?_
  rintro e w101 ⟨v, rfl, hv, b⟩
  obtain ⟨d1, o1, l1, c1, rfl, i1⟩ := hv.see Sz.zero (by decide)
  clear hv
  replace e5 := e5.below b
  replace e6 := e6.below b
  replace qR := qR.below b
  replace q5 := q5.below b
  replace q6 := q6.below b
  replace hb := bstep hb b
  clear b
  obtain ⟨cqR0, cqR1, cqR2⟩ := qR.cells
  obtain ⟨cq50, cq51, cq52, cq53⟩ := q5.cells
  obtain ⟨cq60, cq61, cq62, cq63⟩ := q6.cells
  go_wp2_with fail
  clear cqR0 cqR1 cqR2 cq50 cq51 cq52 cq53 cq60 cq61 cq62 cq63
  refine (c_of (n := 1) (by decide) (by decide)).mono ?_
  rintro e w102 ⟨v, rfl, hv, b⟩
  obtain ⟨d2, o2, l2, c2, rfl, i2⟩ := hv.see Sz.one (by decide)
  clear hv
  replace e5 := e5.below b
  replace e6 := e6.below b
  replace i1 := i1.below b
  replace qR := qR.below b
  replace q5 := q5.below b
  replace q6 := q6.below b
  replace hb := bstep hb b
  clear b
  obtain ⟨cqR0, cqR1, cqR2⟩ := qR.cells
  obtain ⟨cq50, cq51, cq52, cq53⟩ := q5.cells
  obtain ⟨cq60, cq61, cq62, cq63⟩ := q6.cells
  go_wp2_with fail
  clear cqR0 cqR1 cqR2 cq50 cq51 cq52 cq53 cq60 cq61 cq62 cq63
  refine (c_of (n := 1) (by decide) (by decide)).mono ?_
  rintro e w103 ⟨v, rfl, hv, b⟩
  obtain ⟨d3, o3, l3, c3, rfl, i3⟩ := hv.see Sz.one (by decide)
  clear hv
  replace e5 := e5.below b
  replace e6 := e6.below b
  replace i1 := i1.below b
  replace i2 := i2.below b
  replace qR := qR.below b
  replace q5 := q5.below b
  replace q6 := q6.below b
  replace hb := bstep hb b
  clear b
  obtain ⟨cqR0, cqR1, cqR2⟩ := qR.cells
  obtain ⟨cq50, cq51, cq52, cq53⟩ := q5.cells
  obtain ⟨cq60, cq61, cq62, cq63⟩ := q6.cells
  go_wp2_with fail
  clear cqR0 cqR1 cqR2 cq50 cq51 cq52 cq53 cq60 cq61 cq62 cq63
  refine (c_of (n := 0) (by decide) (by decide)).mono ?_
  rintro e w104 ⟨v, rfl, hv, b⟩
  obtain ⟨d4, o4, l4, c4, rfl, i4⟩ := hv.see Sz.zero (by decide)
  clear hv
  replace e5 := e5.below b
  replace e6 := e6.below b
  replace i1 := i1.below b
  replace i2 := i2.below b
  replace i3 := i3.below b
  replace qR := qR.below b
  replace q5 := q5.below b
  replace q6 := q6.below b
  replace hb := bstep hb b
  clear b
  have hsx : vx < w104.heap.size := (Array.getElem?_eq_some_iff.1 q5).1
  have hsy : vy < w104.heap.size := (Array.getElem?_eq_some_iff.1 q6).1
  obtain ⟨W105, hW105⟩ : ∃ W, W = (w104.alloc (.cells #[.bool d1, .slice o1 l1 c1, .bool d2, .slice o2 l2 c2] 58)).alloc (.cells #[.bool d3, .slice o3 l3 c3, .bool d4, .slice o4 l4 c4] 58) := ⟨_, rfl⟩
  have q7 : ECell W105 (w104.heap.size) d1 (.slice o1 l1 c1) d2 (.slice o2 l2 c2) := by rw [hW105]; exact (ecell_step (ecell_new _ rfl))
  have q8 : ECell W105 (w104.heap.size + 1) d3 (.slice o3 l3 c3) d4 (.slice o4 l4 c4) := by rw [hW105]; exact (ecell_new _ (by simp))
  have b : Below w104.heap.size w104 W105 := by rw [hW105]; exact bstep (belowA _ _) (belowA _ _)
  replace e5 := e5.below b
  replace e6 := e6.below b
  replace i1 := i1.below b
  replace i2 := i2.below b
  replace i3 := i3.below b
  replace i4 := i4.below b
  replace qR := qR.below b
  replace q5 := q5.below b
  replace q6 := q6.below b
  replace hb := bstep hb b
  clear b
  have rqR0 : ((w104.alloc (.cells #[.bool d1, .slice o1 l1 c1, .bool d2, .slice o2 l2 c2] 58)).alloc (.cells #[.bool d3, .slice o3 l3 c3, .bool d4, .slice o4 l4 c4] 58)).cell? ⟨g + 1 + 1, 0, none⟩ = some (.bool false) := by rw [← hW105]; exact qR.cells.1
  have rqR1 : ((w104.alloc (.cells #[.bool d1, .slice o1 l1 c1, .bool d2, .slice o2 l2 c2] 58)).alloc (.cells #[.bool d3, .slice o3 l3 c3, .bool d4, .slice o4 l4 c4] 58)).cell? ⟨g + 1 + 1, 1, none⟩ = some (.slice none 0 0) := by rw [← hW105]; exact qR.cells.2.1
  have rqR2 : ((w104.alloc (.cells #[.bool d1, .slice o1 l1 c1, .bool d2, .slice o2 l2 c2] 58)).alloc (.cells #[.bool d3, .slice o3 l3 c3, .bool d4, .slice o4 l4 c4] 58)).cell? ⟨g + 1 + 1, 2, none⟩ = some (.slice none 0 0) := by rw [← hW105]; exact qR.cells.2.2
  have rq50 : ((w104.alloc (.cells #[.bool d1, .slice o1 l1 c1, .bool d2, .slice o2 l2 c2] 58)).alloc (.cells #[.bool d3, .slice o3 l3 c3, .bool d4, .slice o4 l4 c4] 58)).cell? ⟨vx, 0, none⟩ = some (.bool n5) := by rw [← hW105]; exact q5.cells.1
  have rq51 : ((w104.alloc (.cells #[.bool d1, .slice o1 l1 c1, .bool d2, .slice o2 l2 c2] 58)).alloc (.cells #[.bool d3, .slice o3 l3 c3, .bool d4, .slice o4 l4 c4] 58)).cell? ⟨vx, 1, none⟩ = some (.slice o5 l5 c5) := by rw [← hW105]; exact q5.cells.2.1
  have rq52 : ((w104.alloc (.cells #[.bool d1, .slice o1 l1 c1, .bool d2, .slice o2 l2 c2] 58)).alloc (.cells #[.bool d3, .slice o3 l3 c3, .bool d4, .slice o4 l4 c4] 58)).cell? ⟨vx, 2, none⟩ = some (.bool m5) := by rw [← hW105]; exact q5.cells.2.2.1
  have rq53 : ((w104.alloc (.cells #[.bool d1, .slice o1 l1 c1, .bool d2, .slice o2 l2 c2] 58)).alloc (.cells #[.bool d3, .slice o3 l3 c3, .bool d4, .slice o4 l4 c4] 58)).cell? ⟨vx, 3, none⟩ = some (.slice O5 L5 C5) := by rw [← hW105]; exact q5.cells.2.2.2
  have rq60 : ((w104.alloc (.cells #[.bool d1, .slice o1 l1 c1, .bool d2, .slice o2 l2 c2] 58)).alloc (.cells #[.bool d3, .slice o3 l3 c3, .bool d4, .slice o4 l4 c4] 58)).cell? ⟨vy, 0, none⟩ = some (.bool n6) := by rw [← hW105]; exact q6.cells.1
  have rq61 : ((w104.alloc (.cells #[.bool d1, .slice o1 l1 c1, .bool d2, .slice o2 l2 c2] 58)).alloc (.cells #[.bool d3, .slice o3 l3 c3, .bool d4, .slice o4 l4 c4] 58)).cell? ⟨vy, 1, none⟩ = some (.slice o6 l6 c6) := by rw [← hW105]; exact q6.cells.2.1
  have rq62 : ((w104.alloc (.cells #[.bool d1, .slice o1 l1 c1, .bool d2, .slice o2 l2 c2] 58)).alloc (.cells #[.bool d3, .slice o3 l3 c3, .bool d4, .slice o4 l4 c4] 58)).cell? ⟨vy, 2, none⟩ = some (.bool m6) := by rw [← hW105]; exact q6.cells.2.2.1
  have rq63 : ((w104.alloc (.cells #[.bool d1, .slice o1 l1 c1, .bool d2, .slice o2 l2 c2] 58)).alloc (.cells #[.bool d3, .slice o3 l3 c3, .bool d4, .slice o4 l4 c4] 58)).cell? ⟨vy, 3, none⟩ = some (.slice O6 L6 C6) := by rw [← hW105]; exact q6.cells.2.2.2
  have rq70 : ((w104.alloc (.cells #[.bool d1, .slice o1 l1 c1, .bool d2, .slice o2 l2 c2] 58)).alloc (.cells #[.bool d3, .slice o3 l3 c3, .bool d4, .slice o4 l4 c4] 58)).cell? ⟨w104.heap.size, 0, none⟩ = some (.bool d1) := by rw [← hW105]; exact q7.cells.1
  have rq71 : ((w104.alloc (.cells #[.bool d1, .slice o1 l1 c1, .bool d2, .slice o2 l2 c2] 58)).alloc (.cells #[.bool d3, .slice o3 l3 c3, .bool d4, .slice o4 l4 c4] 58)).cell? ⟨w104.heap.size, 1, none⟩ = some (.slice o1 l1 c1) := by rw [← hW105]; exact q7.cells.2.1
  have rq72 : ((w104.alloc (.cells #[.bool d1, .slice o1 l1 c1, .bool d2, .slice o2 l2 c2] 58)).alloc (.cells #[.bool d3, .slice o3 l3 c3, .bool d4, .slice o4 l4 c4] 58)).cell? ⟨w104.heap.size, 2, none⟩ = some (.bool d2) := by rw [← hW105]; exact q7.cells.2.2.1
  have rq73 : ((w104.alloc (.cells #[.bool d1, .slice o1 l1 c1, .bool d2, .slice o2 l2 c2] 58)).alloc (.cells #[.bool d3, .slice o3 l3 c3, .bool d4, .slice o4 l4 c4] 58)).cell? ⟨w104.heap.size, 3, none⟩ = some (.slice o2 l2 c2) := by rw [← hW105]; exact q7.cells.2.2.2
  have rq80 : ((w104.alloc (.cells #[.bool d1, .slice o1 l1 c1, .bool d2, .slice o2 l2 c2] 58)).alloc (.cells #[.bool d3, .slice o3 l3 c3, .bool d4, .slice o4 l4 c4] 58)).cell? ⟨w104.heap.size + 1, 0, none⟩ = some (.bool d3) := by rw [← hW105]; exact q8.cells.1
  have rq81 : ((w104.alloc (.cells #[.bool d1, .slice o1 l1 c1, .bool d2, .slice o2 l2 c2] 58)).alloc (.cells #[.bool d3, .slice o3 l3 c3, .bool d4, .slice o4 l4 c4] 58)).cell? ⟨w104.heap.size + 1, 1, none⟩ = some (.slice o3 l3 c3) := by rw [← hW105]; exact q8.cells.2.1
  have rq82 : ((w104.alloc (.cells #[.bool d1, .slice o1 l1 c1, .bool d2, .slice o2 l2 c2] 58)).alloc (.cells #[.bool d3, .slice o3 l3 c3, .bool d4, .slice o4 l4 c4] 58)).cell? ⟨w104.heap.size + 1, 2, none⟩ = some (.bool d4) := by rw [← hW105]; exact q8.cells.2.2.1
  have rq83 : ((w104.alloc (.cells #[.bool d1, .slice o1 l1 c1, .bool d2, .slice o2 l2 c2] 58)).alloc (.cells #[.bool d3, .slice o3 l3 c3, .bool d4, .slice o4 l4 c4] 58)).cell? ⟨w104.heap.size + 1, 3, none⟩ = some (.slice o4 l4 c4) := by rw [← hW105]; exact q8.cells.2.2.2
  obtain ⟨v105, hv105⟩ : ∃ v, v = w104.heap.size := ⟨_, rfl⟩
  rw [← hv105] at q7 q8
  have HW105 : Hid (W105 = (w104.alloc (.cells #[.bool d1, .slice o1 l1 c1, .bool d2, .slice o2 l2 c2] 58)).alloc (.cells #[.bool d3, .slice o3 l3 c3, .bool d4, .slice o4 l4 c4] 58)) := hW105
  have Hv105 : Hid (v105 = w104.heap.size) := hv105
  clear hW105 hv105
  go_wp2_with fail
  rw [← HW105.out, ← Hv105.out]
  have hxz : vx < v105 := by rw [Hv105.out]; exact hsx
  have hyz : vy < v105 := by rw [Hv105.out]; exact hsy
  clear hsx hsy
  clear HW105 Hv105 rqR0 rqR1 rqR2 rq50 rq51 rq52 rq53 rq60 rq61 rq62 rq63 rq70 rq71 rq72 rq73 rq80 rq81 rq82 rq83
  have HB0 : BS w (g + 1 + 1) vx vy v105 (v105 + 1) X Y W105 K := ⟨⟨⟨n5, o5, l5, c5, m5, O5, L5, C5⟩, ⟨n6, o6, l6, c6, m6, O6, L6, C6⟩, ⟨d1, o1, l1, c1, d2, o2, l2, c2⟩, ⟨d3, o3, l3, c3, d4, o4, l4, c4⟩, P, Q, R, S, 0, 1, 1, 0, ⟨q5, q6, q7, q8⟩, ⟨by rw [← HP.out.1, ← HP.out.2.1]; exact e5, by rw [← HP.out.2.2.1, ← HP.out.2.2.2]; exact e6, ⟨_, _, _, _, _, _, _, _, rfl, i1, i2⟩, ⟨_, _, _, _, _, _, _, _, rfl, i3, i4⟩⟩, HN.out, by rw [HXY.out.1]; simp, by rw [HXY.out.2]; simp⟩, hb, qR⟩
  have hgz : g + 1 + 1 < v105 := Nat.lt_trans hgx hxz
  skip
  clear e5 e6 i1 i2 i3 i4 q5 q6 q7 q8 hb qR HP HN
  go_loopw [9] (fun _ wr => ∃ k, BS w (g + 1 + 1) vx vy v105 (v105 + 1) X Y wr k) (fun _ wr => leastK (fun k => BS w (g + 1 + 1) vx vy v105 (v105 + 1) X Y wr k))
  case atStart => exact ⟨K, HB0⟩
  case round =>
    clear HB0
    have hK9 := leastK_spec hrel
    obtain ⟨kk, hkk⟩ : ∃ k, k = leastK (fun k => BS w (g + 1 + 1) vx vy v105 (v105 + 1) X Y wr k) := ⟨_, rfl⟩
    have HKK : Hid (kk = leastK (fun k => BS w (g + 1 + 1) vx vy v105 (v105 + 1) X Y wr k)) := hkk
    rw [← hkk] at hK9
    clear hkk hrel
    obtain ⟨⟨⟨n5, o5, l5, c5, m5, O5, L5, C5⟩, ⟨n6, o6, l6, c6, m6, O6, L6, C6⟩, ⟨n7, o7, l7, c7, m7, O7, L7, C7⟩, ⟨n8, o8, l8, c8, m8, O8, L8, C8⟩, lp, lq, hp, hq, lx, ly, nx, ny, ⟨q5, q6, q7, q8⟩, ⟨e5, e6, e7, e8⟩, ⟨h1, h2, h3, h4, h5⟩, hX, hY⟩, hb, qR⟩ := hK9
    replace q5 : ECell wr vx n5 (.slice o5 l5 c5) m5 (.slice O5 L5 C5) := q5
    replace q6 : ECell wr vy n6 (.slice o6 l6 c6) m6 (.slice O6 L6 C6) := q6
    replace q7 : ECell wr v105 n7 (.slice o7 l7 c7) m7 (.slice O7 L7 C7) := q7
    replace q8 : ECell wr (v105 + 1) n8 (.slice o8 l8 c8) m8 (.slice O8 L8 C8) := q8
    replace e5 : EV wr (.agg #[.bool n5, .slice o5 l5 c5, .bool m5, .slice O5 L5 C5]) lp lq := e5
    replace e6 : EV wr (.agg #[.bool n6, .slice o6 l6 c6, .bool m6, .slice O6 L6 C6]) hp hq := e6
    replace e7 : EV wr (.agg #[.bool n7, .slice o7 l7 c7, .bool m7, .slice O7 L7 C7]) lx ly := e7
    replace e8 : EV wr (.agg #[.bool n8, .slice o8 l8 c8, .bool m8, .slice O8 L8 C8]) nx ny := e8
    obtain ⟨k2, rfl⟩ : ∃ k2, kk = k2 + 1 := ⟨kk - 1, by omega⟩
    have HX : Hid (X = lx * (btw (k2 + 1) lp lq hp hq).2 + nx * (btw (k2 + 1) lp lq hp hq).1 ∧ Y = ly * (btw (k2 + 1) lp lq hp hq).2 + ny * (btw (k2 + 1) lp lq hp hq).1) := ⟨hX, hY⟩
    have HH : Hid (0 < lp ∧ 0 < lq ∧ 0 < hq ∧ lp * hq ≤ hp * lq ∧ lq + hq ≤ k2 + 1) := ⟨h1, h2, h3, h4, h5⟩
    have F1 : Hid (fq (lp : Int) (lq : Int) = ((lp / lq : Nat) : Int) ∧ fr (lp : Int) (lq : Int) = ((lp % lq : Nat) : Int)) := fq_nat lp lq h2
    have F2 : Hid (fq (hp : Int) (hq : Int) = ((hp / hq : Nat) : Int) ∧ fr (hp : Int) (hq : Int) = ((hp % hq : Nat) : Int)) := fq_nat hp hq h3
    have HT : Hid (Sz ((lp / lq : Nat) : Int) 1000000) := sz_nat (Nat.div_le_self _ _) e5.sz1.1
    have HT2 : Hid (Sz ((hp / hq : Nat) : Int) 1000000) := sz_nat (Nat.div_le_self _ _) e6.sz1.1
    have HG0 : Hid (∀ W, QCell W (g + 1 + 1) false (.slice none 0 0) (.slice none 0 0) → g + 1 + 1 < W.heap.size) := fun W h => (Array.getElem?_eq_some_iff.1 (show W.heap[g + 1 + 1]? = _ from h)).1
    clear hX hY h1 h2 h3 h4 h5
    obtain ⟨cqR0, cqR1, cqR2⟩ := qR.cells
    obtain ⟨cq50, cq51, cq52, cq53⟩ := q5.cells
    obtain ⟨cq60, cq61, cq62, cq63⟩ := q6.cells
    obtain ⟨cq70, cq71, cq72, cq73⟩ := q7.cells
    obtain ⟨cq80, cq81, cq82, cq83⟩ := q8.cells
    go_wp2_with fail
    clear cqR0 cqR1 cqR2 cq50 cq51 cq52 cq53 cq60 cq61 cq62 cq63 cq70 cq71 cq72 cq73 cq80 cq81 cq82 cq83
    have hc := c_split e5
    rw [F1.out.1, F1.out.2] at hc
    refine (hc).mono ?_
    rintro e w201 ⟨tv, uv, rfl, ht, hu, b⟩
    clear hc
    obtain ⟨n9, o9, l9, c9, rfl, i9⟩ := ht.see HT.out (Nat.le_refl _)
    clear ht
    obtain ⟨na, oa, la, ca, ma, Oa, La, Ca, rfl, j1, j2⟩ := hu
    have ea : EV w201 (.agg #[.bool na, .slice oa la ca, .bool ma, .slice Oa La Ca]) (lq : Int) ((lp % lq : Nat) : Int) := ⟨_, _, _, _, _, _, _, _, rfl, j1, j2⟩
    clear j1 j2
    replace e5 := e5.below b
    replace e6 := e6.below b
    replace e7 := e7.below b
    replace e8 := e8.below b
    replace qR := qR.below b
    replace q5 := q5.below b
    replace q6 := q6.below b
    replace q7 := q7.below b
    replace q8 := q8.below b
    replace hb := bstep hb b
    clear b
    have hs8 : v105 + 1 < w201.heap.size := (Array.getElem?_eq_some_iff.1 q8).1
    obtain ⟨W202, hW202⟩ : ∃ W, W = (w201.alloc (.cells #[.bool n9, .slice o9 l9 c9] 25)).alloc (.cells #[.bool na, .slice oa la ca, .bool ma, .slice Oa La Ca] 58) := ⟨_, rfl⟩
    have q9 : ICell W202 (w201.heap.size) n9 (.slice o9 l9 c9) := by rw [hW202]; exact (icell_step (icell_new _ rfl))
    have qa : ECell W202 (w201.heap.size + 1) na (.slice oa la ca) ma (.slice Oa La Ca) := by rw [hW202]; exact (ecell_new _ (by simp))
    have b : Below w201.heap.size w201 W202 := by rw [hW202]; exact bstep (belowA _ _) (belowA _ _)
    replace e5 := e5.below b
    replace e6 := e6.below b
    replace e7 := e7.below b
    replace e8 := e8.below b
    replace i9 := i9.below b
    replace ea := ea.below b
    replace qR := qR.below b
    replace q5 := q5.below b
    replace q6 := q6.below b
    replace q7 := q7.below b
    replace q8 := q8.below b
    replace hb := bstep hb b
    clear b
    have rqR0 : ((w201.alloc (.cells #[.bool n9, .slice o9 l9 c9] 25)).alloc (.cells #[.bool na, .slice oa la ca, .bool ma, .slice Oa La Ca] 58)).cell? ⟨g + 1 + 1, 0, none⟩ = some (.bool false) := by rw [← hW202]; exact qR.cells.1
    have rqR1 : ((w201.alloc (.cells #[.bool n9, .slice o9 l9 c9] 25)).alloc (.cells #[.bool na, .slice oa la ca, .bool ma, .slice Oa La Ca] 58)).cell? ⟨g + 1 + 1, 1, none⟩ = some (.slice none 0 0) := by rw [← hW202]; exact qR.cells.2.1
    have rqR2 : ((w201.alloc (.cells #[.bool n9, .slice o9 l9 c9] 25)).alloc (.cells #[.bool na, .slice oa la ca, .bool ma, .slice Oa La Ca] 58)).cell? ⟨g + 1 + 1, 2, none⟩ = some (.slice none 0 0) := by rw [← hW202]; exact qR.cells.2.2
    have rq50 : ((w201.alloc (.cells #[.bool n9, .slice o9 l9 c9] 25)).alloc (.cells #[.bool na, .slice oa la ca, .bool ma, .slice Oa La Ca] 58)).cell? ⟨vx, 0, none⟩ = some (.bool n5) := by rw [← hW202]; exact q5.cells.1
    have rq51 : ((w201.alloc (.cells #[.bool n9, .slice o9 l9 c9] 25)).alloc (.cells #[.bool na, .slice oa la ca, .bool ma, .slice Oa La Ca] 58)).cell? ⟨vx, 1, none⟩ = some (.slice o5 l5 c5) := by rw [← hW202]; exact q5.cells.2.1
    have rq52 : ((w201.alloc (.cells #[.bool n9, .slice o9 l9 c9] 25)).alloc (.cells #[.bool na, .slice oa la ca, .bool ma, .slice Oa La Ca] 58)).cell? ⟨vx, 2, none⟩ = some (.bool m5) := by rw [← hW202]; exact q5.cells.2.2.1
    have rq53 : ((w201.alloc (.cells #[.bool n9, .slice o9 l9 c9] 25)).alloc (.cells #[.bool na, .slice oa la ca, .bool ma, .slice Oa La Ca] 58)).cell? ⟨vx, 3, none⟩ = some (.slice O5 L5 C5) := by rw [← hW202]; exact q5.cells.2.2.2
    have rq60 : ((w201.alloc (.cells #[.bool n9, .slice o9 l9 c9] 25)).alloc (.cells #[.bool na, .slice oa la ca, .bool ma, .slice Oa La Ca] 58)).cell? ⟨vy, 0, none⟩ = some (.bool n6) := by rw [← hW202]; exact q6.cells.1
    have rq61 : ((w201.alloc (.cells #[.bool n9, .slice o9 l9 c9] 25)).alloc (.cells #[.bool na, .slice oa la ca, .bool ma, .slice Oa La Ca] 58)).cell? ⟨vy, 1, none⟩ = some (.slice o6 l6 c6) := by rw [← hW202]; exact q6.cells.2.1
    have rq62 : ((w201.alloc (.cells #[.bool n9, .slice o9 l9 c9] 25)).alloc (.cells #[.bool na, .slice oa la ca, .bool ma, .slice Oa La Ca] 58)).cell? ⟨vy, 2, none⟩ = some (.bool m6) := by rw [← hW202]; exact q6.cells.2.2.1
    have rq63 : ((w201.alloc (.cells #[.bool n9, .slice o9 l9 c9] 25)).alloc (.cells #[.bool na, .slice oa la ca, .bool ma, .slice Oa La Ca] 58)).cell? ⟨vy, 3, none⟩ = some (.slice O6 L6 C6) := by rw [← hW202]; exact q6.cells.2.2.2
    have rq70 : ((w201.alloc (.cells #[.bool n9, .slice o9 l9 c9] 25)).alloc (.cells #[.bool na, .slice oa la ca, .bool ma, .slice Oa La Ca] 58)).cell? ⟨v105, 0, none⟩ = some (.bool n7) := by rw [← hW202]; exact q7.cells.1
    have rq71 : ((w201.alloc (.cells #[.bool n9, .slice o9 l9 c9] 25)).alloc (.cells #[.bool na, .slice oa la ca, .bool ma, .slice Oa La Ca] 58)).cell? ⟨v105, 1, none⟩ = some (.slice o7 l7 c7) := by rw [← hW202]; exact q7.cells.2.1
    have rq72 : ((w201.alloc (.cells #[.bool n9, .slice o9 l9 c9] 25)).alloc (.cells #[.bool na, .slice oa la ca, .bool ma, .slice Oa La Ca] 58)).cell? ⟨v105, 2, none⟩ = some (.bool m7) := by rw [← hW202]; exact q7.cells.2.2.1
    have rq73 : ((w201.alloc (.cells #[.bool n9, .slice o9 l9 c9] 25)).alloc (.cells #[.bool na, .slice oa la ca, .bool ma, .slice Oa La Ca] 58)).cell? ⟨v105, 3, none⟩ = some (.slice O7 L7 C7) := by rw [← hW202]; exact q7.cells.2.2.2
    have rq80 : ((w201.alloc (.cells #[.bool n9, .slice o9 l9 c9] 25)).alloc (.cells #[.bool na, .slice oa la ca, .bool ma, .slice Oa La Ca] 58)).cell? ⟨v105 + 1, 0, none⟩ = some (.bool n8) := by rw [← hW202]; exact q8.cells.1
    have rq81 : ((w201.alloc (.cells #[.bool n9, .slice o9 l9 c9] 25)).alloc (.cells #[.bool na, .slice oa la ca, .bool ma, .slice Oa La Ca] 58)).cell? ⟨v105 + 1, 1, none⟩ = some (.slice o8 l8 c8) := by rw [← hW202]; exact q8.cells.2.1
    have rq82 : ((w201.alloc (.cells #[.bool n9, .slice o9 l9 c9] 25)).alloc (.cells #[.bool na, .slice oa la ca, .bool ma, .slice Oa La Ca] 58)).cell? ⟨v105 + 1, 2, none⟩ = some (.bool m8) := by rw [← hW202]; exact q8.cells.2.2.1
    have rq83 : ((w201.alloc (.cells #[.bool n9, .slice o9 l9 c9] 25)).alloc (.cells #[.bool na, .slice oa la ca, .bool ma, .slice Oa La Ca] 58)).cell? ⟨v105 + 1, 3, none⟩ = some (.slice O8 L8 C8) := by rw [← hW202]; exact q8.cells.2.2.2
    have rq90 : ((w201.alloc (.cells #[.bool n9, .slice o9 l9 c9] 25)).alloc (.cells #[.bool na, .slice oa la ca, .bool ma, .slice Oa La Ca] 58)).cell? ⟨w201.heap.size, 0, none⟩ = some (.bool n9) := by rw [← hW202]; exact q9.cells.1
    have rq91 : ((w201.alloc (.cells #[.bool n9, .slice o9 l9 c9] 25)).alloc (.cells #[.bool na, .slice oa la ca, .bool ma, .slice Oa La Ca] 58)).cell? ⟨w201.heap.size, 1, none⟩ = some (.slice o9 l9 c9) := by rw [← hW202]; exact q9.cells.2
    have rqa0 : ((w201.alloc (.cells #[.bool n9, .slice o9 l9 c9] 25)).alloc (.cells #[.bool na, .slice oa la ca, .bool ma, .slice Oa La Ca] 58)).cell? ⟨w201.heap.size + 1, 0, none⟩ = some (.bool na) := by rw [← hW202]; exact qa.cells.1
    have rqa1 : ((w201.alloc (.cells #[.bool n9, .slice o9 l9 c9] 25)).alloc (.cells #[.bool na, .slice oa la ca, .bool ma, .slice Oa La Ca] 58)).cell? ⟨w201.heap.size + 1, 1, none⟩ = some (.slice oa la ca) := by rw [← hW202]; exact qa.cells.2.1
    have rqa2 : ((w201.alloc (.cells #[.bool n9, .slice o9 l9 c9] 25)).alloc (.cells #[.bool na, .slice oa la ca, .bool ma, .slice Oa La Ca] 58)).cell? ⟨w201.heap.size + 1, 2, none⟩ = some (.bool ma) := by rw [← hW202]; exact qa.cells.2.2.1
    have rqa3 : ((w201.alloc (.cells #[.bool n9, .slice o9 l9 c9] 25)).alloc (.cells #[.bool na, .slice oa la ca, .bool ma, .slice Oa La Ca] 58)).cell? ⟨w201.heap.size + 1, 3, none⟩ = some (.slice Oa La Ca) := by rw [← hW202]; exact qa.cells.2.2.2
    obtain ⟨v202, hv202⟩ : ∃ v, v = w201.heap.size := ⟨_, rfl⟩
    rw [← hv202] at q9 qa
    have HW202 : Hid (W202 = (w201.alloc (.cells #[.bool n9, .slice o9 l9 c9] 25)).alloc (.cells #[.bool na, .slice oa la ca, .bool ma, .slice Oa La Ca] 58)) := hW202
    have Hv202 : Hid (v202 = w201.heap.size) := hv202
    clear hW202 hv202
    go_wp2_with fail
    rw [← HW202.out, ← Hv202.out]
    have hza : v105 + 1 < v202 := by rw [Hv202.out]; exact hs8
    clear hs8
    clear HW202 Hv202 rqR0 rqR1 rqR2 rq50 rq51 rq52 rq53 rq60 rq61 rq62 rq63 rq70 rq71 rq72 rq73 rq80 rq81 rq82 rq83 rq90 rq91 rqa0 rqa1 rqa2 rqa3
    have hc := c_split e6
    rw [F2.out.1, F2.out.2] at hc
    refine (hc).mono ?_
    rintro e w203 ⟨tv, uv, rfl, ht, hu, b⟩
    clear hc
    obtain ⟨nb, ob, lb, cb, rfl, ib⟩ := ht.see HT2.out (Nat.le_refl _)
    clear ht
    obtain ⟨nc, oc, lc, cc, mc, Oc, Lc, Cc, rfl, j1, j2⟩ := hu
    have ec : EV w203 (.agg #[.bool nc, .slice oc lc cc, .bool mc, .slice Oc Lc Cc]) (hq : Int) ((hp % hq : Nat) : Int) := ⟨_, _, _, _, _, _, _, _, rfl, j1, j2⟩
    clear j1 j2
    replace e5 := e5.below b
    replace e6 := e6.below b
    replace e7 := e7.below b
    replace e8 := e8.below b
    replace i9 := i9.below b
    replace ea := ea.below b
    replace qR := qR.below b
    replace q5 := q5.below b
    replace q6 := q6.below b
    replace q7 := q7.below b
    replace q8 := q8.below b
    replace q9 := q9.below b
    replace qa := qa.below b
    replace hb := bstep hb b
    clear b
    have hs8 : v105 + 1 < w203.heap.size := (Array.getElem?_eq_some_iff.1 q8).1
    obtain ⟨W204, hW204⟩ : ∃ W, W = (w203.alloc (.cells #[.bool nb, .slice ob lb cb] 25)).alloc (.cells #[.bool nc, .slice oc lc cc, .bool mc, .slice Oc Lc Cc] 58) := ⟨_, rfl⟩
    have qb : ICell W204 (w203.heap.size) nb (.slice ob lb cb) := by rw [hW204]; exact (icell_step (icell_new _ rfl))
    have qc : ECell W204 (w203.heap.size + 1) nc (.slice oc lc cc) mc (.slice Oc Lc Cc) := by rw [hW204]; exact (ecell_new _ (by simp))
    have b : Below w203.heap.size w203 W204 := by rw [hW204]; exact bstep (belowA _ _) (belowA _ _)
    replace e5 := e5.below b
    replace e6 := e6.below b
    replace e7 := e7.below b
    replace e8 := e8.below b
    replace i9 := i9.below b
    replace ea := ea.below b
    replace ib := ib.below b
    replace ec := ec.below b
    replace qR := qR.below b
    replace q5 := q5.below b
    replace q6 := q6.below b
    replace q7 := q7.below b
    replace q8 := q8.below b
    replace q9 := q9.below b
    replace qa := qa.below b
    replace hb := bstep hb b
    clear b
    have rqR0 : ((w203.alloc (.cells #[.bool nb, .slice ob lb cb] 25)).alloc (.cells #[.bool nc, .slice oc lc cc, .bool mc, .slice Oc Lc Cc] 58)).cell? ⟨g + 1 + 1, 0, none⟩ = some (.bool false) := by rw [← hW204]; exact qR.cells.1
    have rqR1 : ((w203.alloc (.cells #[.bool nb, .slice ob lb cb] 25)).alloc (.cells #[.bool nc, .slice oc lc cc, .bool mc, .slice Oc Lc Cc] 58)).cell? ⟨g + 1 + 1, 1, none⟩ = some (.slice none 0 0) := by rw [← hW204]; exact qR.cells.2.1
    have rqR2 : ((w203.alloc (.cells #[.bool nb, .slice ob lb cb] 25)).alloc (.cells #[.bool nc, .slice oc lc cc, .bool mc, .slice Oc Lc Cc] 58)).cell? ⟨g + 1 + 1, 2, none⟩ = some (.slice none 0 0) := by rw [← hW204]; exact qR.cells.2.2
    have rq50 : ((w203.alloc (.cells #[.bool nb, .slice ob lb cb] 25)).alloc (.cells #[.bool nc, .slice oc lc cc, .bool mc, .slice Oc Lc Cc] 58)).cell? ⟨vx, 0, none⟩ = some (.bool n5) := by rw [← hW204]; exact q5.cells.1
    have rq51 : ((w203.alloc (.cells #[.bool nb, .slice ob lb cb] 25)).alloc (.cells #[.bool nc, .slice oc lc cc, .bool mc, .slice Oc Lc Cc] 58)).cell? ⟨vx, 1, none⟩ = some (.slice o5 l5 c5) := by rw [← hW204]; exact q5.cells.2.1
    have rq52 : ((w203.alloc (.cells #[.bool nb, .slice ob lb cb] 25)).alloc (.cells #[.bool nc, .slice oc lc cc, .bool mc, .slice Oc Lc Cc] 58)).cell? ⟨vx, 2, none⟩ = some (.bool m5) := by rw [← hW204]; exact q5.cells.2.2.1
    have rq53 : ((w203.alloc (.cells #[.bool nb, .slice ob lb cb] 25)).alloc (.cells #[.bool nc, .slice oc lc cc, .bool mc, .slice Oc Lc Cc] 58)).cell? ⟨vx, 3, none⟩ = some (.slice O5 L5 C5) := by rw [← hW204]; exact q5.cells.2.2.2
    have rq60 : ((w203.alloc (.cells #[.bool nb, .slice ob lb cb] 25)).alloc (.cells #[.bool nc, .slice oc lc cc, .bool mc, .slice Oc Lc Cc] 58)).cell? ⟨vy, 0, none⟩ = some (.bool n6) := by rw [← hW204]; exact q6.cells.1
    have rq61 : ((w203.alloc (.cells #[.bool nb, .slice ob lb cb] 25)).alloc (.cells #[.bool nc, .slice oc lc cc, .bool mc, .slice Oc Lc Cc] 58)).cell? ⟨vy, 1, none⟩ = some (.slice o6 l6 c6) := by rw [← hW204]; exact q6.cells.2.1
    have rq62 : ((w203.alloc (.cells #[.bool nb, .slice ob lb cb] 25)).alloc (.cells #[.bool nc, .slice oc lc cc, .bool mc, .slice Oc Lc Cc] 58)).cell? ⟨vy, 2, none⟩ = some (.bool m6) := by rw [← hW204]; exact q6.cells.2.2.1
    have rq63 : ((w203.alloc (.cells #[.bool nb, .slice ob lb cb] 25)).alloc (.cells #[.bool nc, .slice oc lc cc, .bool mc, .slice Oc Lc Cc] 58)).cell? ⟨vy, 3, none⟩ = some (.slice O6 L6 C6) := by rw [← hW204]; exact q6.cells.2.2.2
    have rq70 : ((w203.alloc (.cells #[.bool nb, .slice ob lb cb] 25)).alloc (.cells #[.bool nc, .slice oc lc cc, .bool mc, .slice Oc Lc Cc] 58)).cell? ⟨v105, 0, none⟩ = some (.bool n7) := by rw [← hW204]; exact q7.cells.1
    have rq71 : ((w203.alloc (.cells #[.bool nb, .slice ob lb cb] 25)).alloc (.cells #[.bool nc, .slice oc lc cc, .bool mc, .slice Oc Lc Cc] 58)).cell? ⟨v105, 1, none⟩ = some (.slice o7 l7 c7) := by rw [← hW204]; exact q7.cells.2.1
    have rq72 : ((w203.alloc (.cells #[.bool nb, .slice ob lb cb] 25)).alloc (.cells #[.bool nc, .slice oc lc cc, .bool mc, .slice Oc Lc Cc] 58)).cell? ⟨v105, 2, none⟩ = some (.bool m7) := by rw [← hW204]; exact q7.cells.2.2.1
    have rq73 : ((w203.alloc (.cells #[.bool nb, .slice ob lb cb] 25)).alloc (.cells #[.bool nc, .slice oc lc cc, .bool mc, .slice Oc Lc Cc] 58)).cell? ⟨v105, 3, none⟩ = some (.slice O7 L7 C7) := by rw [← hW204]; exact q7.cells.2.2.2
    have rq80 : ((w203.alloc (.cells #[.bool nb, .slice ob lb cb] 25)).alloc (.cells #[.bool nc, .slice oc lc cc, .bool mc, .slice Oc Lc Cc] 58)).cell? ⟨v105 + 1, 0, none⟩ = some (.bool n8) := by rw [← hW204]; exact q8.cells.1
    have rq81 : ((w203.alloc (.cells #[.bool nb, .slice ob lb cb] 25)).alloc (.cells #[.bool nc, .slice oc lc cc, .bool mc, .slice Oc Lc Cc] 58)).cell? ⟨v105 + 1, 1, none⟩ = some (.slice o8 l8 c8) := by rw [← hW204]; exact q8.cells.2.1
    have rq82 : ((w203.alloc (.cells #[.bool nb, .slice ob lb cb] 25)).alloc (.cells #[.bool nc, .slice oc lc cc, .bool mc, .slice Oc Lc Cc] 58)).cell? ⟨v105 + 1, 2, none⟩ = some (.bool m8) := by rw [← hW204]; exact q8.cells.2.2.1
    have rq83 : ((w203.alloc (.cells #[.bool nb, .slice ob lb cb] 25)).alloc (.cells #[.bool nc, .slice oc lc cc, .bool mc, .slice Oc Lc Cc] 58)).cell? ⟨v105 + 1, 3, none⟩ = some (.slice O8 L8 C8) := by rw [← hW204]; exact q8.cells.2.2.2
    have rq90 : ((w203.alloc (.cells #[.bool nb, .slice ob lb cb] 25)).alloc (.cells #[.bool nc, .slice oc lc cc, .bool mc, .slice Oc Lc Cc] 58)).cell? ⟨v202, 0, none⟩ = some (.bool n9) := by rw [← hW204]; exact q9.cells.1
    have rq91 : ((w203.alloc (.cells #[.bool nb, .slice ob lb cb] 25)).alloc (.cells #[.bool nc, .slice oc lc cc, .bool mc, .slice Oc Lc Cc] 58)).cell? ⟨v202, 1, none⟩ = some (.slice o9 l9 c9) := by rw [← hW204]; exact q9.cells.2
    have rqa0 : ((w203.alloc (.cells #[.bool nb, .slice ob lb cb] 25)).alloc (.cells #[.bool nc, .slice oc lc cc, .bool mc, .slice Oc Lc Cc] 58)).cell? ⟨v202 + 1, 0, none⟩ = some (.bool na) := by rw [← hW204]; exact qa.cells.1
    have rqa1 : ((w203.alloc (.cells #[.bool nb, .slice ob lb cb] 25)).alloc (.cells #[.bool nc, .slice oc lc cc, .bool mc, .slice Oc Lc Cc] 58)).cell? ⟨v202 + 1, 1, none⟩ = some (.slice oa la ca) := by rw [← hW204]; exact qa.cells.2.1
    have rqa2 : ((w203.alloc (.cells #[.bool nb, .slice ob lb cb] 25)).alloc (.cells #[.bool nc, .slice oc lc cc, .bool mc, .slice Oc Lc Cc] 58)).cell? ⟨v202 + 1, 2, none⟩ = some (.bool ma) := by rw [← hW204]; exact qa.cells.2.2.1
    have rqa3 : ((w203.alloc (.cells #[.bool nb, .slice ob lb cb] 25)).alloc (.cells #[.bool nc, .slice oc lc cc, .bool mc, .slice Oc Lc Cc] 58)).cell? ⟨v202 + 1, 3, none⟩ = some (.slice Oa La Ca) := by rw [← hW204]; exact qa.cells.2.2.2
    have rqb0 : ((w203.alloc (.cells #[.bool nb, .slice ob lb cb] 25)).alloc (.cells #[.bool nc, .slice oc lc cc, .bool mc, .slice Oc Lc Cc] 58)).cell? ⟨w203.heap.size, 0, none⟩ = some (.bool nb) := by rw [← hW204]; exact qb.cells.1
    have rqb1 : ((w203.alloc (.cells #[.bool nb, .slice ob lb cb] 25)).alloc (.cells #[.bool nc, .slice oc lc cc, .bool mc, .slice Oc Lc Cc] 58)).cell? ⟨w203.heap.size, 1, none⟩ = some (.slice ob lb cb) := by rw [← hW204]; exact qb.cells.2
    have rqc0 : ((w203.alloc (.cells #[.bool nb, .slice ob lb cb] 25)).alloc (.cells #[.bool nc, .slice oc lc cc, .bool mc, .slice Oc Lc Cc] 58)).cell? ⟨w203.heap.size + 1, 0, none⟩ = some (.bool nc) := by rw [← hW204]; exact qc.cells.1
    have rqc1 : ((w203.alloc (.cells #[.bool nb, .slice ob lb cb] 25)).alloc (.cells #[.bool nc, .slice oc lc cc, .bool mc, .slice Oc Lc Cc] 58)).cell? ⟨w203.heap.size + 1, 1, none⟩ = some (.slice oc lc cc) := by rw [← hW204]; exact qc.cells.2.1
    have rqc2 : ((w203.alloc (.cells #[.bool nb, .slice ob lb cb] 25)).alloc (.cells #[.bool nc, .slice oc lc cc, .bool mc, .slice Oc Lc Cc] 58)).cell? ⟨w203.heap.size + 1, 2, none⟩ = some (.bool mc) := by rw [← hW204]; exact qc.cells.2.2.1
    have rqc3 : ((w203.alloc (.cells #[.bool nb, .slice ob lb cb] 25)).alloc (.cells #[.bool nc, .slice oc lc cc, .bool mc, .slice Oc Lc Cc] 58)).cell? ⟨w203.heap.size + 1, 3, none⟩ = some (.slice Oc Lc Cc) := by rw [← hW204]; exact qc.cells.2.2.2
    obtain ⟨v204, hv204⟩ : ∃ v, v = w203.heap.size := ⟨_, rfl⟩
    rw [← hv204] at qb qc
    have HW204 : Hid (W204 = (w203.alloc (.cells #[.bool nb, .slice ob lb cb] 25)).alloc (.cells #[.bool nc, .slice oc lc cc, .bool mc, .slice Oc Lc Cc] 58)) := hW204
    have Hv204 : Hid (v204 = w203.heap.size) := hv204
    clear hW204 hv204
    go_wp2_with fail
    rw [← HW204.out, ← Hv204.out]
    have hzc : v105 + 1 < v204 := by rw [Hv204.out]; exact hs8
    clear hs8
    clear HW204 Hv204 rqR0 rqR1 rqR2 rq50 rq51 rq52 rq53 rq60 rq61 rq62 rq63 rq70 rq71 rq72 rq73 rq80 rq81 rq82 rq83 rq90 rq91 rqa0 rqa1 rqa2 rqa3 rqb0 rqb1 rqc0 rqc1 rqc2 rqc3
    clear F1 F2
    by_cases h0 : lp % lq = 0
    ·
      have hz : ((lp % lq : Nat) : Int) = 0 := by rw [h0]; rfl
      refine (c_some false (by rw [hz]; rfl) ea).mono ?_
      rintro e w305 ⟨rfl, b⟩
      replace e5 := e5.below b
      replace e6 := e6.below b
      replace e7 := e7.below b
      replace e8 := e8.below b
      replace i9 := i9.below b
      replace ea := ea.below b
      replace ib := ib.below b
      replace ec := ec.below b
      replace qR := qR.below b
      replace q5 := q5.below b
      replace q6 := q6.below b
      replace q7 := q7.below b
      replace q8 := q8.below b
      replace q9 := q9.below b
      replace qa := qa.below b
      replace qb := qb.below b
      replace qc := qc.below b
      replace hb := bstep hb b
      clear b
      obtain ⟨cqR0, cqR1, cqR2⟩ := qR.cells
      obtain ⟨cq50, cq51, cq52, cq53⟩ := q5.cells
      obtain ⟨cq60, cq61, cq62, cq63⟩ := q6.cells
      obtain ⟨cq70, cq71, cq72, cq73⟩ := q7.cells
      obtain ⟨cq80, cq81, cq82, cq83⟩ := q8.cells
      obtain ⟨cq90, cq91⟩ := q9.cells
      obtain ⟨cqa0, cqa1, cqa2, cqa3⟩ := qa.cells
      obtain ⟨cqb0, cqb1⟩ := qb.cells
      obtain ⟨cqc0, cqc1, cqc2, cqc3⟩ := qc.cells
      go_wp2_with fail
      clear cqR0 cqR1 cqR2 cq50 cq51 cq52 cq53 cq60 cq61 cq62 cq63 cq70 cq71 cq72 cq73 cq80 cq81 cq82 cq83 cq90 cq91 cqa0 cqa1 cqa2 cqa3 cqb0 cqb1 cqc0 cqc1 cqc2 cqc3
      obtain ⟨hX, hY⟩ := HX.out
      rw [btw_int _ _ _ _ _ h0] at hX hY
      simp only [Nat.mul_one] at hX hY
      have t1 : lp / lq * nx ≤ X := by rw [hX, Nat.mul_comm]; omega
      have t2 : lp / lq * ny ≤ Y := by rw [hY, Nat.mul_comm]; omega
      have hc := c_ended e7 e8 i9 (by have := sz_nat t1 HSX.out.1; rwa [Int.natCast_mul] at this) (by have := sz_nat t2 HSX.out.2; rwa [Int.natCast_mul] at this)
      have x1 : (lx : Int) + ((lp / lq : Nat) : Int) * (nx : Int) = (X : Int) := by rw [hX, Int.natCast_add, Int.natCast_mul, Int.mul_comm]
      have x2 : (ly : Int) + ((lp / lq : Nat) : Int) * (ny : Int) = (Y : Int) := by rw [hY, Int.natCast_add, Int.natCast_mul, Int.mul_comm]
      rw [x1, x2] at hc
      clear hX hY t1 t2 x1 x2 hz h0
      have hB := HG0.out _ qR
      refine (hc).mono ?_
      rintro e w306 ⟨m, d, rfl, hm, hd, hap, b⟩
      clear hc
      obtain ⟨mo, ml, mc, rfl⟩ := hm.sl
      obtain ⟨mO, mL, mC, rfl⟩ := hd.sl
      replace e5 := e5.below b
      replace e6 := e6.below b
      replace e7 := e7.below b
      replace e8 := e8.below b
      replace i9 := i9.below b
      replace ea := ea.below b
      replace ib := ib.below b
      replace ec := ec.below b
      replace qR := qR.below b
      replace q5 := q5.below b
      replace q6 := q6.below b
      replace q7 := q7.below b
      replace q8 := q8.below b
      replace q9 := q9.below b
      replace qa := qa.below b
      replace qb := qb.below b
      replace qc := qc.below b
      replace hb := bstep hb b
      clear b
      have HE : Hid (AEnd w X Y (.returned (.agg #[.bool (decide ((X : Int) < 0)), .slice mo ml mc, .slice mO mL mC])) (((w306.setCell ⟨g + 1 + 1, 0, none⟩ (.bool (decide ((X : Int) < 0)))).setCell ⟨g + 1 + 1, 1, none⟩ (.slice mo ml mc)).setCell ⟨g + 1 + 1, 2, none⟩ (.slice mO mL mC))) := aend_done rfl (by rw [HG.out]; omega) hm hd hap hB hb
      have HW : Hid (QCell (((w306.setCell ⟨g + 1 + 1, 0, none⟩ (.bool (decide ((X : Int) < 0)))).setCell ⟨g + 1 + 1, 1, none⟩ (.slice mo ml mc)).setCell ⟨g + 1 + 1, 2, none⟩ (.slice mO mL mC)) (g + 1 + 1) (decide ((X : Int) < 0)) (.slice mo ml mc) (.slice mO mL mC)) := qR.write _ _ _
      obtain ⟨y0, y1, y2⟩ := qR.cells
      have f0 := qR.thaw 0
      have f1 := qR.thaw 1
      have f2 := qR.thaw 2
      generalize decide ((X : Int) < 0) = bX at *
      clear hm hd hap hb hB qR q5 q6 q7 q8 q9 qa qb qc e5 e6 e7 e8 i9 ea ib ec
      go_wp2_with fail
      (try simp only [Exit.inBlock, Exit.then])
      exact bodyPost_ret (results_cell_row rfl _ _ (g + 1 + 1) 27 _ (0, 0) _ rfl HW.out Tryz.underlying27 rfl (by kernel_rfl)) rfl HE.out
    ·
      have hz : true = (cmpZ ((lp % lq : Nat) : Int) 0 != 0) := by unfold cmpZ; rw [if_neg (by omega), if_neg (by omega)]; rfl
      refine (c_some true hz ea).mono ?_
      rintro e w305 ⟨rfl, b⟩
      replace e5 := e5.below b
      replace e6 := e6.below b
      replace e7 := e7.below b
      replace e8 := e8.below b
      replace i9 := i9.below b
      replace ea := ea.below b
      replace ib := ib.below b
      replace ec := ec.below b
      replace qR := qR.below b
      replace q5 := q5.below b
      replace q6 := q6.below b
      replace q7 := q7.below b
      replace q8 := q8.below b
      replace q9 := q9.below b
      replace qa := qa.below b
      replace qb := qb.below b
      replace qc := qc.below b
      replace hb := bstep hb b
      clear b
      clear hz
      obtain ⟨cqR0, cqR1, cqR2⟩ := qR.cells
      obtain ⟨cq50, cq51, cq52, cq53⟩ := q5.cells
      obtain ⟨cq60, cq61, cq62, cq63⟩ := q6.cells
      obtain ⟨cq70, cq71, cq72, cq73⟩ := q7.cells
      obtain ⟨cq80, cq81, cq82, cq83⟩ := q8.cells
      obtain ⟨cq90, cq91⟩ := q9.cells
      obtain ⟨cqa0, cqa1, cqa2, cqa3⟩ := qa.cells
      obtain ⟨cqb0, cqb1⟩ := qb.cells
      obtain ⟨cqc0, cqc1, cqc2, cqc3⟩ := qc.cells
      go_wp2_with fail
      clear cqR0 cqR1 cqR2 cq50 cq51 cq52 cq53 cq60 cq61 cq62 cq63 cq70 cq71 cq72 cq73 cq80 cq81 cq82 cq83 cq90 cq91 cqa0 cqa1 cqa2 cqa3 cqb0 cqb1 cqc0 cqc1 cqc2 cqc3
      by_cases h6 : lp / lq < hp / hq
      ·
       have hc := c_cmp i9 ib
       rw [show cmpZ ((lp / lq : Nat) : Int) ((hp / hq : Nat) : Int) = -1 by unfold cmpZ; rw [if_pos (by omega)]] at hc
       refine (hc).mono ?_
       rintro e w406 ⟨rfl, b⟩
       clear hc
       replace e5 := e5.below b
       replace e6 := e6.below b
       replace e7 := e7.below b
       replace e8 := e8.below b
       replace i9 := i9.below b
       replace ea := ea.below b
       replace ib := ib.below b
       replace ec := ec.below b
       replace qR := qR.below b
       replace q5 := q5.below b
       replace q6 := q6.below b
       replace q7 := q7.below b
       replace q8 := q8.below b
       replace q9 := q9.below b
       replace qa := qa.below b
       replace qb := qb.below b
       replace qc := qc.below b
       replace hb := bstep hb b
       clear b
       obtain ⟨cqR0, cqR1, cqR2⟩ := qR.cells
       obtain ⟨cq50, cq51, cq52, cq53⟩ := q5.cells
       obtain ⟨cq60, cq61, cq62, cq63⟩ := q6.cells
       obtain ⟨cq70, cq71, cq72, cq73⟩ := q7.cells
       obtain ⟨cq80, cq81, cq82, cq83⟩ := q8.cells
       obtain ⟨cq90, cq91⟩ := q9.cells
       obtain ⟨cqa0, cqa1, cqa2, cqa3⟩ := qa.cells
       obtain ⟨cqb0, cqb1⟩ := qb.cells
       obtain ⟨cqc0, cqc1, cqc2, cqc3⟩ := qc.cells
       go_wp2_with fail
       clear cqR0 cqR1 cqR2 cq50 cq51 cq52 cq53 cq60 cq61 cq62 cq63 cq70 cq71 cq72 cq73 cq80 cq81 cq82 cq83 cq90 cq91 cqa0 cqa1 cqa2 cqa3 cqb0 cqb1 cqc0 cqc1 cqc2 cqc3
       obtain ⟨hX, hY⟩ := HX.out
       rw [btw_next _ _ _ _ _ h0 h6] at hX hY
       simp only [Nat.mul_one] at hX hY
       have HT1 : Hid (Sz (((lp / lq : Nat) : Int) + 1) 1000000) := by have := sz_nat (Nat.le_trans h6 (Nat.div_le_self _ _)) e6.sz1.1; exact_mod_cast this
       have t1 : (lp / lq + 1) * nx ≤ X := by rw [hX, Nat.mul_comm]; omega
       have t2 : (lp / lq + 1) * ny ≤ Y := by rw [hY, Nat.mul_comm]; omega
       have S1 : Hid (Sz ((((lp / lq : Nat) : Int) + 1) * (nx : Int)) 1000000) := by have := sz_nat t1 HSX.out.1; exact_mod_cast this
       have S2 : Hid (Sz ((((lp / lq : Nat) : Int) + 1) * (ny : Int)) 1000000) := by have := sz_nat t2 HSX.out.2; exact_mod_cast this
       have X1 : Hid ((lx : Int) + (((lp / lq : Nat) : Int) + 1) * (nx : Int) = (X : Int)) := by show _ = _; rw [hX, Int.natCast_add, Int.natCast_mul, Int.mul_comm]; rfl
       have X2 : Hid ((ly : Int) + (((lp / lq : Nat) : Int) + 1) * (ny : Int) = (Y : Int)) := by show _ = _; rw [hY, Int.natCast_add, Int.natCast_mul, Int.mul_comm]; rfl
       clear hX hY t1 t2 h0 h6
       have KEEP : ∀ u, Below w406.heap.size w406 u → AllL u [(0, fun w' => w'.cell? ⟨v105, 0, none⟩ = some (.bool n7) ∧ w'.cell? ⟨v105, 1, none⟩ = some (.slice o7 l7 c7) ∧ w'.cell? ⟨v105, 2, none⟩ = some (.bool m7) ∧ w'.cell? ⟨v105, 3, none⟩ = some (.slice O7 L7 C7)), (1, fun w' => w'.cell? ⟨v105 + 1, 0, none⟩ = some (.bool n8) ∧ w'.cell? ⟨v105 + 1, 1, none⟩ = some (.slice o8 l8 c8) ∧ w'.cell? ⟨v105 + 1, 2, none⟩ = some (.bool m8) ∧ w'.cell? ⟨v105 + 1, 3, none⟩ = some (.slice O8 L8 C8)), (2, fun w' => w'.cell? ⟨v202, 0, none⟩ = some (.bool n9) ∧ w'.cell? ⟨v202, 1, none⟩ = some (.slice o9 l9 c9))] := fun u B => ⟨(q7.below B).cells, (q8.below B).cells, (q9.below B).cells, trivial⟩
       refine region_late [(0, fun w' => w'.cell? ⟨v105, 0, none⟩ = some (.bool n7) ∧ w'.cell? ⟨v105, 1, none⟩ = some (.slice o7 l7 c7) ∧ w'.cell? ⟨v105, 2, none⟩ = some (.bool m7) ∧ w'.cell? ⟨v105, 3, none⟩ = some (.slice O7 L7 C7)), (1, fun w' => w'.cell? ⟨v105 + 1, 0, none⟩ = some (.bool n8) ∧ w'.cell? ⟨v105 + 1, 1, none⟩ = some (.slice o8 l8 c8) ∧ w'.cell? ⟨v105 + 1, 2, none⟩ = some (.bool m8) ∧ w'.cell? ⟨v105 + 1, 3, none⟩ = some (.slice O8 L8 C8)), (2, fun w' => w'.cell? ⟨v202, 0, none⟩ = some (.bool n9) ∧ w'.cell? ⟨v202, 1, none⟩ = some (.slice o9 l9 c9))] (by kernel_rfl) ?_
       have BZ : Below w406.heap.size w406 w406.drew := below_drew' _
       obtain ⟨wz, hwz⟩ : ∃ u, u = w406.drew := ⟨_, rfl⟩
       rw [← hwz] at BZ ⊢
       clear hwz
       have hHeld := KEEP _ BZ
       have ke7 := e7.below BZ
       have ke8 := e8.below BZ
       have ki9 := i9.below BZ
       refine late_tk 0 (v := .agg #[.bool n7, .slice o7 l7 c7, .bool m7, .slice O7 L7 C7]) rfl (List.Mem.head _) (Or.inl ⟨by rfl, ?_⟩) hHeld ?_
       · (intro u hu; (try dsimp only at hu); go_split_ands; go_simp)
       try simp only [pu1, pu2, pu3, pu4]
       refine late_tk 1 (v := .agg #[.bool n8, .slice o8 l8 c8, .bool m8, .slice O8 L8 C8]) rfl (List.Mem.tail _ (List.Mem.head _)) (Or.inl ⟨by rfl, ?_⟩) hHeld ?_
       · (intro u hu; (try dsimp only at hu); go_split_ands; go_simp)
       try simp only [pu1, pu2, pu3, pu4]
       refine late_tk 2 (v := .agg #[.bool n9, .slice o9 l9 c9]) rfl (List.Mem.tail _ (List.Mem.tail _ (List.Mem.head _))) (Or.inl ⟨by rfl, ?_⟩) hHeld ?_
       · (intro u hu; (try dsimp only at hu); go_split_ands; go_simp)
       try simp only [pu1, pu2, pu3, pu4]
       refine late_st 3 rfl (fun K hK => ?_)
       go_simp
       refine (c_of (n := 1) (by decide) (by decide)).mono ?_
       rintro e w407 ⟨v, rfl, hv, b407⟩
       obtain ⟨d1, p1, s1, t1, rfl, i1⟩ := hv.see Sz.one (by decide)
       clear hv
       replace ke7 := ke7.below b407
       replace ke8 := ke8.below b407
       replace ki9 := ki9.below b407
       have B407 : Below w406.heap.size w406 w407 := bstep BZ b407
       clear BZ b407
       replace hHeld := KEEP _ B407
       go_wp2_with fail
       refine hK.out _ _ (AllL.kept hHeld) ?_
       clear hK K
       try simp only [pu1, pu2, pu3, pu4]
       refine late_st 4 rfl (fun K hK => ?_)
       go_simp
       refine (c_add ki9 i1).mono ?_
       rintro e w408 ⟨v, rfl, hv, b408⟩
       obtain ⟨d2, p2, s2, t2, rfl, i2⟩ := hv.see HT1.out (Nat.le_refl _)
       clear hv ki9 i1
       replace ke7 := ke7.below b408
       replace ke8 := ke8.below b408
       have B408 : Below w406.heap.size w406 w408 := bstep B407 b408
       clear B407 b408
       replace hHeld := KEEP _ B408
       go_wp2_with fail
       refine hK.out _ _ (AllL.kept hHeld) ?_
       clear hK K
       try simp only [pu1, pu2, pu3, pu4]
       have hc := c_ended ke7 ke8 i2 S1.out S2.out
       rw [X1.out, X2.out] at hc
       have hB := HG0.out _ (qR.below B408)
       refine late_st 5 rfl (fun K hK => ?_)
       go_simp
       refine (hc).mono ?_
       rintro e w409 ⟨m, d, rfl, hm, hd, hap, b409⟩
       clear hc ke7 ke8 i2
       obtain ⟨mo, ml, mc, rfl⟩ := hm.sl
       obtain ⟨mO, mL, mC, rfl⟩ := hd.sl
       have B409 : Below w406.heap.size w406 w409 := bstep B408 b409
       clear B408 b409
       replace hHeld := KEEP _ B409
       go_wp2_with fail
       refine hK.out _ _ (AllL.kept hHeld) ?_
       clear hK K
       try simp only [pu1, pu2, pu3, pu4]
       have qq := qR.below B409
       have HE : Hid (AEnd w X Y (.returned (.agg #[.bool (decide ((X : Int) < 0)), .slice mo ml mc, .slice mO mL mC])) (((w409.setCell ⟨g + 1 + 1, 0, none⟩ (.bool (decide ((X : Int) < 0)))).setCell ⟨g + 1 + 1, 1, none⟩ (.slice mo ml mc)).setCell ⟨g + 1 + 1, 2, none⟩ (.slice mO mL mC))) := aend_done rfl (by rw [HG.out]; omega) hm hd hap hB (bstep hb B409)
       have HW : Hid (QCell (((w409.setCell ⟨g + 1 + 1, 0, none⟩ (.bool (decide ((X : Int) < 0)))).setCell ⟨g + 1 + 1, 1, none⟩ (.slice mo ml mc)).setCell ⟨g + 1 + 1, 2, none⟩ (.slice mO mL mC)) (g + 1 + 1) (decide ((X : Int) < 0)) (.slice mo ml mc) (.slice mO mL mC)) := qq.write _ _ _
       obtain ⟨y0, y1, y2⟩ := qq.cells
       have f0 := qq.thaw 0
       have f1 := qq.thaw 1
       have f2 := qq.thaw 2
       clear qq hm hd hap hB KEEP
       generalize decide ((X : Int) < 0) = bX at *
       refine late_st 6 rfl (fun K hK => ?_)
       go_simp
       refine hK.out _ _ ⟨kpt 5, kpt 5, kpt 4, trivial⟩ ?_
       clear hK K
       try simp only [pu1, pu2, pu3, pu4]
       refine late_done (by kernel_rfl) ?_ _
       clear hHeld hb B409 qR q5 q6 q7 q8 q9 qa qb qc e5 e6 e7 e8 i9 ea ib ec y0 y1 y2 f0 f1 f2
       go_wp2_with fail
       (try simp only [Exit.inBlock, Exit.then])
       exact bodyPost_ret (results_cell_row rfl _ _ (g + 1 + 1) 27 _ (0, 0) _ rfl HW.out Tryz.underlying27 rfl (by kernel_rfl)) rfl HE.out
      ·
       have hc := c_cmp i9 ib
       obtain ⟨cz, hcz⟩ : ∃ c, c = cmpZ ((lp / lq : Nat) : Int) ((hp / hq : Nat) : Int) := ⟨_, rfl⟩
       have hcn : ¬ cz < 0 := by rw [hcz]; unfold cmpZ; rw [if_neg (by omega)]; split <;> decide
       rw [← hcz] at hc
       clear hcz
       refine (hc).mono ?_
       rintro e w406 ⟨rfl, b⟩
       clear hc
       replace e5 := e5.below b
       replace e6 := e6.below b
       replace e7 := e7.below b
       replace e8 := e8.below b
       replace i9 := i9.below b
       replace ea := ea.below b
       replace ib := ib.below b
       replace ec := ec.below b
       replace qR := qR.below b
       replace q5 := q5.below b
       replace q6 := q6.below b
       replace q7 := q7.below b
       replace q8 := q8.below b
       replace q9 := q9.below b
       replace qa := qa.below b
       replace qb := qb.below b
       replace qc := qc.below b
       replace hb := bstep hb b
       clear b
       obtain ⟨cqR0, cqR1, cqR2⟩ := qR.cells
       obtain ⟨cq50, cq51, cq52, cq53⟩ := q5.cells
       obtain ⟨cq60, cq61, cq62, cq63⟩ := q6.cells
       obtain ⟨cq70, cq71, cq72, cq73⟩ := q7.cells
       obtain ⟨cq80, cq81, cq82, cq83⟩ := q8.cells
       obtain ⟨cq90, cq91⟩ := q9.cells
       obtain ⟨cqa0, cqa1, cqa2, cqa3⟩ := qa.cells
       obtain ⟨cqb0, cqb1⟩ := qb.cells
       obtain ⟨cqc0, cqc1, cqc2, cqc3⟩ := qc.cells
       go_wp2_with fail
       clear cqR0 cqR1 cqR2 cq50 cq51 cq52 cq53 cq60 cq61 cq62 cq63 cq70 cq71 cq72 cq73 cq80 cq81 cq82 cq83 cq90 cq91 cqa0 cqa1 cqa2 cqa3 cqb0 cqb1 cqc0 cqc1 cqc2 cqc3
       skip
       obtain ⟨hG, ⟨hX, hY⟩, t1, t2⟩ := btw_go HH.out.1 HH.out.2.1 HH.out.2.2.1 HH.out.2.2.2.1 HH.out.2.2.2.2 h0 h6 HX.out.1 HX.out.2
       have S1 : Hid (Sz (((lp / lq : Nat) : Int) * (nx : Int)) 1000000) := by have := sz_nat t1 HSX.out.1; exact_mod_cast this
       have S2 : Hid (Sz (((lp / lq : Nat) : Int) * (ny : Int)) 1000000) := by have := sz_nat t2 HSX.out.2; exact_mod_cast this
       have HGO : Hid ((0 < hq ∧ 0 < hp % hq ∧ 0 < lp % lq ∧ hq * (lp % lq) ≤ lq * (hp % hq) ∧ hp % hq + lp % lq ≤ k2) ∧ X = nx * (btw k2 hq (hp % hq) lq (lp % lq)).2 + (lx + lp / lq * nx) * (btw k2 hq (hp % hq) lq (lp % lq)).1 ∧ Y = ny * (btw k2 hq (hp % hq) lq (lp % lq)).2 + (ly + lp / lq * ny) * (btw k2 hq (hp % hq) lq (lp % lq)).1) := ⟨hG, hX, hY⟩
       have S3 : Hid (Sz ((lx + lp / lq * nx : Nat) : Int) 1000000 ∧ Sz ((ly + lp / lq * ny : Nat) : Int) 1000000) := by
        have hx9 := (btw_simp k2 hq (hp % hq) lq (lp % lq) hG.1 hG.2.1 hG.2.2.1 hG.2.2.2.1 hG.2.2.2.2).xpos hG.1
        have z1 := Nat.mul_le_mul_left (lx + lp / lq * nx) hx9
        have z2 := Nat.mul_le_mul_left (ly + lp / lq * ny) hx9
        refine ⟨sz_nat (b := X) ?_ HSX.out.1, sz_nat (b := Y) ?_ HSX.out.2⟩
        · rw [hX]; generalize nx * (btw k2 hq (hp % hq) lq (lp % lq)).2 = A9; omega
        · rw [hY]; generalize ny * (btw k2 hq (hp % hq) lq (lp % lq)).2 = A9; omega
       clear hG hX hY t1 t2 h0 h6
       have n5z : vx ≠ v105 := by omega
       have n5u : vx ≠ v105 + 1 := by omega
       have n6z : vy ≠ v105 := by omega
       have n6u : vy ≠ v105 + 1 := by omega
       have naz : v202 + 1 ≠ v105 := by omega
       have nau : v202 + 1 ≠ v105 + 1 := by omega
       have ncz : v204 + 1 ≠ v105 := by omega
       have ncu : v204 + 1 ≠ v105 + 1 := by omega
       have n7u : v105 ≠ v105 + 1 := by omega
       have n8z : v105 + 1 ≠ v105 := by omega
       have ngz : g + 1 + 1 ≠ v105 := by omega
       have ngu : g + 1 + 1 ≠ v105 + 1 := by omega
       have n7x : v105 ≠ vx := by omega
       have n7y : v105 ≠ vy := by omega
       have n8x : v105 + 1 ≠ vx := by omega
       have n8y : v105 + 1 ≠ vy := by omega
       have ngx : g + 1 + 1 ≠ vx := by omega
       have ngy : g + 1 + 1 ≠ vy := by omega
       have nax : v202 + 1 ≠ vx := by omega
       have hwz : w.heap.size ≤ v105 := by rw [← HG.out]; omega
       have hwx : w.heap.size ≤ vx := by rw [← HG.out]; omega
       have hwy : w.heap.size ≤ vy := by rw [← HG.out]; omega
       have KEEP : ∀ u, Below w406.heap.size w406 u → AllL u [(0, fun w' => w'.cell? ⟨v105 + 1, 0, none⟩ = some (.bool n8) ∧ w'.cell? ⟨v105 + 1, 1, none⟩ = some (.slice o8 l8 c8) ∧ w'.cell? ⟨v105 + 1, 2, none⟩ = some (.bool m8) ∧ w'.cell? ⟨v105 + 1, 3, none⟩ = some (.slice O8 L8 C8)), (1, fun w' => w'.cell? ⟨v105, 0, none⟩ = some (.bool n7) ∧ w'.cell? ⟨v105, 1, none⟩ = some (.slice o7 l7 c7) ∧ w'.cell? ⟨v105, 2, none⟩ = some (.bool m7) ∧ w'.cell? ⟨v105, 3, none⟩ = some (.slice O7 L7 C7)), (2, fun w' => w'.cell? ⟨v105 + 1, 0, none⟩ = some (.bool n8) ∧ w'.cell? ⟨v105 + 1, 1, none⟩ = some (.slice o8 l8 c8) ∧ w'.cell? ⟨v105 + 1, 2, none⟩ = some (.bool m8) ∧ w'.cell? ⟨v105 + 1, 3, none⟩ = some (.slice O8 L8 C8)), (3, fun w' => w'.cell? ⟨v202, 0, none⟩ = some (.bool n9) ∧ w'.cell? ⟨v202, 1, none⟩ = some (.slice o9 l9 c9))] := fun u B => ⟨(q8.below B).cells, (q7.below B).cells, (q8.below B).cells, (q9.below B).cells, trivial⟩
       refine region_late [(0, fun w' => w'.cell? ⟨v105 + 1, 0, none⟩ = some (.bool n8) ∧ w'.cell? ⟨v105 + 1, 1, none⟩ = some (.slice o8 l8 c8) ∧ w'.cell? ⟨v105 + 1, 2, none⟩ = some (.bool m8) ∧ w'.cell? ⟨v105 + 1, 3, none⟩ = some (.slice O8 L8 C8)), (1, fun w' => w'.cell? ⟨v105, 0, none⟩ = some (.bool n7) ∧ w'.cell? ⟨v105, 1, none⟩ = some (.slice o7 l7 c7) ∧ w'.cell? ⟨v105, 2, none⟩ = some (.bool m7) ∧ w'.cell? ⟨v105, 3, none⟩ = some (.slice O7 L7 C7)), (2, fun w' => w'.cell? ⟨v105 + 1, 0, none⟩ = some (.bool n8) ∧ w'.cell? ⟨v105 + 1, 1, none⟩ = some (.slice o8 l8 c8) ∧ w'.cell? ⟨v105 + 1, 2, none⟩ = some (.bool m8) ∧ w'.cell? ⟨v105 + 1, 3, none⟩ = some (.slice O8 L8 C8)), (3, fun w' => w'.cell? ⟨v202, 0, none⟩ = some (.bool n9) ∧ w'.cell? ⟨v202, 1, none⟩ = some (.slice o9 l9 c9))] (by kernel_rfl) ?_
       have BZ : Below w406.heap.size w406 w406.drew := below_drew' _
       obtain ⟨wz, hwz⟩ : ∃ u, u = w406.drew := ⟨_, rfl⟩
       rw [← hwz] at BZ ⊢
       clear hwz
       have hHeld := KEEP _ BZ
       have ke7 := e7.below BZ
       have ke8 := e8.below BZ
       have ki9 := i9.below BZ
       refine late_tk 0 (v := .agg #[.bool n8, .slice o8 l8 c8, .bool m8, .slice O8 L8 C8]) rfl (List.Mem.head _) (Or.inl ⟨by rfl, ?_⟩) hHeld ?_
       · (intro u hu; (try dsimp only at hu); go_split_ands; go_simp)
       try simp only [pu1, pu2, pu3, pu4]
       refine late_tk 1 (v := .agg #[.bool n7, .slice o7 l7 c7, .bool m7, .slice O7 L7 C7]) rfl (List.Mem.tail _ (List.Mem.head _)) (Or.inl ⟨by rfl, ?_⟩) hHeld ?_
       · (intro u hu; (try dsimp only at hu); go_split_ands; go_simp)
       try simp only [pu1, pu2, pu3, pu4]
       refine late_tk 2 (v := .agg #[.bool n8, .slice o8 l8 c8, .bool m8, .slice O8 L8 C8]) rfl (List.Mem.tail _ (List.Mem.tail _ (List.Mem.head _))) (Or.inl ⟨by rfl, ?_⟩) hHeld ?_
       · (intro u hu; (try dsimp only at hu); go_split_ands; go_simp)
       try simp only [pu1, pu2, pu3, pu4]
       refine late_tk 3 (v := .agg #[.bool n9, .slice o9 l9 c9]) rfl (List.Mem.tail _ (List.Mem.tail _ (List.Mem.tail _ (List.Mem.head _)))) (Or.inl ⟨by rfl, ?_⟩) hHeld ?_
       · (intro u hu; (try dsimp only at hu); go_split_ands; go_simp)
       try simp only [pu1, pu2, pu3, pu4]
       have hc := c_follow ke7 ke8 ki9 S1.out S2.out
       have x1 : (lx : Int) + ((lp / lq : Nat) : Int) * (nx : Int) = ((lx + lp / lq * nx : Nat) : Int) := by rw [Int.natCast_add, Int.natCast_mul]
       have x2 : (ly : Int) + ((lp / lq : Nat) : Int) * (ny : Int) = ((ly + lp / lq * ny : Nat) : Int) := by rw [Int.natCast_add, Int.natCast_mul]
       rw [x1, x2] at hc
       clear x1 x2
       refine late_st 4 rfl (fun K hK => ?_)
       go_simp
       refine (hc).mono ?_
       rintro e w407 ⟨v, rfl, ⟨m, d, rfl, hm, hd, hap⟩, b407⟩
       clear hc hap
       obtain ⟨fo, fl, fc, rfl⟩ := hm.sl
       obtain ⟨fO, fL, fC, rfl⟩ := hd.sl
       have en := And.intro (IOwn.num ⟨_, rfl, hm⟩ S3.out.1 (Nat.le_refl _)) (IOwn.num ⟨_, rfl, hd⟩ S3.out.2 (Nat.le_refl _))
       generalize decide (((lx + lp / lq * nx : Nat) : Int) < 0) = bX at *
       generalize decide (((ly + lp / lq * ny : Nat) : Int) < 0) = bY at *
       have en2 : EV w407 (.agg #[.bool bX, .slice fo fl fc, .bool bY, .slice fO fL fC]) ((lx + lp / lq * nx : Nat) : Int) ((ly + lp / lq * ny : Nat) : Int) := ⟨_, _, _, _, _, _, _, _, rfl, en.1, en.2⟩
       clear en hm hd
       replace ke7 := ke7.below b407
       replace ke8 := ke8.below b407
       replace ki9 := ki9.below b407
       have B407 : Below w406.heap.size w406 w407 := bstep BZ b407
       clear BZ b407
       replace hHeld := KEEP _ B407
       go_wp2_with fail
       refine hK.out _ _ (AllL.kept hHeld) ?_
       clear hK K
       try simp only [pu1, pu2, pu3, pu4]
       have x5 : EC w407 vx (R4.mk n5 o5 l5 c5 m5 O5 L5 C5) := q5.below B407
       have x6 : EC w407 vy (R4.mk n6 o6 l6 c6 m6 O6 L6 C6) := q6.below B407
       have x7 : EC w407 v105 (R4.mk n7 o7 l7 c7 m7 O7 L7 C7) := q7.below B407
       have x8 : EC w407 (v105 + 1) (R4.mk n8 o8 l8 c8 m8 O8 L8 C8) := q8.below B407
       have d8 := e8.below B407
       have da := ea.below B407
       have dc := ec.below B407
       have xa : EC w407 (v202 + 1) (R4.mk na oa la ca ma Oa La Ca) := qa.below B407
       have xc : EC w407 (v204 + 1) (R4.mk nc oc lc cc mc Oc Lc Cc) := qc.below B407
       have hbn := bstep hb B407
       have qn := qR.below B407
       obtain ⟨X9, hX9⟩ : ∃ X, X = R4.put (R4.mk bX fo fl fc bY fO fL fC) (R4.put (R4.mk n8 o8 l8 c8 m8 O8 L8 C8) w407 v105) (v105 + 1) := ⟨_, rfl⟩
       have w1 : EC (R4.put (R4.mk n8 o8 l8 c8 m8 O8 L8 C8) w407 v105) (v105 + 1) (R4.mk n8 o8 l8 c8 m8 O8 L8 C8) := x8.other n8z
       have k5 : EC X9 (vx) (R4.mk n5 o5 l5 c5 m5 O5 L5 C5) := by rw [hX9]; exact (x5.other n5z).other n5u
       have k6 : EC X9 (vy) (R4.mk n6 o6 l6 c6 m6 O6 L6 C6) := by rw [hX9]; exact (x6.other n6z).other n6u
       have ka : EC X9 (v202 + 1) (R4.mk na oa la ca ma Oa La Ca) := by rw [hX9]; exact (xa.other naz).other nau
       have kc : EC X9 (v204 + 1) (R4.mk nc oc lc cc mc Oc Lc Cc) := by rw [hX9]; exact (xc.other ncz).other ncu
       have k7 : EC X9 v105 (R4.mk n8 o8 l8 c8 m8 O8 L8 C8) := by rw [hX9]; exact x7.put.other n7u
       have k8 : EC X9 (v105 + 1) (R4.mk bX fo fl fc bY fO fL fC) := by rw [hX9]; exact w1.put
       have g8 : EV X9 (.agg #[.bool n8, .slice o8 l8 c8, .bool m8, .slice O8 L8 C8]) nx ny := by rw [hX9]; exact (d8.put x7).put w1
       have ga : EV X9 (.agg #[.bool na, .slice oa la ca, .bool ma, .slice Oa La Ca]) lq ((lp % lq : Nat) : Int) := by rw [hX9]; exact (da.put x7).put w1
       have gc : EV X9 (.agg #[.bool nc, .slice oc lc cc, .bool mc, .slice Oc Lc Cc]) hq ((hp % hq : Nat) : Int) := by rw [hX9]; exact (dc.put x7).put w1
       have gn : EV X9 (.agg #[.bool bX, .slice fo fl fc, .bool bY, .slice fO fL fC]) ((lx + lp / lq * nx : Nat) : Int) ((ly + lp / lq * ny : Nat) : Int) := by rw [hX9]; exact (en2.put x7).put w1
       have hb9 : Below w.heap.size w X9 := by rw [hX9]; exact below_put (below_put hbn hwz) (Nat.le_succ_of_le hwz)
       have qR9 : QCell X9 (g + 1 + 1) false (.slice none 0 0) (.slice none 0 0) := by rw [hX9]; exact qput (qput qn ngz) ngu
       have HX9 : Hid (X9 = ((((((((w407.setCell ⟨v105, 0, none⟩ (.bool n8)).setCell ⟨v105, 1, none⟩ (.slice o8 l8 c8)).setCell ⟨v105, 2, none⟩ (.bool m8)).setCell ⟨v105, 3, none⟩ (.slice O8 L8 C8)).setCell ⟨v105 + 1, 0, none⟩ (.bool bX)).setCell ⟨v105 + 1, 1, none⟩ (.slice fo fl fc)).setCell ⟨v105 + 1, 2, none⟩ (.bool bY)).setCell ⟨v105 + 1, 3, none⟩ (.slice fO fL fC))) := by show _ = _; rw [hX9]; rfl
       clear hX9 w1 x5 x6 d8 da dc xa xc hbn qn en2
       obtain ⟨y0, y1, y2, y3⟩ := ECell.cells x7
       have f0 := ECell.thaw x7 0
       have f1 := ECell.thaw x7 1
       have f2 := ECell.thaw x7 2
       have f3 := ECell.thaw x7 3
       obtain ⟨z0, z1, z2, z3⟩ := ECell.cells x8
       have g0 := ECell.thaw x8 0
       have g1 := ECell.thaw x8 1
       have g2 := ECell.thaw x8 2
       have g3 := ECell.thaw x8 3
       have nzu : ¬ v105 + 1 = v105 := by omega
       clear x7 x8 KEEP ke7 ke8 ki9
       refine late_st 5 rfl (fun K hK => ?_)
       go_simp
       refine hK.out _ _ ⟨kpt 5, kpt 4, kpt 4, kpt 4, trivial⟩ ?_
       clear hK K
       try simp only [pu1, pu2, pu3, pu4]
       refine late_st 6 rfl (fun K hK => ?_)
       go_simp
       refine hK.out _ _ ⟨kpt 5, kpt 4, kpt 4, kpt 4, trivial⟩ ?_
       clear hK K
       try simp only [pu1, pu2, pu3, pu4]
       refine late_done (by kernel_rfl) ?_ _
       rw [← HX9.out]
       clear HX9 hHeld hb B407 qR q5 q6 q7 q8 q9 qa qb qc e5 e6 e7 e8 i9 ea ib ec y0 y1 y2 y3 f0 f1 f2 f3 z0 z1 z2 z3 g0 g1 g2 g3 nzu
       go_wp2_with fail
       have ya : ECell X9 (v202 + 1) na (.slice oa la ca) ma (.slice Oa La Ca) := ka
       have yc : ECell X9 (v204 + 1) nc (.slice oc lc cc) mc (.slice Oc Lc Cc) := kc
       clear ka kc
       have KEEP : ∀ u, Below X9.heap.size X9 u → AllL u [(0, fun w' => w'.cell? ⟨v204 + 1, 0, none⟩ = some (.bool nc) ∧ w'.cell? ⟨v204 + 1, 1, none⟩ = some (.slice oc lc cc) ∧ w'.cell? ⟨v204 + 1, 2, none⟩ = some (.bool mc) ∧ w'.cell? ⟨v204 + 1, 3, none⟩ = some (.slice Oc Lc Cc)), (1, fun w' => w'.cell? ⟨v202 + 1, 0, none⟩ = some (.bool na) ∧ w'.cell? ⟨v202 + 1, 1, none⟩ = some (.slice oa la ca) ∧ w'.cell? ⟨v202 + 1, 2, none⟩ = some (.bool ma) ∧ w'.cell? ⟨v202 + 1, 3, none⟩ = some (.slice Oa La Ca))] := fun u B => ⟨(yc.below B).cells, (ya.below B).cells, trivial⟩
       refine region_late [(0, fun w' => w'.cell? ⟨v204 + 1, 0, none⟩ = some (.bool nc) ∧ w'.cell? ⟨v204 + 1, 1, none⟩ = some (.slice oc lc cc) ∧ w'.cell? ⟨v204 + 1, 2, none⟩ = some (.bool mc) ∧ w'.cell? ⟨v204 + 1, 3, none⟩ = some (.slice Oc Lc Cc)), (1, fun w' => w'.cell? ⟨v202 + 1, 0, none⟩ = some (.bool na) ∧ w'.cell? ⟨v202 + 1, 1, none⟩ = some (.slice oa la ca) ∧ w'.cell? ⟨v202 + 1, 2, none⟩ = some (.bool ma) ∧ w'.cell? ⟨v202 + 1, 3, none⟩ = some (.slice Oa La Ca))] (by kernel_rfl) ?_
       have BZ : Below X9.heap.size X9 X9.drew := below_drew' _
       obtain ⟨wz, hwz⟩ : ∃ u, u = X9.drew := ⟨_, rfl⟩
       rw [← hwz] at BZ ⊢
       clear hwz
       have hHeld := KEEP _ BZ
       refine late_tk 0 (v := .agg #[.bool nc, .slice oc lc cc, .bool mc, .slice Oc Lc Cc]) rfl (List.Mem.head _) (Or.inl ⟨by rfl, ?_⟩) hHeld ?_
       · (intro u hu; (try dsimp only at hu); go_split_ands; go_simp)
       try simp only [pu1, pu2, pu3, pu4]
       refine late_tk 1 (v := .agg #[.bool na, .slice oa la ca, .bool ma, .slice Oa La Ca]) rfl (List.Mem.tail _ (List.Mem.head _)) (Or.inl ⟨by rfl, ?_⟩) hHeld ?_
       · (intro u hu; (try dsimp only at hu); go_split_ands; go_simp)
       try simp only [pu1, pu2, pu3, pu4]
       have x5 := k5.below BZ
       have x6 := k6.below BZ
       have x7 := k7.below BZ
       have x8 := k8.below BZ
       have d8 := g8.below BZ
       have da := ga.below BZ
       have dc := gc.below BZ
       have dn := gn.below BZ
       have xa := ya.below BZ
       have hbn := bstep hb9 BZ
       have qn := qR9.below BZ
       have H1 : (((((wz.setCell ⟨vx, 0, none⟩ (.bool nc)).setCell ⟨vx, 1, none⟩ (.slice oc lc cc)).setCell ⟨vx, 2, none⟩ (.bool mc)).setCell ⟨vx, 3, none⟩ (.slice Oc Lc Cc))).cell? ⟨v202 + 1, 0, none⟩ = some (.bool na) ∧ (((((wz.setCell ⟨vx, 0, none⟩ (.bool nc)).setCell ⟨vx, 1, none⟩ (.slice oc lc cc)).setCell ⟨vx, 2, none⟩ (.bool mc)).setCell ⟨vx, 3, none⟩ (.slice Oc Lc Cc))).cell? ⟨v202 + 1, 1, none⟩ = some (.slice oa la ca) ∧ (((((wz.setCell ⟨vx, 0, none⟩ (.bool nc)).setCell ⟨vx, 1, none⟩ (.slice oc lc cc)).setCell ⟨vx, 2, none⟩ (.bool mc)).setCell ⟨vx, 3, none⟩ (.slice Oc Lc Cc))).cell? ⟨v202 + 1, 2, none⟩ = some (.bool ma) ∧ (((((wz.setCell ⟨vx, 0, none⟩ (.bool nc)).setCell ⟨vx, 1, none⟩ (.slice oc lc cc)).setCell ⟨vx, 2, none⟩ (.bool mc)).setCell ⟨vx, 3, none⟩ (.slice Oc Lc Cc))).cell? ⟨v202 + 1, 3, none⟩ = some (.slice Oa La Ca) := ⟨(cell_four nax).trans (ECell.cells xa).1, (cell_four nax).trans (ECell.cells xa).2.1, (cell_four nax).trans (ECell.cells xa).2.2.1, (cell_four nax).trans (ECell.cells xa).2.2.2⟩
       obtain ⟨XF, hXF⟩ : ∃ X, X = R4.put (R4.mk na oa la ca ma Oa La Ca) (R4.put (R4.mk nc oc lc cc mc Oc Lc Cc) wz vx) vy := ⟨_, rfl⟩
       have w6 : EC (R4.put (R4.mk nc oc lc cc mc Oc Lc Cc) wz vx) vy (R4.mk n6 o6 l6 c6 m6 O6 L6 C6) := x6.other (Ne.symm hne)
       have HBN : Hid (BS w (g + 1 + 1) vx vy v105 (v105 + 1) X Y XF k2) := by
        refine ⟨⟨(R4.mk nc oc lc cc mc Oc Lc Cc), (R4.mk na oa la ca ma Oa La Ca), (R4.mk n8 o8 l8 c8 m8 O8 L8 C8), (R4.mk bX fo fl fc bY fO fL fC), hq, hp % hq, lq, lp % lq, nx, ny, lx + lp / lq * nx, ly + lp / lq * ny, ⟨?_, ?_, ?_, ?_⟩, ⟨?_, ?_, ?_, ?_⟩, HGO.out.1, HGO.out.2.1, HGO.out.2.2⟩, ?_, ?_⟩
        · rw [hXF]; exact x5.put.other hne
        · rw [hXF]; exact w6.put
        · rw [hXF]; exact (x7.other n7x).other n7y
        · rw [hXF]; exact (x8.other n8x).other n8y
        · rw [hXF]; exact (dc.put x5).put w6
        · rw [hXF]; exact (da.put x5).put w6
        · rw [hXF]; exact (d8.put x5).put w6
        · rw [hXF]; exact (dn.put x5).put w6
        · rw [hXF]; exact below_put (below_put hbn hwx) hwy
        · rw [hXF]; exact qput (qput qn ngx) ngy
       have HXF : Hid (XF = ((((((((wz.setCell ⟨vx, 0, none⟩ (.bool nc)).setCell ⟨vx, 1, none⟩ (.slice oc lc cc)).setCell ⟨vx, 2, none⟩ (.bool mc)).setCell ⟨vx, 3, none⟩ (.slice Oc Lc Cc)).setCell ⟨vy, 0, none⟩ (.bool na)).setCell ⟨vy, 1, none⟩ (.slice oa la ca)).setCell ⟨vy, 2, none⟩ (.bool ma)).setCell ⟨vy, 3, none⟩ (.slice Oa La Ca))) := by show _ = _; rw [hXF]; rfl
       obtain ⟨y0, y1, y2, y3⟩ := ECell.cells x5
       have f0 := ECell.thaw x5 0
       have f1 := ECell.thaw x5 1
       have f2 := ECell.thaw x5 2
       have f3 := ECell.thaw x5 3
       obtain ⟨z0, z1, z2, z3⟩ := ECell.cells x6
       have g0 := ECell.thaw x6 0
       have g1 := ECell.thaw x6 1
       have g2 := ECell.thaw x6 2
       have g3 := ECell.thaw x6 3
       have nxy : ¬ vy = vx := fun e => hne e.symm
       clear hXF w6 x5 x6 x7 x8 d8 da dc dn xa hbn qn KEEP
       refine late_st 2 rfl (fun K hK => ?_)
       go_simp
       refine hK.out _ _ ⟨kpt 2, Or.inr H1, trivial⟩ ?_
       clear hK K
       try simp only [pu1, pu2, pu3, pu4]
       clear H1
       refine late_st 3 rfl (fun K hK => ?_)
       go_simp
       refine hK.out _ _ ⟨kpt 2, kpt 3, trivial⟩ ?_
       clear hK K
       try simp only [pu1, pu2, pu3, pu4]
       refine late_done (by kernel_rfl) ?_ _
       rw [← HXF.out]
       clear HXF hHeld BZ ya yc k5 k6 k7 k8 g8 ga gc gn hb9 qR9 y0 y1 y2 y3 f0 f1 f2 f3 z0 z1 z2 z3 g0 g1 g2 g3 nxy
       go_wp2_with fail
       go_roundw
       case rel => exact ⟨k2, HBN.out⟩
       case measure => exact Nat.lt_of_le_of_lt (leastK_le HBN.out) (by rw [← HKK.out]; omega)
end Go.Proofs.YtfnafgjnimfmjaaGreatDoor
