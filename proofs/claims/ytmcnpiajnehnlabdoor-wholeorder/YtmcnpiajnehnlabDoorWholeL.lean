/-
  Proved here: what onSideOf of package whole answers; plain facts on Euclid's rows.
-/
import Derived.Test.YtmcnpiajnehnlabDoorWholeK
import Derived.Test.YtmcnpiajnehnlabDoorValAt
namespace Go.Proofs.YtmcnpiajnehnlabDoor
open Go.RowKit
attribute [local go_sem ↓] Go.wp_at_zero Go.wp_at_succ

/-- A number's limbs lie in no block ahead of B. -/
def Fr (v : Value) (B : Nat) : Prop := ∀ n b off s l c, v = .agg #[.bool n, .slice (some ⟨b, off, s⟩) l c] → B ≤ b
theorem Fr.of_own {B C : Nat} {w : World} {n : Bool} {m : Value} {xs : List Nat} (h : Own C 68 w m xs) (hB : B ≤ C) : Fr (.agg #[.bool n, m]) B := by
  intro n' b off s l c e
  simp only [Value.agg.injEq, Array.mk.injEq, List.cons.injEq, Value.bool.injEq, and_true] at e
  have hk : m.ownBlock = some b := by rw [e.2]; rfl
  have := (h.block b hk).1
  omega
theorem iend2 {w wr : World} {g : Nat} {v0 v1 : Value} (hb : Below w.heap.size w wr) (hg : w.heap.size ≤ g) : Below w.heap.size w ((wr.setCell ⟨g, 0, none⟩ v0).setCell ⟨g, 1, none⟩ v1) := (hb.setCell (p := ⟨g, 0, none⟩) hg _).setCell (p := ⟨g, 1, none⟩) hg _
set_option maxRecDepth 100000 in
set_option maxHeartbeats 6400000 in
theorem c_onSideN {a b : Value} {x y : Int} {w : World} (ha : INum w a x) (hb' : INum w b y) {B : Nat} (hF : Fr b B) (hB : B ≤ w.heap.size) :
    Calls Tryd.prog 35 #[a, b] w fun e w' => ∃ v, e = .returned v ∧ INum w' v (if x < 0 then -y else y) ∧ Fr v B ∧ Below w.heap.size w w' := by
  obtain ⟨Z, hZ⟩ : ∃ Z, Z = if x < 0 then -y else y := ⟨_, rfl⟩
  have HZ : Hid (Z = if x < 0 then -y else y) := hZ
  rw [← hZ]
  clear hZ
  obtain ⟨na, ao, al, ac, xa, rfl, ua, la, za⟩ := ha
  have ha : INum w (.agg #[.bool na, .slice ao al ac]) x := ⟨_, _, _, _, _, rfl, ua, la, za⟩
  clear ua la za
  obtain ⟨nb, bo, bl, bc, xb, rfl, ub, lb, zb⟩ := hb'
  have hb' : INum w (.agg #[.bool nb, .slice bo bl bc]) y := ⟨_, _, _, _, _, rfl, ub, lb, zb⟩
  clear ub lb zb
  obtain ⟨W1, hW1⟩ : ∃ W1, W1 = ((w.alloc (.cells #[.bool na, .slice ao al ac] 25)).alloc (.cells #[.bool nb, .slice bo bl bc] 25)).alloc (.cells #[.bool false, .slice none 0 0] 25) := ⟨_, rfl⟩
  have q0 : ICell W1 (w.heap.size) na (.slice ao al ac) := by rw [hW1]; exact (icell_step (icell_step (icell_new _ (by simp))))
  have q1 : ICell W1 (w.heap.size + 1) nb (.slice bo bl bc) := by rw [hW1]; exact (icell_step (icell_new _ (by simp)))
  have q2 : ICell W1 (w.heap.size + 1 + 1) false (.slice none 0 0) := by rw [hW1]; exact (icell_new _ (by simp))
  have hb : Below w.heap.size w W1 := by rw [hW1]; exact bstep (bstep (belowA w _) (belowA _ _)) (belowA _ _)
  have hsz : w.heap.size + 1 + 1 < W1.heap.size := by rw [hW1]; simp
  replace ha := ha.below hb
  have hb2' := hb'.below hb
  have HW1 : Hid (W1 = ((w.alloc (.cells #[.bool na, .slice ao al ac] 25)).alloc (.cells #[.bool nb, .slice bo bl bc] 25)).alloc (.cells #[.bool false, .slice none 0 0] 25)) := hW1
  clear hW1
  go_enter Tryd.func35, Tryd.ntmps35
  go_wp2_with fail
  rw [← HW1.out]
  clear HW1
  obtain ⟨g, hg⟩ : ∃ g, g = w.heap.size := ⟨_, rfl⟩
  rw [← hg] at q0 q1 q2 hsz ⊢
  have HG : Hid (g = w.heap.size) := hg
  clear hg
  refine (c_below ha).mono ?_
  rintro e w2 ⟨rfl, hb2⟩
  replace hb2' := hb2'.below hb2
  replace q1 := q1.below hb2
  replace q2 := q2.below hb2
  replace hb := bstep hb hb2
  have hsz2 := Nat.lt_of_lt_of_le hsz hb2.size
  clear q0 hb2 ha
  obtain ⟨c1, d1⟩ := q1.cells
  by_cases hx : x < 0
  · rw [decide_eq_true hx]
    have HY : Hid (-y = Z) := by show _ = _; rw [HZ.out, if_pos hx]
    clear hx
    go_wp2_with fail
    have sy := hb2'.sz.neg
    rw [HY.out] at sy
    refine (c_neg hb2').mono ?_
    rintro e w3 ⟨v, rfl, hv, hb3⟩
    rw [HY.out] at hv
    replace q2 := q2.below hb3
    replace hb := bstep hb hb3
    obtain ⟨m, rfl, hm⟩ := hv
    obtain ⟨mo, ml, mc, rfl⟩ := hm.sl
    have hE := (int_done (w := w) (g := g + 1 + 1) (z := Z) rfl (by rw [HG.out]; omega) hm hsz2 hb).i
    obtain ⟨v2, he2, ho2, hbb2⟩ := hE
    have HE2 : Hid (∃ v, (Ending.returned (.agg #[.bool (decide (Z < 0)), .slice mo ml mc])) = .returned v ∧ INum ((w3.setCell ⟨g + 1 + 1, 0, none⟩ (.bool (decide (Z < 0)))).setCell ⟨g + 1 + 1, 1, none⟩ (.slice mo ml mc)) v Z ∧ Fr v B ∧ Below w.heap.size w ((w3.setCell ⟨g + 1 + 1, 0, none⟩ (.bool (decide (Z < 0)))).setCell ⟨g + 1 + 1, 1, none⟩ (.slice mo ml mc))) := ⟨v2, he2, ho2.num sy (Nat.le_refl _), by obtain ⟨m9, rfl, ho9⟩ := ho2; exact Fr.of_own ho9 hB, hbb2⟩
    have HW : Hid (ICell _ (g + 1 + 1) (decide (Z < 0)) (.slice mo ml mc)) := q2.write _ _
    obtain ⟨y0, y1⟩ := q2.cells
    have f0 := q2.thaw 0
    have f1 := q2.thaw 1
    clear q1 q2 hb hsz hsz2 hm hb3 he2 ho2 hbb2 c1 d1
    go_wp2_with fail
    (try simp only [Exit.inBlock, Exit.then])
    exact bodyPost_ret (results_cell_row rfl _ _ (g + 1 + 1) 25 _ (0, 0) _ rfl HW.out Tryd.underlying25 rfl (by kernel_rfl)) rfl HE2.out
  · rw [decide_eq_false hx]
    have HY : Hid (y = Z) := by show _ = _; rw [HZ.out, if_neg hx]
    clear hx
    have HW : Hid (ICell ((w2.setCell ⟨g + 1 + 1, 0, none⟩ (.bool nb)).setCell ⟨g + 1 + 1, 1, none⟩ (.slice bo bl bc)) (g + 1 + 1) nb (.slice bo bl bc)) := q2.write _ _
    have hbF := iend2 (v0 := .bool nb) (v1 := .slice bo bl bc) hb (g := g + 1 + 1) (by rw [HG.out]; omega)
    have HE2 : Hid (∃ v, (Ending.returned (.agg #[.bool nb, .slice bo bl bc])) = .returned v ∧ INum ((w2.setCell ⟨g + 1 + 1, 0, none⟩ (.bool nb)).setCell ⟨g + 1 + 1, 1, none⟩ (.slice bo bl bc)) v Z ∧ Fr v B ∧ Below w.heap.size w ((w2.setCell ⟨g + 1 + 1, 0, none⟩ (.bool nb)).setCell ⟨g + 1 + 1, 1, none⟩ (.slice bo bl bc))) := ⟨_, rfl, by rw [← HY.out]; exact hb'.below hbF, hF, hbF⟩
    obtain ⟨y0, y1⟩ := q2.cells
    have f0 := q2.thaw 0
    have f1 := q2.thaw 1
    clear q1 q2 hb hsz hsz2 hb' hb2' hbF
    go_wp2_with fail
    (try simp only [Exit.inBlock, Exit.then])
    exact bodyPost_ret (results_cell_row rfl _ _ (g + 1 + 1) 25 _ (0, 0) _ rfl HW.out Tryd.underlying25 rfl (by kernel_rfl)) rfl HE2.out

theorem rz_lt {x y : Int} (h : y ≠ 0) : (rz x y).natAbs < y.natAbs := by
  unfold rz; rw [if_neg h, Int.natAbs_tmod]; exact Nat.mod_lt _ (by omega)
/-- Euclid's rows: the last that does not begin with 0. -/
def bz (r0 s0 t0 r1 s1 t1 : Int) : Int × Int × Int :=
  if h : r1 = 0 then (r0, s0, t0) else bz r1 s1 t1 (rz r0 r1) (s0 - r0.tdiv r1 * s1) (t0 - r0.tdiv r1 * t1)
termination_by r1.natAbs
decreasing_by exact rz_lt h
theorem bz_stop {r0 s0 t0 r1 s1 t1 : Int} (h : r1 = 0) : bz r0 s0 t0 r1 s1 t1 = (r0, s0, t0) := by rw [bz]; rw [dif_pos h]
theorem bz_go {r0 s0 t0 r1 s1 t1 : Int} (h : r1 ≠ 0) : bz r0 s0 t0 r1 s1 t1 = bz r1 s1 t1 (rz r0 r1) (s0 - r0.tdiv r1 * s1) (t0 - r0.tdiv r1 * t1) := by rw [bz]; rw [dif_neg h]
/-- A number's limbs lie in neither of two blocks. -/
def OffR (m : Value) (p q : Nat) : Prop := ∀ b off s l c, m = .slice (some ⟨b, off, s⟩) l c → b ≠ p ∧ b ≠ q
theorem Num.off {w : World} {m : Value} {xs : List Nat} {p q g k : Nat} {v : Value} (h : Num w m xs) (ho : OffR m p q) (hg : g = p ∨ g = q) : Num (w.setCell ⟨g, k, none⟩ v) m xs := by
  obtain ⟨h0, ao, cap, rfl, h1, h2, h3, h4⟩ := h
  refine ⟨h0, ao, cap, rfl, h1, h2, h3, fun j hj => ?_⟩
  obtain ⟨b, off, e, hc⟩ := h4 j hj
  subst e
  have hn := ho b off none _ _ rfl
  refine ⟨b, off, rfl, ?_⟩
  rw [← hc]
  apply World.cell?_of_block
  rw [heap_setCell_other]
  show b ≠ g
  rcases hg with e | e <;> rw [e]
  · exact hn.1
  · exact hn.2
theorem INum.off {w : World} {n : Bool} {m : Value} {z : Int} {p q g k : Nat} {v : Value} (h : INum w (.agg #[.bool n, m]) z) (ho : OffR m p q) (hg : g = p ∨ g = q) : INum (w.setCell ⟨g, k, none⟩ v) (.agg #[.bool n, m]) z := by
  obtain ⟨neg, ao, l, cap, xs, e, h1, h2, h3⟩ := h
  simp only [Value.agg.injEq, Array.mk.injEq, List.cons.injEq, Value.bool.injEq, and_true] at e
  obtain ⟨rfl, rfl⟩ := e
  exact ⟨_, _, _, _, _, rfl, h1.off ho hg, h2, h3⟩
theorem OffR.gen {B p q : Nat} {w : World} {m : Value} {xs : List Nat} (h : Own B 68 w m xs) (hp : p < B ∨ w.heap.size ≤ p) (hq : q < B ∨ w.heap.size ≤ q) : OffR m p q := by
  intro b off s l c e
  have hk : m.ownBlock = some b := by rw [e]; rfl
  have := h.block b hk
  omega
theorem INum.fr {w : World} {n : Bool} {m : Value} {z : Int} {B g k : Nat} {v : Value} (h : INum w (.agg #[.bool n, m]) z) (hF : Fr (.agg #[.bool n, m]) B) (hg : g < B) : INum (w.setCell ⟨g, k, none⟩ v) (.agg #[.bool n, m]) z := by
  refine h.off (p := g) (q := g) ?_ (Or.inl rfl)
  intro b off s l c e
  have := hF n b off s l c (by rw [e])
  omega
theorem OffR.later {B p q : Nat} {w : World} {m : Value} {xs : List Nat} (h : Own B 68 w m xs) (hp : p < B) (hq : q < B) : OffR m p q := by
  intro b off s l c e
  have hk : m.ownBlock = some b := by rw [e]; rfl
  have := (h.block b hk).1
  omega
theorem OffR.sooner {B p q : Nat} {w : World} {m : Value} {xs : List Nat} (h : Own B 68 w m xs) (hp : w.heap.size ≤ p) (hq : w.heap.size ≤ q) : OffR m p q := by
  intro b off s l c e
  have hk : m.ownBlock = some b := by rw [e]; rfl
  have := (h.block b hk).2
  omega
end Go.Proofs.YtmcnpiajnehnlabDoor
