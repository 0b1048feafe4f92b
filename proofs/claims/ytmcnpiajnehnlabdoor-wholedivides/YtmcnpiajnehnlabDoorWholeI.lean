/-
  Proved here: what Quo of package whole answers.
-/
import Derived.Test.YtmcnpiajnehnlabDoorWholeH
import Derived.Test.YtmcnpiajnehnlabDoorDivMod
namespace Go.Proofs.YtmcnpiajnehnlabDoor
open Go.RowKit
attribute [local go_sem ↓] Go.wp_at_zero Go.wp_at_succ

theorem results_cct {P : Program} {fn : Func} {p q u : Tmp} {ty : TypeId} (h : fn.results = #[.cell p ty, .cell q ty, .tmp u]) (tmps : Array Value) (w : World) (g g2 : Nat) (t t2 : TypeId) (cs cs2 : Array Value) (fr fr2 : Nat × Nat) (d : TypeDesc)
    (hp : tmps.getD p undef = .pointer (some ⟨g, 0, none⟩)) (hq : tmps.getD q undef = .pointer (some ⟨g2, 0, none⟩)) (hg : w.heap[g]? = some (.cells cs t fr)) (hg2 : w.heap[g2]? = some (.cells cs2 t2 fr2))
    (hu : P.underlying ty = some d) (hd : (match d with | .struct _ | .array _ _ => true | _ => false) = true) (hi : (P.info? ty).map (·.size) = some cs.size) (hi2 : (P.info? ty).map (·.size) = some cs2.size) :
    (results fn tmps).run P w = .ok (.tuple #[.agg cs, .agg cs2, tmps.getD u undef]) w := by
  have hp' : tmps[p]?.getD undef = .pointer (some ⟨g, 0, none⟩) := by simpa using hp
  have hq' : tmps[q]?.getD undef = .pointer (some ⟨g2, 0, none⟩) := by simpa using hq
  simp [results, h, hp', hq', asAddr, run_loadVar_row w g t ty cs fr d hg hu hd hi, run_loadVar_row w g2 t2 ty cs2 fr2 d hg2 hu hd hi2]

/-- What is left of a division; 0 where by 0 is divided. -/
def rz (x y : Int) : Int := if y = 0 then 0 else x.tmod y
theorem zv_div (na nb : Bool) (x y : Nat) : zv (na != nb) (x / y) = (zv na x).tdiv (zv nb y) := by
  cases na <;> cases nb <;> simp [zv, Int.neg_tdiv, Int.tdiv_neg]
theorem zv_mod (na nb : Bool) (x y : Nat) (h : y ≠ 0) : zv na (modZ x y) = rz (zv na x) (zv nb y) := by
  unfold rz modZ
  have h2 : zv nb y ≠ 0 := by cases nb <;> simp [zv] <;> omega
  rw [if_neg h2]
  simp only [h, if_false]
  cases na <;> cases nb <;> simp [zv, Int.neg_tmod, Int.tmod_neg] <;> exact (Int.tmod_eq_emod_of_nonneg (by omega)).symm
/-- What Quo and Floor leave. -/
def QEnd (w : World) (q r : Int) (er : Int) (e : Ending) (w' : World) : Prop :=
  ∃ mq mr, e = .returned (.tuple #[.agg #[.bool (decide (q < 0)), mq], .agg #[.bool (decide (r < 0)), mr], .int .i64 er]) ∧ Own w.heap.size 68 w' mq (lim q.natAbs) ∧ Own w.heap.size 68 w' mr (lim r.natAbs) ∧
    (mq.ownBlock = none ∨ mq.ownBlock ≠ mr.ownBlock) ∧ Below w.heap.size w w'
/-- Two rows of the call's own behind the stores into two result cells. -/
theorem own_far {B g g2 : Nat} {w : World} {m v0 v1 u0 u1 : Value} {xs : List Nat} (ho : Own B 68 w m xs) (hg : g < B) (hg2 : g2 < B) :
    Own B 68 ((((w.setCell ⟨g, 0, none⟩ v0).setCell ⟨g, 1, none⟩ v1).setCell ⟨g2, 0, none⟩ u0).setCell ⟨g2, 1, none⟩ u1) m xs := by
  have hne : ∀ k, k < B → m.ownBlock = none ∨ m.ownBlock ≠ some k := by
    intro k hk
    cases hm : m.ownBlock with
    | none => exact Or.inl rfl
    | some j =>
      right
      intro e
      rw [Option.some.injEq] at e
      have := (ho.block j hm).1
      omega
  exact (((ho.other v0 (hne g hg)).other v1 (hne g hg)).other u0 (hne g2 hg2)).other u1 (hne g2 hg2)
theorem below_far {w wr : World} {g g2 : Nat} {v0 v1 u0 u1 : Value} (hb : Below w.heap.size w wr) (hg : w.heap.size ≤ g) (hg2 : w.heap.size ≤ g2) :
    Below w.heap.size w ((((wr.setCell ⟨g, 0, none⟩ v0).setCell ⟨g, 1, none⟩ v1).setCell ⟨g2, 0, none⟩ u0).setCell ⟨g2, 1, none⟩ u1) :=
  (((hb.setCell (p := ⟨g, 0, none⟩) hg _).setCell (p := ⟨g, 1, none⟩) hg _).setCell (p := ⟨g2, 0, none⟩) hg2 _).setCell (p := ⟨g2, 1, none⟩) hg2 _
theorem quo_done {w wr : World} {B g g2 : Nat} {q r er : Int} {mq mr : Value} (hq : Own B 68 wr mq (lim q.natAbs)) (hr : Own B 68 wr mr (lim r.natAbs)) (hqr : mq.ownBlock = none ∨ mq.ownBlock ≠ mr.ownBlock)
    (hg : w.heap.size ≤ g) (hg2 : w.heap.size ≤ g2) (hgB : g < B) (hgB2 : g2 < B) (hb : Below w.heap.size w wr) {v0 v1 u0 u1 : Value} :
    QEnd w q r er (.returned (.tuple #[.agg #[.bool (decide (q < 0)), mq], .agg #[.bool (decide (r < 0)), mr], .int .i64 er])) ((((wr.setCell ⟨g, 0, none⟩ v0).setCell ⟨g, 1, none⟩ v1).setCell ⟨g2, 0, none⟩ u0).setCell ⟨g2, 1, none⟩ u1) :=
  ⟨mq, mr, rfl, (own_far hq hgB hgB2).mono (by omega), (own_far hr hgB hgB2).mono (by omega), hqr, below_far hb hg hg2⟩
/-- Both result cells behind the stores. -/
theorem icell_two {w : World} {g g2 : Nat} {n1 n2 k1 k2 : Bool} {m1 m2 v1 v2 : Value} (h1 : ICell w g n1 m1) (h2 : ICell w g2 n2 m2) (hne : g ≠ g2) :
    ICell ((((w.setCell ⟨g, 0, none⟩ (.bool k1)).setCell ⟨g, 1, none⟩ v1).setCell ⟨g2, 0, none⟩ (.bool k2)).setCell ⟨g2, 1, none⟩ v2) g k1 v1 ∧
    ICell ((((w.setCell ⟨g, 0, none⟩ (.bool k1)).setCell ⟨g, 1, none⟩ v1).setCell ⟨g2, 0, none⟩ (.bool k2)).setCell ⟨g2, 1, none⟩ v2) g2 k2 v2 :=
  ⟨((h1.write k1 v1).other hne 0 _).other hne 1 _, ((h2.other (Ne.symm hne) 0 _).other (Ne.symm hne) 1 _).write k2 v2⟩

set_option maxRecDepth 100000 in
set_option maxHeartbeats 3200000 in
theorem c_quo {a b : Value} {x y : Int} {w : World} (ha : INum w a x) (hb' : INum w b y) : Calls Tryd.prog 15 #[a, b] w fun e w' => QEnd w (x.tdiv y) (rz x y) (errZ y.natAbs) e w' := by
  obtain ⟨na, ao, al, ac, xa, rfl, ua, la, za⟩ := ha
  have ha : INum w (.agg #[.bool na, .slice ao al ac]) x := ⟨_, _, _, _, _, rfl, ua, la, za⟩
  clear ua la za
  obtain ⟨nb, bo, bl, bc, xb, rfl, ub, lb, zb⟩ := hb'
  have hb' : INum w (.agg #[.bool nb, .slice bo bl bc]) y := ⟨_, _, _, _, _, rfl, ub, lb, zb⟩
  clear ub lb zb
  obtain ⟨W1, hW1⟩ : ∃ W1, W1 = (((w.alloc (.cells #[.bool na, .slice ao al ac] 25)).alloc (.cells #[.bool nb, .slice bo bl bc] 25)).alloc (.cells #[.bool false, .slice none 0 0] 25)).alloc (.cells #[.bool false, .slice none 0 0] 25) := ⟨_, rfl⟩
  have q0 : ICell W1 (w.heap.size) na (.slice ao al ac) := by rw [hW1]; exact (icell_step (icell_step (icell_step (icell_new _ (by simp)))))
  have q1 : ICell W1 (w.heap.size + 1) nb (.slice bo bl bc) := by rw [hW1]; exact (icell_step (icell_step (icell_new _ (by simp))))
  have q2 : ICell W1 (w.heap.size + 1 + 1) false (.slice none 0 0) := by rw [hW1]; exact (icell_step (icell_new _ (by simp)))
  have q3 : ICell W1 (w.heap.size + 1 + 1 + 1) false (.slice none 0 0) := by rw [hW1]; exact (icell_new _ (by simp))
  have hb : Below w.heap.size w W1 := by rw [hW1]; exact bstep (bstep (bstep (belowA w _) (belowA _ _)) (belowA _ _)) (belowA _ _)
  have hsz : w.heap.size + 1 + 1 + 1 < W1.heap.size := by rw [hW1]; simp
  replace ha := ha.below hb
  replace hb' := hb'.below hb
  have HW1 : Hid (W1 = (((w.alloc (.cells #[.bool na, .slice ao al ac] 25)).alloc (.cells #[.bool nb, .slice bo bl bc] 25)).alloc (.cells #[.bool false, .slice none 0 0] 25)).alloc (.cells #[.bool false, .slice none 0 0] 25)) := hW1
  clear hW1
  obtain ⟨xs, ux, lx, _, zx⟩ := ha.abs
  obtain ⟨ys, uy, ly, vy, zy⟩ := hb'.abs
  obtain ⟨c0, d0⟩ := q0.cells
  obtain ⟨c1, d1⟩ := q1.cells
  obtain ⟨Q, hQ⟩ : ∃ Q, Q = x.tdiv y := ⟨_, rfl⟩
  obtain ⟨R, hR⟩ : ∃ R, R = rz x y := ⟨_, rfl⟩
  have HQ : Hid (Q = x.tdiv y) := hQ
  have HR : Hid (R = rz x y) := hR
  rw [← hQ, ← hR]
  clear hQ hR
  obtain ⟨E, hE⟩ : ∃ E, E = errZ y.natAbs := ⟨_, rfl⟩
  have HEE : Hid (E = errZ y.natAbs) := hE
  rw [← hE]
  clear hE
  have HY : Hid (val ys = y.natAbs) := vy
  have HZX : Hid (zv na (val xs) = x) := zx
  have HZY : Hid (zv nb (val ys) = y) := zy
  clear vy zx zy
  go_enter Tryd.func15, Tryd.ntmps15
  go_wp2_with fail
  rw [← HW1.out]
  clear HW1
  obtain ⟨g, hg⟩ : ∃ g, g = w.heap.size := ⟨_, rfl⟩
  rw [← hg] at q0 q1 q2 q3 hsz ⊢
  have HG : Hid (g = w.heap.size) := hg
  clear hg
  refine (divMod_any _ _ _ _ _ ux uy (by omega)).mono ?_
  rintro e w2 ⟨q, r, rfl, hq, hr, hqr, hb2⟩
  obtain ⟨qo, ql, qc, rfl⟩ := hq.sl
  obtain ⟨ro, rl, rc, rfl⟩ := hr.sl
  rw [HY.out, ← HEE.out]
  replace q0 := q0.below hb2
  replace q1 := q1.below hb2
  replace q2 := q2.below hb2
  replace q3 := q3.below hb2
  replace hb := bstep hb hb2
  have HSZ : Hid (g + 1 + 1 + 1 < W1.heap.size) := hsz
  clear c0 d0 c1 d1 ux uy ha hb' hsz hb2
  obtain ⟨c0, d0⟩ := q0.cells
  obtain ⟨c1, d1⟩ := q1.cells
  obtain ⟨c2, d2⟩ := q2.cells
  obtain ⟨c3, d3⟩ := q3.cells
  have f20 := q2.thaw 0
  have f21 := q2.thaw 1
  have f30 := q3.thaw 0
  have f31 := q3.thaw 1
  by_cases hy : y.natAbs = 0
  · have HZ0 : Hid (Q = 0 ∧ R = 0 ∧ E = 11) := by
      have h0 : y = 0 := by omega
      refine ⟨by rw [HQ.out, h0]; exact Int.tdiv_zero _, by rw [HR.out]; unfold rz; rw [if_pos h0], by rw [HEE.out, hy]; rfl⟩
    obtain ⟨hQ0, hR0, hE0⟩ := HZ0.out
    subst hQ0
    subst hR0
    subst hE0
    have HW := icell_two (k1 := false) (k2 := false) (v1 := .slice none 0 0) (v2 := .slice none 0 0) q2 q3 (by omega)
    have HW2 : Hid _ := HW
    have HE0 := quo_done (w := w) (q := 0) (r := 0) (er := 11) (B := W1.heap.size) (mq := .slice none 0 0) (mr := .slice none 0 0) (g := g + 1 + 1) (g2 := g + 1 + 1 + 1) (v0 := .bool false) (v1 := .slice none 0 0) (u0 := .bool false) (u1 := .slice none 0 0) (Own.of_nil _ _ _) (Own.of_nil _ _ _) (Or.inl rfl) (by rw [HG.out]; omega) (by rw [HG.out]; omega) (by have := HSZ.out; omega) HSZ.out hb
    rw [show decide ((0 : Int) < 0) = false from rfl] at HE0
    have HE : Hid _ := HE0
    clear HE0
    clear HW q0 q1 q2 q3 hb hq hr hqr hy c0 d0 c1 d1 HZ0
    go_wp2_with fail
    (try simp only [Exit.inBlock, Exit.then])
    exact bodyPost_ret (results_cct (p := 4) (q := 5) (u := 6) rfl _ _ (g + 1 + 1) (g + 1 + 1 + 1) 25 25 _ _ (0, 0) (0, 0) _ rfl rfl HW2.out.1 HW2.out.2 Tryd.underlying25 rfl (by kernel_rfl) (by kernel_rfl)) rfl HE.out
  · have HZ1 : Hid (E = 0 ∧ zv (!na == nb) (x.natAbs / y.natAbs) = Q ∧ zv na (modZ x.natAbs y.natAbs) = R) := by
      have hxa : val xs = x.natAbs := by rw [← HZX.out, zv_abs]
      refine ⟨by rw [HEE.out]; unfold errZ; rw [if_neg hy], ?_, ?_⟩
      · rw [HQ.out, ← hxa, ← HY.out, ← HZX.out, ← HZY.out]; exact zv_div na nb _ _
      · rw [HR.out, ← hxa, ← HY.out, zv_mod na nb _ _ (by rw [HY.out]; exact hy), HZX.out, HZY.out]
    have hxa : val xs = x.natAbs := by rw [← HZX.out, zv_abs]
    rw [hxa, HY.out] at hq hr
    clear hxa
    obtain ⟨hE0, hQ1, hR1⟩ := HZ1.out
    subst hE0
    have HQ1 : Hid (zv (!na == nb) (x.natAbs / y.natAbs) = Q) := hQ1
    have HR1 : Hid (zv na (modZ x.natAbs y.natAbs) = R) := hR1
    clear hQ1 hR1 hy HZ1
    obtain ⟨nn, hnn⟩ : ∃ nn, (!na == nb) = nn := ⟨_, rfl⟩
    rw [hnn] at HQ1
    go_wp2_with fail
    have hne1 : ¬ g = g + 1 + 1 := by omega
    have hne2 : ¬ g = g + 1 + 1 + 1 := by omega
    have hne3 : ¬ g + 1 = g + 1 + 1 + 1 := by omega
    have HQR : Hid (ICell w2.drew (g + 1 + 1) false (.slice none 0 0) ∧ ICell w2.drew (g + 1 + 1 + 1) false (.slice none 0 0)) := ⟨q2, q3⟩
    clear q0 q1 q2 q3 c2 d2 c3 d3 f20 f21 f30 f31
    go_region_held3 (fun w' => w'.cell? ⟨g, 0, none⟩ = some (.bool na) ∧ w'.cell? ⟨g + 1, 0, none⟩ = some (.bool nb)) (((try dsimp only); go_split_ands; refine ⟨?_, ?_⟩ <;> first | exact keepB (by with_reducible assumption) (by with_reducible assumption) | exact keepS (by omega) (by with_reducible assumption) | go_keep)) (first
      | (go_at_call_of 28 qo; refine (signed_any _ _ _ _ (hq.num.same (w' := w2.drew) rfl)).mono ?_; rintro e w3 ⟨rfl, hb3⟩; rw [sign_eq, HQ1.out])
      | (go_at_call_of 28 ro; refine (signed_any _ _ _ _ ((hr.num.same (w' := w2.drew) rfl).below (Nat.le_refl _) hb3)).mono ?_; rintro e w4 ⟨rfl, hb4⟩; rw [sign_eq, HR1.out]; have q2' := (HQR.out.1.below hb3).below hb4; have q3' := (HQR.out.2.below hb3).below hb4; have y20 := q2'.cells.1; have y21 := q2'.cells.2; have y30 := q3'.cells.1; have y31 := q3'.cells.2; have f20 := q2'.thaw 0; have f21 := q2'.thaw 1; have f30 := q3'.thaw 0; have f31 := q3'.thaw 1))
    have HW := icell_two (k1 := decide (Q < 0)) (k2 := decide (R < 0)) (v1 := .slice qo ql qc) (v2 := .slice ro rl rc) q2' q3' (by omega)
    have HW2 : Hid _ := HW
    have HE : Hid (QEnd w Q R 0 _ _) := quo_done (w := w) (B := W1.heap.size) (q := Q) (r := R) (er := 0) (g := g + 1 + 1) (g2 := g + 1 + 1 + 1) (v0 := .bool (decide (Q < 0))) (v1 := .slice qo ql qc) (u0 := .bool (decide (R < 0))) (u1 := .slice ro rl rc) (((show Own W1.heap.size 68 w2.drew (.slice qo ql qc) (lim Q.natAbs) by rw [← HQ1.out, zv_abs]; exact hq.same rfl).below hb3).below hb4) (((show Own W1.heap.size 68 w2.drew (.slice ro rl rc) (lim R.natAbs) by rw [← HR1.out, zv_abs]; exact hr.same rfl).below hb3).below hb4) hqr (by rw [HG.out]; omega) (by rw [HG.out]; omega) (by have := HSZ.out; omega) HSZ.out (bstep (bstep (bstep hb (below_drew' _)) hb3) hb4)
    generalize decide (Q < 0) = bQ at *
    generalize decide (R < 0) = bR at *
    clear hq hr hqr hb3 hb4 hb HW q2' q3' y20 y21 y30 y31 f20 f21 f30 f31 c0 c1 d0 d1
    go_wp2_with fail
    (try simp only [Exit.inBlock, Exit.then])
    exact bodyPost_ret (results_cct (p := 4) (q := 5) (u := 6) rfl _ _ (g + 1 + 1) (g + 1 + 1 + 1) 25 25 _ _ (0, 0) (0, 0) _ rfl rfl HW2.out.1 HW2.out.2 Tryd.underlying25 rfl (by kernel_rfl) (by kernel_rfl)) rfl HE.out
end Go.Proofs.YtmcnpiajnehnlabDoor
