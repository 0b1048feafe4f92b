/-
  Proved here: what Quo of the document's layer 2 answers.
-/
import Derived.Test.YtfnafgjnimfmjaaGreatDoorSub3All
import Derived.Test.YtfnafgjnimfmjaaGreatDoorValAtAll
namespace Go.Proofs.YtfnafgjnimfmjaaGreatDoor
open Go.RowKit
attribute [local go_sem ↓] Go.wp_at_zero Go.wp_at_succ

theorem modZ_le (a b : Nat) : modZ a b ≤ a := by
  unfold modZ
  split
  · exact Nat.zero_le _
  · exact Nat.mod_le _ _
theorem own_apart3 {B e : Nat} {w w' : World} {m m' : Value} {xs ys : List Nat} (h : Own B e w m xs) (h' : Own w.heap.size e w' m' ys) : m.ownBlock = none ∨ m.ownBlock ≠ m'.ownBlock := by
  cases hm : m.ownBlock with
  | none => exact Or.inl rfl
  | some k =>
    right
    intro e9
    have h1 := (h.block k hm).2
    have h2 := (h'.block k e9.symm).1
    omega

set_option maxRecDepth 100000 in
set_option maxHeartbeats 6400000 in
theorem rquo {a b : Value} {x y : Int} {L M : Nat} {w : World} (hia : IB w a x L) (hib : IB w b y M) (hL : L + M ≤ 1000) : Calls Tryz.prog 94 #[a, b] w fun e w' => QEnd w (x.tdiv y) (rz x y) (errZ y.natAbs) e w' := by
  have hlx := hia.sz.len
  obtain ⟨na, ao, al, ac, xs, rfl, ux, la, zx⟩ := hia
  obtain ⟨nb, bo, bl, bc, ys, rfl, uy, lb, zy⟩ := hib
  have vy : val ys = y.natAbs := by rw [← zy, zv_abs]
  obtain ⟨W1, hW1⟩ : ∃ W1, W1 = (((w.alloc (.cells #[.bool na, .slice ao al ac] 25)).alloc (.cells #[.bool nb, .slice bo bl bc] 25)).alloc (.cells #[.bool false, .slice none 0 0] 25)).alloc (.cells #[.bool false, .slice none 0 0] 25) := ⟨_, rfl⟩
  have q0 : ICell W1 (w.heap.size) na (.slice ao al ac) := by rw [hW1]; exact (icell_step (icell_step (icell_step (icell_new _ (by simp)))))
  have q1 : ICell W1 (w.heap.size + 1) nb (.slice bo bl bc) := by rw [hW1]; exact (icell_step (icell_step (icell_new _ (by simp))))
  have q2 : ICell W1 (w.heap.size + 1 + 1) false (.slice none 0 0) := by rw [hW1]; exact (icell_step (icell_new _ (by simp)))
  have q3 : ICell W1 (w.heap.size + 1 + 1 + 1) false (.slice none 0 0) := by rw [hW1]; exact (icell_new _ (by simp))
  have hb : Below w.heap.size w W1 := by rw [hW1]; exact bstep (bstep (bstep (belowA w _) (belowA _ _)) (belowA _ _)) (belowA _ _)
  have hsz : w.heap.size + 1 + 1 + 1 < W1.heap.size := by rw [hW1]; simp
  replace ux := ux.below (Nat.le_refl _) hb
  replace uy := uy.below (Nat.le_refl _) hb
  have HW1 : Hid (W1 = (((w.alloc (.cells #[.bool na, .slice ao al ac] 25)).alloc (.cells #[.bool nb, .slice bo bl bc] 25)).alloc (.cells #[.bool false, .slice none 0 0] 25)).alloc (.cells #[.bool false, .slice none 0 0] 25)) := hW1
  clear hW1
  obtain ⟨c0, d0⟩ := q0.cells
  obtain ⟨c1, d1⟩ := q1.cells
  obtain ⟨Q, hQ⟩ : ∃ Q, Q = x.tdiv y := ⟨_, rfl⟩
  obtain ⟨R, hR⟩ : ∃ R, R = rz x y := ⟨_, rfl⟩
  have HQ : Hid (Q = x.tdiv y) := hQ
  have HR : Hid (R = rz x y) := hR
  rw [← hQ, ← hR]
  clear hQ hR
  obtain ⟨E, hE⟩ : ∃ E, E = errZ y.natAbs := ⟨_, rfl⟩
  have HEE : Hid (E = errZ y.natAbs) := hE
  rw [← hE]
  clear hE
  have HY : Hid (val ys = y.natAbs) := vy
  have HZX : Hid (zv na (val xs) = x) := zx
  have HZY : Hid (zv nb (val ys) = y) := zy
  clear vy zx zy
  go_enter Tryz.func94, Tryz.ntmps94
  go_wp2_with fail
  rw [← HW1.out]
  clear HW1
  obtain ⟨g, hg⟩ : ∃ g, g = w.heap.size := ⟨_, rfl⟩
  rw [← hg] at q0 q1 q2 q3 hsz ⊢
  have HG : Hid (g = w.heap.size) := hg
  clear hg
  refine (divMod_ref _ _ _ _ _ ux uy (by omega) (by omega)).mono ?_
  rintro e w2 ⟨q, r, rfl, hq, hr, hb2⟩
  obtain ⟨qo, ql, qc, rfl⟩ := hq.sl
  obtain ⟨ro, rl, rc, rfl⟩ := hr.sl
  rw [HY.out, ← HEE.out]
  replace q0 := q0.below hb2
  replace q1 := q1.below hb2
  replace q2 := q2.below hb2
  replace q3 := q3.below hb2
  replace hb := bstep hb hb2
  have HSZ : Hid (g + 1 + 1 + 1 < W1.heap.size) := hsz
  have HS2 : Hid (W1.heap.size ≤ w2.drew.heap.size) := hb2.size
  clear c0 d0 c1 d1 ux uy hsz hb2
  obtain ⟨c0, d0⟩ := q0.cells
  obtain ⟨c1, d1⟩ := q1.cells
  obtain ⟨c2, d2⟩ := q2.cells
  obtain ⟨c3, d3⟩ := q3.cells
  have f20 := q2.thaw 0
  have f21 := q2.thaw 1
  have f30 := q3.thaw 0
  have f31 := q3.thaw 1
  by_cases hy : y.natAbs = 0
  · have HZ0 : Hid (Q = 0 ∧ R = 0 ∧ E = 11) := by
      have h0 : y = 0 := by omega
      refine ⟨by rw [HQ.out, h0]; exact Int.tdiv_zero _, by rw [HR.out]; unfold rz; rw [if_pos h0], by rw [HEE.out, hy]; rfl⟩
    obtain ⟨hQ0, hR0, hE0⟩ := HZ0.out
    subst hQ0
    subst hR0
    subst hE0
    have HW := icell_two (k1 := false) (k2 := false) (v1 := .slice none 0 0) (v2 := .slice none 0 0) q2 q3 (by omega)
    have HW2 : Hid _ := HW
    have HE0 := quo_done (w := w) (q := 0) (r := 0) (er := 11) (B := W1.heap.size) (mq := .slice none 0 0) (mr := .slice none 0 0) (g := g + 1 + 1) (g2 := g + 1 + 1 + 1) (v0 := .bool false) (v1 := .slice none 0 0) (u0 := .bool false) (u1 := .slice none 0 0) (Own.of_nil _ _ _) (Own.of_nil _ _ _) (Or.inl rfl) (by rw [HG.out]; omega) (by rw [HG.out]; omega) (by have := HSZ.out; omega) HSZ.out hb
    rw [show decide ((0 : Int) < 0) = false from rfl] at HE0
    have HE : Hid _ := HE0
    clear HE0
    clear HW q0 q1 q2 q3 hb hq hr hy c0 d0 c1 d1 HZ0
    go_wp2_with fail
    (try simp only [Exit.inBlock, Exit.then])
    exact bodyPost_ret (results_cct (p := 4) (q := 5) (u := 6) rfl _ _ (g + 1 + 1) (g + 1 + 1 + 1) 25 25 _ _ (0, 0) (0, 0) _ rfl rfl HW2.out.1 HW2.out.2 Tryz.underlying25 rfl (by kernel_rfl) (by kernel_rfl)) rfl HE.out
  · have HZ1 : Hid (E = 0 ∧ zv (na != nb) (x.natAbs / y.natAbs) = Q ∧ zv na (modZ x.natAbs y.natAbs) = R) := by
      have hxa : val xs = x.natAbs := by rw [← HZX.out, zv_abs]
      refine ⟨by rw [HEE.out]; unfold errZ; rw [if_neg hy], ?_, ?_⟩
      · rw [HQ.out, ← hxa, ← HY.out, ← HZX.out, ← HZY.out]; exact zv_div na nb _ _
      · rw [HR.out, ← hxa, ← HY.out, zv_mod na nb _ _ (by rw [HY.out]; exact hy), HZX.out, HZY.out]
    have hxa : val xs = x.natAbs := by rw [← HZX.out, zv_abs]
    rw [hxa, HY.out] at hq hr
    clear hxa
    obtain ⟨hE0, hQ1, hR1⟩ := HZ1.out
    subst hE0
    have HQ1 : Hid (zv (na != nb) (x.natAbs / y.natAbs) = Q) := hQ1
    have HR1 : Hid (zv na (modZ x.natAbs y.natAbs) = R) := hR1
    clear hQ1 hR1 hy HZ1
    obtain ⟨nn, hnn⟩ : ∃ nn, (na != nb) = nn := ⟨_, rfl⟩
    rw [hnn] at HQ1
    have hnn3 : (na == nb) = !nn := by rw [← hnn]; cases na <;> cases nb <;> rfl
    have hlq : (lim (x.natAbs / y.natAbs)).length ≤ 1000 := lim_len_mono3 (Nat.div_le_self _ _) (by omega)
    have hlr : (lim (modZ x.natAbs y.natAbs)).length ≤ 1000 := lim_len_mono3 (modZ_le _ _) (by omega)
    clear hlx la lb
    go_wp2_with fail
    have hne1 : ¬ g = g + 1 + 1 := by omega
    have hne2 : ¬ g = g + 1 + 1 + 1 := by omega
    have hne3 : ¬ g + 1 = g + 1 + 1 + 1 := by omega
    have HQR : Hid (ICell w2.drew (g + 1 + 1) false (.slice none 0 0) ∧ ICell w2.drew (g + 1 + 1 + 1) false (.slice none 0 0)) := ⟨q2, q3⟩
    clear q0 q1 q2 q3 c2 d2 c3 d3 f20 f21 f30 f31
    go_region_held3 (fun w' => w'.cell? ⟨g, 0, none⟩ = some (.bool na) ∧ w'.cell? ⟨g + 1, 0, none⟩ = some (.bool nb)) (((try dsimp only); go_split_ands; refine ⟨?_, ?_⟩ <;> first | exact keepB (by with_reducible assumption) (by with_reducible assumption) | exact keepS (by omega) (by with_reducible assumption) | go_keep)) (first
      | (go_at_call_of 108 qo; have hm1 := make_ref nn _ _ _ (hq.num.same (w' := w2.drew) rfl) (by omega); rw [val_lim, HQ1.out] at hm1; refine hm1.mono ?_; rintro e w3 ⟨v, rfl, ⟨m, rfl, hmq⟩, hb3⟩; obtain ⟨mo, ml, mc, rfl⟩ := hmq.sl)
      | (go_at_call_of 108 ro; have hm2 := make_ref na _ _ _ ((hr.num.same (w' := w2.drew) rfl).below (Nat.le_refl _) hb3) (by omega); rw [val_lim, HR1.out] at hm2; refine hm2.mono ?_; rintro e w4 ⟨v, rfl, ⟨m, rfl, hmr⟩, hb4⟩; obtain ⟨no, nl, nc, rfl⟩ := hmr.sl; have q2' := (HQR.out.1.below hb3).below hb4; have q3' := (HQR.out.2.below hb3).below hb4; have y20 := q2'.cells.1; have y21 := q2'.cells.2; have y30 := q3'.cells.1; have y31 := q3'.cells.2; have f20 := q2'.thaw 0; have f21 := q2'.thaw 1; have f30 := q3'.thaw 0; have f31 := q3'.thaw 1))
    have HW := icell_two (k1 := decide (Q < 0)) (k2 := decide (R < 0)) (v1 := .slice mo ml mc) (v2 := .slice no nl nc) q2' q3' (by omega)
    have HW2 : Hid _ := HW
    have hqr := own_apart3 hmq hmr
    have hs2 : W1.heap.size ≤ w2.drew.heap.size := HS2.out
    have HE : Hid (QEnd w Q R 0 _ _) := quo_done (w := w) (B := W1.heap.size) (q := Q) (r := R) (er := 0) (g := g + 1 + 1) (g2 := g + 1 + 1 + 1) (v0 := .bool (decide (Q < 0))) (v1 := .slice mo ml mc) (u0 := .bool (decide (R < 0))) (u1 := .slice no nl nc) ((hmq.mono hs2).below hb4) (hmr.mono (Nat.le_trans hs2 hb3.size)) hqr (by rw [HG.out]; omega) (by rw [HG.out]; omega) (by have := HSZ.out; omega) HSZ.out (bstep (bstep (bstep hb (below_drew' _)) hb3) hb4)
    generalize decide (Q < 0) = bQ at *
    generalize decide (R < 0) = bR at *
    clear hq hr hqr hmq hmr hs2 hb3 hb4 hb HW q2' q3' y20 y21 y30 y31 f20 f21 f30 f31 c0 c1 d0 d1
    go_wp2_with fail
    (try simp only [Exit.inBlock, Exit.then])
    exact bodyPost_ret (results_cct (p := 4) (q := 5) (u := 6) rfl _ _ (g + 1 + 1) (g + 1 + 1 + 1) 25 25 _ _ (0, 0) (0, 0) _ rfl rfl HW2.out.1 HW2.out.2 Tryz.underlying25 rfl (by kernel_rfl) (by kernel_rfl)) rfl HE.out
end Go.Proofs.YtfnafgjnimfmjaaGreatDoor
