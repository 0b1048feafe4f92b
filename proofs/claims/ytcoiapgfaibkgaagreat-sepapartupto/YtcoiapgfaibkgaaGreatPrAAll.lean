/-
  Proved here: the hunt of layer 16: joined, open, less; the hunt in memory.
  Proved here: the hunt of layer 16: walk goes through all open trails that begin so.
  Proved here: package prune's closures, and what ways answer of a point, asked one behind the other.
-/
import Derived.Test.YtcoiapgfaibkgaaGreatHuMAll
import Derived.Test.YtcoiapgfaibkgaaGreatSpZAll
import Derived.Test.YtcoiapgfaibkgaaGreatDagCl2
import Derived.Test.YtcoiapgfaibkgaaGreatSpLAll
import Derived.Test.YtcoiapgfaibkgaaGreatDagHAll
import Derived.Test.YtcoiapgfaibkgaaGreatMoMAll
namespace Go.Proofs.YtcoiapgfaibkgaaGreat
set_option linter.unusedVariables false
open Go.RowKit Go.Shelf Go.Sort Go.Lib
/-- A hunt's box. -/
def HuB (W : World) (hb gc n : Nat) (pv qv av bv : Value) (tz : Int) : Prop := W.heap[hb]? = some (.cells #[pv, qv, av, .int .i64 tz, bv, .slice (some ⟨gc, 0, none⟩) n n] 50 (0, 0))
theorem HuB.lt {W : World} {hb gc n : Nat} {pv qv av bv : Value} {tz : Int} (h : HuB W hb gc n pv qv av bv tz) : hb < W.heap.size := (Array.getElem?_eq_some_iff.1 h).1
theorem HuB.cell {W : World} {hb gc n : Nat} {pv qv av bv : Value} {tz : Int} (h : HuB W hb gc n pv qv av bv tz) (j : Nat) : W.cell? ⟨hb, j, none⟩ = #[pv, qv, av, .int .i64 tz, bv, .slice (some ⟨gc, 0, none⟩) n n][j]? := cell_of_row W hb j _ _ _ h
set_option maxRecDepth 1000000 in
set_option maxHeartbeats 1600000 in
theorem joinedH (hb gc n : Nat) (pv qv av bv : Value) (tz : Int) (pvs : List Value) (P : List (List Int)) (x : Int) (c : Nat) (w : World) (h : HuB w hb gc n pv qv av bv tz) (hr : RRD w pv pvs P) (hc : c < P.length) :
    Calls Tryz.prog 86 #[.pointer (some ⟨hb, 0, none⟩), .int .i64 x, .int .i64 (c : Int)] w fun e w' => e = .returned (.bool (decide (x ∈ P.getD c []))) ∧ w' = w := by
  obtain ⟨po, pn, pc, rfl⟩ : ∃ o n c, pv = .slice o n c := by obtain ⟨ao, cap, e⟩ := hr.out.sl; exact ⟨_, _, _, e⟩
  have hpn : P.length = pn := by rw [← hr.len, hr.out.len]
  have h0 : w.cell? ⟨hb, 0, none⟩ = some (.slice po pn pc) := h.cell 0
  have hcz : (c : Int) < (pn : Int) := by omega
  obtain ⟨u, gp, op, hu1, rfl, hu2⟩ := hr.out.at (show c < pn by omega)
  have hur := hr.inn c u hu1
  obtain ⟨uo, un, uc, rfl⟩ : ∃ o n c, u = .slice o n c := by obtain ⟨ao, cap, e⟩ := hur.sl; exact ⟨_, _, _, e⟩
  change w.cell? ⟨gp, op + c, none⟩ = some (.slice uo un uc) at hu2
  have CH : Hid _ := hasD (.slice uo un uc) (P.getD c []) x w hur
  obtain ⟨b, hb2⟩ : ∃ b, b = decide (x ∈ P.getD c []) := ⟨_, rfl⟩
  rw [← hb2] at CH ⊢
  clear hb2 hur hu1 hr h
  go_enter Tryz.func86, Tryz.ntmps86
  go_wp2_with fail
  refine Calls.mono CH.out ?_
  rintro e y ⟨rfl, hy⟩
  rw [hy]
  clear CH hy y
  go_wp2
  go_ret
  exact ⟨rfl, rfl⟩
set_option maxRecDepth 1000000 in
set_option maxHeartbeats 1600000 in
theorem openH (hb gc n : Nat) (pv qv av bv : Value) (tz : Int) (pvs : List Value) (P : List (List Int)) (G A : List Int) (p k : Int) (l : Nat) (w : World) (h : HuB w hb gc n pv qv av bv tz) (hr : RRD w pv pvs P) (hq : RG (Value.int .i64) w qv G) (ha : RG (Value.int .i64) w av A) (hl : l < P.length) :
    Calls Tryz.prog 87 #[.pointer (some ⟨hb, 0, none⟩), .int .i64 p, .int .i64 (l : Int), .int .i64 k] w fun e w' => e = .returned (.bool (if p ∈ P.getD l [] ∧ k ∈ P.getD l [] then decide ((l : Int) ∈ A) else !decide ((l : Int) ∈ G))) ∧ w' = w := by
  have C1 : Hid _ := joinedH hb gc n pv qv av bv tz pvs P p l w h hr hl
  have C2 : Hid _ := joinedH hb gc n pv qv av bv tz pvs P k l w h hr hl
  obtain ⟨qo, qn, qc, rfl⟩ : ∃ o n c, qv = .slice o n c := by obtain ⟨ao, cap, e⟩ := hq.sl; exact ⟨_, _, _, e⟩
  obtain ⟨ao, an, ac, rfl⟩ : ∃ o n c, av = .slice o n c := by obtain ⟨ao, cap, e⟩ := ha.sl; exact ⟨_, _, _, e⟩
  have h1 : w.cell? ⟨hb, 1, none⟩ = some (.slice qo qn qc) := h.cell 1
  have h2 : w.cell? ⟨hb, 2, none⟩ = some (.slice ao an ac) := h.cell 2
  have CA : Hid _ := hasD (.slice ao an ac) A (l : Int) w ha
  have CG : Hid _ := hasD (.slice qo qn qc) G (l : Int) w hq
  obtain ⟨r, hrr⟩ : ∃ r, r = (if p ∈ P.getD l [] ∧ k ∈ P.getD l [] then decide ((l : Int) ∈ A) else !decide ((l : Int) ∈ G)) := ⟨_, rfl⟩
  rw [← hrr]
  have HRR : Hid (r = (if p ∈ P.getD l [] ∧ k ∈ P.getD l [] then decide ((l : Int) ∈ A) else !decide ((l : Int) ∈ G))) := hrr
  obtain ⟨b1, e1⟩ : ∃ b, b = decide (p ∈ P.getD l []) := ⟨_, rfl⟩
  obtain ⟨b2, e2⟩ : ∃ b, b = decide (k ∈ P.getD l []) := ⟨_, rfl⟩
  obtain ⟨b3, e3⟩ : ∃ b, b = decide ((l : Int) ∈ A) := ⟨_, rfl⟩
  obtain ⟨b4, e4⟩ : ∃ b, b = decide ((l : Int) ∈ G) := ⟨_, rfl⟩
  rw [← e1] at C1
  rw [← e2] at C2
  rw [← e3] at CA
  rw [← e4] at CG
  have HV : Hid (r = if b1 = true ∧ b2 = true then b3 else !b4) := by
    show r = _
    rw [hrr, e1, e2, e3, e4]
    simp only [decide_eq_true_iff]
  clear hrr e1 e2 e3 e4 hr hq ha h
  go_enter Tryz.func87, Tryz.ntmps87
  go_wp2_with fail
  refine Calls.mono C1.out ?_
  rintro e y ⟨rfl, hy⟩
  rw [hy]
  clear C1 hy y
  go_wp2_with fail
  refine Calls.mono C2.out ?_
  rintro e y ⟨rfl, hy⟩
  rw [hy]
  clear C2 hy y
  cases b1
  case' true =>
    cases b2
    case' true =>
      have HV2 : Hid (r = b3) := HV.out
      clear HV CG
      go_wp2_with fail
      refine Calls.mono CA.out ?_
    case' false =>
      have HV2 : Hid (r = !b4) := HV.out
      clear HV CA
      go_wp2_with fail
      refine Calls.mono CG.out ?_
  case' false =>
    have HV2 : Hid (r = !b4) := by
      show r = !b4
      have h9 := HV.out
      rw [if_neg (by simp)] at h9
      exact h9
    clear HV CA
    go_wp2_with fail
    refine Calls.mono CG.out ?_
  all_goals
    rintro e y ⟨rfl, hy⟩
    rw [hy]
    clear hy y
    go_wp2
    go_ret
    exact ⟨by rw [HV2.out]; rfl, rfl⟩
set_option maxRecDepth 1000000 in
set_option maxHeartbeats 3200000 in
theorem lessH (u v : Value) (xs ys : List Int) (w : World) (hu : RG (Value.int .i64) w u xs) (hv : RG (Value.int .i64) w v ys) :
    Calls Tryz.prog 85 #[u, v] w fun e w' => e = .returned (.bool (lsB xs ys)) ∧ ∃ q, w' = w.drewN q := by
  obtain ⟨uo, un, uc, rfl⟩ : ∃ o n c, u = .slice o n c := by obtain ⟨ao, cap, e⟩ := hu.sl; exact ⟨_, _, _, e⟩
  obtain ⟨vo, vn, vc, rfl⟩ : ∃ o n c, v = .slice o n c := by obtain ⟨ao, cap, e⟩ := hv.sl; exact ⟨_, _, _, e⟩
  have hum : un ≤ 9223372036854775807 := by have := hu.room.2.1; have := hu.room.1; unfold maxLen at *; omega
  have HU : Hid (RG (Value.int .i64) w (.slice uo un uc) xs) := hu
  have HV : Hid (RG (Value.int .i64) w (.slice vo vn vc) ys) := hv
  have HUL : Hid (xs.length = un) := hu.len
  have HVL : Hid (ys.length = vn) := hv.len
  clear hu hv
  by_cases hne : un = vn
  · subst hne
    have HL : Hid (lsB xs ys = lexB xs ys) := by show _ = _; unfold lsB; rw [if_pos (by rw [HUL.out, HVL.out])]
    go_enter Tryz.func85, Tryz.ntmps85
    go_wp2
    go_loopg [5] un (fun g1 v5 wr => ∃ k q : Nat, v5 = .int .i64 k ∧ k ≤ un ∧ un - k ≤ g1 ∧ Hid (xs.take k = ys.take k) ∧ Hid (wr = w.drewN q))
    case atStart => exact ⟨0, 0, rfl, by omega, by omega, rfl, rfl⟩
    case round =>
      obtain ⟨k, q0, rfl, hkn, hg1, HA, HQ⟩ := hrel
      have HU2 : Hid (RG (Value.int .i64) wr (.slice uo un uc) xs) := by rw [HQ.out]; exact HU.out.drewN q0
      have HV2 : Hid (RG (Value.int .i64) wr (.slice vo un vc) ys) := by rw [HQ.out]; exact HV.out.drewN q0
      by_cases hlt : k < un
      · have hltz : (k : Int) < (un : Int) := by omega
        obtain ⟨x, gx, ox, hx1, rfl, hx2⟩ := HU2.out.at hlt
        obtain ⟨y, gy, oy, hy1, rfl, hy2⟩ := HV2.out.at hlt
        by_cases he : x = y
        · have HA2 : Hid (xs.take (k + 1) = ys.take (k + 1)) := by show _ = _; rw [List.take_add_one, List.take_add_one, hx1, hy1, HA.out, he]
          have hez : (x != y) = false := by simpa using he
          clear he hx1 hy1 HA
          go_wp2
          go_quiet (fail)
          clear hx2 hy2
          go_wp2
          go_roundg (un - (k + 1))
          case measure => omega
          case rel => exact ⟨k + 1, _, by first | rfl | go_num, by omega, Nat.le_refl _, HA2, by show _ = _; rw [HQ.out]; exact drewR_add _ _ _⟩
        · have HE : Hid (lsB xs ys = decide (x < y)) := by show _ = _; rw [HL.out]; exact lexB_at HA.out hx1 hy1 he
          have hez : (x != y) = true := by simpa using he
          have HXD : Hid (∀ q, (wr.drewN q).cell? ⟨gx, ox + k, none⟩ = some (.int .i64 x)) := fun q => by have := keepR (below_drewN (Below.refl _ _) q) hx2; exact this
          have HYD : Hid (∀ q, (wr.drewN q).cell? ⟨gy, oy + k, none⟩ = some (.int .i64 y)) := fun q => by have := keepR (below_drewN (Below.refl _ _) q) hy2; exact this
          clear he hx1 hy1 HA
          go_wp2
          go_quiet (fail)
          clear hx2 hy2
          generalize hW : wr.drewN _ = W1
          have hx3 : W1.cell? ⟨gx, ox + k, none⟩ = some (.int .i64 x) := by rw [← hW]; exact HXD.out _
          have hy3 : W1.cell? ⟨gy, oy + k, none⟩ = some (.int .i64 y) := by rw [← hW]; exact HYD.out _
          have HW1 : Hid (∃ q, W1 = w.drewN q) := ⟨_, by rw [← hW, HQ.out]; exact drewR_add _ _ _⟩
          clear hW HXD HYD
          go_wp2
          go_quiet (fail)
          go_wp2
          go_ret
          obtain ⟨q1, hq1⟩ := HW1.out
          exact ⟨by rw [HE.out]; rfl, _, by rw [hq1]; exact drewR_add _ _ _⟩
      · have hltz : ¬ (k : Int) < (un : Int) := by omega
        have HE : Hid (lsB xs ys = false) := by
          show _ = _
          have h1 := HA.out
          rw [List.take_of_length_le (by rw [HUL.out]; omega), List.take_of_length_le (by rw [HVL.out]; omega)] at h1
          rw [HL.out, h1]; exact lexB_same _
        clear HA
        go_wp2
        go_ret
        exact ⟨by rw [HE.out]; rfl, _, HQ.out⟩
  · have HE : Hid (lsB xs ys = decide (un < vn)) := by
      show _ = _
      unfold lsB
      rw [if_neg (by rw [HUL.out, HVL.out]; exact hne), HUL.out, HVL.out]
    have hnz : ((un : Int) != (vn : Int)) = true := by simp; omega
    clear hne
    go_enter Tryz.func85, Tryz.ntmps85
    go_wp2
    go_ret
    exact ⟨by rw [HE.out]; rfl, 0, rfl⟩
end Go.Proofs.YtcoiapgfaibkgaaGreat

namespace Go.Proofs.YtcoiapgfaibkgaaGreat
set_option linter.unusedVariables false
open Go.RowKit Go.Shelf Go.Sort Go.Lib
/-- A hunt in memory: what was come to, and the best trail as yet (told the newest first). -/
structure HuC (w0 W : World) (hb gc n : Nat) (pv qv av bv : Value) (tz : Int) (s : HuS) : Prop where
  box : HuB W hb gc n pv qv av bv tz
  came : OG Value.bool w0.heap.size 4 W (.slice (some ⟨gc, 0, none⟩) n n) (rowB n s.2)
  best : (s.1 = none ∧ bv = .slice none 0 0) ∨ ∃ x g k c, s.1 = some x ∧ bv = .slice (some ⟨g, 0, none⟩) k c ∧ OG (Value.int .i64) w0.heap.size 3 W bv x.reverse
  frm : Below w0.heap.size w0 W
  lo : w0.heap.size ≤ hb
def HuX (hb gc q : Nat) : Prop := q = hb ∨ q = gc
theorem HuC.below {w0 W W' : World} {hb gc n : Nat} {pv qv av bv : Value} {tz : Int} {s : HuS} (h : HuC w0 W hb gc n pv qv av bv tz s) (hW : Below W.heap.size W W') : HuC w0 W' hb gc n pv qv av bv tz s :=
  ⟨(hW.block hb h.box.lt).trans h.box, h.came.below hW, h.best.imp id fun ⟨x, g, k, c, h1, h2, h3⟩ => ⟨x, g, k, c, h1, h2, h3.below hW⟩, bstepB h.frm hW, h.lo⟩
theorem HuC.gcl {w0 W : World} {hb gc n : Nat} {pv qv av bv : Value} {tz : Int} {s : HuS} (h : HuC w0 W hb gc n pv qv av bv tz s) : w0.heap.size ≤ gc ∧ gc < W.heap.size := h.came.lt gc rfl
/-- A row of numbers of one's own lies in neither block. -/
theorem HuC.neI {w0 W : World} {hb gc n : Nat} {pv qv av bv : Value} {tz : Int} {s : HuS} (h : HuC w0 W hb gc n pv qv av bv tz s) {B : Nat} {v : Value} {L : List Int} (ho : OG (Value.int .i64) B 3 W v L) {q : Nat} (hq : v.ownBlock = some q) : ¬ HuX hb gc q := by
  rintro (e | e)
  · subst e
    obtain ⟨cs, hc⟩ := ho.blockE hq
    have hbx := h.box
    unfold HuB at hbx
    rw [hc] at hbx
    simp only [Option.some.injEq, Obj.cells.injEq] at hbx
    exact absurd hbx.2.1 (by decide)
  · subst e
    exact ho.neO h.came (by decide) hq rfl
theorem HuC.keepI {w0 W W' : World} {hb gc n : Nat} {pv qv av bv : Value} {tz : Int} {s : HuS} (h : HuC w0 W hb gc n pv qv av bv tz s) {B : Nat} {v : Value} {L : List Int} (ho : OG (Value.int .i64) B 3 W v L) (hf : FrP (HuX hb gc) W W') : OG (Value.int .i64) B 3 W' v L := ho.of_blocks fun q hq => hf.block q (ho.lt q hq).2 (h.neI ho hq)
theorem HuC.hbgc {w0 W : World} {hb gc n : Nat} {pv qv av bv : Value} {tz : Int} {s : HuS} (h : HuC w0 W hb gc n pv qv av bv tz s) : hb ≠ gc := fun e => by
  obtain ⟨cs, hc⟩ := h.came.blockE (q := gc) rfl
  have hbx := h.box
  unfold HuB at hbx
  rw [e, hc] at hbx
  simp only [Option.some.injEq, Obj.cells.injEq] at hbx
  exact absurd hbx.2.1 (by decide)
/-- A point is come to. -/
theorem HuC.mark {w0 W : World} {hb gc n : Nat} {pv qv av bv : Value} {tz : Int} {s : HuS} (h : HuC w0 W hb gc n pv qv av bv tz s) (l : Nat) : HuC w0 (W.setCell ⟨gc, l, none⟩ (.bool true)) hb gc n pv qv av bv tz (s.1, fun v => if v = l then true else s.2 v) ∧ FrP (HuX hb gc) W (W.setCell ⟨gc, l, none⟩ (.bool true)) := by
  have hs := h.came.set (by rw [rowB_len]) l true
  rw [rowB_set] at hs
  refine ⟨⟨?_, hs.1, h.best.imp id fun ⟨x, g, k, c, h1, h2, h3⟩ => ⟨x, g, k, c, h1, h2, h3.of_blocks fun q hq => Below.heap_setCell _ _ _ _ (fun e => h.neI h3 hq (Or.inr e))⟩, h.frm.setCell (p := ⟨gc, l, none⟩) h.gcl.1 _, h.lo⟩, (FrP.of_grown hs.2).mono fun q _ e => Or.inr (by simpa using e.symm)⟩
  exact (Below.heap_setCell _ _ _ _ (fun e => h.hbgc e)).trans h.box
/-- A better trail. -/
theorem HuC.better {w0 W : World} {hb gc n : Nat} {pv qv av bv : Value} {tz : Int} {s : HuS} (h : HuC w0 W hb gc n pv qv av bv tz s) {g k c : Nat} {x : List Int} (ho : OG (Value.int .i64) w0.heap.size 3 W (.slice (some ⟨g, 0, none⟩) k c) x.reverse) : HuC w0 (W.setCell ⟨hb, 4, none⟩ (.slice (some ⟨g, 0, none⟩) k c)) hb gc n pv qv av (.slice (some ⟨g, 0, none⟩) k c) tz (some x, s.2) ∧ FrP (HuX hb gc) W (W.setCell ⟨hb, 4, none⟩ (.slice (some ⟨g, 0, none⟩) k c)) := by
  have hbx := heap_setCell_same W hb 4 _ _ (.slice (some ⟨g, 0, none⟩) k c) h.box
  refine ⟨⟨hbx, h.came.of_blocks fun q hq => Below.heap_setCell _ _ _ _ (fun e => ?_), Or.inr ⟨x, g, k, c, rfl, rfl, ho.of_blocks fun q hq => Below.heap_setCell _ _ _ _ (fun e => h.neI ho hq (Or.inl e))⟩, h.frm.setCell (p := ⟨hb, 4, none⟩) h.lo _, h.lo⟩, (FrP.refl _ _).put _ _ fun _ => Or.inl rfl⟩
  have e1 : gc = q := by simpa [Value.ownBlock] using hq
  have e2 : q = hb := e
  exact h.hbgc (e2.symm.trans e1.symm)
/-- The hunt between two rounds. -/
def huK (P : List (List Int)) (G A : List Int) (tz : Int) (m : Nat) (t : List Int) (s : HuS) (k : Nat) : HuS :=
  match m with
  | 0 => visX G tz t s
  | m + 1 => (List.range k).foldl (fun s (k : Nat) => if okX P G A t (k : Int) = true then huF P G A tz m ((k : Int) :: t) s else s) (visX G tz t s)
theorem huK_zero (P : List (List Int)) (G A : List Int) (tz : Int) (m : Nat) (t : List Int) (s : HuS) : huK P G A tz m t s 0 = visX G tz t s := by cases m <;> rfl
theorem huK_end (P : List (List Int)) (G A : List Int) (tz : Int) (m : Nat) (t : List Int) (s : HuS) : huK P G A tz m t s P.length = huF P G A tz m t s := by cases m <;> rfl
theorem huK_no {P : List (List Int)} {G A : List Int} {tz : Int} {m : Nat} {t : List Int} {s : HuS} {k : Nat} (h : okX P G A t (k : Int) = false) : huK P G A tz m t s (k + 1) = huK P G A tz m t s k := by
  cases m with
  | zero => rfl
  | succ m =>
    show List.foldl _ _ (List.range (k + 1)) = List.foldl _ _ (List.range k)
    rw [List.range_succ, List.foldl_append, List.foldl_cons, List.foldl_nil, if_neg (by rw [h]; decide)]
theorem huK_yes {P : List (List Int)} {G A : List Int} {tz : Int} {m : Nat} {t : List Int} {s : HuS} {k : Nat} (h : okX P G A t (k : Int) = true) : huK P G A tz (m + 1) t s (k + 1) = huF P G A tz m ((k : Int) :: t) (huK P G A tz (m + 1) t s k) := by
  show List.foldl _ _ (List.range (k + 1)) = _
  rw [List.range_succ, List.foldl_append, List.foldl_cons, List.foldl_nil, if_pos h]
  rfl
theorem run_eqlN (g n c : Nat) (w : World) : (binOp .eql 23 (.slice (some ⟨g, 0, none⟩) n c) (.slice none 0 0)).run Tryz.prog w = .ok (.bool false) w := by kernel_rfl
theorem run_eqlZ (w : World) : (binOp .eql 23 (.slice none 0 0) (.slice none 0 0)).run Tryz.prog w = .ok (.bool true) w := by kernel_rfl
end Go.Proofs.YtcoiapgfaibkgaaGreat

namespace Go.Proofs.YtcoiapgfaibkgaaGreat
set_option linter.unusedVariables false
open Go.RowKit Go.Shelf Go.Sort Go.Lib
/-- A closure that looks a point up in a list that lies in a box. -/
def amV (gb : Nat) : Value := .func (.func 108) #[] #[.pointer (some ⟨gb, 0, none⟩)]
structure AmC (B : Nat) (W : World) (gb : Nat) (L : List Int) : Prop where
  ex : ∃ lo ln lc, W.cell? ⟨gb, 0, none⟩ = some (.slice lo ln lc) ∧ RG (Value.int .i64) W (.slice lo ln lc) L ∧ ∀ q, (Value.slice lo ln lc).ownBlock = some q → B ≤ q
  lo : B ≤ gb
  rise : Rise L
  len : L.length ≤ 200000
theorem AmC.below {B : Nat} {W W' : World} {gb : Nat} {L : List Int} (h : AmC B W gb L) (hb : Below W.heap.size W W') : AmC B W' gb L := by
  obtain ⟨⟨lo, ln, lc, h1, h2, h5⟩, h6, h3, h4⟩ := h
  exact ⟨⟨lo, ln, lc, keepR hb h1, h2.below (Nat.le_refl _) hb, h5⟩, h6, h3, h4⟩
theorem cell_grown {W W' : World} {rb : Option Nat} {g i : Nat} {x : Value} (hg : W.grownBy W' rb) (hne : rb ≠ some g) (h : W.cell? ⟨g, i, none⟩ = some x) : W'.cell? ⟨g, i, none⟩ = some x := by
  rw [World.cell?_of_block (hg.block g (block_lt_of_cell h) (fun e => hne e.symm))]; exact h
theorem AmC.stay {B : Nat} {W W' : World} {gb : Nat} {L : List Int} {rb : Option Nat} (h : AmC B W gb L) (hg : W.grownBy W' rb) (hv : ∀ q, rb = some q → q < B) : AmC B W' gb L := by
  obtain ⟨⟨lo, ln, lc, h1, h2, h5⟩, h6, h3, h4⟩ := h
  refine ⟨⟨lo, ln, lc, cell_grown hg (fun e => by have := hv gb e; omega) h1, ?_, h5⟩, h6, h3, h4⟩
  obtain ⟨ao, cap, e0, k1, k2, k3, k5⟩ := h2
  refine ⟨ao, cap, e0, k1, k2, k3, fun j x hj => ?_⟩
  obtain ⟨b, off, e1, hc⟩ := k5 j x hj
  exact ⟨b, off, e1, cell_grown hg (fun e => by have h7 := hv b e; have h8 := h5 b (by rw [e0, e1]; rfl); omega) hc⟩
/-- A closure that looks up the new point above one. -/
def keV (gt gp : Nat) : Value := .func (.func 80) #[] #[.pointer (some ⟨gt, 0, none⟩), .pointer (some ⟨gp, 0, none⟩)]
structure KeC (B : Nat) (W : World) (gt gp : Nat) (L : List Int) (n : Nat) : Prop where
  ex : ∃ gb po pc, W.cell? ⟨gt, 0, none⟩ = some (amV gb) ∧ AmC B W gb L ∧ W.cell? ⟨gp, 0, none⟩ = some (.slice po n pc)
  lo : B ≤ gt
  nb : n ≤ 100000
theorem KeC.below {B : Nat} {W W' : World} {gt gp : Nat} {L : List Int} {n : Nat} (h : KeC B W gt gp L n) (hb : Below W.heap.size W W') : KeC B W' gt gp L n := by
  obtain ⟨⟨gb, po, pc, h1, h2, h3⟩, h5, h4⟩ := h
  exact ⟨⟨gb, po, pc, keepR hb h1, h2.below hb, keepR hb h3⟩, h5, h4⟩
theorem KeC.stay {B : Nat} {W W' : World} {gt gp : Nat} {L : List Int} {n : Nat} {rb : Option Nat} (h : KeC B W gt gp L n) (hg : W.grownBy W' rb) (hv : ∀ q, rb = some q → q < B ∧ q ≠ gp) : KeC B W' gt gp L n := by
  obtain ⟨⟨gb, po, pc, h1, h2, h3⟩, h5, h4⟩ := h
  exact ⟨⟨gb, po, pc, cell_grown hg (fun e => by have := (hv gt e).1; omega) h1, h2.stay hg (fun q e => (hv q e).1), cell_grown hg (fun e => (hv gp e).2 rfl) h3⟩, h5, h4⟩
/-- A way of leaving out, and what it answers of a point. -/
inductive WayB (W : World) : Value → (Nat → Bool) → Prop
  | am {B gb : Nat} {L : List Int} : AmC B W gb L → WayB W (amV gb) (fun k => decide ((k : Int) ∈ L))
  | ke {B gt gp : Nat} {L : List Int} {n : Nat} : KeC B W gt gp L n → WayB W (keV gt gp) (fun k => !decide (((n + k : Nat) : Int) ∈ L))
theorem WayB.below {W W' : World} {v : Value} {p : Nat → Bool} (h : WayB W v p) (hb : Below W.heap.size W W') : WayB W' v p := by
  cases h with
  | am h => exact WayB.am (h.below hb)
  | ke h => exact WayB.ke (h.below hb)
theorem WayB.one {W : World} {v : Value} {p : Nat → Bool} (h : WayB W v p) : v.oneCell' = true := by
  cases h with
  | am h => rfl
  | ke h => rfl
/-- A row of ways. -/
structure WaysB (W : World) (v : Value) (vs : List Value) (ps : List (Nat → Bool)) : Prop where
  row : RG id W v vs
  len : vs.length = ps.length
  way : ∀ (i : Nat) (u : Value) (p : Nat → Bool), vs[i]? = some u → ps[i]? = some p → WayB W u p
theorem WaysB.below {W W' : World} {v : Value} {vs : List Value} {ps : List (Nat → Bool)} (h : WaysB W v vs ps) (hb : Below W.heap.size W W') : WaysB W' v vs ps :=
  ⟨h.row.below (Nat.le_refl _) hb, h.len, fun i u p h1 h2 => (h.way i u p h1 h2).below hb⟩
def anyW (ps : List (Nat → Bool)) (k : Nat) : Bool := ps.any fun p => p k
end Go.Proofs.YtcoiapgfaibkgaaGreat
