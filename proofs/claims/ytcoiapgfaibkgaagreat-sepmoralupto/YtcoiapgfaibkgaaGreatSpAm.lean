/-
  Proved here: layer 16's law: what the calls answer over the square.
-/
import Derived.Test.YtcoiapgfaibkgaaGreatSpAl
namespace Go.Proofs.YtcoiapgfaibkgaaGreat
set_option linter.unusedVariables false
open Go.RowKit Go.Shelf Go.Sort Go.Lib
theorem v_ap1 : apE p5 5 [1] [2] [0] = 0 := by decide +kernel
theorem v_ap2 : apE p5 5 [1] [2] [0, 4] = 0 := by decide +kernel
theorem v_r1 : decide ((meetR (endsL (wkL p5 5 [1] [0] [0]) [0]) (ofR [2])).length = 0) = true := by decide +kernel
theorem v_r2 : decide ((meetR (endsL (wkL p5 5 [1] [0, 4] [0, 1, 2, 3, 4]) [0, 4]) (ofR [2])).length = 0) = false := by decide +kernel
theorem v_t : trR (wkL p5 5 [1] [0, 4] [0, 1, 2, 3, 4]) 2 [0, 4] = [1, 3, 2] := by decide +kernel
theorem v_w : wkE p5 5 [1] [0] = 0 := by decide +kernel
theorem v_e : endsL (wkL p5 5 [1] [0] [0]) [0] = [1, 3, 4] := by decide +kernel
theorem v_b : blE p5 5 1 = 0 := by decide +kernel
theorem v_bl : blR p5 5 1 = [0, 2, 3] := by decide +kernel
theorem apart1 (pv av bv qv : Value) (pvs : List Value) (w : World) (h : RRD w pv pvs p5) (ha : RG (Value.int .i64) w av [1]) (hb : RG (Value.int .i64) w bv [2]) (hq : RG (Value.int .i64) w qv [0]) :
    Calls Tryz.prog 17 #[pv, av, bv, qv] w fun e w' => e = .returned (.tuple #[.bool true, .int .i64 0]) ∧ Below w.heap.size w w' :=
  (apartP pv av bv qv pvs p5 [1] [2] [0] w h 5 rfl (by omega) ha (by simp) hb (by simp) hq (by simp) (fun h0 A s => hdis_any rfl h0 A s)).mono fun e w' ⟨r, he, _, h2, h3⟩ => by
    obtain ⟨A, hA, hr⟩ := h2 v_ap1
    rw [p5_top hA, v_r1] at hr
    rw [v_ap1, hr] at he
    exact ⟨he, h3⟩
theorem apart2 (pv av bv qv : Value) (pvs : List Value) (w : World) (h : RRD w pv pvs p5) (ha : RG (Value.int .i64) w av [1]) (hb : RG (Value.int .i64) w bv [2]) (hq : RG (Value.int .i64) w qv [0, 4]) :
    Calls Tryz.prog 17 #[pv, av, bv, qv] w fun e w' => e = .returned (.tuple #[.bool false, .int .i64 0]) ∧ Below w.heap.size w w' :=
  (apartP pv av bv qv pvs p5 [1] [2] [0, 4] w h 5 rfl (by omega) ha (by simp) hb (by simp) hq (by simp) (fun h0 A s => hdis_any rfl h0 A s)).mono fun e w' ⟨r, he, _, h2, h3⟩ => by
    obtain ⟨A, hA, hr⟩ := h2 v_ap2
    rw [p5_two hA, v_r2] at hr
    rw [v_ap2, hr] at he
    exact ⟨he, h3⟩
theorem trail1 (pv qv : Value) (pvs : List Value) (w : World) (h : RRD w pv pvs p5) (hq : RG (Value.int .i64) w qv [0, 4]) :
    Calls Tryz.prog 20 #[pv, .int .i64 1, .int .i64 2, qv] w fun e w' => ∃ ao n c, e = .returned (.tuple #[.slice ao n c, .int .i64 0]) ∧ RG (Value.int .i64) w' (.slice ao n c) [1, 3, 2] ∧ Below w.heap.size w w' :=
  (trailP pv qv pvs p5 1 2 [0, 4] w h 5 rfl (by omega) hq (by simp)).mono fun e w' ⟨v, he, _, h2, h3⟩ => by
    obtain ⟨A, hA, hr⟩ := h2 v_ap2
    rw [p5_two hA, v_t] at hr
    rw [v_ap2] at he
    obtain ⟨ao, c, e2, -⟩ := hr.sl
    subst e2
    exact ⟨ao, _, c, he, hr.rg, h3⟩
theorem reach1 (pv av qv : Value) (pvs : List Value) (w : World) (h : RRD w pv pvs p5) (ha : RG (Value.int .i64) w av [1]) (hq : RG (Value.int .i64) w qv [0]) :
    Calls Tryz.prog 12 #[pv, av, qv] w fun e w' => ∃ ao n c, e = .returned (.tuple #[.slice ao n c, .int .i64 0]) ∧ RG (Value.int .i64) w' (.slice ao n c) [1, 3, 4] ∧ Below w.heap.size w w' :=
  (reachP pv av qv pvs p5 [1] [0] w h 5 rfl (by omega) ha (by simp) hq (by simp) (fun h0 A s => hdis_any rfl h0 A s)).mono fun e w' ⟨v, he, _, h2, h3⟩ => by
    obtain ⟨A, hA, hr⟩ := h2 v_w
    rw [p5_top hA, v_e] at hr
    rw [v_w] at he
    obtain ⟨ao, c, e2, -⟩ := hr.sl
    subst e2
    exact ⟨ao, _, c, he, hr.rg, h3⟩
theorem blanket1 (pv : Value) (pvs : List Value) (w : World) (h : RRD w pv pvs p5) :
    Calls Tryz.prog 45 #[pv, .int .i64 1] w fun e w' => ∃ ao n c, e = .returned (.tuple #[.slice ao n c, .int .i64 0]) ∧ RG (Value.int .i64) w' (.slice ao n c) [0, 2, 3] ∧ Below w.heap.size w w' :=
  (blanketS pv pvs p5 w h 5 rfl (by omega) 1).mono fun e w' ⟨v, he, hr, h3⟩ => by
    rw [v_bl] at hr
    rw [v_b] at he
    obtain ⟨ao, c, e2, -⟩ := hr.sl
    subst e2
    exact ⟨ao, _, c, he, hr.rg, h3⟩
theorem same1 (u v : Value) (xs : List Int) (w : World) (hu : RG (Value.int .i64) w u xs) (hv : RG (Value.int .i64) w v xs) : Calls Tryz.prog 46 #[u, v] w fun e w' => e = .returned (.bool true) ∧ Below w.heap.size w w' :=
  (sameL16 u v xs xs w hu hv).mono fun e w' ⟨he, q, hq⟩ => ⟨he.trans (by rw [decide_eq_true rfl]), by rw [hq]; exact below_drewN (Below.refl _ _) q⟩
end Go.Proofs.YtcoiapgfaibkgaaGreat
