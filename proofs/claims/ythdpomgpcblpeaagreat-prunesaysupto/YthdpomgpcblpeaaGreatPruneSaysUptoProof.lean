/-
  Proved here: for every input whose arguments are together of bulk at most the given bound PruneSays returns true, and each argument reads afterwards as it read before.
-/
import Derived.Test.YthdpomgpcblpeaaGreatDagOpen2All
import Derived.JoinedCond
import Derived.ProofKit
import Derived.OpenShut
import Derived.ChangeOld
namespace Go.Proofs.YthdpomgpcblpeaaGreat
open Go.ChangeShapes Go.WideShapes Go.ChangeAt Go.RowKit
set_option linter.unusedVariables false

theorem pruneSays_own : ownKnob Tryz.prog.godebug = none := by kernel_rfl
theorem pruneSays_laidOut : laidOutB Tryz.prog = true := by kernel_rfl

set_option maxRecDepth 100000 in
theorem pruneSays_lifted (os : Os) (started : os.Started) (H : Type) (enc : TypeId × Value → H) (F : Stop.Interp) :
    ReturnsInHanded {} Tryz.checked os 3 .any ((Rows.OpenSpec.upto Rows.pruneSaysSpec).pre6 enc Tryz.prog Tryz.f3 Rows.pruneSaysUptoRow.domain false) (((Rows.OpenSpec.upto Rows.pruneSaysSpec).at F).post enc Tryz.prog Tryz.f3 false true false false) := by
  refine returnsInHanded_of_cond (C := Tryz.checked) (s := Rows.OpenSpec.upto Rows.pruneSaysSpec) (k := Rows.uptoSmall) rfl pruneSays_own started (by kernel_rfl) Tryz.func3
    (OpenSpec.witness (enc := enc) (C := Tryz.checked) (s := Rows.OpenSpec.upto Rows.pruneSaysSpec) (k := Rows.uptoSmall) rfl false ⟨#[], #[.slice none 0 0, .slice none 0 0, .slice none 0 0], []⟩ 8 (by kernel_rfl) (by kernel_rfl) (by kernel_rfl)
      (x := ([.nil, .nil, .nil], [], [])) (by kernel_rfl) rfl (by kernel_rfl)) ?_
  intro W base args ds gs before hval0 hW _ hk _
  have hval : ∀ (j : Nat) t v, Tryz.f3.params[j]? = some t → args[j]? = some v → Value.okWide Tryz.prog W .any base t v := hval0
  have hW' := hW
  obtain ⟨p, q, hA0, hV, rfl, hfz, hnd⟩ := hW
  have hA : DataW.TrodAll enc Tryz.prog W 0 (fun _ => true) true Tryz.f3.params.toList args.toList ds p := hA0
  rw [Tryz.params3] at hA hval
  obtain ⟨v0, vs0, d0, ds0, p0, q0, hargs, rfl, rfl, h0, r0⟩ := trodAll_cons hA
  obtain ⟨v1, vs1, d1, ds1, p1, q1, rfl, rfl, rfl, h1, r1⟩ := trodAll_cons r0
  obtain ⟨v2, vs2, d2, ds2, p2, q2, rfl, rfl, rfl, h2, r2⟩ := trodAll_cons r1
  obtain ⟨rfl, rfl, rfl⟩ := trodAll_nil r2
  obtain rfl : args = #[v0, v1, v2] := by cases args; simp_all
  obtain ⟨rfl, rfl⟩ := trodVars_none hV
  obtain ⟨a0, len0, cap0, rfl⟩ := okWide_slice Tryz.underlying22 (hval 0 22 v0 rfl rfl)
  have k0 := h0
  have lt0 : ∀ x ∈ p0, x.block < W.heap.size := by obtain ⟨m, hm⟩ := k0; exact DataW.trod_lt m _ _ _ hm
  have hbd0 : Rows.uptoBulk d0 ≤ 1048576 := by
    have hq := of_decide_eq_true hk
    exact Nat.le_trans (bulk_mem (List.mem_append_left _ (List.mem_cons_self ..))) hq
  obtain ⟨pvs0, P0, w0, b0⟩ : ∃ pvs P, RRD W (.slice a0 len0 cap0) pvs P ∧ ∀ i, (P.getD i []).length ≤ 1048576 := by
    obtain ⟨fuel, hf⟩ := h0
    exact rrd_open hf hbd0
  obtain ⟨a1, len1, cap1, rfl⟩ := okWide_slice Tryz.underlying23 (hval 1 23 v1 rfl rfl)
  have k1 := h1
  have lt1 : ∀ x ∈ p1, x.block < W.heap.size := by obtain ⟨m, hm⟩ := k1; exact DataW.trod_lt m _ _ _ hm
  have hbd1 : Rows.uptoBulk d1 ≤ 1048576 := by
    have hq := of_decide_eq_true hk
    exact Nat.le_trans (bulk_mem (List.mem_append_left _ (List.mem_cons_of_mem _ (List.mem_cons_self ..)))) hq
  obtain ⟨zs1, w1, b1⟩ : ∃ zs, RG (Value.int .i64) W (.slice a1 len1 cap1) zs ∧ zs.length ≤ 1048576 := by
    obtain ⟨fuel, hf⟩ := h1
    exact rg_open hf hbd1
  obtain ⟨a2, len2, cap2, rfl⟩ := okWide_slice Tryz.underlying23 (hval 2 23 v2 rfl rfl)
  have k2 := h2
  have lt2 : ∀ x ∈ p2, x.block < W.heap.size := by obtain ⟨m, hm⟩ := k2; exact DataW.trod_lt m _ _ _ hm
  have hbd2 : Rows.uptoBulk d2 ≤ 1048576 := by
    have hq := of_decide_eq_true hk
    exact Nat.le_trans (bulk_mem (List.mem_append_left _ (List.mem_cons_of_mem _ (List.mem_cons_of_mem _ (List.mem_cons_self ..))))) hq
  obtain ⟨zs2, w2, b2⟩ : ∃ zs, RG (Value.int .i64) W (.slice a2 len2 cap2) zs ∧ zs.length ≤ 1048576 := by
    obtain ⟨fuel, hf⟩ := h2
    exact rg_open hf hbd2
  clear hA0 hval0
  refine (pruneSays_top _ pvs0 P0 _ zs1 _ zs2 W w0 b0 w1 b1 w2 b2).mono fun e W' ⟨he, bel⟩ => ?_
  subst he
  exact ⟨_, rfl, _, _, _, [], _, [], hW', trodAll_mk1 (shut_bool Tryz.underlying4 _), (trodAll_cons_mk (Below.trod pruneSays_laidOut (by kernel_rfl) (of_decide_eq_true (by kernel_rfl)) k0 bel lt0) (trodAll_cons_mk (Below.trod pruneSays_laidOut (by kernel_rfl) (of_decide_eq_true (by kernel_rfl)) k1 bel lt1) (trodAll_cons_mk (Below.trod pruneSays_laidOut (by kernel_rfl) (of_decide_eq_true (by kernel_rfl)) k2 bel lt2) trodAll_mk0))), rfl, bel.frame _, fun h => by cases h⟩

theorem pruneSays_over : Rows.pruneSaysUptoRow.holds Tryz.pinned (Rows.OpenSpec.upto Rows.pruneSaysSpec) :=
  OpenClaim.holds_of_cond 3 Tryz.f3 rfl rfl rfl rfl rfl rfl rfl ⟨rfl, rfl, rfl, rfl, rfl⟩ rfl rfl rfl rfl rfl (by kernel_rfl) Tryz.func3 (by kernel_rfl)
    (of_decide_eq_true (by kernel_rfl)) (by unfold Func.isWrapper; first | (rw [if_pos (by decide +kernel)]; kernel_rfl) | (rw [if_neg (by decide +kernel)]; exact ⟨rfl, rfl⟩))
    (fun os started H enc _ F => pruneSays_lifted os started H enc F)

theorem pruneSaysUpto_holds : Rows.PruneSaysUptoSaid := pruneSays_over
#print axioms pruneSaysUpto_holds
end Go.Proofs.YthdpomgpcblpeaaGreat
