/-
  Proved here: for every input WholeBezout returns true, and each argument reads afterwards as it read before. No condition.
-/
import Derived.Test.YtmcnpiajnehnlabDoorWholeBezoutWalk
import Derived.Test.YtmcnpiajnehnlabDoorInts
import Derived.Lib.SmallJoins
import Derived.Test.YtmcnpiajnehnlabDoorTie
import Derived.Test.YtmcnpiajnehnlabDoorCards
import Derived.ProofKit
import Derived.OpenShut
import Derived.ShutString
import Derived.ChangeOld
import Derived.LaidMore
import Derived.Lay
import Derived.SevenTiedAt
namespace Go.Proofs.YtmcnpiajnehnlabDoor
open Go.ChangeShapes Go.WideShapes Go.ChangeAt Go.RowKit
open Go.ChangeMaps (open_string shut_string)
set_option linter.unusedVariables false

theorem wholeBezout_own : ownKnob Tryd.prog.godebug = none := by kernel_rfl
theorem wholeBezout_laidOut : laidOutB Tryd.prog = true := by kernel_rfl

set_option maxRecDepth 100000 in
theorem wholeBezout_lifted (os : Os) (started : os.Started) (H : Type) (enc : TypeId × Value → H) :
    ReturnsInHanded {} Tryd.checked os 5 .any (fun w args => (Rows.wholeBezoutSpec.pre enc Tryd.prog Tryd.f5 Rows.wholeBezoutRow.domain false w args ∧ laidMetH Tryd.prog Rows.wholeBezoutRow.laid w) ∧ sizedMet enc Tryd.prog Tryd.f5 (OpenSpec.ofChange Rows.wholeBezoutSpec) false w args)
      (Rows.wholeBezoutSpec.post enc Tryd.prog Tryd.f5 false true false false) := by
  refine returnsInHanded_of_change_and (C := Tryd.checked) (X := fun w _ => laidMetH Tryd.prog Rows.wholeBezoutRow.laid w) (fun _ _ _ hh h => h.of_heap hh) wholeBezout_own started (by kernel_rfl) Tryd.func5
    (ChangeSpec.witness_shaped (enc := enc) (C := Tryd.checked) (os := os) (X := fun w _ => laidMetH Tryd.prog Rows.wholeBezoutRow.laid w) false (World.laidAll Tryd.prog os Rows.wholeBezoutRow.laid) #[.agg #[.bool false, .slice none 0 0], .agg #[.bool false, .slice none 0 0]] 8 (World.laidAll_os _ _ _)
      (World.shaped_of_ZipB (by kernel_rfl) (by kernel_rfl)) (by kernel_rfl) (by kernel_rfl) (by kernel_rfl)
      (by rw [MakeChecks.laidMetH_plain _ _ _ (by kernel_rfl)]; exact laidMet_laidAll _ (by kernel_rfl) (by kernel_rfl))) ?_
  intro W base args ds gs before hval0 hW hc _ hL _
  have hval : ∀ (j : Nat) t v, Tryd.f5.params[j]? = some t → args[j]? = some v → Value.okWide Tryd.prog W .any base t v := hval0
  have hW' := hW
  obtain ⟨p, q, hA0, hV, rfl, hfz, hnd⟩ := hW
  have hA : DataW.TrodAll enc Tryd.prog W 0 (fun _ => true) true Tryd.f5.params.toList args.toList ds p := hA0
  rw [Tryd.params5] at hA hval
  obtain ⟨v0, vs0, d0, ds0, p0, q0, hargs, rfl, rfl, h0, r0⟩ := trodAll_cons hA
  obtain ⟨v1, vs1, d1, ds1, p1, q1, rfl, rfl, rfl, h1, r1⟩ := trodAll_cons r0
  obtain ⟨rfl, rfl, rfl⟩ := trodAll_nil r1
  obtain rfl : args = #[v0, v1] := by cases args; simp_all
  obtain ⟨rfl, rfl⟩ := trodVars_none hV
  have k0 := h0
  have lt0 : ∀ x ∈ p0, x.block < W.heap.size := by obtain ⟨m, hm⟩ := k0; exact DataW.trod_lt m _ _ _ hm
  obtain ⟨c0, m0, ya0, yb0, n0, rfl, rfl, rfl, hya0, hyb0⟩ := Joins.open_agg2 Tryd.underlying25 (by kernel_rfl) (show Tryd.prog.cellsOf 25 = 2 by kernel_rfl) (hval 0 25 v0 rfl rfl) h0
  obtain ⟨g0, eg0, _⟩ := DataW.trod_bool Tryd.underlying4 hya0
  simp only [List.cons.injEq, and_true] at eg0
  subst eg0
  obtain ⟨a0, len0, cap0, z0, em0, w0⟩ : ∃ ao l c xs, m0 = .slice ao l c ∧ Num W (.slice ao l c) xs := by
    rcases open_ints Tryd.underlying23 Tryd.underlying68 (by kernel_rfl) hyb0 with ⟨hcs, _⟩ | ⟨x, l, c, zs, hcs, _, hl, hm, hz, _, hcell, hwz⟩
    · simp only [List.cons.injEq, and_true] at hcs
      exact ⟨_, _, _, [], hcs, Num.of_nil _⟩
    · simp only [List.cons.injEq, and_true] at hcs
      obtain ⟨xs, hn⟩ := num_of_ints hl hm (by simpa using hz) hcell hwz
      exact ⟨_, _, _, xs, hcs, hn⟩
  subst em0
  have k1 := h1
  have lt1 : ∀ x ∈ p1, x.block < W.heap.size := by obtain ⟨m, hm⟩ := k1; exact DataW.trod_lt m _ _ _ hm
  obtain ⟨c1, m1, ya1, yb1, n1, rfl, rfl, rfl, hya1, hyb1⟩ := Joins.open_agg2 Tryd.underlying25 (by kernel_rfl) (show Tryd.prog.cellsOf 25 = 2 by kernel_rfl) (hval 1 25 v1 rfl rfl) h1
  obtain ⟨g1, eg1, _⟩ := DataW.trod_bool Tryd.underlying4 hya1
  simp only [List.cons.injEq, and_true] at eg1
  subst eg1
  obtain ⟨a1, len1, cap1, z1, em1, w1⟩ : ∃ ao l c xs, m1 = .slice ao l c ∧ Num W (.slice ao l c) xs := by
    rcases open_ints Tryd.underlying23 Tryd.underlying68 (by kernel_rfl) hyb1 with ⟨hcs, _⟩ | ⟨x, l, c, zs, hcs, _, hl, hm, hz, _, hcell, hwz⟩
    · simp only [List.cons.injEq, and_true] at hcs
      exact ⟨_, _, _, [], hcs, Num.of_nil _⟩
    · simp only [List.cons.injEq, and_true] at hcs
      obtain ⟨xs, hn⟩ := num_of_ints hl hm (by simpa using hz) hcell hwz
      exact ⟨_, _, _, xs, hcs, hn⟩
  subst em1
  clear hA0 hval0
  refine (wholeBezout_top g0 a0 len0 cap0 z0 g1 a1 len1 cap1 z1 W w0 w1).mono fun e W' ⟨he, bel⟩ => ?_
  subst he
  exact ⟨_, rfl, _, _, _, [], _, [], hW', trodAll_mk1 (shut_bool Tryd.underlying4 _), (trodAll_cons_mk (Below.trod wholeBezout_laidOut (by kernel_rfl) (of_decide_eq_true (by kernel_rfl)) k0 bel lt0) (trodAll_cons_mk (Below.trod wholeBezout_laidOut (by kernel_rfl) (of_decide_eq_true (by kernel_rfl)) k1 bel lt1) trodAll_mk0)), rfl, bel.frame _, fun h => by cases h⟩

theorem wholeBezout_over : Rows.wholeBezoutRow.holds Tryd.pinned (OpenSpec.ofChange Rows.wholeBezoutSpec) :=
  OpenClaim.holds_of_wide 5 Tryd.f5 rfl rfl rfl rfl rfl rfl rfl ⟨rfl, rfl, rfl, rfl, rfl⟩ rfl rfl rfl rfl rfl (by kernel_rfl) Tryd.func5 (by kernel_rfl)
    (of_decide_eq_true (by kernel_rfl)) (by unfold Func.isWrapper; first | (rw [if_pos (by decide +kernel)]; kernel_rfl) | (rw [if_neg (by decide +kernel)]; exact ⟨rfl, rfl⟩))
    (fun os started H enc _ => wholeBezout_lifted os started H enc)

theorem wholeBezout_holds : Rows.WholeBezoutCardSaid :=
  Claim7.holds_tied_plain_at .later [] Rows.wholeBezoutCard.laidKinds true Rows.wholeBezoutCard.stood.harness Rows.wholeBezoutCard.stood.looks wholeBezout_over (fun _ h => by cases h) (by kernel_rfl) (fun _ h => by cases h) wholeBezout_row_tie rfl ⟨rfl, rfl⟩ (by kernel_rfl) rfl
    (fun f fn hf hfn => by
      obtain rfl : f = 5 := Option.some.inj ((show Tryd.prog.funcNamed Rows.wholeBezoutRow.func = some 5 by kernel_rfl).symm.trans hf) |>.symm
      obtain rfl : fn = Tryd.f5 := (Option.some.inj (Tryd.func5.symm.trans hfn)).symm
      exact ⟨by kernel_rfl, fun j t ht => by
        rw [Tryd.params5] at ht
        have hm : t ∈ [25, 25] := by simpa using Array.mem_of_getElem? ht
        have hall : ([25, 25].all fun u => !Tryd.prog.wantsStandIn u) = true := by kernel_rfl
        exact (show Tryd.prog.wantsStandIn t = false by simpa using List.all_eq_true.1 hall t hm)⟩)
    (by kernel_rfl)
#print axioms wholeBezout_holds
end Go.Proofs.YtmcnpiajnehnlabDoor
