/-
  Proved here: for every input FracMake returns true, and each argument reads afterwards as it read before. No condition.
-/
import Derived.Test.YtcmclmhfjmmffaaGreatDoorFracMakeWalk
import Derived.Test.YtcmclmhfjmmffaaGreatDoorInts
import Derived.Lib.SmallJoins
import Derived.Test.YtcmclmhfjmmffaaGreatDoorTie
import Derived.Test.YtcmclmhfjmmffaaGreatDoorCards
import Derived.ProofKit
import Derived.OpenShut
import Derived.ShutString
import Derived.ChangeOld
import Derived.LaidMore
import Derived.Lay
import Derived.SevenTiedAt
namespace Go.Proofs.YtcmclmhfjmmffaaGreatDoor
open Go.ChangeShapes Go.WideShapes Go.ChangeAt Go.RowKit
open Go.ChangeMaps (open_string shut_string)
set_option linter.unusedVariables false

theorem fracMake_own : ownKnob Tryz.prog.godebug = none := by kernel_rfl
theorem fracMake_laidOut : laidOutB Tryz.prog = true := by kernel_rfl

set_option maxRecDepth 100000 in
theorem fracMake_lifted (os : Os) (started : os.Started) (H : Type) (enc : TypeId × Value → H) :
    ReturnsInHanded {} Tryz.checked os 4 .any (fun w args => (Rows.fracMakeSpec.pre enc Tryz.prog Tryz.f4 Rows.fracMakeRow.domain false w args ∧ laidMetH Tryz.prog Rows.fracMakeRow.laid w) ∧ sizedMet enc Tryz.prog Tryz.f4 (OpenSpec.ofChange Rows.fracMakeSpec) false w args)
      (Rows.fracMakeSpec.post enc Tryz.prog Tryz.f4 false true false false) := by
  refine returnsInHanded_of_change_and (C := Tryz.checked) (X := fun w _ => laidMetH Tryz.prog Rows.fracMakeRow.laid w) (fun _ _ _ hh h => h.of_heap hh) fracMake_own started (by kernel_rfl) Tryz.func4
    (ChangeSpec.witness_shaped (enc := enc) (C := Tryz.checked) (os := os) (X := fun w _ => laidMetH Tryz.prog Rows.fracMakeRow.laid w) false (World.laidAll Tryz.prog os Rows.fracMakeRow.laid) #[.agg #[.bool false, .slice none 0 0], .agg #[.bool false, .slice none 0 0], .int .i64 0, .int .i64 0] 8 (World.laidAll_os _ _ _)
      (World.shaped_of_ZipB (by kernel_rfl) (by kernel_rfl)) (by kernel_rfl) (by kernel_rfl) (by kernel_rfl)
      (by rw [MakeChecks.laidMetH_plain _ _ _ (by kernel_rfl)]; exact laidMet_laidAll _ (by kernel_rfl) (by kernel_rfl))) ?_
  intro W base args ds gs before hval0 hW hc _ hL _
  have hval : ∀ (j : Nat) t v, Tryz.f4.params[j]? = some t → args[j]? = some v → Value.okWide Tryz.prog W .any base t v := hval0
  have hW' := hW
  obtain ⟨p, q, hA0, hV, rfl, hfz, hnd⟩ := hW
  have hA : DataW.TrodAll enc Tryz.prog W 0 (fun _ => true) true Tryz.f4.params.toList args.toList ds p := hA0
  rw [Tryz.params4] at hA hval
  obtain ⟨v0, vs0, d0, ds0, p0, q0, hargs, rfl, rfl, h0, r0⟩ := trodAll_cons hA
  obtain ⟨v1, vs1, d1, ds1, p1, q1, rfl, rfl, rfl, h1, r1⟩ := trodAll_cons r0
  obtain ⟨v2, vs2, d2, ds2, p2, q2, rfl, rfl, rfl, h2, r2⟩ := trodAll_cons r1
  obtain ⟨v3, vs3, d3, ds3, p3, q3, rfl, rfl, rfl, h3, r3⟩ := trodAll_cons r2
  obtain ⟨rfl, rfl, rfl⟩ := trodAll_nil r3
  obtain rfl : args = #[v0, v1, v2, v3] := by cases args; simp_all
  obtain ⟨rfl, rfl⟩ := trodVars_none hV
  have k0 := h0
  have lt0 : ∀ x ∈ p0, x.block < W.heap.size := by obtain ⟨m, hm⟩ := k0; exact DataW.trod_lt m _ _ _ hm
  obtain ⟨c0, m0, ya0, yb0, n0, rfl, rfl, rfl, hya0, hyb0⟩ := Joins.open_agg2 Tryz.underlying25 (by kernel_rfl) (show Tryz.prog.cellsOf 25 = 2 by kernel_rfl) (hval 0 25 v0 rfl rfl) h0
  obtain ⟨g0, eg0, _⟩ := DataW.trod_bool Tryz.underlying4 hya0
  simp only [List.cons.injEq, and_true] at eg0
  subst eg0
  obtain ⟨a0, len0, cap0, z0, em0, w0⟩ : ∃ ao l c xs, m0 = .slice ao l c ∧ Num W (.slice ao l c) xs := by
    rcases open_ints Tryz.underlying23 Tryz.underlying69 (by kernel_rfl) hyb0 with ⟨hcs, _⟩ | ⟨x, l, c, zs, hcs, _, hl, hm, hz, _, hcell, hwz⟩
    · simp only [List.cons.injEq, and_true] at hcs
      exact ⟨_, _, _, [], hcs, Num.of_nil _⟩
    · simp only [List.cons.injEq, and_true] at hcs
      obtain ⟨xs, hn⟩ := num_of_ints hl hm (by simpa using hz) hcell hwz
      exact ⟨_, _, _, xs, hcs, hn⟩
  subst em0
  have k1 := h1
  have lt1 : ∀ x ∈ p1, x.block < W.heap.size := by obtain ⟨m, hm⟩ := k1; exact DataW.trod_lt m _ _ _ hm
  obtain ⟨c1, m1, ya1, yb1, n1, rfl, rfl, rfl, hya1, hyb1⟩ := Joins.open_agg2 Tryz.underlying25 (by kernel_rfl) (show Tryz.prog.cellsOf 25 = 2 by kernel_rfl) (hval 1 25 v1 rfl rfl) h1
  obtain ⟨g1, eg1, _⟩ := DataW.trod_bool Tryz.underlying4 hya1
  simp only [List.cons.injEq, and_true] at eg1
  subst eg1
  obtain ⟨a1, len1, cap1, z1, em1, w1⟩ : ∃ ao l c xs, m1 = .slice ao l c ∧ Num W (.slice ao l c) xs := by
    rcases open_ints Tryz.underlying23 Tryz.underlying69 (by kernel_rfl) hyb1 with ⟨hcs, _⟩ | ⟨x, l, c, zs, hcs, _, hl, hm, hz, _, hcell, hwz⟩
    · simp only [List.cons.injEq, and_true] at hcs
      exact ⟨_, _, _, [], hcs, Num.of_nil _⟩
    · simp only [List.cons.injEq, and_true] at hcs
      obtain ⟨xs, hn⟩ := num_of_ints hl hm (by simpa using hz) hcell hwz
      exact ⟨_, _, _, xs, hcs, hn⟩
  subst em1
  obtain ⟨a2, rfl, rfl, rfl, w2⟩ := open_int Tryz.underlying3 (hval 2 3 v2 rfl rfl) h2
  obtain ⟨a3, rfl, rfl, rfl, w3⟩ := open_int Tryz.underlying3 (hval 3 3 v3 rfl rfl) h3
  clear hA0 hval0
  refine (fracMake_top g0 a0 len0 cap0 z0 g1 a1 len1 cap1 z1 a2 a3 W w0 w1 w2 w3).mono fun e W' ⟨he, bel⟩ => ?_
  subst he
  exact ⟨_, rfl, _, _, _, [], _, [], hW', trodAll_mk1 (shut_bool Tryz.underlying4 _), (trodAll_cons_mk (Below.trod fracMake_laidOut (by kernel_rfl) (of_decide_eq_true (by kernel_rfl)) k0 bel lt0) (trodAll_cons_mk (Below.trod fracMake_laidOut (by kernel_rfl) (of_decide_eq_true (by kernel_rfl)) k1 bel lt1) (trodAll_cons_mk (shut_int Tryz.underlying3 w2) (trodAll_cons_mk (shut_int Tryz.underlying3 w3) trodAll_mk0)))), rfl, bel.frame _, fun h => by cases h⟩

theorem fracMake_over : Rows.fracMakeRow.holds Tryz.pinned (OpenSpec.ofChange Rows.fracMakeSpec) :=
  OpenClaim.holds_of_wide 4 Tryz.f4 rfl rfl rfl rfl rfl rfl rfl ⟨rfl, rfl, rfl, rfl, rfl⟩ rfl rfl rfl rfl rfl (by kernel_rfl) Tryz.func4 (by kernel_rfl)
    (of_decide_eq_true (by kernel_rfl)) (by unfold Func.isWrapper; first | (rw [if_pos (by decide +kernel)]; kernel_rfl) | (rw [if_neg (by decide +kernel)]; exact ⟨rfl, rfl⟩))
    (fun os started H enc _ => fracMake_lifted os started H enc)

theorem fracMake_holds : Rows.FracMakeCardSaid :=
  Claim7.holds_tied_plain_at .later [] Rows.fracMakeCard.laidKinds true Rows.fracMakeCard.stood.harness Rows.fracMakeCard.stood.looks fracMake_over (fun _ h => by cases h) (by kernel_rfl) (fun _ h => by cases h) fracMake_row_tie rfl ⟨rfl, rfl⟩ (by kernel_rfl) rfl
    (fun f fn hf hfn => by
      obtain rfl : f = 4 := Option.some.inj ((show Tryz.prog.funcNamed Rows.fracMakeRow.func = some 4 by kernel_rfl).symm.trans hf) |>.symm
      obtain rfl : fn = Tryz.f4 := (Option.some.inj (Tryz.func4.symm.trans hfn)).symm
      exact ⟨by kernel_rfl, fun j t ht => by
        rw [Tryz.params4] at ht
        have hm : t ∈ [25, 25, 3, 3] := by simpa using Array.mem_of_getElem? ht
        have hall : ([25, 25, 3, 3].all fun u => !Tryz.prog.wantsStandIn u) = true := by kernel_rfl
        exact (show Tryz.prog.wantsStandIn t = false by simpa using List.all_eq_true.1 hall t hm)⟩)
    (by kernel_rfl)
#print axioms fracMake_holds
end Go.Proofs.YtcmclmhfjmmffaaGreatDoor
