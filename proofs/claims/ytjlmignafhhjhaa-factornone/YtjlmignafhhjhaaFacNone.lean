/-
  Proved here: package factor's Times, Out, Same without a ring.
-/
import Derived.Test.YtjlmignafhhjhaaBoxA
import Derived.Deep.CutRange
namespace Go.Proofs.Ytjlmignafhhjhaa
open Go.RowKit
theorem results_ctB {P : Program} {fn : Func} {p u : Tmp} {ty : TypeId} (h : fn.results = #[.cell p ty, .tmp u]) (tmps : Array Value) (w : World) (g : Nat) (t : TypeId) (cs : Array Value) (fr : Nat × Nat) (d : TypeDesc)
    (hp : tmps.getD p undef = .pointer (some ⟨g, 0, none⟩)) (hg : w.heap[g]? = some (.cells cs t fr))
    (hu : P.underlying ty = some d) (hd : (match d with | .struct _ | .array _ _ => true | _ => false) = true) (hi : (P.info? ty).map (·.size) = some cs.size) :
    (results fn tmps).run P w = .ok (.tuple #[.agg cs, tmps.getD u undef]) w := by
  have hp' : tmps[p]?.getD undef = .pointer (some ⟨g, 0, none⟩) := by simpa using hp
  simp [results, h, hp', asAddr, run_loadVar_row w g t ty cs fr d hg hu hd hi]
set_option maxRecDepth 100000 in
set_option maxHeartbeats 6400000 in
theorem timesNoneI (a1 a2 a3 b1 b2 b3 : Value) (w : World) :
    Calls Try.prog 26 #[.nilIface, .agg #[a1, a2, a3], .agg #[b1, b2, b3]] w fun e w' => e = .returned (.tuple #[.agg #[.slice none 0 0, .slice none 0 0, .slice none 0 0], .int .i64 2]) ∧ Below w.heap.size w w' := by
  have HB : Hid (BCell 34 (((w.alloc (.cells #[a1, a2, a3] 34)).alloc (.cells #[b1, b2, b3] 34)).alloc (.cells #[.slice none 0 0, .slice none 0 0, .slice none 0 0] 34)) (w.heap.size + 1 + 1) (.slice none 0 0) (.slice none 0 0) (.slice none 0 0)) := BCell.new _ (by simp)
  go_enter Try.func26, Try.ntmps26
  go_wp2
  exact bodyPost_ret (results_ctB (p := 6) (u := 7) rfl _ _ (w.heap.size + 1 + 1) 34 _ (0, 0) _ rfl HB.out Try.underlying34 rfl (by kernel_rfl)) rfl ⟨rfl, bstepB (bstepB (belowB w _) (belowB _ _)) (belowB _ _)⟩
set_option maxRecDepth 100000 in
set_option maxHeartbeats 6400000 in
theorem outNoneI (a1 a2 a3 : Value) (v : Int) (w : World) :
    Calls Try.prog 27 #[.nilIface, .agg #[a1, a2, a3], .int .i64 v] w fun e w' => e = .returned (.tuple #[.agg #[.slice none 0 0, .slice none 0 0, .slice none 0 0], .int .i64 2]) ∧ Below w.heap.size w w' := by
  have HB : Hid (BCell 34 ((w.alloc (.cells #[a1, a2, a3] 34)).alloc (.cells #[.slice none 0 0, .slice none 0 0, .slice none 0 0] 34)) (w.heap.size + 1) (.slice none 0 0) (.slice none 0 0) (.slice none 0 0)) := BCell.new _ (by simp)
  go_enter Try.func27, Try.ntmps27
  go_wp2
  refine bodyPost_ret (results_ctB rfl _ _ (w.heap.size + 1) 34 _ (0, 0) _ rfl HB.out Try.underlying34 rfl (by kernel_rfl)) rfl ⟨rfl, bstepB (belowB w _) (belowB _ _)⟩
set_option maxRecDepth 100000 in
set_option maxHeartbeats 6400000 in
theorem sameNoneI (a1 a2 a3 b1 b2 b3 : Value) (w : World) :
    Calls Try.prog 28 #[.nilIface, .agg #[a1, a2, a3], .agg #[b1, b2, b3]] w fun e w' => e = .returned (.bool false) ∧ Below w.heap.size w w' := by
  go_enter Try.func28, Try.ntmps28
  go_wp2
  go_ret
  exact ⟨rfl, bstepB (belowB w _) (belowB _ _)⟩
set_option maxRecDepth 100000 in
set_option maxHeartbeats 6400000 in
theorem factorNone_any (a1 a2 a3 b1 b2 b3 : Value) (v : Int) (w : World) :
    Calls Try.prog 6 #[.agg #[a1, a2, a3], .agg #[b1, b2, b3], .int .i64 v] w fun e w' => e = .returned (.bool true) ∧ Below w.heap.size w w' := by
  go_enter Try.func6, Try.ntmps6
  obtain ⟨W1, hW1⟩ : ∃ W1, W1 = (w.alloc (.cells #[a1, a2, a3] 34)).alloc (.cells #[b1, b2, b3] 34) := ⟨_, rfl⟩
  obtain ⟨g, hg⟩ : ∃ g, g = w.heap.size := ⟨_, rfl⟩
  have qa : BCell 34 W1 g a1 a2 a3 := by rw [hW1]; exact (BCell.new w hg.symm).step _
  have qb : BCell 34 W1 (g + 1) b1 b2 b3 := by rw [hW1]; exact BCell.new _ (by simp [hg])
  have bw : Below w.heap.size w W1 := by rw [hW1]; exact bstepB (belowB w _) (belowB _ _)
  have HW : Hid (Below w.heap.size w W1) := bw
  have HW1 : Hid (W1 = (w.alloc (.cells #[a1, a2, a3] 34)).alloc (.cells #[b1, b2, b3] 34)) := hW1
  have HG : Hid (g = w.heap.size) := hg
  clear hW1 hg bw
  have HA : Hid (BCell 34 W1 g a1 a2 a3) := qa
  have HB : Hid (BCell 34 W1 (g + 1) b1 b2 b3) := qb
  clear qa qb
  go_upto_region 1 with fail
  rw [← HW1.out, ← HG.out]
  clear HW1
  obtain ⟨ca1, ca2, ca3⟩ := HA.out.cells
  obtain ⟨cb1, cb2, cb3⟩ := HB.out.cells
  go_wp2_with fail
  refine (timesNoneI _ _ _ _ _ _ _).mono ?_
  rintro e w2 ⟨rfl, k2⟩
  clear ca1 ca2 ca3 cb1 cb2 cb3
  obtain ⟨W3, hW3⟩ : ∃ u, u = w2.alloc (.cells #[.slice none 0 0, .slice none 0 0, .slice none 0 0] 34) := ⟨_, rfl⟩
  obtain ⟨g3, hg3⟩ : ∃ u, u = w2.heap.size := ⟨_, rfl⟩
  have HP : Hid (BCell 34 W3 g3 (.slice none 0 0) (.slice none 0 0) (.slice none 0 0)) := by show BCell _ _ _ _ _ _; rw [hW3]; exact BCell.new _ hg3.symm
  have k3 : Below W1.heap.size W1 W3 := by rw [hW3]; exact bstepB k2 (belowB _ _)
  replace HA : Hid (BCell 34 W3 g a1 a2 a3) := HA.out.below k3
  replace HB : Hid (BCell 34 W3 (g + 1) b1 b2 b3) := HB.out.below k3
  replace HW : Hid (Below w.heap.size w W3) := bstepB HW.out k3
  have HW3 : Hid (W3 = w2.alloc (.cells #[.slice none 0 0, .slice none 0 0, .slice none 0 0] 34)) := hW3
  have HG3 : Hid (g3 = w2.heap.size) := hg3
  clear hW3 hg3 k3 k2
  go_upto_region 2 with fail
  rw [← HW3.out, ← HG3.out]
  clear HW3 HG3
  obtain ⟨ca1, ca2, ca3⟩ := HA.out.cells
  go_wp2_with fail
  refine (outNoneI _ _ _ _ _).mono ?_
  rintro e w4 ⟨rfl, b4⟩
  clear ca1 ca2 ca3
  obtain ⟨W5, hW5⟩ : ∃ u, u = w4.alloc (.cells #[.slice none 0 0, .slice none 0 0, .slice none 0 0] 34) := ⟨_, rfl⟩
  obtain ⟨g5, hg5⟩ : ∃ u, u = w4.heap.size := ⟨_, rfl⟩
  have HQ : Hid (BCell 34 W5 g5 (.slice none 0 0) (.slice none 0 0) (.slice none 0 0)) := by show BCell _ _ _ _ _ _; rw [hW5]; exact BCell.new _ hg5.symm
  have b5 : Below W3.heap.size W3 W5 := by rw [hW5]; exact bstepB b4 (belowB _ _)
  replace HA : Hid (BCell 34 W5 g a1 a2 a3) := HA.out.below b5
  replace HB : Hid (BCell 34 W5 (g + 1) b1 b2 b3) := HB.out.below b5
  replace HP : Hid (BCell 34 W5 g3 (.slice none 0 0) (.slice none 0 0) (.slice none 0 0)) := HP.out.below b5
  replace HW : Hid (Below w.heap.size w W5) := bstepB HW.out b5
  have HW5 : Hid (W5 = w4.alloc (.cells #[.slice none 0 0, .slice none 0 0, .slice none 0 0] 34)) := hW5
  have HG5 : Hid (g5 = w4.heap.size) := hg5
  clear hW5 hg5 b5 b4
  go_upto_region 3 with fail
  rw [← HW5.out, ← HG5.out]
  clear HW5 HG5
  obtain ⟨ca1, ca2, ca3⟩ := HA.out.cells
  obtain ⟨cb1, cb2, cb3⟩ := HB.out.cells
  obtain ⟨cp1, cp2, cp3⟩ := HP.out.cells
  obtain ⟨cq1, cq2, cq3⟩ := HQ.out.cells
  go_wp2_with fail
  refine (sameNoneI _ _ _ _ _ _ _).mono ?_
  rintro e w6 ⟨rfl, b6⟩
  clear ca1 ca2 ca3 cb1 cb2 cb3 cp1 cp2 cp3 cq1 cq2 cq3
  obtain ⟨ca1, ca2, ca3⟩ := (HA.out.below b6).cells
  obtain ⟨cb1, cb2, cb3⟩ := (HB.out.below b6).cells
  go_wp2_with fail
  refine (sameNoneI _ _ _ _ _ _ _).mono ?_
  rintro e w7 ⟨rfl, b7⟩
  go_wp2
  go_ret
  exact ⟨rfl, bstepB HW.out (bstepB b6 b7)⟩
end Go.Proofs.Ytjlmignafhhjhaa
