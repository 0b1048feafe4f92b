/-
  Proved here: two tables are multiplied, and one is summed out: the law's alive.
-/
import Derived.Test.YtjlmignafhhjhaaFacTI
import Derived.Test.YtjlmignafhhjhaaFacO3
import Derived.Test.YtjlmignafhhjhaaFacO4
namespace Go.Proofs.Ytjlmignafhhjhaa
set_option linter.unusedVariables false
open Go.RowKit Go.Shelf Go.Lib Go.Sort
theorem allocs_below : ∀ (os : List Obj) (w : World), Below w.heap.size w (os.foldl World.alloc w)
  | [], w => Below.refl _ _
  | o :: os, w => bstepB (belowB w o) (allocs_below os (w.alloc o))
theorem allocs_get : ∀ (os : List Obj) (w : World) (i : Nat) (o : Obj), os[i]? = some o → (os.foldl World.alloc w).heap[w.heap.size + i]? = some o
  | [], _, _, _, h => by simp at h
  | o' :: os, w, 0, o, h => by
    simp at h; subst h
    rw [List.foldl_cons, (allocs_below os (w.alloc o')).block _ (by simp)]
    exact heap_alloc_new w o'
  | o' :: os, w, i + 1, o, h => by
    have := allocs_get os (w.alloc o') i o (by simpa using h)
    rw [World.size_alloc, show w.heap.size + 1 + i = w.heap.size + (i + 1) by omega] at this
    exact this
/-- A row of ints that is laid in memory. -/
theorem rk_heap {w : World} {g e : Nat} {L : List Int} (h : w.heap[g]? = some (.cells (L.map (Value.int .i64)).toArray e (0, 0))) (hm : L.length ≤ maxLen) (hb : ∀ q ∈ L, -9223372036854775808 ≤ q ∧ q ≤ 9223372036854775807) : RK .i64 w (.slice (some ⟨g, 0, none⟩) L.length L.length) L :=
  (own_heap h (B := 0) hm (Nat.zero_le _)).rg.rk fun i hi => by
    rw [min_i64, max_i64, List.getD_eq_getElem?_getD, List.getElem?_eq_getElem hi]
    exact hb _ (List.getElem_mem hi)
theorem OG.rk {w : World} {B e : Nat} {v : Value} {L : List Int} (h : OG (Value.int .i64) B e w v L) (hb : ∀ q ∈ L, -9223372036854775808 ≤ q ∧ q ≤ 9223372036854775807) : RK .i64 w v L :=
  h.rg.rk fun i hi => by
    rw [min_i64, max_i64, List.getD_eq_getElem?_getD, List.getElem?_eq_getElem hi]
    exact hb _ (List.getElem_mem hi)
theorem al_prod : prodL muZ 0 (joinR [1] [0]) (jS [1] [2] [0] [2]) [1] [0] [3, 4] [1, 2] = [3, 4, 6, 8] := by decide +kernel
theorem al_join : joinR [1] [0] = [0, 1] := by decide +kernel
theorem al_size : jS [1] [2] [0] [2] = [2, 2] := by decide +kernel
theorem al_out : outL [3, 4, 6, 8] 2 2 (1 * 2) = [9, 12] := by decide +kernel
theorem al_tab : Tab [0, 1] [2, 2] 4 := ⟨rfl, by decide +kernel, by decide +kernel, by decide +kernel⟩
set_option maxRecDepth 100000 in
set_option maxHeartbeats 12800000 in
theorem aliveF (w : World) : Calls Try.prog 9 #[] w fun e w' => e = .returned (.bool true) ∧ Below w.heap.size w w' := by
  obtain ⟨g, hg⟩ : ∃ g, g = w.heap.size := ⟨_, rfl⟩
  obtain ⟨W1, hW1⟩ : ∃ W1, W1 = (((((((w.alloc (.cells #[.int .i64 0] 3)).alloc (.cells #[.int .i64 2] 3)).alloc (.cells #[.int .i64 1, .int .i64 2] 3)).alloc (.cells #[.slice (some ⟨g, 0, none⟩) 1 1, .slice (some ⟨g + 1, 0, none⟩) 1 1, .slice (some ⟨g + 2, 0, none⟩) 2 2] 34)).alloc (.cells #[.int .i64 1] 3)).alloc (.cells #[.int .i64 2] 3)).alloc (.cells #[.int .i64 3, .int .i64 4] 3)).alloc (.cells #[.slice (some ⟨g + 4, 0, none⟩) 1 1, .slice (some ⟨g + 5, 0, none⟩) 1 1, .slice (some ⟨g + 6, 0, none⟩) 2 2] 34) := ⟨_, rfl⟩
  obtain ⟨OS, hOS⟩ : ∃ OS : List Obj, OS = [Obj.cells #[.int .i64 0] 3, .cells #[.int .i64 2] 3, .cells #[.int .i64 1, .int .i64 2] 3, .cells #[.slice (some ⟨g, 0, none⟩) 1 1, .slice (some ⟨g + 1, 0, none⟩) 1 1, .slice (some ⟨g + 2, 0, none⟩) 2 2] 34, .cells #[.int .i64 1] 3, .cells #[.int .i64 2] 3, .cells #[.int .i64 3, .int .i64 4] 3, .cells #[.slice (some ⟨g + 4, 0, none⟩) 1 1, .slice (some ⟨g + 5, 0, none⟩) 1 1, .slice (some ⟨g + 6, 0, none⟩) 2 2] 34] := ⟨_, rfl⟩
  have hf : W1 = OS.foldl World.alloc w := by rw [hOS]; exact hW1
  have hget : ∀ i o, OS[i]? = some o → W1.heap[g + i]? = some o := fun i o h => by rw [hf, hg]; exact allocs_get OS w i o h
  have r0 : W1.heap[g]? = some (Obj.cells #[.int .i64 0] 3 (0, 0)) := hget 0 _ (by rw [hOS]; rfl)
  have r1 : W1.heap[g + 1]? = some (Obj.cells #[.int .i64 2] 3 (0, 0)) := hget 1 _ (by rw [hOS]; rfl)
  have r2 : W1.heap[g + 2]? = some (Obj.cells #[.int .i64 1, .int .i64 2] 3 (0, 0)) := hget 2 _ (by rw [hOS]; rfl)
  have r3 : W1.heap[g + 3]? = some (Obj.cells #[.slice (some ⟨g, 0, none⟩) 1 1, .slice (some ⟨g + 1, 0, none⟩) 1 1, .slice (some ⟨g + 2, 0, none⟩) 2 2] 34 (0, 0)) := hget 3 _ (by rw [hOS]; rfl)
  have r4 : W1.heap[g + 4]? = some (Obj.cells #[.int .i64 1] 3 (0, 0)) := hget 4 _ (by rw [hOS]; rfl)
  have r5 : W1.heap[g + 5]? = some (Obj.cells #[.int .i64 2] 3 (0, 0)) := hget 5 _ (by rw [hOS]; rfl)
  have r6 : W1.heap[g + 6]? = some (Obj.cells #[.int .i64 3, .int .i64 4] 3 (0, 0)) := hget 6 _ (by rw [hOS]; rfl)
  have r7 : W1.heap[g + 7]? = some (Obj.cells #[.slice (some ⟨g + 4, 0, none⟩) 1 1, .slice (some ⟨g + 5, 0, none⟩) 1 1, .slice (some ⟨g + 6, 0, none⟩) 2 2] 34 (0, 0)) := hget 7 _ (by rw [hOS]; rfl)
  have b0 : Below w.heap.size w W1 := by rw [hf]; exact allocs_below OS w
  have hB : ∀ L : List Int, L = [0] ∨ L = [1] ∨ L = [2] ∨ L = [1, 2] ∨ L = [3, 4] ∨ L = [0, 1] ∨ L = [2, 2] → ∀ q ∈ L, -9223372036854775808 ≤ q ∧ q ≤ 9223372036854775807 := by
    intro L h q hq
    rcases h with rfl | rfl | rfl | rfl | rfl | rfl | rfl <;> (simp only [List.mem_cons, List.not_mem_nil, or_false] at hq; omega)
  have CT := timesI muZ 56 130 mIntsMulF nlIntsMulF entIntsMulF intsMulF (.slice (some ⟨g + 4, 0, none⟩) 1 1) (.slice (some ⟨g + 5, 0, none⟩) 1 1) (.slice (some ⟨g + 6, 0, none⟩) 2 2) (.slice (some ⟨g, 0, none⟩) 1 1) (.slice (some ⟨g + 1, 0, none⟩) 1 1) (.slice (some ⟨g + 2, 0, none⟩) 2 2) [1] [2] [0] [2] [3, 4] [1, 2] W1
    (rk_heap (L := [1]) r4 (by decide) (hB _ (by simp))) (rk_heap (L := [2]) r5 (by decide) (hB _ (by simp))) (rk_heap (L := [3, 4]) r6 (by decide) (hB _ (by simp))).rg (rk_heap (L := [0]) r0 (by decide) (hB _ (by simp))) (rk_heap (L := [2]) r1 (by decide) (hB _ (by simp))) (rk_heap (L := [1, 2]) r2 (by decide) (hB _ (by simp))).rg
    ⟨rfl, by decide +kernel, by decide +kernel, by decide +kernel⟩ ⟨rfl, by decide +kernel, by decide +kernel, by decide +kernel⟩ (by decide) (by decide) (by decide +kernel)
  have HCT : Hid _ := CT
  have HB : Hid (Below w.heap.size w W1) := b0
  have HG : Hid (g = w.heap.size) := hg
  have HBB : Hid (∀ L : List Int, L = [0] ∨ L = [1] ∨ L = [2] ∨ L = [1, 2] ∨ L = [3, 4] ∨ L = [0, 1] ∨ L = [2, 2] → ∀ q ∈ L, -9223372036854775808 ≤ q ∧ q ≤ 9223372036854775807) := hB
  have HW1 : Hid (W1 = (((((((w.alloc (.cells #[.int .i64 0] 3)).alloc (.cells #[.int .i64 2] 3)).alloc (.cells #[.int .i64 1, .int .i64 2] 3)).alloc (.cells #[.slice (some ⟨g, 0, none⟩) 1 1, .slice (some ⟨g + 1, 0, none⟩) 1 1, .slice (some ⟨g + 2, 0, none⟩) 2 2] 34)).alloc (.cells #[.int .i64 1] 3)).alloc (.cells #[.int .i64 2] 3)).alloc (.cells #[.int .i64 3, .int .i64 4] 3)).alloc (.cells #[.slice (some ⟨g + 4, 0, none⟩) 1 1, .slice (some ⟨g + 5, 0, none⟩) 1 1, .slice (some ⟨g + 6, 0, none⟩) 2 2] 34)) := hW1
  have qa : BCell 34 W1 (g + 3) (.slice (some ⟨g, 0, none⟩) 1 1) (.slice (some ⟨g + 1, 0, none⟩) 1 1) (.slice (some ⟨g + 2, 0, none⟩) 2 2) := r3
  have qb : BCell 34 W1 (g + 7) (.slice (some ⟨g + 4, 0, none⟩) 1 1) (.slice (some ⟨g + 5, 0, none⟩) 1 1) (.slice (some ⟨g + 6, 0, none⟩) 2 2) := r7
  obtain ⟨ca0, ca1, ca2⟩ := qa.cells
  obtain ⟨cb0, cb1, cb2⟩ := qb.cells
  clear hW1 hg hget r0 r1 r2 r3 r4 r5 r6 r7 b0 hB CT qa qb hf hOS OS
  go_enter Try.func9, Try.ntmps9
  go_upto_region 3 with fail
  rw [← HG.out]
  simp only [Nat.add_assoc, Nat.reduceAdd]
  rw [← HW1.out]
  clear HW1
  go_wp2_with fail
  refine Calls.mono HCT.out ?_
  rintro e w2 ⟨b2, hcase⟩
  clear HCT ca0 ca1 ca2 cb0 cb1 cb2
  rw [al_size, al_join] at hcase
  rcases hcase with ⟨hbig, -⟩ | ⟨-, u, gz, gc, rfl, hU, hZ, hC, l1, l2, n1, n2, n3⟩
  · exact absurd hbig (by decide +kernel)
  have hpe := al_prod
  rw [al_size, al_join] at hpe
  rw [hpe] at hC
  have e4 : (pr [2, 2]).toNat = 4 := by decide +kernel
  rw [e4]
  obtain ⟨uo, un, uc, hue⟩ : ∃ o n c, u = .slice o n c := by obtain ⟨ao, cap, e, -⟩ := hU.sl; exact ⟨_, _, _, e⟩
  subst hue
  obtain ⟨W3, hW3⟩ : ∃ x, x = w2.alloc (.cells #[.slice uo un uc, .slice (some ⟨gz, 0, none⟩) 2 2, .slice (some ⟨gc, 0, none⟩) 4 4] 34) := ⟨_, rfl⟩
  obtain ⟨gp, hgp⟩ : ∃ x, x = w2.heap.size := ⟨_, rfl⟩
  have b3 : Below w2.heap.size w2 W3 := by rw [hW3]; exact belowB _ _
  have HQP : Hid (BCell 34 W3 gp (.slice uo un uc) (.slice (some ⟨gz, 0, none⟩) 2 2) (.slice (some ⟨gc, 0, none⟩) 4 4)) := by show BCell _ _ _ _ _ _; rw [hW3]; exact BCell.new _ hgp.symm
  have HUP : Hid (RK .i64 W3 (.slice uo un uc) [0, 1]) := (hU.below b3).rk (HBB.out _ (by simp))
  have HZP : Hid (RK .i64 W3 (.slice (some ⟨gz, 0, none⟩) 2 2) [2, 2]) := rk_heap (L := [2, 2]) ((b3.block gz (Array.getElem?_eq_some_iff.1 hZ).1).trans hZ) (by decide) (HBB.out _ (by simp))
  have HC3 : Hid (W3.heap[gc]? = some (.cells (([3, 4, 6, 8] : List Int).map (Value.int .i64)).toArray 3 (0, 0))) := (b3.block gc (Array.getElem?_eq_some_iff.1 hC).1).trans hC
  have HCP : Hid (RG (Value.int .i64) W3 (.slice (some ⟨gc, 0, none⟩) 4 4) [3, 4, 6, 8]) := (own_heap HC3.out (B := 0) (by decide) (Nat.zero_le _)).rg
  have HB3 : Hid (Below w.heap.size w W3) := bstepB HB.out (bstepB b2 b3)
  have HW3 : Hid (W3 = w2.alloc (.cells #[.slice uo un uc, .slice (some ⟨gz, 0, none⟩) 2 2, .slice (some ⟨gc, 0, none⟩) 4 4] 34)) := hW3
  have HGP : Hid (gp = w2.heap.size) := hgp
  clear hW3 hgp b2 b3 hU hZ hC l1 l2 n1 n2 n3 HB hpe e4
  simp only [List.length_cons, List.length_nil, Nat.zero_add, Nat.reduceAdd]
  go_upto_region 4 with fail
  rw [← HW3.out, ← HGP.out]
  clear HW3 HGP
  obtain ⟨cp0, cp1, cp2⟩ := HQP.out.cells
  have CO : Hid _ := outI (.slice uo un uc) (.slice (some ⟨gz, 0, none⟩) 2 2) (.slice (some ⟨gc, 0, none⟩) 4 4) [0, 1] [2, 2] [3, 4, 6, 8] 0 2 2 1 0 W3 HUP.out HZP.out HCP.out al_tab (by decide) rfl (by decide +kernel) (by decide +kernel) (by decide +kernel)
  go_wp2_with fail
  refine Calls.mono CO.out ?_
  rintro e w4 ⟨u1, u2, u3, rfl, h1, h2, h3, b4⟩
  clear CO cp0 cp1 cp2
  rw [al_out] at h3
  obtain ⟨k1, k2, k3, hue⟩ : ∃ o n c, u1 = .slice o n c := by obtain ⟨ao, cap, e, -⟩ := h1.sl; exact ⟨_, _, _, e⟩
  subst hue
  obtain ⟨k4, k5, k6, hue⟩ : ∃ o n c, u2 = .slice o n c := by obtain ⟨ao, cap, e, -⟩ := h2.sl; exact ⟨_, _, _, e⟩
  subst hue
  obtain ⟨qo, qc, rfl, -, hq2, -, hqc⟩ := h3
  unfold maxLen at hq2
  obtain ⟨qg, qof, rfl, cq0⟩ := hqc 0 9 rfl
  obtain ⟨qg', qof', eq, cq1⟩ := hqc 1 12 rfl
  simp only [Option.some.injEq, Addr.mk.injEq, and_true] at eq
  obtain ⟨rfl, rfl⟩ := eq
  obtain ⟨W5, hW5⟩ : ∃ x, x = w4.alloc (.cells #[.slice k1 k2 k3, .slice k4 k5 k6, .slice (some ⟨qg, qof, none⟩) 2 qc] 34) := ⟨_, rfl⟩
  obtain ⟨gq, hgq⟩ : ∃ x, x = w4.heap.size := ⟨_, rfl⟩
  have b5 : Below w4.heap.size w4 W5 := by rw [hW5]; exact belowB _ _
  have HQQ : Hid (BCell 34 W5 gq (.slice k1 k2 k3) (.slice k4 k5 k6) (.slice (some ⟨qg, qof, none⟩) 2 qc)) := by show BCell _ _ _ _ _ _; rw [hW5]; exact BCell.new _ hgq.symm
  have HB45 : Hid (Below W3.heap.size W3 W5) := bstepB b4 b5
  have HQ0 : Hid (W5.cell? ⟨qg, qof, none⟩ = some (.int .i64 9)) := keepR b5 cq0
  have HQ1 : Hid (W5.cell? ⟨qg, qof + 1, none⟩ = some (.int .i64 12)) := keepR b5 cq1
  have HW5 : Hid (W5 = w4.alloc (.cells #[.slice k1 k2 k3, .slice k4 k5 k6, .slice (some ⟨qg, qof, none⟩) 2 qc] 34)) := hW5
  have HGQ : Hid (gq = w4.heap.size) := hgq
  clear hW5 hgq b4 b5 h1 h2 hqc cq0 cq1
  simp only [List.length_cons, List.length_nil, Nat.zero_add, Nat.reduceAdd]
  go_upto_region 5 with fail
  rw [← HW5.out, ← HGQ.out]
  clear HW5 HGQ
  obtain ⟨cp0, cp1, cp2⟩ := (HQP.out.below HB45.out).cells
  obtain ⟨cq0, cq1, cq2⟩ := HQQ.out.cells
  have v0 := HQ0.out
  have v1 := HQ1.out
  have hC5 := (HB45.out.block gc (Array.getElem?_eq_some_iff.1 HC3.out).1).trans HC3.out
  have d0 : W5.cell? ⟨gc, 0, none⟩ = some (.int .i64 3) := row_cell hC5 (i := 0) (by decide)
  have d1 : W5.cell? ⟨gc, 1, none⟩ = some (.int .i64 4) := row_cell hC5 (i := 1) (by decide)
  have d2 : W5.cell? ⟨gc, 2, none⟩ = some (.int .i64 6) := row_cell hC5 (i := 2) (by decide)
  have CS := sameF (.slice uo un uc) (.slice (some ⟨gz, 0, none⟩) 2 2) (.slice (some ⟨gc, 0, none⟩) 4 4) (.slice uo un uc) (.slice (some ⟨gz, 0, none⟩) 2 2) (.slice (some ⟨gc, 0, none⟩) 4 4) [0, 1] [2, 2] [3, 4, 6, 8] [0, 1] [2, 2] [3, 4, 6, 8] W5 (HUP.out.below (Nat.le_refl _) HB45.out) (HZP.out.below (Nat.le_refl _) HB45.out) (HCP.out.below (Nat.le_refl _) HB45.out) (HUP.out.below (Nat.le_refl _) HB45.out) (HZP.out.below (Nat.le_refl _) HB45.out) (HCP.out.below (Nat.le_refl _) HB45.out) al_tab al_tab
  rw [show decide (([0, 1] : List Int) = [0, 1] ∧ ([2, 2] : List Int) = [2, 2] ∧ ([3, 4, 6, 8] : List Int) = [3, 4, 6, 8]) = true by decide +kernel] at CS
  have HCS : Hid _ := CS
  clear CS hC5
  go_wp2_with fail
  refine Calls.mono HCS.out ?_
  rintro e w6 ⟨rfl, b6⟩
  go_wp2
  go_ret
  exact ⟨rfl, bstepB HB3.out (bstepB HB45.out b6)⟩
end Go.Proofs.Ytjlmignafhhjhaa
