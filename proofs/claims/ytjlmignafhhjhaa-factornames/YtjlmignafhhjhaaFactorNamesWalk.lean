/-
  Proved here: FactorNames' walk.
-/
import Derived.Test.YtjlmignafhhjhaaFacTB
import Derived.Test.YtjlmignafhhjhaaFacAl
namespace Go.Proofs.Ytjlmignafhhjhaa
set_option linter.unusedVariables false
open Go.RowKit Go.Shelf Go.Lib Go.Sort
theorem mBoolsMulF (w : World) : (Go.method 277 30 (.agg #[]) "Mul").run Try.prog w = .ok (120, .agg #[]) w := by kernel_rfl
theorem entBoolsMulF : ∀ args w, (callFunc 120 args).run Try.prog w = .ok (.enter 120 args) w := enters_of Try.func120 (by kernel_rfl) rfl
theorem nlBoolsMulF (w : World) : (nilAhead 277 30 (.agg #[]) "Mul").run Try.prog w = .ok (some false) w := by kernel_rfl
theorem boolsMulF (p q : Bool) (w : World) : Calls Try.prog 120 #[.agg #[], .bool p, .bool q] w fun e w' => e = .returned (.bool (p && q)) ∧ Below w.heap.size w w' := by
  cases p <;> cases q <;>
  · go_enter Try.func120, Try.ntmps120
    go_wp2
    go_ret
    exact ⟨rfl, belowB _ _⟩
theorem nm_many : 2147483647 < pr (jS [0] [65536] [1] [65536]) := by decide +kernel
theorem nm_chk : chkE [0, 1] [65536, 65536] 0 = 4 := by decide +kernel
theorem nm_clash : clash [0] [65536] [1] [65536] = false := by decide +kernel
theorem nm_bd : ∀ L : List Int, L = [0] ∨ L = [1] ∨ L = [65536] ∨ L = [0, 1] ∨ L = [65536, 65536] → ∀ q ∈ L, -9223372036854775808 ≤ q ∧ q ≤ 9223372036854775807 := by
  intro L h q hq
  rcases h with rfl | rfl | rfl | rfl | rfl <;> (simp only [List.mem_cons, List.not_mem_nil, or_false] at hq; omega)
theorem nm_tab {N : Nat} (h : N = 65536) {x : Int} (hx : okS (-1) [x] [65536] = true) : Tab [x] [65536] (List.replicate N false).length := ⟨rfl, hx, by decide +kernel, by rw [List.length_replicate, h]; decide +kernel⟩
theorem bools_rg {w : World} {g N : Nat} (h : w.heap[g]? = some (.cells (Array.replicate N (.bool false)) 4 (0, 0))) (hN : N ≤ maxLen) : RG Value.bool w (.slice (some ⟨g, 0, none⟩) N N) (List.replicate N false) := by
  refine ⟨some ⟨g, 0, none⟩, N, by rw [List.length_replicate], by rw [List.length_replicate]; exact Nat.le_refl _, hN, fun e => by simp at e, fun i x hi => ⟨g, 0, rfl, ?_⟩⟩
  obtain ⟨hl, e⟩ := List.getElem?_eq_some_iff.1 hi
  rw [List.length_replicate] at hl
  rw [List.getElem_replicate] at e
  subst e
  simp [World.cell?, h, hl]
set_option maxRecDepth 100000 in
set_option maxHeartbeats 12800000 in
theorem factorNames_top (w : World) : Calls Try.prog 3 #[] w fun e w' => e = .returned (.bool true) ∧ Below w.heap.size w w' := by
  obtain ⟨g, hg⟩ : ∃ g, g = w.heap.size := ⟨_, rfl⟩
  obtain ⟨N, hN⟩ : ∃ N : Nat, N = 65536 := ⟨_, rfl⟩
  have HN : Hid (N = 65536) := hN
  have hNm : N ≤ 100000 := by omega
  obtain ⟨W1, hW1⟩ : ∃ W1, W1 = (((w.alloc (.cells #[.int .i64 0] 3)).alloc (.cells #[.int .i64 65536] 3)).alloc (.cells (Array.replicate N (.bool false)) 4)).alloc (.cells #[.slice (some ⟨g, 0, none⟩) 1 1, .slice (some ⟨g + 1, 0, none⟩) 1 1, .slice (some ⟨g + 2, 0, none⟩) N N] 25) := ⟨_, rfl⟩
  obtain ⟨OS, hOS⟩ : ∃ OS : List Obj, OS = [Obj.cells #[.int .i64 0] 3, .cells #[.int .i64 65536] 3, .cells (Array.replicate N (.bool false)) 4, .cells #[.slice (some ⟨g, 0, none⟩) 1 1, .slice (some ⟨g + 1, 0, none⟩) 1 1, .slice (some ⟨g + 2, 0, none⟩) N N] 25] := ⟨_, rfl⟩
  have hf : W1 = OS.foldl World.alloc w := by rw [hOS]; exact hW1
  have hget : ∀ i o, OS[i]? = some o → W1.heap[g + i]? = some o := fun i o h => by rw [hf, hg]; exact allocs_get OS w i o h
  have r0 : W1.heap[g]? = some (Obj.cells #[.int .i64 0] 3 (0, 0)) := hget 0 _ (by rw [hOS]; rfl)
  have r1 : W1.heap[g + 1]? = some (Obj.cells #[.int .i64 65536] 3 (0, 0)) := hget 1 _ (by rw [hOS]; rfl)
  have r2 : W1.heap[g + 2]? = some (Obj.cells (Array.replicate N (.bool false)) 4 (0, 0)) := hget 2 _ (by rw [hOS]; rfl)
  have r3 : W1.heap[g + 3]? = some (Obj.cells #[.slice (some ⟨g, 0, none⟩) 1 1, .slice (some ⟨g + 1, 0, none⟩) 1 1, .slice (some ⟨g + 2, 0, none⟩) N N] 25 (0, 0)) := hget 3 _ (by rw [hOS]; rfl)
  have b1 : Below w.heap.size w W1 := by rw [hf]; exact allocs_below OS w
  have s1 : W1.heap.size = g + 4 := by rw [hf, allocs_size, hOS, hg]; rfl
  obtain ⟨W2, hW2⟩ : ∃ W2, W2 = W1.alloc (.cells #[.slice (some ⟨g, 0, none⟩) 1 1, .slice (some ⟨g + 1, 0, none⟩) 1 1, .slice (some ⟨g + 2, 0, none⟩) N N] 25) := ⟨_, rfl⟩
  have b2 : Below W1.heap.size W1 W2 := by rw [hW2]; exact belowB _ _
  have q2 : BCell 25 W2 (g + 4) (.slice (some ⟨g, 0, none⟩) 1 1) (.slice (some ⟨g + 1, 0, none⟩) 1 1) (.slice (some ⟨g + 2, 0, none⟩) N N) := by rw [hW2]; exact BCell.new _ s1
  have s2 : W2.heap.size = g + 5 := by rw [hW2, World.size_alloc, s1]
  have q2' := q2.step (.cells #[.int .i64 1] 3)
  have r5 : (W2.alloc (.cells #[.int .i64 1] 3)).heap[g + 5]? = some (.cells #[.int .i64 1] 3 (0, 0)) := by have := heap_alloc_new W2 (.cells #[.int .i64 1] 3); rw [s2] at this; exact this
  obtain ⟨W3, hW3⟩ : ∃ W3, W3 = (W2.setCell ⟨g + 4, 0, none⟩ (.slice (some ⟨g + 5, 0, none⟩) 1 1)).alloc (.cells #[.int .i64 1] 3) := ⟨_, rfl⟩
  have s3 : (W2.setCell ⟨g + 4, 0, none⟩ (.slice (some ⟨g + 5, 0, none⟩) 1 1)).heap.size = g + 5 := by simpa using s2
  have hold : ∀ q, q < g + 4 → W3.heap[q]? = W1.heap[q]? := fun q hq => by rw [hW3, Below.heap_alloc _ _ _ (by omega), Below.heap_setCell _ _ _ _ (show q ≠ g + 4 by omega), b2.block q (by omega)]
  have t0 := (hold g (by omega)).trans r0
  have t1 := (hold (g + 1) (by omega)).trans r1
  have t2 := (hold (g + 2) (by omega)).trans r2
  have t3 : BCell 25 W3 (g + 3) (.slice (some ⟨g, 0, none⟩) 1 1) (.slice (some ⟨g + 1, 0, none⟩) 1 1) (.slice (some ⟨g + 2, 0, none⟩) N N) := (hold (g + 3) (by omega)).trans r3
  have t5 : W3.heap[g + 5]? = some (.cells #[.int .i64 1] 3 (0, 0)) := by have := heap_alloc_new (W2.setCell ⟨g + 4, 0, none⟩ (.slice (some ⟨g + 5, 0, none⟩) 1 1)) (.cells #[.int .i64 1] 3); rw [s3] at this; rw [hW3]; exact this
  have t4 : BCell 25 W3 (g + 4) (.slice (some ⟨g + 5, 0, none⟩) 1 1) (.slice (some ⟨g + 1, 0, none⟩) 1 1) (.slice (some ⟨g + 2, 0, none⟩) N N) := by
    unfold BCell
    rw [hW3, Below.heap_alloc _ _ _ (by omega), heap_setCell_same _ (g + 4) 0 _ _ _ q2]; rfl
  have b3 : Below w.heap.size w W3 := by
    rw [hW3]
    exact ((bstepB b1 b2).setCell (p := ⟨g + 4, 0, none⟩) (by show w.heap.size ≤ g + 4; omega) _).alloc (by omega) _
  have CT := timesB (fun p q => p && q) 30 120 mBoolsMulF nlBoolsMulF entBoolsMulF boolsMulF (.slice (some ⟨g, 0, none⟩) 1 1) (.slice (some ⟨g + 1, 0, none⟩) 1 1) (.slice (some ⟨g + 2, 0, none⟩) N N) (.slice (some ⟨g + 5, 0, none⟩) 1 1) (.slice (some ⟨g + 1, 0, none⟩) 1 1) (.slice (some ⟨g + 2, 0, none⟩) N N) [0] [65536] [1] [65536] (List.replicate N false) (List.replicate N false) W3
    (rk_heap (L := [0]) t0 (by decide) (nm_bd _ (by simp))) (rk_heap (L := [65536]) t1 (by decide) (nm_bd _ (by simp))) (bools_rg t2 (by unfold maxLen; omega)) (rk_heap (L := [1]) t5 (by decide) (nm_bd _ (by simp))) (rk_heap (L := [65536]) t1 (by decide) (nm_bd _ (by simp))) (bools_rg t2 (by unfold maxLen; omega))
    (nm_tab hN (by decide +kernel)) (nm_tab hN (by decide +kernel)) (by decide) (by decide) nm_clash
  have HCT : Hid _ := CT
  obtain ⟨cq0, cq1, cq2⟩ := q2'.cells
  have fq := q2'.thaw 0
  have HC1 : Hid (BCell 25 W1 (g + 3) (.slice (some ⟨g, 0, none⟩) 1 1) (.slice (some ⟨g + 1, 0, none⟩) 1 1) (.slice (some ⟨g + 2, 0, none⟩) N N)) := r3
  have HT3 : Hid (BCell 25 W3 (g + 3) (.slice (some ⟨g, 0, none⟩) 1 1) (.slice (some ⟨g + 1, 0, none⟩) 1 1) (.slice (some ⟨g + 2, 0, none⟩) N N)) := t3
  have HT4 : Hid (BCell 25 W3 (g + 4) (.slice (some ⟨g + 5, 0, none⟩) 1 1) (.slice (some ⟨g + 1, 0, none⟩) 1 1) (.slice (some ⟨g + 2, 0, none⟩) N N)) := t4
  have HFQ : Hid ((W2.alloc (.cells #[.int .i64 1] 3)).cell? ⟨g + 4, 0, none⟩ = some (.slice (some ⟨g, 0, none⟩) 1 1) ∧ (W2.alloc (.cells #[.int .i64 1] 3)).frozen? ⟨g + 4, 0, none⟩ = false) := ⟨cq0, fq⟩
  have HG : Hid (g = w.heap.size) := hg
  have HB3 : Hid (Below w.heap.size w W3) := b3
  have HW1 : Hid (W1 = (((w.alloc (.cells #[.int .i64 0] 3)).alloc (.cells #[.int .i64 65536] 3)).alloc (.cells (Array.replicate N (.bool false)) 4)).alloc (.cells #[.slice (some ⟨g, 0, none⟩) 1 1, .slice (some ⟨g + 1, 0, none⟩) 1 1, .slice (some ⟨g + 2, 0, none⟩) N N] 25)) := hW1
  have HW2 : Hid (W2 = W1.alloc (.cells #[.slice (some ⟨g, 0, none⟩) 1 1, .slice (some ⟨g + 1, 0, none⟩) 1 1, .slice (some ⟨g + 2, 0, none⟩) N N] 25)) := hW2
  have HW3 : Hid (W3 = (W2.setCell ⟨g + 4, 0, none⟩ (.slice (some ⟨g + 5, 0, none⟩) 1 1)).alloc (.cells #[.int .i64 1] 3)) := hW3
  have HS1 : Hid (W1.heap.size = g + 4 ∧ W2.heap.size = g + 5) := ⟨s1, s2⟩
  clear hg hN hW1 hOS hf hget r0 r1 r2 r3 b1 s1 hW2 b2 q2 s2 q2' r5 hW3 s3 hold t0 t1 t2 t3 t5 t4 b3 CT cq0 cq1 cq2 fq OS
  obtain ⟨i0, hi, hz0, hz1', hz2'⟩ := info_parts infoBT
  go_enter Try.func3, Try.ntmps3
  go_upto_region 2 with (at_make; refine wpList_made _ rfl _ _ 23 rfl 4 i0 (.bool false) rfl Try.underlying23 hi hz0 hz1' .i64 .i64 N (by rw [HN.out]; rfl) (by rw [HN.out]; rfl) (by rw [hz2']; omega) (by omega) ?_)
  rw [← HG.out]
  simp only [Nat.add_assoc, Nat.reduceAdd]
  rw [← HW1.out]
  clear HW1
  obtain ⟨c0, c1, c2⟩ := HC1.out.cells
  go_upto_region 3 with fail
  rw [← HW2.out, HS1.out.1]
  clear HW2 c0 c1 c2 HC1
  obtain ⟨cq0, fq⟩ := HFQ.out
  have hs2 := HS1.out.2
  go_upto_region 4 with fail
  rw [← HW3.out]
  clear HW3 cq0 fq HFQ hs2
  obtain ⟨c0, c1, c2⟩ := HT3.out.cells
  obtain ⟨d0, d1, d2⟩ := HT4.out.cells
  go_wp2_with fail
  refine Calls.mono HCT.out ?_
  rintro e w5 ⟨b5, hcase⟩
  clear HCT c0 c1 c2 d0 d1 d2
  rcases hcase with ⟨-, rfl⟩ | ⟨hsm, -⟩
  case inr => exact absurd hsm (by have := nm_many; omega)
  have HB5 : Hid (Below w.heap.size w w5) := bstepB HB3.out b5
  clear b5 HB3 HT3 HT4
  go_upto_region 5 with fail
  obtain ⟨W6, hW6⟩ : ∃ x, x = w5.alloc (.cells #[.slice none 0 0, .slice none 0 0, .slice none 0 0] 25) := ⟨_, rfl⟩
  rw [← hW6]
  have HB6 : Hid (Below w.heap.size w W6) := by show Below _ _ _; rw [hW6]; exact bstepB HB5.out (belowB _ _)
  clear hW6
  have CA : Hid _ := aliveF W6
  go_wp2_with fail
  refine Calls.mono CA.out ?_
  rintro e w7 ⟨rfl, b7⟩
  have HB7 : Hid (Below w.heap.size w w7) := bstepB HB6.out b7
  clear b7 CA
  obtain ⟨W8, hW8⟩ : ∃ x, x = (w7.alloc (.cells #[.int .i64 0, .int .i64 1] 3)).alloc (.cells #[.int .i64 65536, .int .i64 65536] 3) := ⟨_, rfl⟩
  have b8 : Below w7.heap.size w7 W8 := by rw [hW8]; exact bstepB (belowB _ _) (belowB _ _)
  have k0 : W8.heap[w7.heap.size]? = some (.cells #[.int .i64 0, .int .i64 1] 3 (0, 0)) := by rw [hW8, Below.heap_alloc _ _ _ (by simp)]; exact heap_alloc_new _ _
  have k1 : W8.heap[w7.heap.size + 1]? = some (.cells #[.int .i64 65536, .int .i64 65536] 3 (0, 0)) := by
    have := heap_alloc_new (w7.alloc (.cells #[.int .i64 0, .int .i64 1] 3)) (.cells #[.int .i64 65536, .int .i64 65536] 3)
    rw [World.size_alloc] at this; rw [hW8]; exact this
  have CK := checkB (.slice (some ⟨w7.heap.size, 0, none⟩) 2 2) (.slice (some ⟨w7.heap.size + 1, 0, none⟩) 2 2) [0, 1] [65536, 65536] none 0 0 W8 (rk_heap (L := [0, 1]) k0 (by decide) (nm_bd _ (by simp))) (rk_heap (L := [65536, 65536]) k1 (by decide) (nm_bd _ (by simp))) (by decide)
  rw [nm_chk] at CK
  have HCK : Hid _ := CK
  have HB8 : Hid (Below w.heap.size w W8) := bstepB HB7.out b8
  have HW8 : Hid (W8 = (w7.alloc (.cells #[.int .i64 0, .int .i64 1] 3)).alloc (.cells #[.int .i64 65536, .int .i64 65536] 3)) := hW8
  clear hW8 b8 k0 k1 CK
  go_wp2_with fail
  rw [← HW8.out]
  refine Calls.mono HCK.out ?_
  rintro e w9 ⟨rfl, b9⟩
  go_wp2
  go_ret
  exact ⟨rfl, bstepB HB8.out b9⟩
end Go.Proofs.Ytjlmignafhhjhaa
