/-
  Proved here: package sep's trailTo: the way back.
-/
import Derived.Test.YtcoiapgfaibkgaaGreatSpX
namespace Go.Proofs.YtcoiapgfaibkgaaGreat
set_option linter.unusedVariables false
open Go.RowKit Go.Shelf Go.Sort Go.Lib
/-- The step with which a point was first come to, and the trail to it. -/
def fstP (L : List (Stp × Stp)) (x : Int) : Stp := ((L.map (·.1)).getD ((L.map (·.1)).findIdx (fun s => s.1 == x)) (0, false))
def trlP (L : List (Stp × Stp)) (x : Int) : List Int := ((fstP L x).1 :: tlP L L.length (fstP L x)).reverse
theorem fst_at {L : List (Stp × Stp)} {x : Int} (h : ∃ s ∈ L.map (·.1), s.1 = x) : ∃ (i : Nat) (v : Stp), i = (L.map (·.1)).findIdx (fun s => s.1 == x) ∧ L[i]? = some (fstP L x, v) := by
  obtain ⟨s, hs, he⟩ := h
  have hlt : (L.map (·.1)).findIdx (fun s => s.1 == x) < (L.map (·.1)).length := List.findIdx_lt_length_of_exists ⟨s, hs, by simpa using he⟩
  have hl2 : (L.map (·.1)).findIdx (fun s => s.1 == x) < L.length := by simpa using hlt
  refine ⟨_, (L[(L.map (·.1)).findIdx (fun s => s.1 == x)]).2, rfl, ?_⟩
  rw [List.getElem?_eq_getElem hl2]
  unfold fstP
  rw [List.getD_eq_getElem?_getD, List.getElem?_eq_getElem hlt]
  simp
/-- A step in a box. -/
def StB (w : World) (g : Nat) (s : Stp) : Prop := w.heap[g]? = some (.cells #[.int .i64 s.1, .bool s.2] 80 (0, 0))
theorem StB.c0 {w : World} {g : Nat} {s : Stp} (h : StB w g s) : w.cell? ⟨g, 0, none⟩ = some (.int .i64 s.1) := cell_of_row w g 0 _ _ _ h
theorem StB.c1 {w : World} {g : Nat} {s : Stp} (h : StB w g s) : w.cell? ⟨g, 1, none⟩ = some (.bool s.2) := cell_of_row w g 1 _ _ _ h
theorem StB.lt {w : World} {g : Nat} {s : Stp} (h : StB w g s) : g < w.heap.size := (Array.getElem?_eq_some_iff.1 h).1
theorem StB.below {w W : World} {g : Nat} {s : Stp} (h : StB w g s) (hb : Below w.heap.size w W) : StB W g s := (hb.block g h.lt).trans h
theorem StB.put {w : World} {g : Nat} {s : Stp} (h : StB w g s) (t : Stp) : StB ((w.setCell ⟨g, 0, none⟩ (.int .i64 t.1)).setCell ⟨g, 1, none⟩ (.bool t.2)) g t := by
  unfold StB
  have h1 := heap_setCell_same w g 0 _ _ (.int .i64 t.1) h
  rw [heap_setCell_same _ g 1 _ _ (.bool t.2) h1]; rfl
set_option maxRecDepth 1000000 in
set_option maxHeartbeats 12800000 in
theorem trailToS (B0 : Nat) (W0 w : World) (rb gm : Nat) (gv ov : Value) (n : Nat) (L : List (Stp × Stp)) (h : WkO B0 W0 w rb gm gv ov L) (hk : KeyP n L) (hw : WelP L) (hl : L.length ≤ 100000) (x : Int) (hx : ∃ s ∈ L.map (·.1), s.1 = x) :
    Calls Tryz.prog 43 #[.pointer (some ⟨rb, 0, none⟩), .int .i64 x] w fun e w' => ∃ u, e = .returned u ∧ OG (Value.int .i64) w.heap.size 3 w' u (trlP L x) ∧ Below w.heap.size w w' := by
  obtain ⟨i0, hi, hz0, hz1, hz2⟩ := info_parts Tryz.infoI
  obtain ⟨ro, rc, rfl, hro, -⟩ := h.row.sl
  obtain ⟨on, hon⟩ : ∃ n, n = L.length := ⟨_, rfl⟩
  rw [List.length_map, ← hon] at h hro
  obtain ⟨ix, v0, hix, hat⟩ := fst_at hx
  have hixl : ix < L.length := (List.getElem?_eq_some_iff.1 hat).1
  obtain ⟨go, -, rfl⟩ := hro (by omega)
  obtain ⟨s0, hs0⟩ : ∃ s, s = fstP L x := ⟨_, rfl⟩
  rw [← hs0] at hat
  obtain ⟨wz, hw1⟩ : ∃ W, W = w.alloc (.cells #[.int .i64 x] 3) := ⟨_, rfl⟩
  obtain ⟨g3, hg3⟩ : ∃ g, g = w.heap.size := ⟨_, rfl⟩
  have b1 : Below w.heap.size w wz := by rw [hw1]; exact belowB _ _
  have c3 : wz.cell? ⟨g3, 0, none⟩ = some (.int .i64 x) := by rw [hw1, hg3, World.cell?_alloc_at _ _ _ _ rfl]; rfl
  have hbox := h.box
  have hmap := h.map
  have hrow := h.row
  obtain ⟨cb0, cb1, cb2⟩ := (hbox.below b1).cells
  obtain ⟨ce0, ce1⟩ := (hrow.below b1).cell (i := ix) (s := s0) (by rw [List.getElem?_map, hat]; rfl)
  have HIX : Hid (∀ W, Below wz.heap.size wz W → Calls Tryz.prog 67 #[.slice (some ⟨go, 0, none⟩) on rc, .func (.func 68) #[] #[.pointer (some ⟨g3, 0, none⟩)]] W fun e w' => e = .returned (.int .i64 (ix : Int)) ∧ Below W.heap.size W w') := fun W hW => idxS B0 g3 x _ _ W (hrow.below (bstepB b1 hW)) (keepR hW c3) hx ix hix.symm
  have HLK : Hid (∀ (W : World) (s : Stp), W.heap[gm]? = w.heap[gm]? → (Instr.lookup 75 (.map (some gm)) (.agg #[.int .i64 s.1, .bool s.2]) false).run Tryz.prog W = .ok (.agg #[.int .i64 (prP L s).1, .bool (prP L s).2]) W) := fun W s hW => by
    have h3 := (hmap.of_block hW).look s false
    exact h3
  have HGM : Hid (gm < w.heap.size) := hmap.lt
  have HB1c : Hid (∀ W, Below w.heap.size w W → W.cell? ⟨rb, 1, none⟩ = some (.map (some gm))) := fun W hW => keepR hW hbox.cells.2.1
  have HS0 : Hid (s0 = fstP L x) := hs0
  have HAT : Hid (L[ix]? = some (s0, v0)) := hat
  have HON : Hid (on = L.length) := hon
  have HB1 : Hid (Below w.heap.size w wz) := b1
  have HW1 : Hid (wz = w.alloc (.cells #[.int .i64 x] 3)) := hw1
  have HG3 : Hid (g3 = w.heap.size) := hg3
  have HKP : Hid (KeyP n L) := hk
  have HWP : Hid (WelP L) := hw
  have honl : on ≤ 100000 := by rw [hon]; exact hl
  have hixz : (ix : Int) < (on : Int) := by omega
  clear h hro hon hix hat hixl hs0 hw1 hg3 b1 hbox hmap hrow hk hw hl hx c3 cb0 cb1
  go_enter Tryz.func43, Tryz.ntmps43
  go_upto_region 1 with fail
  rw [← HW1.out, ← HG3.out]
  clear HW1
  go_cut [5] from 7 to 18 (fun v5 wx => ∃ g5, v5 = .pointer (some ⟨g5, 0, none⟩) ∧ Hid (StB wx g5 s0 ∧ Below wz.heap.size wz wx ∧ wz.heap.size ≤ g5))
  case first =>
    have KEEP : ∀ u, Below wz.heap.size wz u → L4.AllL u [(3, fun w' => w'.cell? ⟨rb, 2, none⟩ = some (.slice (some ⟨go, 0, none⟩) on rc)), (7, fun w' => w'.cell? ⟨rb, 2, none⟩ = some (.slice (some ⟨go, 0, none⟩) on rc)), (11, fun w' => w'.cell? ⟨go, ix * 2, none⟩ = some (.int .i64 s0.1) ∧ w'.cell? ⟨go, ix * 2 + 1, none⟩ = some (.bool s0.2))] := fun u hu => ⟨keepR hu cb2, keepR hu cb2, ⟨keepR hu ce0, keepR hu ce1⟩, trivial⟩
    refine L4.region_late [(3, fun w' => w'.cell? ⟨rb, 2, none⟩ = some (.slice (some ⟨go, 0, none⟩) on rc)), (7, fun w' => w'.cell? ⟨rb, 2, none⟩ = some (.slice (some ⟨go, 0, none⟩) on rc)), (11, fun w' => w'.cell? ⟨go, ix * 2, none⟩ = some (.int .i64 s0.1) ∧ w'.cell? ⟨go, ix * 2 + 1, none⟩ = some (.bool s0.2))] (by kernel_rfl) ?_
    have B : Below wz.heap.size wz wz.drew := (Below.refl _ _).drew
    obtain ⟨w1, hw1⟩ : ∃ u, u = wz.drew := ⟨_, rfl⟩
    rw [← hw1] at B ⊢
    clear hw1
    have hHeld := KEEP _ B
    refine L4.late_free 0 (v := .pointer (some ⟨rb, 0, none⟩)) rfl (by kernel_rfl) (by kernel_rfl) (by kernel_rfl) (by kernel_rfl) (by kernel_rfl) (by kernel_rfl) (fun _ _ _ h => h) (Or.inl ⟨by rfl, ?_⟩) hHeld ?_
    · (intro u _; go_simp)
    (try simp only [Act.put, List.setIfInBounds_toArray, List.set_cons_zero, List.set_cons_succ])
    refine L4.late_free 1 (v := .pointer (some ⟨rb, 0, none⟩)) rfl (by kernel_rfl) (by kernel_rfl) (by kernel_rfl) (by kernel_rfl) (by kernel_rfl) (by kernel_rfl) (fun _ _ _ h => h) (Or.inl ⟨by rfl, ?_⟩) hHeld ?_
    · (intro u _; go_simp)
    (try simp only [Act.put, List.setIfInBounds_toArray, List.set_cons_zero, List.set_cons_succ])
    refine L4.late_free 2 (v := .pointer (some ⟨rb, 2, none⟩)) rfl (by kernel_rfl) (by kernel_rfl) (by kernel_rfl) (by kernel_rfl) (by kernel_rfl) (by kernel_rfl) (fun _ _ _ h => h) (Or.inl ⟨by rfl, ?_⟩) hHeld ?_
    · (intro u _; go_simp)
    (try simp only [Act.put, List.setIfInBounds_toArray, List.set_cons_zero, List.set_cons_succ])
    refine L4.late_take 3 (v := .slice (some ⟨go, 0, none⟩) on rc) rfl (by kernel_rfl) (List.Mem.head _) (by kernel_rfl) (by kernel_rfl) (by kernel_rfl) (by kernel_rfl) (fun _ _ _ h => h) (Or.inl ⟨by rfl, ?_⟩) hHeld ?_
    · (intro u hu; (try dsimp only at hu); go_split_ands; go_simp)
    (try simp only [Act.put, List.setIfInBounds_toArray, List.set_cons_zero, List.set_cons_succ])
    refine L4.late_free 4 (v := .pointer (some ⟨rb, 0, none⟩)) rfl (by kernel_rfl) (by kernel_rfl) (by kernel_rfl) (by kernel_rfl) (by kernel_rfl) (by kernel_rfl) (fun _ _ _ h => h) (Or.inl ⟨by rfl, ?_⟩) hHeld ?_
    · (intro u _; go_simp)
    (try simp only [Act.put, List.setIfInBounds_toArray, List.set_cons_zero, List.set_cons_succ])
    refine L4.late_free 5 (v := .pointer (some ⟨rb, 0, none⟩)) rfl (by kernel_rfl) (by kernel_rfl) (by kernel_rfl) (by kernel_rfl) (by kernel_rfl) (by kernel_rfl) (fun _ _ _ h => h) (Or.inl ⟨by rfl, ?_⟩) hHeld ?_
    · (intro u _; go_simp)
    (try simp only [Act.put, List.setIfInBounds_toArray, List.set_cons_zero, List.set_cons_succ])
    refine L4.late_free 6 (v := .pointer (some ⟨rb, 2, none⟩)) rfl (by kernel_rfl) (by kernel_rfl) (by kernel_rfl) (by kernel_rfl) (by kernel_rfl) (by kernel_rfl) (fun _ _ _ h => h) (Or.inl ⟨by rfl, ?_⟩) hHeld ?_
    · (intro u _; go_simp)
    (try simp only [Act.put, List.setIfInBounds_toArray, List.set_cons_zero, List.set_cons_succ])
    refine L4.late_take 7 (v := .slice (some ⟨go, 0, none⟩) on rc) rfl (by kernel_rfl) (List.Mem.tail _ (List.Mem.head _)) (by kernel_rfl) (by kernel_rfl) (by kernel_rfl) (by kernel_rfl) (fun _ _ _ h => h) (Or.inl ⟨by rfl, ?_⟩) hHeld ?_
    · (intro u hu; (try dsimp only at hu); go_split_ands; go_simp)
    (try simp only [Act.put, List.setIfInBounds_toArray, List.set_cons_zero, List.set_cons_succ])
    refine L4.late_free 8 (v := .func (.func 68) #[] #[.pointer (some ⟨g3, 0, none⟩)]) rfl (by kernel_rfl) (by kernel_rfl) (by kernel_rfl) (by kernel_rfl) (by kernel_rfl) (by kernel_rfl) (fun _ _ _ h => h) (Or.inl ⟨by rfl, ?_⟩) hHeld ?_
    · (intro u _; go_simp)
    (try simp only [Act.put, List.setIfInBounds_toArray, List.set_cons_zero, List.set_cons_succ])
    refine L4.late_two 9 12 (by kernel_rfl) rfl rfl (fun K hK => ?_) (fun K hK => ?_)
    · go_simp
      refine (HIX.out _ B).mono ?_
      rintro e y2 ⟨rfl, c2⟩
      have B := B.trans (c2.mono B.size)
      clear c2 hHeld
      have hHeld := KEEP _ B
      go_wp2_with fail
      refine hK.out _ _ (L4.AllL.kept hHeld) ?_
      clear hK K
      (try simp only [Act.put, List.setIfInBounds_toArray, List.set_cons_zero, List.set_cons_succ])
      refine L4.late_free 10 (v := .pointer (some ⟨go, ix * 2, none⟩)) rfl (by kernel_rfl) (by kernel_rfl) (by kernel_rfl) (by kernel_rfl) (by kernel_rfl) (by kernel_rfl) (fun _ _ _ h => h) (Or.inl ⟨by rfl, ?_⟩) hHeld ?_
      · (intro u _; go_simp)
      (try simp only [Act.put, List.setIfInBounds_toArray, List.set_cons_zero, List.set_cons_succ])
      refine L4.late_take 11 (v := .agg #[.int .i64 s0.1, .bool s0.2]) rfl (by kernel_rfl) (List.Mem.tail _ (List.Mem.tail _ (List.Mem.head _))) (by kernel_rfl) (by kernel_rfl) (by kernel_rfl) (by kernel_rfl) (fun _ _ _ h => h) (Or.inl ⟨by rfl, ?_⟩) hHeld ?_
      · (intro u hu; (try dsimp only at hu); go_split_ands; go_simp)
      (try simp only [Act.put, List.setIfInBounds_toArray, List.set_cons_zero, List.set_cons_succ])
      refine L4.late_step 12 (by kernel_rfl) rfl (fun K hK => ?_)
      go_simp
      obtain ⟨y3, hy3⟩ : ∃ u, u = y2.alloc (.cells #[.int .i64 0, .bool false] 80) := ⟨_, rfl⟩
      obtain ⟨g5, hg5⟩ : ∃ u, u = y2.heap.size := ⟨_, rfl⟩
      rw [← hy3, ← hg5]
      have c3 : Below y2.heap.size y2 y3 := by rw [hy3]; exact belowB _ _
      have c60 : y3.heap[g5]? = some (.cells #[.int .i64 0, .bool false] 80 (0, 0)) := by rw [hy3, hg5]; exact heap_alloc_new y2 _
      have hg5w : wz.heap.size ≤ g5 := by rw [hg5]; exact B.size
      clear hy3 hg5
      have B := B.trans (c3.mono B.size)
      clear c3 hHeld
      have hHeld := KEEP _ B
      refine hK.out _ _ (L4.AllL.kept hHeld) ?_
      clear hK K
      (try simp only [Act.put, List.setIfInBounds_toArray, List.set_cons_zero, List.set_cons_succ])
      refine L4.late_step 13 (by kernel_rfl) rfl (fun K hK => ?_)
      have d60 := cell_of_row _ g5 0 _ _ _ c60
      have d61 := cell_of_row _ g5 1 _ _ _ c60
      have f60 := frozen_of_row _ g5 0 _ _ c60
      have f61 := frozen_of_row _ g5 1 _ _ c60
      go_simp
      refine hK.out _ _ ⟨Or.inl ⟨13, by kernel_rfl, by kernel_rfl⟩, Or.inl ⟨13, by kernel_rfl, by kernel_rfl⟩, Or.inl ⟨13, by kernel_rfl, by kernel_rfl⟩, trivial⟩ ?_
      clear hK K
      (try simp only [Act.put, List.setIfInBounds_toArray, List.set_cons_zero, List.set_cons_succ])
      refine L4.late_done (by kernel_rfl) ?_ _
      have hst : StB ((y3.setCell ⟨g5, 0, none⟩ (.int .i64 s0.1)).setCell ⟨g5, 1, none⟩ (.bool s0.2)) g5 s0 := by
        unfold StB
        have h1 := heap_setCell_same y3 g5 0 _ _ (.int .i64 s0.1) c60
        rw [heap_setCell_same _ g5 1 _ _ (.bool s0.2) h1]; rfl
      have HRES : Hid (StB ((y3.setCell ⟨g5, 0, none⟩ (.int .i64 s0.1)).setCell ⟨g5, 1, none⟩ (.bool s0.2)) g5 s0 ∧ Below wz.heap.size wz ((y3.setCell ⟨g5, 0, none⟩ (.int .i64 s0.1)).setCell ⟨g5, 1, none⟩ (.bool s0.2)) ∧ wz.heap.size ≤ g5) := ⟨hst, (B.setCell (p := ⟨g5, 0, none⟩) hg5w _).setCell (p := ⟨g5, 1, none⟩) hg5w _, hg5w⟩
      clear hst B KEEP c60 d60 d61 f60 f61 hg5w cb2 ce0 ce1
      (try go_wp2_with fail)
      go_meet
      exact ⟨g5, rfl, HRES⟩
    · go_simp
      obtain ⟨y4, hy4⟩ : ∃ u, u = w1.alloc (.cells #[.int .i64 0, .bool false] 80) := ⟨_, rfl⟩
      obtain ⟨g5, hg5⟩ : ∃ u, u = w1.heap.size := ⟨_, rfl⟩
      rw [← hy4, ← hg5]
      have c4 : Below w1.heap.size w1 y4 := by rw [hy4]; exact belowB _ _
      have c60 : y4.heap[g5]? = some (.cells #[.int .i64 0, .bool false] 80 (0, 0)) := by rw [hy4, hg5]; exact heap_alloc_new w1 _
      have hg5w : wz.heap.size ≤ g5 := by rw [hg5]; exact B.size
      clear hy4 hg5
      have B := B.trans (c4.mono B.size)
      clear c4 hHeld
      have hHeld := KEEP _ B
      refine hK.out _ _ (L4.AllL.kept hHeld) ?_
      clear hK K
      (try simp only [Act.put, List.setIfInBounds_toArray, List.set_cons_zero, List.set_cons_succ])
      refine L4.late_step 9 (by kernel_rfl) rfl (fun K hK => ?_)
      go_simp
      refine (HIX.out _ B).mono ?_
      rintro e y5 ⟨rfl, c5⟩
      have k5 := (show Below _ _ _ from c5).block g5 (Array.getElem?_eq_some_iff.1 c60).1
      replace c60 := k5.trans c60
      clear k5
      have B := B.trans (c5.mono B.size)
      clear c5 hHeld
      have hHeld := KEEP _ B
      go_wp2_with fail
      refine hK.out _ _ (L4.AllL.kept hHeld) ?_
      clear hK K
      (try simp only [Act.put, List.setIfInBounds_toArray, List.set_cons_zero, List.set_cons_succ])
      refine L4.late_free 10 (v := .pointer (some ⟨go, ix * 2, none⟩)) rfl (by kernel_rfl) (by kernel_rfl) (by kernel_rfl) (by kernel_rfl) (by kernel_rfl) (by kernel_rfl) (fun _ _ _ h => h) (Or.inl ⟨by rfl, ?_⟩) hHeld ?_
      · (intro u _; go_simp)
      (try simp only [Act.put, List.setIfInBounds_toArray, List.set_cons_zero, List.set_cons_succ])
      refine L4.late_take 11 (v := .agg #[.int .i64 s0.1, .bool s0.2]) rfl (by kernel_rfl) (List.Mem.tail _ (List.Mem.tail _ (List.Mem.head _))) (by kernel_rfl) (by kernel_rfl) (by kernel_rfl) (by kernel_rfl) (fun _ _ _ h => h) (Or.inl ⟨by rfl, ?_⟩) hHeld ?_
      · (intro u hu; (try dsimp only at hu); go_split_ands; go_simp)
      (try simp only [Act.put, List.setIfInBounds_toArray, List.set_cons_zero, List.set_cons_succ])
      refine L4.late_step 13 (by kernel_rfl) rfl (fun K hK => ?_)
      have d60 := cell_of_row _ g5 0 _ _ _ c60
      have d61 := cell_of_row _ g5 1 _ _ _ c60
      have f60 := frozen_of_row _ g5 0 _ _ c60
      have f61 := frozen_of_row _ g5 1 _ _ c60
      go_simp
      refine hK.out _ _ ⟨Or.inl ⟨13, by kernel_rfl, by kernel_rfl⟩, Or.inl ⟨13, by kernel_rfl, by kernel_rfl⟩, Or.inl ⟨13, by kernel_rfl, by kernel_rfl⟩, trivial⟩ ?_
      clear hK K
      (try simp only [Act.put, List.setIfInBounds_toArray, List.set_cons_zero, List.set_cons_succ])
      refine L4.late_done (by kernel_rfl) ?_ _
      have hst : StB ((y5.setCell ⟨g5, 0, none⟩ (.int .i64 s0.1)).setCell ⟨g5, 1, none⟩ (.bool s0.2)) g5 s0 := by
        unfold StB
        have h1 := heap_setCell_same y5 g5 0 _ _ (.int .i64 s0.1) c60
        rw [heap_setCell_same _ g5 1 _ _ (.bool s0.2) h1]; rfl
      have HRES : Hid (StB ((y5.setCell ⟨g5, 0, none⟩ (.int .i64 s0.1)).setCell ⟨g5, 1, none⟩ (.bool s0.2)) g5 s0 ∧ Below wz.heap.size wz ((y5.setCell ⟨g5, 0, none⟩ (.int .i64 s0.1)).setCell ⟨g5, 1, none⟩ (.bool s0.2)) ∧ wz.heap.size ≤ g5) := ⟨hst, (B.setCell (p := ⟨g5, 0, none⟩) hg5w _).setCell (p := ⟨g5, 1, none⟩) hg5w _, hg5w⟩
      clear hst B KEEP c60 d60 d61 f60 f61 hg5w cb2 ce0 ce1
      (try go_wp2_with fail)
      go_meet
      exact ⟨g5, rfl, HRES⟩
  case rest =>
    obtain ⟨g5, rfl, HCT⟩ := hcut
    obtain ⟨wq, rfl⟩ : ∃ W, W = wc := ⟨_, rfl⟩
    have HB0 : Hid (StB wq g5 s0) := HCT.out.1
    have HY : Hid (Below wz.heap.size wz wq) := HCT.out.2.1
    have HG5 : Hid (wz.heap.size ≤ g5) := HCT.out.2.2
    clear HCT cb2 ce0 ce1 HIX
    have hc0 := HB0.out.c0
    obtain ⟨wd, hwd⟩ : ∃ W, W = wq.alloc (.cells #[.int .i64 s0.1] 3) := ⟨_, rfl⟩
    obtain ⟨gt, hgt⟩ : ∃ g, g = wq.heap.size := ⟨_, rfl⟩
    have bd : Below wq.heap.size wq wd := by rw [hwd]; exact belowB _ _
    have HT0 : Hid (OG (Value.int .i64) wq.heap.size 3 wd (.slice (some ⟨gt, 0, none⟩) 1 1) [s0.1]) := by show OG _ _ _ _ _ _; rw [hwd, hgt]; exact OG.lit 3 wq [s0.1] (by unfold maxLen; simp)
    have HBD : Hid (StB wd g5 s0) := HB0.out.below bd
    have HFD : Hid (FrP (fun q => q = g5) wq wd) := FrP.of_below bd
    have HWD : Hid (wd = wq.alloc (.cells #[.int .i64 s0.1] 3)) := hwd
    have HGT : Hid (gt = wq.heap.size) := hgt
    have HTL : Hid ([s0.1] ++ tlP L on s0 = (trlP L x).reverse) := by show _ = _; unfold trlP; rw [List.reverse_reverse, ← HS0.out, ← HON.out]; rfl
    have HIXO : Hid (ix ≤ on) := by show ix ≤ on; omega
    have HGL : Hid (g5 < wq.heap.size) := HB0.out.lt
    clear hwd hgt bd HB0
    go_upto_region 3 with fail
    rw [← HWD.out, ← HGT.out]
    clear HWD HGT hc0
    go_loopg [6] (on + 1) (fun g1 v6 wr => ∃ (f : Nat) (s v : Stp) (T : List Int) (lo : Option Addr) (ln lc ii : Nat), v6 = .slice lo ln lc ∧ f + 1 ≤ g1 ∧ f ≤ on ∧ ii ≤ f ∧ Hid (L[ii]? = some (s, v)) ∧ Hid (StB wr g5 s) ∧ Hid (OG (Value.int .i64) wq.heap.size 3 wr (.slice lo ln lc) T) ∧ Hid (T ++ tlP L f s = (trlP L x).reverse) ∧ Hid (FrP (fun q => q = g5) wq wr))
    case atStart => exact ⟨on, s0, v0, [s0.1], _, _, _, ix, rfl, Nat.le_refl _, Nat.le_refl _, HIXO.out, HAT, HBD, HT0, HTL, HFD⟩
    case round =>
      clear HT0 HBD HFD HTL HIXO HAT HS0
      obtain ⟨f, s, v, T, lo, ln, lc, ii, rfl, hg1, hfo, hif, HAT, HBX, HT, HTL, HF⟩ := hrel
      have hpr : prP L s = v := by unfold prP; rw [prP_at HKP.out HAT.out]; rfl
      have hTW : Below w.heap.size w wr := bstepB HB1.out (HY.out.trans (HF.out.below HY.out.size (fun q e => by rw [e]; exact HG5.out)))
      have HWR : Hid (Below w.heap.size w wr) := hTW
      have cb1 := HB1c.out wr hTW
      have c50 := HBX.out.c0
      have c51 := HBX.out.c1
      have hTl : T.length ≤ 200000 := by
        have h1 : (T ++ tlP L f s).length = (trlP L x).reverse.length := by rw [HTL.out]
        rw [List.length_append, List.length_reverse] at h1
        unfold trlP at h1
        rw [List.length_reverse, List.length_cons] at h1
        have h2 := tlP_len L L.length (fstP L x)
        have h3 := HON.out
        omega
      have HTLN : Hid (T.length ≤ 200000) := hTl
      have LKU : ∀ u, Below wr.heap.size wr u → (Instr.lookup 75 (.map (some gm)) (.agg #[.int .i64 s.1, .bool s.2]) false).run Tryz.prog u = .ok (.agg #[.int .i64 v.1, .bool v.2]) u := fun u hu => by
        have h3 := HLK.out u s (by rw [hu.block gm (Nat.lt_of_lt_of_le HGM.out hTW.size), hTW.block gm HGM.out])
        rw [hpr] at h3
        exact h3
      have HPR : Hid (prP L s = v) := hpr
      obtain ⟨ne, hne⟩ : ∃ b, b = decide (v = s) := ⟨_, rfl⟩
      have EQU : ∀ u : World, (Op.equalIn 10000 80 (.agg #[.int .i64 v.1, .bool v.2]) (.agg #[.int .i64 s.1, .bool s.2])).run Tryz.prog u = .ok ne u := fun u => by
        have h3 := Tryz.stepEq v s u
        rw [stepEqB, ← hne] at h3
        exact h3
      have HNE : Hid (ne = decide (v = s)) := hne
      clear hpr hTW hTl hne
      go_upto_region 3 with fail
      go_cut [29] from 22 to 28 (fun v29 wx => v29 = .bool (!ne) ∧ Hid (Below wr.heap.size wr wx))
      case first =>
        have KEEP : ∀ u, Below wr.heap.size wr u → L4.AllL u [(3, fun w' => w'.cell? ⟨rb, 1, none⟩ = some (.map (some gm))), (4, fun w' => w'.cell? ⟨g5, 0, none⟩ = some (.int .i64 s.1) ∧ w'.cell? ⟨g5, 1, none⟩ = some (.bool s.2)), (6, fun w' => w'.cell? ⟨g5, 0, none⟩ = some (.int .i64 s.1) ∧ w'.cell? ⟨g5, 1, none⟩ = some (.bool s.2))] := fun u hu => ⟨keepR hu cb1, ⟨keepR hu c50, keepR hu c51⟩, ⟨keepR hu c50, keepR hu c51⟩, trivial⟩
        refine L4.region_late [(3, fun w' => w'.cell? ⟨rb, 1, none⟩ = some (.map (some gm))), (4, fun w' => w'.cell? ⟨g5, 0, none⟩ = some (.int .i64 s.1) ∧ w'.cell? ⟨g5, 1, none⟩ = some (.bool s.2)), (6, fun w' => w'.cell? ⟨g5, 0, none⟩ = some (.int .i64 s.1) ∧ w'.cell? ⟨g5, 1, none⟩ = some (.bool s.2))] (by kernel_rfl) ?_
        have B : Below wr.heap.size wr wr.drew := (Below.refl _ _).drew
        obtain ⟨w6, hw6⟩ : ∃ u, u = wr.drew := ⟨_, rfl⟩
        rw [← hw6] at B ⊢
        clear hw6
        have hHeld := KEEP _ B
        refine L4.late_free 0 (v := .pointer (some ⟨rb, 0, none⟩)) rfl (by kernel_rfl) (by kernel_rfl) (by kernel_rfl) (by kernel_rfl) (by kernel_rfl) (by kernel_rfl) (fun _ _ _ h => h) (Or.inl ⟨by rfl, ?_⟩) hHeld ?_
        · (intro u _; go_simp)
        (try simp only [Act.put, List.setIfInBounds_toArray, List.set_cons_zero, List.set_cons_succ])
        refine L4.late_free 1 (v := .pointer (some ⟨rb, 0, none⟩)) rfl (by kernel_rfl) (by kernel_rfl) (by kernel_rfl) (by kernel_rfl) (by kernel_rfl) (by kernel_rfl) (fun _ _ _ h => h) (Or.inl ⟨by rfl, ?_⟩) hHeld ?_
        · (intro u _; go_simp)
        (try simp only [Act.put, List.setIfInBounds_toArray, List.set_cons_zero, List.set_cons_succ])
        refine L4.late_free 2 (v := .pointer (some ⟨rb, 1, none⟩)) rfl (by kernel_rfl) (by kernel_rfl) (by kernel_rfl) (by kernel_rfl) (by kernel_rfl) (by kernel_rfl) (fun _ _ _ h => h) (Or.inl ⟨by rfl, ?_⟩) hHeld ?_
        · (intro u _; go_simp)
        (try simp only [Act.put, List.setIfInBounds_toArray, List.set_cons_zero, List.set_cons_succ])
        refine L4.late_take 3 (v := .map (some gm)) rfl (by kernel_rfl) (List.Mem.head _) (by kernel_rfl) (by kernel_rfl) (by kernel_rfl) (by kernel_rfl) (fun _ _ _ h => h) (Or.inl ⟨by rfl, ?_⟩) hHeld ?_
        · (intro u hu; (try dsimp only at hu); go_split_ands; go_simp)
        (try simp only [Act.put, List.setIfInBounds_toArray, List.set_cons_zero, List.set_cons_succ])
        refine L4.late_take 4 (v := .agg #[.int .i64 s.1, .bool s.2]) rfl (by kernel_rfl) (List.Mem.tail _ (List.Mem.head _)) (by kernel_rfl) (by kernel_rfl) (by kernel_rfl) (by kernel_rfl) (fun _ _ _ h => h) (Or.inl ⟨by rfl, ?_⟩) hHeld ?_
        · (intro u hu; (try dsimp only at hu); go_split_ands; go_simp)
        (try simp only [Act.put, List.setIfInBounds_toArray, List.set_cons_zero, List.set_cons_succ])
        refine L4.late_take 6 (v := .agg #[.int .i64 s.1, .bool s.2]) rfl (by kernel_rfl) (List.Mem.tail _ (List.Mem.tail _ (List.Mem.head _))) (by kernel_rfl) (by kernel_rfl) (by kernel_rfl) (by kernel_rfl) (fun _ _ _ h => h) (Or.inl ⟨by rfl, ?_⟩) hHeld ?_
        · (intro u hu; (try dsimp only at hu); go_split_ands; go_simp)
        (try simp only [Act.put, List.setIfInBounds_toArray, List.set_cons_zero, List.set_cons_succ])
        refine L4.late_step 5 (by kernel_rfl) rfl (fun K hK => ?_)
        have hrun := LKU _ B
        go_simp
        clear hrun
        refine hK.out _ _ (L4.AllL.kept hHeld) ?_
        clear hK K
        (try simp only [Act.put, List.setIfInBounds_toArray, List.set_cons_zero, List.set_cons_succ])
        refine L4.late_free 7 (v := .bool (!ne)) rfl (by kernel_rfl) (by kernel_rfl) (by kernel_rfl) (by kernel_rfl) (by kernel_rfl) (by kernel_rfl) (fun _ _ _ h => h) (Or.inl ⟨by rfl, ?_⟩) hHeld ?_
        · (intro u _; go_simp)
        (try simp only [Act.put, List.setIfInBounds_toArray, List.set_cons_zero, List.set_cons_succ])
        refine L4.late_done (by kernel_rfl) ?_ _
        have HRES : Hid (Below wr.heap.size wr w6) := B
        clear B KEEP hHeld LKU EQU cb1 c50 c51
        (try go_wp2_with fail)
        go_meet
        exact ⟨rfl, HRES⟩
      case rest =>
        obtain ⟨rfl, HBC⟩ := hcut
        obtain ⟨wx, rfl⟩ : ∃ W, W = wc := ⟨_, rfl⟩
        clear LKU EQU cb1 c50 c51
        have HBX2 : Hid (StB wx g5 s) := HBX.out.below HBC.out
        have HT2 : Hid (OG (Value.int .i64) wq.heap.size 3 wx (.slice lo ln lc) T) := HT.out.below HBC.out
        have HF2 : Hid (FrP (fun q => q = g5) wq wx) := HF.out.tr (FrP.of_below HBC.out) (fun q _ e => e)
        have HWX : Hid (Below w.heap.size w wx) := bstepB HWR.out HBC.out
        clear HBX HT HF HBC HWR
        cases ne with
        | true =>
          have hvs : v = s := of_decide_eq_true HNE.out.symm
          have hT : T = (trlP L x).reverse := by
            have h1 := HTL.out
            rw [tlP_end (by rw [HPR.out]; exact hvs), List.append_nil] at h1
            exact h1
          have hlen : ∃ m, T.length = m ∧ 0 < m := ⟨_, rfl, by rw [hT, List.length_reverse]; unfold trlP; simp⟩
          obtain ⟨m, hm, hm0⟩ := hlen
          obtain ⟨lo2, lc2, hle, hlo, -⟩ := HT2.out.sl
          simp only [Value.slice.injEq] at hle
          obtain ⟨rfl, hln, rfl⟩ := hle
          obtain ⟨gl, hgl, rfl⟩ := hlo (by omega)
          have HTF : Hid (OG (Value.int .i64) wq.heap.size 3 wx (.slice (some ⟨gl, 0, none⟩) ln lc) T) := HT2
          have CV : Hid _ := revI wq.heap.size wx gl ln lc T hln.symm HTF.out (by have := HTLN.out; omega)
          have HTE : Hid (T.reverse = trlP L x) := by show _ = _; rw [hT, List.reverse_reverse]
          have HGLB : Hid (wq.heap.size ≤ gl) := hgl
          clear hvs hT hm hm0 hln hlo hgl HT2 HTL HPR HNE HAT
          go_wp2_with fail
          refine Calls.mono CV.out ?_
          rintro e y ⟨rfl, hrev, hgr⟩
          have HR : Hid (OG (Value.int .i64) w.heap.size 3 y (.slice (some ⟨gl, 0, none⟩) ln lc) (trlP L x)) := by show OG _ _ _ _ _ _; rw [← HTE.out]; exact hrev.mono (bstepB HB1.out HY.out).size
          have HBF : Hid (Below w.heap.size w y) := ⟨hgr.os.trans HWX.out.os, hgr.tape.trans HWX.out.tape, hgr.output.trans HWX.out.output, Nat.le_trans HWX.out.size hgr.size, fun q hq => by
            rw [hgr.block q (Nat.lt_of_lt_of_le hq HWX.out.size) (fun e => by
              have e2 : q = gl := by simpa using e
              have h1 := (bstepB HB1.out HY.out).size
              have h2 := HGLB.out
              omega)]
            exact HWX.out.block q hq⟩
          clear CV hrev hgr
          go_wp2
          go_ret
          exact ⟨_, rfl, HR.out, HBF.out⟩
        | false =>
          have hvs : v ≠ s := of_decide_eq_false HNE.out.symm
          obtain ⟨jj, u2, hjj, hju⟩ : ∃ (j : Nat) (u : Stp), j < ii ∧ L[j]? = some (v, u) := (HWP.out ii s v HAT.out).resolve_left hvs
          obtain ⟨f2, rfl⟩ : ∃ f2, f = f2 + 1 := ⟨f - 1, by omega⟩
          have htl : tlP L (f2 + 1) s = v.1 :: tlP L f2 v := by rw [tlP, HPR.out, if_neg hvs]
          have HTL2 : Hid ((T ++ [v.1]) ++ tlP L f2 v = (trlP L x).reverse) := by show _ = _; rw [List.append_assoc, ← HTL.out, htl]; rfl
          have HJU : Hid (L[jj]? = some (v, u2)) := hju
          have HJF : Hid (jj ≤ f2) := by show jj ≤ f2; omega
          have cb1 := HB1c.out wx HWX.out
          have c50 := HBX2.out.c0
          have c51 := HBX2.out.c1
          have LKU : ∀ u, Below wx.heap.size wx u → (Instr.lookup 75 (.map (some gm)) (.agg #[.int .i64 s.1, .bool s.2]) false).run Tryz.prog u = .ok (.agg #[.int .i64 v.1, .bool v.2]) u := fun u hu => by
            have h3 := HLK.out u s (by rw [hu.block gm (Nat.lt_of_lt_of_le HGM.out HWX.out.size), HWX.out.block gm HGM.out])
            rw [HPR.out] at h3
            exact h3
          clear hvs hjj hju htl HTL HAT HNE
          go_upto_region 4 with fail
          have KEEP : ∀ u, Below wx.heap.size wx u → L4.AllL u [(3, fun w' => w'.cell? ⟨rb, 1, none⟩ = some (.map (some gm))), (4, fun w' => w'.cell? ⟨g5, 0, none⟩ = some (.int .i64 s.1) ∧ w'.cell? ⟨g5, 1, none⟩ = some (.bool s.2))] := fun u hu => ⟨keepR hu cb1, ⟨keepR hu c50, keepR hu c51⟩, trivial⟩
          refine L4.region_late [(3, fun w' => w'.cell? ⟨rb, 1, none⟩ = some (.map (some gm))), (4, fun w' => w'.cell? ⟨g5, 0, none⟩ = some (.int .i64 s.1) ∧ w'.cell? ⟨g5, 1, none⟩ = some (.bool s.2))] (by kernel_rfl) ?_
          have B : Below wx.heap.size wx wx.drew := (Below.refl _ _).drew
          obtain ⟨w7, hw7⟩ : ∃ u, u = wx.drew := ⟨_, rfl⟩
          rw [← hw7] at B ⊢
          clear hw7
          have hHeld := KEEP _ B
          refine L4.late_free 0 (v := .pointer (some ⟨rb, 0, none⟩)) rfl (by kernel_rfl) (by kernel_rfl) (by kernel_rfl) (by kernel_rfl) (by kernel_rfl) (by kernel_rfl) (fun _ _ _ h => h) (Or.inl ⟨by rfl, ?_⟩) hHeld ?_
          · (intro u _; go_simp)
          (try simp only [Act.put, List.setIfInBounds_toArray, List.set_cons_zero, List.set_cons_succ])
          refine L4.late_free 1 (v := .pointer (some ⟨rb, 0, none⟩)) rfl (by kernel_rfl) (by kernel_rfl) (by kernel_rfl) (by kernel_rfl) (by kernel_rfl) (by kernel_rfl) (fun _ _ _ h => h) (Or.inl ⟨by rfl, ?_⟩) hHeld ?_
          · (intro u _; go_simp)
          (try simp only [Act.put, List.setIfInBounds_toArray, List.set_cons_zero, List.set_cons_succ])
          refine L4.late_free 2 (v := .pointer (some ⟨rb, 1, none⟩)) rfl (by kernel_rfl) (by kernel_rfl) (by kernel_rfl) (by kernel_rfl) (by kernel_rfl) (by kernel_rfl) (fun _ _ _ h => h) (Or.inl ⟨by rfl, ?_⟩) hHeld ?_
          · (intro u _; go_simp)
          (try simp only [Act.put, List.setIfInBounds_toArray, List.set_cons_zero, List.set_cons_succ])
          refine L4.late_take 3 (v := .map (some gm)) rfl (by kernel_rfl) (List.Mem.head _) (by kernel_rfl) (by kernel_rfl) (by kernel_rfl) (by kernel_rfl) (fun _ _ _ h => h) (Or.inl ⟨by rfl, ?_⟩) hHeld ?_
          · (intro u hu; (try dsimp only at hu); go_split_ands; go_simp)
          (try simp only [Act.put, List.setIfInBounds_toArray, List.set_cons_zero, List.set_cons_succ])
          refine L4.late_take 4 (v := .agg #[.int .i64 s.1, .bool s.2]) rfl (by kernel_rfl) (List.Mem.tail _ (List.Mem.head _)) (by kernel_rfl) (by kernel_rfl) (by kernel_rfl) (by kernel_rfl) (fun _ _ _ h => h) (Or.inl ⟨by rfl, ?_⟩) hHeld ?_
          · (intro u hu; (try dsimp only at hu); go_split_ands; go_simp)
          (try simp only [Act.put, List.setIfInBounds_toArray, List.set_cons_zero, List.set_cons_succ])
          refine L4.late_step 5 (by kernel_rfl) rfl (fun K hK => ?_)
          have hrun := LKU _ B
          go_simp
          clear hrun
          refine hK.out _ _ (L4.AllL.kept hHeld) ?_
          clear hK K
          (try simp only [Act.put, List.setIfInBounds_toArray, List.set_cons_zero, List.set_cons_succ])
          refine L4.late_step 6 (by kernel_rfl) rfl (fun K hK => ?_)
          have k9 := HBX2.out.below B
          have d60 := k9.c0
          have d61 := k9.c1
          have f60 := frozen_of_row _ g5 0 _ _ k9
          have f61 := frozen_of_row _ g5 1 _ _ k9
          go_simp
          refine hK.out _ _ ⟨Or.inl ⟨6, by kernel_rfl, by kernel_rfl⟩, Or.inl ⟨6, by kernel_rfl, by kernel_rfl⟩, trivial⟩ ?_
          clear hK K
          (try simp only [Act.put, List.setIfInBounds_toArray, List.set_cons_zero, List.set_cons_succ])
          refine L4.late_done (by kernel_rfl) ?_ _
          have k9 := HBX2.out.below B
          obtain ⟨w4, hw4⟩ : ∃ W, W = (w7.setCell ⟨g5, 0, none⟩ (.int .i64 v.1)).setCell ⟨g5, 1, none⟩ (.bool v.2) := ⟨_, rfl⟩
          have HB4 : Hid (StB w4 g5 v) := by show StB _ _ _; rw [hw4]; exact k9.put v
          have hT4 : OG (Value.int .i64) wq.heap.size 3 w4 (.slice lo ln lc) T := by
            rw [hw4]
            refine (HT2.out.below B).of_blocks fun q hq => ?_
            have hne : q ≠ g5 := fun e => by
              obtain ⟨cs, hc⟩ := (HT2.out.below B).blockE hq
              have h9 := k9
              unfold StB at h9
              rw [e, h9] at hc
              simp only [Option.some.injEq, Obj.cells.injEq] at hc
              exact absurd hc.2.1 (by decide)
            rw [Below.heap_setCell _ _ _ _ (by show q ≠ g5; exact hne), Below.heap_setCell _ _ _ _ (by show q ≠ g5; exact hne)]
          have HT4 : Hid (OG (Value.int .i64) wq.heap.size 3 w4 (.slice lo ln lc) T) := hT4
          have HF4 : Hid (FrP (fun q => q = g5) wq w4) := by
            show FrP _ _ _
            rw [hw4]
            exact ((HF2.out.tr (FrP.of_below B) (fun q _ e => e)).put _ _ (fun _ => rfl)).put _ _ (fun _ => rfl)
          rw [← hw4]
          clear k9 hw4 hT4 B KEEP HBX2 HT2 HF2 HWX cb1 c50 c51 LKU
          obtain ⟨wa, hwa⟩ : ∃ W, W = w4.alloc (.cells #[.int .i64 v.1] 3) := ⟨_, rfl⟩
          obtain ⟨gb, hgb⟩ : ∃ g, g = w4.heap.size := ⟨_, rfl⟩
          have HBA : Hid (Below w4.heap.size w4 wa) := by show Below _ _ _; rw [hwa]; exact belowB _ _
          have HCA : Hid (wa.cell? ⟨gb, 0, none⟩ = some (.int .i64 v.1)) := by show _ = _; rw [hwa, hgb, World.cell?_alloc_at _ _ _ _ rfl]; rfl
          have HWA : Hid (wa = w4.alloc (.cells #[.int .i64 v.1] 3)) := hwa
          have HGB : Hid (gb = w4.heap.size) := hgb
          have c50 := HB4.out.c0
          have HSZ : Hid (wq.heap.size ≤ wa.heap.size) := Nat.le_trans HF4.out.size HBA.out.size
          clear hwa hgb
          go_wp2_with (at_builtin; rw [← HWA.out, ← HGB.out]; refine wpList_pushV (enc := Value.int .i64) _ rfl _ _ 23 rfl wq.heap.size 3 i0 (.int .i64 0) 8 Tryz.underlying23 hi hz0 hz1 hz2 rfl _ T rfl (HT4.out.below HBA.out) gb v.1 rfl HCA.out rfl (by have := HTLN.out; unfold maxLen; omega) (by have := HTLN.out; omega) HSZ.out ?_)
          intro ng tm ncap W2 ho hg3 hng _
          have HT5 : Hid (OG (Value.int .i64) wq.heap.size 3 W2 (.slice (some ⟨ng, 0, none⟩) tm ncap) (T ++ [v.1])) := ho
          have hfr : FrP (fun q => (Value.slice lo ln lc).ownBlock = some q) wa W2 := FrP.of_grown hg3
          have h5a : g5 < wa.heap.size := Nat.lt_of_lt_of_le HB4.out.lt HBA.out.size
          have h5n : (Value.slice lo ln lc).ownBlock ≠ some g5 := fun e => by
            obtain ⟨cs, hc⟩ := HT4.out.blockE e
            have h9 := HB4.out
            unfold StB at h9
            rw [h9] at hc
            simp only [Option.some.injEq, Obj.cells.injEq] at hc
            exact absurd hc.2.1 (by decide)
          have HB5 : Hid (StB W2 g5 v) := (hfr.block g5 h5a h5n).trans (HB4.out.below HBA.out)
          have HF5 : Hid (FrP (fun q => q = g5) wq W2) := (HF4.out.tr (FrP.of_below HBA.out) (fun q _ e => e)).tr hfr (fun q hq e => absurd (HT4.out.lt q e).1 (by omega))
          clear ho hg3 hng hfr h5a h5n HB4 HT4 HF4 HBA HCA HWA HGB HSZ c50
          go_wp2
          go_roundg (f2 + 1)
          case measure => omega
          case rel => exact ⟨f2, v, u2, T ++ [v.1], _, _, _, jj, rfl, Nat.le_refl _, by omega, HJF.out, HJU, HB5, HT5, HTL2, HF5⟩
end Go.Proofs.YtcoiapgfaibkgaaGreat
