/-
  Proved here: package sep's walk: reach.
-/
import Derived.Test.YthdpomgpcblpeaaGreatSpN
import Derived.Test.YthdpomgpcblpeaaGreatRadMathAll
import Derived.Test.YthdpomgpcblpeaaGreatLate4
import Derived.Test.YthdpomgpcblpeaaGreatDagMAll
namespace Go.Proofs.YthdpomgpcblpeaaGreat
set_option linter.unusedVariables false
open Go.RowKit
/-- The walk in memory: its three cells, the map of what was reached, the steps in order. -/
structure WkO (B : Nat) (W0 w : World) (rb gm : Nat) (gv ov : Value) (L : List (Stp × Stp)) : Prop where
  box : BCell 82 w rb gv (.map (some gm)) ov
  map : MpS w gm L
  row : OS B w ov (L.map (·.1))
  frm : Below B W0 w
  hrb : B ≤ rb
  hgm : B ≤ gm
/-- Between the map's turn and the row's. -/
structure WkM (B : Nat) (W0 w : World) (rb gm : Nat) (gv ov : Value) (L M : List (Stp × Stp)) : Prop where
  box : BCell 82 w rb gv (.map (some gm)) ov
  map : MpS w gm M
  row : OS B w ov (L.map (·.1))
  frm : Below B W0 w
  hrb : B ≤ rb
  hgm : B ≤ gm
/-- The blocks that reach may write. -/
def WkS (rb gm : Nat) (ov : Value) (q : Nat) : Prop := q = rb ∨ q = gm ∨ ov.ownBlock = some q
theorem WkO.below {B : Nat} {W0 w w' : World} {rb gm : Nat} {gv ov : Value} {L : List (Stp × Stp)} (h : WkO B W0 w rb gm gv ov L) (hB : B ≤ w.heap.size) (hb : Below w.heap.size w w') : WkO B W0 w' rb gm gv ov L :=
  ⟨(hb.block rb h.box.lt).trans h.box, h.map.of_block (hb.block gm h.map.lt), h.row.below hb, h.frm.trans (hb.mono hB), h.hrb, h.hgm⟩
theorem find_mem {L : List (Stp × Stp)} {s : Stp} : (L.find? fun q => decide (q.1 = s)).isSome = decide (s ∈ L.map (·.1)) := by
  rw [Bool.eq_iff_iff, List.find?_isSome, decide_eq_true_iff, List.mem_map]
  constructor
  · rintro ⟨x, hx, h⟩; exact ⟨x, hx, of_decide_eq_true h⟩
  · rintro ⟨x, hx, h⟩; exact ⟨x, hx, decide_eq_true h⟩
set_option maxRecDepth 1000000 in
set_option maxHeartbeats 6400000 in
theorem reachS (B0 : Nat) (W0 w : World) (rb gm : Nat) (gv ov : Value) (L : List (Stp × Stp)) (h : WkO B0 W0 w rb gm gv ov L) (hB : B0 ≤ w.heap.size) (p : Int) (d : Bool) (p2 : Int) (d2 : Bool) (hl : L.length ≤ 1000000) :
    Calls Tryz.prog 56 #[.pointer (some ⟨rb, 0, none⟩), .agg #[.int .i64 p, .bool d], .agg #[.int .i64 p2, .bool d2]] w fun e w' => e = .returned (.tuple #[]) ∧ ∃ oo on oc, WkO B0 W0 w' rb gm gv (.slice oo on oc) (rchP (p2, d2) L (p, d)) ∧ FrP (WkS rb gm ov) w w' ∧ ∀ q, (Value.slice oo on oc).ownBlock = some q → ov.ownBlock = some q ∨ w.heap.size ≤ q := by
  obtain ⟨i0, hi, hz0, hz1, hz2⟩ := info_parts Tryz.infoST
  obtain ⟨oo, oc, rfl, -, hoc, -⟩ := h.row.sl
  obtain ⟨on, hon⟩ : ∃ n, n = (L.map (·.1)).length := ⟨_, rfl⟩
  have honl : on ≤ 1000000 := by rw [hon, List.length_map]; exact hl
  rw [← hon] at h ⊢
  have HOW : Hid (WkO B0 W0 w rb gm gv (.slice oo on oc) L) := h
  obtain ⟨w1, hw1⟩ : ∃ W, W = w.alloc (.cells #[.int .i64 p, .bool d] 84) := ⟨_, rfl⟩
  obtain ⟨g4, hg4⟩ : ∃ g, g = w.heap.size := ⟨_, rfl⟩
  obtain ⟨w2, hw2⟩ : ∃ W, W = w1.alloc (.cells #[.int .i64 p2, .bool d2] 84) := ⟨_, rfl⟩
  obtain ⟨g5, hg5⟩ : ∃ g, g = w1.heap.size := ⟨_, rfl⟩
  have b1 : Below w.heap.size w w1 := by rw [hw1]; exact belowB _ _
  have b2 : Below w1.heap.size w1 w2 := by rw [hw2]; exact belowB _ _
  have k4 : w2.heap[g4]? = some (.cells #[.int .i64 p, .bool d] 84 (0, 0)) := by
    have h1 : w1.heap[g4]? = some (.cells #[.int .i64 p, .bool d] 84 (0, 0)) := by rw [hw1, hg4]; exact heap_alloc_new w _
    rw [b2.block g4 (Array.getElem?_eq_some_iff.1 h1).1]; exact h1
  have k5 : w2.heap[g5]? = some (.cells #[.int .i64 p2, .bool d2] 84 (0, 0)) := by rw [hw2, hg5]; exact heap_alloc_new w1 _
  have c40 : w2.cell? ⟨g4, 0, none⟩ = some (.int .i64 p) := cell_of_row w2 g4 0 _ _ _ k4
  have c41 : w2.cell? ⟨g4, 1, none⟩ = some (.bool d) := cell_of_row w2 g4 1 _ _ _ k4
  have c50 : w2.cell? ⟨g5, 0, none⟩ = some (.int .i64 p2) := cell_of_row w2 g5 0 _ _ _ k5
  have c51 : w2.cell? ⟨g5, 1, none⟩ = some (.bool d2) := cell_of_row w2 g5 1 _ _ _ k5
  have hB2 : Below w.heap.size w w2 := bstepB b1 b2
  have HW2 : Hid (Below w.heap.size w w2) := hB2
  have h2 := h.below hB hB2
  have HO : Hid (WkO B0 W0 w2 rb gm gv (.slice oo on oc) L) := h2
  have HB2 : Hid (B0 ≤ w2.heap.size) := Nat.le_trans hB hB2.size
  have H4 : Hid (w.heap.size ≤ g4) := by show _ ≤ _; rw [hg4]; exact Nat.le_refl _
  have H5 : Hid (w.heap.size ≤ g5) := by show _ ≤ _; rw [hg5]; exact b1.size
  obtain ⟨z, hz⟩ : ∃ z, z = ((L.find? fun q => decide (q.1 = ((p, d) : Stp))).map (·.2)).getD (0, false) := ⟨_, rfl⟩
  obtain ⟨f, hf⟩ : ∃ f, f = decide (((p, d) : Stp) ∈ L.map (·.1)) := ⟨_, rfl⟩
  have LKU : ∀ u, Below w2.heap.size w2 u → (Instr.lookup 79 (.map (some gm)) (.agg #[.int .i64 p, .bool d]) true).run Tryz.prog u = .ok (.tuple #[.agg #[.int .i64 z.1, .bool z.2], .bool f]) u := fun u hu => by
    have h3 := (h2.map.of_block (hu.block gm h2.map.lt)).look (p, d) true
    rw [if_pos rfl, ← hz, find_mem, ← hf] at h3
    exact h3
  have HF : Hid (f = decide (((p, d) : Stp) ∈ L.map (·.1))) := hf
  have HON : Hid (on = (L.map (·.1)).length) := hon
  have HW1 : Hid (w1 = w.alloc (.cells #[.int .i64 p, .bool d] 84)) := hw1
  have HG4 : Hid (g4 = w.heap.size) := hg4
  have HWB : Hid (w2 = w1.alloc (.cells #[.int .i64 p2, .bool d2] 84)) := hw2
  have HG5 : Hid (g5 = g4 + 1) := by show _ = _; rw [hg5, hg4, hw1]; simp
  have K4 : Hid (w2.heap[g4]? = some (.cells #[.int .i64 p, .bool d] 84 (0, 0))) := k4
  have K5 : Hid (w2.heap[g5]? = some (.cells #[.int .i64 p2, .bool d2] 84 (0, 0))) := k5
  obtain ⟨cb0, cb1, cb2⟩ := h2.box.cells
  clear h h2 hf hz hon hw1 hg4 hw2 hg5 b1 b2 k4 k5 hB2
  go_enter Tryz.func56, Tryz.ntmps56
  go_upto_region 1 with fail
  rw [← HW1.out, ← HG4.out, ← HG5.out, ← HWB.out]
  clear HW1 HG4 HG5 HWB
  go_cut [6, 7] from 8 to 16 (fun v6 v7 wx => ∃ g6, v6 = .pointer (some ⟨g6, 0, none⟩) ∧ v7 = .bool f ∧ Below w2.heap.size w2 wx)
  case first =>
    have KEEP : ∀ u, Below w2.heap.size w2 u → L4.AllL u [(3, fun w' => w'.cell? ⟨rb, 1, none⟩ = some (.map (some gm))), (4, fun w' => w'.cell? ⟨g4, 0, none⟩ = some (.int .i64 p) ∧ w'.cell? ⟨g4, 1, none⟩ = some (.bool d))] := fun u hu => ⟨keepR hu cb1, ⟨keepR hu c40, keepR hu c41⟩, trivial⟩
    refine L4.region_late [(3, fun w' => w'.cell? ⟨rb, 1, none⟩ = some (.map (some gm))), (4, fun w' => w'.cell? ⟨g4, 0, none⟩ = some (.int .i64 p) ∧ w'.cell? ⟨g4, 1, none⟩ = some (.bool d))] (by kernel_rfl) ?_
    have B : Below w2.heap.size w2 w2.drew := (Below.refl _ _).drew
    obtain ⟨w1, hw1⟩ : ∃ u, u = w2.drew := ⟨_, rfl⟩
    rw [← hw1] at B ⊢
    clear hw1
    have hHeld := KEEP _ B
    refine L4.late_free 0 (v := .pointer (some ⟨rb, 0, none⟩)) rfl (by kernel_rfl) (by kernel_rfl) (by kernel_rfl) (by kernel_rfl) (by kernel_rfl) (by kernel_rfl) (fun _ _ _ h => h) (Or.inl ⟨by rfl, ?_⟩) hHeld ?_
    · (intro u _; go_simp)
    (try simp only [Act.put, List.setIfInBounds_toArray, List.set_cons_zero, List.set_cons_succ])
    refine L4.late_free 1 (v := .pointer (some ⟨rb, 0, none⟩)) rfl (by kernel_rfl) (by kernel_rfl) (by kernel_rfl) (by kernel_rfl) (by kernel_rfl) (by kernel_rfl) (fun _ _ _ h => h) (Or.inl ⟨by rfl, ?_⟩) hHeld ?_
    · (intro u _; go_simp)
    (try simp only [Act.put, List.setIfInBounds_toArray, List.set_cons_zero, List.set_cons_succ])
    refine L4.late_free 2 (v := .pointer (some ⟨rb, 1, none⟩)) rfl (by kernel_rfl) (by kernel_rfl) (by kernel_rfl) (by kernel_rfl) (by kernel_rfl) (by kernel_rfl) (fun _ _ _ h => h) (Or.inl ⟨by rfl, ?_⟩) hHeld ?_
    · (intro u _; go_simp)
    (try simp only [Act.put, List.setIfInBounds_toArray, List.set_cons_zero, List.set_cons_succ])
    refine L4.late_take 3 (v := .map (some gm)) rfl (by kernel_rfl) (List.Mem.head _) (by kernel_rfl) (by kernel_rfl) (by kernel_rfl) (by kernel_rfl) (fun _ _ _ h => h) (Or.inl ⟨by rfl, ?_⟩) hHeld ?_
    · (intro u hu; (try dsimp only at hu); go_split_ands; go_simp)
    (try simp only [Act.put, List.setIfInBounds_toArray, List.set_cons_zero, List.set_cons_succ])
    refine L4.late_take 4 (v := .agg #[.int .i64 p, .bool d]) rfl (by kernel_rfl) (List.Mem.tail _ (List.Mem.head _)) (by kernel_rfl) (by kernel_rfl) (by kernel_rfl) (by kernel_rfl) (fun _ _ _ h => h) (Or.inl ⟨by rfl, ?_⟩) hHeld ?_
    · (intro u hu; (try dsimp only at hu); go_split_ands; go_simp)
    (try simp only [Act.put, List.setIfInBounds_toArray, List.set_cons_zero, List.set_cons_succ])
    refine L4.late_two 5 9 (by kernel_rfl) rfl rfl (fun K hK => ?_) (fun K hK => ?_)
    · have hrun := LKU _ B
      go_simp
      clear hrun
      refine hK.out _ _ (L4.AllL.kept hHeld) ?_
      clear hK K
      (try simp only [Act.put, List.setIfInBounds_toArray, List.set_cons_zero, List.set_cons_succ])
      refine L4.late_free 6 (v := .tuple #[.agg #[.int .i64 z.1, .bool z.2], .bool f]) rfl (by kernel_rfl) (by kernel_rfl) (by kernel_rfl) (by kernel_rfl) (by kernel_rfl) (by kernel_rfl) (fun _ _ _ h => h) (Or.inl ⟨by rfl, ?_⟩) hHeld ?_
      · (intro u _; go_simp)
      (try simp only [Act.put, List.setIfInBounds_toArray, List.set_cons_zero, List.set_cons_succ])
      refine L4.late_free 7 (v := .agg #[.int .i64 z.1, .bool z.2]) rfl (by kernel_rfl) (by kernel_rfl) (by kernel_rfl) (by kernel_rfl) (by kernel_rfl) (by kernel_rfl) (fun _ _ _ h => h) (Or.inl ⟨by rfl, ?_⟩) hHeld ?_
      · (intro u _; go_simp)
      (try simp only [Act.put, List.setIfInBounds_toArray, List.set_cons_zero, List.set_cons_succ])
      refine L4.late_free 8 (v := .bool f) rfl (by kernel_rfl) (by kernel_rfl) (by kernel_rfl) (by kernel_rfl) (by kernel_rfl) (by kernel_rfl) (fun _ _ _ h => h) (Or.inl ⟨by rfl, ?_⟩) hHeld ?_
      · (intro u _; go_simp)
      (try simp only [Act.put, List.setIfInBounds_toArray, List.set_cons_zero, List.set_cons_succ])
      refine L4.late_step 9 (by kernel_rfl) rfl (fun K hK => ?_)
      go_simp
      obtain ⟨y2, hy2⟩ : ∃ u, u = w1.alloc (.cells #[.int .i64 0, .bool false] 84) := ⟨_, rfl⟩
      obtain ⟨g6, hg6⟩ : ∃ u, u = w1.heap.size := ⟨_, rfl⟩
      rw [← hy2, ← hg6]
      have c2 : Below w1.heap.size w1 y2 := by rw [hy2]; exact belowB _ _
      have c60 : y2.heap[g6]? = some (.cells #[.int .i64 0, .bool false] 84 (0, 0)) := by rw [hy2, hg6]; exact heap_alloc_new w1 _
      have hg6w : w2.heap.size ≤ g6 := by rw [hg6]; exact B.size
      clear hy2 hg6
      have B := B.trans (c2.mono B.size)
      clear c2 hHeld
      have hHeld := KEEP _ B
      refine hK.out _ _ (L4.AllL.kept hHeld) ?_
      clear hK K
      (try simp only [Act.put, List.setIfInBounds_toArray, List.set_cons_zero, List.set_cons_succ])
      refine L4.late_step 10 (by kernel_rfl) rfl (fun K hK => ?_)
      have d60 := cell_of_row _ g6 0 _ _ _ c60
      have d61 := cell_of_row _ g6 1 _ _ _ c60
      have f60 := frozen_of_row _ g6 0 _ _ c60
      have f61 := frozen_of_row _ g6 1 _ _ c60
      go_simp
      have B := (B.setCell (p := ⟨g6, 0, none⟩) hg6w (.int .i64 z.1)).setCell (p := ⟨g6, 1, none⟩) hg6w (.bool z.2)
      obtain ⟨y3, hy3⟩ : ∃ u, u = (y2.setCell ⟨g6, 0, none⟩ (.int .i64 z.1)).setCell ⟨g6, 1, none⟩ (.bool z.2) := ⟨_, rfl⟩
      rw [← hy3] at B ⊢
      clear hy3 hHeld d60 d61 f60 f61 c60
      have hHeld := KEEP _ B
      refine hK.out _ _ (L4.AllL.kept hHeld) ?_
      clear hK K
      (try simp only [Act.put, List.setIfInBounds_toArray, List.set_cons_zero, List.set_cons_succ])
      refine L4.late_step 11 (by kernel_rfl) rfl (fun K hK => ?_)
      go_simp
      refine hK.out _ _ (L4.AllL.kept hHeld) ?_
      clear hK K
      (try simp only [Act.put, List.setIfInBounds_toArray, List.set_cons_zero, List.set_cons_succ])
      refine L4.late_done (by kernel_rfl) ?_ _
      have hres : Below w2.heap.size w2 y3 := B
      clear B KEEP LKU cb0 cb1 cb2 c40 c41 c50 c51 hHeld
      (try go_wp2_with fail)
      go_meet
      exact ⟨g6, rfl, rfl, hres⟩
    · go_simp
      obtain ⟨y4, hy4⟩ : ∃ u, u = w1.alloc (.cells #[.int .i64 0, .bool false] 84) := ⟨_, rfl⟩
      obtain ⟨g6, hg6⟩ : ∃ u, u = w1.heap.size := ⟨_, rfl⟩
      rw [← hy4, ← hg6]
      have c4 : Below w1.heap.size w1 y4 := by rw [hy4]; exact belowB _ _
      have c60 : y4.heap[g6]? = some (.cells #[.int .i64 0, .bool false] 84 (0, 0)) := by rw [hy4, hg6]; exact heap_alloc_new w1 _
      have hg6w : w2.heap.size ≤ g6 := by rw [hg6]; exact B.size
      clear hy4 hg6
      have B := B.trans (c4.mono B.size)
      clear c4 hHeld
      have hHeld := KEEP _ B
      refine hK.out _ _ (L4.AllL.kept hHeld) ?_
      clear hK K
      (try simp only [Act.put, List.setIfInBounds_toArray, List.set_cons_zero, List.set_cons_succ])
      refine L4.late_step 5 (by kernel_rfl) rfl (fun K hK => ?_)
      have hrun := LKU _ B
      go_simp
      clear hrun
      refine hK.out _ _ (L4.AllL.kept hHeld) ?_
      clear hK K
      (try simp only [Act.put, List.setIfInBounds_toArray, List.set_cons_zero, List.set_cons_succ])
      refine L4.late_free 6 (v := .tuple #[.agg #[.int .i64 z.1, .bool z.2], .bool f]) rfl (by kernel_rfl) (by kernel_rfl) (by kernel_rfl) (by kernel_rfl) (by kernel_rfl) (by kernel_rfl) (fun _ _ _ h => h) (Or.inl ⟨by rfl, ?_⟩) hHeld ?_
      · (intro u _; go_simp)
      (try simp only [Act.put, List.setIfInBounds_toArray, List.set_cons_zero, List.set_cons_succ])
      refine L4.late_free 7 (v := .agg #[.int .i64 z.1, .bool z.2]) rfl (by kernel_rfl) (by kernel_rfl) (by kernel_rfl) (by kernel_rfl) (by kernel_rfl) (by kernel_rfl) (fun _ _ _ h => h) (Or.inl ⟨by rfl, ?_⟩) hHeld ?_
      · (intro u _; go_simp)
      (try simp only [Act.put, List.setIfInBounds_toArray, List.set_cons_zero, List.set_cons_succ])
      refine L4.late_free 8 (v := .bool f) rfl (by kernel_rfl) (by kernel_rfl) (by kernel_rfl) (by kernel_rfl) (by kernel_rfl) (by kernel_rfl) (fun _ _ _ h => h) (Or.inl ⟨by rfl, ?_⟩) hHeld ?_
      · (intro u _; go_simp)
      (try simp only [Act.put, List.setIfInBounds_toArray, List.set_cons_zero, List.set_cons_succ])
      refine L4.late_step 10 (by kernel_rfl) rfl (fun K hK => ?_)
      have d60 := cell_of_row _ g6 0 _ _ _ c60
      have d61 := cell_of_row _ g6 1 _ _ _ c60
      have f60 := frozen_of_row _ g6 0 _ _ c60
      have f61 := frozen_of_row _ g6 1 _ _ c60
      go_simp
      have B := (B.setCell (p := ⟨g6, 0, none⟩) hg6w (.int .i64 z.1)).setCell (p := ⟨g6, 1, none⟩) hg6w (.bool z.2)
      obtain ⟨y5, hy5⟩ : ∃ u, u = (y4.setCell ⟨g6, 0, none⟩ (.int .i64 z.1)).setCell ⟨g6, 1, none⟩ (.bool z.2) := ⟨_, rfl⟩
      rw [← hy5] at B ⊢
      clear hy5 hHeld d60 d61 f60 f61 c60
      have hHeld := KEEP _ B
      refine hK.out _ _ (L4.AllL.kept hHeld) ?_
      clear hK K
      (try simp only [Act.put, List.setIfInBounds_toArray, List.set_cons_zero, List.set_cons_succ])
      refine L4.late_step 11 (by kernel_rfl) rfl (fun K hK => ?_)
      go_simp
      refine hK.out _ _ (L4.AllL.kept hHeld) ?_
      clear hK K
      (try simp only [Act.put, List.setIfInBounds_toArray, List.set_cons_zero, List.set_cons_succ])
      refine L4.late_done (by kernel_rfl) ?_ _
      have hres : Below w2.heap.size w2 y5 := B
      clear B KEEP LKU cb0 cb1 cb2 c40 c41 c50 c51 hHeld
      (try go_wp2_with fail)
      go_meet
      exact ⟨g6, rfl, rfl, hres⟩
  case rest =>
    obtain ⟨g6, rfl, rfl, hbc⟩ := hcut
    have HO3 : Hid (WkO B0 W0 wc rb gm gv (.slice oo on oc) L) := HO.out.below HB2.out hbc
    have HB3 : Hid (B0 ≤ wc.heap.size) := Nat.le_trans HB2.out hbc.size
    have HBC : Hid (Below w.heap.size w wc) := bstepB HW2.out hbc
    have K43 : Hid (wc.heap[g4]? = some (.cells #[.int .i64 p, .bool d] 84 (0, 0))) := (hbc.block g4 (Array.getElem?_eq_some_iff.1 K4.out).1).trans K4.out
    have K53 : Hid (wc.heap[g5]? = some (.cells #[.int .i64 p2, .bool d2] 84 (0, 0))) := (hbc.block g5 (Array.getElem?_eq_some_iff.1 K5.out).1).trans K5.out
    clear hbc LKU cb0 cb1 cb2 c40 c41 c50 c51 K4 K5 HO HB2 HW2
    cases f with
    | true =>
      have hin : ((p, d) : Stp) ∈ L.map (·.1) := of_decide_eq_true HF.out.symm
      have HIN : Hid (((p, d) : Stp) ∈ L.map (·.1)) := hin
      clear hin
      go_wp2
      go_end0
      refine ⟨rfl, oo, on, oc, ?_, FrP.of_below HBC.out, fun q hq => Or.inl hq⟩
      unfold rchP
      rw [if_pos HIN.out]
      exact HO3.out
    | false =>
      have hni : ((p, d) : Stp) ∉ L.map (·.1) := of_decide_eq_false HF.out.symm
      have HNI : Hid (((p, d) : Stp) ∉ L.map (·.1)) := hni
      clear hni
      obtain ⟨cb0, cb1, cb2⟩ := HO3.out.box.cells
      have c40 : wc.cell? ⟨g4, 0, none⟩ = some (.int .i64 p) := cell_of_row wc g4 0 _ _ _ K43.out
      have c41 : wc.cell? ⟨g4, 1, none⟩ = some (.bool d) := cell_of_row wc g4 1 _ _ _ K43.out
      have c50 : wc.cell? ⟨g5, 0, none⟩ = some (.int .i64 p2) := cell_of_row wc g5 0 _ _ _ K53.out
      have c51 : wc.cell? ⟨g5, 1, none⟩ = some (.bool d2) := cell_of_row wc g5 1 _ _ _ K53.out
      clear HF
      go_upto_region 3 with fail
      have KEEP : ∀ u, Below wc.heap.size wc u → L4.AllL u [(3, fun w' => w'.cell? ⟨rb, 1, none⟩ = some (.map (some gm))), (4, fun w' => w'.cell? ⟨g4, 0, none⟩ = some (.int .i64 p) ∧ w'.cell? ⟨g4, 1, none⟩ = some (.bool d)), (5, fun w' => w'.cell? ⟨g5, 0, none⟩ = some (.int .i64 p2) ∧ w'.cell? ⟨g5, 1, none⟩ = some (.bool d2))] := fun u hu => ⟨keepR hu cb1, ⟨keepR hu c40, keepR hu c41⟩, ⟨keepR hu c50, keepR hu c51⟩, trivial⟩
      refine L4.region_late [(3, fun w' => w'.cell? ⟨rb, 1, none⟩ = some (.map (some gm))), (4, fun w' => w'.cell? ⟨g4, 0, none⟩ = some (.int .i64 p) ∧ w'.cell? ⟨g4, 1, none⟩ = some (.bool d)), (5, fun w' => w'.cell? ⟨g5, 0, none⟩ = some (.int .i64 p2) ∧ w'.cell? ⟨g5, 1, none⟩ = some (.bool d2))] (by kernel_rfl) ?_
      have B : Below wc.heap.size wc wc.drew := (Below.refl _ _).drew
      obtain ⟨w6, hw6⟩ : ∃ u, u = wc.drew := ⟨_, rfl⟩
      rw [← hw6] at B ⊢
      clear hw6
      have hHeld := KEEP _ B
      refine L4.late_free 0 (v := .pointer (some ⟨rb, 0, none⟩)) rfl (by kernel_rfl) (by kernel_rfl) (by kernel_rfl) (by kernel_rfl) (by kernel_rfl) (by kernel_rfl) (fun _ _ _ h => h) (Or.inl ⟨by rfl, ?_⟩) hHeld ?_
      · (intro u _; go_simp)
      (try simp only [Act.put, List.setIfInBounds_toArray, List.set_cons_zero, List.set_cons_succ])
      refine L4.late_free 1 (v := .pointer (some ⟨rb, 0, none⟩)) rfl (by kernel_rfl) (by kernel_rfl) (by kernel_rfl) (by kernel_rfl) (by kernel_rfl) (by kernel_rfl) (fun _ _ _ h => h) (Or.inl ⟨by rfl, ?_⟩) hHeld ?_
      · (intro u _; go_simp)
      (try simp only [Act.put, List.setIfInBounds_toArray, List.set_cons_zero, List.set_cons_succ])
      refine L4.late_free 2 (v := .pointer (some ⟨rb, 1, none⟩)) rfl (by kernel_rfl) (by kernel_rfl) (by kernel_rfl) (by kernel_rfl) (by kernel_rfl) (by kernel_rfl) (fun _ _ _ h => h) (Or.inl ⟨by rfl, ?_⟩) hHeld ?_
      · (intro u _; go_simp)
      (try simp only [Act.put, List.setIfInBounds_toArray, List.set_cons_zero, List.set_cons_succ])
      refine L4.late_take 3 (v := .map (some gm)) rfl (by kernel_rfl) (List.Mem.head _) (by kernel_rfl) (by kernel_rfl) (by kernel_rfl) (by kernel_rfl) (fun _ _ _ h => h) (Or.inl ⟨by rfl, ?_⟩) hHeld ?_
      · (intro u hu; (try dsimp only at hu); go_split_ands; go_simp)
      (try simp only [Act.put, List.setIfInBounds_toArray, List.set_cons_zero, List.set_cons_succ])
      refine L4.late_take 4 (v := .agg #[.int .i64 p, .bool d]) rfl (by kernel_rfl) (List.Mem.tail _ (List.Mem.head _)) (by kernel_rfl) (by kernel_rfl) (by kernel_rfl) (by kernel_rfl) (fun _ _ _ h => h) (Or.inl ⟨by rfl, ?_⟩) hHeld ?_
      · (intro u hu; (try dsimp only at hu); go_split_ands; go_simp)
      (try simp only [Act.put, List.setIfInBounds_toArray, List.set_cons_zero, List.set_cons_succ])
      refine L4.late_take 5 (v := .agg #[.int .i64 p2, .bool d2]) rfl (by kernel_rfl) (List.Mem.tail _ (List.Mem.tail _ (List.Mem.head _))) (by kernel_rfl) (by kernel_rfl) (by kernel_rfl) (by kernel_rfl) (fun _ _ _ h => h) (Or.inl ⟨by rfl, ?_⟩) hHeld ?_
      · (intro u hu; (try dsimp only at hu); go_split_ands; go_simp)
      (try simp only [Act.put, List.setIfInBounds_toArray, List.set_cons_zero, List.set_cons_succ])
      refine L4.late_step 6 (by kernel_rfl) rfl (fun K hK => ?_)
      obtain ⟨y7, hrun0, hm2, hg2⟩ := (HO3.out.map.of_block (B.block gm HO3.out.map.lt)).put HNI.out ((p2, d2) : Stp)
      have hrun : (Instr.mapUpdate 79 (.map (some gm)) (.agg #[.int .i64 p, .bool d]) (.agg #[.int .i64 p2, .bool d2])).run Tryz.prog w6 = .ok () y7 := hrun0
      clear hrun0
      go_simp
      refine hK.out _ _ ⟨Or.inl ⟨6, by kernel_rfl, by kernel_rfl⟩, Or.inl ⟨6, by kernel_rfl, by kernel_rfl⟩, Or.inl ⟨6, by kernel_rfl, by kernel_rfl⟩, trivial⟩ ?_
      clear hK K hrun
      (try simp only [Act.put, List.setIfInBounds_toArray, List.set_cons_zero, List.set_cons_succ])
      refine L4.late_done (by kernel_rfl) ?_ _
      have hgr : FrP (fun q => q = gm) wc y7 := (FrP.of_below (S := fun q => q = gm) B).tr (FrP.of_grown hg2) (fun q _ e => (Option.some.inj e).symm)
      have hrbg : gm ≠ rb := fun e => HO3.out.map.ne HO3.out.box e
      have hog : ∀ q, (Value.slice oo on oc).ownBlock = some q → q ≠ gm := fun q hq e => by
        obtain ⟨cs, hc⟩ := HO3.out.row.blockE hq
        exact HO3.out.map.ne hc e.symm
      have HO4 : Hid (WkM B0 W0 y7 rb gm gv (.slice oo on oc) L (L ++ [(((p, d) : Stp), ((p2, d2) : Stp))])) := ⟨(hgr.block rb HO3.out.box.lt (fun e => hrbg e.symm)).trans HO3.out.box, hm2, HO3.out.row.of_blocks fun q hq => hgr.block q (HO3.out.row.lt q hq).2 (hog q hq), HO3.out.frm.trans (hgr.below HB3.out (fun q e => by rw [e]; exact HO3.out.hgm)), HO3.out.hrb, HO3.out.hgm⟩
      have HB4 : Hid (B0 ≤ y7.heap.size) := Nat.le_trans HB3.out hgr.size
      have hg4m : g4 ≠ gm := fun e => HO3.out.map.ne K43.out e.symm
      have K44 : Hid (y7.heap[g4]? = some (.cells #[.int .i64 p, .bool d] 84 (0, 0))) := (hgr.block g4 (Array.getElem?_eq_some_iff.1 K43.out).1 hg4m).trans K43.out
      have HF4 : Hid (FrP (WkS rb gm (.slice oo on oc)) w y7) := (FrP.of_below HBC.out).tr hgr (fun q _ e => Or.inr (Or.inl e))
      have HS4 : Hid (w.heap.size ≤ y7.heap.size) := Nat.le_trans HBC.out.size hgr.size
      have HN4 : Hid ((Value.slice oo on oc).ownBlock ≠ some g4) := fun e => by
        have h1 := HOW.out.row.lt g4 e
        have h2 := H4.out
        omega
      clear hgr hrbg hog hg4m hm2 hg2 B KEEP cb0 cb1 cb2 c40 c41 c50 c51 HO3 HB3 HBC K43 K53
      generalize y7 = w4 at *
      obtain ⟨cb0, cb1, cb2⟩ := HO4.out.box.cells
      have c40 : w4.cell? ⟨g4, 0, none⟩ = some (.int .i64 p) := cell_of_row w4 g4 0 _ _ _ K44.out
      have c41 : w4.cell? ⟨g4, 1, none⟩ = some (.bool d) := cell_of_row w4 g4 1 _ _ _ K44.out
      go_upto_region 4 with fail
      have KEEP : ∀ u, Below w4.heap.size w4 u → L4.AllL u [(4, fun w' => w'.cell? ⟨rb, 2, none⟩ = some (.slice oo on oc)), (5, fun w' => w'.cell? ⟨g4, 0, none⟩ = some (.int .i64 p) ∧ w'.cell? ⟨g4, 1, none⟩ = some (.bool d))] := fun u hu => ⟨keepR hu cb2, ⟨keepR hu c40, keepR hu c41⟩, trivial⟩
      refine L4.region_late [(4, fun w' => w'.cell? ⟨rb, 2, none⟩ = some (.slice oo on oc)), (5, fun w' => w'.cell? ⟨g4, 0, none⟩ = some (.int .i64 p) ∧ w'.cell? ⟨g4, 1, none⟩ = some (.bool d))] (by kernel_rfl) ?_
      have B : Below w4.heap.size w4 w4.drew := (Below.refl _ _).drew
      obtain ⟨w8, hw8⟩ : ∃ u, u = w4.drew := ⟨_, rfl⟩
      rw [← hw8] at B ⊢
      clear hw8
      have hHeld := KEEP _ B
      refine L4.late_free 0 (v := .pointer (some ⟨rb, 0, none⟩)) rfl (by kernel_rfl) (by kernel_rfl) (by kernel_rfl) (by kernel_rfl) (by kernel_rfl) (by kernel_rfl) (fun _ _ _ h => h) (Or.inl ⟨by rfl, ?_⟩) hHeld ?_
      · (intro u _; go_simp)
      (try simp only [Act.put, List.setIfInBounds_toArray, List.set_cons_zero, List.set_cons_succ])
      refine L4.late_free 1 (v := .pointer (some ⟨rb, 0, none⟩)) rfl (by kernel_rfl) (by kernel_rfl) (by kernel_rfl) (by kernel_rfl) (by kernel_rfl) (by kernel_rfl) (fun _ _ _ h => h) (Or.inl ⟨by rfl, ?_⟩) hHeld ?_
      · (intro u _; go_simp)
      (try simp only [Act.put, List.setIfInBounds_toArray, List.set_cons_zero, List.set_cons_succ])
      refine L4.late_free 2 (v := .pointer (some ⟨rb, 0, none⟩)) rfl (by kernel_rfl) (by kernel_rfl) (by kernel_rfl) (by kernel_rfl) (by kernel_rfl) (by kernel_rfl) (fun _ _ _ h => h) (Or.inl ⟨by rfl, ?_⟩) hHeld ?_
      · (intro u _; go_simp)
      (try simp only [Act.put, List.setIfInBounds_toArray, List.set_cons_zero, List.set_cons_succ])
      refine L4.late_free 3 (v := .pointer (some ⟨rb, 2, none⟩)) rfl (by kernel_rfl) (by kernel_rfl) (by kernel_rfl) (by kernel_rfl) (by kernel_rfl) (by kernel_rfl) (fun _ _ _ h => h) (Or.inl ⟨by rfl, ?_⟩) hHeld ?_
      · (intro u _; go_simp)
      (try simp only [Act.put, List.setIfInBounds_toArray, List.set_cons_zero, List.set_cons_succ])
      refine L4.late_take 4 (v := .slice oo on oc) rfl (by kernel_rfl) (List.Mem.head _) (by kernel_rfl) (by kernel_rfl) (by kernel_rfl) (by kernel_rfl) (fun _ _ _ h => h) (Or.inl ⟨by rfl, ?_⟩) hHeld ?_
      · (intro u hu; (try dsimp only at hu); go_split_ands; go_simp)
      (try simp only [Act.put, List.setIfInBounds_toArray, List.set_cons_zero, List.set_cons_succ])
      refine L4.late_take 5 (v := .agg #[.int .i64 p, .bool d]) rfl (by kernel_rfl) (List.Mem.tail _ (List.Mem.head _)) (by kernel_rfl) (by kernel_rfl) (by kernel_rfl) (by kernel_rfl) (fun _ _ _ h => h) (Or.inl ⟨by rfl, ?_⟩) hHeld ?_
      · (intro u hu; (try dsimp only at hu); go_split_ands; go_simp)
      (try simp only [Act.put, List.setIfInBounds_toArray, List.set_cons_zero, List.set_cons_succ])
      refine L4.late_step 6 (by kernel_rfl) rfl (fun K hK => ?_)
      go_simp
      obtain ⟨y9, hy9⟩ : ∃ u, u = w8.alloc (.cells #[.int .i64 p, .bool d] 84) := ⟨_, rfl⟩
      obtain ⟨gb, hgb⟩ : ∃ u, u = w8.heap.size := ⟨_, rfl⟩
      rw [← hy9, ← hgb]
      have c9 : Below w8.heap.size w8 y9 := by rw [hy9]; exact belowB _ _
      have cb : y9.cell? ⟨gb, 0, none⟩ = some (.int .i64 p) ∧ y9.cell? ⟨gb, 1, none⟩ = some (.bool d) := ⟨by rw [hy9, hgb, World.cell?_alloc_at _ _ _ _ rfl]; rfl, by rw [hy9, hgb, World.cell?_alloc_at _ _ _ _ rfl]; rfl⟩
      clear hy9 hgb
      have B := B.trans (c9.mono B.size)
      clear c9 hHeld
      have hHeld := KEEP _ B
      refine hK.out _ _ (L4.AllL.kept hHeld) ?_
      clear hK K
      (try simp only [Act.put, List.setIfInBounds_toArray, List.set_cons_zero, List.set_cons_succ])
      refine L4.late_step 7 (by kernel_rfl) rfl (fun K hK => ?_)
      refine want_yesD rfl ?_
      have hown := HO4.out.row.below B
      have hown' : y9.ownsRow B0 84 2 (.slice oo on oc) on (flS (L.map (·.1))) := by have := hown; unfold OS at this; rw [← HON.out] at this; exact this
      refine wp_append_lies _ _ _ 80 rfl B0 84 i0 (.agg #[.int .i64 0, .bool false]) 2 16 Tryz.underlying80 hi hz0 hz1 hz2 rfl (by decide) (.slice oo on oc) on _ rfl hown' ⟨gb, 0, none⟩ 1 1 [.int .i64 p, .bool d] rfl rfl (fun j u hj => by match j, hj with
        | 0, hj => simp at hj; subst hj; rw [Addr.add_lit, Nat.add_zero]; exact cb.1
        | 1, hj => simp at hj; subst hj; rw [Addr.add_lit]; exact cb.2) (by simp [Value.oneCell']) (by decide) (by unfold maxLen; omega) (by omega) (Nat.le_trans HB4.out B.size) _ rfl ?_
      intro ng ncap y10 ho2 hg2 hgg hlt9
      have HO2 : Hid (OS B0 y10 (.slice (some ⟨ng, 0, none⟩) (on + 1) ncap) (L.map (·.1) ++ [((p, d) : Stp)])) := by show OS _ _ _ _; unfold OS; rw [List.length_append, List.length_singleton, ← HON.out, flS_app]; exact ho2
      have HNG : Hid ((Value.slice oo on oc).ownBlock = some ng ∨ ng ≥ w4.heap.size) := hgg.elim Or.inl (fun e => Or.inr (by rw [e]; exact B.size))
      have hrbn : (Value.slice oo on oc).ownBlock ≠ some rb := fun e => by obtain ⟨cs, hc⟩ := HO4.out.row.blockE e; have h9 := HO4.out.box; unfold BCell at h9; rw [hc] at h9; simp at h9
      have HBX : Hid (BCell 82 y10 rb gv (.map (some gm)) (.slice oo on oc)) := by show BCell _ _ _ _ _ _; unfold BCell; rw [hg2.block rb (Nat.lt_of_lt_of_le HO4.out.box.lt B.size) (fun e => hrbn e.symm), B.block rb HO4.out.box.lt]; exact HO4.out.box
      have hgmn : (Value.slice oo on oc).ownBlock ≠ some gm := fun e => by obtain ⟨cs, hc⟩ := HO4.out.row.blockE e; exact HO4.out.map.ne hc rfl
      have HMP : Hid (MpS y10 gm (L ++ [(((p, d) : Stp), ((p2, d2) : Stp))])) := HO4.out.map.of_block (by rw [hg2.block gm (Nat.lt_of_lt_of_le HO4.out.map.lt B.size) (fun e => hgmn e.symm), B.block gm HO4.out.map.lt])
      have HFR : Hid (FrP (WkS rb gm (.slice oo on oc)) w4 y10) := (FrP.of_below B).tr (FrP.of_grown hg2) (fun q _ e => Or.inr (Or.inr e))
      have HBB : Hid (Below B0 W0 y10) := (hown.grown (HO4.out.frm.trans (B.mono HB4.out)) (Nat.le_trans HB4.out B.size) hg2)
      have cr9 := HBX.out.cells.2.2
      have cp9 : y10.cell? ⟨g4, 0, none⟩ = some (.int .i64 p) ∧ y10.cell? ⟨g4, 1, none⟩ = some (.bool d) := by
        have e4 : y10.heap[g4]? = some (.cells #[.int .i64 p, .bool d] 84 (0, 0)) := by rw [hg2.block g4 (Nat.lt_of_lt_of_le (Array.getElem?_eq_some_iff.1 K44.out).1 B.size) (fun e => HN4.out e.symm), B.block g4 (Array.getElem?_eq_some_iff.1 K44.out).1]; exact K44.out
        exact ⟨cell_of_row _ g4 0 _ _ _ e4, cell_of_row _ g4 1 _ _ _ e4⟩
      clear hHeld hown hown' ho2 hg2 hgg hlt9 B cb hrbn hgmn
      have hHeld : L4.AllL y10 [(4, fun w' => w'.cell? ⟨rb, 2, none⟩ = some (.slice oo on oc)), (5, fun w' => w'.cell? ⟨g4, 0, none⟩ = some (.int .i64 p) ∧ w'.cell? ⟨g4, 1, none⟩ = some (.bool d))] := ⟨cr9, cp9, trivial⟩
      refine hK.out _ _ (L4.AllL.kept hHeld) ?_
      clear hK K
      (try simp only [Act.put, List.setIfInBounds_toArray, List.set_cons_zero, List.set_cons_succ])
      refine L4.late_free 8 (v := .pointer (some ⟨rb, 0, none⟩)) rfl (by kernel_rfl) (by kernel_rfl) (by kernel_rfl) (by kernel_rfl) (by kernel_rfl) (by kernel_rfl) (fun _ _ _ h => h) (Or.inl ⟨by rfl, ?_⟩) hHeld ?_
      · (intro u _; go_simp)
      (try simp only [Act.put, List.setIfInBounds_toArray, List.set_cons_zero, List.set_cons_succ])
      refine L4.late_free 9 (v := .pointer (some ⟨rb, 2, none⟩)) rfl (by kernel_rfl) (by kernel_rfl) (by kernel_rfl) (by kernel_rfl) (by kernel_rfl) (by kernel_rfl) (fun _ _ _ h => h) (Or.inl ⟨by rfl, ?_⟩) hHeld ?_
      · (intro u _; go_simp)
      (try simp only [Act.put, List.setIfInBounds_toArray, List.set_cons_zero, List.set_cons_succ])
      refine L4.late_step 10 (by kernel_rfl) rfl (fun K hK => ?_)
      have f9 := HBX.out.thaw 2
      go_simp
      refine hK.out _ _ ⟨Or.inl ⟨10, by kernel_rfl, by kernel_rfl⟩, Or.inl ⟨10, by kernel_rfl, by kernel_rfl⟩, trivial⟩ ?_
      clear hK K
      (try simp only [Act.put, List.setIfInBounds_toArray, List.set_cons_zero, List.set_cons_succ])
      refine L4.late_done (by kernel_rfl) ?_ _
      have HR : Hid (WkO B0 W0 (y10.setCell ⟨rb, 2, none⟩ (.slice (some ⟨ng, 0, none⟩) (on + 1) ncap)) rb gm gv (.slice (some ⟨ng, 0, none⟩) (on + 1) ncap) (L ++ [(((p, d) : Stp), ((p2, d2) : Stp))]) ∧ FrP (WkS rb gm (.slice oo on oc)) w4 (y10.setCell ⟨rb, 2, none⟩ (.slice (some ⟨ng, 0, none⟩) (on + 1) ncap))) := by
        refine ⟨⟨?_, ?_, ?_, ?_, HO4.out.hrb, HO4.out.hgm⟩, HFR.out.put _ _ (fun _ => Or.inl rfl)⟩
        · unfold BCell
          rw [heap_setCell_same y10 rb 2 _ _ _ HBX.out]; rfl
        · exact HMP.out.of_block (Below.heap_setCell _ _ _ _ (fun e => HMP.out.ne HBX.out e))
        · rw [List.map_append]
          exact HO2.out.of_blocks fun q hq => Below.heap_setCell _ _ _ _ (fun e => by
            have e2 : q = rb := e
            obtain ⟨cs, hc⟩ := HO2.out.blockE hq
            have h9 := HBX.out
            unfold BCell at h9
            rw [e2, h9] at hc
            simp at hc)
        · exact HBB.out.setCell (p := ⟨rb, 2, none⟩) HO4.out.hrb _
      clear HO2 HBX HFR HMP HBB cr9 cp9 f9 KEEP
      go_wp2
      go_end0
      refine ⟨rfl, some ⟨ng, 0, none⟩, on + 1, ncap, ?_, ?_, ?_⟩
      · unfold rchP; rw [if_neg HNI.out]; exact HR.out.1
      · exact HF4.out.tr HR.out.2 (fun q _ e => e)
      · intro q hq
        have e1 : ng = q := by simpa [Value.ownBlock] using hq
        subst e1
        exact HNG.out.elim Or.inl (fun e => Or.inr (Nat.le_trans HS4.out e))
end Go.Proofs.YthdpomgpcblpeaaGreat
