/-
  Proved here: the law's kept at int: what was handed in is as it was, and the room behind it.
-/
import Derived.Test.YtphbbkckigdgoaaFmC
namespace Go.Proofs.Ytphbbkckigdgoaa
set_option linter.unusedVariables false
open Go.RowKit Go.Shelf Go.Lib Go.Sort
theorem RoomB.mark {B : Nat} {w : World} {g n cap : Nat} {zs : List Int} {m : Int} (h : RoomB B w (.slice (some ⟨g, 0, none⟩) n cap) zs m) {k : Nat} (hk : k < 4) : zs.length = n ∧ n + 4 ≤ cap ∧ cap ≤ 9223372036854775807 ∧ w.cell? ⟨g, n + k, none⟩ = some (.int .i64 m) := by
  obtain ⟨g', cap', e, h2⟩ := h
  simp only [Value.slice.injEq, Option.some.injEq, Addr.mk.injEq, and_true] at e
  obtain ⟨rfl, rfl, rfl⟩ := e
  obtain ⟨ao, cap2, e2, -, h4, h5, -⟩ := h2.sl
  rw [List.length_append, List.length_replicate] at e2 h4
  simp only [Value.slice.injEq] at e2
  obtain ⟨-, -, rfl⟩ := e2
  unfold maxLen at h5
  refine ⟨rfl, h4, by omega, (h2.cell ?_).1⟩
  rw [List.getElem?_append_right (by omega), List.getElem?_replicate, if_pos (by omega)]
theorem RoomB.form {B : Nat} {w : World} {u : Value} {zs : List Int} {m : Int} (h : RoomB B w u zs m) : ∃ g n cap, u = .slice (some ⟨g, 0, none⟩) n cap := by
  obtain ⟨g, cap, rfl, -⟩ := h
  exact ⟨_, _, _, rfl⟩
theorem RoomB.rk {B : Nat} {w w' : World} {u v : Value} {zs : List Int} {m : Int} (h : RoomB B w u zs m) (hv : RK .i64 w' v zs) : RK .i64 w u zs := by
  obtain ⟨_, _, _, _, _, _, hb, _⟩ := hv
  exact h.rg.rk hb
set_option maxRecDepth 100000 in
set_option maxHeartbeats 12800000 in
theorem kept13 (B0 : Nat) (u1 u2 u3 s z c : Value) (xs zs cs : List Int) (w : World) (h1 : RoomB B0 w u1 xs 77) (h2 : RoomB B0 w u2 zs 78) (h3 : RoomB B0 w u3 cs 99) (hs : RK .i64 w s xs) (hz : RK .i64 w z zs) (hc : RK .i64 w c cs) :
    Calls Try.prog 11 #[.iface 41 (.agg #[]), .agg #[u1, u2, u3], .agg #[s, z, c], .int .i64 99] w fun e w' => e = .returned (.bool true) ∧ Below w.heap.size w w' := by
  obtain ⟨p1, n1, k1, rfl⟩ := h1.form
  obtain ⟨p2, n2, k2, rfl⟩ := h2.form
  obtain ⟨p3, n3, k3, rfl⟩ := h3.form
  obtain ⟨sO, sN, sC, rfl⟩ : ∃ o n k, s = .slice o n k := by obtain ⟨ao, cap, e⟩ := hs.rg.sl; exact ⟨_, _, _, e⟩
  obtain ⟨zO, zN, zC, rfl⟩ : ∃ o n k, z = .slice o n k := by obtain ⟨ao, cap, e⟩ := hz.rg.sl; exact ⟨_, _, _, e⟩
  obtain ⟨cO, cN, cC, rfl⟩ : ∃ o n k, c = .slice o n k := by obtain ⟨ao, cap, e⟩ := hc.rg.sl; exact ⟨_, _, _, e⟩
  obtain ⟨l1, r1, t1, -⟩ := h1.mark (k := 0) (by omega)
  obtain ⟨l2, r2, t2, -⟩ := h2.mark (k := 0) (by omega)
  obtain ⟨l3, r3, t3, -⟩ := h3.mark (k := 0) (by omega)
  have e1 : sN = n1 := by rw [← l1]; exact hs.rg.len.symm
  have e2 : zN = n2 := by rw [← l2]; exact hz.rg.len.symm
  have e3 : cN = n3 := by rw [← l3]; exact hc.rg.len.symm
  subst e1 e2 e3
  have H1 : Hid (RoomB B0 w (.slice (some ⟨p1, 0, none⟩) sN k1) xs 77) := h1
  have H2 : Hid (RoomB B0 w (.slice (some ⟨p2, 0, none⟩) zN k2) zs 78) := h2
  have H3 : Hid (RoomB B0 w (.slice (some ⟨p3, 0, none⟩) cN k3) cs 99) := h3
  have HS : Hid (RK .i64 w (.slice sO sN sC) xs) := hs
  have HZ : Hid (RK .i64 w (.slice zO zN zC) zs) := hz
  have HC : Hid (RK .i64 w (.slice cO cN cC) cs) := hc
  clear h1 h2 h3 hs hz hc l1 l2 l3
  obtain ⟨W1, hW1⟩ : ∃ W1, W1 = (w.alloc (.cells #[.slice (some ⟨p1, 0, none⟩) sN k1, .slice (some ⟨p2, 0, none⟩) zN k2, .slice (some ⟨p3, 0, none⟩) cN k3] 24)).alloc (.cells #[.slice sO sN sC, .slice zO zN zC, .slice cO cN cC] 24) := ⟨_, rfl⟩
  obtain ⟨g, hg⟩ : ∃ g, g = w.heap.size := ⟨_, rfl⟩
  have HQA : Hid (BCell 24 W1 g (.slice (some ⟨p1, 0, none⟩) sN k1) (.slice (some ⟨p2, 0, none⟩) zN k2) (.slice (some ⟨p3, 0, none⟩) cN k3)) := by show BCell _ _ _ _ _ _; rw [hW1]; exact (BCell.new w hg.symm).step _
  have HQB : Hid (BCell 24 W1 (g + 1) (.slice sO sN sC) (.slice zO zN zC) (.slice cO cN cC)) := by show BCell _ _ _ _ _ _; rw [hW1]; exact BCell.new _ (by simp [hg])
  have HB0 : Hid (Below w.heap.size w W1) := by show Below _ _ _; rw [hW1]; exact bstepB (belowB w _) (belowB _ _)
  have HW1 : Hid (W1 = (w.alloc (.cells #[.slice (some ⟨p1, 0, none⟩) sN k1, .slice (some ⟨p2, 0, none⟩) zN k2, .slice (some ⟨p3, 0, none⟩) cN k3] 24)).alloc (.cells #[.slice sO sN sC, .slice zO zN zC, .slice cO cN cC] 24)) := hW1
  have HG : Hid (g = w.heap.size) := hg
  clear hW1 hg
  have ne1 : ((sN : Int) != (sN : Int)) = false := by simp
  have ne2 : ((zN : Int) != (zN : Int)) = false := by simp
  have ne3 : ((cN : Int) != (cN : Int)) = false := by simp
  have a1 : (sN : Int) + 4 ≤ (k1 : Int) := by omega
  have a2 : (zN : Int) + 4 ≤ (k2 : Int) := by omega
  have a3 : (cN : Int) + 4 ≤ (k3 : Int) := by omega
  go_enter Try.func11, Try.ntmps11
  go_upto_region 1 with fail
  rw [← HW1.out, ← HG.out]
  clear HW1
  obtain ⟨ca0, ca1, ca2⟩ := HQA.out.cells
  obtain ⟨cb0, cb1, cb2⟩ := HQB.out.cells
  go_wp2
  clear ca0 ca1 ca2 cb0 cb1 cb2 ne1 ne2 ne3
  go_loopg [12] 4 (fun g1 v12 wr => ∃ k : Nat, v12 = .int .i64 k ∧ k ≤ 4 ∧ 4 - k ≤ g1 ∧ Hid (Below W1.heap.size W1 wr))
  case atStart => exact ⟨0, rfl, by omega, by omega, Below.refl _ _⟩
  case round =>
    obtain ⟨k, rfl, hk4, hg1, HBW⟩ := hrel
    by_cases hlt : k < 4
    · have hltz : (k : Int) < 4 := by omega
      have bw : Below w.heap.size w wr := bstepB HB0.out HBW.out
      obtain ⟨cb0, cb1, cb2⟩ := (HQB.out.below HBW.out).cells
      have c1 := keepR bw (H1.out.mark hlt).2.2.2
      have c2 := keepR bw (H2.out.mark hlt).2.2.2
      have c3 := keepR bw (H3.out.mark hlt).2.2.2
      have hmeth := mIntsSameF
      have hent := entIntsSameF
      have hnl := nlIntsSameF
      have x1 : (sN : Int) + (k : Int) < (sN : Int) + 4 := by omega
      have x2 : (zN : Int) + (k : Int) < (zN : Int) + 4 := by omega
      have x3 : (cN : Int) + (k : Int) < (cN : Int) + 4 := by omega
      have fw1 : IntKind.i64.wrap ((sN : Int) + (k : Int)) = (sN : Int) + (k : Int) := by rw [IntKind.wrap_i64]; omega
      have fy1 : (0 : Int) ≤ (sN : Int) + (k : Int) := by omega
      have fz1 : ((sN : Int) + (k : Int)).toNat = sN + k := by omega
      have fw2 : IntKind.i64.wrap ((zN : Int) + (k : Int)) = (zN : Int) + (k : Int) := by rw [IntKind.wrap_i64]; omega
      have fy2 : (0 : Int) ≤ (zN : Int) + (k : Int) := by omega
      have fz2 : ((zN : Int) + (k : Int)).toNat = zN + k := by omega
      have fw3 : IntKind.i64.wrap ((cN : Int) + (k : Int)) = (cN : Int) + (k : Int) := by rw [IntKind.wrap_i64]; omega
      have fy3 : (0 : Int) ≤ (cN : Int) + (k : Int) := by omega
      have fz3 : ((cN : Int) + (k : Int)).toNat = cN + k := by omega
      clear bw
      go_upto_region 9 with fail
      have KEEP : ∀ u, Below wr.heap.size wr u → L4.AllL u [(2, fun w' => w'.cell? ⟨g + 1, 0, none⟩ = some (.slice sO sN sC)), (7, fun w' => w'.cell? ⟨p1, sN + k, none⟩ = some (.int .i64 77)), (12, fun w' => w'.cell? ⟨g + 1, 1, none⟩ = some (.slice zO zN zC)), (17, fun w' => w'.cell? ⟨p2, zN + k, none⟩ = some (.int .i64 78)), (24, fun w' => w'.cell? ⟨g + 1, 2, none⟩ = some (.slice cO cN cC)), (29, fun w' => w'.cell? ⟨p3, cN + k, none⟩ = some (.int .i64 99))] := fun u hu => ⟨keepR hu cb0, keepR hu c1, keepR hu cb1, keepR hu c2, keepR hu cb2, keepR hu c3, trivial⟩
      refine L4.region_late [(2, fun w' => w'.cell? ⟨g + 1, 0, none⟩ = some (.slice sO sN sC)), (7, fun w' => w'.cell? ⟨p1, sN + k, none⟩ = some (.int .i64 77)), (12, fun w' => w'.cell? ⟨g + 1, 1, none⟩ = some (.slice zO zN zC)), (17, fun w' => w'.cell? ⟨p2, zN + k, none⟩ = some (.int .i64 78)), (24, fun w' => w'.cell? ⟨g + 1, 2, none⟩ = some (.slice cO cN cC)), (29, fun w' => w'.cell? ⟨p3, cN + k, none⟩ = some (.int .i64 99))] (by kernel_rfl) ?_
      have B : Below wr.heap.size wr wr.drew := (Below.refl _ _).drew
      obtain ⟨w1, hw1⟩ : ∃ u, u = wr.drew := ⟨_, rfl⟩
      rw [← hw1] at B ⊢
      clear hw1
      have hHeld := KEEP _ B
      refine L4.late_free 0 (v := .slice (some ⟨p1, 0, none⟩) (sN + 4) k1) rfl (by kernel_rfl) (by kernel_rfl) (by kernel_rfl) (by kernel_rfl) (by kernel_rfl) (by kernel_rfl) (fun _ _ _ h => h) (Or.inl ⟨by rfl, ?_⟩) hHeld ?_
      · (intro u _; go_simp)
      (try simp only [Act.put, List.setIfInBounds_toArray, List.set_cons_zero, List.set_cons_succ])
      refine L4.late_free 1 (v := .pointer (some ⟨g + 1, 0, none⟩)) rfl (by kernel_rfl) (by kernel_rfl) (by kernel_rfl) (by kernel_rfl) (by kernel_rfl) (by kernel_rfl) (fun _ _ _ h => h) (Or.inl ⟨by rfl, ?_⟩) hHeld ?_
      · (intro u _; go_simp)
      (try simp only [Act.put, List.setIfInBounds_toArray, List.set_cons_zero, List.set_cons_succ])
      refine L4.late_take 2 (v := .slice sO sN sC) rfl (by kernel_rfl) (List.Mem.head _) (by kernel_rfl) (by kernel_rfl) (by kernel_rfl) (by kernel_rfl) (fun _ _ _ h => h) (Or.inl ⟨by rfl, ?_⟩) hHeld ?_
      · (intro u hu; (try dsimp only at hu); go_split_ands; go_simp)
      (try simp only [Act.put, List.setIfInBounds_toArray, List.set_cons_zero, List.set_cons_succ])
      refine L4.late_free 3 (v := .int .i64 ((sN : Nat) : Int)) rfl (by kernel_rfl) (by kernel_rfl) (by kernel_rfl) (by kernel_rfl) (by kernel_rfl) (by kernel_rfl) (fun _ _ _ h => h) (Or.inl ⟨by rfl, ?_⟩) hHeld ?_
      · (intro u _; go_simp)
      (try simp only [Act.put, List.setIfInBounds_toArray, List.set_cons_zero, List.set_cons_succ])
      refine L4.late_free 4 (v := .int .i64 ((k : Nat) : Int)) rfl (by kernel_rfl) (by kernel_rfl) (by kernel_rfl) (by kernel_rfl) (by kernel_rfl) (by kernel_rfl) (fun _ _ _ h => h) (Or.inl ⟨by rfl, ?_⟩) hHeld ?_
      · (intro u _; go_simp)
      (try simp only [Act.put, List.setIfInBounds_toArray, List.set_cons_zero, List.set_cons_succ])
      refine L4.late_free 5 (v := .int .i64 ((sN : Int) + (k : Int))) rfl (by kernel_rfl) (by kernel_rfl) (by kernel_rfl) (by kernel_rfl) (by kernel_rfl) (by kernel_rfl) (fun _ _ _ h => h) (Or.inl ⟨by rfl, ?_⟩) hHeld ?_
      · (intro u _; go_simp)
      (try simp only [Act.put, List.setIfInBounds_toArray, List.set_cons_zero, List.set_cons_succ])
      refine L4.late_free 6 (v := .pointer (some ⟨p1, sN + k, none⟩)) rfl (by kernel_rfl) (by kernel_rfl) (by kernel_rfl) (by kernel_rfl) (by kernel_rfl) (by kernel_rfl) (fun _ _ _ h => h) (Or.inl ⟨by rfl, ?_⟩) hHeld ?_
      · (intro u _; go_simp)
      (try simp only [Act.put, List.setIfInBounds_toArray, List.set_cons_zero, List.set_cons_succ])
      refine L4.late_take 7 (v := .int .i64 77) rfl (by kernel_rfl) (List.Mem.tail _ (List.Mem.head _)) (by kernel_rfl) (by kernel_rfl) (by kernel_rfl) (by kernel_rfl) (fun _ _ _ h => h) (Or.inl ⟨by rfl, ?_⟩) hHeld ?_
      · (intro u hu; (try dsimp only at hu); go_split_ands; go_simp)
      (try simp only [Act.put, List.setIfInBounds_toArray, List.set_cons_zero, List.set_cons_succ])
      refine L4.late_free 8 (v := .bool false) rfl (by kernel_rfl) (by kernel_rfl) (by kernel_rfl) (by kernel_rfl) (by kernel_rfl) (by kernel_rfl) (fun _ _ _ h => h) (Or.inl ⟨by rfl, ?_⟩) hHeld ?_
      · (intro u _; go_simp)
      (try simp only [Act.put, List.setIfInBounds_toArray, List.set_cons_zero, List.set_cons_succ])
      refine L4.late_free 9 (v := .bool false) rfl (by kernel_rfl) (by kernel_rfl) (by kernel_rfl) (by kernel_rfl) (by kernel_rfl) (by kernel_rfl) (fun _ _ _ h => h) (Or.inl ⟨by rfl, ?_⟩) hHeld ?_
      · (intro u _; go_simp)
      (try simp only [Act.put, List.setIfInBounds_toArray, List.set_cons_zero, List.set_cons_succ])
      refine L4.late_free 10 (v := .slice (some ⟨p2, 0, none⟩) (zN + 4) k2) rfl (by kernel_rfl) (by kernel_rfl) (by kernel_rfl) (by kernel_rfl) (by kernel_rfl) (by kernel_rfl) (fun _ _ _ h => h) (Or.inl ⟨by rfl, ?_⟩) hHeld ?_
      · (intro u _; go_simp)
      (try simp only [Act.put, List.setIfInBounds_toArray, List.set_cons_zero, List.set_cons_succ])
      refine L4.late_free 11 (v := .pointer (some ⟨g + 1, 1, none⟩)) rfl (by kernel_rfl) (by kernel_rfl) (by kernel_rfl) (by kernel_rfl) (by kernel_rfl) (by kernel_rfl) (fun _ _ _ h => h) (Or.inl ⟨by rfl, ?_⟩) hHeld ?_
      · (intro u _; go_simp)
      (try simp only [Act.put, List.setIfInBounds_toArray, List.set_cons_zero, List.set_cons_succ])
      refine L4.late_take 12 (v := .slice zO zN zC) rfl (by kernel_rfl) (List.Mem.tail _ (List.Mem.tail _ (List.Mem.head _))) (by kernel_rfl) (by kernel_rfl) (by kernel_rfl) (by kernel_rfl) (fun _ _ _ h => h) (Or.inl ⟨by rfl, ?_⟩) hHeld ?_
      · (intro u hu; (try dsimp only at hu); go_split_ands; go_simp)
      (try simp only [Act.put, List.setIfInBounds_toArray, List.set_cons_zero, List.set_cons_succ])
      refine L4.late_free 13 (v := .int .i64 ((zN : Nat) : Int)) rfl (by kernel_rfl) (by kernel_rfl) (by kernel_rfl) (by kernel_rfl) (by kernel_rfl) (by kernel_rfl) (fun _ _ _ h => h) (Or.inl ⟨by rfl, ?_⟩) hHeld ?_
      · (intro u _; go_simp)
      (try simp only [Act.put, List.setIfInBounds_toArray, List.set_cons_zero, List.set_cons_succ])
      refine L4.late_free 14 (v := .int .i64 ((k : Nat) : Int)) rfl (by kernel_rfl) (by kernel_rfl) (by kernel_rfl) (by kernel_rfl) (by kernel_rfl) (by kernel_rfl) (fun _ _ _ h => h) (Or.inl ⟨by rfl, ?_⟩) hHeld ?_
      · (intro u _; go_simp)
      (try simp only [Act.put, List.setIfInBounds_toArray, List.set_cons_zero, List.set_cons_succ])
      refine L4.late_free 15 (v := .int .i64 ((zN : Int) + (k : Int))) rfl (by kernel_rfl) (by kernel_rfl) (by kernel_rfl) (by kernel_rfl) (by kernel_rfl) (by kernel_rfl) (fun _ _ _ h => h) (Or.inl ⟨by rfl, ?_⟩) hHeld ?_
      · (intro u _; go_simp)
      (try simp only [Act.put, List.setIfInBounds_toArray, List.set_cons_zero, List.set_cons_succ])
      refine L4.late_free 16 (v := .pointer (some ⟨p2, zN + k, none⟩)) rfl (by kernel_rfl) (by kernel_rfl) (by kernel_rfl) (by kernel_rfl) (by kernel_rfl) (by kernel_rfl) (fun _ _ _ h => h) (Or.inl ⟨by rfl, ?_⟩) hHeld ?_
      · (intro u _; go_simp)
      (try simp only [Act.put, List.setIfInBounds_toArray, List.set_cons_zero, List.set_cons_succ])
      refine L4.late_take 17 (v := .int .i64 78) rfl (by kernel_rfl) (List.Mem.tail _ (List.Mem.tail _ (List.Mem.tail _ (List.Mem.head _)))) (by kernel_rfl) (by kernel_rfl) (by kernel_rfl) (by kernel_rfl) (fun _ _ _ h => h) (Or.inl ⟨by rfl, ?_⟩) hHeld ?_
      · (intro u hu; (try dsimp only at hu); go_split_ands; go_simp)
      (try simp only [Act.put, List.setIfInBounds_toArray, List.set_cons_zero, List.set_cons_succ])
      refine L4.late_free 18 (v := .bool false) rfl (by kernel_rfl) (by kernel_rfl) (by kernel_rfl) (by kernel_rfl) (by kernel_rfl) (by kernel_rfl) (fun _ _ _ h => h) (Or.inl ⟨by rfl, ?_⟩) hHeld ?_
      · (intro u _; go_simp)
      (try simp only [Act.put, List.setIfInBounds_toArray, List.set_cons_zero, List.set_cons_succ])
      refine L4.late_free 19 (v := .bool false) rfl (by kernel_rfl) (by kernel_rfl) (by kernel_rfl) (by kernel_rfl) (by kernel_rfl) (by kernel_rfl) (fun _ _ _ h => h) (Or.inl ⟨by rfl, ?_⟩) hHeld ?_
      · (intro u _; go_simp)
      (try simp only [Act.put, List.setIfInBounds_toArray, List.set_cons_zero, List.set_cons_succ])
      refine L4.late_free 20 (v := .bool false) rfl (by kernel_rfl) (by kernel_rfl) (by kernel_rfl) (by kernel_rfl) (by kernel_rfl) (by kernel_rfl) (fun _ _ _ h => h) (Or.inl ⟨by rfl, ?_⟩) hHeld ?_
      · (intro u _; go_simp)
      (try simp only [Act.put, List.setIfInBounds_toArray, List.set_cons_zero, List.set_cons_succ])
      refine L4.late_free 21 (v := .iface 41 (.agg #[])) rfl (by kernel_rfl) (by kernel_rfl) (by kernel_rfl) (by kernel_rfl) (by kernel_rfl) (by kernel_rfl) (fun _ _ _ h => h) (Or.inl ⟨by rfl, ?_⟩) hHeld ?_
      · (intro u _; go_simp)
      (try simp only [Act.put, List.setIfInBounds_toArray, List.set_cons_zero, List.set_cons_succ])
      refine L4.late_free 22 (v := .slice (some ⟨p3, 0, none⟩) (cN + 4) k3) rfl (by kernel_rfl) (by kernel_rfl) (by kernel_rfl) (by kernel_rfl) (by kernel_rfl) (by kernel_rfl) (fun _ _ _ h => h) (Or.inl ⟨by rfl, ?_⟩) hHeld ?_
      · (intro u _; go_simp)
      (try simp only [Act.put, List.setIfInBounds_toArray, List.set_cons_zero, List.set_cons_succ])
      refine L4.late_free 23 (v := .pointer (some ⟨g + 1, 2, none⟩)) rfl (by kernel_rfl) (by kernel_rfl) (by kernel_rfl) (by kernel_rfl) (by kernel_rfl) (by kernel_rfl) (fun _ _ _ h => h) (Or.inl ⟨by rfl, ?_⟩) hHeld ?_
      · (intro u _; go_simp)
      (try simp only [Act.put, List.setIfInBounds_toArray, List.set_cons_zero, List.set_cons_succ])
      refine L4.late_take 24 (v := .slice cO cN cC) rfl (by kernel_rfl) (List.Mem.tail _ (List.Mem.tail _ (List.Mem.tail _ (List.Mem.tail _ (List.Mem.head _))))) (by kernel_rfl) (by kernel_rfl) (by kernel_rfl) (by kernel_rfl) (fun _ _ _ h => h) (Or.inl ⟨by rfl, ?_⟩) hHeld ?_
      · (intro u hu; (try dsimp only at hu); go_split_ands; go_simp)
      (try simp only [Act.put, List.setIfInBounds_toArray, List.set_cons_zero, List.set_cons_succ])
      refine L4.late_free 25 (v := .int .i64 ((cN : Nat) : Int)) rfl (by kernel_rfl) (by kernel_rfl) (by kernel_rfl) (by kernel_rfl) (by kernel_rfl) (by kernel_rfl) (fun _ _ _ h => h) (Or.inl ⟨by rfl, ?_⟩) hHeld ?_
      · (intro u _; go_simp)
      (try simp only [Act.put, List.setIfInBounds_toArray, List.set_cons_zero, List.set_cons_succ])
      refine L4.late_free 26 (v := .int .i64 ((k : Nat) : Int)) rfl (by kernel_rfl) (by kernel_rfl) (by kernel_rfl) (by kernel_rfl) (by kernel_rfl) (by kernel_rfl) (fun _ _ _ h => h) (Or.inl ⟨by rfl, ?_⟩) hHeld ?_
      · (intro u _; go_simp)
      (try simp only [Act.put, List.setIfInBounds_toArray, List.set_cons_zero, List.set_cons_succ])
      refine L4.late_free 27 (v := .int .i64 ((cN : Int) + (k : Int))) rfl (by kernel_rfl) (by kernel_rfl) (by kernel_rfl) (by kernel_rfl) (by kernel_rfl) (by kernel_rfl) (fun _ _ _ h => h) (Or.inl ⟨by rfl, ?_⟩) hHeld ?_
      · (intro u _; go_simp)
      (try simp only [Act.put, List.setIfInBounds_toArray, List.set_cons_zero, List.set_cons_succ])
      refine L4.late_free 28 (v := .pointer (some ⟨p3, cN + k, none⟩)) rfl (by kernel_rfl) (by kernel_rfl) (by kernel_rfl) (by kernel_rfl) (by kernel_rfl) (by kernel_rfl) (fun _ _ _ h => h) (Or.inl ⟨by rfl, ?_⟩) hHeld ?_
      · (intro u _; go_simp)
      (try simp only [Act.put, List.setIfInBounds_toArray, List.set_cons_zero, List.set_cons_succ])
      refine L4.late_take 29 (v := .int .i64 99) rfl (by kernel_rfl) (List.Mem.tail _ (List.Mem.tail _ (List.Mem.tail _ (List.Mem.tail _ (List.Mem.tail _ (List.Mem.head _)))))) (by kernel_rfl) (by kernel_rfl) (by kernel_rfl) (by kernel_rfl) (fun _ _ _ h => h) (Or.inl ⟨by rfl, ?_⟩) hHeld ?_
      · (intro u hu; (try dsimp only at hu); go_split_ands; go_simp)
      (try simp only [Act.put, List.setIfInBounds_toArray, List.set_cons_zero, List.set_cons_succ])
      refine L4.late_free 30 (v := .int .i64 99) rfl (by kernel_rfl) (by kernel_rfl) (by kernel_rfl) (by kernel_rfl) (by kernel_rfl) (by kernel_rfl) (fun _ _ _ h => h) (Or.inl ⟨by rfl, ?_⟩) hHeld ?_
      · (intro u _; go_simp)
      (try simp only [Act.put, List.setIfInBounds_toArray, List.set_cons_zero, List.set_cons_succ])
      refine L4.late_free 31 (v := .func (.method "Same") #[.iface 41 (.agg #[])] #[]) rfl (by kernel_rfl) (by kernel_rfl) (by kernel_rfl) (by kernel_rfl) (by kernel_rfl) (by kernel_rfl) (fun _ _ _ h => h) (Or.inl ⟨by rfl, ?_⟩) hHeld ?_
      · (intro u _; go_simp)
      (try simp only [Act.put, List.setIfInBounds_toArray, List.set_cons_zero, List.set_cons_succ])
      refine L4.late_free 32 (v := .func (.method "Same") #[.iface 41 (.agg #[])] #[]) rfl (by kernel_rfl) (by kernel_rfl) (by kernel_rfl) (by kernel_rfl) (by kernel_rfl) (by kernel_rfl) (fun _ _ _ h => h) (Or.inl ⟨by rfl, ?_⟩) hHeld ?_
      · (intro u _; go_simp)
      (try simp only [Act.put, List.setIfInBounds_toArray, List.set_cons_zero, List.set_cons_succ])
      refine L4.late_free 33 (v := .iface 41 (.agg #[])) rfl (by kernel_rfl) (by kernel_rfl) (by kernel_rfl) (by kernel_rfl) (by kernel_rfl) (by kernel_rfl) (fun _ _ _ h => h) (Or.inl ⟨by rfl, ?_⟩) hHeld ?_
      · (intro u _; go_simp)
      (try simp only [Act.put, List.setIfInBounds_toArray, List.set_cons_zero, List.set_cons_succ])
      refine L4.late_step 34 (by kernel_rfl) rfl (fun K hK => ?_)
      go_simp
      refine (intsSameF 99 99 _).mono ?_
      rintro e y2 ⟨he, c2_⟩
      rw [show e = .returned (.bool true) from he.trans (by simp)]
      clear he
      have B := B.trans (c2_.mono B.size)
      clear c2_ hHeld
      have hHeld := KEEP _ B
      go_wp2_with fail
      refine hK.out _ _ (L4.AllL.kept hHeld) ?_
      clear hK K
      (try simp only [Act.put, List.setIfInBounds_toArray, List.set_cons_zero, List.set_cons_succ])
      refine L4.late_free 35 (v := .bool false) rfl (by kernel_rfl) (by kernel_rfl) (by kernel_rfl) (by kernel_rfl) (by kernel_rfl) (by kernel_rfl) (fun _ _ _ h => h) (Or.inl ⟨by rfl, ?_⟩) hHeld ?_
      · (intro u _; go_simp)
      (try simp only [Act.put, List.setIfInBounds_toArray, List.set_cons_zero, List.set_cons_succ])
      refine L4.late_free 36 (v := .bool false) rfl (by kernel_rfl) (by kernel_rfl) (by kernel_rfl) (by kernel_rfl) (by kernel_rfl) (by kernel_rfl) (fun _ _ _ h => h) (Or.inl ⟨by rfl, ?_⟩) hHeld ?_
      · (intro u _; go_simp)
      (try simp only [Act.put, List.setIfInBounds_toArray, List.set_cons_zero, List.set_cons_succ])
      refine L4.late_done (by kernel_rfl) ?_ _
      clear hHeld KEEP
      have HBN : Hid (Below W1.heap.size W1 y2) := bstepB HBW.out B
      clear B HBW c1 c2 c3 cb0 cb1 cb2 hmeth hent hnl x1 x2 x3 fw1 fw2 fw3 fy1 fy2 fy3 fz1 fz2 fz3
      go_wp2
      go_roundg (4 - (k + 1))
      case measure => omega
      case rel => exact ⟨k + 1, by go_num, by omega, Nat.le_refl _, HBN⟩
    · have hltz : ¬ (k : Int) < 4 := by omega
      clear a1 a2 a3
      have bw : Below w.heap.size w wr := bstepB HB0.out HBW.out
      have HW : Hid (Below w.heap.size w wr) := bw
      obtain ⟨ca0, ca1, ca2⟩ := (HQA.out.below HBW.out).cells
      obtain ⟨cb0, cb1, cb2⟩ := (HQB.out.below HBW.out).cells
      have C1 : Hid _ := ints13 _ _ xs wr ((H1.out.rk HS.out).below (Nat.le_refl _) bw) (HS.out.below (Nat.le_refl _) bw)
      clear bw
      go_wp2_with fail
      refine Calls.mono C1.out ?_
      rintro e y1 ⟨rfl, b1⟩
      clear C1
      have bw1 : Below w.heap.size w y1 := bstepB HW.out b1
      have HB1 : Hid (Below W1.heap.size W1 y1) := bstepB HBW.out b1
      clear b1 ca0 ca1 ca2 cb0 cb1 cb2
      obtain ⟨ca0, ca1, ca2⟩ := (HQA.out.below HB1.out).cells
      obtain ⟨cb0, cb1, cb2⟩ := (HQB.out.below HB1.out).cells
      have C2 : Hid _ := ints13 _ _ zs y1 ((H2.out.rk HZ.out).below (Nat.le_refl _) bw1) (HZ.out.below (Nat.le_refl _) bw1)
      have HW1 : Hid (Below w.heap.size w y1) := bw1
      clear bw1
      go_wp2_with fail
      refine Calls.mono C2.out ?_
      rintro e y2 ⟨rfl, b2⟩
      clear C2
      have bw2 : Below w.heap.size w y2 := bstepB HW1.out b2
      have HB2 : Hid (Below W1.heap.size W1 y2) := bstepB HB1.out b2
      clear b2 ca0 ca1 ca2 cb0 cb1 cb2
      obtain ⟨ca0, ca1, ca2⟩ := (HQA.out.below HB2.out).cells
      obtain ⟨cb0, cb1, cb2⟩ := (HQB.out.below HB2.out).cells
      have C3 : Hid _ := cellsAreI _ _ cs y2 (H3.out.rg.below (Nat.le_refl _) bw2) (HC.out.rg.below (Nat.le_refl _) bw2)
      have HW2 : Hid (Below w.heap.size w y2) := bw2
      clear bw2
      go_wp2_with fail
      refine Calls.mono C3.out ?_
      rintro e y3 ⟨rfl, b3⟩
      clear C3
      go_wp2
      go_ret
      exact ⟨rfl, bstepB HW2.out b3⟩
end Go.Proofs.Ytphbbkckigdgoaa
