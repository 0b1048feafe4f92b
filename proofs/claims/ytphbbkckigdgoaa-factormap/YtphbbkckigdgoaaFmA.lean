/-
  Proved here: FactorMap's small functions: Ints, One, shape, the rings' Same, cellsAre at ints and texts.
-/
import Derived.Test.YtphbbkckigdgoaaFacO1
import Derived.Test.YtphbbkckigdgoaaRadBackMAll
namespace Go.Proofs.Ytphbbkckigdgoaa
set_option linter.unusedVariables false
open Go.RowKit Go.Shelf Go.Lib Go.Sort
set_option maxRecDepth 100000 in
set_option maxHeartbeats 1600000 in
theorem ints13 (v u : Value) (zs : List Int) (w : World) (hv : RK .i64 w v zs) (hu : RK .i64 w u zs) :
    Calls Try.prog 13 #[v, u] w fun e w' => e = .returned (.bool true) ∧ Below w.heap.size w w' := by
  obtain ⟨ao, cap, rfl, hc, hm, -, hbd, hcell⟩ := hv
  obtain ⟨ao', cap', rfl, hc', hm', -, -, hcell'⟩ := hu
  unfold maxLen at hm hm'
  obtain ⟨n, hn⟩ : ∃ n, zs.length = n := ⟨_, rfl⟩
  rw [hn] at hc hc' ⊢
  have HN : Hid (zs.length = n) := hn
  clear hn
  have hne : (((n : Nat) : Int) != ((n : Nat) : Int)) = false := by simp
  go_enter Try.func13, Try.ntmps13
  go_wp2
  go_loopw [5] (fun t wr => ∃ k : Nat, k ≤ n ∧ t = .int .i64 k ∧ ∃ q, wr = w.drewN q) (fun t _ => n - (intOf t).toNat)
  case atStart => exact ⟨0, Nat.zero_le _, rfl, 0, rfl⟩
  case round =>
    obtain ⟨k, hk, rfl, q, rfl⟩ := hrel
    by_cases hkn : k < n
    · obtain ⟨b, off, rfl, c0⟩ := hcell k (by rw [HN.out]; exact hkn)
      obtain ⟨b', off', rfl, c1⟩ := hcell' k (by rw [HN.out]; exact hkn)
      obtain ⟨hx1, hx2⟩ := hbd k (by rw [HN.out]; exact hkn)
      rw [min_i64] at hx1
      rw [max_i64] at hx2
      clear hcell hcell' hbd
      generalize zs.getD k 0 = x at *
      have hlt : (k : Int) < (n : Int) := by omega
      have hwx : IntKind.i64.wrap x = x := wrap_i64 (by omega) (by omega)
      have hnx : ((x : Int) != (x : Int)) = false := by simp
      go_wp2
      go_quiet (fail)
      go_wp2
      go_roundw
      case rel => exact ⟨k + 1, by omega, by go_num, _, rfl⟩
      case measure => simp [intOf]; omega
    · have hge : ¬ (k : Int) < (n : Int) := by omega
      clear hcell hcell' hbd
      go_wp2
      go_ret
      exact ⟨rfl, below_drewN (Below.refl _ _) q⟩
set_option maxRecDepth 100000 in
set_option maxHeartbeats 1600000 in
theorem shapeI (s z : Value) (co : Option Addr) (n cc : Nat) (w : World) (hn : n ≤ 9223372036854775807) (hs : ∃ o l c, s = .slice o l c) (hz : ∃ o l c, z = .slice o l c) :
    Calls Try.prog 6 #[.agg #[s, z, .slice co n cc]] w fun e w' => e = .returned (.agg #[s, z, .int .i64 n]) ∧ Below w.heap.size w w' := by
  obtain ⟨sO, sN, sC, rfl⟩ := hs
  obtain ⟨zO, zN, zC, rfl⟩ := hz
  have HB : Hid (BCell 29 ((w.alloc (.cells #[.slice sO sN sC, .slice zO zN zC, .slice co n cc] 24)).alloc (.cells #[.slice sO sN sC, .slice zO zN zC, .int .i64 n] 29)) (w.heap.size + 1) (.slice sO sN sC) (.slice zO zN zC) (.int .i64 n)) := BCell.new _ (by simp)
  go_enter Try.func6, Try.ntmps6
  go_wp2
  exact bodyPost_ret (results_cell_row rfl _ _ (w.heap.size + 1) 29 _ (0, 0) _ rfl HB.out Try.underlying29 rfl (by kernel_rfl)) rfl ⟨rfl, bstepB (belowB w _) (belowB _ _)⟩
set_option maxRecDepth 100000 in
set_option maxHeartbeats 1600000 in
theorem oneI13 (x : Int) (w : World) :
    Calls Try.prog 12 #[.int .i64 x] w fun e w' => ∃ g, e = .returned (.agg #[.slice none 0 0, .slice none 0 0, .slice (some ⟨g, 0, none⟩) 1 1]) ∧ w.heap.size ≤ g ∧ w'.heap[g]? = some (.cells #[.int .i64 x] 3 (0, 0)) ∧ Below w.heap.size w w' := by
  have HB : Hid (BCell 24 (w.alloc (.cells #[.slice none 0 0, .slice none 0 0, .slice (some ⟨w.heap.size + 1, 0, none⟩) 1 1] 24)) w.heap.size (.slice none 0 0) (.slice none 0 0) (.slice (some ⟨w.heap.size + 1, 0, none⟩) 1 1)) := BCell.new _ rfl
  have HC : Hid (((w.alloc (.cells #[.slice none 0 0, .slice none 0 0, .slice (some ⟨w.heap.size + 1, 0, none⟩) 1 1] 24)).alloc (.cells #[.int .i64 x] 3)).heap[w.heap.size + 1]? = some (.cells #[.int .i64 x] 3 (0, 0))) := by show _ = _; have := heap_alloc_new (w.alloc (.cells #[.slice none 0 0, .slice none 0 0, .slice (some ⟨w.heap.size + 1, 0, none⟩) 1 1] 24)) (.cells #[.int .i64 x] 3); simpa using this
  go_enter Try.func12, Try.ntmps12
  go_wp2
  exact bodyPost_ret (results_cell_row rfl _ _ w.heap.size 24 #[.slice none 0 0, .slice none 0 0, .slice (some ⟨w.heap.size + 1, 0, none⟩) 1 1] (0, 0) _ rfl (HB.out.step _) Try.underlying24 rfl (by kernel_rfl)) rfl ⟨_, rfl, by omega, HC.out, bstepB (belowB w _) (belowB _ _)⟩
theorem mWordsSame (w : World) : (Go.method 185 45 (.agg #[]) "Same").run Try.prog w = .ok (46, .agg #[]) w := by kernel_rfl
theorem entWordsSame : ∀ args w, (callFunc 46 args).run Try.prog w = .ok (.enter 46 args) w := enters_of Try.func46 (by kernel_rfl) rfl
theorem nlWordsSame (w : World) : (nilAhead 185 45 (.agg #[]) "Same").run Try.prog w = .ok (some false) w := by kernel_rfl
theorem wordsSame (p q : ByteArray) (w : World) : Calls Try.prog 46 #[.agg #[], .string p, .string q] w fun e w' => e = .returned (.bool (p.toList == q.toList)) ∧ Below w.heap.size w w' := by
  go_enter Try.func46, Try.ntmps46
  go_wp2
  go_ret
  exact ⟨rfl, belowB _ _⟩
set_option maxRecDepth 100000 in
set_option maxHeartbeats 6400000 in
theorem cellsAreI (v u : Value) (zs : List Int) (w : World) (hv : RG (Value.int .i64) w v zs) (hu : RG (Value.int .i64) w u zs) :
    Calls Try.prog 19 #[.iface 41 (.agg #[]), v, u] w fun e w' => e = .returned (.bool true) ∧ Below w.heap.size w w' := by
  obtain ⟨ao, cap, rfl, hc, hm, -, hcell⟩ := hv
  obtain ⟨ao', cap', rfl, hc', hm', -, hcell'⟩ := hu
  unfold maxLen at hm hm'
  obtain ⟨n, hn⟩ : ∃ n, zs.length = n := ⟨_, rfl⟩
  rw [hn] at hc hc' ⊢
  have HN : Hid (zs.length = n) := hn
  have HC : Hid (∀ i x, zs[i]? = some x → ∃ g o, ao = some ⟨g, o, none⟩ ∧ w.cell? ⟨g, o + i, none⟩ = some ((Value.int .i64) x)) := hcell
  have HC' : Hid (∀ i x, zs[i]? = some x → ∃ g o, ao' = some ⟨g, o, none⟩ ∧ w.cell? ⟨g, o + i, none⟩ = some ((Value.int .i64) x)) := hcell'
  clear hn hcell hcell'
  have hne : (((n : Nat) : Int) != ((n : Nat) : Int)) = false := by simp
  go_enter Try.func19, Try.ntmps19
  go_wp2
  go_loopg [7, 8] n (fun g1 v7 _v8 wr => ∃ i : Nat, v7 = .int .i64 i ∧ i ≤ n ∧ n - i ≤ g1 ∧ Hid (Below w.heap.size w wr))
  case atStart => exact ⟨0, rfl, Nat.zero_le _, by omega, Below.refl _ _⟩
  case round =>
    obtain ⟨i, rfl, him, hg1, HBW⟩ := hrel
    by_cases hlt : i < n
    · have hltz : (i : Int) < (n : Int) := by omega
      obtain ⟨x, hx⟩ : ∃ x, zs[i]? = some x := ⟨_, List.getElem?_eq_getElem (by rw [HN.out]; exact hlt)⟩
      obtain ⟨g1_, o1, rfl, k1⟩ := HC.out i x hx
      obtain ⟨g2_, o2, rfl, k2⟩ := HC'.out i x hx
      have c1 := keepR HBW.out k1
      have c2 := keepR HBW.out k2
      clear hx k1 k2
      have hmeth := mIntsSameF
      have hent := entIntsSameF
      have hnl := nlIntsSameF
      go_upto_region 6 with fail
      have KEEP : ∀ u, Below wr.heap.size wr u → L4.AllL u [(4, fun w' => w'.cell? ⟨g1_, o1 + i, none⟩ = some ((Value.int .i64) x)), (8, fun w' => w'.cell? ⟨g2_, o2 + i, none⟩ = some ((Value.int .i64) x))] := fun u hu => ⟨keepR hu c1, keepR hu c2, trivial⟩
      refine L4.region_late [(4, fun w' => w'.cell? ⟨g1_, o1 + i, none⟩ = some ((Value.int .i64) x)), (8, fun w' => w'.cell? ⟨g2_, o2 + i, none⟩ = some ((Value.int .i64) x))] (by kernel_rfl) ?_
      have B : Below wr.heap.size wr wr.drew := (Below.refl _ _).drew
      obtain ⟨w1, hw1⟩ : ∃ u, u = wr.drew := ⟨_, rfl⟩
      rw [← hw1] at B ⊢
      clear hw1
      have hHeld := KEEP _ B
      refine L4.late_free 0 (v := .iface 41 (.agg #[])) rfl (by kernel_rfl) (by kernel_rfl) (by kernel_rfl) (by kernel_rfl) (by kernel_rfl) (by kernel_rfl) (fun _ _ _ h => h) (Or.inl ⟨by rfl, ?_⟩) hHeld ?_
      · (intro u _; go_simp)
      (try simp only [Act.put, List.setIfInBounds_toArray, List.set_cons_zero, List.set_cons_succ])
      refine L4.late_free 1 (v := .slice (some ⟨g1_, o1, none⟩) n cap) rfl (by kernel_rfl) (by kernel_rfl) (by kernel_rfl) (by kernel_rfl) (by kernel_rfl) (by kernel_rfl) (fun _ _ _ h => h) (Or.inl ⟨by rfl, ?_⟩) hHeld ?_
      · (intro u _; go_simp)
      (try simp only [Act.put, List.setIfInBounds_toArray, List.set_cons_zero, List.set_cons_succ])
      refine L4.late_free 2 (v := .int .i64 ((i : Nat) : Int)) rfl (by kernel_rfl) (by kernel_rfl) (by kernel_rfl) (by kernel_rfl) (by kernel_rfl) (by kernel_rfl) (fun _ _ _ h => h) (Or.inl ⟨by rfl, ?_⟩) hHeld ?_
      · (intro u _; go_simp)
      (try simp only [Act.put, List.setIfInBounds_toArray, List.set_cons_zero, List.set_cons_succ])
      refine L4.late_free 3 (v := .pointer (some ⟨g1_, o1 + i, none⟩)) rfl (by kernel_rfl) (by kernel_rfl) (by kernel_rfl) (by kernel_rfl) (by kernel_rfl) (by kernel_rfl) (fun _ _ _ h => h) (Or.inl ⟨by rfl, ?_⟩) hHeld ?_
      · (intro u _; go_simp)
      (try simp only [Act.put, List.setIfInBounds_toArray, List.set_cons_zero, List.set_cons_succ])
      refine L4.late_take 4 (v := (Value.int .i64) x) rfl (by kernel_rfl) (List.Mem.head _) (by kernel_rfl) (by kernel_rfl) (by kernel_rfl) (by kernel_rfl) (fun _ _ _ h => h) (Or.inl ⟨by rfl, ?_⟩) hHeld ?_
      · (intro u hu; (try dsimp only at hu); go_split_ands; go_simp)
      (try simp only [Act.put, List.setIfInBounds_toArray, List.set_cons_zero, List.set_cons_succ])
      refine L4.late_free 5 (v := .slice (some ⟨g2_, o2, none⟩) n cap') rfl (by kernel_rfl) (by kernel_rfl) (by kernel_rfl) (by kernel_rfl) (by kernel_rfl) (by kernel_rfl) (fun _ _ _ h => h) (Or.inl ⟨by rfl, ?_⟩) hHeld ?_
      · (intro u _; go_simp)
      (try simp only [Act.put, List.setIfInBounds_toArray, List.set_cons_zero, List.set_cons_succ])
      refine L4.late_free 6 (v := .int .i64 ((i : Nat) : Int)) rfl (by kernel_rfl) (by kernel_rfl) (by kernel_rfl) (by kernel_rfl) (by kernel_rfl) (by kernel_rfl) (fun _ _ _ h => h) (Or.inl ⟨by rfl, ?_⟩) hHeld ?_
      · (intro u _; go_simp)
      (try simp only [Act.put, List.setIfInBounds_toArray, List.set_cons_zero, List.set_cons_succ])
      refine L4.late_free 7 (v := .pointer (some ⟨g2_, o2 + i, none⟩)) rfl (by kernel_rfl) (by kernel_rfl) (by kernel_rfl) (by kernel_rfl) (by kernel_rfl) (by kernel_rfl) (fun _ _ _ h => h) (Or.inl ⟨by rfl, ?_⟩) hHeld ?_
      · (intro u _; go_simp)
      (try simp only [Act.put, List.setIfInBounds_toArray, List.set_cons_zero, List.set_cons_succ])
      refine L4.late_take 8 (v := (Value.int .i64) x) rfl (by kernel_rfl) (List.Mem.tail _ (List.Mem.head _)) (by kernel_rfl) (by kernel_rfl) (by kernel_rfl) (by kernel_rfl) (fun _ _ _ h => h) (Or.inl ⟨by rfl, ?_⟩) hHeld ?_
      · (intro u hu; (try dsimp only at hu); go_split_ands; go_simp)
      (try simp only [Act.put, List.setIfInBounds_toArray, List.set_cons_zero, List.set_cons_succ])
      refine L4.late_free 9 (v := .func (.method "Same") #[.iface 41 (.agg #[])] #[]) rfl (by kernel_rfl) (by kernel_rfl) (by kernel_rfl) (by kernel_rfl) (by kernel_rfl) (by kernel_rfl) (fun _ _ _ h => h) (Or.inl ⟨by rfl, ?_⟩) hHeld ?_
      · (intro u _; go_simp)
      (try simp only [Act.put, List.setIfInBounds_toArray, List.set_cons_zero, List.set_cons_succ])
      refine L4.late_free 10 (v := .func (.method "Same") #[.iface 41 (.agg #[])] #[]) rfl (by kernel_rfl) (by kernel_rfl) (by kernel_rfl) (by kernel_rfl) (by kernel_rfl) (by kernel_rfl) (fun _ _ _ h => h) (Or.inl ⟨by rfl, ?_⟩) hHeld ?_
      · (intro u _; go_simp)
      (try simp only [Act.put, List.setIfInBounds_toArray, List.set_cons_zero, List.set_cons_succ])
      refine L4.late_free 11 (v := .iface 41 (.agg #[])) rfl (by kernel_rfl) (by kernel_rfl) (by kernel_rfl) (by kernel_rfl) (by kernel_rfl) (by kernel_rfl) (fun _ _ _ h => h) (Or.inl ⟨by rfl, ?_⟩) hHeld ?_
      · (intro u _; go_simp)
      (try simp only [Act.put, List.setIfInBounds_toArray, List.set_cons_zero, List.set_cons_succ])
      refine L4.late_step 12 (by kernel_rfl) rfl (fun K hK => ?_)
      go_simp
      refine (intsSameF x x _).mono ?_
      rintro e y2 ⟨he, c2⟩
      rw [show e = .returned (.bool true) from he.trans (by simp)]
      clear he
      have B := B.trans (c2.mono B.size)
      clear c2 hHeld
      have hHeld := KEEP _ B
      go_wp2_with fail
      refine hK.out _ _ (L4.AllL.kept hHeld) ?_
      clear hK K
      (try simp only [Act.put, List.setIfInBounds_toArray, List.set_cons_zero, List.set_cons_succ])
      refine L4.late_step 13 (by kernel_rfl) rfl (fun K hK => ?_)
      go_simp
      refine hK.out _ _ (L4.AllL.kept hHeld) ?_
      clear hK K
      (try simp only [Act.put, List.setIfInBounds_toArray, List.set_cons_zero, List.set_cons_succ])
      refine L4.late_done (by kernel_rfl) ?_ _
      clear hHeld KEEP
      have HBN : Hid (Below w.heap.size w y2) := bstepB HBW.out B
      clear B HBW c1 c2 hmeth hent hnl
      go_wp2
      go_roundg (n - (i + 1))
      case measure => omega
      case rel => exact ⟨i + 1, by go_num, by omega, Nat.le_refl _, HBN⟩
    · have hltz : ¬ (i : Int) < (n : Int) := by omega
      go_wp2
      go_ret
      exact ⟨rfl, HBW.out⟩
set_option maxRecDepth 100000 in
set_option maxHeartbeats 6400000 in
theorem cellsAreS (v u : Value) (zs : List ByteArray) (w : World) (hv : RG Value.string w v zs) (hu : RG Value.string w u zs) :
    Calls Try.prog 20 #[.iface 45 (.agg #[]), v, u] w fun e w' => e = .returned (.bool true) ∧ Below w.heap.size w w' := by
  obtain ⟨ao, cap, rfl, hc, hm, -, hcell⟩ := hv
  obtain ⟨ao', cap', rfl, hc', hm', -, hcell'⟩ := hu
  unfold maxLen at hm hm'
  obtain ⟨n, hn⟩ : ∃ n, zs.length = n := ⟨_, rfl⟩
  rw [hn] at hc hc' ⊢
  have HN : Hid (zs.length = n) := hn
  have HC : Hid (∀ i x, zs[i]? = some x → ∃ g o, ao = some ⟨g, o, none⟩ ∧ w.cell? ⟨g, o + i, none⟩ = some (Value.string x)) := hcell
  have HC' : Hid (∀ i x, zs[i]? = some x → ∃ g o, ao' = some ⟨g, o, none⟩ ∧ w.cell? ⟨g, o + i, none⟩ = some (Value.string x)) := hcell'
  clear hn hcell hcell'
  have hne : (((n : Nat) : Int) != ((n : Nat) : Int)) = false := by simp
  go_enter Try.func20, Try.ntmps20
  go_wp2
  go_loopg [7, 8] n (fun g1 v7 _v8 wr => ∃ i : Nat, v7 = .int .i64 i ∧ i ≤ n ∧ n - i ≤ g1 ∧ Hid (Below w.heap.size w wr))
  case atStart => exact ⟨0, rfl, Nat.zero_le _, by omega, Below.refl _ _⟩
  case round =>
    obtain ⟨i, rfl, him, hg1, HBW⟩ := hrel
    by_cases hlt : i < n
    · have hltz : (i : Int) < (n : Int) := by omega
      obtain ⟨x, hx⟩ : ∃ x, zs[i]? = some x := ⟨_, List.getElem?_eq_getElem (by rw [HN.out]; exact hlt)⟩
      obtain ⟨g1_, o1, rfl, k1⟩ := HC.out i x hx
      obtain ⟨g2_, o2, rfl, k2⟩ := HC'.out i x hx
      have c1 := keepR HBW.out k1
      have c2 := keepR HBW.out k2
      clear hx k1 k2
      have hmeth := mWordsSame
      have hent := entWordsSame
      have hnl := nlWordsSame
      go_upto_region 6 with fail
      have KEEP : ∀ u, Below wr.heap.size wr u → L4.AllL u [(4, fun w' => w'.cell? ⟨g1_, o1 + i, none⟩ = some (Value.string x)), (8, fun w' => w'.cell? ⟨g2_, o2 + i, none⟩ = some (Value.string x))] := fun u hu => ⟨keepR hu c1, keepR hu c2, trivial⟩
      refine L4.region_late [(4, fun w' => w'.cell? ⟨g1_, o1 + i, none⟩ = some (Value.string x)), (8, fun w' => w'.cell? ⟨g2_, o2 + i, none⟩ = some (Value.string x))] (by kernel_rfl) ?_
      have B : Below wr.heap.size wr wr.drew := (Below.refl _ _).drew
      obtain ⟨w3, hw3⟩ : ∃ u, u = wr.drew := ⟨_, rfl⟩
      rw [← hw3] at B ⊢
      clear hw3
      have hHeld := KEEP _ B
      refine L4.late_free 0 (v := .iface 45 (.agg #[])) rfl (by kernel_rfl) (by kernel_rfl) (by kernel_rfl) (by kernel_rfl) (by kernel_rfl) (by kernel_rfl) (fun _ _ _ h => h) (Or.inl ⟨by rfl, ?_⟩) hHeld ?_
      · (intro u _; go_simp)
      (try simp only [Act.put, List.setIfInBounds_toArray, List.set_cons_zero, List.set_cons_succ])
      refine L4.late_free 1 (v := .slice (some ⟨g1_, o1, none⟩) n cap) rfl (by kernel_rfl) (by kernel_rfl) (by kernel_rfl) (by kernel_rfl) (by kernel_rfl) (by kernel_rfl) (fun _ _ _ h => h) (Or.inl ⟨by rfl, ?_⟩) hHeld ?_
      · (intro u _; go_simp)
      (try simp only [Act.put, List.setIfInBounds_toArray, List.set_cons_zero, List.set_cons_succ])
      refine L4.late_free 2 (v := .int .i64 ((i : Nat) : Int)) rfl (by kernel_rfl) (by kernel_rfl) (by kernel_rfl) (by kernel_rfl) (by kernel_rfl) (by kernel_rfl) (fun _ _ _ h => h) (Or.inl ⟨by rfl, ?_⟩) hHeld ?_
      · (intro u _; go_simp)
      (try simp only [Act.put, List.setIfInBounds_toArray, List.set_cons_zero, List.set_cons_succ])
      refine L4.late_free 3 (v := .pointer (some ⟨g1_, o1 + i, none⟩)) rfl (by kernel_rfl) (by kernel_rfl) (by kernel_rfl) (by kernel_rfl) (by kernel_rfl) (by kernel_rfl) (fun _ _ _ h => h) (Or.inl ⟨by rfl, ?_⟩) hHeld ?_
      · (intro u _; go_simp)
      (try simp only [Act.put, List.setIfInBounds_toArray, List.set_cons_zero, List.set_cons_succ])
      refine L4.late_take 4 (v := Value.string x) rfl (by kernel_rfl) (List.Mem.head _) (by kernel_rfl) (by kernel_rfl) (by kernel_rfl) (by kernel_rfl) (fun _ _ _ h => h) (Or.inl ⟨by rfl, ?_⟩) hHeld ?_
      · (intro u hu; (try dsimp only at hu); go_split_ands; go_simp)
      (try simp only [Act.put, List.setIfInBounds_toArray, List.set_cons_zero, List.set_cons_succ])
      refine L4.late_free 5 (v := .slice (some ⟨g2_, o2, none⟩) n cap') rfl (by kernel_rfl) (by kernel_rfl) (by kernel_rfl) (by kernel_rfl) (by kernel_rfl) (by kernel_rfl) (fun _ _ _ h => h) (Or.inl ⟨by rfl, ?_⟩) hHeld ?_
      · (intro u _; go_simp)
      (try simp only [Act.put, List.setIfInBounds_toArray, List.set_cons_zero, List.set_cons_succ])
      refine L4.late_free 6 (v := .int .i64 ((i : Nat) : Int)) rfl (by kernel_rfl) (by kernel_rfl) (by kernel_rfl) (by kernel_rfl) (by kernel_rfl) (by kernel_rfl) (fun _ _ _ h => h) (Or.inl ⟨by rfl, ?_⟩) hHeld ?_
      · (intro u _; go_simp)
      (try simp only [Act.put, List.setIfInBounds_toArray, List.set_cons_zero, List.set_cons_succ])
      refine L4.late_free 7 (v := .pointer (some ⟨g2_, o2 + i, none⟩)) rfl (by kernel_rfl) (by kernel_rfl) (by kernel_rfl) (by kernel_rfl) (by kernel_rfl) (by kernel_rfl) (fun _ _ _ h => h) (Or.inl ⟨by rfl, ?_⟩) hHeld ?_
      · (intro u _; go_simp)
      (try simp only [Act.put, List.setIfInBounds_toArray, List.set_cons_zero, List.set_cons_succ])
      refine L4.late_take 8 (v := Value.string x) rfl (by kernel_rfl) (List.Mem.tail _ (List.Mem.head _)) (by kernel_rfl) (by kernel_rfl) (by kernel_rfl) (by kernel_rfl) (fun _ _ _ h => h) (Or.inl ⟨by rfl, ?_⟩) hHeld ?_
      · (intro u hu; (try dsimp only at hu); go_split_ands; go_simp)
      (try simp only [Act.put, List.setIfInBounds_toArray, List.set_cons_zero, List.set_cons_succ])
      refine L4.late_free 9 (v := .func (.method "Same") #[.iface 45 (.agg #[])] #[]) rfl (by kernel_rfl) (by kernel_rfl) (by kernel_rfl) (by kernel_rfl) (by kernel_rfl) (by kernel_rfl) (fun _ _ _ h => h) (Or.inl ⟨by rfl, ?_⟩) hHeld ?_
      · (intro u _; go_simp)
      (try simp only [Act.put, List.setIfInBounds_toArray, List.set_cons_zero, List.set_cons_succ])
      refine L4.late_free 10 (v := .func (.method "Same") #[.iface 45 (.agg #[])] #[]) rfl (by kernel_rfl) (by kernel_rfl) (by kernel_rfl) (by kernel_rfl) (by kernel_rfl) (by kernel_rfl) (fun _ _ _ h => h) (Or.inl ⟨by rfl, ?_⟩) hHeld ?_
      · (intro u _; go_simp)
      (try simp only [Act.put, List.setIfInBounds_toArray, List.set_cons_zero, List.set_cons_succ])
      refine L4.late_free 11 (v := .iface 45 (.agg #[])) rfl (by kernel_rfl) (by kernel_rfl) (by kernel_rfl) (by kernel_rfl) (by kernel_rfl) (by kernel_rfl) (fun _ _ _ h => h) (Or.inl ⟨by rfl, ?_⟩) hHeld ?_
      · (intro u _; go_simp)
      (try simp only [Act.put, List.setIfInBounds_toArray, List.set_cons_zero, List.set_cons_succ])
      refine L4.late_step 12 (by kernel_rfl) rfl (fun K hK => ?_)
      go_simp
      refine (wordsSame x x _).mono ?_
      rintro e y4 ⟨he, c4⟩
      rw [show e = .returned (.bool true) from he.trans (by simp)]
      clear he
      have B := B.trans (c4.mono B.size)
      clear c4 hHeld
      have hHeld := KEEP _ B
      go_wp2_with fail
      refine hK.out _ _ (L4.AllL.kept hHeld) ?_
      clear hK K
      (try simp only [Act.put, List.setIfInBounds_toArray, List.set_cons_zero, List.set_cons_succ])
      refine L4.late_step 13 (by kernel_rfl) rfl (fun K hK => ?_)
      go_simp
      refine hK.out _ _ (L4.AllL.kept hHeld) ?_
      clear hK K
      (try simp only [Act.put, List.setIfInBounds_toArray, List.set_cons_zero, List.set_cons_succ])
      refine L4.late_done (by kernel_rfl) ?_ _
      clear hHeld KEEP
      have HBN : Hid (Below w.heap.size w y4) := bstepB HBW.out B
      clear B HBW c1 c2 hmeth hent hnl
      go_wp2
      go_roundg (n - (i + 1))
      case measure => omega
      case rel => exact ⟨i + 1, by go_num, by omega, Nat.le_refl _, HBN⟩
    · have hltz : ¬ (i : Int) < (n : Int) := by omega
      go_wp2
      go_ret
      exact ⟨rfl, HBW.out⟩
end Go.Proofs.Ytphbbkckigdgoaa
