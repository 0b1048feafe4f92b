/-
  Proved here: package factor's step.
-/
import Derived.Test.YtjlmignafhhjhaaFacE
namespace Go.Proofs.Ytjlmignafhhjhaa
set_option linter.unusedVariables false
open Go.RowKit Go.Shelf Go.Lib Go.Sort
attribute [local go_sem] Oper.semAt_some
theorem dot_next (S : List Int) (B : List Bool) (i : Int) (k j : Nat) (hl : S.length = B.length) (hk : k < S.length) (hj : S.length - 1 - k = j) (x : Int) : dot ((mixK S i k).set j x) (strd S B) = dot (mixK S i k) (strd S B) + (x - digAt S i j) * (strd S B).getD j 0 := by
  rw [dot_set _ _ _ _ (by rw [mixK_len]; omega) (by rw [mixK_len, strd_len S B hl]), mixK_get S i k j (by omega), if_neg (by omega)]
theorem strd_bd (S : List Int) (B : List Bool) (h1 : ∀ z ∈ S, 1 ≤ z) (hl : S.length = B.length) (hp : pr S ≤ 2147483647) (j : Nat) (hj : j < S.length) : 0 ≤ (strd S B).getD j 0 ∧ (strd S B).getD j 0 ≤ 2147483647 ∧ 0 ≤ S.getD j 0 * (strd S B).getD j 0 ∧ S.getD j 0 * (strd S B).getD j 0 ≤ 2147483647 := by
  rw [strd_get S B j hl hj]
  have hd := pr_drop_le S h1 (j + 1)
  have hd0 := pr_drop_le S h1 j
  have hb := pm_bd (S.drop (j + 1)) (B.drop (j + 1)) (fun z hz => h1 z (List.mem_of_mem_drop hz))
  have hb0 := pm_bd (S.drop j) (B.drop j) (fun z hz => h1 z (List.mem_of_mem_drop hz))
  have hm := pm_drop S B j hl hj
  split
  · rename_i hB
    rw [if_pos hB] at hm
    rw [← hm]
    exact ⟨by omega, by omega, by omega, by omega⟩
  · rw [Int.mul_zero]; exact ⟨by omega, by omega, by omega, by omega⟩
theorem dot_bd2 (S : List Int) (B : List Bool) (h1 : ∀ z ∈ S, 1 ≤ z) (hp : pr S ≤ 2147483647) (D : List Int) (hD : Dig S D) : 0 ≤ dot D (strd S B) ∧ dot D (strd S B) ≤ 2147483647 := by
  have := dot_bd S B D hD
  have := pm_bd S B h1
  omega
set_option maxRecDepth 100000 in
set_option maxHeartbeats 12800000 in
theorem stepW (zv : Value) (S : List Int) (B : List Bool) (i : Int) (gw gv gs : Nat) (w : World) (hz : RK .i64 w zv S) (hone : ∀ z ∈ S, 1 ≤ z) (hp : pr S ≤ 2147483647) (hl : S.length = B.length) (hk : WkS w gw gv gs zv S B i) (n1 : gw ≠ gv) (n2 : gs ≠ gw) (n3 : gs ≠ gv) (hne : ∀ q, zv.ownBlock = some q → q ≠ gw ∧ q ≠ gv) :
    Calls Try.prog 36 #[.pointer (some ⟨gw, 0, none⟩)] w fun e w' => (∃ u, e = .returned u) ∧ WkS w' gw gv gs zv S B (i + 1) ∧ Gr2 w w' gw gv := by
  have hv0 := hz
  obtain ⟨ao, cap, rfl, hc, hm, hnil, hbd, hcell⟩ := hz
  have hmx : ∀ i, i < S.length → S.getD i 0 ≤ 9223372036854775807 := fun i hi => by have := (hbd i hi).2; rw [max_i64] at this; exact this
  clear hnil hcell hbd
  unfold maxLen at hm
  obtain ⟨n, hn⟩ : ∃ n, S.length = n := ⟨_, rfl⟩
  have HN : Hid (S.length = n) := hn
  have hgw : gw < w.heap.size := (Array.getElem?_eq_some_iff.1 hk.str).1
  have hgv : gv < w.heap.size := (Array.getElem?_eq_some_iff.1 hk.val).1
  have hT := hk.srd
  have hstr := hk.str
  have hval := hk.val
  rw [hn] at hstr hne hv0 hc ⊢
  have hc0 : w.cell? ⟨gw, 0, none⟩ = some (.slice ao n cap) := by simp [World.cell?, hstr]
  have h2' := fun w => (callsIn_wide (n := 3)).2 (backwardI ao n cap w)
  refine (callsIn_wide (n := 4)).1 ?_
  refine callsIn_of_wp_marks Try.func36 rfl trivial ?_ rfl
  simp only [Try.ntmps36, List.size_toArray, List.length_cons, List.length_nil, Nat.reduceAdd, Nat.reduceSub, Array.replicate_succ, Array.replicate_zero, List.push_toArray, List.append_toArray, List.nil_append, List.cons_append]
  have hc1 : (w.alloc (.cells #[.pointer (some ⟨gw, 0, none⟩)] 77)).cell? ⟨gw, 0, none⟩ = some (.slice ao n cap) := by rw [World.cell?_of_block (Below.heap_alloc _ _ _ hgw)]; exact hc0
  gi_wp2_with fail
  refine ⟨trivial, ?_⟩
  refine (h2' _).mono ?_
  rintro e w3 ⟨rfl, rfl⟩
  gi_wp2_with fail
  clear h2' hc0 hc1
  obtain ⟨W0, hW0⟩ : ∃ W0, (w.alloc (.cells #[.pointer (some ⟨gw, 0, none⟩)] 77)).alloc (.cells #[.slice ao n cap] 22) = W0 := ⟨_, rfl⟩
  have hsz0 : W0.heap.size = w.heap.size + 2 := by rw [← hW0]; simp
  rw [hW0]
  obtain ⟨T, hTe⟩ : ∃ T, strd S B = T := ⟨_, rfl⟩
  refine range_call rfl (by decide) rfl trivial (enters_of Try.func92 (by kernel_rfl) rfl) (fun W => ∃ lo, FsC w (.slice ao n cap) n (dgs S (i + 1)) (dot (dgs S (i + 1)) T) gw gv gs w.heap.size lo W) (fun c W => c = .ret ∧ ∃ lo, FsC w (.slice ao n cap) n (dgs S (i + 1)) (dot (dgs S (i + 1)) T) gw gv gs w.heap.size lo W) ?call ?done ?stop
  case call =>
    intro fn hfn
    have h0 : ∀ lo, FsC w (.slice ao n cap) n (mixK S i 0) (dot (mixK S i 0) T) gw gv gs w.heap.size lo ((W0.alloc (.deferred (some []))).alloc (.loop lo)) := fun lo => by
      have g0 : W0.heap[w.heap.size]? = some (.cells #[.pointer (some ⟨gw, 0, none⟩)] 77 (0, 0)) := by rw [← hW0, Below.heap_alloc _ _ _ (by simp)]; exact heap_alloc_new w _
      have g1 : W0.heap[w.heap.size + 1]? = some (.cells #[.slice ao n cap] 22 (0, 0)) := by
        have := heap_alloc_new (w.alloc (.cells #[.pointer (some ⟨gw, 0, none⟩)] 77)) (.cells #[.slice ao n cap] 22)
        rw [← hW0]; rw [World.size_alloc] at this; exact this
      have gB : Gr2 w W0 gw gv := by rw [← hW0]; exact ((Gr2.refl _ _ _).alloc _).alloc _
      have gW : ∀ q, q < w.heap.size → W0.heap[q]? = w.heap[q]? := fun q hq => by rw [← hW0, Below.heap_alloc _ _ _ (by simp; omega), Below.heap_alloc _ _ _ hq]
      have gd := heap_alloc_new W0 (.deferred (some []))
      have gl := heap_alloc_new (W0.alloc (.deferred (some []))) (.loop lo)
      rw [hsz0] at gd
      rw [World.size_alloc, hsz0] at gl
      rw [mixK_zero]
      refine ⟨?_, ?_, ?_, ?_, ?_, gl, (gB.alloc _).alloc _⟩
      · rw [Below.heap_alloc _ _ _ (by simp [hsz0]; omega), Below.heap_alloc _ _ _ (by omega), gW gw hgw, ← hTe]; exact hstr
      · rw [Below.heap_alloc _ _ _ (by simp [hsz0]; omega), Below.heap_alloc _ _ _ (by omega), gW gv hgv]; exact hval
      · rw [Below.heap_alloc _ _ _ (by simp [hsz0]; omega), Below.heap_alloc _ _ _ (by omega), g0]
      · rw [Below.heap_alloc _ _ _ (by simp [hsz0] <;> omega), Below.heap_alloc _ _ _ (by omega), g1]
      · rw [Below.heap_alloc _ _ _ (by simp [hsz0] <;> omega), gd]
    have hJ : ∀ lo k W, (Hid (Car S i k) ∧ FsC w (.slice ao n cap) n (mixK S i k) (dot (mixK S i k) T) gw gv gs w.heap.size lo W) → W.cell? ⟨w.heap.size + 1, 0, none⟩ = some (.slice ao n cap) ∧ RK .i64 W (.slice ao n cap) S := fun lo k W h =>
      ⟨by simp [World.cell?, h.2.src], hv0.gr2 h.2.oth hne⟩
    simp only [hsz0, List.append_toArray, List.cons_append, List.nil_append, Nat.add_assoc, Nat.reduceAdd, Nat.reduceSub]
    refine callsIn_recF ?_
    intro lo0 hlo0
    refine CallsIn.mono (backward1I 3 (by decide) (w.heap.size + 3) (w.heap.size + 1) (.slice ao n cap) S (fun k W => Hid (Car S i k) ∧ FsC w (.slice ao n cap) n (mixK S i k) (dot (mixK S i k) T) gw gv gs w.heap.size lo0 W) (fun W => FsC w (.slice ao n cap) n (dgs S (i + 1)) (dot (dgs S (i + 1)) T) gw gv gs w.heap.size { lo0 with state := .done, pending := some .ret } W) (hJ _) ?rd _ ⟨car_zero S i, h0 _⟩) ?fin
    case fin =>
      rintro e W2 ⟨hv, h | hx⟩
      · refine ⟨hv, none, by rw [h.2.rcd, hlo0]; rfl, h.2.dfr, lo0, ?_⟩
        have := h.2
        rw [mixK_full] at this
        exact this
      · exact ⟨hv, some .ret, by rw [hx.rcd]; rfl, hx.dfr, rfl, _, hx⟩
    case rd =>
      intro k W1 hkn ⟨HD, hC⟩
      obtain ⟨lo', hlo'⟩ : ∃ lo', lo0 = lo' := ⟨_, rfl⟩
      rw [hlo'] at hC ⊢
      have hlo := hlo'.symm.trans hlo0
      clear hlo' hlo0
      obtain ⟨j, hj⟩ : ∃ j, S.length - 1 - k = j := ⟨_, rfl⟩
      rw [hj]
      have hjS : j < S.length := by omega
      have hjn : j < n := by rw [← HN.out]; exact hjS
      obtain ⟨Go_, hGo⟩ : ∃ G : World → Prop, G = fun W' => (Hid (Car S i (k + 1)) ∧ FsC w (.slice ao n cap) n (mixK S i (k + 1)) (dot (mixK S i (k + 1)) T) gw gv gs w.heap.size lo' W') := ⟨_, rfl⟩
      obtain ⟨Lv_, hLv⟩ : ∃ G : Code → World → Prop, G = fun _ W' => FsC w (.slice ao n cap) n (dgs S (i + 1)) (dot (dgs S (i + 1)) T) gw gv gs w.heap.size { lo' with state := .done, pending := some .ret } W' := ⟨_, rfl⟩
      refine (yield_round (Go_ := Go_) (Lv := Lv_) trivial hC.rcd (by rw [hlo]; rfl) (by rw [hlo]; rfl) (by rw [hlo]; rfl) ?_).mono ?_
      case refine_2 =>
        rintro e W' (⟨rfl, h⟩ | ⟨rfl, c, h⟩)
        · rw [hGo] at h; exact .inl ⟨rfl, h⟩
        · rw [hLv] at h; exact .inr ⟨rfl, h⟩
      obtain ⟨WB, hWB⟩ : ∃ WB, W1.putObj (w.heap.size + 3) (.loop { lo' with state := .busy }) = WB := ⟨_, rfl⟩
      have hcB : FsC w (.slice ao n cap) n (mixK S i k) (dot (mixK S i k) T) gw gv gs w.heap.size { lo' with state := .busy } WB := by rw [← hWB]; exact hC.put hgw hgv (Nat.le_refl _) _
      have HA : Hid (W1.heap[w.heap.size + 3]? = some (.loop lo')) := hC.rcd
      have hnx := dig_next hone hkn hj HD.out
      have hd0 := dot_bd2 S B hone hp _ (mixK_dig S i k hone)
      have hd1 := dot_bd2 S B hone hp _ (mixK_dig S i (k + 1) hone)
      have hst := mixK_step S i k j hkn hj
      have hdn := dot_next S B i k j hl hkn hj (digAt S (i + 1) j)
      rw [hst] at hdn
      obtain ⟨t1, t2, t3, t4⟩ := strd_bd S B hone hl hp j hjS
      have hTl : T.length = S.length := by rw [← hTe]; exact strd_len S B hl
      rw [hTe] at hd0 hd1 hdn t1 t2 t3 t4 hT
      have hlen := mixK_len S i k
      have hmg : (mixK S i k).getD j 0 = digAt S i j := by rw [mixK_get S i k j hjS, if_neg (by omega)]
      obtain ⟨z0, z1⟩ := dig_bd S i hone j hjS
      have hx2 : S.getD j 0 ≤ 9223372036854775807 := hmx j hjS
      obtain ⟨c1, c2, -, -, c5, f5, -⟩ := hcB.cells (j := j) (by rw [hlen]; exact hjS)
      rw [hmg] at c5
      obtain ⟨p0, hp0⟩ : ∃ p0, dot (mixK S i k) T = p0 := ⟨_, rfl⟩
      obtain ⟨t0, ht0⟩ : ∃ t0, T.getD j 0 = t0 := ⟨_, rfl⟩
      obtain ⟨x0, hx0⟩ : ∃ x0, S.getD j 0 = x0 := ⟨_, rfl⟩
      obtain ⟨d0, hd0'⟩ : ∃ d0, digAt S i j = d0 := ⟨_, rfl⟩
      rw [hp0] at hd0 hdn hcB
      rw [ht0] at hdn t1 t2 t3 t4
      rw [hx0] at t3 t4 hnx z1 hx2
      rw [hd0'] at hnx hdn z0 z1 c5
      rw [hx0]
      have hA := hcB.setV hgw hgv n1 j (d0 + 1)
      have sA := hA.srd hT n2 n3 (j := j) (by rw [hTl]; exact hjS)
      rw [ht0] at sA
      obtain ⟨a1, a2, a3, a4, a5, af5, af3⟩ := hA.cells (j := j) (by rw [List.length_set, hlen]; exact hjS)
      rw [List.getD_eq_getElem?_getD, List.getElem?_set_self (by rw [hlen]; exact hjS), Option.getD_some] at a5
      have hB := (hA.setA hgw hgv n1 (p0 + t0)).drew
      have sB := hB.srd hT n2 n3 (j := j) (by rw [hTl]; exact hjS)
      rw [ht0] at sB
      obtain ⟨b1, b2, b3, b4, b5, bf5, bf3⟩ := hB.cells (j := j) (by rw [List.length_set, hlen]; exact hjS)
      rw [List.getD_eq_getElem?_getD, List.getElem?_set_self (by rw [hlen]; exact hjS), Option.getD_some] at b5
      have HWA : Hid (∃ u, u = WB.setCell ⟨gv, j, none⟩ (.int .i64 (d0 + 1))) := ⟨_, rfl⟩
      obtain ⟨WA, hWA⟩ := HWA.out
      rw [← hWA] at hA sA a1 a2 a3 a4 a5 af5 af3 hB sB b1 b2 b3 b4 b5 bf5 bf3
      have HWA : Hid (WB.setCell ⟨gv, j, none⟩ (.int .i64 (d0 + 1)) = WA) := hWA.symm
      have hjI : (j : Int) < (n : Int) := by omega
      have hw1 : IntKind.i64.wrap (p0 + t0) = p0 + t0 := wrap_i64 (by omega) (by omega)
      have hw0 : IntKind.i64.wrap (d0 + 1) = d0 + 1 := wrap_i64 (by omega) (by omega)
      clear hWA
      by_cases h9 : d0 + 1 < x0
      · obtain ⟨e1, e2⟩ := hnx.1 h9
        have HG : Hid (∀ X, FsC w (.slice ao n cap) n (dgs S (i + 1)) (dot (dgs S (i + 1)) T) gw gv gs w.heap.size { lo' with state := .busy } X → X.heap[w.heap.size + 3]? = some (.loop { lo' with state := .busy }) ∧ Lv_ .ret (X.putObj (w.heap.size + 3) (.loop { lo' with state := .done, pending := some .ret }))) := fun X h => ⟨h.rcd, by rw [hLv]; exact h.put hgw hgv (Nat.le_refl _) _⟩
        have HF : Hid (FsC w (.slice ao n cap) n (dgs S (i + 1)) (dot (dgs S (i + 1)) T) gw gv gs w.heap.size { lo' with state := .busy } ((WA.setCell ⟨gw, 3, none⟩ (.int .i64 (p0 + t0))).drew)) := by
          show FsC _ _ _ _ _ _ _ _ _ _ _
          have := hB
          rw [e1, e2, show (d0 + 1 - d0) * t0 = t0 by rw [show d0 + 1 - d0 = 1 by omega, Int.one_mul]] at hdn
          rw [e1, e2] at hst
          rw [hst] at this
          rw [hdn]
          exact this
        clear hA hB hcB hC hGo hLv hlen hW0 h0 hJ hv0 hone hmx hnx hst hdn e1 e2 hd1 HD hT hstr hval hk hmg hTl
        subst hlo
        dsimp only [recOf] at HA HG HF hWB ⊢
        gi_wp2_with fail
        refine ⟨HA.out, ?_⟩
        (try rw [hWB])
        clear hWB HA
        gi_wp2_with fail
        rw [HWA.out]
        clear HWA c1 c2 c5 f5
        have KEEP : ∀ u, Below WA.heap.size WA u → L4.AllL u [(0, fun w' => w'.cell? ⟨w.heap.size, 0, none⟩ = some (.pointer (some ⟨gw, 0, none⟩))), (3, fun w' => w'.cell? ⟨gw, 3, none⟩ = some (.int .i64 p0)), (4, fun w' => w'.cell? ⟨w.heap.size, 0, none⟩ = some (.pointer (some ⟨gw, 0, none⟩))), (7, fun w' => w'.cell? ⟨gw, 2, none⟩ = some (.slice (some ⟨gs, 0, none⟩) n n)), (10, fun w' => w'.cell? ⟨gs, j, none⟩ = some (.int .i64 t0))] := fun u hu => ⟨keepR hu a1, keepR hu a4, keepR hu a1, keepR hu a3, keepR hu sA, trivial⟩
        apply round_cut [(0, fun w' => w'.cell? ⟨w.heap.size, 0, none⟩ = some (.pointer (some ⟨gw, 0, none⟩))), (3, fun w' => w'.cell? ⟨gw, 3, none⟩ = some (.int .i64 p0)), (4, fun w' => w'.cell? ⟨w.heap.size, 0, none⟩ = some (.pointer (some ⟨gw, 0, none⟩))), (7, fun w' => w'.cell? ⟨gw, 2, none⟩ = some (.slice (some ⟨gs, 0, none⟩) n n)), (10, fun w' => w'.cell? ⟨gs, j, none⟩ = some (.int .i64 t0))] (by kernel_rfl) (by kernel_rfl)
        case h =>
          have B : Below WA.heap.size WA WA.drew := (Below.refl _ _).drew
          obtain ⟨w1, hw1⟩ : ∃ u, u = WA.drew := ⟨_, rfl⟩
          rw [← hw1] at B ⊢
          have hHeld := KEEP _ B
          refine L4.late_take 0 (v := .pointer (some ⟨gw, 0, none⟩)) rfl (by kernel_rfl) (List.Mem.head _) (by kernel_rfl) (by kernel_rfl) (by kernel_rfl) (by kernel_rfl) (fun _ _ _ h => nomatch h.1) (Or.inl ⟨by rfl, ?_⟩) hHeld ?_
          · (intro u hu; (try dsimp only at hu); go_split_ands; go_simp)
          (try simp only [Act.put, List.setIfInBounds_toArray, List.set_cons_zero, List.set_cons_succ])
          refine L4.late_free 1 (v := .pointer (some ⟨gw, 0, none⟩)) rfl (by kernel_rfl) (by kernel_rfl) (by kernel_rfl) (by kernel_rfl) (by kernel_rfl) (by kernel_rfl) (fun _ _ _ h => nomatch h.1) (Or.inl ⟨by rfl, ?_⟩) hHeld ?_
          · (intro u _; go_simp)
          (try simp only [Act.put, List.setIfInBounds_toArray, List.set_cons_zero, List.set_cons_succ])
          refine L4.late_free 2 (v := .pointer (some ⟨gw, 3, none⟩)) rfl (by kernel_rfl) (by kernel_rfl) (by kernel_rfl) (by kernel_rfl) (by kernel_rfl) (by kernel_rfl) (fun _ _ _ h => nomatch h.1) (Or.inl ⟨by rfl, ?_⟩) hHeld ?_
          · (intro u _; go_simp)
          (try simp only [Act.put, List.setIfInBounds_toArray, List.set_cons_zero, List.set_cons_succ])
          refine L4.late_take 3 (v := .int .i64 p0) rfl (by kernel_rfl) (List.Mem.tail _ (List.Mem.head _)) (by kernel_rfl) (by kernel_rfl) (by kernel_rfl) (by kernel_rfl) (fun _ _ _ h => nomatch h.1) (Or.inl ⟨by rfl, ?_⟩) hHeld ?_
          · (intro u hu; (try dsimp only at hu); go_split_ands; go_simp)
          (try simp only [Act.put, List.setIfInBounds_toArray, List.set_cons_zero, List.set_cons_succ])
          refine L4.late_take 4 (v := .pointer (some ⟨gw, 0, none⟩)) rfl (by kernel_rfl) (List.Mem.tail _ (List.Mem.tail _ (List.Mem.head _))) (by kernel_rfl) (by kernel_rfl) (by kernel_rfl) (by kernel_rfl) (fun _ _ _ h => nomatch h.1) (Or.inl ⟨by rfl, ?_⟩) hHeld ?_
          · (intro u hu; (try dsimp only at hu); go_split_ands; go_simp)
          (try simp only [Act.put, List.setIfInBounds_toArray, List.set_cons_zero, List.set_cons_succ])
          refine L4.late_free 5 (v := .pointer (some ⟨gw, 0, none⟩)) rfl (by kernel_rfl) (by kernel_rfl) (by kernel_rfl) (by kernel_rfl) (by kernel_rfl) (by kernel_rfl) (fun _ _ _ h => nomatch h.1) (Or.inl ⟨by rfl, ?_⟩) hHeld ?_
          · (intro u _; go_simp)
          (try simp only [Act.put, List.setIfInBounds_toArray, List.set_cons_zero, List.set_cons_succ])
          refine L4.late_free 6 (v := .pointer (some ⟨gw, 2, none⟩)) rfl (by kernel_rfl) (by kernel_rfl) (by kernel_rfl) (by kernel_rfl) (by kernel_rfl) (by kernel_rfl) (fun _ _ _ h => nomatch h.1) (Or.inl ⟨by rfl, ?_⟩) hHeld ?_
          · (intro u _; go_simp)
          (try simp only [Act.put, List.setIfInBounds_toArray, List.set_cons_zero, List.set_cons_succ])
          refine L4.late_take 7 (v := .slice (some ⟨gs, 0, none⟩) n n) rfl (by kernel_rfl) (List.Mem.tail _ (List.Mem.tail _ (List.Mem.tail _ (List.Mem.head _)))) (by kernel_rfl) (by kernel_rfl) (by kernel_rfl) (by kernel_rfl) (fun _ _ _ h => nomatch h.1) (Or.inl ⟨by rfl, ?_⟩) hHeld ?_
          · (intro u hu; (try dsimp only at hu); go_split_ands; go_simp)
          (try simp only [Act.put, List.setIfInBounds_toArray, List.set_cons_zero, List.set_cons_succ])
          refine L4.late_free 8 (v := .int .i64 ((j : Nat) : Int)) rfl (by kernel_rfl) (by kernel_rfl) (by kernel_rfl) (by kernel_rfl) (by kernel_rfl) (by kernel_rfl) (fun _ _ _ h => nomatch h.1) (Or.inl ⟨by rfl, ?_⟩) hHeld ?_
          · (intro u _; go_simp)
          (try simp only [Act.put, List.setIfInBounds_toArray, List.set_cons_zero, List.set_cons_succ])
          refine L4.late_free 9 (v := .pointer (some ⟨gs, j, none⟩)) rfl (by kernel_rfl) (by kernel_rfl) (by kernel_rfl) (by kernel_rfl) (by kernel_rfl) (by kernel_rfl) (fun _ _ _ h => nomatch h.1) (Or.inl ⟨by rfl, ?_⟩) hHeld ?_
          · (intro u _; go_simp)
          (try simp only [Act.put, List.setIfInBounds_toArray, List.set_cons_zero, List.set_cons_succ])
          refine L4.late_take 10 (v := .int .i64 t0) rfl (by kernel_rfl) (List.Mem.tail _ (List.Mem.tail _ (List.Mem.tail _ (List.Mem.tail _ (List.Mem.head _))))) (by kernel_rfl) (by kernel_rfl) (by kernel_rfl) (by kernel_rfl) (fun _ _ _ h => nomatch h.1) (Or.inl ⟨by rfl, ?_⟩) hHeld ?_
          · (intro u hu; (try dsimp only at hu); go_split_ands; go_simp)
          (try simp only [Act.put, List.setIfInBounds_toArray, List.set_cons_zero, List.set_cons_succ])
          refine L4.late_free 11 (v := .int .i64 (p0 + t0)) rfl (by kernel_rfl) (by kernel_rfl) (by kernel_rfl) (by kernel_rfl) (by kernel_rfl) (by kernel_rfl) (fun _ _ _ h => nomatch h.1) (Or.inl ⟨by rfl, ?_⟩) hHeld ?_
          · (intro u _; go_simp)
          (try simp only [Act.put, List.setIfInBounds_toArray, List.set_cons_zero, List.set_cons_succ])
          refine L4.late_free 12 (v := .pointer (some ⟨gw, 0, none⟩)) rfl (by kernel_rfl) (by kernel_rfl) (by kernel_rfl) (by kernel_rfl) (by kernel_rfl) (by kernel_rfl) (fun _ _ _ h => nomatch h.1) (Or.inl ⟨by rfl, ?_⟩) hHeld ?_
          · (intro u _; go_simp)
          (try simp only [Act.put, List.setIfInBounds_toArray, List.set_cons_zero, List.set_cons_succ])
          refine L4.late_free 13 (v := .pointer (some ⟨gw, 3, none⟩)) rfl (by kernel_rfl) (by kernel_rfl) (by kernel_rfl) (by kernel_rfl) (by kernel_rfl) (by kernel_rfl) (fun _ _ _ h => nomatch h.1) (Or.inl ⟨by rfl, ?_⟩) hHeld ?_
          · (intro u _; go_simp)
          (try simp only [Act.put, List.setIfInBounds_toArray, List.set_cons_zero, List.set_cons_succ])
          refine L4.late_step 14 (by kernel_rfl) rfl (fun K hK => ?_)
          have cS := keepR B a4
          have fS : w1.frozen? ⟨gw, 3, none⟩ = false := by rw [hw1]; exact af3
          go_simp
          refine hK.out _ _ ⟨Or.inl ⟨14, by kernel_rfl, by kernel_rfl⟩, Or.inl ⟨14, by kernel_rfl, by kernel_rfl⟩, Or.inl ⟨14, by kernel_rfl, by kernel_rfl⟩, Or.inl ⟨14, by kernel_rfl, by kernel_rfl⟩, Or.inl ⟨14, by kernel_rfl, by kernel_rfl⟩, trivial⟩ ?_
          clear hK K
          (try simp only [Act.put, List.setIfInBounds_toArray, List.set_cons_zero, List.set_cons_succ])
          refine L4.late_done (by kernel_rfl) ?_ _
          subst hw1
          exact ⟨rfl, rfl, rfl⟩
        case k =>
          clear KEEP a1 a2 a3 a4 a5 sA
          generalize (WA.setCell ⟨gw, 3, none⟩ (.int .i64 (p0 + t0))).drew = WX at *
          gi_wp2
          exact HG.out _ HF.out
      · obtain ⟨e0, e1, e2⟩ := hnx.2 (by omega)
        have hE := (hB.setV hgw hgv n1 j 0)
        have sE := hE.srd hT n2 n3 (j := j) (by rw [hTl]; exact hjS)
        rw [ht0] at sE
        obtain ⟨q1, q2, q3, q4, -, -, qf3⟩ := hE.cells (j := j) (by rw [List.length_set, List.length_set, hlen]; exact hjS)
        have hH := (hE.setA hgw hgv n1 (p0 + t0 - x0 * t0)).drew
        have HG : Hid (∀ X, FsC w (.slice ao n cap) n (mixK S i (k + 1)) (dot (mixK S i (k + 1)) T) gw gv gs w.heap.size { lo' with state := .busy } X → X.heap[w.heap.size + 3]? = some (.loop { lo' with state := .busy }) ∧ Go_ (X.putObj (w.heap.size + 3) (.loop lo'))) := fun X h => ⟨h.rcd, by rw [hGo]; exact ⟨e2, h.put hgw hgv (Nat.le_refl _) _⟩⟩
        have HF : Hid (FsC w (.slice ao n cap) n (mixK S i (k + 1)) (dot (mixK S i (k + 1)) T) gw gv gs w.heap.size { lo' with state := .busy } (((((WA.setCell ⟨gw, 3, none⟩ (.int .i64 (p0 + t0))).drew).setCell ⟨gv, j, none⟩ (.int .i64 0)).setCell ⟨gw, 3, none⟩ (.int .i64 (p0 + t0 - x0 * t0))).drew)) := by
          show FsC _ _ _ _ _ _ _ _ _ _ _
          have := hH
          have e7 : dot (mixK S i (k + 1)) T = p0 + t0 - x0 * t0 := by
            rw [hdn, e1, ← e0, Int.add_mul, Int.one_mul, show (0 : Int) - d0 = -d0 by omega, Int.neg_mul]; omega
          rw [e1] at hst
          rw [List.set_set, hst] at this
          rw [e7]
          exact this
        have hw2 : IntKind.i64.wrap (x0 * t0) = x0 * t0 := wrap_i64 (by omega) (by omega)
        have hw3 : IntKind.i64.wrap (p0 + t0 - x0 * t0) = p0 + t0 - x0 * t0 := wrap_i64 (by omega) (by omega)
        have HQ : Hid (((((WA.setCell ⟨gw, 3, none⟩ (.int .i64 (p0 + t0))).drew).setCell ⟨gv, j, none⟩ (.int .i64 0)).cell? ⟨w.heap.size, 0, none⟩ = some (.pointer (some ⟨gw, 0, none⟩))) ∧ ((((WA.setCell ⟨gw, 3, none⟩ (.int .i64 (p0 + t0))).drew).setCell ⟨gv, j, none⟩ (.int .i64 0)).cell? ⟨gw, 2, none⟩ = some (.slice (some ⟨gs, 0, none⟩) n n)) ∧ ((((WA.setCell ⟨gw, 3, none⟩ (.int .i64 (p0 + t0))).drew).setCell ⟨gv, j, none⟩ (.int .i64 0)).cell? ⟨gw, 3, none⟩ = some (.int .i64 (p0 + t0))) ∧ ((((WA.setCell ⟨gw, 3, none⟩ (.int .i64 (p0 + t0))).drew).setCell ⟨gv, j, none⟩ (.int .i64 0)).cell? ⟨gs, j, none⟩ = some (.int .i64 t0)) ∧ (((WA.setCell ⟨gw, 3, none⟩ (.int .i64 (p0 + t0))).drew).setCell ⟨gv, j, none⟩ (.int .i64 0)).frozen? ⟨gw, 3, none⟩ = false) := ⟨q1, q3, q4, sE, qf3⟩
        clear hA hB hE hH hcB hC hGo hLv hlen hW0 h0 hJ hv0 hone hmx hnx hst hdn e0 e1 e2 hd1 HD hT hstr hval hk hmg hTl q1 q2 q3 q4 sE qf3
        subst hlo
        dsimp only [recOf] at HA HG HF hWB ⊢
        gi_wp2_with fail
        refine ⟨HA.out, ?_⟩
        (try rw [hWB])
        clear hWB HA
        gi_wp2_with fail
        rw [HWA.out]
        clear HWA c1 c2 c5 f5
        have KEEP : ∀ u, Below WA.heap.size WA u → L4.AllL u [(0, fun w' => w'.cell? ⟨w.heap.size, 0, none⟩ = some (.pointer (some ⟨gw, 0, none⟩))), (3, fun w' => w'.cell? ⟨gw, 3, none⟩ = some (.int .i64 p0)), (4, fun w' => w'.cell? ⟨w.heap.size, 0, none⟩ = some (.pointer (some ⟨gw, 0, none⟩))), (7, fun w' => w'.cell? ⟨gw, 2, none⟩ = some (.slice (some ⟨gs, 0, none⟩) n n)), (10, fun w' => w'.cell? ⟨gs, j, none⟩ = some (.int .i64 t0))] := fun u hu => ⟨keepR hu a1, keepR hu a4, keepR hu a1, keepR hu a3, keepR hu sA, trivial⟩
        apply round_cut [(0, fun w' => w'.cell? ⟨w.heap.size, 0, none⟩ = some (.pointer (some ⟨gw, 0, none⟩))), (3, fun w' => w'.cell? ⟨gw, 3, none⟩ = some (.int .i64 p0)), (4, fun w' => w'.cell? ⟨w.heap.size, 0, none⟩ = some (.pointer (some ⟨gw, 0, none⟩))), (7, fun w' => w'.cell? ⟨gw, 2, none⟩ = some (.slice (some ⟨gs, 0, none⟩) n n)), (10, fun w' => w'.cell? ⟨gs, j, none⟩ = some (.int .i64 t0))] (by kernel_rfl) (by kernel_rfl)
        case h =>
          have B : Below WA.heap.size WA WA.drew := (Below.refl _ _).drew
          obtain ⟨w2, hw2⟩ : ∃ u, u = WA.drew := ⟨_, rfl⟩
          rw [← hw2] at B ⊢
          have hHeld := KEEP _ B
          refine L4.late_take 0 (v := .pointer (some ⟨gw, 0, none⟩)) rfl (by kernel_rfl) (List.Mem.head _) (by kernel_rfl) (by kernel_rfl) (by kernel_rfl) (by kernel_rfl) (fun _ _ _ h => nomatch h.1) (Or.inl ⟨by rfl, ?_⟩) hHeld ?_
          · (intro u hu; (try dsimp only at hu); go_split_ands; go_simp)
          (try simp only [Act.put, List.setIfInBounds_toArray, List.set_cons_zero, List.set_cons_succ])
          refine L4.late_free 1 (v := .pointer (some ⟨gw, 0, none⟩)) rfl (by kernel_rfl) (by kernel_rfl) (by kernel_rfl) (by kernel_rfl) (by kernel_rfl) (by kernel_rfl) (fun _ _ _ h => nomatch h.1) (Or.inl ⟨by rfl, ?_⟩) hHeld ?_
          · (intro u _; go_simp)
          (try simp only [Act.put, List.setIfInBounds_toArray, List.set_cons_zero, List.set_cons_succ])
          refine L4.late_free 2 (v := .pointer (some ⟨gw, 3, none⟩)) rfl (by kernel_rfl) (by kernel_rfl) (by kernel_rfl) (by kernel_rfl) (by kernel_rfl) (by kernel_rfl) (fun _ _ _ h => nomatch h.1) (Or.inl ⟨by rfl, ?_⟩) hHeld ?_
          · (intro u _; go_simp)
          (try simp only [Act.put, List.setIfInBounds_toArray, List.set_cons_zero, List.set_cons_succ])
          refine L4.late_take 3 (v := .int .i64 p0) rfl (by kernel_rfl) (List.Mem.tail _ (List.Mem.head _)) (by kernel_rfl) (by kernel_rfl) (by kernel_rfl) (by kernel_rfl) (fun _ _ _ h => nomatch h.1) (Or.inl ⟨by rfl, ?_⟩) hHeld ?_
          · (intro u hu; (try dsimp only at hu); go_split_ands; go_simp)
          (try simp only [Act.put, List.setIfInBounds_toArray, List.set_cons_zero, List.set_cons_succ])
          refine L4.late_take 4 (v := .pointer (some ⟨gw, 0, none⟩)) rfl (by kernel_rfl) (List.Mem.tail _ (List.Mem.tail _ (List.Mem.head _))) (by kernel_rfl) (by kernel_rfl) (by kernel_rfl) (by kernel_rfl) (fun _ _ _ h => nomatch h.1) (Or.inl ⟨by rfl, ?_⟩) hHeld ?_
          · (intro u hu; (try dsimp only at hu); go_split_ands; go_simp)
          (try simp only [Act.put, List.setIfInBounds_toArray, List.set_cons_zero, List.set_cons_succ])
          refine L4.late_free 5 (v := .pointer (some ⟨gw, 0, none⟩)) rfl (by kernel_rfl) (by kernel_rfl) (by kernel_rfl) (by kernel_rfl) (by kernel_rfl) (by kernel_rfl) (fun _ _ _ h => nomatch h.1) (Or.inl ⟨by rfl, ?_⟩) hHeld ?_
          · (intro u _; go_simp)
          (try simp only [Act.put, List.setIfInBounds_toArray, List.set_cons_zero, List.set_cons_succ])
          refine L4.late_free 6 (v := .pointer (some ⟨gw, 2, none⟩)) rfl (by kernel_rfl) (by kernel_rfl) (by kernel_rfl) (by kernel_rfl) (by kernel_rfl) (by kernel_rfl) (fun _ _ _ h => nomatch h.1) (Or.inl ⟨by rfl, ?_⟩) hHeld ?_
          · (intro u _; go_simp)
          (try simp only [Act.put, List.setIfInBounds_toArray, List.set_cons_zero, List.set_cons_succ])
          refine L4.late_take 7 (v := .slice (some ⟨gs, 0, none⟩) n n) rfl (by kernel_rfl) (List.Mem.tail _ (List.Mem.tail _ (List.Mem.tail _ (List.Mem.head _)))) (by kernel_rfl) (by kernel_rfl) (by kernel_rfl) (by kernel_rfl) (fun _ _ _ h => nomatch h.1) (Or.inl ⟨by rfl, ?_⟩) hHeld ?_
          · (intro u hu; (try dsimp only at hu); go_split_ands; go_simp)
          (try simp only [Act.put, List.setIfInBounds_toArray, List.set_cons_zero, List.set_cons_succ])
          refine L4.late_free 8 (v := .int .i64 ((j : Nat) : Int)) rfl (by kernel_rfl) (by kernel_rfl) (by kernel_rfl) (by kernel_rfl) (by kernel_rfl) (by kernel_rfl) (fun _ _ _ h => nomatch h.1) (Or.inl ⟨by rfl, ?_⟩) hHeld ?_
          · (intro u _; go_simp)
          (try simp only [Act.put, List.setIfInBounds_toArray, List.set_cons_zero, List.set_cons_succ])
          refine L4.late_free 9 (v := .pointer (some ⟨gs, j, none⟩)) rfl (by kernel_rfl) (by kernel_rfl) (by kernel_rfl) (by kernel_rfl) (by kernel_rfl) (by kernel_rfl) (fun _ _ _ h => nomatch h.1) (Or.inl ⟨by rfl, ?_⟩) hHeld ?_
          · (intro u _; go_simp)
          (try simp only [Act.put, List.setIfInBounds_toArray, List.set_cons_zero, List.set_cons_succ])
          refine L4.late_take 10 (v := .int .i64 t0) rfl (by kernel_rfl) (List.Mem.tail _ (List.Mem.tail _ (List.Mem.tail _ (List.Mem.tail _ (List.Mem.head _))))) (by kernel_rfl) (by kernel_rfl) (by kernel_rfl) (by kernel_rfl) (fun _ _ _ h => nomatch h.1) (Or.inl ⟨by rfl, ?_⟩) hHeld ?_
          · (intro u hu; (try dsimp only at hu); go_split_ands; go_simp)
          (try simp only [Act.put, List.setIfInBounds_toArray, List.set_cons_zero, List.set_cons_succ])
          refine L4.late_free 11 (v := .int .i64 (p0 + t0)) rfl (by kernel_rfl) (by kernel_rfl) (by kernel_rfl) (by kernel_rfl) (by kernel_rfl) (by kernel_rfl) (fun _ _ _ h => nomatch h.1) (Or.inl ⟨by rfl, ?_⟩) hHeld ?_
          · (intro u _; go_simp)
          (try simp only [Act.put, List.setIfInBounds_toArray, List.set_cons_zero, List.set_cons_succ])
          refine L4.late_free 12 (v := .pointer (some ⟨gw, 0, none⟩)) rfl (by kernel_rfl) (by kernel_rfl) (by kernel_rfl) (by kernel_rfl) (by kernel_rfl) (by kernel_rfl) (fun _ _ _ h => nomatch h.1) (Or.inl ⟨by rfl, ?_⟩) hHeld ?_
          · (intro u _; go_simp)
          (try simp only [Act.put, List.setIfInBounds_toArray, List.set_cons_zero, List.set_cons_succ])
          refine L4.late_free 13 (v := .pointer (some ⟨gw, 3, none⟩)) rfl (by kernel_rfl) (by kernel_rfl) (by kernel_rfl) (by kernel_rfl) (by kernel_rfl) (by kernel_rfl) (fun _ _ _ h => nomatch h.1) (Or.inl ⟨by rfl, ?_⟩) hHeld ?_
          · (intro u _; go_simp)
          (try simp only [Act.put, List.setIfInBounds_toArray, List.set_cons_zero, List.set_cons_succ])
          refine L4.late_step 14 (by kernel_rfl) rfl (fun K hK => ?_)
          have cS := keepR B a4
          have fS : w2.frozen? ⟨gw, 3, none⟩ = false := by rw [hw2]; exact af3
          go_simp
          refine hK.out _ _ ⟨Or.inl ⟨14, by kernel_rfl, by kernel_rfl⟩, Or.inl ⟨14, by kernel_rfl, by kernel_rfl⟩, Or.inl ⟨14, by kernel_rfl, by kernel_rfl⟩, Or.inl ⟨14, by kernel_rfl, by kernel_rfl⟩, Or.inl ⟨14, by kernel_rfl, by kernel_rfl⟩, trivial⟩ ?_
          clear hK K
          (try simp only [Act.put, List.setIfInBounds_toArray, List.set_cons_zero, List.set_cons_succ])
          refine L4.late_done (by kernel_rfl) ?_ _
          subst hw2
          exact ⟨rfl, rfl, rfl⟩
        case k =>
          clear KEEP a1 a2 a3 a4 a5 sA
          generalize (WA.setCell ⟨gw, 3, none⟩ (.int .i64 (p0 + t0))).drew = WX at *
          gi_wp2_with fail
          obtain ⟨WY, hWY⟩ : ∃ u, WX.setCell ⟨gv, j, none⟩ (.int .i64 0) = u := ⟨_, rfl⟩
          rw [hWY] at HF HQ ⊢
          clear hWY b1 b2 b3 b4 b5 sB
          obtain ⟨q1, q3, q4, sE, qf3⟩ := HQ.out
          have KEEP : ∀ u, Below WY.heap.size WY u → L4.AllL u [(0, fun w' => w'.cell? ⟨w.heap.size, 0, none⟩ = some (.pointer (some ⟨gw, 0, none⟩))), (3, fun w' => w'.cell? ⟨gw, 3, none⟩ = some (.int .i64 (p0 + t0))), (5, fun w' => w'.cell? ⟨w.heap.size, 0, none⟩ = some (.pointer (some ⟨gw, 0, none⟩))), (8, fun w' => w'.cell? ⟨gw, 2, none⟩ = some (.slice (some ⟨gs, 0, none⟩) n n)), (11, fun w' => w'.cell? ⟨gs, j, none⟩ = some (.int .i64 t0))] := fun u hu => ⟨keepR hu q1, keepR hu q4, keepR hu q1, keepR hu q3, keepR hu sE, trivial⟩
          apply round_cut [(0, fun w' => w'.cell? ⟨w.heap.size, 0, none⟩ = some (.pointer (some ⟨gw, 0, none⟩))), (3, fun w' => w'.cell? ⟨gw, 3, none⟩ = some (.int .i64 (p0 + t0))), (5, fun w' => w'.cell? ⟨w.heap.size, 0, none⟩ = some (.pointer (some ⟨gw, 0, none⟩))), (8, fun w' => w'.cell? ⟨gw, 2, none⟩ = some (.slice (some ⟨gs, 0, none⟩) n n)), (11, fun w' => w'.cell? ⟨gs, j, none⟩ = some (.int .i64 t0))] (by kernel_rfl) (by kernel_rfl)
          case h =>
            have B : Below WY.heap.size WY WY.drew := (Below.refl _ _).drew
            obtain ⟨w3, hw3⟩ : ∃ u, u = WY.drew := ⟨_, rfl⟩
            rw [← hw3] at B ⊢
            have hHeld := KEEP _ B
            refine L4.late_take 0 (v := .pointer (some ⟨gw, 0, none⟩)) rfl (by kernel_rfl) (List.Mem.head _) (by kernel_rfl) (by kernel_rfl) (by kernel_rfl) (by kernel_rfl) (fun _ _ _ h => nomatch h.1) (Or.inl ⟨by rfl, ?_⟩) hHeld ?_
            · (intro u hu; (try dsimp only at hu); go_split_ands; go_simp)
            (try simp only [Act.put, List.setIfInBounds_toArray, List.set_cons_zero, List.set_cons_succ])
            refine L4.late_free 1 (v := .pointer (some ⟨gw, 0, none⟩)) rfl (by kernel_rfl) (by kernel_rfl) (by kernel_rfl) (by kernel_rfl) (by kernel_rfl) (by kernel_rfl) (fun _ _ _ h => nomatch h.1) (Or.inl ⟨by rfl, ?_⟩) hHeld ?_
            · (intro u _; go_simp)
            (try simp only [Act.put, List.setIfInBounds_toArray, List.set_cons_zero, List.set_cons_succ])
            refine L4.late_free 2 (v := .pointer (some ⟨gw, 3, none⟩)) rfl (by kernel_rfl) (by kernel_rfl) (by kernel_rfl) (by kernel_rfl) (by kernel_rfl) (by kernel_rfl) (fun _ _ _ h => nomatch h.1) (Or.inl ⟨by rfl, ?_⟩) hHeld ?_
            · (intro u _; go_simp)
            (try simp only [Act.put, List.setIfInBounds_toArray, List.set_cons_zero, List.set_cons_succ])
            refine L4.late_take 3 (v := .int .i64 (p0 + t0)) rfl (by kernel_rfl) (List.Mem.tail _ (List.Mem.head _)) (by kernel_rfl) (by kernel_rfl) (by kernel_rfl) (by kernel_rfl) (fun _ _ _ h => nomatch h.1) (Or.inl ⟨by rfl, ?_⟩) hHeld ?_
            · (intro u hu; (try dsimp only at hu); go_split_ands; go_simp)
            (try simp only [Act.put, List.setIfInBounds_toArray, List.set_cons_zero, List.set_cons_succ])
            refine L4.late_free 4 (v := .int .i64 x0) rfl (by kernel_rfl) (by kernel_rfl) (by kernel_rfl) (by kernel_rfl) (by kernel_rfl) (by kernel_rfl) (fun _ _ _ h => nomatch h.1) (Or.inl ⟨by rfl, ?_⟩) hHeld ?_
            · (intro u _; go_simp)
            (try simp only [Act.put, List.setIfInBounds_toArray, List.set_cons_zero, List.set_cons_succ])
            refine L4.late_take 5 (v := .pointer (some ⟨gw, 0, none⟩)) rfl (by kernel_rfl) (List.Mem.tail _ (List.Mem.tail _ (List.Mem.head _))) (by kernel_rfl) (by kernel_rfl) (by kernel_rfl) (by kernel_rfl) (fun _ _ _ h => nomatch h.1) (Or.inl ⟨by rfl, ?_⟩) hHeld ?_
            · (intro u hu; (try dsimp only at hu); go_split_ands; go_simp)
            (try simp only [Act.put, List.setIfInBounds_toArray, List.set_cons_zero, List.set_cons_succ])
            refine L4.late_free 6 (v := .pointer (some ⟨gw, 0, none⟩)) rfl (by kernel_rfl) (by kernel_rfl) (by kernel_rfl) (by kernel_rfl) (by kernel_rfl) (by kernel_rfl) (fun _ _ _ h => nomatch h.1) (Or.inl ⟨by rfl, ?_⟩) hHeld ?_
            · (intro u _; go_simp)
            (try simp only [Act.put, List.setIfInBounds_toArray, List.set_cons_zero, List.set_cons_succ])
            refine L4.late_free 7 (v := .pointer (some ⟨gw, 2, none⟩)) rfl (by kernel_rfl) (by kernel_rfl) (by kernel_rfl) (by kernel_rfl) (by kernel_rfl) (by kernel_rfl) (fun _ _ _ h => nomatch h.1) (Or.inl ⟨by rfl, ?_⟩) hHeld ?_
            · (intro u _; go_simp)
            (try simp only [Act.put, List.setIfInBounds_toArray, List.set_cons_zero, List.set_cons_succ])
            refine L4.late_take 8 (v := .slice (some ⟨gs, 0, none⟩) n n) rfl (by kernel_rfl) (List.Mem.tail _ (List.Mem.tail _ (List.Mem.tail _ (List.Mem.head _)))) (by kernel_rfl) (by kernel_rfl) (by kernel_rfl) (by kernel_rfl) (fun _ _ _ h => nomatch h.1) (Or.inl ⟨by rfl, ?_⟩) hHeld ?_
            · (intro u hu; (try dsimp only at hu); go_split_ands; go_simp)
            (try simp only [Act.put, List.setIfInBounds_toArray, List.set_cons_zero, List.set_cons_succ])
            refine L4.late_free 9 (v := .int .i64 ((j : Nat) : Int)) rfl (by kernel_rfl) (by kernel_rfl) (by kernel_rfl) (by kernel_rfl) (by kernel_rfl) (by kernel_rfl) (fun _ _ _ h => nomatch h.1) (Or.inl ⟨by rfl, ?_⟩) hHeld ?_
            · (intro u _; go_simp)
            (try simp only [Act.put, List.setIfInBounds_toArray, List.set_cons_zero, List.set_cons_succ])
            refine L4.late_free 10 (v := .pointer (some ⟨gs, j, none⟩)) rfl (by kernel_rfl) (by kernel_rfl) (by kernel_rfl) (by kernel_rfl) (by kernel_rfl) (by kernel_rfl) (fun _ _ _ h => nomatch h.1) (Or.inl ⟨by rfl, ?_⟩) hHeld ?_
            · (intro u _; go_simp)
            (try simp only [Act.put, List.setIfInBounds_toArray, List.set_cons_zero, List.set_cons_succ])
            refine L4.late_take 11 (v := .int .i64 t0) rfl (by kernel_rfl) (List.Mem.tail _ (List.Mem.tail _ (List.Mem.tail _ (List.Mem.tail _ (List.Mem.head _))))) (by kernel_rfl) (by kernel_rfl) (by kernel_rfl) (by kernel_rfl) (fun _ _ _ h => nomatch h.1) (Or.inl ⟨by rfl, ?_⟩) hHeld ?_
            · (intro u hu; (try dsimp only at hu); go_split_ands; go_simp)
            (try simp only [Act.put, List.setIfInBounds_toArray, List.set_cons_zero, List.set_cons_succ])
            refine L4.late_free 12 (v := .int .i64 (x0 * t0)) rfl (by kernel_rfl) (by kernel_rfl) (by kernel_rfl) (by kernel_rfl) (by kernel_rfl) (by kernel_rfl) (fun _ _ _ h => nomatch h.1) (Or.inl ⟨by rfl, ?_⟩) hHeld ?_
            · (intro u _; go_simp)
            (try simp only [Act.put, List.setIfInBounds_toArray, List.set_cons_zero, List.set_cons_succ])
            refine L4.late_free 13 (v := .int .i64 (p0 + t0 - x0 * t0)) rfl (by kernel_rfl) (by kernel_rfl) (by kernel_rfl) (by kernel_rfl) (by kernel_rfl) (by kernel_rfl) (fun _ _ _ h => nomatch h.1) (Or.inl ⟨by rfl, ?_⟩) hHeld ?_
            · (intro u _; go_simp)
            (try simp only [Act.put, List.setIfInBounds_toArray, List.set_cons_zero, List.set_cons_succ])
            refine L4.late_free 14 (v := .pointer (some ⟨gw, 0, none⟩)) rfl (by kernel_rfl) (by kernel_rfl) (by kernel_rfl) (by kernel_rfl) (by kernel_rfl) (by kernel_rfl) (fun _ _ _ h => nomatch h.1) (Or.inl ⟨by rfl, ?_⟩) hHeld ?_
            · (intro u _; go_simp)
            (try simp only [Act.put, List.setIfInBounds_toArray, List.set_cons_zero, List.set_cons_succ])
            refine L4.late_free 15 (v := .pointer (some ⟨gw, 3, none⟩)) rfl (by kernel_rfl) (by kernel_rfl) (by kernel_rfl) (by kernel_rfl) (by kernel_rfl) (by kernel_rfl) (fun _ _ _ h => nomatch h.1) (Or.inl ⟨by rfl, ?_⟩) hHeld ?_
            · (intro u _; go_simp)
            (try simp only [Act.put, List.setIfInBounds_toArray, List.set_cons_zero, List.set_cons_succ])
            refine L4.late_step 16 (by kernel_rfl) rfl (fun K hK => ?_)
            have cS := keepR B q4
            have fS : w3.frozen? ⟨gw, 3, none⟩ = false := by rw [hw3]; exact qf3
            go_simp
            refine hK.out _ _ ⟨Or.inl ⟨16, by kernel_rfl, by kernel_rfl⟩, Or.inl ⟨16, by kernel_rfl, by kernel_rfl⟩, Or.inl ⟨16, by kernel_rfl, by kernel_rfl⟩, Or.inl ⟨16, by kernel_rfl, by kernel_rfl⟩, Or.inl ⟨16, by kernel_rfl, by kernel_rfl⟩, trivial⟩ ?_
            clear hK K
            (try simp only [Act.put, List.setIfInBounds_toArray, List.set_cons_zero, List.set_cons_succ])
            refine L4.late_done (by kernel_rfl) ?_ _
            subst hw3
            exact ⟨rfl, rfl, rfl⟩
          case k =>
            clear KEEP q1 q3 q4 sE
            generalize (WY.setCell ⟨gw, 3, none⟩ (.int .i64 (p0 + t0 - x0 * t0))).drew = WZ at *
            gi_wp2
            exact HG.out _ HF.out
  case done =>
    rintro W2 lo ⟨lo2, hC⟩ hdf hlt
    rw [hsz0] at hdf hlt ⊢
    have h4 := hC.put hgw hgv (Nat.le_refl _) lo
    show Exit.inBlock 0 _ _ _ (W2.putObj (w.heap.size + 3) (.loop lo))
    generalize W2.putObj (w.heap.size + 3) (.loop lo) = W3 at *
    have hdf3 := h4.dfr
    have HR : Hid (FsC w (.slice ao n cap) n (dgs S (i + 1)) (dot (dgs S (i + 1)) T) gw gv gs w.heap.size lo W3) := h4
    clear hC hdf hlt h4
    gi_wp2
    refine ⟨by simp, .inl ⟨_, _, rfl, run_takeDeferred hdf3, ?_⟩⟩
    refine ⟨_, results_none rfl _ _ _, ⟨_, rfl⟩, ⟨?_, ?_, ?_⟩, ?_⟩
    · rw [World.putObj_heap_other (by omega), HN.out, hTe]; exact HR.out.str
    · rw [World.putObj_heap_other (by omega)]; exact HR.out.val
    · have hgs : gs < w.heap.size := (Array.getElem?_eq_some_iff.1 hT).1
      rw [World.putObj_heap_other (by omega), HR.out.oth.block gs hgs n2 n3]; exact hT
    · exact HR.out.oth.put (by omega) _
  case stop =>
    rintro W2 lo c ⟨rfl, lo2, hC⟩ hdf hlt
    rw [hsz0] at hdf hlt ⊢
    have h4 := hC.put hgw hgv (Nat.le_refl _) lo
    skip
    generalize W2.putObj (w.heap.size + 3) (.loop lo) = W3 at *
    have hdf3 := h4.dfr
    have HR : Hid (FsC w (.slice ao n cap) n (dgs S (i + 1)) (dot (dgs S (i + 1)) T) gw gv gs w.heap.size lo W3) := h4
    clear hC hdf hlt h4
    gi_wp2
    refine ⟨by simp, .inl ⟨_, _, rfl, run_takeDeferred hdf3, ?_⟩⟩
    refine ⟨_, results_none rfl _ _ _, ⟨_, rfl⟩, ⟨?_, ?_, ?_⟩, ?_⟩
    · rw [World.putObj_heap_other (by omega), HN.out, hTe]; exact HR.out.str
    · rw [World.putObj_heap_other (by omega)]; exact HR.out.val
    · have hgs : gs < w.heap.size := (Array.getElem?_eq_some_iff.1 hT).1
      rw [World.putObj_heap_other (by omega), HR.out.oth.block gs hgs n2 n3]; exact hT
    · exact HR.out.oth.put (by omega) _
end Go.Proofs.Ytjlmignafhhjhaa
